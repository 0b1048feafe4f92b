/-
  Proved here: the law's asked at one type.
-/
import Derived.Test.YtfanomoijjjcmaaRadK
namespace Go.Proofs.Ytfanomoijjjcmaa
open Go.RowKit Go.Shelf

set_option maxRecDepth 100000 in
set_option maxHeartbeats 12800000 in
theorem askedJ (v u : Value) (ss ds : List Int) (a : Int) (w : World) (hv : RK .i32 w v ss) (hu : RK .i32 w u ds) (hzs : ss.length ≤ 17592186043904) (hzd : ds.length ≤ 17592186043904) (ha1 : -9223372036854775808 ≤ a) (ha2 : a ≤ 9223372036854775807) :
    Calls Try.prog 14 #[v, u, .int .i64 a] w fun e w' => e = .returned (.bool true) ∧ Below w.heap.size w w' := by
  have hins := hv.inK
  have hind := hu.inK
  have h77 : IntKind.i32.min ≤ 77 ∧ 77 ≤ IntKind.i32.max := by decide
  have hiss : inK .i64 ss := inK_i64 hins (by decide) (by decide)
  have hids : inK .i64 ds := inK_i64 hind (by decide) (by decide)
  have hidl : inK .i32 (dgl ss a) := dgl_inK hins (by decide)
  have hidl64 : inK .i64 (dgl ss a) := inK_i64 hidl (by decide) (by decide)
  have hdl := dgl_len ss a
  obtain ⟨i0, hi, hz0, hz1, hz2⟩ := info_parts Try.infoJ
  have HIS : Hid (inK .i32 ss ∧ inK .i32 ds ∧ inK .i64 ss ∧ inK .i64 ds ∧ inK .i32 (dgl ss a) ∧ inK .i64 (dgl ss a) ∧ IntKind.i32.min ≤ 77 ∧ 77 ≤ IntKind.i32.max) := ⟨hins, hind, hiss, hids, hidl, hidl64, h77⟩
  clear hins hind hiss hids hidl hidl64 h77
  have hsv : ∃ vo vn vc, v = .slice vo vn vc := by obtain ⟨x, y, e, _⟩ := hv; exact ⟨_, _, _, e⟩
  have hsu : ∃ vo vn vc, u = .slice vo vn vc := by obtain ⟨x, y, e, _⟩ := hu; exact ⟨_, _, _, e⟩
  obtain ⟨vo, vn, vc, rfl⟩ := hsv
  obtain ⟨uo, un, uc, rfl⟩ := hsu
  have hvw := hv
  have huw := hu
  go_enter Try.func14, Try.ntmps14
  go_wp2_with fail
  refine (roomyJ _ ss w hv hzs).mono ?_
  rintro e w1 ⟨s, rfl, hS, b⟩
  have hB := b
  replace hv := hv.below (Nat.le_refl _) b
  replace hu := hu.below (Nat.le_refl _) b
  clear b
  obtain ⟨gs, cs, rfl, -⟩ := id hS
  go_wp2_with fail
  refine (roomyJ _ ds w1 hu hzd).mono ?_
  rintro e w2 ⟨d, rfl, hD, b⟩
  replace hB := bstepR hB b
  replace hv := hv.below (Nat.le_refl _) b
  replace hu := hu.below (Nat.le_refl _) b
  replace hS := hS.below b
  clear b
  obtain ⟨gd, cd, rfl, -⟩ := id hD
  go_wp2_with fail
  refine (countJ _ ss w2 (hS.rk HIS.out.1 HIS.out.2.2.2.2.2.2)).mono ?_
  rintro e w3 ⟨rfl, q, rfl⟩
  have b := below_drewR (Below.refl w2.heap.size w2) q
  generalize w2.drewN q = w3 at *
  replace hB := bstepR hB b
  replace hv := hv.below (Nat.le_refl _) b
  replace hu := hu.below (Nat.le_refl _) b
  replace hS := hS.below b
  replace hD := hD.below b
  clear b
  go_wp2_with fail
  refine (plainJ _ ss w3 hv hzs).mono ?_
  rintro e w4 ⟨p, rfl, op, b⟩
  replace hB := bstepR hB b
  replace hv := hv.below (Nat.le_refl _) b
  replace hu := hu.below (Nat.le_refl _) b
  replace hS := hS.below b
  replace hD := hD.below b
  have rp := RK.of_own op HIS.out.2.2.1
  obtain ⟨po, pc, rfl, -⟩ := op.sl
  clear b op
  go_wp2_with fail
  refine (refCount _ ss w4 rp).mono ?_
  rintro e w5 ⟨rfl, q, rfl⟩
  have b := below_drewR (Below.refl w4.heap.size w4) q
  generalize w4.drewN q = w5 at *
  replace hB := bstepR hB b
  replace hv := hv.below (Nat.le_refl _) b
  replace hu := hu.below (Nat.le_refl _) b
  replace hS := hS.below b
  replace hD := hD.below b
  clear b
  clear rp
  go_wp2_with fail
  refine (atJ _ _ ss ds w5 (hS.rk HIS.out.1 HIS.out.2.2.2.2.2.2) (hD.rk HIS.out.2.1 HIS.out.2.2.2.2.2.2)).mono ?_
  rintro e w6 ⟨rfl, q, rfl⟩
  have b := below_drewR (Below.refl w5.heap.size w5) q
  generalize w5.drewN q = w6 at *
  replace hB := bstepR hB b
  replace hv := hv.below (Nat.le_refl _) b
  replace hu := hu.below (Nat.le_refl _) b
  replace hS := hS.below b
  replace hD := hD.below b
  clear b
  go_wp2_with fail
  refine (plainJ _ ss w6 hv hzs).mono ?_
  rintro e w7 ⟨p, rfl, op, b⟩
  replace hB := bstepR hB b
  replace hv := hv.below (Nat.le_refl _) b
  replace hu := hu.below (Nat.le_refl _) b
  replace hS := hS.below b
  replace hD := hD.below b
  have rp := RK.of_own op HIS.out.2.2.1
  obtain ⟨po, pc, rfl, -⟩ := op.sl
  clear b op
  go_wp2_with fail
  refine (plainJ _ ds w7 hu hzd).mono ?_
  rintro e w8 ⟨p2, rfl, op2, b⟩
  replace hB := bstepR hB b
  replace hv := hv.below (Nat.le_refl _) b
  replace hu := hu.below (Nat.le_refl _) b
  replace hS := hS.below b
  replace hD := hD.below b
  replace rp := rp.below (Nat.le_refl _) b
  have rp2 := RK.of_own op2 HIS.out.2.2.2.1
  obtain ⟨po2, pc2, rfl, -⟩ := op2.sl
  clear b op2
  go_wp2_with fail
  refine (refAt _ _ ss ds w8 rp rp2).mono ?_
  rintro e w9 ⟨rfl, q, rfl⟩
  have b := below_drewR (Below.refl w8.heap.size w8) q
  generalize w8.drewN q = w9 at *
  replace hB := bstepR hB b
  replace hv := hv.below (Nat.le_refl _) b
  replace hu := hu.below (Nat.le_refl _) b
  replace hS := hS.below b
  replace hD := hD.below b
  clear b
  clear rp rp2
  have hnE : (cntE ss != cntE ss) = false := by simp
  have hnN : (cntN ss != cntN ss) = false := by simp
  have haE : (atE ss ds != atE ss ds) = false := by simp
  have haN : (atN ss ds != atN ss ds) = false := by simp
  have hgs := hS.lt
  have hgd := hD.lt
  have hgv := hv.room
  have hgu := hu.room
  have HG : Hid ((∀ b, Value.ownBlock (.slice (some ⟨gs, 0, none⟩) ss.length cs) = some b → b < w9.heap.size) ∧ (∀ b, Value.ownBlock (.slice (some ⟨gd, 0, none⟩) ds.length cd) = some b → b < w9.heap.size) ∧ (0 < ss.length → ∀ b, Value.ownBlock (.slice vo vn vc) = some b → b < w9.heap.size) ∧ (0 < ds.length → ∀ b, Value.ownBlock (.slice uo un uc) = some b → b < w9.heap.size)) := ⟨hgs, hgd, hgv, hgu⟩
  clear hgs hgd hgv hgu
  have hz9 := hB.size
  go_wp2_with fail
  refine (digitsJ _ ss a w9 (hS.rk HIS.out.1 HIS.out.2.2.2.2.2.2) (by omega) ha1 ha2).mono ?_
  intro e w10 hdg
  obtain ⟨ao, ac, rfl, hA, b⟩ := hdg.all (by omega)
  replace hB := bstepR hB b
  replace hv := hv.below (Nat.le_refl _) b
  replace hu := hu.below (Nat.le_refl _) b
  replace hS := hS.below b
  replace hD := hD.below b
  have hz10 := b.size
  have hAlt := World.ownsRow.lt hA
  clear b hdg
  go_wp2_with fail
  refine (digitsJ _ ss a w10 (hS.rk HIS.out.1 HIS.out.2.2.2.2.2.2) (by omega) ha1 ha2).mono ?_
  intro e w11 hdg
  obtain ⟨bo, bc, rfl, hBo, b⟩ := hdg.all (by omega)
  replace hB := bstepR hB b
  replace hv := hv.below (Nat.le_refl _) b
  replace hu := hu.below (Nat.le_refl _) b
  replace hS := hS.below b
  replace hD := hD.below b
  replace hA := hA.below b
  have hz11 := b.size
  have hBlt := World.ownsRow.lt hBo
  have rb := RK.of_own hBo HIS.out.2.2.2.2.1
  clear b hdg hBo
  go_wp2_with fail
  refine (plainJ _ ss w11 hv hzs).mono ?_
  rintro e w12 ⟨p, rfl, op, b⟩
  replace hB := bstepR hB b
  replace hv := hv.below (Nat.le_refl _) b
  replace hu := hu.below (Nat.le_refl _) b
  replace hS := hS.below b
  replace hD := hD.below b
  replace hA := hA.below b
  replace rb := rb.below (Nat.le_refl _) b
  have hz12 := b.size
  have rp := RK.of_own op HIS.out.2.2.1
  obtain ⟨po, pc, rfl, -⟩ := op.sl
  clear b op
  go_wp2_with fail
  refine (refDigits _ ss a w12 rp (by omega) ha1 ha2).mono ?_
  intro e w13 hdg
  obtain ⟨co, cc, rfl, hCo, b⟩ := hdg.all (by omega)
  replace hB := bstepR hB b
  replace hv := hv.below (Nat.le_refl _) b
  replace hu := hu.below (Nat.le_refl _) b
  replace hS := hS.below b
  replace hD := hD.below b
  replace hA := hA.below b
  replace rb := rb.below (Nat.le_refl _) b
  have hz13 := b.size
  have hClt := World.ownsRow.lt hCo
  have rc := RK.of_own hCo HIS.out.2.2.2.2.2.1
  clear b hdg hCo rp
  have hdE : (dgE ss a != dgE ss a) = false := by simp
  -- the blocks are apart
  have HAP : Hid (∀ g, Value.ownBlock (.slice ao (dgl ss a).length ac) = some g → (∀ b, Value.ownBlock (.slice (some ⟨gs, 0, none⟩) ss.length cs) = some b → b ≠ g) ∧ (∀ b, Value.ownBlock (.slice (some ⟨gd, 0, none⟩) ds.length cd) = some b → b ≠ g) ∧ (0 < ss.length → ∀ b, Value.ownBlock (.slice vo vn vc) = some b → b ≠ g) ∧ (0 < ds.length → ∀ b, Value.ownBlock (.slice uo un uc) = some b → b ≠ g) ∧ (∀ b, Value.ownBlock (.slice bo (dgl ss a).length bc) = some b → b ≠ g) ∧ (∀ b, Value.ownBlock (.slice co (dgl ss a).length cc) = some b → b ≠ g)) := fun g hg => by
    obtain ⟨h1, h2, h3, h4⟩ := HG.out
    have h5 := hAlt g hg
    exact ⟨fun b hb => by have := h1 b hb; omega, fun b hb => by have := h2 b hb; omega, fun h0 b hb => by have := h3 h0 b hb; omega, fun h0 b hb => by have := h4 h0 b hb; omega, fun b hb => by have := hBlt b hb; omega, fun b hb => by have := hClt b hb; omega⟩
  have HAW : Hid (∀ g, Value.ownBlock (.slice ao (dgl ss a).length ac) = some g → w.heap.size ≤ g) := fun g hg => by have := hAlt g hg; have := hB.size; omega
  have hzz : w9.heap.size ≤ w13.heap.size := by omega
  clear HG hAlt hBlt hClt hz10 hz11 hz12 hz13 hz9
  have ra := RK.of_own hA HIS.out.2.2.2.2.1
  go_wp2_with fail
  refine (sameJ _ _ (dgl ss a) w13 ra rc).mono ?_
  rintro e w14 ⟨rfl, q, rfl⟩
  have b := below_drewR (Below.refl w13.heap.size w13) q
  generalize w13.drewN q = w14 at *
  replace hB := bstepR hB b
  replace hv := hv.below (Nat.le_refl _) b
  replace hu := hu.below (Nat.le_refl _) b
  replace hS := hS.below b
  replace hD := hD.below b
  replace hA := hA.below b
  replace rb := rb.below (Nat.le_refl _) b
  replace rc := rc.below (Nat.le_refl _) b
  replace hzz := Nat.le_trans hzz b.size
  clear b ra
  go_wp2_with fail
  refine (sameJ _ _ (dgl ss a) w14 rb rc).mono ?_
  rintro e w15 ⟨rfl, q, rfl⟩
  have b := below_drewR (Below.refl w14.heap.size w14) q
  generalize w14.drewN q = w15 at *
  replace hB := bstepR hB b
  replace hv := hv.below (Nat.le_refl _) b
  replace hu := hu.below (Nat.le_refl _) b
  replace hS := hS.below b
  replace hD := hD.below b
  replace hA := hA.below b
  replace rb := rb.below (Nat.le_refl _) b
  replace rc := rc.below (Nat.le_refl _) b
  replace hzz := Nat.le_trans hzz b.size
  clear b
  obtain ⟨B0, hB0⟩ : ∃ B0, w9.heap.size = B0 := ⟨_, rfl⟩
  rw [hB0] at hA hzz
  obtain ⟨m, hm⟩ : ∃ m, (dgl ss a).length = m := ⟨_, rfl⟩
  have HM : Hid ((dgl ss a).length = m) := hm
  have hm44 : m ≤ 17592186043904 := by omega
  obtain ⟨ao', ac', e0, hAg, -, -, -⟩ := hA.sl
  rw [hm] at hA hAg HAP HAW rb rc ⊢
  simp only [Value.slice.injEq, true_and] at e0
  have hAg' : 0 < m → ∃ g, ao = some ⟨g, 0, none⟩ := fun h => by
    obtain ⟨g, _, h2⟩ := hAg h; rw [e0.1]; exact ⟨g, h2⟩
  have HAG : Hid (0 < m → ∃ g, ao = some ⟨g, 0, none⟩) := hAg'
  have HV : Hid (RK .i32 w15 (.slice vo vn vc) ss ∧ RK .i32 w15 (.slice uo un uc) ds) := ⟨hv, hu⟩
  have HSD : Hid (RoomK .i32 w.heap.size 21 w15 (.slice (some ⟨gs, 0, none⟩) ss.length cs) ss ∧ RoomK .i32 w1.heap.size 21 w15 (.slice (some ⟨gd, 0, none⟩) ds.length cd) ds) := ⟨hS, hD⟩
  have HRB : Hid (RK .i32 w15 (.slice bo m bc) (dgl ss a) ∧ RK .i64 w15 (.slice co m cc) (dgl ss a)) := ⟨rb, rc⟩
  have HB15 : Hid (Below w.heap.size w w15) := hB
  have HZD : Hid (ss.length ≤ 17592186043904 ∧ ds.length ≤ 17592186043904) := ⟨hzs, hzd⟩
  clear hv hu hS hD rb rc hB hm hAg hAg' e0 hB0 hvw huw HIS hdl hzs hzd
  go_wp2
  go_loopw [23] (fun t wr => ∃ i : Nat, i ≤ m ∧ t = .int .i64 i ∧ (∃ L : List Int, L.length = m ∧ OwnK .i32 B0 21 wr (.slice ao m ac) L) ∧ w15.grownBy wr (Value.ownBlock (.slice ao m ac))) (fun t _ => m - (intOf t).toNat)
  case atStart => exact ⟨0, Nat.zero_le _, rfl, ⟨_, HM.out, hA⟩, grown_refl _ _⟩
  case round =>
    clear hA
    obtain ⟨i, him, rfl, ⟨L, hL, hO⟩, hgr⟩ := hrel
    by_cases hlt : i < m
    · have hltI : (i : Int) < (m : Int) := by omega
      obtain ⟨g, rfl⟩ := HAG.out (by omega)
      obtain ⟨⟨z, c0⟩, f0⟩ := hO.cell (i := i) (by omega)
      have hst := hO.set hL i 99
      have HST : Hid ((∃ L : List Int, L.length = m ∧ OwnK .i32 B0 21 (wr.setCell ⟨g, i, none⟩ (.int .i32 99)) (.slice (some ⟨g, 0, none⟩) m ac) L) ∧ w15.grownBy (wr.setCell ⟨g, i, none⟩ (.int .i32 99)) (Value.ownBlock (.slice (some ⟨g, 0, none⟩) m ac))) := ⟨⟨_, by rw [List.length_set]; exact hL, hst.1⟩, grown_trans hgr hst.2⟩
      clear hst hO hgr hL
      go_wp2
      go_roundw
      case rel => exact ⟨i + 1, by omega, by go_num, HST.out.1, HST.out.2⟩
      case measure => simp [intOf]; omega
    · have hltI : ¬ (i : Int) < (m : Int) := by omega
      have HLG : Hid (LgC B0 21 w15 (Value.ownBlock (.slice ao m ac)) m 0 (.slice ao m ac) wr) := ⟨⟨_, by have := hO; unfold OwnK at this; rw [hL] at this; exact this⟩, hgr, .inl rfl⟩
      clear hO hgr hL
      go_wp2
      go_loopw [24, 25] (fun l t wx => ∃ k : Nat, k ≤ 7 ∧ t = .int .i64 k ∧ LgC B0 21 w15 (Value.ownBlock (.slice ao m ac)) m k l wx) (fun _ t _ => 7 - (intOf t).toNat)
      case atStart => exact ⟨0, by omega, rfl, HLG.out⟩
      case round =>
        clear HLG
        obtain ⟨k, hk, rfl, hlg⟩ := hrel
        by_cases hk7 : k < 7
        · have hkI : (k : Int) < 7 := by omega
          obtain ⟨xs, hrow⟩ := hlg.row
          have HLG : Hid (LgC B0 21 w15 (Value.ownBlock (.slice ao m ac)) m k u24 wr) := hlg
          have HRW : Hid (wr.ownsRow B0 21 1 u24 (m + k) xs) := hrow
          have hB3 : ∀ o, B0 ≤ (wr.alloc o).heap.size := fun o => by have := hlg.grn.size; simp; omega
          clear hlg hrow
          go_wp2_with (at_builtin; refine wpList_push _ rfl _ _ 32 rfl B0 21 i0 (.int .i32 0) 4 Try.underlying32 hi hz0 hz1 hz2 rfl _ (m + k) xs rfl (HRW.out.alloc _) ⟨wr.heap.size, 0, none⟩ 1 1 [.int .i32 98] rfl rfl (cell_oneR _ _ _) (fun u hu => by simp at hu; subst hu; rfl) (by decide) (by unfold maxLen; omega) (by omega) (hB3 _) ?_)
          intro v' w2 ho hgr _ hbk
          have R := HLG.out.push ho hgr (by simpa using hbk)
          clear ho hgr hbk HLG HRW
          go_wp2
          go_roundw
          case rel => exact ⟨k + 1, by omega, by go_num, R⟩
          case measure => simp [intOf]; omega
        · have hkI : ¬ (k : Int) < 7 := by omega
          have hk7' : k = 7 := by omega
          subst hk7'
          have hgn := hlg.grn
          obtain ⟨xs, hrow⟩ := hlg.row
          rcases hrow.2 with ⟨_, h0⟩ | ⟨g, cap, cur, rfl, -⟩
          · omega
          have hAP := HAP.out
          have hv16 := HV.out.1.kept' hgn (fun g hg => (hAP g hg).2.2.1)
          have hu16 := HV.out.2.kept' hgn (fun g hg => (hAP g hg).2.2.2.1)
          have hS16 := HSD.out.1.kept hgn (fun g hg => (hAP g hg).1)
          have hD16 := HSD.out.2.kept hgn (fun g hg => (hAP g hg).2.1)
          have rb16 := HRB.out.1.kept hgn (fun g hg => (hAP g hg).2.2.2.2.1)
          have rc16 := HRB.out.2.kept hgn (fun g hg => (hAP g hg).2.2.2.2.2)
          have hB16 : Below w.heap.size w wr := HB15.out.trans ((Below.refl w.heap.size w15).grown hgn HB15.out.size HAW.out)
          have heq : (((m + 7 : Nat) : Int) == (m : Int) + 7) = true := by rw [beq_iff_eq]; omega
          have heq2 : ((m : Int) + 7 == (m : Int) + 7) = true := by simp
          clear hgn hlg hrow hAP HAP HV HSD HRB HB15 HAW
          go_wp2_with fail
          refine (sameJ _ _ (dgl ss a) wr rb16 rc16).mono ?_
          rintro e w17 ⟨rfl, q, rfl⟩
          have b := below_drewR (Below.refl wr.heap.size wr) q
          generalize wr.drewN q = w17 at *
          replace hB16 := bstepR hB16 b
          replace hv16 := hv16.below (Nat.le_refl _) b
          replace hu16 := hu16.below (Nat.le_refl _) b
          replace hS16 := hS16.below b
          replace hD16 := hD16.below b
          clear b rb16 rc16
          go_wp2_with fail
          refine (keptJ _ _ _ ss w17 hS16 hv16 HZD.out.1).mono ?_
          rintro e w18 ⟨rfl, q, rfl⟩
          have b := below_drewR (Below.refl w17.heap.size w17) q
          generalize w17.drewN q = w18 at *
          replace hB16 := bstepR hB16 b
          replace hu16 := hu16.below (Nat.le_refl _) b
          replace hD16 := hD16.below b
          clear b hS16 hv16
          go_wp2_with fail
          refine (keptJ _ _ _ ds w18 hD16 hu16 HZD.out.2).mono ?_
          rintro e w19 ⟨rfl, q, rfl⟩
          have HBL : Hid (Below w.heap.size w (w18.drewN q)) := below_drewR hB16 q
          clear hD16 hu16 hB16
          generalize w18.drewN q = w19 at *
          go_wp2
          go_ret
          exact ⟨rfl, HBL.out⟩
end Go.Proofs.Ytfanomoijjjcmaa

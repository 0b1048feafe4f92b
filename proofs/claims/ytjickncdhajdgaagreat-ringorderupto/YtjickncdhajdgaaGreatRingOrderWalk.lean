/-
  Proved here: RingOrder's own walk.
-/
import Derived.Test.YtjickncdhajdgaaGreatRingW
import Derived.Deep.CutRange
namespace Go.Proofs.YtjickncdhajdgaaGreat
open Go.Shelf Go.RowKit Go.Lib
theorem rg_of_strs2 {W : World} {x : Addr} {len cap : Nat} {zs : List ByteArray} (hl : len ≤ cap) (hm : cap ≤ maxLen) (hz : zs.length = cap)
    (hcell : ∀ i, i < zs.length → W.cell? (x.add i) = some (.string (zs.getD i ByteArray.empty))) (hw : ∀ s ∈ zs, s.size ≤ maxLen) : ∃ ys : List ByteArray, (∀ s ∈ ys, s.size ≤ maxLen) ∧ RG Value.string W (.slice (some x) len cap) ys := by
  have hlen : (zs.take len).length = len := by simp; omega
  refine ⟨zs.take len, fun s hs => hw s (List.mem_of_mem_take hs), some x, cap, by rw [hlen], by rw [hlen]; exact hl, hm, fun h => by simp at h, fun i y hy => ?_⟩
  have hi : i < len := by have := (List.getElem?_eq_some_iff.1 hy).1; omega
  have hc := hcell i (by omega)
  obtain ⟨b, off, spot⟩ := x
  have hspot : spot = none := by
    have := World.cell?_spot (hcell 0 (by omega))
    simpa [Addr.add] using this
  subst hspot
  refine ⟨b, off, rfl, ?_⟩
  rw [Addr.add_lit] at hc
  rw [List.getElem?_take_of_lt hi] at hy
  rw [hc, List.getD_eq_getElem?_getD, hy]
  rfl
def c20 (s : ByteArray) : ByteArray := s.extract 0 (min s.size 20)
theorem c20_size (s : ByteArray) : (c20 s).size ≤ 20 := by unfold c20; rw [ByteArray.size_extract]; omega
theorem drewN_sameW (w : World) : ∀ m : Nat, (w.drewN m).os = w.os ∧ (w.drewN m).tape = w.tape ∧ (w.drewN m).output = w.output
  | 0 => ⟨rfl, rfl, rfl⟩
  | m + 1 => drewN_sameW w.drew m
theorem below_drewW {B : Nat} {a w : World} (h : Below B a w) (q : Nat) : Below B a (w.drewN q) :=
  h.trans ⟨(drewN_sameW w q).1, (drewN_sameW w q).2.1, (drewN_sameW w q).2.2, by rw [heap_drewG]; exact Nat.le_refl _, fun k _ => by rw [heap_drewG]⟩
set_option maxRecDepth 100000 in
theorem cutS (s : ByteArray) (m : Nat) (h : m ≤ s.size) (_hs : s.size ≤ 9223372036854775807) (w : World) : (Instr.slice 9 (.string s) none (some (.int .i64 (m : Int))) none).run Tryz.prog w = .ok (.string (s.extract 0 m)) w := by
  have h0 : (0 : Int) ≤ (m : Int) := by omega
  have h1 : (m : Int) ≤ (s.size : Int) := by omega
  go_simp
set_option maxHeartbeats 32000000 in
set_option maxRecDepth 1000000 in
theorem ringOrder_top (v0 : Value) (L0 : List ByteArray) (a : ByteArray) (n : Int) (w : World) (hv0 : RG Value.string w v0 L0) (hL0 : ∀ x ∈ L0, x.size ≤ maxLen) (ha0 : a.size ≤ maxLen) (hn1 : -9223372036854775808 ≤ n) (hn2 : n ≤ 9223372036854775807) :
    Calls Tryz.prog 3 #[v0, .string a, .int .i64 n] w fun e w' => e = .returned (.bool true) ∧ Below w.heap.size w w' := by
  obtain ⟨g, hg⟩ : ∃ g, g = w.heap.size := ⟨_, rfl⟩
  obtain ⟨i0, hi, hz0, hz1, hz2⟩ := infoW_parts
  have bw : Below g w w := Below.refl _ _
  have zw : g ≤ w.heap.size := Nat.le_of_eq hg
  have HZW : Hid (g ≤ w.heap.size) := zw
  rw [← hg]
  clear hg
  obtain ⟨a0, p0, rfl, hc0, hm0, -⟩ := id hv0
  unfold maxLen at hm0 hL0 ha0
  obtain ⟨n0, hn0⟩ : ∃ n, L0.length = n := ⟨_, rfl⟩
  rw [hn0] at hc0 hv0 ⊢
  have HN0 : Hid (L0.length = n0) := hn0
  have HL0 : Hid (∀ x ∈ L0, x.size ≤ 2 ^ 63 - 1) := hL0
  clear hn0 hL0
  go_enter Tryz.func3, Tryz.ntmps3
  have CC : Hid _ := awake12 w
  have H_hv0 : Hid (RG Value.string w (.slice a0 n0 p0) L0) := hv0
  have H_bw : Hid (Below g w w) := bw
  have H_zw : Hid (g ≤ w.heap.size) := zw
  clear hv0 bw zw
  go_wp2_with fail
  refine Calls.mono CC.out ?_
  rintro e x1 ⟨rfl, b1⟩
  clear CC
  have hv0 := H_hv0.out
  have bw := H_bw.out
  have zw := H_zw.out
  clear H_hv0 H_bw H_zw
  replace hv0 := hv0.below (Nat.le_refl _) b1
  replace bw := bw.trans (b1.mono zw)
  replace zw : g ≤ x1.heap.size := Nat.le_trans zw b1.size
  clear b1
  have C0 : Hid (∀ W, Below x1.heap.size x1 W → ∀ i, i < n0 → ∃ x gg o, L0[i]? = some x ∧ a0 = some ⟨gg, o, none⟩ ∧ W.cell? ⟨gg, o + i, none⟩ = some (.string x)) := fun W h i hi => (hv0.below (Nat.le_refl _) h).at hi
  have HBW0 : Hid (Below g w x1 ∧ g ≤ x1.heap.size) := ⟨bw, zw⟩
  clear bw zw hv0
  go_upto_region 3 with fail
  go_cut [9] from 25 to 25 (fun v9 wx => v9 = .int .i64 0 ∧ x1 = wx)
  case first =>
    go_wp2
    go_meet
    exact ⟨rfl, rfl⟩
  case rest =>
    obtain ⟨rfl, rfl⟩ := hcut
    rename_i hKK
    refine hKK _ _ ?_
    go_cut [8, 9] from 25 to 48 (fun v8 _v9 wx => ∃ lo ln lc, v8 = .slice lo ln lc ∧ Hid (∃ L1 : List ByteArray, RG Value.string wx (.slice lo ln lc) L1 ∧ L1.length ≤ 60 ∧ (∀ x ∈ L1, x.size ≤ 20) ∧ Below g w wx))
    case first =>
      obtain ⟨m0, hm0e⟩ : ∃ m, m = min n0 60 := ⟨_, rfl⟩
      have hm60 : m0 ≤ 60 := by omega
      have hmn : m0 ≤ n0 := by omega
      have HM0 : Hid (m0 = min n0 60) := hm0e
      clear hm0e
      go_wp2
      go_loopg [8, 9] m0 (fun g1 v8 v9 wr => ∃ (i : Nat) (ao : Option Addr) (al ac : Nat), v8 = .slice ao al ac ∧ v9 = .int .i64 i ∧ i ≤ m0 ∧ m0 - i ≤ g1 ∧ Hid (OG Value.string x1.heap.size 9 wr (.slice ao al ac) ((L0.take i).map c20)) ∧ Hid (Below x1.heap.size x1 wr))
      case atStart => exact ⟨0, none, 0, 0, rfl, rfl, Nat.zero_le _, by omega, OG.nil _ _ _, Below.refl _ _⟩
      case round =>
        obtain ⟨i, ao, al, ac, rfl, rfl, hin, hg1, HO, HB⟩ := hrel
        by_cases hlt : i < m0
        · have hlt1 : (i : Int) < (n0 : Int) := by omega
          have hlt2 : (i : Int) < 60 := by omega
          obtain ⟨s, gg, o, hs, e1, c1⟩ := C0.out _ HB.out i (by omega)
          subst e1
          have hsz := HL0.out s (List.mem_of_getElem? hs)
          obtain ⟨m, hm⟩ : ∃ m, m = min s.size 20 := ⟨_, rfl⟩
          have HSN : Hid ((L0.take (i + 1)).map c20 = (L0.take i).map c20 ++ [s.extract 0 m]) := by show _ = _; rw [take_snocW hs, List.map_append, hm]; rfl
          have hmin : (if (20 : Int) < (s.size : Int) then (20 : Int) else (s.size : Int)) = (m : Int) := by split <;> omega
          have hmin2 : (if (s.size : Int) < 20 then (s.size : Int) else (20 : Int)) = (m : Int) := by split <;> omega
          have hcut := cutS s m (by omega) (by omega)
          obtain ⟨sk, hsk⟩ : ∃ k, k = s.size := ⟨_, rfl⟩
          have HSK : Hid (∀ W, Below x1.heap.size x1 W → W.cell? ⟨gg, o + i, none⟩ = some (.string s)) := fun W hW => by obtain ⟨s', g', o', hs', e', c'⟩ := C0.out _ hW i (by omega); cases e'; rw [hs] at hs'; cases hs'; exact c'
          have HLM : Hid (((L0.take i).map c20).length ≤ 60) := by show _ ≤ _; rw [List.length_map, List.length_take]; omega
          obtain ⟨sc, hsc⟩ : ∃ x, x = s.extract 0 m := ⟨_, rfl⟩
          rw [← hsc] at HSN
          have hcut2 : ∀ w, (Instr.slice 9 (.string s) none (some (.int .i64 (m : Int))) none).run Tryz.prog w = .ok (.string sc) w := fun w => by rw [hcut, hsc]
          clear hs hcut hsc c1
          have hm20 : m ≤ 20 := by omega
          have hms : m ≤ s.size := by omega
          clear hm
          go_upto_region 6 with fail
          have KEEP : ∀ u, Below wr.heap.size wr u → L3.AllL u [(4, fun w' => w'.cell? ⟨gg, o + i, none⟩ = some (.string s)), (8, fun w' => w'.cell? ⟨gg, o + i, none⟩ = some (.string s))] := fun u hu => ⟨HSK.out u (HB.out.trans (hu.mono HB.out.size)), HSK.out u (HB.out.trans (hu.mono HB.out.size)), trivial⟩
          refine L3.region_late [(4, fun w' => w'.cell? ⟨gg, o + i, none⟩ = some (.string s)), (8, fun w' => w'.cell? ⟨gg, o + i, none⟩ = some (.string s))] (by kernel_rfl) ?_
          have B : Below wr.heap.size wr wr.drew := (Below.refl _ _).drew
          obtain ⟨wd, hwd⟩ : ∃ u, u = wr.drew := ⟨_, rfl⟩
          rw [← hwd] at B ⊢
          clear hwd
          have hHeld := KEEP _ B
          refine L3.late_free 0 (v := .slice ao al ac) rfl (by kernel_rfl) (by kernel_rfl) (by kernel_rfl) (by kernel_rfl) (by kernel_rfl) (by kernel_rfl) (fun _ _ _ h => h) (Or.inl ⟨by rfl, ?_⟩) hHeld ?_
          · (intro u _; go_simp)
          (try simp only [Act.put, List.setIfInBounds_toArray, List.set_cons_zero, List.set_cons_succ])
          refine L3.late_free 1 (v := .slice (some ⟨gg, o, none⟩) n0 p0) rfl (by kernel_rfl) (by kernel_rfl) (by kernel_rfl) (by kernel_rfl) (by kernel_rfl) (by kernel_rfl) (fun _ _ _ h => h) (Or.inl ⟨by rfl, ?_⟩) hHeld ?_
          · (intro u _; go_simp)
          (try simp only [Act.put, List.setIfInBounds_toArray, List.set_cons_zero, List.set_cons_succ])
          refine L3.late_free 2 (v := .int .i64 i) rfl (by kernel_rfl) (by kernel_rfl) (by kernel_rfl) (by kernel_rfl) (by kernel_rfl) (by kernel_rfl) (fun _ _ _ h => h) (Or.inl ⟨by rfl, ?_⟩) hHeld ?_
          · (intro u _; go_simp)
          (try simp only [Act.put, List.setIfInBounds_toArray, List.set_cons_zero, List.set_cons_succ])
          refine L3.late_free 3 (v := .pointer (some ⟨gg, o + i, none⟩)) rfl (by kernel_rfl) (by kernel_rfl) (by kernel_rfl) (by kernel_rfl) (by kernel_rfl) (by kernel_rfl) (fun _ _ _ h => h) (Or.inl ⟨by rfl, ?_⟩) hHeld ?_
          · (intro u _; go_simp)
          (try simp only [Act.put, List.setIfInBounds_toArray, List.set_cons_zero, List.set_cons_succ])
          refine L3.late_take 4 (v := .string s) rfl (by kernel_rfl) (List.Mem.head _) (by kernel_rfl) (by kernel_rfl) (by kernel_rfl) (by kernel_rfl) (fun _ _ _ h => h) (Or.inl ⟨by rfl, ?_⟩) hHeld ?_
          · (intro u hu; (try dsimp only at hu); go_split_ands; go_simp)
          (try simp only [Act.put, List.setIfInBounds_toArray, List.set_cons_zero, List.set_cons_succ])
          refine L3.late_free 5 (v := .slice (some ⟨gg, o, none⟩) n0 p0) rfl (by kernel_rfl) (by kernel_rfl) (by kernel_rfl) (by kernel_rfl) (by kernel_rfl) (by kernel_rfl) (fun _ _ _ h => h) (Or.inl ⟨by rfl, ?_⟩) hHeld ?_
          · (intro u _; go_simp)
          (try simp only [Act.put, List.setIfInBounds_toArray, List.set_cons_zero, List.set_cons_succ])
          refine L3.late_free 6 (v := .int .i64 i) rfl (by kernel_rfl) (by kernel_rfl) (by kernel_rfl) (by kernel_rfl) (by kernel_rfl) (by kernel_rfl) (fun _ _ _ h => h) (Or.inl ⟨by rfl, ?_⟩) hHeld ?_
          · (intro u _; go_simp)
          (try simp only [Act.put, List.setIfInBounds_toArray, List.set_cons_zero, List.set_cons_succ])
          refine L3.late_free 7 (v := .pointer (some ⟨gg, o + i, none⟩)) rfl (by kernel_rfl) (by kernel_rfl) (by kernel_rfl) (by kernel_rfl) (by kernel_rfl) (by kernel_rfl) (fun _ _ _ h => h) (Or.inl ⟨by rfl, ?_⟩) hHeld ?_
          · (intro u _; go_simp)
          (try simp only [Act.put, List.setIfInBounds_toArray, List.set_cons_zero, List.set_cons_succ])
          refine L3.late_take 8 (v := .string s) rfl (by kernel_rfl) (List.Mem.tail _ (List.Mem.head _)) (by kernel_rfl) (by kernel_rfl) (by kernel_rfl) (by kernel_rfl) (fun _ _ _ h => h) (Or.inl ⟨by rfl, ?_⟩) hHeld ?_
          · (intro u hu; (try dsimp only at hu); go_split_ands; go_simp)
          (try simp only [Act.put, List.setIfInBounds_toArray, List.set_cons_zero, List.set_cons_succ])
          refine L3.late_step 9 (by kernel_rfl) rfl (fun K hK => ?_)
          go_simp
          refine hK.out _ _ (L3.AllL.kept hHeld) ?_
          clear hK K
          (try simp only [Act.put, List.setIfInBounds_toArray, List.set_cons_zero, List.set_cons_succ])
          refine L3.late_step 10 (by kernel_rfl) rfl (fun K hK => ?_)
          go_simp
          refine hK.out _ _ (L3.AllL.kept hHeld) ?_
          clear hK K
          (try simp only [Act.put, List.setIfInBounds_toArray, List.set_cons_zero, List.set_cons_succ])
          refine L3.late_step 11 (by kernel_rfl) rfl (fun K hK => ?_)
          go_simp
          refine hK.out _ _ (L3.AllL.kept hHeld) ?_
          clear hK K
          (try simp only [Act.put, List.setIfInBounds_toArray, List.set_cons_zero, List.set_cons_succ])
          refine L3.late_step 12 (by kernel_rfl) rfl (fun K hK => ?_)
          go_simp
          have O3 : OG Value.string x1.heap.size 9 (wd.alloc (.cells #[.string sc] 9)) (.slice ao al ac) ((L0.take i).map c20) := HO.out.below (bstep B (belowA _ _))
          have C3 : (wd.alloc (.cells #[.string sc] 9)).cell? ⟨wd.heap.size, 0, none⟩ = some (.string sc) := ((OG.lit (enc := Value.string) 9 wd [sc] (by unfold maxLen; simp)).cell (i := 0) (x := sc) rfl).1
          have B3 : Below wr.heap.size wr (wd.alloc (.cells #[.string sc] 9)) := bstep B (belowA _ _)
          obtain ⟨we, hwe⟩ : ∃ u, u = wd.alloc (.cells #[.string sc] 9) := ⟨_, rfl⟩
          obtain ⟨be, hbe⟩ : ∃ u, u = wd.heap.size := ⟨_, rfl⟩
          rw [← hwe] at O3 C3 B3 ⊢
          rw [← hbe] at C3 ⊢
          clear hwe hbe B
          have B := B3
          clear B3 hHeld
          have hHeld := KEEP _ B
          refine hK.out _ _ (L3.AllL.kept hHeld) ?_
          clear hK K
          (try simp only [Act.put, List.setIfInBounds_toArray, List.set_cons_zero, List.set_cons_succ])
          refine L3.late_step 13 (by kernel_rfl) rfl (fun K hK => ?_)
          rw [if_pos (by rfl)]
          refine wp_append_own _ _ _ 22 rfl x1.heap.size 9 i0 (.string ⟨#[]⟩) 1 16 Tryz.underlying22 hi hz0 hz1 hz2 rfl (by decide) (.slice ao al ac) ((L0.take i).map c20).length (((L0.take i).map c20).map Value.string) rfl O3 ⟨be, 0, none⟩ 1 1 [.string sc] rfl rfl ?_ (by simp [Value.oneCell']) (by have := HLM.out; unfold maxLen; omega) (by have := HLM.out; omega) (Nat.le_trans HB.out.size B.size) ?_
          · intro j u hj
            cases j with
            | zero => cases hj; rw [Addr.add_lit]; exact C3
            | succ j => simp at hj
          intro v' wf ho hgr _
          have HO4 : Hid (OG Value.string x1.heap.size 9 wf v' ((L0.take (i + 1)).map c20)) := by rw [HSN.out]; unfold OG; rw [List.length_append, List.map_append]; exact ho
          have HB4 : Hid (Below x1.heap.size x1 wf) := O3.grown (HB.out.trans (B.mono HB.out.size)) (Nat.le_trans HB.out.size B.size) hgr
          have hH4 : L3.AllL wf [(4, fun w' => w'.cell? ⟨gg, o + i, none⟩ = some (.string s)), (8, fun w' => w'.cell? ⟨gg, o + i, none⟩ = some (.string s))] := ⟨HSK.out _ HB4.out, HSK.out _ HB4.out, trivial⟩
          obtain ⟨no, nc, hnv, -⟩ := HO4.out.sl
          obtain ⟨nl, hnl⟩ : ∃ k, k = ((L0.take (i + 1)).map c20).length := ⟨_, rfl⟩
          rw [← hnl] at hnv
          subst hnv
          clear hnl ho hgr O3 C3 hHeld KEEP B
          refine hK.out _ _ (L3.AllL.kept hH4) ?_
          clear hK K
          (try simp only [Act.put, List.setIfInBounds_toArray, List.set_cons_zero, List.set_cons_succ])
          refine L3.late_step 14 (by kernel_rfl) rfl (fun K hK => ?_)
          go_simp
          refine hK.out _ _ (L3.AllL.kept hH4) ?_
          clear hK K
          (try simp only [Act.put, List.setIfInBounds_toArray, List.set_cons_zero, List.set_cons_succ])
          refine L3.late_done (by kernel_rfl) ?_ _
          clear hH4
          go_wp2_with fail
          go_roundg (m0 - (i + 1))
          case measure => omega
          case rel => exact ⟨i + 1, _, _, _, rfl, by go_num, by omega, Nat.le_refl _, HO4, HB4⟩
        · have hm0q := HM0.out
          by_cases hq : i < n0
          · have hlt1 : (i : Int) < (n0 : Int) := by omega
            have hlt2 : ¬ (i : Int) < 60 := by omega
            have HP : Hid (∃ L1 : List ByteArray, RG Value.string wr (.slice ao al ac) L1 ∧ L1.length ≤ 60 ∧ (∀ x ∈ L1, x.size ≤ 20) ∧ Below g w wr) := ⟨_, HO.out.rg, by rw [List.length_map, List.length_take]; omega, fun x hx => by obtain ⟨y, _, rfl⟩ := List.mem_map.1 hx; exact c20_size y, HBW0.out.1.trans (HB.out.mono HBW0.out.2)⟩
            clear HO HB
            go_wp2
            go_meet
            exact ⟨_, _, _, rfl, HP⟩
          · have hlt1 : ¬ (i : Int) < (n0 : Int) := by omega
            have HP : Hid (∃ L1 : List ByteArray, RG Value.string wr (.slice ao al ac) L1 ∧ L1.length ≤ 60 ∧ (∀ x ∈ L1, x.size ≤ 20) ∧ Below g w wr) := ⟨_, HO.out.rg, by rw [List.length_map, List.length_take]; omega, fun x hx => by obtain ⟨y, _, rfl⟩ := List.mem_map.1 hx; exact c20_size y, HBW0.out.1.trans (HB.out.mono HBW0.out.2)⟩
            clear HO HB
            go_wp2
            go_meet
            exact ⟨_, _, _, rfl, HP⟩
    case rest =>
      clear C0 HBW0
      obtain ⟨lo, ln, lc, rfl, HQ⟩ := hcut
      obtain ⟨L1, rl, hl60, hl20, bw⟩ := HQ.out
      have zw : g ≤ wc.heap.size := Nat.le_trans HZW.out bw.size
      have HL1 : Hid (L1.length = ln) := rl.len
      have hln : ln ≤ 60 := by have := HL1.out; omega
      have HX1 : Hid (∀ x ∈ L1, x.size ≤ 20) := hl20
      clear HQ hl60 hl20
      obtain ⟨W2, hW2⟩ : ∃ u, u = wc := ⟨_, rfl⟩
      rw [← hW2] at rl bw zw ⊢
      have HBZ : Hid (g ≤ W2.heap.size) := zw
      clear hW2
      by_cases h20 : 20 < a.size
      · have h20z : (a.size : Int) > 20 := by omega
        have hcut := cutS a 20 (by omega) (by omega)
        have hc3 : ∀ w, (Instr.slice 9 (.string a) none (some (.int .i64 20)) none).run Tryz.prog w = .ok (.string (a.extract 0 20)) w := hcut
        have hb20 : (a.extract 0 20).size ≤ 20 := by rw [ByteArray.size_extract]; omega
        obtain ⟨b, hb⟩ : ∃ b, b = a.extract 0 20 := ⟨_, rfl⟩
        rw [← hb] at hc3 hb20
        clear hcut hb
        have P0 : Hid (OG Value.string W2.heap.size 9 W2 (.slice none 0 0) []) := OG.nil _ _ _
        have R0 : Hid (RG Value.string W2 (.slice lo ln lc) L1) := rl
        have Z0 : Hid (W2.heap.size ≤ W2.heap.size) := Nat.le_refl _
        have Q0 : Hid (Below W2.heap.size W2 W2) := Below.refl _ _
        have H_rl : Hid (RG Value.string W2 (.slice lo ln lc) L1) := rl
        have H_bw : Hid (Below g w W2) := bw
        have H_zw : Hid (g ≤ W2.heap.size) := zw
        clear rl bw zw
        go_wp2_with (at_builtin; refine wpList_appG _ oneW rfl _ _ 22 rfl W2.heap.size 9 i0 (.string ⟨#[]⟩) 16 Tryz.underlying22 hi hz0 hz1 hz2 rfl _ _ [] L1 rfl P0.out rfl R0.out (by have := HL1.out; unfold maxLen; simp only [List.length_nil]; omega) (by have := HL1.out; simp only [List.length_nil]; omega) Z0.out ?_)
        intro vm wm ho hgr
        have bq : Below W2.heap.size W2 wm := P0.out.grown Q0.out Z0.out hgr
        have rm := ho.rg
        clear ho hgr P0 R0 Z0 Q0
        have rl := H_rl.out
        have bw := H_bw.out
        have zw := H_zw.out
        clear H_rl H_bw H_zw
        obtain ⟨mo, mc, hvm⟩ := rm.sl
        obtain ⟨mn, hmn⟩ : ∃ k, k = L1.length := ⟨_, rfl⟩
        have hmn2 : mn = ln := hmn.trans HL1.out
        rw [← hmn, hmn2] at hvm
        subst hvm
        clear hmn hmn2 mn
        replace rl := rl.below (Nat.le_refl _) bq
        replace bw := bw.trans (bq.mono zw)
        replace zw : g ≤ wm.heap.size := Nat.le_trans zw bq.size
        clear bq
        have CC : Hid _ := sumW _ L1 _ rm (by have := HL1.out; omega) HX1.out
        have H_rl : Hid (RG Value.string wm (.slice lo ln lc) L1) := rl
        have H_rm : Hid (RG Value.string wm (.slice mo ln mc) L1) := rm
        have H_bw : Hid (Below g w wm) := bw
        have H_zw : Hid (g ≤ wm.heap.size) := zw
        clear rl rm bw zw
        go_wp2_with fail
        refine Calls.mono CC.out ?_
        rintro e x2 ⟨rfl, b2⟩
        clear CC
        have rl := H_rl.out
        have rm := H_rm.out
        have bw := H_bw.out
        have zw := H_zw.out
        clear H_rl H_rm H_bw H_zw
        replace rl := rl.below (Nat.le_refl _) b2
        replace rm := rm.below (Nat.le_refl _) b2
        replace bw := bw.trans (b2.mono zw)
        replace zw : g ≤ x2.heap.size := Nat.le_trans zw b2.size
        clear b2
        obtain ⟨t1, ht1⟩ : ∃ s, s = wdF ⟨#[48]⟩ ⟨#[43]⟩ L1 := ⟨_, rfl⟩
        rw [← ht1]
        have Ht1 : Hid (wdF ⟨#[48]⟩ ⟨#[43]⟩ L1 = t1) := ht1.symm
        clear ht1
        have CC : Hid _ := prodW _ L1 _ rm (by have := HL1.out; omega) HX1.out
        have H_rl : Hid (RG Value.string x2 (.slice lo ln lc) L1) := rl
        have H_rm : Hid (RG Value.string x2 (.slice mo ln mc) L1) := rm
        have H_bw : Hid (Below g w x2) := bw
        have H_zw : Hid (g ≤ x2.heap.size) := zw
        clear rl rm bw zw
        go_wp2_with fail
        refine Calls.mono CC.out ?_
        rintro e x3 ⟨rfl, b3⟩
        clear CC
        have rl := H_rl.out
        have rm := H_rm.out
        have bw := H_bw.out
        have zw := H_zw.out
        clear H_rl H_rm H_bw H_zw
        replace rl := rl.below (Nat.le_refl _) b3
        replace rm := rm.below (Nat.le_refl _) b3
        replace bw := bw.trans (b3.mono zw)
        replace zw : g ≤ x3.heap.size := Nat.le_trans zw b3.size
        clear b3
        obtain ⟨t2, ht2⟩ : ∃ s, s = wdF ⟨#[49]⟩ ⟨#[42]⟩ L1 := ⟨_, rfl⟩
        rw [← ht2]
        have Ht2 : Hid (wdF ⟨#[49]⟩ ⟨#[42]⟩ L1 = t2) := ht2.symm
        clear ht2
        by_cases hr : n ≥ 0 ∧ n ≤ 1024
        · obtain ⟨N, hN⟩ : ∃ N : Nat, n = (N : Int) := ⟨n.toNat, by omega⟩
          subst hN
          have hN1 : N ≤ 1024 := by omega
          have hge : (N : Int) ≥ 0 := by omega
          have hle : (N : Int) ≤ 1024 := by omega
          have CC : Hid _ := powW b N x3 hb20 hN1
          have H_rl : Hid (RG Value.string x3 (.slice lo ln lc) L1) := rl
          have H_rm : Hid (RG Value.string x3 (.slice mo ln mc) L1) := rm
          have H_bw : Hid (Below g w x3) := bw
          have H_zw : Hid (g ≤ x3.heap.size) := zw
          clear rl rm bw zw
          go_wp2_with fail
          refine Calls.mono CC.out ?_
          rintro e x104 ⟨rfl, b104⟩
          clear CC
          have rl := H_rl.out
          have rm := H_rm.out
          have bw := H_bw.out
          have zw := H_zw.out
          clear H_rl H_rm H_bw H_zw
          replace rl := rl.below (Nat.le_refl _) b104
          replace rm := rm.below (Nat.le_refl _) b104
          replace bw := bw.trans (b104.mono zw)
          replace zw : g ≤ x104.heap.size := Nat.le_trans zw b104.size
          clear b104
          obtain ⟨t3, ht3⟩ : ∃ s, s = wdF ⟨#[49]⟩ ⟨#[42]⟩ (List.replicate N b) := ⟨_, rfl⟩
          rw [← ht3]
          have Ht3 : Hid (wdF ⟨#[49]⟩ ⟨#[42]⟩ (List.replicate N b) = t3) := ht3.symm
          clear ht3
          have HBZ2 : Hid (x104.heap.size ≤ x104.heap.size) := Nat.le_refl _
          have H_rl : Hid (RG Value.string x104 (.slice lo ln lc) L1) := rl
          have H_rm : Hid (RG Value.string x104 (.slice mo ln mc) L1) := rm
          have H_bw : Hid (Below g w x104) := bw
          have H_zw : Hid (g ≤ x104.heap.size) := zw
          clear rl rm bw zw
          go_wp2
          go_loopg [17, 18] N (fun g1 v17 v18 wr => ∃ (i : Nat) (ao : Option Addr) (al ac : Nat), v17 = .slice ao al ac ∧ v18 = .int .i64 i ∧ i ≤ N ∧ N - i ≤ g1 ∧ Hid (OG Value.string x104.heap.size 9 wr (.slice ao al ac) (List.replicate i b)) ∧ Hid (Below x104.heap.size x104 wr))
          case atStart => exact ⟨0, none, 0, 0, rfl, rfl, Nat.zero_le _, by omega, OG.nil _ _ _, Below.refl _ _⟩
          case round =>
            obtain ⟨i, ao, al, ac, rfl, rfl, hin, hg1, HO, HB⟩ := hrel
            by_cases hlt : i < N
            · have hltz : (i : Int) < (N : Int) := by omega
              have O3 : Hid (OG Value.string x104.heap.size 9 (wr.alloc (.cells #[.string b] 9)) (.slice ao al ac) (List.replicate i b)) := HO.out.below (belowA _ _)
              have R3 : Hid (RG Value.string (wr.alloc (.cells #[.string b] 9)) (.slice (some ⟨wr.heap.size, 0, none⟩) 1 1) [b]) := (OG.lit (enc := Value.string) 9 wr [b] (by unfold maxLen; simp)).rg
              have B3 : Hid (Below x104.heap.size x104 (wr.alloc (.cells #[.string b] 9))) := HB.out.alloc HB.out.size _
              have Z3 : Hid (x104.heap.size ≤ (wr.alloc (.cells #[.string b] 9)).heap.size) := B3.out.size
              go_wp2_with (at_builtin; refine wpList_appG _ oneW rfl _ _ 22 rfl x104.heap.size 9 i0 (.string ⟨#[]⟩) 16 Tryz.underlying22 hi hz0 hz1 hz2 rfl _ _ (List.replicate i b) [b] rfl O3.out rfl R3.out (by unfold maxLen; rw [List.length_replicate]; simp only [List.length_cons, List.length_nil]; omega) (by rw [List.length_replicate]; simp only [List.length_cons, List.length_nil]; omega) Z3.out ?_)
              intro v' w' ho hgr
              have HO4 : Hid (OG Value.string x104.heap.size 9 w' v' (List.replicate (i + 1) b)) := by rw [List.replicate_succ']; exact ho
              have HB4 : Hid (Below x104.heap.size x104 w') := O3.out.grown B3.out Z3.out hgr
              obtain ⟨no, nc, hnv, -⟩ := HO4.out.sl
              obtain ⟨nl, hnl⟩ : ∃ k, k = (List.replicate (i + 1) b).length := ⟨_, rfl⟩
              rw [← hnl] at hnv
              subst hnv
              clear hnl ho hgr O3 R3 B3 Z3
              go_wp2
              go_roundg (N - (i + 1))
              case measure => omega
              case rel => exact ⟨i + 1, _, _, _, rfl, by go_num, by omega, Nat.le_refl _, HO4, HB4⟩
            · have hltz : ¬ (i : Int) < (N : Int) := by omega
              have hie : i = N := by omega
              subst hie
              have ra := HO.out.rg
              have bl := HB.out
              clear HO HB
              have rl := H_rl.out
              have rm := H_rm.out
              have bw := H_bw.out
              have zw := H_zw.out
              clear H_rl H_rm H_bw H_zw
              replace rl := rl.below (Nat.le_refl _) bl
              replace rm := rm.below (Nat.le_refl _) bl
              replace bw := bw.trans (bl.mono zw)
              replace zw : g ≤ wr.heap.size := Nat.le_trans zw bl.size
              clear bl
              have CC : Hid _ := (by have h := wordsR ⟨#[49]⟩ ⟨#[42]⟩ rfl rfl _ (List.replicate i b) _ ra (by rw [List.length_replicate]; omega) (fun x hx => by rw [List.eq_of_mem_replicate hx]; exact hb20); rw [Ht3.out] at h; exact h)
              have H_rl : Hid (RG Value.string wr (.slice lo ln lc) L1) := rl
              have H_rm : Hid (RG Value.string wr (.slice mo ln mc) L1) := rm
              have H_ra : Hid (RG Value.string wr (.slice ao al ac) (List.replicate i b)) := ra
              have H_bw : Hid (Below g w wr) := bw
              have H_zw : Hid (g ≤ wr.heap.size) := zw
              clear rl rm ra bw zw
              go_wp2_with fail
              refine Calls.mono CC.out ?_
              rintro e x105 ⟨rfl, b105⟩
              clear CC
              have rl := H_rl.out
              have rm := H_rm.out
              have ra := H_ra.out
              have bw := H_bw.out
              have zw := H_zw.out
              clear H_rl H_rm H_ra H_bw H_zw
              replace rl := rl.below (Nat.le_refl _) b105
              replace rm := rm.below (Nat.le_refl _) b105
              replace ra := ra.below (Nat.le_refl _) b105
              replace bw := bw.trans (b105.mono zw)
              replace zw : g ≤ x105.heap.size := Nat.le_trans zw b105.size
              clear b105
              clear ra
              have CL : Hid (∀ W, Below x105.heap.size x105 W → ∀ i, i < ln → ∃ y gg o, L1[i]? = some y ∧ lo = some ⟨gg, o, none⟩ ∧ W.cell? ⟨gg, o + i, none⟩ = some (.string y)) := fun W h i hi => (rl.below (Nat.le_refl _) h).at hi
              have CM : Hid (∀ W, Below x105.heap.size x105 W → ∀ i, i < ln → ∃ y gg o, L1[i]? = some y ∧ mo = some ⟨gg, o, none⟩ ∧ W.cell? ⟨gg, o + i, none⟩ = some (.string y)) := fun W h i hi => (rm.below (Nat.le_refl _) h).at hi
              have H_rl : Hid (RG Value.string x105 (.slice lo ln lc) L1) := rl
              have H_rm : Hid (RG Value.string x105 (.slice mo ln mc) L1) := rm
              have H_bw : Hid (Below g w x105) := bw
              have H_zw : Hid (g ≤ x105.heap.size) := zw
              clear rl rm bw zw
              go_wp2
              go_loopg [7, 19] ln (fun g1 v7 v19 wr => ∃ i : Nat, v7 = .bool true ∧ v19 = .int .i64 i ∧ i ≤ ln ∧ ln - i ≤ g1 ∧ Hid (Below x105.heap.size x105 wr))
              case atStart => exact ⟨0, rfl, rfl, Nat.zero_le _, by omega, Below.refl _ _⟩
              case round =>
                obtain ⟨j, rfl, rfl, hjn, hg2, HB⟩ := hrel
                by_cases hlt : j < ln
                · have hltz : (j : Int) < (ln : Int) := by omega
                  obtain ⟨y, gl, ol, hy, e1, c1⟩ := CL.out _ HB.out j hlt
                  subst e1
                  obtain ⟨y2, gm, om, hy2, e2, c2⟩ := CM.out _ HB.out j hlt
                  subst e2
                  have hyy : y = y2 := by rw [hy] at hy2; exact Option.some.inj hy2
                  subst hyy
                  have hself : (y.toList == y.toList) = true := by simp
                  clear hy hy2
                  go_wp2_with fail
                  go_quiet (fail)
                  have HB2 : Hid (Below x105.heap.size x105 (wr.drewN nq)) := below_drewW HB.out nq
                  clear HB c1 c2 hself
                  generalize wr.drewN nq = wq at HB2 ⊢
                  clear nq
                  go_wp2
                  go_roundg (ln - (j + 1))
                  case measure => omega
                  case rel => exact ⟨j + 1, rfl, by go_num, by omega, Nat.le_refl _, HB2⟩
                · have hltz : ¬ (j : Int) < (ln : Int) := by omega
                  have bl := HB.out
                  clear HB CL CM
                  have rl := H_rl.out
                  have rm := H_rm.out
                  have bw := H_bw.out
                  have zw := H_zw.out
                  clear H_rl H_rm H_bw H_zw
                  replace rl := rl.below (Nat.le_refl _) bl
                  replace rm := rm.below (Nat.le_refl _) bl
                  replace bw := bw.trans (bl.mono zw)
                  replace zw : g ≤ wr.heap.size := Nat.le_trans zw bl.size
                  clear bl
                  have CC : Hid _ := powWnil b (i : Int) wr
                  have H_rl : Hid (RG Value.string wr (.slice lo ln lc) L1) := rl
                  have H_rm : Hid (RG Value.string wr (.slice mo ln mc) L1) := rm
                  have H_bw : Hid (Below g w wr) := bw
                  have H_zw : Hid (g ≤ wr.heap.size) := zw
                  clear rl rm bw zw
                  go_wp2_with fail
                  refine Calls.mono CC.out ?_
                  rintro e x106 ⟨rfl, b106⟩
                  clear CC
                  have rl := H_rl.out
                  have rm := H_rm.out
                  have bw := H_bw.out
                  have zw := H_zw.out
                  clear H_rl H_rm H_bw H_zw
                  replace rl := rl.below (Nat.le_refl _) b106
                  replace rm := rm.below (Nat.le_refl _) b106
                  replace bw := bw.trans (b106.mono zw)
                  replace zw : g ≤ x106.heap.size := Nat.le_trans zw b106.size
                  clear b106
                  have CC : Hid _ := sumWNil (.slice mo ln mc) x106
                  have H_rl : Hid (RG Value.string x106 (.slice lo ln lc) L1) := rl
                  have H_rm : Hid (RG Value.string x106 (.slice mo ln mc) L1) := rm
                  have H_bw : Hid (Below g w x106) := bw
                  have H_zw : Hid (g ≤ x106.heap.size) := zw
                  clear rl rm bw zw
                  go_wp2_with fail
                  refine Calls.mono CC.out ?_
                  rintro e x107 ⟨rfl, b107⟩
                  clear CC
                  have rl := H_rl.out
                  have rm := H_rm.out
                  have bw := H_bw.out
                  have zw := H_zw.out
                  clear H_rl H_rm H_bw H_zw
                  replace rl := rl.below (Nat.le_refl _) b107
                  replace rm := rm.below (Nat.le_refl _) b107
                  replace bw := bw.trans (b107.mono zw)
                  replace zw : g ≤ x107.heap.size := Nat.le_trans zw b107.size
                  clear b107
                  have CC : Hid _ := prodWNil (.slice mo ln mc) x107
                  have H_rl : Hid (RG Value.string x107 (.slice lo ln lc) L1) := rl
                  have H_rm : Hid (RG Value.string x107 (.slice mo ln mc) L1) := rm
                  have H_bw : Hid (Below g w x107) := bw
                  have H_zw : Hid (g ≤ x107.heap.size) := zw
                  clear rl rm bw zw
                  go_wp2_with fail
                  refine Calls.mono CC.out ?_
                  rintro e x108 ⟨rfl, b108⟩
                  clear CC
                  have rl := H_rl.out
                  have rm := H_rm.out
                  have bw := H_bw.out
                  have zw := H_zw.out
                  clear H_rl H_rm H_bw H_zw
                  replace rl := rl.below (Nat.le_refl _) b108
                  replace rm := rm.below (Nat.le_refl _) b108
                  replace bw := bw.trans (b108.mono zw)
                  replace zw : g ≤ x108.heap.size := Nat.le_trans zw b108.size
                  clear b108
                  have CC : Hid _ := (by have h := wordsR ⟨#[48]⟩ ⟨#[43]⟩ rfl rfl _ L1 _ rl (by have := HL1.out; omega) HX1.out; rw [Ht1.out] at h; exact h)
                  have H_rl : Hid (RG Value.string x108 (.slice lo ln lc) L1) := rl
                  have H_rm : Hid (RG Value.string x108 (.slice mo ln mc) L1) := rm
                  have H_bw : Hid (Below g w x108) := bw
                  have H_zw : Hid (g ≤ x108.heap.size) := zw
                  clear rl rm bw zw
                  go_wp2_with fail
                  refine Calls.mono CC.out ?_
                  rintro e x109 ⟨rfl, b109⟩
                  clear CC
                  have rl := H_rl.out
                  have rm := H_rm.out
                  have bw := H_bw.out
                  have zw := H_zw.out
                  clear H_rl H_rm H_bw H_zw
                  replace rl := rl.below (Nat.le_refl _) b109
                  replace rm := rm.below (Nat.le_refl _) b109
                  replace bw := bw.trans (b109.mono zw)
                  replace zw : g ≤ x109.heap.size := Nat.le_trans zw b109.size
                  clear b109
                  have CC : Hid _ := (by have h := wordsR ⟨#[49]⟩ ⟨#[42]⟩ rfl rfl _ L1 _ rl (by have := HL1.out; omega) HX1.out; rw [Ht2.out] at h; exact h)
                  have H_rl : Hid (RG Value.string x109 (.slice lo ln lc) L1) := rl
                  have H_rm : Hid (RG Value.string x109 (.slice mo ln mc) L1) := rm
                  have H_bw : Hid (Below g w x109) := bw
                  have H_zw : Hid (g ≤ x109.heap.size) := zw
                  clear rl rm bw zw
                  go_wp2_with fail
                  refine Calls.mono CC.out ?_
                  rintro e x110 ⟨rfl, b110⟩
                  clear CC
                  have rl := H_rl.out
                  have rm := H_rm.out
                  have bw := H_bw.out
                  have zw := H_zw.out
                  clear H_rl H_rm H_bw H_zw
                  replace rl := rl.below (Nat.le_refl _) b110
                  replace rm := rm.below (Nat.le_refl _) b110
                  replace bw := bw.trans (b110.mono zw)
                  replace zw : g ≤ x110.heap.size := Nat.le_trans zw b110.size
                  clear b110
                  have HE : Hid (Below g w x110) := bw
                  clear bw zw rl rm
                  go_wp2
                  go_ret
                  exact ⟨rfl, HE.out⟩
        · by_cases h0 : n < 0
          · have hz9 : ¬ n ≥ 0 := by omega
            have hno : ¬ (n ≥ 0 ∧ n ≤ 1024) := by omega
            have CC : Hid _ := powWno b n (by omega) x3
            have H_rl : Hid (RG Value.string x3 (.slice lo ln lc) L1) := rl
            have H_rm : Hid (RG Value.string x3 (.slice mo ln mc) L1) := rm
            have H_bw : Hid (Below g w x3) := bw
            have H_zw : Hid (g ≤ x3.heap.size) := zw
            clear rl rm bw zw
            go_wp2_with fail
            refine Calls.mono CC.out ?_
            rintro e x104 ⟨rfl, b104⟩
            clear CC
            have rl := H_rl.out
            have rm := H_rm.out
            have bw := H_bw.out
            have zw := H_zw.out
            clear H_rl H_rm H_bw H_zw
            replace rl := rl.below (Nat.le_refl _) b104
            replace rm := rm.below (Nat.le_refl _) b104
            replace bw := bw.trans (b104.mono zw)
            replace zw : g ≤ x104.heap.size := Nat.le_trans zw b104.size
            clear b104
            have CL : Hid (∀ W, Below x104.heap.size x104 W → ∀ i, i < ln → ∃ y gg o, L1[i]? = some y ∧ lo = some ⟨gg, o, none⟩ ∧ W.cell? ⟨gg, o + i, none⟩ = some (.string y)) := fun W h i hi => (rl.below (Nat.le_refl _) h).at hi
            have CM : Hid (∀ W, Below x104.heap.size x104 W → ∀ i, i < ln → ∃ y gg o, L1[i]? = some y ∧ mo = some ⟨gg, o, none⟩ ∧ W.cell? ⟨gg, o + i, none⟩ = some (.string y)) := fun W h i hi => (rm.below (Nat.le_refl _) h).at hi
            have H_rl : Hid (RG Value.string x104 (.slice lo ln lc) L1) := rl
            have H_rm : Hid (RG Value.string x104 (.slice mo ln mc) L1) := rm
            have H_bw : Hid (Below g w x104) := bw
            have H_zw : Hid (g ≤ x104.heap.size) := zw
            clear rl rm bw zw
            go_wp2
            go_loopg [7, 19] ln (fun g1 v7 v19 wr => ∃ i : Nat, v7 = .bool true ∧ v19 = .int .i64 i ∧ i ≤ ln ∧ ln - i ≤ g1 ∧ Hid (Below x104.heap.size x104 wr))
            case atStart => exact ⟨0, rfl, rfl, Nat.zero_le _, by omega, Below.refl _ _⟩
            case round =>
              obtain ⟨j, rfl, rfl, hjn, hg2, HB⟩ := hrel
              by_cases hlt : j < ln
              · have hltz : (j : Int) < (ln : Int) := by omega
                obtain ⟨y, gl, ol, hy, e1, c1⟩ := CL.out _ HB.out j hlt
                subst e1
                obtain ⟨y2, gm, om, hy2, e2, c2⟩ := CM.out _ HB.out j hlt
                subst e2
                have hyy : y = y2 := by rw [hy] at hy2; exact Option.some.inj hy2
                subst hyy
                have hself : (y.toList == y.toList) = true := by simp
                clear hy hy2
                go_wp2_with fail
                go_quiet (fail)
                have HB2 : Hid (Below x104.heap.size x104 (wr.drewN nq)) := below_drewW HB.out nq
                clear HB c1 c2 hself
                generalize wr.drewN nq = wq at HB2 ⊢
                clear nq
                go_wp2
                go_roundg (ln - (j + 1))
                case measure => omega
                case rel => exact ⟨j + 1, rfl, by go_num, by omega, Nat.le_refl _, HB2⟩
              · have hltz : ¬ (j : Int) < (ln : Int) := by omega
                have bl := HB.out
                clear HB CL CM
                have rl := H_rl.out
                have rm := H_rm.out
                have bw := H_bw.out
                have zw := H_zw.out
                clear H_rl H_rm H_bw H_zw
                replace rl := rl.below (Nat.le_refl _) bl
                replace rm := rm.below (Nat.le_refl _) bl
                replace bw := bw.trans (bl.mono zw)
                replace zw : g ≤ wr.heap.size := Nat.le_trans zw bl.size
                clear bl
                have CC : Hid _ := powWnil b n wr
                have H_rl : Hid (RG Value.string wr (.slice lo ln lc) L1) := rl
                have H_rm : Hid (RG Value.string wr (.slice mo ln mc) L1) := rm
                have H_bw : Hid (Below g w wr) := bw
                have H_zw : Hid (g ≤ wr.heap.size) := zw
                clear rl rm bw zw
                go_wp2_with fail
                refine Calls.mono CC.out ?_
                rintro e x105 ⟨rfl, b105⟩
                clear CC
                have rl := H_rl.out
                have rm := H_rm.out
                have bw := H_bw.out
                have zw := H_zw.out
                clear H_rl H_rm H_bw H_zw
                replace rl := rl.below (Nat.le_refl _) b105
                replace rm := rm.below (Nat.le_refl _) b105
                replace bw := bw.trans (b105.mono zw)
                replace zw : g ≤ x105.heap.size := Nat.le_trans zw b105.size
                clear b105
                have CC : Hid _ := sumWNil (.slice mo ln mc) x105
                have H_rl : Hid (RG Value.string x105 (.slice lo ln lc) L1) := rl
                have H_rm : Hid (RG Value.string x105 (.slice mo ln mc) L1) := rm
                have H_bw : Hid (Below g w x105) := bw
                have H_zw : Hid (g ≤ x105.heap.size) := zw
                clear rl rm bw zw
                go_wp2_with fail
                refine Calls.mono CC.out ?_
                rintro e x106 ⟨rfl, b106⟩
                clear CC
                have rl := H_rl.out
                have rm := H_rm.out
                have bw := H_bw.out
                have zw := H_zw.out
                clear H_rl H_rm H_bw H_zw
                replace rl := rl.below (Nat.le_refl _) b106
                replace rm := rm.below (Nat.le_refl _) b106
                replace bw := bw.trans (b106.mono zw)
                replace zw : g ≤ x106.heap.size := Nat.le_trans zw b106.size
                clear b106
                have CC : Hid _ := prodWNil (.slice mo ln mc) x106
                have H_rl : Hid (RG Value.string x106 (.slice lo ln lc) L1) := rl
                have H_rm : Hid (RG Value.string x106 (.slice mo ln mc) L1) := rm
                have H_bw : Hid (Below g w x106) := bw
                have H_zw : Hid (g ≤ x106.heap.size) := zw
                clear rl rm bw zw
                go_wp2_with fail
                refine Calls.mono CC.out ?_
                rintro e x107 ⟨rfl, b107⟩
                clear CC
                have rl := H_rl.out
                have rm := H_rm.out
                have bw := H_bw.out
                have zw := H_zw.out
                clear H_rl H_rm H_bw H_zw
                replace rl := rl.below (Nat.le_refl _) b107
                replace rm := rm.below (Nat.le_refl _) b107
                replace bw := bw.trans (b107.mono zw)
                replace zw : g ≤ x107.heap.size := Nat.le_trans zw b107.size
                clear b107
                have CC : Hid _ := (by have h := wordsR ⟨#[48]⟩ ⟨#[43]⟩ rfl rfl _ L1 _ rl (by have := HL1.out; omega) HX1.out; rw [Ht1.out] at h; exact h)
                have H_rl : Hid (RG Value.string x107 (.slice lo ln lc) L1) := rl
                have H_rm : Hid (RG Value.string x107 (.slice mo ln mc) L1) := rm
                have H_bw : Hid (Below g w x107) := bw
                have H_zw : Hid (g ≤ x107.heap.size) := zw
                clear rl rm bw zw
                go_wp2_with fail
                refine Calls.mono CC.out ?_
                rintro e x108 ⟨rfl, b108⟩
                clear CC
                have rl := H_rl.out
                have rm := H_rm.out
                have bw := H_bw.out
                have zw := H_zw.out
                clear H_rl H_rm H_bw H_zw
                replace rl := rl.below (Nat.le_refl _) b108
                replace rm := rm.below (Nat.le_refl _) b108
                replace bw := bw.trans (b108.mono zw)
                replace zw : g ≤ x108.heap.size := Nat.le_trans zw b108.size
                clear b108
                have CC : Hid _ := (by have h := wordsR ⟨#[49]⟩ ⟨#[42]⟩ rfl rfl _ L1 _ rl (by have := HL1.out; omega) HX1.out; rw [Ht2.out] at h; exact h)
                have H_rl : Hid (RG Value.string x108 (.slice lo ln lc) L1) := rl
                have H_rm : Hid (RG Value.string x108 (.slice mo ln mc) L1) := rm
                have H_bw : Hid (Below g w x108) := bw
                have H_zw : Hid (g ≤ x108.heap.size) := zw
                clear rl rm bw zw
                go_wp2_with fail
                refine Calls.mono CC.out ?_
                rintro e x109 ⟨rfl, b109⟩
                clear CC
                have rl := H_rl.out
                have rm := H_rm.out
                have bw := H_bw.out
                have zw := H_zw.out
                clear H_rl H_rm H_bw H_zw
                replace rl := rl.below (Nat.le_refl _) b109
                replace rm := rm.below (Nat.le_refl _) b109
                replace bw := bw.trans (b109.mono zw)
                replace zw : g ≤ x109.heap.size := Nat.le_trans zw b109.size
                clear b109
                have HE : Hid (Below g w x109) := bw
                clear bw zw rl rm
                go_wp2
                go_ret
                exact ⟨rfl, HE.out⟩
          · have hz8 : n ≥ 0 := by omega
            have hz9 : ¬ n ≤ 1024 := by omega
            have hno : ¬ (n ≥ 0 ∧ n ≤ 1024) := by omega
            have CC : Hid _ := powWno b n (by omega) x3
            have H_rl : Hid (RG Value.string x3 (.slice lo ln lc) L1) := rl
            have H_rm : Hid (RG Value.string x3 (.slice mo ln mc) L1) := rm
            have H_bw : Hid (Below g w x3) := bw
            have H_zw : Hid (g ≤ x3.heap.size) := zw
            clear rl rm bw zw
            go_wp2_with fail
            refine Calls.mono CC.out ?_
            rintro e x104 ⟨rfl, b104⟩
            clear CC
            have rl := H_rl.out
            have rm := H_rm.out
            have bw := H_bw.out
            have zw := H_zw.out
            clear H_rl H_rm H_bw H_zw
            replace rl := rl.below (Nat.le_refl _) b104
            replace rm := rm.below (Nat.le_refl _) b104
            replace bw := bw.trans (b104.mono zw)
            replace zw : g ≤ x104.heap.size := Nat.le_trans zw b104.size
            clear b104
            have CL : Hid (∀ W, Below x104.heap.size x104 W → ∀ i, i < ln → ∃ y gg o, L1[i]? = some y ∧ lo = some ⟨gg, o, none⟩ ∧ W.cell? ⟨gg, o + i, none⟩ = some (.string y)) := fun W h i hi => (rl.below (Nat.le_refl _) h).at hi
            have CM : Hid (∀ W, Below x104.heap.size x104 W → ∀ i, i < ln → ∃ y gg o, L1[i]? = some y ∧ mo = some ⟨gg, o, none⟩ ∧ W.cell? ⟨gg, o + i, none⟩ = some (.string y)) := fun W h i hi => (rm.below (Nat.le_refl _) h).at hi
            have H_rl : Hid (RG Value.string x104 (.slice lo ln lc) L1) := rl
            have H_rm : Hid (RG Value.string x104 (.slice mo ln mc) L1) := rm
            have H_bw : Hid (Below g w x104) := bw
            have H_zw : Hid (g ≤ x104.heap.size) := zw
            clear rl rm bw zw
            go_wp2
            go_loopg [7, 19] ln (fun g1 v7 v19 wr => ∃ i : Nat, v7 = .bool true ∧ v19 = .int .i64 i ∧ i ≤ ln ∧ ln - i ≤ g1 ∧ Hid (Below x104.heap.size x104 wr))
            case atStart => exact ⟨0, rfl, rfl, Nat.zero_le _, by omega, Below.refl _ _⟩
            case round =>
              obtain ⟨j, rfl, rfl, hjn, hg2, HB⟩ := hrel
              by_cases hlt : j < ln
              · have hltz : (j : Int) < (ln : Int) := by omega
                obtain ⟨y, gl, ol, hy, e1, c1⟩ := CL.out _ HB.out j hlt
                subst e1
                obtain ⟨y2, gm, om, hy2, e2, c2⟩ := CM.out _ HB.out j hlt
                subst e2
                have hyy : y = y2 := by rw [hy] at hy2; exact Option.some.inj hy2
                subst hyy
                have hself : (y.toList == y.toList) = true := by simp
                clear hy hy2
                go_wp2_with fail
                go_quiet (fail)
                have HB2 : Hid (Below x104.heap.size x104 (wr.drewN nq)) := below_drewW HB.out nq
                clear HB c1 c2 hself
                generalize wr.drewN nq = wq at HB2 ⊢
                clear nq
                go_wp2
                go_roundg (ln - (j + 1))
                case measure => omega
                case rel => exact ⟨j + 1, rfl, by go_num, by omega, Nat.le_refl _, HB2⟩
              · have hltz : ¬ (j : Int) < (ln : Int) := by omega
                have bl := HB.out
                clear HB CL CM
                have rl := H_rl.out
                have rm := H_rm.out
                have bw := H_bw.out
                have zw := H_zw.out
                clear H_rl H_rm H_bw H_zw
                replace rl := rl.below (Nat.le_refl _) bl
                replace rm := rm.below (Nat.le_refl _) bl
                replace bw := bw.trans (bl.mono zw)
                replace zw : g ≤ wr.heap.size := Nat.le_trans zw bl.size
                clear bl
                have CC : Hid _ := powWnil b n wr
                have H_rl : Hid (RG Value.string wr (.slice lo ln lc) L1) := rl
                have H_rm : Hid (RG Value.string wr (.slice mo ln mc) L1) := rm
                have H_bw : Hid (Below g w wr) := bw
                have H_zw : Hid (g ≤ wr.heap.size) := zw
                clear rl rm bw zw
                go_wp2_with fail
                refine Calls.mono CC.out ?_
                rintro e x105 ⟨rfl, b105⟩
                clear CC
                have rl := H_rl.out
                have rm := H_rm.out
                have bw := H_bw.out
                have zw := H_zw.out
                clear H_rl H_rm H_bw H_zw
                replace rl := rl.below (Nat.le_refl _) b105
                replace rm := rm.below (Nat.le_refl _) b105
                replace bw := bw.trans (b105.mono zw)
                replace zw : g ≤ x105.heap.size := Nat.le_trans zw b105.size
                clear b105
                have CC : Hid _ := sumWNil (.slice mo ln mc) x105
                have H_rl : Hid (RG Value.string x105 (.slice lo ln lc) L1) := rl
                have H_rm : Hid (RG Value.string x105 (.slice mo ln mc) L1) := rm
                have H_bw : Hid (Below g w x105) := bw
                have H_zw : Hid (g ≤ x105.heap.size) := zw
                clear rl rm bw zw
                go_wp2_with fail
                refine Calls.mono CC.out ?_
                rintro e x106 ⟨rfl, b106⟩
                clear CC
                have rl := H_rl.out
                have rm := H_rm.out
                have bw := H_bw.out
                have zw := H_zw.out
                clear H_rl H_rm H_bw H_zw
                replace rl := rl.below (Nat.le_refl _) b106
                replace rm := rm.below (Nat.le_refl _) b106
                replace bw := bw.trans (b106.mono zw)
                replace zw : g ≤ x106.heap.size := Nat.le_trans zw b106.size
                clear b106
                have CC : Hid _ := prodWNil (.slice mo ln mc) x106
                have H_rl : Hid (RG Value.string x106 (.slice lo ln lc) L1) := rl
                have H_rm : Hid (RG Value.string x106 (.slice mo ln mc) L1) := rm
                have H_bw : Hid (Below g w x106) := bw
                have H_zw : Hid (g ≤ x106.heap.size) := zw
                clear rl rm bw zw
                go_wp2_with fail
                refine Calls.mono CC.out ?_
                rintro e x107 ⟨rfl, b107⟩
                clear CC
                have rl := H_rl.out
                have rm := H_rm.out
                have bw := H_bw.out
                have zw := H_zw.out
                clear H_rl H_rm H_bw H_zw
                replace rl := rl.below (Nat.le_refl _) b107
                replace rm := rm.below (Nat.le_refl _) b107
                replace bw := bw.trans (b107.mono zw)
                replace zw : g ≤ x107.heap.size := Nat.le_trans zw b107.size
                clear b107
                have CC : Hid _ := (by have h := wordsR ⟨#[48]⟩ ⟨#[43]⟩ rfl rfl _ L1 _ rl (by have := HL1.out; omega) HX1.out; rw [Ht1.out] at h; exact h)
                have H_rl : Hid (RG Value.string x107 (.slice lo ln lc) L1) := rl
                have H_rm : Hid (RG Value.string x107 (.slice mo ln mc) L1) := rm
                have H_bw : Hid (Below g w x107) := bw
                have H_zw : Hid (g ≤ x107.heap.size) := zw
                clear rl rm bw zw
                go_wp2_with fail
                refine Calls.mono CC.out ?_
                rintro e x108 ⟨rfl, b108⟩
                clear CC
                have rl := H_rl.out
                have rm := H_rm.out
                have bw := H_bw.out
                have zw := H_zw.out
                clear H_rl H_rm H_bw H_zw
                replace rl := rl.below (Nat.le_refl _) b108
                replace rm := rm.below (Nat.le_refl _) b108
                replace bw := bw.trans (b108.mono zw)
                replace zw : g ≤ x108.heap.size := Nat.le_trans zw b108.size
                clear b108
                have CC : Hid _ := (by have h := wordsR ⟨#[49]⟩ ⟨#[42]⟩ rfl rfl _ L1 _ rl (by have := HL1.out; omega) HX1.out; rw [Ht2.out] at h; exact h)
                have H_rl : Hid (RG Value.string x108 (.slice lo ln lc) L1) := rl
                have H_rm : Hid (RG Value.string x108 (.slice mo ln mc) L1) := rm
                have H_bw : Hid (Below g w x108) := bw
                have H_zw : Hid (g ≤ x108.heap.size) := zw
                clear rl rm bw zw
                go_wp2_with fail
                refine Calls.mono CC.out ?_
                rintro e x109 ⟨rfl, b109⟩
                clear CC
                have rl := H_rl.out
                have rm := H_rm.out
                have bw := H_bw.out
                have zw := H_zw.out
                clear H_rl H_rm H_bw H_zw
                replace rl := rl.below (Nat.le_refl _) b109
                replace rm := rm.below (Nat.le_refl _) b109
                replace bw := bw.trans (b109.mono zw)
                replace zw : g ≤ x109.heap.size := Nat.le_trans zw b109.size
                clear b109
                have HE : Hid (Below g w x109) := bw
                clear bw zw rl rm
                go_wp2
                go_ret
                exact ⟨rfl, HE.out⟩
      · have h20z : ¬ (a.size : Int) > 20 := by omega
        have hb20 : a.size ≤ 20 := by omega
        obtain ⟨b, hb⟩ : ∃ b, b = a := ⟨_, rfl⟩
        subst hb
        have P0 : Hid (OG Value.string W2.heap.size 9 W2 (.slice none 0 0) []) := OG.nil _ _ _
        have R0 : Hid (RG Value.string W2 (.slice lo ln lc) L1) := rl
        have Z0 : Hid (W2.heap.size ≤ W2.heap.size) := Nat.le_refl _
        have Q0 : Hid (Below W2.heap.size W2 W2) := Below.refl _ _
        have H_rl : Hid (RG Value.string W2 (.slice lo ln lc) L1) := rl
        have H_bw : Hid (Below g w W2) := bw
        have H_zw : Hid (g ≤ W2.heap.size) := zw
        clear rl bw zw
        go_wp2_with (at_builtin; refine wpList_appG _ oneW rfl _ _ 22 rfl W2.heap.size 9 i0 (.string ⟨#[]⟩) 16 Tryz.underlying22 hi hz0 hz1 hz2 rfl _ _ [] L1 rfl P0.out rfl R0.out (by have := HL1.out; unfold maxLen; simp only [List.length_nil]; omega) (by have := HL1.out; simp only [List.length_nil]; omega) Z0.out ?_)
        intro vm wm ho hgr
        have bq : Below W2.heap.size W2 wm := P0.out.grown Q0.out Z0.out hgr
        have rm := ho.rg
        clear ho hgr P0 R0 Z0 Q0
        have rl := H_rl.out
        have bw := H_bw.out
        have zw := H_zw.out
        clear H_rl H_bw H_zw
        obtain ⟨mo, mc, hvm⟩ := rm.sl
        obtain ⟨mn, hmn⟩ : ∃ k, k = L1.length := ⟨_, rfl⟩
        have hmn2 : mn = ln := hmn.trans HL1.out
        rw [← hmn, hmn2] at hvm
        subst hvm
        clear hmn hmn2 mn
        replace rl := rl.below (Nat.le_refl _) bq
        replace bw := bw.trans (bq.mono zw)
        replace zw : g ≤ wm.heap.size := Nat.le_trans zw bq.size
        clear bq
        have CC : Hid _ := sumW _ L1 _ rm (by have := HL1.out; omega) HX1.out
        have H_rl : Hid (RG Value.string wm (.slice lo ln lc) L1) := rl
        have H_rm : Hid (RG Value.string wm (.slice mo ln mc) L1) := rm
        have H_bw : Hid (Below g w wm) := bw
        have H_zw : Hid (g ≤ wm.heap.size) := zw
        clear rl rm bw zw
        go_wp2_with fail
        refine Calls.mono CC.out ?_
        rintro e x2 ⟨rfl, b2⟩
        clear CC
        have rl := H_rl.out
        have rm := H_rm.out
        have bw := H_bw.out
        have zw := H_zw.out
        clear H_rl H_rm H_bw H_zw
        replace rl := rl.below (Nat.le_refl _) b2
        replace rm := rm.below (Nat.le_refl _) b2
        replace bw := bw.trans (b2.mono zw)
        replace zw : g ≤ x2.heap.size := Nat.le_trans zw b2.size
        clear b2
        obtain ⟨t1, ht1⟩ : ∃ s, s = wdF ⟨#[48]⟩ ⟨#[43]⟩ L1 := ⟨_, rfl⟩
        rw [← ht1]
        have Ht1 : Hid (wdF ⟨#[48]⟩ ⟨#[43]⟩ L1 = t1) := ht1.symm
        clear ht1
        have CC : Hid _ := prodW _ L1 _ rm (by have := HL1.out; omega) HX1.out
        have H_rl : Hid (RG Value.string x2 (.slice lo ln lc) L1) := rl
        have H_rm : Hid (RG Value.string x2 (.slice mo ln mc) L1) := rm
        have H_bw : Hid (Below g w x2) := bw
        have H_zw : Hid (g ≤ x2.heap.size) := zw
        clear rl rm bw zw
        go_wp2_with fail
        refine Calls.mono CC.out ?_
        rintro e x3 ⟨rfl, b3⟩
        clear CC
        have rl := H_rl.out
        have rm := H_rm.out
        have bw := H_bw.out
        have zw := H_zw.out
        clear H_rl H_rm H_bw H_zw
        replace rl := rl.below (Nat.le_refl _) b3
        replace rm := rm.below (Nat.le_refl _) b3
        replace bw := bw.trans (b3.mono zw)
        replace zw : g ≤ x3.heap.size := Nat.le_trans zw b3.size
        clear b3
        obtain ⟨t2, ht2⟩ : ∃ s, s = wdF ⟨#[49]⟩ ⟨#[42]⟩ L1 := ⟨_, rfl⟩
        rw [← ht2]
        have Ht2 : Hid (wdF ⟨#[49]⟩ ⟨#[42]⟩ L1 = t2) := ht2.symm
        clear ht2
        by_cases hr : n ≥ 0 ∧ n ≤ 1024
        · obtain ⟨N, hN⟩ : ∃ N : Nat, n = (N : Int) := ⟨n.toNat, by omega⟩
          subst hN
          have hN1 : N ≤ 1024 := by omega
          have hge : (N : Int) ≥ 0 := by omega
          have hle : (N : Int) ≤ 1024 := by omega
          have CC : Hid _ := powW b N x3 hb20 hN1
          have H_rl : Hid (RG Value.string x3 (.slice lo ln lc) L1) := rl
          have H_rm : Hid (RG Value.string x3 (.slice mo ln mc) L1) := rm
          have H_bw : Hid (Below g w x3) := bw
          have H_zw : Hid (g ≤ x3.heap.size) := zw
          clear rl rm bw zw
          go_wp2_with fail
          refine Calls.mono CC.out ?_
          rintro e x104 ⟨rfl, b104⟩
          clear CC
          have rl := H_rl.out
          have rm := H_rm.out
          have bw := H_bw.out
          have zw := H_zw.out
          clear H_rl H_rm H_bw H_zw
          replace rl := rl.below (Nat.le_refl _) b104
          replace rm := rm.below (Nat.le_refl _) b104
          replace bw := bw.trans (b104.mono zw)
          replace zw : g ≤ x104.heap.size := Nat.le_trans zw b104.size
          clear b104
          obtain ⟨t3, ht3⟩ : ∃ s, s = wdF ⟨#[49]⟩ ⟨#[42]⟩ (List.replicate N b) := ⟨_, rfl⟩
          rw [← ht3]
          have Ht3 : Hid (wdF ⟨#[49]⟩ ⟨#[42]⟩ (List.replicate N b) = t3) := ht3.symm
          clear ht3
          have HBZ2 : Hid (x104.heap.size ≤ x104.heap.size) := Nat.le_refl _
          have H_rl : Hid (RG Value.string x104 (.slice lo ln lc) L1) := rl
          have H_rm : Hid (RG Value.string x104 (.slice mo ln mc) L1) := rm
          have H_bw : Hid (Below g w x104) := bw
          have H_zw : Hid (g ≤ x104.heap.size) := zw
          clear rl rm bw zw
          go_wp2
          go_loopg [17, 18] N (fun g1 v17 v18 wr => ∃ (i : Nat) (ao : Option Addr) (al ac : Nat), v17 = .slice ao al ac ∧ v18 = .int .i64 i ∧ i ≤ N ∧ N - i ≤ g1 ∧ Hid (OG Value.string x104.heap.size 9 wr (.slice ao al ac) (List.replicate i b)) ∧ Hid (Below x104.heap.size x104 wr))
          case atStart => exact ⟨0, none, 0, 0, rfl, rfl, Nat.zero_le _, by omega, OG.nil _ _ _, Below.refl _ _⟩
          case round =>
            obtain ⟨i, ao, al, ac, rfl, rfl, hin, hg1, HO, HB⟩ := hrel
            by_cases hlt : i < N
            · have hltz : (i : Int) < (N : Int) := by omega
              have O3 : Hid (OG Value.string x104.heap.size 9 (wr.alloc (.cells #[.string b] 9)) (.slice ao al ac) (List.replicate i b)) := HO.out.below (belowA _ _)
              have R3 : Hid (RG Value.string (wr.alloc (.cells #[.string b] 9)) (.slice (some ⟨wr.heap.size, 0, none⟩) 1 1) [b]) := (OG.lit (enc := Value.string) 9 wr [b] (by unfold maxLen; simp)).rg
              have B3 : Hid (Below x104.heap.size x104 (wr.alloc (.cells #[.string b] 9))) := HB.out.alloc HB.out.size _
              have Z3 : Hid (x104.heap.size ≤ (wr.alloc (.cells #[.string b] 9)).heap.size) := B3.out.size
              go_wp2_with (at_builtin; refine wpList_appG _ oneW rfl _ _ 22 rfl x104.heap.size 9 i0 (.string ⟨#[]⟩) 16 Tryz.underlying22 hi hz0 hz1 hz2 rfl _ _ (List.replicate i b) [b] rfl O3.out rfl R3.out (by unfold maxLen; rw [List.length_replicate]; simp only [List.length_cons, List.length_nil]; omega) (by rw [List.length_replicate]; simp only [List.length_cons, List.length_nil]; omega) Z3.out ?_)
              intro v' w' ho hgr
              have HO4 : Hid (OG Value.string x104.heap.size 9 w' v' (List.replicate (i + 1) b)) := by rw [List.replicate_succ']; exact ho
              have HB4 : Hid (Below x104.heap.size x104 w') := O3.out.grown B3.out Z3.out hgr
              obtain ⟨no, nc, hnv, -⟩ := HO4.out.sl
              obtain ⟨nl, hnl⟩ : ∃ k, k = (List.replicate (i + 1) b).length := ⟨_, rfl⟩
              rw [← hnl] at hnv
              subst hnv
              clear hnl ho hgr O3 R3 B3 Z3
              go_wp2
              go_roundg (N - (i + 1))
              case measure => omega
              case rel => exact ⟨i + 1, _, _, _, rfl, by go_num, by omega, Nat.le_refl _, HO4, HB4⟩
            · have hltz : ¬ (i : Int) < (N : Int) := by omega
              have hie : i = N := by omega
              subst hie
              have ra := HO.out.rg
              have bl := HB.out
              clear HO HB
              have rl := H_rl.out
              have rm := H_rm.out
              have bw := H_bw.out
              have zw := H_zw.out
              clear H_rl H_rm H_bw H_zw
              replace rl := rl.below (Nat.le_refl _) bl
              replace rm := rm.below (Nat.le_refl _) bl
              replace bw := bw.trans (bl.mono zw)
              replace zw : g ≤ wr.heap.size := Nat.le_trans zw bl.size
              clear bl
              have CC : Hid _ := (by have h := wordsR ⟨#[49]⟩ ⟨#[42]⟩ rfl rfl _ (List.replicate i b) _ ra (by rw [List.length_replicate]; omega) (fun x hx => by rw [List.eq_of_mem_replicate hx]; exact hb20); rw [Ht3.out] at h; exact h)
              have H_rl : Hid (RG Value.string wr (.slice lo ln lc) L1) := rl
              have H_rm : Hid (RG Value.string wr (.slice mo ln mc) L1) := rm
              have H_ra : Hid (RG Value.string wr (.slice ao al ac) (List.replicate i b)) := ra
              have H_bw : Hid (Below g w wr) := bw
              have H_zw : Hid (g ≤ wr.heap.size) := zw
              clear rl rm ra bw zw
              go_wp2_with fail
              refine Calls.mono CC.out ?_
              rintro e x105 ⟨rfl, b105⟩
              clear CC
              have rl := H_rl.out
              have rm := H_rm.out
              have ra := H_ra.out
              have bw := H_bw.out
              have zw := H_zw.out
              clear H_rl H_rm H_ra H_bw H_zw
              replace rl := rl.below (Nat.le_refl _) b105
              replace rm := rm.below (Nat.le_refl _) b105
              replace ra := ra.below (Nat.le_refl _) b105
              replace bw := bw.trans (b105.mono zw)
              replace zw : g ≤ x105.heap.size := Nat.le_trans zw b105.size
              clear b105
              clear ra
              have CL : Hid (∀ W, Below x105.heap.size x105 W → ∀ i, i < ln → ∃ y gg o, L1[i]? = some y ∧ lo = some ⟨gg, o, none⟩ ∧ W.cell? ⟨gg, o + i, none⟩ = some (.string y)) := fun W h i hi => (rl.below (Nat.le_refl _) h).at hi
              have CM : Hid (∀ W, Below x105.heap.size x105 W → ∀ i, i < ln → ∃ y gg o, L1[i]? = some y ∧ mo = some ⟨gg, o, none⟩ ∧ W.cell? ⟨gg, o + i, none⟩ = some (.string y)) := fun W h i hi => (rm.below (Nat.le_refl _) h).at hi
              have H_rl : Hid (RG Value.string x105 (.slice lo ln lc) L1) := rl
              have H_rm : Hid (RG Value.string x105 (.slice mo ln mc) L1) := rm
              have H_bw : Hid (Below g w x105) := bw
              have H_zw : Hid (g ≤ x105.heap.size) := zw
              clear rl rm bw zw
              go_wp2
              go_loopg [7, 19] ln (fun g1 v7 v19 wr => ∃ i : Nat, v7 = .bool true ∧ v19 = .int .i64 i ∧ i ≤ ln ∧ ln - i ≤ g1 ∧ Hid (Below x105.heap.size x105 wr))
              case atStart => exact ⟨0, rfl, rfl, Nat.zero_le _, by omega, Below.refl _ _⟩
              case round =>
                obtain ⟨j, rfl, rfl, hjn, hg2, HB⟩ := hrel
                by_cases hlt : j < ln
                · have hltz : (j : Int) < (ln : Int) := by omega
                  obtain ⟨y, gl, ol, hy, e1, c1⟩ := CL.out _ HB.out j hlt
                  subst e1
                  obtain ⟨y2, gm, om, hy2, e2, c2⟩ := CM.out _ HB.out j hlt
                  subst e2
                  have hyy : y = y2 := by rw [hy] at hy2; exact Option.some.inj hy2
                  subst hyy
                  have hself : (y.toList == y.toList) = true := by simp
                  clear hy hy2
                  go_wp2_with fail
                  go_quiet (fail)
                  have HB2 : Hid (Below x105.heap.size x105 (wr.drewN nq)) := below_drewW HB.out nq
                  clear HB c1 c2 hself
                  generalize wr.drewN nq = wq at HB2 ⊢
                  clear nq
                  go_wp2
                  go_roundg (ln - (j + 1))
                  case measure => omega
                  case rel => exact ⟨j + 1, rfl, by go_num, by omega, Nat.le_refl _, HB2⟩
                · have hltz : ¬ (j : Int) < (ln : Int) := by omega
                  have bl := HB.out
                  clear HB CL CM
                  have rl := H_rl.out
                  have rm := H_rm.out
                  have bw := H_bw.out
                  have zw := H_zw.out
                  clear H_rl H_rm H_bw H_zw
                  replace rl := rl.below (Nat.le_refl _) bl
                  replace rm := rm.below (Nat.le_refl _) bl
                  replace bw := bw.trans (bl.mono zw)
                  replace zw : g ≤ wr.heap.size := Nat.le_trans zw bl.size
                  clear bl
                  have CC : Hid _ := powWnil b (i : Int) wr
                  have H_rl : Hid (RG Value.string wr (.slice lo ln lc) L1) := rl
                  have H_rm : Hid (RG Value.string wr (.slice mo ln mc) L1) := rm
                  have H_bw : Hid (Below g w wr) := bw
                  have H_zw : Hid (g ≤ wr.heap.size) := zw
                  clear rl rm bw zw
                  go_wp2_with fail
                  refine Calls.mono CC.out ?_
                  rintro e x106 ⟨rfl, b106⟩
                  clear CC
                  have rl := H_rl.out
                  have rm := H_rm.out
                  have bw := H_bw.out
                  have zw := H_zw.out
                  clear H_rl H_rm H_bw H_zw
                  replace rl := rl.below (Nat.le_refl _) b106
                  replace rm := rm.below (Nat.le_refl _) b106
                  replace bw := bw.trans (b106.mono zw)
                  replace zw : g ≤ x106.heap.size := Nat.le_trans zw b106.size
                  clear b106
                  have CC : Hid _ := sumWNil (.slice mo ln mc) x106
                  have H_rl : Hid (RG Value.string x106 (.slice lo ln lc) L1) := rl
                  have H_rm : Hid (RG Value.string x106 (.slice mo ln mc) L1) := rm
                  have H_bw : Hid (Below g w x106) := bw
                  have H_zw : Hid (g ≤ x106.heap.size) := zw
                  clear rl rm bw zw
                  go_wp2_with fail
                  refine Calls.mono CC.out ?_
                  rintro e x107 ⟨rfl, b107⟩
                  clear CC
                  have rl := H_rl.out
                  have rm := H_rm.out
                  have bw := H_bw.out
                  have zw := H_zw.out
                  clear H_rl H_rm H_bw H_zw
                  replace rl := rl.below (Nat.le_refl _) b107
                  replace rm := rm.below (Nat.le_refl _) b107
                  replace bw := bw.trans (b107.mono zw)
                  replace zw : g ≤ x107.heap.size := Nat.le_trans zw b107.size
                  clear b107
                  have CC : Hid _ := prodWNil (.slice mo ln mc) x107
                  have H_rl : Hid (RG Value.string x107 (.slice lo ln lc) L1) := rl
                  have H_rm : Hid (RG Value.string x107 (.slice mo ln mc) L1) := rm
                  have H_bw : Hid (Below g w x107) := bw
                  have H_zw : Hid (g ≤ x107.heap.size) := zw
                  clear rl rm bw zw
                  go_wp2_with fail
                  refine Calls.mono CC.out ?_
                  rintro e x108 ⟨rfl, b108⟩
                  clear CC
                  have rl := H_rl.out
                  have rm := H_rm.out
                  have bw := H_bw.out
                  have zw := H_zw.out
                  clear H_rl H_rm H_bw H_zw
                  replace rl := rl.below (Nat.le_refl _) b108
                  replace rm := rm.below (Nat.le_refl _) b108
                  replace bw := bw.trans (b108.mono zw)
                  replace zw : g ≤ x108.heap.size := Nat.le_trans zw b108.size
                  clear b108
                  have CC : Hid _ := (by have h := wordsR ⟨#[48]⟩ ⟨#[43]⟩ rfl rfl _ L1 _ rl (by have := HL1.out; omega) HX1.out; rw [Ht1.out] at h; exact h)
                  have H_rl : Hid (RG Value.string x108 (.slice lo ln lc) L1) := rl
                  have H_rm : Hid (RG Value.string x108 (.slice mo ln mc) L1) := rm
                  have H_bw : Hid (Below g w x108) := bw
                  have H_zw : Hid (g ≤ x108.heap.size) := zw
                  clear rl rm bw zw
                  go_wp2_with fail
                  refine Calls.mono CC.out ?_
                  rintro e x109 ⟨rfl, b109⟩
                  clear CC
                  have rl := H_rl.out
                  have rm := H_rm.out
                  have bw := H_bw.out
                  have zw := H_zw.out
                  clear H_rl H_rm H_bw H_zw
                  replace rl := rl.below (Nat.le_refl _) b109
                  replace rm := rm.below (Nat.le_refl _) b109
                  replace bw := bw.trans (b109.mono zw)
                  replace zw : g ≤ x109.heap.size := Nat.le_trans zw b109.size
                  clear b109
                  have CC : Hid _ := (by have h := wordsR ⟨#[49]⟩ ⟨#[42]⟩ rfl rfl _ L1 _ rl (by have := HL1.out; omega) HX1.out; rw [Ht2.out] at h; exact h)
                  have H_rl : Hid (RG Value.string x109 (.slice lo ln lc) L1) := rl
                  have H_rm : Hid (RG Value.string x109 (.slice mo ln mc) L1) := rm
                  have H_bw : Hid (Below g w x109) := bw
                  have H_zw : Hid (g ≤ x109.heap.size) := zw
                  clear rl rm bw zw
                  go_wp2_with fail
                  refine Calls.mono CC.out ?_
                  rintro e x110 ⟨rfl, b110⟩
                  clear CC
                  have rl := H_rl.out
                  have rm := H_rm.out
                  have bw := H_bw.out
                  have zw := H_zw.out
                  clear H_rl H_rm H_bw H_zw
                  replace rl := rl.below (Nat.le_refl _) b110
                  replace rm := rm.below (Nat.le_refl _) b110
                  replace bw := bw.trans (b110.mono zw)
                  replace zw : g ≤ x110.heap.size := Nat.le_trans zw b110.size
                  clear b110
                  have HE : Hid (Below g w x110) := bw
                  clear bw zw rl rm
                  go_wp2
                  go_ret
                  exact ⟨rfl, HE.out⟩
        · by_cases h0 : n < 0
          · have hz9 : ¬ n ≥ 0 := by omega
            have hno : ¬ (n ≥ 0 ∧ n ≤ 1024) := by omega
            have CC : Hid _ := powWno b n (by omega) x3
            have H_rl : Hid (RG Value.string x3 (.slice lo ln lc) L1) := rl
            have H_rm : Hid (RG Value.string x3 (.slice mo ln mc) L1) := rm
            have H_bw : Hid (Below g w x3) := bw
            have H_zw : Hid (g ≤ x3.heap.size) := zw
            clear rl rm bw zw
            go_wp2_with fail
            refine Calls.mono CC.out ?_
            rintro e x104 ⟨rfl, b104⟩
            clear CC
            have rl := H_rl.out
            have rm := H_rm.out
            have bw := H_bw.out
            have zw := H_zw.out
            clear H_rl H_rm H_bw H_zw
            replace rl := rl.below (Nat.le_refl _) b104
            replace rm := rm.below (Nat.le_refl _) b104
            replace bw := bw.trans (b104.mono zw)
            replace zw : g ≤ x104.heap.size := Nat.le_trans zw b104.size
            clear b104
            have CL : Hid (∀ W, Below x104.heap.size x104 W → ∀ i, i < ln → ∃ y gg o, L1[i]? = some y ∧ lo = some ⟨gg, o, none⟩ ∧ W.cell? ⟨gg, o + i, none⟩ = some (.string y)) := fun W h i hi => (rl.below (Nat.le_refl _) h).at hi
            have CM : Hid (∀ W, Below x104.heap.size x104 W → ∀ i, i < ln → ∃ y gg o, L1[i]? = some y ∧ mo = some ⟨gg, o, none⟩ ∧ W.cell? ⟨gg, o + i, none⟩ = some (.string y)) := fun W h i hi => (rm.below (Nat.le_refl _) h).at hi
            have H_rl : Hid (RG Value.string x104 (.slice lo ln lc) L1) := rl
            have H_rm : Hid (RG Value.string x104 (.slice mo ln mc) L1) := rm
            have H_bw : Hid (Below g w x104) := bw
            have H_zw : Hid (g ≤ x104.heap.size) := zw
            clear rl rm bw zw
            go_wp2
            go_loopg [7, 19] ln (fun g1 v7 v19 wr => ∃ i : Nat, v7 = .bool true ∧ v19 = .int .i64 i ∧ i ≤ ln ∧ ln - i ≤ g1 ∧ Hid (Below x104.heap.size x104 wr))
            case atStart => exact ⟨0, rfl, rfl, Nat.zero_le _, by omega, Below.refl _ _⟩
            case round =>
              obtain ⟨j, rfl, rfl, hjn, hg2, HB⟩ := hrel
              by_cases hlt : j < ln
              · have hltz : (j : Int) < (ln : Int) := by omega
                obtain ⟨y, gl, ol, hy, e1, c1⟩ := CL.out _ HB.out j hlt
                subst e1
                obtain ⟨y2, gm, om, hy2, e2, c2⟩ := CM.out _ HB.out j hlt
                subst e2
                have hyy : y = y2 := by rw [hy] at hy2; exact Option.some.inj hy2
                subst hyy
                have hself : (y.toList == y.toList) = true := by simp
                clear hy hy2
                go_wp2_with fail
                go_quiet (fail)
                have HB2 : Hid (Below x104.heap.size x104 (wr.drewN nq)) := below_drewW HB.out nq
                clear HB c1 c2 hself
                generalize wr.drewN nq = wq at HB2 ⊢
                clear nq
                go_wp2
                go_roundg (ln - (j + 1))
                case measure => omega
                case rel => exact ⟨j + 1, rfl, by go_num, by omega, Nat.le_refl _, HB2⟩
              · have hltz : ¬ (j : Int) < (ln : Int) := by omega
                have bl := HB.out
                clear HB CL CM
                have rl := H_rl.out
                have rm := H_rm.out
                have bw := H_bw.out
                have zw := H_zw.out
                clear H_rl H_rm H_bw H_zw
                replace rl := rl.below (Nat.le_refl _) bl
                replace rm := rm.below (Nat.le_refl _) bl
                replace bw := bw.trans (bl.mono zw)
                replace zw : g ≤ wr.heap.size := Nat.le_trans zw bl.size
                clear bl
                have CC : Hid _ := powWnil b n wr
                have H_rl : Hid (RG Value.string wr (.slice lo ln lc) L1) := rl
                have H_rm : Hid (RG Value.string wr (.slice mo ln mc) L1) := rm
                have H_bw : Hid (Below g w wr) := bw
                have H_zw : Hid (g ≤ wr.heap.size) := zw
                clear rl rm bw zw
                go_wp2_with fail
                refine Calls.mono CC.out ?_
                rintro e x105 ⟨rfl, b105⟩
                clear CC
                have rl := H_rl.out
                have rm := H_rm.out
                have bw := H_bw.out
                have zw := H_zw.out
                clear H_rl H_rm H_bw H_zw
                replace rl := rl.below (Nat.le_refl _) b105
                replace rm := rm.below (Nat.le_refl _) b105
                replace bw := bw.trans (b105.mono zw)
                replace zw : g ≤ x105.heap.size := Nat.le_trans zw b105.size
                clear b105
                have CC : Hid _ := sumWNil (.slice mo ln mc) x105
                have H_rl : Hid (RG Value.string x105 (.slice lo ln lc) L1) := rl
                have H_rm : Hid (RG Value.string x105 (.slice mo ln mc) L1) := rm
                have H_bw : Hid (Below g w x105) := bw
                have H_zw : Hid (g ≤ x105.heap.size) := zw
                clear rl rm bw zw
                go_wp2_with fail
                refine Calls.mono CC.out ?_
                rintro e x106 ⟨rfl, b106⟩
                clear CC
                have rl := H_rl.out
                have rm := H_rm.out
                have bw := H_bw.out
                have zw := H_zw.out
                clear H_rl H_rm H_bw H_zw
                replace rl := rl.below (Nat.le_refl _) b106
                replace rm := rm.below (Nat.le_refl _) b106
                replace bw := bw.trans (b106.mono zw)
                replace zw : g ≤ x106.heap.size := Nat.le_trans zw b106.size
                clear b106
                have CC : Hid _ := prodWNil (.slice mo ln mc) x106
                have H_rl : Hid (RG Value.string x106 (.slice lo ln lc) L1) := rl
                have H_rm : Hid (RG Value.string x106 (.slice mo ln mc) L1) := rm
                have H_bw : Hid (Below g w x106) := bw
                have H_zw : Hid (g ≤ x106.heap.size) := zw
                clear rl rm bw zw
                go_wp2_with fail
                refine Calls.mono CC.out ?_
                rintro e x107 ⟨rfl, b107⟩
                clear CC
                have rl := H_rl.out
                have rm := H_rm.out
                have bw := H_bw.out
                have zw := H_zw.out
                clear H_rl H_rm H_bw H_zw
                replace rl := rl.below (Nat.le_refl _) b107
                replace rm := rm.below (Nat.le_refl _) b107
                replace bw := bw.trans (b107.mono zw)
                replace zw : g ≤ x107.heap.size := Nat.le_trans zw b107.size
                clear b107
                have CC : Hid _ := (by have h := wordsR ⟨#[48]⟩ ⟨#[43]⟩ rfl rfl _ L1 _ rl (by have := HL1.out; omega) HX1.out; rw [Ht1.out] at h; exact h)
                have H_rl : Hid (RG Value.string x107 (.slice lo ln lc) L1) := rl
                have H_rm : Hid (RG Value.string x107 (.slice mo ln mc) L1) := rm
                have H_bw : Hid (Below g w x107) := bw
                have H_zw : Hid (g ≤ x107.heap.size) := zw
                clear rl rm bw zw
                go_wp2_with fail
                refine Calls.mono CC.out ?_
                rintro e x108 ⟨rfl, b108⟩
                clear CC
                have rl := H_rl.out
                have rm := H_rm.out
                have bw := H_bw.out
                have zw := H_zw.out
                clear H_rl H_rm H_bw H_zw
                replace rl := rl.below (Nat.le_refl _) b108
                replace rm := rm.below (Nat.le_refl _) b108
                replace bw := bw.trans (b108.mono zw)
                replace zw : g ≤ x108.heap.size := Nat.le_trans zw b108.size
                clear b108
                have CC : Hid _ := (by have h := wordsR ⟨#[49]⟩ ⟨#[42]⟩ rfl rfl _ L1 _ rl (by have := HL1.out; omega) HX1.out; rw [Ht2.out] at h; exact h)
                have H_rl : Hid (RG Value.string x108 (.slice lo ln lc) L1) := rl
                have H_rm : Hid (RG Value.string x108 (.slice mo ln mc) L1) := rm
                have H_bw : Hid (Below g w x108) := bw
                have H_zw : Hid (g ≤ x108.heap.size) := zw
                clear rl rm bw zw
                go_wp2_with fail
                refine Calls.mono CC.out ?_
                rintro e x109 ⟨rfl, b109⟩
                clear CC
                have rl := H_rl.out
                have rm := H_rm.out
                have bw := H_bw.out
                have zw := H_zw.out
                clear H_rl H_rm H_bw H_zw
                replace rl := rl.below (Nat.le_refl _) b109
                replace rm := rm.below (Nat.le_refl _) b109
                replace bw := bw.trans (b109.mono zw)
                replace zw : g ≤ x109.heap.size := Nat.le_trans zw b109.size
                clear b109
                have HE : Hid (Below g w x109) := bw
                clear bw zw rl rm
                go_wp2
                go_ret
                exact ⟨rfl, HE.out⟩
          · have hz8 : n ≥ 0 := by omega
            have hz9 : ¬ n ≤ 1024 := by omega
            have hno : ¬ (n ≥ 0 ∧ n ≤ 1024) := by omega
            have CC : Hid _ := powWno b n (by omega) x3
            have H_rl : Hid (RG Value.string x3 (.slice lo ln lc) L1) := rl
            have H_rm : Hid (RG Value.string x3 (.slice mo ln mc) L1) := rm
            have H_bw : Hid (Below g w x3) := bw
            have H_zw : Hid (g ≤ x3.heap.size) := zw
            clear rl rm bw zw
            go_wp2_with fail
            refine Calls.mono CC.out ?_
            rintro e x104 ⟨rfl, b104⟩
            clear CC
            have rl := H_rl.out
            have rm := H_rm.out
            have bw := H_bw.out
            have zw := H_zw.out
            clear H_rl H_rm H_bw H_zw
            replace rl := rl.below (Nat.le_refl _) b104
            replace rm := rm.below (Nat.le_refl _) b104
            replace bw := bw.trans (b104.mono zw)
            replace zw : g ≤ x104.heap.size := Nat.le_trans zw b104.size
            clear b104
            have CL : Hid (∀ W, Below x104.heap.size x104 W → ∀ i, i < ln → ∃ y gg o, L1[i]? = some y ∧ lo = some ⟨gg, o, none⟩ ∧ W.cell? ⟨gg, o + i, none⟩ = some (.string y)) := fun W h i hi => (rl.below (Nat.le_refl _) h).at hi
            have CM : Hid (∀ W, Below x104.heap.size x104 W → ∀ i, i < ln → ∃ y gg o, L1[i]? = some y ∧ mo = some ⟨gg, o, none⟩ ∧ W.cell? ⟨gg, o + i, none⟩ = some (.string y)) := fun W h i hi => (rm.below (Nat.le_refl _) h).at hi
            have H_rl : Hid (RG Value.string x104 (.slice lo ln lc) L1) := rl
            have H_rm : Hid (RG Value.string x104 (.slice mo ln mc) L1) := rm
            have H_bw : Hid (Below g w x104) := bw
            have H_zw : Hid (g ≤ x104.heap.size) := zw
            clear rl rm bw zw
            go_wp2
            go_loopg [7, 19] ln (fun g1 v7 v19 wr => ∃ i : Nat, v7 = .bool true ∧ v19 = .int .i64 i ∧ i ≤ ln ∧ ln - i ≤ g1 ∧ Hid (Below x104.heap.size x104 wr))
            case atStart => exact ⟨0, rfl, rfl, Nat.zero_le _, by omega, Below.refl _ _⟩
            case round =>
              obtain ⟨j, rfl, rfl, hjn, hg2, HB⟩ := hrel
              by_cases hlt : j < ln
              · have hltz : (j : Int) < (ln : Int) := by omega
                obtain ⟨y, gl, ol, hy, e1, c1⟩ := CL.out _ HB.out j hlt
                subst e1
                obtain ⟨y2, gm, om, hy2, e2, c2⟩ := CM.out _ HB.out j hlt
                subst e2
                have hyy : y = y2 := by rw [hy] at hy2; exact Option.some.inj hy2
                subst hyy
                have hself : (y.toList == y.toList) = true := by simp
                clear hy hy2
                go_wp2_with fail
                go_quiet (fail)
                have HB2 : Hid (Below x104.heap.size x104 (wr.drewN nq)) := below_drewW HB.out nq
                clear HB c1 c2 hself
                generalize wr.drewN nq = wq at HB2 ⊢
                clear nq
                go_wp2
                go_roundg (ln - (j + 1))
                case measure => omega
                case rel => exact ⟨j + 1, rfl, by go_num, by omega, Nat.le_refl _, HB2⟩
              · have hltz : ¬ (j : Int) < (ln : Int) := by omega
                have bl := HB.out
                clear HB CL CM
                have rl := H_rl.out
                have rm := H_rm.out
                have bw := H_bw.out
                have zw := H_zw.out
                clear H_rl H_rm H_bw H_zw
                replace rl := rl.below (Nat.le_refl _) bl
                replace rm := rm.below (Nat.le_refl _) bl
                replace bw := bw.trans (bl.mono zw)
                replace zw : g ≤ wr.heap.size := Nat.le_trans zw bl.size
                clear bl
                have CC : Hid _ := powWnil b n wr
                have H_rl : Hid (RG Value.string wr (.slice lo ln lc) L1) := rl
                have H_rm : Hid (RG Value.string wr (.slice mo ln mc) L1) := rm
                have H_bw : Hid (Below g w wr) := bw
                have H_zw : Hid (g ≤ wr.heap.size) := zw
                clear rl rm bw zw
                go_wp2_with fail
                refine Calls.mono CC.out ?_
                rintro e x105 ⟨rfl, b105⟩
                clear CC
                have rl := H_rl.out
                have rm := H_rm.out
                have bw := H_bw.out
                have zw := H_zw.out
                clear H_rl H_rm H_bw H_zw
                replace rl := rl.below (Nat.le_refl _) b105
                replace rm := rm.below (Nat.le_refl _) b105
                replace bw := bw.trans (b105.mono zw)
                replace zw : g ≤ x105.heap.size := Nat.le_trans zw b105.size
                clear b105
                have CC : Hid _ := sumWNil (.slice mo ln mc) x105
                have H_rl : Hid (RG Value.string x105 (.slice lo ln lc) L1) := rl
                have H_rm : Hid (RG Value.string x105 (.slice mo ln mc) L1) := rm
                have H_bw : Hid (Below g w x105) := bw
                have H_zw : Hid (g ≤ x105.heap.size) := zw
                clear rl rm bw zw
                go_wp2_with fail
                refine Calls.mono CC.out ?_
                rintro e x106 ⟨rfl, b106⟩
                clear CC
                have rl := H_rl.out
                have rm := H_rm.out
                have bw := H_bw.out
                have zw := H_zw.out
                clear H_rl H_rm H_bw H_zw
                replace rl := rl.below (Nat.le_refl _) b106
                replace rm := rm.below (Nat.le_refl _) b106
                replace bw := bw.trans (b106.mono zw)
                replace zw : g ≤ x106.heap.size := Nat.le_trans zw b106.size
                clear b106
                have CC : Hid _ := prodWNil (.slice mo ln mc) x106
                have H_rl : Hid (RG Value.string x106 (.slice lo ln lc) L1) := rl
                have H_rm : Hid (RG Value.string x106 (.slice mo ln mc) L1) := rm
                have H_bw : Hid (Below g w x106) := bw
                have H_zw : Hid (g ≤ x106.heap.size) := zw
                clear rl rm bw zw
                go_wp2_with fail
                refine Calls.mono CC.out ?_
                rintro e x107 ⟨rfl, b107⟩
                clear CC
                have rl := H_rl.out
                have rm := H_rm.out
                have bw := H_bw.out
                have zw := H_zw.out
                clear H_rl H_rm H_bw H_zw
                replace rl := rl.below (Nat.le_refl _) b107
                replace rm := rm.below (Nat.le_refl _) b107
                replace bw := bw.trans (b107.mono zw)
                replace zw : g ≤ x107.heap.size := Nat.le_trans zw b107.size
                clear b107
                have CC : Hid _ := (by have h := wordsR ⟨#[48]⟩ ⟨#[43]⟩ rfl rfl _ L1 _ rl (by have := HL1.out; omega) HX1.out; rw [Ht1.out] at h; exact h)
                have H_rl : Hid (RG Value.string x107 (.slice lo ln lc) L1) := rl
                have H_rm : Hid (RG Value.string x107 (.slice mo ln mc) L1) := rm
                have H_bw : Hid (Below g w x107) := bw
                have H_zw : Hid (g ≤ x107.heap.size) := zw
                clear rl rm bw zw
                go_wp2_with fail
                refine Calls.mono CC.out ?_
                rintro e x108 ⟨rfl, b108⟩
                clear CC
                have rl := H_rl.out
                have rm := H_rm.out
                have bw := H_bw.out
                have zw := H_zw.out
                clear H_rl H_rm H_bw H_zw
                replace rl := rl.below (Nat.le_refl _) b108
                replace rm := rm.below (Nat.le_refl _) b108
                replace bw := bw.trans (b108.mono zw)
                replace zw : g ≤ x108.heap.size := Nat.le_trans zw b108.size
                clear b108
                have CC : Hid _ := (by have h := wordsR ⟨#[49]⟩ ⟨#[42]⟩ rfl rfl _ L1 _ rl (by have := HL1.out; omega) HX1.out; rw [Ht2.out] at h; exact h)
                have H_rl : Hid (RG Value.string x108 (.slice lo ln lc) L1) := rl
                have H_rm : Hid (RG Value.string x108 (.slice mo ln mc) L1) := rm
                have H_bw : Hid (Below g w x108) := bw
                have H_zw : Hid (g ≤ x108.heap.size) := zw
                clear rl rm bw zw
                go_wp2_with fail
                refine Calls.mono CC.out ?_
                rintro e x109 ⟨rfl, b109⟩
                clear CC
                have rl := H_rl.out
                have rm := H_rm.out
                have bw := H_bw.out
                have zw := H_zw.out
                clear H_rl H_rm H_bw H_zw
                replace rl := rl.below (Nat.le_refl _) b109
                replace rm := rm.below (Nat.le_refl _) b109
                replace bw := bw.trans (b109.mono zw)
                replace zw : g ≤ x109.heap.size := Nat.le_trans zw b109.size
                clear b109
                have HE : Hid (Below g w x109) := bw
                clear bw zw rl rm
                go_wp2
                go_ret
                exact ⟨rfl, HE.out⟩
end Go.Proofs.YtjickncdhajdgaaGreat

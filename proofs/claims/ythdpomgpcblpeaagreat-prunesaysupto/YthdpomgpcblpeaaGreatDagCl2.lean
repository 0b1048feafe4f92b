/-
  Proved here: the document's closed, walked.
-/
import Derived.Test.YthdpomgpcblpeaaGreatDagClAll
import Derived.Test.YthdpomgpcblpeaaGreatDagCyCAll
namespace Go.Proofs.YthdpomgpcblpeaaGreat
set_option linter.unusedVariables false
open Go.RowKit
set_option maxRecDepth 100000 in
set_option maxHeartbeats 12800000 in
theorem closedD (sv pv : Value) (svs : List Value) (C : List (List Int)) (pts : List Int) (w : World) (h : RRD w sv svs C) (n : Nat) (hn : C.length = n) (hb : n ≤ 100000) (hbl : ∀ i, (C.getD i []).length ≤ 100000) (hP : WfP C) (hp : RG (Value.int .i64) w pv pts) (hpl : pts.length ≤ 1100000) :
    Calls Tryz.prog 29 #[sv, pv] w fun e w' => ReE w.heap.size C n pts w' e ∧ Below w.heap.size w w' := by
  obtain ⟨i0, hi, hz0, hz1, hz2⟩ := info_parts Tryz.infoI
  obtain ⟨i1, hi1, hs0, hs1, hs2⟩ := info_parts Tryz.infoBD
  obtain ⟨so, sn, sc, rfl⟩ : ∃ o n c, sv = .slice o n c := by obtain ⟨ao, cap, e⟩ := h.out.sl; exact ⟨_, _, _, e⟩
  obtain ⟨po, pn, pc, rfl⟩ : ∃ o n c, pv = .slice o n c := by obtain ⟨ao, cap, e⟩ := hp.sl; exact ⟨_, _, _, e⟩
  obtain rfl : sn = n := by rw [← hn, ← h.len, h.out.len]
  have hpn : pts.length = pn := hp.len
  rw [hpn] at hpl
  have HR : Hid (∀ W, Below w.heap.size w W → RRD W (.slice so sn sc) svs C) := fun W hW => h.below (Nat.le_refl _) hW
  have HPT : Hid (∀ W, Below w.heap.size w W → RG (Value.int .i64) W (.slice po pn pc) pts) := fun W hW => hp.below (Nat.le_refl _) hW
  have HPN : Hid (pts.length = pn) := hpn
  have HN : Hid (C.length = sn) := hn
  have HWF : Hid (WfP C) := hP
  have HBL : Hid (∀ i, (C.getD i []).length ≤ 100000) := hbl
  obtain ⟨W1, hW1⟩ : ∃ W, W = w.alloc (.cells (Array.replicate sn (.bool false)) 4) := ⟨_, rfl⟩
  obtain ⟨g0, hg0⟩ : ∃ g, g = w.heap.size := ⟨_, rfl⟩
  have HO1 : Hid (OG Value.bool w.heap.size 4 W1 (.slice (some ⟨g0, 0, none⟩) sn sn) (rowB sn (fun v => decide ((v : Int) ∈ pts.take 0)))) := by
    show OG _ _ _ _ _ _
    have e : rowB sn (fun v => decide ((v : Int) ∈ pts.take 0)) = List.replicate sn false := by rw [rowB_no]; exact rowB_congr fun v _ => by simp
    rw [e, hW1, hg0]
    exact OG.made (enc := Value.bool) w _ sn false (by unfold maxLen; omega)
  have HB1 : Hid (Below w.heap.size w W1) := by show Below _ _ _; rw [hW1]; exact belowB _ _
  have HG : Hid (w.heap.size ≤ g0) := by show _ ≤ _; rw [hg0]; exact Nat.le_refl _
  have HW1 : Hid (W1 = w.alloc (.cells (Array.replicate sn (.bool false)) 4)) := hW1
  have HG0 : Hid (g0 = w.heap.size) := hg0
  clear h hp hn hP hbl hpn hW1 hg0
  go_enter Tryz.func29, Tryz.ntmps29
  go_upto_region 2 with (at_make; refine wpList_madeD _ rfl _ _ 60 rfl 4 i1 (.bool false) rfl Tryz.underlying60 hi1 hs0 hs1 _ _ sn rfl rfl (by rw [hs2]; omega) (by omega) ?_)
  rw [← HW1.out, ← HG0.out]
  clear HW1 HG0
  go_wp2
  go_loopg [7] pn (fun g1 v7 wr => ∃ i : Nat, v7 = .int .i64 i ∧ i ≤ pn ∧ pn - i ≤ g1 ∧ Hid (∀ x ∈ pts.take i, 0 ≤ x ∧ x < (sn : Int)) ∧ Hid (OG Value.bool w.heap.size 4 wr (.slice (some ⟨g0, 0, none⟩) sn sn) (rowB sn (fun v => decide ((v : Int) ∈ pts.take i)))) ∧ Hid (Below w.heap.size w wr))
  case atStart => exact ⟨0, rfl, by omega, by omega, (fun x hx => by simp at hx), HO1, HB1⟩
  case round =>
    clear HO1 HB1
    obtain ⟨i, rfl, hin, hg1, HA, HO, HB⟩ := hrel
    by_cases hlt : i < pn
    · have hltz : (i : Int) < (pn : Int) := by omega
      obtain ⟨x, gx, ox, hx1, rfl, hx2⟩ := (HPT.out wr HB.out).at hlt
      by_cases hx0 : x < 0
      · have HNO : Hid (noPts (sn : Int) pts = true) := by
          show _ = _
          unfold noPts
          rw [List.any_eq_true]
          exact ⟨x, List.mem_of_getElem? hx1, by unfold noPt; simp [hx0]⟩
        clear hx1
        go_wp2
        go_ret2
        exact ⟨Or.inl ⟨HNO.out, rfl⟩, HB.out⟩
      · by_cases hxn : x ≥ (sn : Int)
        · have HNO : Hid (noPts (sn : Int) pts = true) := by
            show _ = _
            unfold noPts
            rw [List.any_eq_true]
            exact ⟨x, List.mem_of_getElem? hx1, by unfold noPt; simp; omega⟩
          clear hx1
          go_wp2
          go_ret2
          exact ⟨Or.inl ⟨HNO.out, rfl⟩, HB.out⟩
        · obtain ⟨p, rfl⟩ : ∃ p : Nat, x = (p : Int) := ⟨x.toNat, by omega⟩
          have hps : p < sn := by omega
          have hpz : (p : Int) < (sn : Int) := by omega
          have hpc := HO.out.cell (rowB_get (f := fun v => decide ((v : Int) ∈ pts.take i)) hps)
          obtain ⟨hp1, hp2⟩ := hpc
          have hset := (HO.out.set (rowB_len _ _) p true).1
          rw [rowB_set] at hset
          obtain ⟨WN, hWN⟩ : ∃ W, W = wr.setCell ⟨g0, p, none⟩ (.bool true) := ⟨_, rfl⟩
          have HO2 : Hid (OG Value.bool w.heap.size 4 WN (.slice (some ⟨g0, 0, none⟩) sn sn) (rowB sn (fun v => decide ((v : Int) ∈ pts.take (i + 1))))) := by
            show OG _ _ _ _ _ _
            have e : rowB sn (fun v => decide ((v : Int) ∈ pts.take (i + 1))) = rowB sn (fun u => if u = p then true else decide ((u : Int) ∈ pts.take i)) := rowB_congr fun v _ => by
              rw [List.take_add_one, hx1]
              by_cases e : v = p
              · subst e; simp
              · have e2 : ¬ (v : Int) = (p : Int) := by omega
                simp only [if_neg e, List.mem_append, Option.toList, List.mem_singleton, e2, or_false]
            rw [e, hWN]; exact hset
          have HA2 : Hid (∀ x ∈ pts.take (i + 1), 0 ≤ x ∧ x < (sn : Int)) := fun y hy => by
            rw [List.take_add_one, hx1] at hy
            rcases List.mem_append.1 hy with e | e
            · exact HA.out y e
            · have : y = (p : Int) := by simpa using e
              omega
          have HB2 : Hid (Below w.heap.size w WN) := by show Below _ _ _; rw [hWN]; exact HB.out.setCell (p := ⟨g0, p, none⟩) HG.out _
          have HWN : Hid (WN = wr.setCell ⟨g0, p, none⟩ (.bool true)) := hWN
          clear hx1 hset hWN HO HB HA
          go_wp2
          rw [← HWN.out]
          clear HWN hp1 hp2 hx2
          go_roundg (pn - (i + 1))
          case measure => omega
          case rel => exact ⟨i + 1, by first | rfl | go_num, by omega, Nat.le_refl _, HA2, HO2, HB2⟩
    · have hltz : ¬ (i : Int) < (pn : Int) := by omega
      have htk : pts.take i = pts := List.take_of_length_le (by rw [HPN.out]; omega)
      have HIN : Hid (∀ x ∈ pts, 0 ≤ x ∧ x < (sn : Int)) := by have := HA.out; rw [htk] at this; exact this
      have HO2 : Hid (OG Value.bool w.heap.size 4 wr (.slice (some ⟨g0, 0, none⟩) sn sn) (rowB sn (fun v => decide ((v : Int) ∈ pts)))) := by have := HO.out; rw [htk] at this; exact this
      have HCR : Hid (ClR C sn pts 0 (fun v => decide ((v : Int) ∈ pts))) := ClR.start HIN.out
      have HCW : Hid (∀ (v : Nat) (y : Int), y ∈ C.getD v [] → 0 ≤ y ∧ y.toNat < sn) := fun v y hy => by
        obtain ⟨p, e, hp⟩ := HWF.out v y hy
        rw [HN.out] at hp
        omega
      have HNO : Hid (noPts (sn : Int) pts = false) := by
        show _ = _
        unfold noPts
        rw [List.any_eq_false]
        intro x hx
        have := HIN.out x hx
        unfold noPt
        simp
        omega
      clear HO HA htk
      go_wp2
      go_loopg [8, 9, 10] sn (fun g1 v8 _v9 _v10 wq => ∃ (r : Nat) (I : Nat → Bool), v8 = .int .i64 r ∧ r ≤ sn ∧ sn - r ≤ g1 ∧ Hid (ClR C sn pts r I) ∧ Hid (OG Value.bool w.heap.size 4 wq (.slice (some ⟨g0, 0, none⟩) sn sn) (rowB sn I)) ∧ Hid (Below w.heap.size w wq))
      case atStart => exact ⟨0, _, rfl, by omega, by omega, HCR, HO2, HB⟩
      case round =>
        clear HCR HO2 HB
        obtain ⟨r, I0, rfl, hrn, hg2, HCR, HO, HB⟩ := hrel
        by_cases hlr : r < sn
        · have hlrz : (r : Int) < (sn : Int) := by omega
          have HCK : Hid (ClK C sn pts I0 0 0 I0) := HCR.out.open
          go_wp2
          go_loopg [9, 10] sn (fun g2 v9 _v10 wq => ∃ (i : Nat) (I : Nat → Bool), v9 = .int .i64 i ∧ i ≤ sn ∧ sn - i ≤ g2 ∧ Hid (ClK C sn pts I0 i 0 I) ∧ Hid (OG Value.bool w.heap.size 4 wq (.slice (some ⟨g0, 0, none⟩) sn sn) (rowB sn I)) ∧ Hid (Below w.heap.size w wq))
          case atStart => exact ⟨0, _, rfl, by omega, by omega, HCK, HO, HB⟩
          case round =>
            clear HCK HO HB
            obtain ⟨i, I, rfl, hin, hg3, HCK, HO, HB⟩ := hrel
            by_cases hli : i < sn
            · have hliz : (i : Int) < (sn : Int) := by omega
              obtain ⟨x, gp, op, hx1, rfl, hx2w⟩ := (HR.out w (Below.refl _ _)).out.at hli
              have HXR : Hid (∀ W, Below w.heap.size w W → RG (Value.int .i64) W x (C.getD i [])) := fun W hW => (HR.out W hW).inn i x hx1
              obtain ⟨xo, xn, xc, rfl⟩ : ∃ o n c, x = .slice o n c := by obtain ⟨ao, cap, e⟩ := (HXR.out w (Below.refl _ _)).sl; exact ⟨_, _, _, e⟩
              have HXN : Hid ((C.getD i []).length = xn) := (HXR.out w (Below.refl _ _)).len
              have hxm : xn ≤ 100000 := by rw [← HXN.out]; exact HBL.out i
              have HXC : Hid (∀ W, Below w.heap.size w W → W.cell? ⟨gp, op + i, none⟩ = some (.slice xo xn xc)) := fun W hW => keepR hW hx2w
              clear hx1 hx2w
              go_wp2
              go_loopg [10] xn (fun g3 v10 wq => ∃ (k : Nat) (I : Nat → Bool), v10 = .int .i64 k ∧ k ≤ xn ∧ xn - k ≤ g3 ∧ Hid (ClK C sn pts I0 i k I) ∧ Hid (OG Value.bool w.heap.size 4 wq (.slice (some ⟨g0, 0, none⟩) sn sn) (rowB sn I)) ∧ Hid (Below w.heap.size w wq))
              case atStart => exact ⟨0, _, rfl, by omega, by omega, HCK, HO, HB⟩
              case round =>
                clear HCK HO HB
                obtain ⟨k, I, rfl, hkn, hg4, HCK, HO, HB⟩ := hrel
                have hx2 := HXC.out wr HB.out
                have hic := (HO.out.cell (rowB_get (f := I) hli)).1
                by_cases hlk : k < xn
                · have hlkz : (k : Int) < (xn : Int) := by omega
                  rcases hI : I i with _ | _
                  · rw [hI] at hic
                    have HCN : Hid (ClK C sn pts I0 (i + 1) 0 I) := HCK.out.next (Or.inr hI)
                    clear hI HCK
                    go_wp2
                    clear hic hx2
                    go_roundg (sn - (i + 1))
                    case measure => omega
                    case rel => exact ⟨i + 1, I, by first | rfl | go_num, by omega, Nat.le_refl _, HCN, HO, HB⟩
                  · rw [hI] at hic
                    obtain ⟨y, gx, ox, hy1, rfl, hy2⟩ := (HXR.out wr HB.out).at hlk
                    obtain ⟨p, rfl, hp⟩ := HWF.out i y (List.mem_of_getElem? hy1)
                    rw [HN.out] at hp
                    have hpz : (p : Int) < (sn : Int) := by omega
                    obtain ⟨hp1, hp2⟩ := HO.out.cell (rowB_get (f := I) hp)
                    have hset := (HO.out.set (rowB_len _ _) p true).1
                    rw [rowB_set] at hset
                    obtain ⟨WN, hWN⟩ : ∃ W, W = wr.setCell ⟨g0, p, none⟩ (.bool true) := ⟨_, rfl⟩
                    have HO2 : Hid (OG Value.bool w.heap.size 4 WN (.slice (some ⟨g0, 0, none⟩) sn sn) (rowB sn (fun u => if u = p then true else I u))) := by show OG _ _ _ _ _ _; rw [hWN]; exact hset
                    have HCS : Hid (ClK C sn pts I0 i (k + 1) (fun u => if u = p then true else I u)) := HCK.out.set hli hI hy1
                    have HB2 : Hid (Below w.heap.size w WN) := by show Below _ _ _; rw [hWN]; exact HB.out.setCell (p := ⟨g0, p, none⟩) HG.out _
                    have HWN : Hid (WN = wr.setCell ⟨g0, p, none⟩ (.bool true)) := hWN
                    clear hset hWN HO HB HCK hy1 hI
                    go_wp2
                    rw [← HWN.out]
                    clear HWN hp1 hp2 hx2 hic hy2
                    go_roundg (xn - (k + 1))
                    case measure => omega
                    case rel => exact ⟨k + 1, _, by first | rfl | go_num, by omega, Nat.le_refl _, HCS, HO2, HB2⟩
                · have hlkz : ¬ (k : Int) < (xn : Int) := by omega
                  have HCN : Hid (ClK C sn pts I0 (i + 1) 0 I) := HCK.out.next (Or.inl (by rw [HXN.out]; omega))
                  clear HCK hic
                  go_wp2
                  clear hx2
                  go_roundg (sn - (i + 1))
                  case measure => omega
                  case rel => exact ⟨i + 1, I, by first | rfl | go_num, by omega, Nat.le_refl _, HCN, HO, HB⟩
            · have hliz : ¬ (i : Int) < (sn : Int) := by omega
              obtain rfl : i = sn := by omega
              have HCN : Hid (ClR C i pts (r + 1) I) := HCK.out.done HCR.out (fun v y hy => (HCW.out v y hy).2)
              clear HCK
              go_wp2
              go_roundg (i - (r + 1))
              case measure => omega
              case rel => exact ⟨r + 1, I, by first | rfl | go_num, by omega, Nat.le_refl _, HCN, HO, HB⟩
        · have hlrz : ¬ (r : Int) < (sn : Int) := by omega
          obtain rfl : r = sn := by omega
          have HEND : Hid (∀ v : Nat, v < r → (I0 v = true ↔ RchP C pts (v : Int))) := fun v hv => HCR.out.end HIN.out HCW.out hv
          obtain ⟨B1, hB1⟩ : ∃ B, B = wr.heap.size := ⟨_, rfl⟩
          have HB1 : Hid (B1 = wr.heap.size) := hB1
          have HGL : Hid (g0 < B1) := by show _ < _; rw [hB1]; exact (HO.out.lt g0 rfl).2
          have HWB : Hid (w.heap.size ≤ B1) := by show _ ≤ _; rw [hB1]; exact HB.out.size
          have HBK : Hid (Below B1 wr wr) := Below.refl _ _
          clear HCR hB1
          go_wp2
          go_loopg [11, 12] r (fun g1 v11 v12 wq => ∃ (i : Nat) (lo : Option Addr) (ln lc : Nat), v12 = .int .i64 i ∧ v11 = .slice lo ln lc ∧ i ≤ r ∧ r - i ≤ g1 ∧ Hid (OG (Value.int .i64) B1 3 wq (.slice lo ln lc) (inL i I0)) ∧ Hid (OG Value.bool w.heap.size 4 wq (.slice (some ⟨g0, 0, none⟩) r r) (rowB r I0)) ∧ Hid (Below w.heap.size w wq) ∧ Hid (B1 ≤ wq.heap.size))
          case atStart => exact ⟨0, none, 0, 0, rfl, rfl, by omega, by omega, OG.nil _ _ _, HO, HB, by show _ ≤ _; rw [HB1.out]; exact Nat.le_refl _⟩
          case round =>
            clear HO HB HBK HB1
            obtain ⟨i, lo, ln, lc, rfl, rfl, hin, hg3, HL, HO, HB, HSZ⟩ := hrel
            by_cases hli : i < r
            · have hliz : (i : Int) < (r : Int) := by omega
              have hic := (HO.out.cell (rowB_get (f := I0) hli)).1
              rcases hI : I0 i with _ | _
              · rw [hI] at hic
                have HL2 : Hid (OG (Value.int .i64) B1 3 wr (.slice lo ln lc) (inL (i + 1) I0)) := by show OG _ _ _ _ _ _; rw [inL_step, if_neg (by rw [hI]; simp)]; exact HL.out
                clear hI HL
                go_wp2
                clear hic
                go_roundg (r - (i + 1))
                case measure => omega
                case rel => exact ⟨i + 1, _, _, _, by first | rfl | go_num, rfl, by omega, Nat.le_refl _, HL2, HO, HB, HSZ⟩
              · rw [hI] at hic
                have HST : Hid (inL (i + 1) I0 = inL i I0 ++ [(i : Int)]) := by show _ = _; rw [inL_step, if_pos hI]
                have hll := inL_len i I0
                obtain ⟨WA, hWA⟩ : ∃ W, W = wr.alloc (.cells #[.int .i64 (i : Int)] 3) := ⟨_, rfl⟩
                obtain ⟨gb, hgb⟩ : ∃ g, g = wr.heap.size := ⟨_, rfl⟩
                have HBA : Hid (Below wr.heap.size wr WA) := by show Below _ _ _; rw [hWA]; exact belowB _ _
                have HCB : Hid (WA.cell? ⟨gb, 0, none⟩ = some (.int .i64 (i : Int))) := by show _ = _; rw [hWA, hgb, World.cell?_alloc_at _ _ _ _ rfl]; rfl
                have HWA : Hid (WA = wr.alloc (.cells #[.int .i64 (i : Int)] 3)) := hWA
                have HGB : Hid (gb = wr.heap.size) := hgb
                have HLL : Hid ((inL i I0).length ≤ 100000) := by show _ ≤ _; omega
                clear hWA hgb hI hll
                go_wp2_with (at_builtin; rw [← HWA.out, ← HGB.out]; refine wpList_pushD _ (fun _ => rfl) rfl _ _ 23 rfl B1 3 i0 (.int .i64 0) 8 Tryz.underlying23 hi hz0 hz1 hz2 rfl _ (inL i I0) rfl (HL.out.below HBA.out) gb (i : Int) rfl HCB.out (by have := HLL.out; unfold maxLen; omega) (by have := HLL.out; omega) (Nat.le_trans HSZ.out HBA.out.size) ?_)
                intro ng tm ncap W2 ho hg9 hng _
                have HOA : Hid (OG Value.bool w.heap.size 4 W2 (.slice (some ⟨g0, 0, none⟩) r r) (rowB r I0)) := (HO.out.below HBA.out).of_blocks fun q hq => hg9.block q (Nat.lt_of_lt_of_le (HO.out.lt q hq).2 HBA.out.size) (fun e => by
                  have h1 := (HL.out.lt q e.symm).1
                  have e1 : g0 = q := by simpa [Value.ownBlock] using hq
                  have := HGL.out
                  omega)
                have HB5 : Hid (Below w.heap.size w W2) := by
                  show Below _ _ _
                  have b1 := HB.out.trans (HBA.out.mono HB.out.size)
                  exact ⟨hg9.os.trans b1.os, hg9.tape.trans b1.tape, hg9.output.trans b1.output, Nat.le_trans b1.size hg9.size, fun q hq => (hg9.block q (Nat.lt_of_lt_of_le hq b1.size) (fun e => by have := (HL.out.lt q e.symm).1; have := HWB.out; omega)).trans (b1.block q hq)⟩
                have HSZ2 : Hid (B1 ≤ W2.heap.size) := Nat.le_trans (Nat.le_trans HSZ.out HBA.out.size) hg9.size
                have HL2 : Hid (OG (Value.int .i64) B1 3 W2 (.slice (some ⟨ng, 0, none⟩) tm ncap) (inL (i + 1) I0)) := by show OG _ _ _ _ _ _; rw [HST.out]; exact ho
                clear ho hg9 hng HL HO HB HSZ HBA HCB HWA HGB HST HLL
                go_wp2
                clear hic
                go_roundg (r - (i + 1))
                case measure => omega
                case rel => exact ⟨i + 1, _, _, _, by first | rfl | go_num, rfl, by omega, Nat.le_refl _, HL2, HOA, HB5, HSZ2⟩
            · have hliz : ¬ (i : Int) < (r : Int) := by omega
              obtain rfl : i = r := by omega
              have HL2 : Hid (OG (Value.int .i64) w.heap.size 3 wr (.slice lo ln lc) (inL i I0)) := HL.out.mono HWB.out
              have HMEM : Hid (∀ x, x ∈ inL i I0 ↔ RchP C pts x) := fun x => by
                rw [inL_mem]
                constructor
                · rintro ⟨v, h1, h2, h3⟩
                  rw [h2]; exact (HEND.out v h1).1 h3
                · rintro ⟨p, hp, m, hr⟩
                  have hpp := HIN.out p hp
                  have hx := rn_ptB HCW.out m p x (by omega) hr
                  refine ⟨x.toNat, by omega, by omega, ?_⟩
                  rw [HEND.out x.toNat (by omega)]
                  have e : ((x.toNat : Nat) : Int) = x := by omega
                  rw [e]; exact ⟨p, hp, m, hr⟩
              clear HL
              go_wp2
              go_ret2
              exact ⟨Or.inr ⟨HNO.out, _, _, rfl, HL2.out, inL_rise _ _, HMEM.out⟩, HB.out⟩
end Go.Proofs.YthdpomgpcblpeaaGreat

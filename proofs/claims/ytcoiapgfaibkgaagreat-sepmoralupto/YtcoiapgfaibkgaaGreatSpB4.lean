/-
  Proved here: layer 16's law: points out of any numbers, as many.
-/
import Derived.Test.YtcoiapgfaibkgaaGreatSpB1All
namespace Go.Proofs.YtcoiapgfaibkgaaGreat
set_option linter.unusedVariables false
open Go.RowKit
set_option maxRecDepth 1000000 in
set_option maxHeartbeats 3200000 in
theorem points16n (v : Value) (L : List Int) (n : Nat) (w : World) (hv : RG (Value.int .i64) w v L) (hl : L.length ≤ 1048576) (hn : n ≤ 100000) :
    Calls Tryz.prog 23 #[v, .int .i64 (n : Int)] w fun e w' => ∃ u M, e = .returned u ∧ OG (Value.int .i64) w.heap.size 3 w' u M ∧ PtsI n M ∧ M.length ≤ L.length ∧ (0 < n → M.length = L.length) ∧ Below w.heap.size w w' := by
  obtain ⟨i0, hi, hz0, hz1, hz2⟩ := info_parts Tryz.infoI
  obtain ⟨vo, vn, vc, rfl⟩ : ∃ o n c, v = .slice o n c := by obtain ⟨ao, cap, e⟩ := hv.sl; exact ⟨_, _, _, e⟩
  have HV : Hid (RG (Value.int .i64) w (.slice vo vn vc) L) := hv
  have HVN : Hid (L.length = vn) := hv.len
  have hvl : vn ≤ 1048576 := by rw [← hv.len]; exact hl
  clear hv hl
  go_enter Tryz.func23, Tryz.ntmps23
  go_wp2
  go_loopg [5, 6, 7] vn (fun g1 v5 v6 _v7 wr => ∃ (i : Nat) (lo : Option Addr) (ln lc : Nat) (M : List Int), v5 = .slice lo ln lc ∧ v6 = .int .i64 i ∧ i ≤ vn ∧ vn - i ≤ g1 ∧ M.length ≤ i ∧ Hid (0 < n → M.length = i) ∧ Hid (OG (Value.int .i64) w.heap.size 3 wr (.slice lo ln lc) M) ∧ Hid (PtsI n M) ∧ Hid (Below w.heap.size w wr))
  case atStart => exact ⟨0, none, 0, 0, [], rfl, rfl, Nat.zero_le _, by omega, by simp, (fun _ => rfl), OG.nil _ _ _, (fun x hx => by simp at hx), Below.refl _ _⟩
  case round =>
    obtain ⟨i, lo, ln, lc, M, rfl, rfl, hin, hg1, hM, HMI, HO, HP, HB⟩ := hrel
    by_cases hlt : i < vn
    · have hltz : (i : Int) < (vn : Int) := by omega
      by_cases hn0 : 0 < n
      · have hnz : (0 : Int) < (n : Int) := by omega
        have hnz2 : ¬ ((n : Int) = 0) := by omega
        obtain ⟨x, gx, ox, hx1, rfl, hx0⟩ := HV.out.at hlt
        have hx2 : wr.cell? ⟨gx, ox + i, none⟩ = some (.int .i64 x) := keepR HB.out hx0
        obtain ⟨r, hr⟩ : ∃ r, x.tmod (n : Int) = r := ⟨_, rfl⟩
        have hr1 : r < (n : Int) := by rw [← hr]; exact Int.tmod_lt_of_pos x hnz
        have hr2 : -(n : Int) < r := by
          have h1 := Int.tmod_lt_of_pos (-x) hnz
          rw [Int.neg_tmod] at h1
          omega
        have hrw : IntKind.i64.wrap r = r := by rw [IntKind.wrap_i64]; omega
        clear hx1 hx0
        have HLN : Hid (M.length ≤ 1048576) := by show _ ≤ _; omega
        by_cases hneg : r < 0
        · obtain ⟨s, hs⟩ : ∃ s, r + (n : Int) = s := ⟨_, rfl⟩
          have hs0 : 0 ≤ s := by omega
          have hs1 : s < (n : Int) := by omega
          have hsw : IntKind.i64.wrap s = s := by rw [IntKind.wrap_i64]; omega
          obtain ⟨WA, hWA⟩ : ∃ W, W = wr.alloc (.cells #[.int .i64 s] 3) := ⟨_, rfl⟩
          obtain ⟨gb, hgb⟩ : ∃ g, g = wr.heap.size := ⟨_, rfl⟩
          have HBA : Hid (Below wr.heap.size wr WA) := by show Below _ _ _; rw [hWA]; exact belowB _ _
          have HCB : Hid (WA.cell? ⟨gb, 0, none⟩ = some (.int .i64 s)) := by show _ = _; rw [hWA, hgb, World.cell?_alloc_at _ _ _ _ rfl]; rfl
          have HWA : Hid (WA = wr.alloc (.cells #[.int .i64 s] 3)) := hWA
          have HGB : Hid (gb = wr.heap.size) := hgb
          have HBW : Hid (Below w.heap.size w WA) := bstepB HB.out HBA.out
          clear hWA hgb
          go_wp2_with (at_builtin; rw [← HWA.out, ← HGB.out]; refine wpList_pushV (enc := Value.int .i64) _ rfl _ _ 23 rfl w.heap.size 3 i0 (.int .i64 0) 8 Tryz.underlying23 hi hz0 hz1 hz2 rfl _ M rfl (HO.out.below HBA.out) gb s rfl HCB.out rfl (by have := HLN.out; unfold maxLen; omega) (by have := HLN.out; omega) HBW.out.size ?_)
          intro ng tm ncap W2 ho hg3 hng _
          have HO2 : Hid (OG (Value.int .i64) w.heap.size 3 W2 (.slice (some ⟨ng, 0, none⟩) tm ncap) (M ++ [s])) := ho
          have HP2 : Hid (PtsI n (M ++ [s])) := HP.out.snoc (by omega) (by omega)
          have HB2 : Hid (Below w.heap.size w W2) := (HO.out.below HBA.out).grown HBW.out HBW.out.size hg3
          have HMI2 : Hid (0 < n → (M ++ [s]).length = i + 1) := fun h => by rw [List.length_append, List.length_singleton, HMI.out h]
          have hM2 : (M ++ [s]).length ≤ i + 1 := by rw [List.length_append, List.length_singleton]; omega
          clear ho hg3 hng HMI HO HB HP HBA HCB HWA HGB HBW HLN hx2
          go_wp2
          go_roundg (vn - (i + 1))
          case measure => omega
          case rel => exact ⟨i + 1, _, _, _, _, rfl, by go_num, by omega, Nat.le_refl _, hM2, HMI2, HO2, HP2, HB2⟩
        · have hr0 : 0 ≤ r := by omega
          obtain ⟨WA, hWA⟩ : ∃ W, W = wr.alloc (.cells #[.int .i64 r] 3) := ⟨_, rfl⟩
          obtain ⟨gb, hgb⟩ : ∃ g, g = wr.heap.size := ⟨_, rfl⟩
          have HBA : Hid (Below wr.heap.size wr WA) := by show Below _ _ _; rw [hWA]; exact belowB _ _
          have HCB : Hid (WA.cell? ⟨gb, 0, none⟩ = some (.int .i64 r)) := by show _ = _; rw [hWA, hgb, World.cell?_alloc_at _ _ _ _ rfl]; rfl
          have HWA : Hid (WA = wr.alloc (.cells #[.int .i64 r] 3)) := hWA
          have HGB : Hid (gb = wr.heap.size) := hgb
          have HBW : Hid (Below w.heap.size w WA) := bstepB HB.out HBA.out
          clear hWA hgb
          go_wp2_with (at_builtin; rw [← HWA.out, ← HGB.out]; refine wpList_pushV (enc := Value.int .i64) _ rfl _ _ 23 rfl w.heap.size 3 i0 (.int .i64 0) 8 Tryz.underlying23 hi hz0 hz1 hz2 rfl _ M rfl (HO.out.below HBA.out) gb r rfl HCB.out rfl (by have := HLN.out; unfold maxLen; omega) (by have := HLN.out; omega) HBW.out.size ?_)
          intro ng tm ncap W2 ho hg3 hng _
          have HO2 : Hid (OG (Value.int .i64) w.heap.size 3 W2 (.slice (some ⟨ng, 0, none⟩) tm ncap) (M ++ [r])) := ho
          have HP2 : Hid (PtsI n (M ++ [r])) := HP.out.snoc (by omega) (by omega)
          have HB2 : Hid (Below w.heap.size w W2) := (HO.out.below HBA.out).grown HBW.out HBW.out.size hg3
          have HMI2 : Hid (0 < n → (M ++ [r]).length = i + 1) := fun h => by rw [List.length_append, List.length_singleton, HMI.out h]
          have hM2 : (M ++ [r]).length ≤ i + 1 := by rw [List.length_append, List.length_singleton]; omega
          clear ho hg3 hng HMI HO HB HP HBA HCB HWA HGB HBW HLN hx2
          go_wp2
          go_roundg (vn - (i + 1))
          case measure => omega
          case rel => exact ⟨i + 1, _, _, _, _, rfl, by go_num, by omega, Nat.le_refl _, hM2, HMI2, HO2, HP2, HB2⟩
      · have hnz : ¬ (0 : Int) < (n : Int) := by omega
        have hlen : Hid (M.length ≤ L.length) := by show _ ≤ _; rw [HVN.out]; omega
        go_wp2
        go_ret
        exact ⟨_, rfl, _, HO.out, HP.out, hlen.out, HB.out⟩
    · have hltz : ¬ (i : Int) < (vn : Int) := by omega
      have hlen : Hid (M.length ≤ L.length) := by show _ ≤ _; rw [HVN.out]; omega
      go_wp2
      go_ret
      exact ⟨_, rfl, _, HO.out, HP.out, hlen.out, fun h => by rw [HMI.out h, HVN.out]; omega, HB.out⟩
end Go.Proofs.YtcoiapgfaibkgaaGreat

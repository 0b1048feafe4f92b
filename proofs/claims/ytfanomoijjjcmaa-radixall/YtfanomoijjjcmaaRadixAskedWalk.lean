/-
  Proved here: RadixAsked answers true.
-/
import Derived.Test.YtfanomoijjjcmaaRadKI
import Derived.Test.YtfanomoijjjcmaaRadKJ
import Derived.Test.YtfanomoijjjcmaaRadKS
namespace Go.Proofs.Ytfanomoijjjcmaa
open Go.RowKit Go.Shelf

theorem wrap_i32_in (z : Int) : IntKind.i32.min ≤ IntKind.i32.wrap z ∧ IntKind.i32.wrap z ≤ IntKind.i32.max := by
  rw [min_i32, max_i32, IntKind.wrap_i32]; omega
theorem wrap_u16_in (z : Int) : IntKind.u16.min ≤ IntKind.u16.wrap z ∧ IntKind.u16.wrap z ≤ IntKind.u16.max := by
  have : IntKind.u16.wrap z = z % 65536 := by simp [IntKind.wrap, IntKind.bits, IntKind.signed]
  rw [min_u16, max_u16, this]; omega
theorem inK_map {k : IntKind} {zs : List Int} (h : ∀ z, k.min ≤ k.wrap z ∧ k.wrap z ≤ k.max) : inK k (zs.map k.wrap) := fun i hi => by
  rw [List.length_map] at hi
  rw [List.getD_eq_getElem?_getD, List.getElem?_map, List.getElem?_eq_getElem hi]
  exact h _
set_option maxRecDepth 100000 in
set_option maxHeartbeats 3200000 in
theorem radixAsked_top (v : Value) (l : List Int) (v2 : Value) (l2 : List Int) (a : Int) (w : World) (hv : RK .i64 w v l) (hv2 : RK .i64 w v2 l2) (ha : (Lit.int .i64 a).wf = true) (hz : l.length ≤ 17592186043904) (hz2 : l2.length ≤ 17592186043904) :
    Calls Try.prog 5 #[v, v2, .int .i64 a] w fun e w' => e = .returned (.bool true) ∧ Below w.heap.size w w' := by
  have ha1 : IntKind.i64.min ≤ a ∧ a ≤ IntKind.i64.max := by simpa [Lit.wf] using ha
  rw [min_i64, max_i64] at ha1
  obtain ⟨ha1, ha2⟩ := ha1
  clear ha
  have hsv : ∃ vo vn vc, v = .slice vo vn vc := by obtain ⟨x, y, e, _⟩ := hv; exact ⟨_, _, _, e⟩
  have hsu : ∃ vo vn vc, v2 = .slice vo vn vc := by obtain ⟨x, y, e, _⟩ := hv2; exact ⟨_, _, _, e⟩
  obtain ⟨vo, vn, vc, rfl⟩ := hsv
  obtain ⟨uo, un, uc, rfl⟩ := hsu
  go_enter Try.func5, Try.ntmps5
  go_wp2_with fail
  refine (askedI _ _ l l2 a w hv hv2 hz hz2 ha1 ha2).mono ?_
  rintro e w1 ⟨rfl, b1⟩
  go_wp2_with fail
  refine (narrow_any _ l w1 (hv.below (Nat.le_refl _) b1) hz).mono ?_
  rintro e w2 ⟨p, rfl, op, b⟩
  have b2 := bstepR b1 b
  have rp := RK.of_own op (inK_map wrap_i32_in)
  obtain ⟨po, pc, rfl, -⟩ := op.sl
  rw [List.length_map] at rp ⊢
  clear b op b1
  go_wp2_with fail
  refine (narrow_any _ l2 w2 (hv2.below (Nat.le_refl _) b2) hz2).mono ?_
  rintro e w3 ⟨p2, rfl, op2, b⟩
  have b3 := bstepR b2 b
  replace rp := rp.below (Nat.le_refl _) b
  have rp2 := RK.of_own op2 (inK_map wrap_i32_in)
  obtain ⟨po2, pc2, rfl, -⟩ := op2.sl
  rw [List.length_map] at rp2 ⊢
  clear b op2 b2
  go_wp2_with fail
  refine (askedJ _ _ _ _ a w3 rp rp2 (by rw [List.length_map]; exact hz) (by rw [List.length_map]; exact hz2) ha1 ha2).mono ?_
  rintro e w4 ⟨rfl, b⟩
  have b4 := bstepR b3 b
  clear b b3 rp rp2
  go_wp2_with fail
  refine (tiny_any _ l w4 (hv.below (Nat.le_refl _) b4) hz).mono ?_
  rintro e w5 ⟨p, rfl, op, b⟩
  have b5 := bstepR b4 b
  have rp := RK.of_own op (inK_map wrap_u16_in)
  obtain ⟨po, pc, rfl, -⟩ := op.sl
  rw [List.length_map] at rp ⊢
  clear b op b4
  go_wp2_with fail
  refine (tiny_any _ l2 w5 (hv2.below (Nat.le_refl _) b5) hz2).mono ?_
  rintro e w6 ⟨p2, rfl, op2, b⟩
  have b6 := bstepR b5 b
  replace rp := rp.below (Nat.le_refl _) b
  have rp2 := RK.of_own op2 (inK_map wrap_u16_in)
  obtain ⟨po2, pc2, rfl, -⟩ := op2.sl
  rw [List.length_map] at rp2 ⊢
  clear b op2 b5
  go_wp2_with fail
  refine (askedS _ _ _ _ a w6 rp rp2 (by rw [List.length_map]; exact hz) (by rw [List.length_map]; exact hz2) ha1 ha2).mono ?_
  rintro e w7 ⟨rfl, b⟩
  have HB : Hid (Below w.heap.size w w7) := bstepR b6 b
  clear b b6 rp rp2
  go_wp2
  go_ret
  exact ⟨rfl, HB.out⟩
end Go.Proofs.Ytfanomoijjjcmaa

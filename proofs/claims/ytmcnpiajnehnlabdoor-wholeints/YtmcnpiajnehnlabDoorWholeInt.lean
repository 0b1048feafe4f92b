/-
  Proved here: what Int of package whole answers of a number that is an int.
-/
import Derived.Test.YtmcnpiajnehnlabDoorWholeX3
import Derived.Test.YtmcnpiajnehnlabDoorUint
namespace Go.Proofs.YtmcnpiajnehnlabDoor
open Go.RowKit

set_option maxRecDepth 100000 in
set_option maxHeartbeats 3200000 in
theorem c_int {a : Value} {x : Int} {w : World} (ha : INum w a x) (h1 : -9223372036854775808 ≤ x) (h2 : x ≤ 9223372036854775807) :
    Calls Tryd.prog 23 #[a] w fun e w' => e = .returned (.tuple #[.int .i64 x, .bool true]) ∧ Below w.heap.size w w' := by
  obtain ⟨na, ao, al, ac, xs, rfl, u, l, hz⟩ := ha
  have u1 := u.below (Nat.le_refl _) (belowA w (.cells #[.bool na, .slice ao al ac] 25))
  have HE : Hid (Below w.heap.size w (w.alloc (.cells #[.bool na, .slice ao al ac] 25))) := belowA _ _
  obtain ⟨V, hV⟩ : ∃ V, V = val xs := ⟨_, rfl⟩
  have hva : V = x.natAbs := by rw [hV, ← hz, zv_abs]
  have HU := uint_yes _ _ _ u1 (by rw [← hV, hva]; omega)
  rw [← hV] at HU
  cases na
  · have hx : x = (V : Int) := by rw [← hz, hV]; rfl
    have HX : Hid ((V : Int) = x) := hx.symm
    have hv1 : (V : Int) ≤ 9223372036854775807 := by omega
    have hv2 : V ≤ 9223372036854775807 := by omega
    clear hx hva hV hz u u1 l
    go_enter Tryd.func23, Tryd.ntmps23
    go_wp2_with fail
    refine HU.mono ?_
    rintro e w2 ⟨rfl, rfl⟩
    clear HU
    go_wp2_with fail
    go_ret2
    exact ⟨by rw [← HX.out]; rfl, HE.out⟩
  · have hx : x = -(V : Int) := by rw [← hz, hV]; rfl
    have HX : Hid (-(V : Int) = x) := hx.symm
    have hv1 : (V : Int) ≤ 9223372036854775808 := by omega
    have hv2 : V ≤ 9223372036854775808 := by omega
    obtain ⟨U, hU⟩ : ∃ U : Int, U = IntKind.u64.wrap (-(V : Int)) := ⟨_, rfl⟩
    have e1 : IntKind.u64.wrap (-(V : Int)) = U := hU.symm
    have e2 : IntKind.i64.wrap U = x := by rw [hU, IntKind.wrap_u64, IntKind.wrap_i64]; omega
    clear hx hva hV hz u u1 l hU
    go_enter Tryd.func23, Tryd.ntmps23
    go_wp2_with fail
    refine HU.mono ?_
    rintro e w2 ⟨rfl, rfl⟩
    clear HU
    go_wp2_with fail
    go_ret2
    exact ⟨rfl, HE.out⟩
end Go.Proofs.YtmcnpiajnehnlabDoor

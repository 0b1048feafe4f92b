/-
  Proved here: container/heap's Push over a line of points.
-/
import Derived.Test.YtpokgdepopcppaaDagE
namespace Go.Proofs.Ytpokgdepopcppaa
set_option linter.unusedVariables false
open Go.RowKit
theorem LnC.of {B : Nat} {w w' : World} {rb : Nat} {a b c d v v' : Value} {L M : List Int} (h : LnC B w rb a b c d v L) {g : Nat} (hv : v'.ownBlock = some g) (hne : g ≠ rb) (hvv : v' = v) (ho : OG (Value.int .i64) B 3 w' v' M) (hg : w.grownBy w' (some g)) : LnC B w' rb a b c d v' M :=
  ⟨by subst hvv; unfold RsC; rw [hg.block rb h.lt (fun e => hne (by have h := e; simp at h; omega))]; exact h.box, ho⟩
set_option maxRecDepth 100000 in
set_option maxHeartbeats 3200000 in
theorem heapPush (B rb : Nat) (a b c d v : Value) (L : List Int) (x : Int) (w : World) (h : LnC B w rb a b c d v L) (hB : B ≤ w.heap.size) (hl : L.length < 1000000) :
    Calls Try.prog 49 #[.iface 68 (.pointer (some ⟨rb, 4, none⟩)), .iface 3 (.int .i64 x)] w fun e w' => e = .returned (.tuple #[]) ∧ ∃ ng cap, LnC B w' rb a b c d (.slice (some ⟨ng, 0, none⟩) (L.length + 1) cap) (upL (L ++ [x]) L.length) ∧ (v.ownBlock = some ng ∨ ng ≥ w.heap.size) ∧ FrP (LnS rb v) w w' := by
  have HL : Hid (LnC B w rb a b c d v L) := h
  obtain ⟨l, hl0⟩ : ∃ l, L.length = l := ⟨_, rfl⟩
  have HLN : Hid (L.length = l) := hl0
  have CP : Hid _ := lnPush B rb a b c d v L x w h hB hl
  rw [hl0] at hl ⊢
  have m1 := mLnPush w rb 4
  have e1 := entLnPush
  have e2 := entLnLen
  clear h hl0
  go_enter Try.func49, Try.ntmps49
  go_wp2_with fail
  refine Calls.mono CP.out ?_
  rintro e y ⟨rfl, ng, cap, hy1, hy2, hy3⟩
  clear CP m1
  rw [HLN.out] at hy1
  have HY : Hid (LnC B y rb a b c d (.slice (some ⟨ng, 0, none⟩) (l + 1) cap) (L ++ [x])) := hy1
  have HF : Hid ((v.ownBlock = some ng ∨ ng ≥ w.heap.size) ∧ FrP (LnS rb v) w y) := ⟨hy2, hy3⟩
  have cl := hy1.box.cell
  have m2 := mLnLen y rb 4 _ cl
  have CL : Hid _ := lnLen (some ⟨ng, 0, none⟩) (l + 1) cap y
  have CU : Hid _ := upH B rb ng (l + 1) cap l a b c d (L ++ [x]) y hy1.box hy1.row (by omega) (by omega)
  clear cl hy1 hy2 hy3
  have r1 : ((l + 1 : Nat) : Int) - 1 = (l : Int) := by omega
  go_wp2_with fail
  refine Calls.mono CL.out ?_
  rintro e z ⟨rfl, rfl⟩
  go_wp2_with fail
  refine Calls.mono CU.out ?_
  rintro e z ⟨rfl, hz1, hz2⟩
  have HZ : Hid (LnC B z rb a b c d (.slice (some ⟨ng, 0, none⟩) (l + 1) cap) (upL (L ++ [x]) l) ∧ FrP (LnS rb v) w z) := by
    have hne : ng ≠ rb := fun e => HY.out.ne (by rw [e]; rfl)
    refine ⟨HY.out.of rfl hne rfl hz1 hz2, HF.out.2.tr (FrP.of_grown hz2) (fun q hq e => ?_)⟩
    have e' : ng = q := by simpa using e
    subst e'
    rcases HF.out.1 with e2 | e2
    · exact Or.inr e2
    · omega
  clear CL CU m2 hz1 hz2 HY
  go_wp2
  go_end0
  exact ⟨rfl, _, _, HZ.out.1, HF.out.1, HZ.out.2⟩
end Go.Proofs.Ytpokgdepopcppaa

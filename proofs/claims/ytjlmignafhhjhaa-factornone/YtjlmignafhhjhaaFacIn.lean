/-
  Proved here: a table of ints that is handed in by value, opened. No condition.
-/
import Derived.Test.YtjlmignafhhjhaaRadF
import Derived.ProofKit
import Derived.OpenShut
import Derived.ShutString
import Derived.ChangeOld
import Derived.Lib.SmallJoins
namespace Go.Proofs.Ytjlmignafhhjhaa
open Go.ChangeShapes Go.WideShapes Go.ChangeAt Go.RowKit
theorem open_rowI {H : Type} {enc : TypeId × Value → H} {W : World} {n : Nat} {c : Value} {y : DataW H × List MemPlace} (h : DataW.trod enc Try.prog W 0 (fun _ => true) true n 22 [c] = some y) : ∃ xs, RK .i64 W c xs := by
  rcases open_ints Try.underlying22 Try.underlying3 (by kernel_rfl) h with ⟨hcs, _⟩ | ⟨x, l, c, zs, hcs, _, hl, hm, hz, _, hcell, hwz⟩
  · simp only [List.cons.injEq, and_true] at hcs
    subst hcs
    exact ⟨[], RK.nil _ _⟩
  · simp only [List.cons.injEq, and_true] at hcs
    subst hcs
    obtain ⟨xs, _, hn⟩ := rk_of_ints hl hm (by simpa using hz) hcell hwz
    exact ⟨xs, hn⟩
set_option maxRecDepth 100000 in
theorem open_boxI {H : Type} {enc : TypeId × Value → H} {W : World} {b0 : Nat} {r : Reach} {v : Value} {d : DataW H} {p : List MemPlace} (hv : Value.okWide Try.prog W r b0 34 v) (h : DataW.Trod enc Try.prog W 0 (fun _ => true) true 34 v d p) :
    ∃ s z c xs zs cs, v = .agg #[s, z, c] ∧ RK .i64 W s xs ∧ RK .i64 W z zs ∧ RK .i64 W c cs := by
  obtain ⟨v0, v1, v2, y0, y1, y2, n, rfl, _, _, h0, h1, h2⟩ := Joins.open_agg3 Try.underlying34 (by kernel_rfl) (by kernel_rfl) hv h
  obtain ⟨xs, k0⟩ := open_rowI h0
  obtain ⟨zs, k1⟩ := open_rowI h1
  obtain ⟨cs, k2⟩ := open_rowI h2
  exact ⟨v0, v1, v2, xs, zs, cs, rfl, k0, k1, k2⟩
end Go.Proofs.Ytjlmignafhhjhaa

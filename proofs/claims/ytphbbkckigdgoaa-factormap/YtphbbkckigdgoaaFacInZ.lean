/-
  Proved here: a table that was handed in, opened, with the bound on its lists' sizes.
-/
import Derived.Test.YtphbbkckigdgoaaFacIn
import Derived.SizedLaws
namespace Go.Proofs.Ytphbbkckigdgoaa
open Go.ChangeShapes Go.WideShapes Go.ChangeAt Go.RowKit
theorem open_rowIz {H : Type} {enc : TypeId × Value → H} {W : World} {n : Nat} {c : Value} {y : DataW H × List MemPlace} (h : DataW.trod enc Try.prog W 0 (fun _ => true) true n 22 [c] = some y) (hw : ∀ k ∈ y.1.weights Try.checked.prog 22, k ≤ reachBytes) : ∃ xs : List Int, xs.length ≤ 17592186043904 ∧ RK .i64 W c xs := by
  rcases open_ints Try.underlying22 Try.underlying3 (by kernel_rfl) h with ⟨hcs, _⟩ | ⟨x, l, c, zs, hcs, _, hl, hm, hz, hx, hcell, hwz⟩
  · simp only [List.cons.injEq, and_true] at hcs
    subst hcs
    exact ⟨[], Nat.zero_le _, RK.nil _ _⟩
  · simp only [List.cons.injEq, and_true] at hcs
    subst hcs
    obtain ⟨xs, q1, hn⟩ := rk_of_ints hl hm (by simpa using hz) hcell hwz
    refine ⟨xs, ?_, hn⟩
    have hd := congrArg Prod.fst hx
    simp only at hd
    have hsz := hw _ (by rw [hd]; unfold DataW.weights; rw [show Try.checked.prog.underlying 22 = _ from Try.underlying22]; exact List.mem_cons_self)
    have hby : Try.checked.prog.bytesOf 3 = 8 := by kernel_rfl
    rw [hby] at hsz
    have hll : (lits (H := H) .i64 (zs.take l)).length = l := by simp [lits]; simp at hz; omega
    unfold reachBytes at hsz
    omega
set_option maxRecDepth 100000 in
theorem agg_weights {H : Type} (a b c : DataW H) : (DataW.agg [a, b, c]).weights Try.checked.prog 24 = a.weights Try.checked.prog 22 ++ (b.weights Try.checked.prog 22 ++ (c.weights Try.checked.prog 22 ++ [])) := by
  simp only [DataW.weights, show Try.checked.prog.underlying 24 = _ from Try.underlying24, List.map_cons, List.map_nil, DataW.weightsEach]
set_option maxRecDepth 100000 in
theorem open_boxIz {H : Type} {enc : TypeId × Value → H} {W : World} {b0 : Nat} {r : Reach} {v : Value} {d : DataW H} {p : List MemPlace} (hv : Value.okWide Try.prog W r b0 24 v) (h : DataW.Trod enc Try.prog W 0 (fun _ => true) true 24 v d p) (hw : ∀ k ∈ d.weights Try.checked.prog 24, k ≤ reachBytes) :
    ∃ (s z c : Value) (xs zs cs : List Int), v = .agg #[s, z, c] ∧ RK .i64 W s xs ∧ RK .i64 W z zs ∧ RK .i64 W c cs ∧ xs.length ≤ 17592186043904 ∧ zs.length ≤ 17592186043904 ∧ cs.length ≤ 17592186043904 := by
  obtain ⟨v0, v1, v2, y0, y1, y2, n, rfl, hd, _, h0, h1, h2⟩ := Joins.open_agg3 Try.underlying24 (by kernel_rfl) (by kernel_rfl) hv h
  have hW : d.weights Try.checked.prog 24 = y0.1.weights Try.checked.prog 22 ++ (y1.1.weights Try.checked.prog 22 ++ (y2.1.weights Try.checked.prog 22 ++ [])) := by
    rw [hd]
    exact agg_weights _ _ _
  rw [hW] at hw
  obtain ⟨xs, l0, k0⟩ := open_rowIz h0 (fun k hk => hw k (by simp [hk]))
  obtain ⟨zs, l1, k1⟩ := open_rowIz h1 (fun k hk => hw k (by simp [hk]))
  obtain ⟨cs, l2, k2⟩ := open_rowIz h2 (fun k hk => hw k (by simp [hk]))
  exact ⟨v0, v1, v2, xs, zs, cs, rfl, k0, k1, k2, l0, l1, l2⟩
end Go.Proofs.Ytphbbkckigdgoaa

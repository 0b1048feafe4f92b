/-
  Proved here: a row of edges that is written over, and appended to.
-/
import Derived.Test.YtpokgdepopcppaaDagZ
import Derived.Test.YtpokgdepopcppaaDagZk
namespace Go.Proofs.Ytpokgdepopcppaa
set_option linter.unusedVariables false
open Go.RowKit
theorem edF_len (P : List (List Int)) (i : Nat) : (edF P i).length = smL P i := by
  induction i with
  | zero => rfl
  | succ i ih => simp only [edF, smL, List.length_append, List.length_map, ih]
theorem len_sm (P : List (List Int)) (i : Nat) : (P.getD i []).length ≤ smL P P.length := by
  by_cases h : i < P.length
  · have := smL_mono (P := P) (show i + 1 ≤ P.length by omega)
    simp only [smL] at this
    omega
  · rw [List.getD_eq_getElem?_getD, List.getElem?_eq_none (by omega)]; simp
theorem many_no {P : List (List Int)} (h : manyB P = false) : P.length ≤ 200 ∧ smL P P.length ≤ 2000 := by
  unfold manyB at h
  rw [Bool.or_eq_false_iff] at h
  have h1 := of_decide_eq_false h.1
  have h2 := of_decide_eq_false h.2
  omega
/-- A row of edges of the call's own, whatever it holds. -/
def OX (B : Nat) (w : World) (v : Value) (n : Nat) : Prop := ∃ xs, w.ownsRow B 39 2 v n xs
theorem OE.ox {B : Nat} {w : World} {v : Value} {es : List (Int × Int)} (h : OE B w v es) : OX B w v es.length := ⟨_, h⟩
theorem OX.lt {B : Nat} {w : World} {v : Value} {n : Nat} (h : OX B w v n) : ∀ g, v.ownBlock = some g → B ≤ g ∧ g < w.heap.size := by obtain ⟨xs, h⟩ := h; exact World.ownsRow.lt h
theorem OX.of_blocks {B : Nat} {w w' : World} {v : Value} {n : Nat} (h : OX B w v n) (hb : ∀ g, v.ownBlock = some g → w'.heap[g]? = w.heap[g]?) : OX B w' v n := by
  obtain ⟨xs, h1, h2⟩ := h
  refine ⟨xs, h1, ?_⟩
  rcases h2 with h0 | ⟨g, cap, cur, rfl, h3, h4, h5⟩
  · exact Or.inl h0
  · exact Or.inr ⟨g, cap, cur, rfl, h3, by rw [hb g rfl]; exact h4, h5⟩
theorem OX.cells {B : Nat} {w : World} {ao : Option Addr} {n m cap : Nat} (h : OX B w (.slice ao m cap) n) {i : Nat} (hi : i < n) : ∃ g, ao = some ⟨g, 0, none⟩ ∧ ∃ u0 u1, w.cell? ⟨g, i * 2, none⟩ = some u0 ∧ w.cell? ⟨g, i * 2 + 1, none⟩ = some u1 ∧ (∀ j, w.frozen? ⟨g, j, none⟩ = false) ∧ ∀ j v, OX B (w.setCell ⟨g, j, none⟩ v) (.slice ao m cap) n := by
  obtain ⟨xs, h1, h2⟩ := h
  rcases h2 with ⟨_, h0⟩ | ⟨g, cap', cur, e, h3, h4, h5, h6, h7, h8⟩
  · omega
  · simp only [Value.slice.injEq] at e
    obtain ⟨rfl, rfl, rfl⟩ := e
    refine ⟨g, rfl, cur[i * 2]'(by omega), cur[i * 2 + 1]'(by omega), by rw [cell_of_row w g _ _ _ _ h4]; exact Array.getElem?_eq_getElem _, by rw [cell_of_row w g _ _ _ _ h4]; exact Array.getElem?_eq_getElem _, fun j => by simp [World.frozen?, h4], fun j v => ?_⟩
    refine ⟨((cur.setIfInBounds j v).toList.take (m * 2)), by rw [List.length_take]; simp; omega, Or.inr ⟨g, cap, cur.setIfInBounds j v, rfl, h3, ?_, h5, h6, by simp; exact h7, rfl⟩⟩
    exact heap_setCell_same w g j _ _ _ h4
theorem wpList_pushX {P : Program} (w : World) {ops : Array Oper} {rest : List Oper} {o : Oper} {a : Act} {Q : Exit → Act → World → Prop} (hg : o.guard = none) (s x : Operand) (t : TypeId) (hop : o.op = .call { callee := .builtin .append, args := #[s, x], argTypes := #[t, t] })
    (B : Nat) (i : TypeInfo) (h1 : P.underlying t = some (.slice 39)) (h2 : P.info? 39 = some i) (h3 : i.zero = some (.agg #[.int .i64 0, .int .i64 0])) (h4 : i.size = 2) (h5 : i.bytes = 16)
    (v : Value) (n : Nat) (hs : a.eval s = v) (hown : OX B w v n) (gb : Nat) (p q : Int) (hx : a.eval x = .slice (some ⟨gb, 0, none⟩) 1 1) (c0 : w.cell? ⟨gb, 0, none⟩ = some (.int .i64 p)) (c1 : w.cell? ⟨gb, 1, none⟩ = some (.int .i64 q)) (hl : n ≤ 1000000) (hB : B ≤ w.heap.size)
    (hK : ∀ ng ncap w', OX B w' (.slice (some ⟨ng, 0, none⟩) (n + 1) ncap) (n + 1) → w.grownBy w' v.ownBlock → (v.ownBlock = some ng ∨ ng = w.heap.size) → ng < w'.heap.size → wpList P ops Q rest (a.put o.dst (.slice (some ⟨ng, 0, none⟩) (n + 1) ncap)) w') : wpList P ops Q (o :: rest) a w := by
  obtain ⟨xs, hown⟩ := hown
  refine wpList_plain hg fun K hK' => ?_
  refine wp_append_lies _ s x t hop B _ i _ 2 16 h1 h2 h3 h4 h5 rfl (by decide) v n _ hs hown ⟨gb, 0, none⟩ 1 1 [.int .i64 p, .int .i64 q] hx rfl (fun j u hj => by match j, hj with
    | 0, hj => simp at hj; subst hj; rw [Addr.add_lit, Nat.add_zero]; exact c0
    | 1, hj => simp at hj; subst hj; rw [Addr.add_lit]; exact c1) (by simp [Value.oneCell']) (by decide) (by unfold maxLen; omega) (by omega) hB _ rfl ?_
  intro ng ncap w' ho hg' hgg hlt
  exact hK' _ _ (hK ng ncap w' ⟨_, ho⟩ hg' hgg hlt)
end Go.Proofs.Ytpokgdepopcppaa

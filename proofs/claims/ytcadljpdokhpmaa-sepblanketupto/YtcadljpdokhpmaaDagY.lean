/-
  Proved here: the law's lent: parents to be handed in, each list a piece of a longer one.
-/
import Derived.Test.YtcadljpdokhpmaaDagXAll
namespace Go.Proofs.Ytcadljpdokhpmaa
set_option linter.unusedVariables false
open Go.RowKit
/-- How memory stands while lists are lent. -/
structure LtI (w W : World) (P : List (List Int)) (i : Nat) (vF vL : Value) (fvs lvs : List Value) : Prop where
  full : OG id w.heap.size 24 W vF fvs
  lent : OG id w.heap.size 24 W vL lvs
  apt : ∀ q, vF.ownBlock = some q → vL.ownBlock ≠ some q
  flen : fvs.length = i
  llen : lvs.length = i
  each : ∀ j, j < i → ∃ g cap, fvs[j]? = some (.slice (some ⟨g, 0, none⟩) ((P.getD j []).length + 6) cap) ∧ lvs[j]? = some (.slice (some ⟨g, 0, none⟩) (P.getD j []).length cap) ∧ OG (Value.int .i64) w.heap.size 3 W (.slice (some ⟨g, 0, none⟩) ((P.getD j []).length + 6) cap) (P.getD j [] ++ mrks)
  frm : Below w.heap.size w W
theorem LtI.below {w W W' : World} {P : List (List Int)} {i : Nat} {vF vL : Value} {fvs lvs : List Value} (h : LtI w W P i vF vL fvs lvs) (b : Below W.heap.size W W') : LtI w W' P i vF vL fvs lvs :=
  ⟨h.full.below b, h.lent.below b, h.apt, h.flen, h.llen, fun j hj => by obtain ⟨g, cap, h1, h2, h3⟩ := h.each j hj; exact ⟨g, cap, h1, h2, h3.below b⟩, bstepB h.frm b⟩
/-- What lent leaves: all that is lent can be read. -/
structure LtE (w : World) (P : List (List Int)) (n : Nat) (l full : Value) (gl lc : Nat) (fvs lvs : List Value) (m : Value) : Prop where
  le : l = .slice (some ⟨gl, 0, none⟩) n lc
  behind : RG id w (.slice (some ⟨gl, 0, none⟩) (n + 1) lc) (lvs ++ [m])
  mark : RG (Value.int .i64) w m [-77]
  lent : RRD w l lvs P
  full : RRD w full fvs (P.map (· ++ mrks))
theorem LtE.below {w w' : World} {P : List (List Int)} {n : Nat} {l full : Value} {gl lc : Nat} {fvs lvs : List Value} {m : Value} (h : LtE w P n l full gl lc fvs lvs m) (b : Below w.heap.size w w') : LtE w' P n l full gl lc fvs lvs m :=
  ⟨h.le, h.behind.below (Nat.le_refl _) b, h.mark.below (Nat.le_refl _) b, h.lent.below (Nat.le_refl _) b, h.full.below (Nat.le_refl _) b⟩
/-- One more is put into the full ones. -/
theorem LtI.pushF {w W W2 : World} {P : List (List Int)} {i : Nat} {vF vL vF' : Value} {fvs lvs fvs' : List Value} (h : LtI w W P i vF vL fvs lvs) (ho : OG id w.heap.size 24 W2 vF' fvs') (hg : W.grownBy W2 vF.ownBlock) (hn : ∀ q, vF'.ownBlock = some q → vF.ownBlock = some q ∨ W.heap.size ≤ q) :
    OG id w.heap.size 24 W2 vL lvs ∧ (∀ q, vF'.ownBlock = some q → vL.ownBlock ≠ some q) ∧ (∀ v L, OG (Value.int .i64) w.heap.size 3 W v L → OG (Value.int .i64) w.heap.size 3 W2 v L) ∧ Below w.heap.size w W2 := by
  refine ⟨h.lent.of_blocks fun q hq => hg.block q (h.lent.lt q hq).2 (fun e => h.apt q e.symm hq), fun q hq e => ?_, fun v L hv => hv.of_blocks fun q hq => hg.block q (hv.lt q hq).2 (fun e => hv.neO h.full (by decide) hq e.symm), h.frm.trans ⟨hg.os, hg.tape, hg.output, hg.size, fun q hq => hg.block q (Nat.lt_of_lt_of_le hq h.frm.size) (fun e => by have := (h.full.lt q e.symm).1; omega)⟩⟩
  rcases hn q hq with e2 | e2
  · exact h.apt q e2 e
  · have := (h.lent.lt q e).2; omega
theorem LtI.pushL {w W W2 : World} {P : List (List Int)} {i : Nat} {vF vL vL' : Value} {fvs lvs lvs' : List Value} (hF : OG id w.heap.size 24 W vF fvs) (hL : OG id w.heap.size 24 W vL lvs) (ha : ∀ q, vF.ownBlock = some q → vL.ownBlock ≠ some q) (hfr : Below w.heap.size w W) (ho : OG id w.heap.size 24 W2 vL' lvs') (hg : W.grownBy W2 vL.ownBlock) (hn : ∀ q, vL'.ownBlock = some q → vL.ownBlock = some q ∨ W.heap.size ≤ q) :
    OG id w.heap.size 24 W2 vF fvs ∧ (∀ q, vF.ownBlock = some q → vL'.ownBlock ≠ some q) ∧ (∀ v L, OG (Value.int .i64) w.heap.size 3 W v L → OG (Value.int .i64) w.heap.size 3 W2 v L) ∧ Below w.heap.size w W2 := by
  refine ⟨hF.of_blocks fun q hq => hg.block q (hF.lt q hq).2 (fun e => ha q hq e.symm), fun q hq e => ?_, fun v L hv => hv.of_blocks fun q hq => hg.block q (hv.lt q hq).2 (fun e => hv.neO hL (by decide) hq e.symm), hfr.trans ⟨hg.os, hg.tape, hg.output, hg.size, fun q hq => hg.block q (Nat.lt_of_lt_of_le hq hfr.size) (fun e => by have := (hL.lt q e.symm).1; omega)⟩⟩
  rcases hn q e with e2 | e2
  · exact ha q hq e2
  · have := (hF.lt q hq).2; omega
theorem own_new {ng m cap : Nat} {v : Value} {s : Nat} (h : v.ownBlock = some ng ∨ ng = s) : ∀ q, (Value.slice (some ⟨ng, 0, none⟩) m cap).ownBlock = some q → v.ownBlock = some q ∨ s ≤ q := fun q hq => by
  have e1 : ng = q := by simpa [Value.ownBlock] using hq
  subst e1
  exact h.imp id (fun e => by omega)
theorem LtI.done {w W : World} {P : List (List Int)} {n : Nat} {vF : Value} {fvs lvs : List Value} {gl lc : Nat} {m : Value} (hn : P.length = n) (hF : OG id w.heap.size 24 W vF fvs) (hfl : fvs.length = n) (hll : lvs.length = n) (he : ∀ j, j < n → ∃ g cap, fvs[j]? = some (.slice (some ⟨g, 0, none⟩) ((P.getD j []).length + 6) cap) ∧ lvs[j]? = some (.slice (some ⟨g, 0, none⟩) (P.getD j []).length cap) ∧ OG (Value.int .i64) w.heap.size 3 W (.slice (some ⟨g, 0, none⟩) ((P.getD j []).length + 6) cap) (P.getD j [] ++ mrks))
    (hL : OG id w.heap.size 24 W (.slice (some ⟨gl, 0, none⟩) (n + 1) lc) (lvs ++ [m])) (hm : RG (Value.int .i64) W m [-77]) : LtE W P n (.slice (some ⟨gl, 0, none⟩) n lc) vF gl lc fvs lvs m := by
  refine ⟨rfl, hL.rg, hm, ⟨?_, by rw [hll, hn], fun i x hx => ?_⟩, ⟨hF.rg, by rw [List.length_map, hfl, hn], fun i x hx => ?_⟩⟩
  · have h1 := hL.rg.cut (m := n) (by omega)
    rw [List.take_left' hll] at h1
    exact h1
  · have hi : i < n := by have := (List.getElem?_eq_some_iff.1 hx).1; omega
    obtain ⟨g, cap, h1, h2, h3⟩ := he i hi
    rw [h2] at hx
    simp only [Option.some.injEq] at hx
    subst hx
    have h4 := h3.rg.cut (m := (P.getD i []).length) (by omega)
    rw [List.take_left' rfl] at h4
    exact h4
  · have hi : i < n := by have := (List.getElem?_eq_some_iff.1 hx).1; omega
    obtain ⟨g, cap, h1, h2, h3⟩ := he i hi
    rw [h1] at hx
    simp only [Option.some.injEq] at hx
    subst hx
    have e1 : (P.map (· ++ mrks)).getD i [] = P.getD i [] ++ mrks := by
      rw [List.getD_eq_getElem?_getD, List.getD_eq_getElem?_getD, List.getElem?_map, List.getElem?_eq_getElem (by omega)]; rfl
    rw [e1]
    exact h3.rg
/-- An append of one thing to a row of the call's own: it stays, or moves to the end. -/
theorem wpList_pushV {α : Type} {enc : α → Value} {P : Program} (w : World) {ops : Array Oper} {rest : List Oper} {o : Oper} {a : Act} {Q : Exit → Act → World → Prop} (hg : o.guard = none) (s x : Operand) (t : TypeId) (hop : o.op = .call { callee := .builtin .append, args := #[s, x], argTypes := #[t, t] })
    (B : Nat) (e : TypeId) (i : TypeInfo) (z : Value) (bytes : Nat) (h1 : P.underlying t = some (.slice e)) (h2 : P.info? e = some i) (h3 : i.zero = some z) (h4 : i.size = 1) (h5 : i.bytes = bytes) (h6 : z.cells.size = 1)
    (v : Value) (L : List α) (hs : a.eval s = v) (hown : OG enc B e w v L) (gb : Nat) (sv : α) (hx : a.eval x = .slice (some ⟨gb, 0, none⟩) 1 1) (cb : w.cell? ⟨gb, 0, none⟩ = some (enc sv)) (hone : (enc sv).oneCell' = true) (hl1 : L.length + 1 ≤ maxLen) (hl2 : (L.length + 1) * bytes ≤ 140737488355328) (hB : B ≤ w.heap.size)
    (hK : ∀ ng n ncap w', OG enc B e w' (.slice (some ⟨ng, 0, none⟩) n ncap) (L ++ [sv]) → w.grownBy w' v.ownBlock → (v.ownBlock = some ng ∨ ng = w.heap.size) → ng < w'.heap.size → wpList P ops Q rest (a.put o.dst (.slice (some ⟨ng, 0, none⟩) n ncap)) w') : wpList P ops Q (o :: rest) a w := by
  refine wpList_plain hg fun K hK' => ?_
  refine wp_append_lies _ s x t hop B e i z 1 bytes h1 h2 h3 h4 h5 h6 (by decide) v L.length _ hs hown ⟨gb, 0, none⟩ 1 1 [enc sv] hx rfl (fun j u hj => by match j, hj with | 0, hj => simp at hj; subst hj; rw [Addr.add_lit, Nat.add_zero]; exact cb) (by intro u hu; simp at hu; subst hu; exact hone) (by decide) hl1 hl2 hB _ rfl ?_
  intro ng ncap w' ho hg' hgg hlt
  refine hK' _ _ (hK ng _ ncap w' ?_ hg' hgg hlt)
  unfold OG
  rw [List.length_append, List.map_append]
  exact ho
end Go.Proofs.Ytcadljpdokhpmaa

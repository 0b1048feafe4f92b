/-
  Proved here: what an append to a row of the call's own keeps of the other rows. No condition but those of the given laws on append.
-/
import Derived.Test.YtknibmehbplpbaaMem
import Derived.ArgAppend
namespace Go.Proofs.Ytknibmehbplpbaa
open Go.RowKit

/-- What is owned stays owned, where it lies elsewhere, or is no longer than n. -/
def Keeps (w w' : World) (v : Value) (n : Nat) : Prop := ∀ b e u k ys, w.ownsRow b e 1 u k ys → (u.ownBlock = v.ownBlock → k ≤ n) → w'.ownsRow b e 1 u k ys

theorem keeps_none {w w' : World} {v : Value} {n : Nat} (hg : w.grownBy w' none) : Keeps w w' v n := fun b e u k ys h _ => by
  rcases hu : u.ownBlock with _ | g
  · exact h.kept hg (Or.inl hu)
  · exact h.kept hg (Or.inr (by rw [hu]; simp))

theorem keeps_fits {w w' : World} {base e g n m cap : Nat} {xs news : List Value} (h : w.ownsRow base e 1 (.slice (some ⟨g, 0, none⟩) n cap) n xs)
    (h' : w'.ownsRow base e 1 (.slice (some ⟨g, 0, none⟩) (n + m) cap) (n + m) (xs ++ news)) (hg : w.grownBy w' (some g)) : Keeps w w' (.slice (some ⟨g, 0, none⟩) n cap) n := fun b e2 u k ys hu hk => by
  by_cases hb : u.ownBlock = some g
  · have hkn := hk hb
    obtain ⟨hl, hu⟩ := hu
    rcases hu with ⟨rfl, _⟩ | ⟨g2, cap2, cur, rfl, hb2, hh, hkc, hcm, hcs, ht⟩
    · simp [Value.ownBlock] at hb
    · simp only [Value.ownBlock, Option.some.injEq] at hb
      subst hb
      rcases h.2 with ⟨h, _⟩ | ⟨g3, cap3, cur3, h3, hb3, hh3, hkc3, hcm3, hcs3, ht3⟩
      · simp at h
      rcases h'.2 with ⟨h', _⟩ | ⟨g4, cap4, cur4, h4, hb4, hh4, hkc4, hcm4, hcs4, ht4⟩
      · simp at h'
      simp only [Value.slice.injEq, Option.some.injEq, Addr.mk.injEq, and_true, true_and] at h3 h4
      obtain ⟨rfl, rfl⟩ := h3
      obtain ⟨rfl, rfl⟩ := h4
      rw [hh] at hh3
      simp only [Option.some.injEq, Obj.cells.injEq, and_true] at hh3
      obtain ⟨rfl, rfl⟩ := hh3
      refine ⟨hl, Or.inr ⟨g2, cap2, cur4, rfl, hb2, hh4, hkc, hcm, by omega, ?_⟩⟩
      simp only [Nat.mul_one] at ht ht3 ht4 hl ⊢
      have e1 : (cur4.toList.take (n + m)).take k = (xs ++ news).take k := by rw [ht4]
      rw [List.take_take, Nat.min_eq_left (by omega), List.take_append_of_le_length (by rw [← ht3, List.length_take, Array.length_toList]; omega)] at e1
      rw [e1, ← ht3, List.take_take, Nat.min_eq_left hkn, ht]
  · rcases hu' : u.ownBlock with _ | g'
    · exact hu.kept hg (Or.inl hu')
    · exact hu.kept hg (Or.inr (by rw [hu'] at hb ⊢; exact hb))

theorem wpList_push {P : Program} (w : World) {ops : Array Oper} {rest : List Oper} {o : Oper} {a : Act} {Q : Exit → Act → World → Prop}
    (hg : o.guard = none) (s x : Operand) (t : TypeId) (hop : o.op = Op.call { callee := Callee.builtin Builtin.append, args := #[s, x], argTypes := #[t, t] })
    (base : Nat) (e : TypeId) (i : TypeInfo) (z : Value) (bytes : Nat) (h1 : P.underlying t = some (.slice e)) (h2 : P.info? e = some i) (h3 : i.zero = some z) (h4 : i.size = 1) (h5 : i.bytes = bytes) (h6 : z.cells.size = 1)
    (v : Value) (n : Nat) (xs : List Value) (hs : a.eval s = v) (hown : w.ownsRow base e 1 v n xs)
    (ad : Addr) (m c : Nat) (news : List Value) (hx : a.eval x = .slice (some ad) m c) (hn : news.length = m * 1) (hc : ∀ j u, news[j]? = some u → w.cell? (ad.add j) = some u) (h1c : ∀ u ∈ news, u.oneCell' = true)
    (hm : 0 < m) (b1 : n + m ≤ maxLen) (b2 : (n + m) * bytes ≤ 140737488355328) (hbase : base ≤ w.heap.size)
    (hK : ∀ v' w', w'.ownsRow base e 1 v' (n + m) (xs ++ news) → w.grownBy w' v.ownBlock → Keeps w w' v n → (v'.ownBlock = v.ownBlock ∨ ∀ g, v'.ownBlock = some g → w.heap.size ≤ g) → wpList P ops Q rest (a.put o.dst v') w') :
    wpList P ops Q (o :: rest) a w := by
  have hown0 := hown
  have grow : ∀ v' w', w'.ownsRow w.heap.size e 1 v' (n + m) (xs ++ news) → w.grownBy w' none → wpList P ops Q rest (a.put o.dst v') w' := by
    intro v' w' ho hgr
    refine hK v' w' ?_ ⟨hgr.os, hgr.tape, hgr.output, hgr.size, fun k hk _ => hgr.block k hk (by simp)⟩ (keeps_none hgr) (Or.inr fun g hg => (World.ownsRow.lt ho g hg).1)
    refine ⟨ho.1, ?_⟩
    rcases ho.2 with h | ⟨g, cap, cur, e1, e2, e3⟩
    · exact Or.inl h
    · exact Or.inr ⟨g, cap, cur, e1, by omega, e3⟩
  rcases hown.2 with ⟨rfl, hn0⟩ | ⟨g, cap, cur, rfl, hb, hh, hnc, hcm, hcs, ht⟩
  · subst hn0
    have hx0 : xs = [] := by have := hown.1; simpa using this
    subst hx0
    exact wpList_append_grows w hg s x t hop e i z 1 bytes h1 h2 h3 h4 h5 h6 (by decide) none 0 0 [] hs (fun _ => ⟨rfl, rfl⟩) (by simp) (fun b h => by simp at h) ad m c news hx hn hc h1c (by omega) b1 b2 grow
  · by_cases hr : n + m ≤ cap
    · refine wpList_append_fits w hg s x t hop base e i 1 h1 h2 h4 g n cap xs hs hown ad m c news hx hn hc h1c hr ?_
      intro w' ho hgr
      exact hK _ w' ho hgr (keeps_fits hown ho hgr) (Or.inl rfl)
    · refine wpList_append_grows w hg s x t hop e i z 1 bytes h1 h2 h3 h4 h5 h6 (by decide) (some ⟨g, 0, none⟩) n cap xs hs (fun h => by simp at h) hown.1 ?_ ad m c news hx hn hc h1c (by omega) b1 b2 grow
      intro b hb' j u hj
      simp only [Option.some.injEq] at hb'
      subst hb'
      rw [Addr.add_lit, Nat.zero_add, World.ownsRow.cellAt hown0 j ?_, hj]
      have := (List.getElem?_eq_some_iff.1 hj).1
      rw [hown.1] at this
      exact this
end Go.Proofs.Ytknibmehbplpbaa

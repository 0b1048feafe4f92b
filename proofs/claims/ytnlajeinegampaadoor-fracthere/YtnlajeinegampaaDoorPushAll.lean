/-
  Proved here: plain facts on numbers that lie in memory, limb by limb, and on rows that a call made for itself. No condition.
  Proved here: what an append to a row of the call's own keeps of the other rows. No condition but those of the given laws on append.
-/
import Derived.Test.YtnlajeinegampaaDoorMath
import Derived.WalkKit
import Derived.Below
import Derived.BigQuiet
import Derived.ArgAppend
namespace Go.Proofs.YtnlajeinegampaaDoor
open Go.RowKit

/-- A limb as a cell. -/
def U (x : Nat) : Value := .int .u32 (x : Int)
/-- A slice cut at k. -/
def cutTo : Value → Nat → Value
  | .slice a _ c, k => .slice a k c
  | v, _ => v
/-- A number that can be read: its limbs are xs. -/
def Num (w : World) (v : Value) (xs : List Nat) : Prop :=
  limbs xs ∧ ∃ ao cap, v = .slice ao xs.length cap ∧ xs.length ≤ cap ∧ cap ≤ maxLen ∧ (ao = none → cap = 0) ∧
    ∀ j, j < xs.length → ∃ b off, ao = some ⟨b, off, none⟩ ∧ w.cell? ⟨b, off + j, none⟩ = some (U (xs.getD j 0))
/-- A number in a row of the call's own. -/
def Own (B e : Nat) (w : World) (v : Value) (xs : List Nat) : Prop := limbs xs ∧ w.ownsRow B e 1 v xs.length (xs.map U)

theorem Num.lt {w : World} {v : Value} {xs : List Nat} (h : Num w v xs) : limbs xs := h.1
theorem Own.lt {B e : Nat} {w : World} {v : Value} {xs : List Nat} (h : Own B e w v xs) : limbs xs := h.1

theorem Num.cut {w : World} {v : Value} {xs : List Nat} (h : Num w v xs) {k : Nat} (hk : k ≤ xs.length) : Num w (cutTo v k) (xs.take k) := by
  obtain ⟨hb, ao, cap, rfl, h1, h2, h3, h4⟩ := h
  refine ⟨limbs_take hb k, ao, cap, by simp [cutTo, Nat.min_eq_left hk], by simp; omega, h2, h3, fun j hj => ?_⟩
  simp only [List.length_take] at hj
  obtain ⟨b, off, e, hc⟩ := h4 j (by omega)
  refine ⟨b, off, e, ?_⟩
  rw [hc, List.getD_eq_getElem?_getD, List.getD_eq_getElem?_getD, List.getElem?_take_of_lt (by omega)]

theorem Own.cut {B e : Nat} {w : World} {v : Value} {xs : List Nat} (h : Own B e w v xs) {k : Nat} (hk : k ≤ xs.length) : Own B e w (cutTo v k) (xs.take k) := by
  obtain ⟨hb, hl, h2⟩ := h
  refine ⟨limbs_take hb k, by simp, ?_⟩
  rcases h2 with ⟨rfl, h0⟩ | ⟨g, cap, cur, rfl, h3, h4, h5, h6, h7, h8⟩
  · left
    have : k = 0 := by omega
    subst this
    exact ⟨rfl, by simp⟩
  · right
    refine ⟨g, cap, cur, by simp [cutTo, Nat.min_eq_left hk], h3, h4, by simp; omega, h6, h7, ?_⟩
    simp only [Nat.mul_one] at h8 ⊢
    rw [List.length_take, Nat.min_eq_left hk, List.map_take, ← h8, List.take_take, Nat.min_eq_left hk]

theorem Own.num {B e : Nat} {w : World} {v : Value} {xs : List Nat} (h : Own B e w v xs) : Num w v xs := by
  obtain ⟨hb, h⟩ := h
  refine ⟨hb, ?_⟩
  have hw := h
  rcases h.2 with ⟨rfl, h0⟩ | ⟨g, cap, cur, rfl, h3, h4, h5, h6, h7, h8⟩
  · refine ⟨none, 0, by rw [h0], by omega, by simp [maxLen], fun _ => rfl, fun j hj => by omega⟩
  · refine ⟨some ⟨g, 0, none⟩, cap, rfl, h5, h6, fun e => by simp at e, fun j hj => ⟨g, 0, rfl, ?_⟩⟩
    rw [Nat.zero_add, World.ownsRow.cellAt hw j (by simpa using hj), List.getElem?_map, List.getD_eq_getElem?_getD, List.getElem?_eq_getElem hj]
    rfl

theorem Num.below {B : Nat} {w w' : World} {v : Value} {xs : List Nat} (h : Num w v xs) (hB : w.heap.size ≤ B) (hb : Below B w w') : Num w' v xs := by
  obtain ⟨h0, ao, cap, rfl, h1, h2, h3, h4⟩ := h
  refine ⟨h0, ao, cap, rfl, h1, h2, h3, fun j hj => ?_⟩
  obtain ⟨b, off, e, hc⟩ := h4 j hj
  refine ⟨b, off, e, ?_⟩
  rw [hb.cell (p := ⟨b, off + j, none⟩) (Nat.lt_of_lt_of_le (block_lt_of_cell hc) hB), hc]

theorem Own.below {B e : Nat} {w w' : World} {v : Value} {xs : List Nat} (h : Own B e w v xs) (hb : Below w.heap.size w w') : Own B e w' v xs := by
  obtain ⟨h0, h1, h2⟩ := h
  refine ⟨h0, h1, ?_⟩
  rcases h2 with h2 | ⟨g, cap, cur, rfl, h3, h4, h5⟩
  · exact Or.inl h2
  · exact Or.inr ⟨g, cap, cur, rfl, h3, by rw [hb.block g (Array.getElem?_eq_some_iff.1 h4).1]; exact h4, h5⟩

theorem Own.mono {B B' e : Nat} {w : World} {v : Value} {xs : List Nat} (h : Own B e w v xs) (hB : B' ≤ B) : Own B' e w v xs := by
  obtain ⟨h0, h1, h2⟩ := h
  refine ⟨h0, h1, ?_⟩
  rcases h2 with h2 | ⟨g, cap, cur, rfl, h3, h5⟩
  · exact Or.inl h2
  · exact Or.inr ⟨g, cap, cur, rfl, by omega, h5⟩

theorem Own.block {B e : Nat} {w : World} {v : Value} {xs : List Nat} (h : Own B e w v xs) : ∀ k, v.ownBlock = some k → B ≤ k ∧ k < w.heap.size := World.ownsRow.lt h.2

theorem heap_drewN (w : World) (n : Nat) : (w.drewN n).heap = w.heap := by
  induction n generalizing w with
  | zero => rfl
  | succ n ih => exact ih w.drew
theorem Num.same {w w' : World} {v : Value} {xs : List Nat} (h : Num w v xs) (e : w'.heap = w.heap) : Num w' v xs := by
  obtain ⟨h0, ao, cap, rfl, h1, h2, h3, h4⟩ := h
  refine ⟨h0, ao, cap, rfl, h1, h2, h3, fun j hj => ?_⟩
  obtain ⟨b, off, e', hc⟩ := h4 j hj
  exact ⟨b, off, e', by rw [← hc]; exact World.cell?_of_block (by rw [e])⟩
theorem Num.drewN {w : World} {v : Value} {xs : List Nat} (h : Num w v xs) (n : Nat) : Num (w.drewN n) v xs := h.same (heap_drewN w n)
theorem Own.same {B e : Nat} {w w' : World} {v : Value} {xs : List Nat} (h : Own B e w v xs) (he : w'.heap = w.heap) : Own B e w' v xs := by
  obtain ⟨h0, h1, h2⟩ := h
  exact ⟨h0, h1, by rw [he]; exact h2⟩
theorem Own.drewN {B e : Nat} {w : World} {v : Value} {xs : List Nat} (h : Own B e w v xs) (n : Nat) : Own B e (w.drewN n) v xs := h.same (heap_drewN w n)
theorem Num.of_nil (w : World) : Num w (.slice none 0 0) [] := ⟨limbs_nil, none, 0, rfl, by simp, by simp [maxLen], fun _ => rfl, fun j hj => by simp at hj⟩
theorem Own.of_nil (B e : Nat) (w : World) : Own B e w (.slice none 0 0) [] := ⟨limbs_nil, World.ownsRow_nil _ _ _ _⟩
/-- A row that was just laid. -/
theorem Own.lit {B : Nat} (e : Nat) (w : World) (cs : Array Value) (xs : List Nat) (hb : limbs xs) (hB : B ≤ w.heap.size) (hm : xs.length ≤ maxLen) (hc : cs.toList = xs.map U) :
    Own B e (w.alloc (.cells cs e)) (.slice (some ⟨w.heap.size, 0, none⟩) xs.length xs.length) xs := by
  refine ⟨hb, by simp, Or.inr ⟨w.heap.size, xs.length, cs, rfl, hB, heap_alloc_new w _, Nat.le_refl _, hm, ?_, ?_⟩⟩
  · have := congrArg List.length hc
    simpa using this
  · rw [hc]; exact List.take_of_length_le (by simp)
/-- What is read of a number with room behind it. -/
theorem Num.open_ {w : World} {v : Value} {xs : List Nat} (h : Num w v xs) : limbs xs ∧ ∃ ao cap, v = .slice ao xs.length cap ∧ xs.length ≤ cap ∧ cap ≤ 9223372036854775807 ∧ (ao = none → cap = 0) ∧
    ∀ j, j < xs.length → ∃ b off, ao = some ⟨b, off, none⟩ ∧ w.cell? ⟨b, off + j, none⟩ = some (.int .u32 ((xs.getD j 0 : Nat) : Int)) := h
end Go.Proofs.YtnlajeinegampaaDoor

namespace Go.Proofs.YtnlajeinegampaaDoor
open Go.RowKit

/-- What is owned stays owned, where it lies elsewhere, or is no longer than n. -/
def Keeps (w w' : World) (v : Value) (n : Nat) : Prop := ∀ b e u k ys, w.ownsRow b e 1 u k ys → (u.ownBlock = v.ownBlock → k ≤ n) → w'.ownsRow b e 1 u k ys

theorem keeps_none {w w' : World} {v : Value} {n : Nat} (hg : w.grownBy w' none) : Keeps w w' v n := fun b e u k ys h _ => by
  rcases hu : u.ownBlock with _ | g
  · exact h.kept hg (Or.inl hu)
  · exact h.kept hg (Or.inr (by rw [hu]; simp))

theorem keeps_fits {w w' : World} {base e g n m cap : Nat} {xs news : List Value} (h : w.ownsRow base e 1 (.slice (some ⟨g, 0, none⟩) n cap) n xs)
    (h' : w'.ownsRow base e 1 (.slice (some ⟨g, 0, none⟩) (n + m) cap) (n + m) (xs ++ news)) (hg : w.grownBy w' (some g)) : Keeps w w' (.slice (some ⟨g, 0, none⟩) n cap) n := fun b e2 u k ys hu hk => by
  by_cases hb : u.ownBlock = some g
  · have hkn := hk hb
    obtain ⟨hl, hu⟩ := hu
    rcases hu with ⟨rfl, _⟩ | ⟨g2, cap2, cur, rfl, hb2, hh, hkc, hcm, hcs, ht⟩
    · simp [Value.ownBlock] at hb
    · simp only [Value.ownBlock, Option.some.injEq] at hb
      subst hb
      rcases h.2 with ⟨h, _⟩ | ⟨g3, cap3, cur3, h3, hb3, hh3, hkc3, hcm3, hcs3, ht3⟩
      · simp at h
      rcases h'.2 with ⟨h', _⟩ | ⟨g4, cap4, cur4, h4, hb4, hh4, hkc4, hcm4, hcs4, ht4⟩
      · simp at h'
      simp only [Value.slice.injEq, Option.some.injEq, Addr.mk.injEq, and_true, true_and] at h3 h4
      obtain ⟨rfl, rfl⟩ := h3
      obtain ⟨rfl, rfl⟩ := h4
      rw [hh] at hh3
      simp only [Option.some.injEq, Obj.cells.injEq, and_true] at hh3
      obtain ⟨rfl, rfl⟩ := hh3
      refine ⟨hl, Or.inr ⟨g2, cap2, cur4, rfl, hb2, hh4, hkc, hcm, by omega, ?_⟩⟩
      simp only [Nat.mul_one] at ht ht3 ht4 hl ⊢
      have e1 : (cur4.toList.take (n + m)).take k = (xs ++ news).take k := by rw [ht4]
      rw [List.take_take, Nat.min_eq_left (by omega), List.take_append_of_le_length (by rw [← ht3, List.length_take, Array.length_toList]; omega)] at e1
      rw [e1, ← ht3, List.take_take, Nat.min_eq_left hkn, ht]
  · rcases hu' : u.ownBlock with _ | g'
    · exact hu.kept hg (Or.inl hu')
    · exact hu.kept hg (Or.inr (by rw [hu'] at hb ⊢; exact hb))

theorem wpList_push {P : Program} (w : World) {ops : Array Oper} {rest : List Oper} {o : Oper} {a : Act} {Q : Exit → Act → World → Prop}
    (hg : o.guard = none) (s x : Operand) (t : TypeId) (hop : o.op = Op.call { callee := Callee.builtin Builtin.append, args := #[s, x], argTypes := #[t, t] })
    (base : Nat) (e : TypeId) (i : TypeInfo) (z : Value) (bytes : Nat) (h1 : P.underlying t = some (.slice e)) (h2 : P.info? e = some i) (h3 : i.zero = some z) (h4 : i.size = 1) (h5 : i.bytes = bytes) (h6 : z.cells.size = 1)
    (v : Value) (n : Nat) (xs : List Value) (hs : a.eval s = v) (hown : w.ownsRow base e 1 v n xs)
    (ad : Addr) (m c : Nat) (news : List Value) (hx : a.eval x = .slice (some ad) m c) (hn : news.length = m * 1) (hc : ∀ j u, news[j]? = some u → w.cell? (ad.add j) = some u) (h1c : ∀ u ∈ news, u.oneCell' = true)
    (hm : 0 < m) (b1 : n + m ≤ maxLen) (b2 : (n + m) * bytes ≤ 140737488355328) (hbase : base ≤ w.heap.size)
    (hK : ∀ v' w', w'.ownsRow base e 1 v' (n + m) (xs ++ news) → w.grownBy w' v.ownBlock → Keeps w w' v n → (v'.ownBlock = v.ownBlock ∨ ∀ g, v'.ownBlock = some g → w.heap.size ≤ g) → wpList P ops Q rest (a.put o.dst v') w') :
    wpList P ops Q (o :: rest) a w := by
  have hown0 := hown
  have grow : ∀ v' w', w'.ownsRow w.heap.size e 1 v' (n + m) (xs ++ news) → w.grownBy w' none → wpList P ops Q rest (a.put o.dst v') w' := by
    intro v' w' ho hgr
    refine hK v' w' ?_ ⟨hgr.os, hgr.tape, hgr.output, hgr.size, fun k hk _ => hgr.block k hk (by simp)⟩ (keeps_none hgr) (Or.inr fun g hg => (World.ownsRow.lt ho g hg).1)
    refine ⟨ho.1, ?_⟩
    rcases ho.2 with h | ⟨g, cap, cur, e1, e2, e3⟩
    · exact Or.inl h
    · exact Or.inr ⟨g, cap, cur, e1, by omega, e3⟩
  rcases hown.2 with ⟨rfl, hn0⟩ | ⟨g, cap, cur, rfl, hb, hh, hnc, hcm, hcs, ht⟩
  · subst hn0
    have hx0 : xs = [] := by have := hown.1; simpa using this
    subst hx0
    exact wpList_append_grows w hg s x t hop e i z 1 bytes h1 h2 h3 h4 h5 h6 (by decide) none 0 0 [] hs (fun _ => ⟨rfl, rfl⟩) (by simp) (fun b h => by simp at h) ad m c news hx hn hc h1c (by omega) b1 b2 grow
  · by_cases hr : n + m ≤ cap
    · refine wpList_append_fits w hg s x t hop base e i 1 h1 h2 h4 g n cap xs hs hown ad m c news hx hn hc h1c hr ?_
      intro w' ho hgr
      exact hK _ w' ho hgr (keeps_fits hown ho hgr) (Or.inl rfl)
    · refine wpList_append_grows w hg s x t hop e i z 1 bytes h1 h2 h3 h4 h5 h6 (by decide) (some ⟨g, 0, none⟩) n cap xs hs (fun h => by simp at h) hown.1 ?_ ad m c news hx hn hc h1c (by omega) b1 b2 grow
      intro b hb' j u hj
      simp only [Option.some.injEq] at hb'
      subst hb'
      rw [Addr.add_lit, Nat.zero_add, World.ownsRow.cellAt hown0 j ?_, hj]
      have := (List.getElem?_eq_some_iff.1 hj).1
      rw [hown.1] at this
      exact this
end Go.Proofs.YtnlajeinegampaaDoor

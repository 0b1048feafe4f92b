/-
  Proved here: package radix's Digits at one type.
  Proved here: package radix's Digits at one type.
  Proved here: package radix's Digits at one type.
  Proved here: rows that were just laid, or are a call's own, can be read; the law's alive.
  Proved here: plain facts on numbers and their limbs to the base 2^32. No condition.
  Proved here: plain facts on numbers that lie in memory, limb by limb, and on rows that a call made for itself. No condition.
-/
import Derived.Test.YtcoiapgfaibkgabGreatRadDAll
import Derived.WalkKit
import Derived.Below
import Derived.BigQuiet
namespace Go.Proofs.YtcoiapgfaibkgabGreat
open Go.RowKit Go.Shelf
attribute [local go_sem] Oper.semAt_some

theorem Tryz.infoI : (Tryz.prog.info? 3).map (fun i => (i.zero, i.size, i.bytes)) = some (some (.int .i64 0), 1, 8) := by kernel_rfl
end Go.Proofs.YtcoiapgfaibkgabGreat

namespace Go.Proofs.YtcoiapgfaibkgabGreat
open Go.RowKit Go.Shelf
attribute [local go_sem] Oper.semAt_some

theorem Tryz.infoJ : (Tryz.prog.info? 21).map (fun i => (i.zero, i.size, i.bytes)) = some (some (.int .i32 0), 1, 4) := by kernel_rfl
end Go.Proofs.YtcoiapgfaibkgabGreat

namespace Go.Proofs.YtcoiapgfaibkgabGreat
open Go.RowKit Go.Shelf
attribute [local go_sem] Oper.semAt_some

end Go.Proofs.YtcoiapgfaibkgabGreat

namespace Go.Proofs.YtcoiapgfaibkgabGreat
open Go.RowKit Go.Shelf

theorem rk_get {k : IntKind} {zs : List Int} {i : Nat} (h : i < zs.length) : (zs.map (Value.int k)).toArray[i]? = some (.int k (zs.getD i 0)) := by
  simp [List.getD_eq_getElem?_getD, h]
/-- All in the kind's bounds? -/
def inK (k : IntKind) (zs : List Int) : Prop := ∀ i, i < zs.length → k.min ≤ zs.getD i 0 ∧ zs.getD i 0 ≤ k.max
theorem RK.of_row {k : IntKind} {w : World} {g cap e : Nat} {zs : List Int} (h : w.heap[g]? = some (.cells (zs.map (Value.int k)).toArray e (0, 0))) (hz : inK k zs) (hc : zs.length ≤ cap) (hm : cap ≤ maxLen) : RK k w (.slice (some ⟨g, 0, none⟩) zs.length cap) zs :=
  ⟨some ⟨g, 0, none⟩, cap, rfl, hc, hm, fun h => by simp at h, hz, fun i hi => ⟨g, 0, rfl, by rw [Nat.zero_add]; simp only [World.cell?, h]; exact rk_get hi⟩⟩
theorem RK.lit {k : IntKind} (w : World) (e : Nat) (zs : List Int) (hz : inK k zs) (hm : zs.length ≤ maxLen) : RK k (w.alloc (.cells (zs.map (Value.int k)).toArray e)) (.slice (some ⟨w.heap.size, 0, none⟩) zs.length zs.length) zs :=
  RK.of_row (heap_alloc_new w _) hz (Nat.le_refl _) hm
theorem RK.of_own {k : IntKind} {w : World} {B e : Nat} {v : Value} {zs : List Int} (h : w.ownsRow B e 1 v zs.length (zs.map (Value.int k))) (hz : inK k zs) : RK k w v zs := by
  have hw := h
  rcases h.2 with ⟨rfl, h0⟩ | ⟨g, cap, cur, rfl, h3, h4, h5, h6, h7, h8⟩
  · have : zs = [] := List.eq_nil_of_length_eq_zero h0
    subst this
    exact RK.nil k w
  · refine ⟨some ⟨g, 0, none⟩, cap, rfl, h5, h6, fun e => by simp at e, hz, fun j hj => ⟨g, 0, rfl, ?_⟩⟩
    rw [Nat.zero_add, World.ownsRow.cellAt hw j (by simpa using hj), List.getElem?_map, List.getD_eq_getElem?_getD, List.getElem?_eq_getElem hj]
    rfl
theorem RK.alloc {k : IntKind} {w : World} {v : Value} {zs : List Int} (h : RK k w v zs) (o : Obj) : RK k (w.alloc o) v zs := h.below (Nat.le_refl _) ((Below.refl _ _).alloc (Nat.le_refl _) o)
theorem cell_row {k : IntKind} {w : World} {g e : Nat} {zs : List Int} (h : w.heap[g]? = some (.cells (zs.map (Value.int k)).toArray e (0, 0))) {i : Nat} (hi : i < zs.length) : w.cell? ⟨g, i, none⟩ = some (.int k (zs.getD i 0)) := by
  simp only [World.cell?, h]; exact rk_get hi
theorem inK_of {k : IntKind} {zs : List Int} (h : (zs.all fun z => decide (k.min ≤ z) && decide (z ≤ k.max)) = true) : inK k zs := fun i hi => by
  rw [List.getD_eq_getElem?_getD, List.getElem?_eq_getElem hi]
  have := List.all_eq_true.1 h _ (List.getElem_mem hi)
  simpa using this
theorem DgEnd.yes {K : IntKind} {et : Nat} {ss : List Int} {a : Int} {w w' : World} {e : Ending} (h : DgEnd K et ss a w e w') (h0 : dgE ss a = 0) :
    ∃ g, e = .returned (.tuple #[.slice (some ⟨g, 0, none⟩) ss.length ss.length, .int .i64 0]) ∧ w.heap.size ≤ g ∧ w'.heap[g]? = some (.cells ((dgs ss a).map (Value.int K)).toArray et (0, 0)) ∧ Below w.heap.size w w' := by
  obtain ⟨⟨h1, _⟩ | ⟨_, g, h2, h3, h4⟩, hb⟩ := h
  · exact absurd h0 h1
  · exact ⟨g, h2, h3, h4, hb⟩
theorem DgEnd.no {K : IntKind} {et : Nat} {ss : List Int} {a : Int} {w w' : World} {e : Ending} (h : DgEnd K et ss a w e w') (h0 : dgE ss a ≠ 0) :
    e = .returned (.tuple #[.slice none 0 0, .int .i64 (dgE ss a)]) ∧ Below w.heap.size w w' := by
  obtain ⟨⟨_, h1⟩ | ⟨h2, _⟩, hb⟩ := h
  · exact ⟨h1, hb⟩
  · exact absurd h2 h0
theorem belowA (w : World) (o : Obj) : Below w.heap.size w (w.alloc o) := (Below.refl _ _).alloc (Nat.le_refl _) o
theorem bstepR {w wr w' : World} (h : Below w.heap.size w wr) (hb : Below wr.heap.size wr w') : Below w.heap.size w w' := h.trans (hb.mono h.size)
theorem keepR {w w' : World} {p : Addr} {v : Value} (hb : Below w.heap.size w w') (h : w.cell? p = some v) : w'.cell? p = some v := by
  rw [hb.cell (block_lt_of_cell h)]; exact h
end Go.Proofs.YtcoiapgfaibkgabGreat

namespace Go.Proofs.YtcoiapgfaibkgabGreat
/-- The number of some limbs, the lowest first. -/
def val : List Nat → Nat
  | [] => 0
  | x :: r => x + 4294967296 * val r
/-- Each limb is one. -/
def limbs (xs : List Nat) : Prop := ∀ x ∈ xs, x < 4294967296
def digs : Nat → Nat → List Nat
  | 0, _ => []
  | f + 1, n => if n = 0 then [] else n % 4294967296 :: digs f (n / 4294967296)
/-- The limbs of a number. -/
def lim (n : Nat) : List Nat := digs n n

theorem digs_zero (f : Nat) : digs f 0 = [] := by cases f <;> simp [digs]
theorem digs_fuel : ∀ (f g n : Nat), n ≤ f → n ≤ g → digs f n = digs g n
  | 0, g, n, hf, _ => by
    have : n = 0 := by omega
    subst this; rw [digs_zero, digs_zero]
  | f + 1, 0, n, _, hg => by
    have : n = 0 := by omega
    subst this; rw [digs_zero, digs_zero]
  | f + 1, g + 1, n, hf, hg => by
    simp only [digs]
    by_cases h : n = 0
    · simp [h]
    · rw [if_neg h, if_neg h, digs_fuel f g (n / 4294967296) (by omega) (by omega)]
theorem lim_zero : lim 0 = [] := rfl
theorem lim_pos {n : Nat} (h : n ≠ 0) : lim n = n % 4294967296 :: lim (n / 4294967296) := by
  unfold lim
  match n, h with
  | n + 1, h =>
    rw [digs, if_neg h]
    rw [digs_fuel n ((n + 1) / 4294967296) ((n + 1) / 4294967296) (by omega) (by omega)]
theorem lim_step (n : Nat) : val (lim n) = n ∧ limbs (lim n) := by
  induction n using Nat.strongRecOn with
  | ind n ih =>
    by_cases h : n = 0
    · subst h; exact ⟨rfl, by intro x hx; simp [lim_zero] at hx⟩
    · have := ih (n / 4294967296) (by omega)
      rw [lim_pos h]
      refine ⟨by simp only [val]; rw [this.1]; omega, ?_⟩
      intro x hx
      rcases List.mem_cons.1 hx with rfl | hx
      · omega
      · exact this.2 x hx
theorem val_lim (n : Nat) : val (lim n) = n := (lim_step n).1
theorem limbs_lim (n : Nat) : limbs (lim n) := (lim_step n).2
theorem limbs_nil : limbs [] := by intro x hx; simp at hx
theorem limbs_cons {x : Nat} {r : List Nat} : limbs (x :: r) ↔ x < 4294967296 ∧ limbs r := by
  constructor
  · intro h; exact ⟨h x (by simp), fun y hy => h y (by simp [hy])⟩
  · intro h y hy
    rcases List.mem_cons.1 hy with rfl | hy
    · exact h.1
    · exact h.2 y hy
theorem val_append (a b : List Nat) : val (a ++ b) = val a + 4294967296 ^ a.length * val b := by
  induction a with
  | nil => simp [val]
  | cons x r ih =>
    simp only [List.cons_append, val, ih, List.length_cons, Nat.pow_succ]
    rw [Nat.mul_add, Nat.add_assoc, ← Nat.mul_assoc, Nat.mul_comm 4294967296 (4294967296 ^ r.length)]
theorem val_lt {xs : List Nat} (h : limbs xs) : val xs < 4294967296 ^ xs.length := by
  induction xs with
  | nil => simp [val]
  | cons x r ih =>
    have hr := ih (limbs_cons.1 h).2
    have hx := (limbs_cons.1 h).1
    simp only [val, List.length_cons, Nat.pow_succ]
    omega
theorem val_zeros : ∀ {xs : List Nat}, (∀ x ∈ xs, x = 0) → val xs = 0
  | [], _ => rfl
  | x :: r, h => by
    simp only [val]
    rw [h x (by simp), val_zeros (xs := r) fun y hy => h y (by simp [hy])]
/-- Two normal lists of limbs of one number are one. -/
theorem lim_val_cons {x : Nat} {r : List Nat} (hx : x < 4294967296) (h : x + 4294967296 * val r ≠ 0) : lim (val (x :: r)) = x :: lim (val r) := by
  simp only [val]
  rw [lim_pos h]
  rw [show (x + 4294967296 * val r) % 4294967296 = x by omega, show (x + 4294967296 * val r) / 4294967296 = val r by omega]
theorem val_pos_of_last : ∀ {xs : List Nat} (h : xs ≠ []), xs.getLast h ≠ 0 → val xs ≠ 0
  | [x], _, hl => by simpa [val] using hl
  | x :: y :: r, _, hl => by
    have := val_pos_of_last (xs := y :: r) (by simp) (by simpa using hl)
    have h1 : val (x :: y :: r) = x + 4294967296 * val (y :: r) := rfl
    omega
theorem lim_of_last : ∀ {xs : List Nat}, limbs xs → (∀ h : xs ≠ [], xs.getLast h ≠ 0) → lim (val xs) = xs
  | [], _, _ => rfl
  | x :: r, hb, hl => by
    have hx := limbs_cons.1 hb
    have hne := val_pos_of_last (xs := x :: r) (by simp) (hl (by simp))
    rw [lim_val_cons hx.1 hne]
    rw [lim_of_last hx.2]
    intro hr
    have := hl (by simp)
    rwa [List.getLast_cons hr] at this
theorem val_take_zeros {xs : List Nat} {k : Nat} (hk : k ≤ xs.length) (hz : ∀ j, k ≤ j → j < xs.length → xs.getD j 0 = 0) : val (xs.take k) = val xs := by
  have e : xs = xs.take k ++ xs.drop k := (List.take_append_drop k xs).symm
  conv => rhs; rw [e, val_append]
  rw [val_zeros (xs := xs.drop k)]
  · simp
  · intro y hy
    obtain ⟨i, hi, rfl⟩ := List.getElem_of_mem hy
    have := hz (k + i) (by omega) (by simp at hi; omega)
    simp only [List.length_drop] at hi
    rw [List.getD_eq_getElem?_getD, List.getElem?_eq_getElem (by omega)] at this
    simpa using this
theorem limbs_take {xs : List Nat} (h : limbs xs) (k : Nat) : limbs (xs.take k) := fun x hx => h x (List.mem_of_mem_take hx)
theorem limbs_drop {xs : List Nat} (h : limbs xs) (k : Nat) : limbs (xs.drop k) := fun x hx => h x (List.mem_of_mem_drop hx)
theorem take_trim {xs : List Nat} (hb : limbs xs) {k : Nat} (hk : k ≤ xs.length) (hz : ∀ j, k ≤ j → j < xs.length → xs.getD j 0 = 0) (hl : 0 < k → xs.getD (k - 1) 0 ≠ 0) :
    xs.take k = lim (val xs) := by
  rw [← val_take_zeros hk hz]
  refine (lim_of_last (limbs_take hb k) ?_).symm
  intro hne
  have hk0 : 0 < k := by
    rcases Nat.eq_zero_or_pos k with h | h
    · subst h; simp at hne
    · exact h
  have := hl hk0
  rw [List.getLast_eq_getElem]
  rw [List.getD_eq_getElem?_getD, List.getElem?_eq_getElem (by omega)] at this
  simp only [List.length_take, Nat.min_eq_left hk]
  simpa using this
theorem limb_lt {xs : List Nat} (h : limbs xs) (j : Nat) : xs.getD j 0 < 4294967296 := by
  rw [List.getD_eq_getElem?_getD]
  rcases Nat.lt_or_ge j xs.length with hj | hj
  · rw [List.getElem?_eq_getElem hj]; exact h _ (List.getElem_mem hj)
  · rw [List.getElem?_eq_none hj]; simp
theorem lim_len_le : ∀ {k n : Nat}, n < 4294967296 ^ k → (lim n).length ≤ k
  | 0, n, h => by
    have : n = 0 := by simpa using h
    subst this; simp [lim_zero]
  | k + 1, n, h => by
    by_cases h0 : n = 0
    · subst h0; simp [lim_zero]
    · rw [lim_pos h0]
      have : n / 4294967296 < 4294967296 ^ k := by rw [Nat.pow_succ] at h; omega
      have := lim_len_le this
      simp only [List.length_cons]; omega
theorem lim_lt_of_len {k n : Nat} (h : (lim n).length ≤ k) : n < 4294967296 ^ k := by
  have h1 := val_lt (limbs_lim n)
  rw [val_lim] at h1
  exact Nat.lt_of_lt_of_le h1 (Nat.pow_le_pow_right (by decide) h)
theorem getD_lim_two (n : Nat) (h : n < 18446744073709551616) : (lim n).getD 0 0 = n % 4294967296 ∧ (lim n).getD 1 0 = n / 4294967296 := by
  by_cases h0 : n = 0
  · subst h0; simp [lim_zero]
  · rw [lim_pos h0]
    refine ⟨by simp, ?_⟩
    by_cases h1 : n / 4294967296 = 0
    · rw [h1]; simp [lim_zero]
    · rw [lim_pos h1]; simp; omega
end Go.Proofs.YtcoiapgfaibkgabGreat

namespace Go.Proofs.YtcoiapgfaibkgabGreat
open Go.RowKit

/-- A limb as a cell. -/
def U (x : Nat) : Value := .int .u32 (x : Int)
/-- A slice cut at k. -/
def cutTo : Value → Nat → Value
  | .slice a _ c, k => .slice a k c
  | v, _ => v
/-- A number that can be read: its limbs are xs. -/
def Num (w : World) (v : Value) (xs : List Nat) : Prop :=
  limbs xs ∧ ∃ ao cap, v = .slice ao xs.length cap ∧ xs.length ≤ cap ∧ cap ≤ maxLen ∧ (ao = none → cap = 0) ∧
    ∀ j, j < xs.length → ∃ b off, ao = some ⟨b, off, none⟩ ∧ w.cell? ⟨b, off + j, none⟩ = some (U (xs.getD j 0))
/-- A number in a row of the call's own. -/
def Own (B e : Nat) (w : World) (v : Value) (xs : List Nat) : Prop := limbs xs ∧ w.ownsRow B e 1 v xs.length (xs.map U)

theorem Num.lt {w : World} {v : Value} {xs : List Nat} (h : Num w v xs) : limbs xs := h.1
theorem Own.lt {B e : Nat} {w : World} {v : Value} {xs : List Nat} (h : Own B e w v xs) : limbs xs := h.1

theorem Num.cut {w : World} {v : Value} {xs : List Nat} (h : Num w v xs) {k : Nat} (hk : k ≤ xs.length) : Num w (cutTo v k) (xs.take k) := by
  obtain ⟨hb, ao, cap, rfl, h1, h2, h3, h4⟩ := h
  refine ⟨limbs_take hb k, ao, cap, by simp [cutTo, Nat.min_eq_left hk], by simp; omega, h2, h3, fun j hj => ?_⟩
  simp only [List.length_take] at hj
  obtain ⟨b, off, e, hc⟩ := h4 j (by omega)
  refine ⟨b, off, e, ?_⟩
  rw [hc, List.getD_eq_getElem?_getD, List.getD_eq_getElem?_getD, List.getElem?_take_of_lt (by omega)]

theorem Own.cut {B e : Nat} {w : World} {v : Value} {xs : List Nat} (h : Own B e w v xs) {k : Nat} (hk : k ≤ xs.length) : Own B e w (cutTo v k) (xs.take k) := by
  obtain ⟨hb, hl, h2⟩ := h
  refine ⟨limbs_take hb k, by simp, ?_⟩
  rcases h2 with ⟨rfl, h0⟩ | ⟨g, cap, cur, rfl, h3, h4, h5, h6, h7, h8⟩
  · left
    have : k = 0 := by omega
    subst this
    exact ⟨rfl, by simp⟩
  · right
    refine ⟨g, cap, cur, by simp [cutTo, Nat.min_eq_left hk], h3, h4, by simp; omega, h6, h7, ?_⟩
    simp only [Nat.mul_one] at h8 ⊢
    rw [List.length_take, Nat.min_eq_left hk, List.map_take, ← h8, List.take_take, Nat.min_eq_left hk]

theorem Own.num {B e : Nat} {w : World} {v : Value} {xs : List Nat} (h : Own B e w v xs) : Num w v xs := by
  obtain ⟨hb, h⟩ := h
  refine ⟨hb, ?_⟩
  have hw := h
  rcases h.2 with ⟨rfl, h0⟩ | ⟨g, cap, cur, rfl, h3, h4, h5, h6, h7, h8⟩
  · refine ⟨none, 0, by rw [h0], by omega, by simp [maxLen], fun _ => rfl, fun j hj => by omega⟩
  · refine ⟨some ⟨g, 0, none⟩, cap, rfl, h5, h6, fun e => by simp at e, fun j hj => ⟨g, 0, rfl, ?_⟩⟩
    rw [Nat.zero_add, World.ownsRow.cellAt hw j (by simpa using hj), List.getElem?_map, List.getD_eq_getElem?_getD, List.getElem?_eq_getElem hj]
    rfl

theorem Num.below {B : Nat} {w w' : World} {v : Value} {xs : List Nat} (h : Num w v xs) (hB : w.heap.size ≤ B) (hb : Below B w w') : Num w' v xs := by
  obtain ⟨h0, ao, cap, rfl, h1, h2, h3, h4⟩ := h
  refine ⟨h0, ao, cap, rfl, h1, h2, h3, fun j hj => ?_⟩
  obtain ⟨b, off, e, hc⟩ := h4 j hj
  refine ⟨b, off, e, ?_⟩
  rw [hb.cell (p := ⟨b, off + j, none⟩) (Nat.lt_of_lt_of_le (block_lt_of_cell hc) hB), hc]

theorem Own.below {B e : Nat} {w w' : World} {v : Value} {xs : List Nat} (h : Own B e w v xs) (hb : Below w.heap.size w w') : Own B e w' v xs := by
  obtain ⟨h0, h1, h2⟩ := h
  refine ⟨h0, h1, ?_⟩
  rcases h2 with h2 | ⟨g, cap, cur, rfl, h3, h4, h5⟩
  · exact Or.inl h2
  · exact Or.inr ⟨g, cap, cur, rfl, h3, by rw [hb.block g (Array.getElem?_eq_some_iff.1 h4).1]; exact h4, h5⟩

theorem Own.mono {B B' e : Nat} {w : World} {v : Value} {xs : List Nat} (h : Own B e w v xs) (hB : B' ≤ B) : Own B' e w v xs := by
  obtain ⟨h0, h1, h2⟩ := h
  refine ⟨h0, h1, ?_⟩
  rcases h2 with h2 | ⟨g, cap, cur, rfl, h3, h5⟩
  · exact Or.inl h2
  · exact Or.inr ⟨g, cap, cur, rfl, by omega, h5⟩

theorem Own.block {B e : Nat} {w : World} {v : Value} {xs : List Nat} (h : Own B e w v xs) : ∀ k, v.ownBlock = some k → B ≤ k ∧ k < w.heap.size := World.ownsRow.lt h.2

theorem heap_drewN (w : World) (n : Nat) : (w.drewN n).heap = w.heap := by
  induction n generalizing w with
  | zero => rfl
  | succ n ih => exact ih w.drew
theorem Num.same {w w' : World} {v : Value} {xs : List Nat} (h : Num w v xs) (e : w'.heap = w.heap) : Num w' v xs := by
  obtain ⟨h0, ao, cap, rfl, h1, h2, h3, h4⟩ := h
  refine ⟨h0, ao, cap, rfl, h1, h2, h3, fun j hj => ?_⟩
  obtain ⟨b, off, e', hc⟩ := h4 j hj
  exact ⟨b, off, e', by rw [← hc]; exact World.cell?_of_block (by rw [e])⟩
theorem Num.drewN {w : World} {v : Value} {xs : List Nat} (h : Num w v xs) (n : Nat) : Num (w.drewN n) v xs := h.same (heap_drewN w n)
theorem Own.same {B e : Nat} {w w' : World} {v : Value} {xs : List Nat} (h : Own B e w v xs) (he : w'.heap = w.heap) : Own B e w' v xs := by
  obtain ⟨h0, h1, h2⟩ := h
  exact ⟨h0, h1, by rw [he]; exact h2⟩
theorem Own.drewN {B e : Nat} {w : World} {v : Value} {xs : List Nat} (h : Own B e w v xs) (n : Nat) : Own B e (w.drewN n) v xs := h.same (heap_drewN w n)
theorem Num.of_nil (w : World) : Num w (.slice none 0 0) [] := ⟨limbs_nil, none, 0, rfl, by simp, by simp [maxLen], fun _ => rfl, fun j hj => by simp at hj⟩
theorem Own.of_nil (B e : Nat) (w : World) : Own B e w (.slice none 0 0) [] := ⟨limbs_nil, World.ownsRow_nil _ _ _ _⟩
/-- A row that was just laid. -/
theorem Own.lit {B : Nat} (e : Nat) (w : World) (cs : Array Value) (xs : List Nat) (hb : limbs xs) (hB : B ≤ w.heap.size) (hm : xs.length ≤ maxLen) (hc : cs.toList = xs.map U) :
    Own B e (w.alloc (.cells cs e)) (.slice (some ⟨w.heap.size, 0, none⟩) xs.length xs.length) xs := by
  refine ⟨hb, by simp, Or.inr ⟨w.heap.size, xs.length, cs, rfl, hB, heap_alloc_new w _, Nat.le_refl _, hm, ?_, ?_⟩⟩
  · have := congrArg List.length hc
    simpa using this
  · rw [hc]; exact List.take_of_length_le (by simp)
/-- What is read of a number with room behind it. -/
theorem Num.open_ {w : World} {v : Value} {xs : List Nat} (h : Num w v xs) : limbs xs ∧ ∃ ao cap, v = .slice ao xs.length cap ∧ xs.length ≤ cap ∧ cap ≤ 9223372036854775807 ∧ (ao = none → cap = 0) ∧
    ∀ j, j < xs.length → ∃ b off, ao = some ⟨b, off, none⟩ ∧ w.cell? ⟨b, off + j, none⟩ = some (.int .u32 ((xs.getD j 0 : Nat) : Int)) := h
end Go.Proofs.YtcoiapgfaibkgabGreat

/-
  Proved here: plain facts on the scope and sizes of a product.
-/
import Derived.Test.YtjlmignafhhjhaaFacBAll
import Derived.Test.YtjlmignafhhjhaaRadJAll
namespace Go.Proofs.Ytjlmignafhhjhaa
open Go.RowKit Go.Shelf Go.Lib Go.Sort
theorem ofR_rise {xs : List Int} (h : Rise xs) : ofR xs = xs := rise_ext (rise_ofR xs) h fun z => mem_ofR xs z
def mxZ (a b : Int) : Int := if a < b then b else a
/-- The sizes of a product. -/
def jS (xs zs ys us : List Int) : List Int := (joinR xs ys).map fun v => mxZ (szOf xs zs v) (szOf ys us v)
/-- A variable of two sizes. -/
def two (xs zs ys us : List Int) (v : Int) : Bool := decide (0 < szOf xs zs v) && (decide (0 < szOf ys us v) && !decide (szOf xs zs v = szOf ys us v))
def clash (xs zs ys us : List Int) : Bool := (joinR xs ys).any (two xs zs ys us)
theorem jS_len (xs zs ys us : List Int) : (jS xs zs ys us).length = (joinR xs ys).length := by simp [jS]
/-- The sizes told up to place i. -/
def jSk (xs zs ys us : List Int) (i : Nat) : List Int := (jS xs zs ys us).take i ++ List.replicate ((joinR xs ys).length - i) 0
theorem jSk_zero (xs zs ys us : List Int) : jSk xs zs ys us 0 = List.replicate (joinR xs ys).length 0 := by simp [jSk]
theorem jSk_full (xs zs ys us : List Int) : jSk xs zs ys us (joinR xs ys).length = jS xs zs ys us := by
  unfold jSk; rw [← jS_len, List.take_length]; simp
theorem jSk_len (xs zs ys us : List Int) (i : Nat) (h : i ≤ (joinR xs ys).length) : (jSk xs zs ys us i).length = (joinR xs ys).length := by
  simp [jSk, jS_len]; omega
theorem jSk_step {xs zs ys us : List Int} {i : Nat} {v : Int} (h : (joinR xs ys)[i]? = some v) : (jSk xs zs ys us i).set i (mxZ (szOf xs zs v) (szOf ys us v)) = jSk xs zs ys us (i + 1) := by
  obtain ⟨hi, e⟩ := List.getElem?_eq_some_iff.1 h
  have hl : ((jS xs zs ys us).take i).length = i := by rw [List.length_take, jS_len]; omega
  have hi2 : i < (jS xs zs ys us).length := by rw [jS_len]; exact hi
  unfold jSk
  rw [List.set_append_right _ _ (by omega), hl, Nat.sub_self, List.take_succ_eq_append_getElem hi2, List.append_assoc]
  congr 1
  obtain ⟨m, hm⟩ : ∃ m, (joinR xs ys).length - i = m + 1 := ⟨(joinR xs ys).length - i - 1, by omega⟩
  rw [hm, show (joinR xs ys).length - (i + 1) = m by omega, List.replicate_succ, List.set_cons_zero]
  simp [jS, e]
/-- What joined leaves. -/
def JnE (w : World) (xs zs ys us : List Int) (e : Ending) (w' : World) : Prop :=
  Below w.heap.size w w' ∧ ((clash xs zs ys us = true ∧ e = .returned (.tuple #[.slice none 0 0, .slice none 0 0, .int .i64 61])) ∨
    (clash xs zs ys us = false ∧ ∃ u gz, e = .returned (.tuple #[u, .slice (some ⟨gz, 0, none⟩) (joinR xs ys).length (joinR xs ys).length, .int .i64 0]) ∧ OG (Value.int .i64) w.heap.size 3 w' u (joinR xs ys) ∧
      w'.heap[gz]? = some (.cells ((jS xs zs ys us).map (Value.int .i64)).toArray 3 (0, 0)) ∧ w.heap.size ≤ gz ∧ u.ownBlock ≠ some gz))
theorem szOf_nn : ∀ {xs zs : List Int} {v : Int}, (∀ z ∈ zs, 0 ≤ z) → 0 ≤ szOf xs zs v
  | [], _, _, _ => Int.le_refl _
  | _ :: _, [], _, _ => Int.le_refl _
  | x :: xs, z :: zs, v, h => by
    unfold szOf; split
    · exact h z (List.mem_cons_self ..)
    · exact szOf_nn fun y hy => h y (List.mem_cons_of_mem _ hy)
theorem szOf_le : ∀ {xs zs : List Int} {v b : Int}, 0 ≤ b → (∀ z ∈ zs, z ≤ b) → szOf xs zs v ≤ b
  | [], _, _, _, h0, _ => h0
  | _ :: _, [], _, _, h0, _ => h0
  | x :: xs, z :: zs, v, b, h0, h => by
    unfold szOf; split
    · exact h z (List.mem_cons_self ..)
    · exact szOf_le h0 fun y hy => h y (List.mem_cons_of_mem _ hy)
theorem RK.bd {w : World} {v : Value} {zs : List Int} (h : RK .i64 w v zs) : ∀ z ∈ zs, -9223372036854775808 ≤ z ∧ z ≤ 9223372036854775807 := fun z hz => by
  obtain ⟨ao, cap, _, _, _, _, h4, _⟩ := h
  obtain ⟨i, hi, e⟩ := List.mem_iff_getElem.1 hz
  have := h4 i hi
  rw [min_i64, max_i64, List.getD_eq_getElem?_getD, List.getElem?_eq_getElem hi, Option.getD_some, e] at this
  exact this
theorem own_heap {w : World} {g : Nat} {L : List Int} {e : Nat} (h : w.heap[g]? = some (.cells (L.map (Value.int .i64)).toArray e (0, 0))) (hm : L.length ≤ maxLen) {B : Nat} (hB : B ≤ g) : OG (Value.int .i64) B e w (.slice (some ⟨g, 0, none⟩) L.length L.length) L :=
  ⟨by simp, .inr ⟨g, L.length, _, rfl, hB, h, Nat.le_refl _, hm, by simp, List.take_of_length_le (by simp)⟩⟩
theorem map_rep (n : Nat) : ((List.replicate n (0 : Int)).map (Value.int .i64)).toArray = Array.replicate n (.int .i64 0) := by simp
theorem row_set {w : World} {g i : Nat} {L : List Int} {e : Nat} (h : w.heap[g]? = some (.cells (L.map (Value.int .i64)).toArray e (0, 0))) (x : Int) : (w.setCell ⟨g, i, none⟩ (.int .i64 x)).heap[g]? = some (.cells ((L.set i x).map (Value.int .i64)).toArray e (0, 0)) := by
  rw [heap_setCell_same w g i _ _ _ h, List.setIfInBounds_toArray, List.map_set]
theorem row_cell {w : World} {g i : Nat} {L : List Int} {e : Nat} (h : w.heap[g]? = some (.cells (L.map (Value.int .i64)).toArray e (0, 0))) (hi : i < L.length) : w.cell? ⟨g, i, none⟩ = some (.int .i64 (L.getD i 0)) := by
  simp [World.cell?, h, List.getD_eq_getElem?_getD, hi]
end Go.Proofs.Ytjlmignafhhjhaa

/-
  Proved here: a number that is read in a world is one number.
  Proved here: what Text answers.
  Proved here: what the small functions of package whole answer.
  Proved here: what Uint and Sub answer of any numbers.
  Proved here: what Of, Add, Sub and Text of package whole answer.
  Proved here: what Add of package whole answers.
  Proved here: how long a number's text is.
  Proved here: what Sub and Text of package whole answer.
-/
import Derived.Test.YtaekaikkldnikaaTrimAll
import Derived.Test.YtaekaikkldnikaaBytesAll
import Derived.Test.YtaekaikkldnikaaDivModAll
import Derived.Laws.BytesArg
import Derived.Test.YtaekaikkldnikaaNearMathAll
import Derived.Test.YtaekaikkldnikaaShiftMathAll
import Derived.Test.YtaekaikkldnikaaRefBitAll
import Derived.Test.YtaekaikkldnikaaNormAll
import Derived.Test.YtaekaikkldnikaaNearKAll
import Derived.RegionTactic
namespace Go.Proofs.Ytaekaikkldnikaa
open Go.RowKit

theorem Num.unique {w : World} {v : Value} {xs ys : List Nat} (h : Num w v xs) (g : Num w v ys) : xs = ys := by
  obtain ⟨_, ao, cap, e, _, _, _, h4⟩ := h
  obtain ⟨_, ao', cap', e', _, _, _, g4⟩ := g
  rw [e] at e'
  simp only [Value.slice.injEq] at e'
  obtain ⟨rfl, hl, rfl⟩ := e'
  apply List.ext_getElem hl
  intro j h1 h2
  obtain ⟨b, off, e1, c1⟩ := h4 j h1
  obtain ⟨b', off', e2, c2⟩ := g4 j h2
  rw [e1] at e2
  simp only [Option.some.injEq, Addr.mk.injEq, and_true] at e2
  obtain ⟨rfl, rfl⟩ := e2
  rw [c1] at c2
  simp only [U, Option.some.injEq, Value.int.injEq, true_and] at c2
  rw [List.getD_eq_getElem?_getD, List.getElem?_eq_getElem h1, List.getD_eq_getElem?_getD, List.getElem?_eq_getElem h2] at c2
  simp at c2; omega
open Classical in
/-- The number that a value says in a world; 0 where it says none. -/
noncomputable def valAt (w : World) (v : Value) : Nat := if h : ∃ xs, Num w v xs then val (Classical.choose h) else 0
theorem valAt_eq {w : World} {v : Value} {xs : List Nat} (h : Num w v xs) : valAt w v = val xs := by
  have hx : ∃ xs, Num w v xs := ⟨xs, h⟩
  unfold valAt
  rw [dif_pos hx]
  congr 1
  exact (Classical.choose_spec hx).unique h
end Go.Proofs.Ytaekaikkldnikaa

namespace Go.Proofs.Ytaekaikkldnikaa
open Go.RowKit

/-- The bytes of some digits. -/
def chars (ds : List Nat) : List Nat := ds.map (48 + ·)
theorem chars_len (ds : List Nat) : (chars ds).length = ds.length := by simp [chars]
theorem chars_append (a b : List Nat) : chars (a ++ b) = chars a ++ chars b := by simp [chars]
theorem chars_rev (a : List Nat) : (chars a).reverse = chars a.reverse := by simp [chars]
theorem Try.infoY : (Try.prog.info? 5).map (fun i => (i.zero, i.size, i.bytes)) = some (some (.int .u8 0), 1, 1) := by kernel_rfl
/-- How a number is written, in bytes. -/
def txt (n : Nat) : ByteArray := strOfNums ((chars (wri n)).map fun (x : Nat) => (x : Int))
theorem dig_lt {ds : List Nat} {v N L : Nat} (h : dval ds + 10 ^ ds.length * v = N) (hv : v ≠ 0) (hN : N < 4294967296 ^ L) : ds.length ≤ 32 * L := by
  rcases Nat.lt_or_ge (32 * L) ds.length with h1 | h1
  · have h2 : 10 ^ ds.length ≤ 10 ^ ds.length * v := Nat.le_mul_of_pos_right _ (by omega)
    have h3 : 2 ^ (32 * L) ≤ 10 ^ ds.length := Nat.le_trans (Nat.pow_le_pow_right (by decide) (Nat.le_of_lt h1)) (Nat.pow_le_pow_left (by decide) _)
    rw [Nat.pow_mul] at h3
    have h4 : (2 ^ 32) ^ L = 4294967296 ^ L := rfl
    omega
  · exact h1
theorem chunk_step {ds : List Nat} {k c A : Nat} (h : dval ds + 10 ^ ds.length * c = A) (hk : ds.length = k) : dval (ds ++ [c % 10]) + 10 ^ (k + 1) * (c / 10) = A := by
  rw [dval_append, hk]
  simp only [dval, Nat.mul_zero, Nat.add_zero]
  rw [hk] at h
  rw [Nat.pow_succ, ← h, Nat.mul_assoc, Nat.add_assoc, ← Nat.mul_add]
  congr 2; omega

theorem str_bt {ds : List Nat} (hd : decs ds) {S : ByteArray} (hS : S = strOfNums ((chars ds).map fun (x : Nat) => (x : Int))) {i : Nat} (hi : i < ds.length) : bt S i = 48 + ds.getD i 0 := by
  unfold bt
  rw [hS, strOfNums_data, List.map_map, List.getD_eq_getElem?_getD, List.getElem?_map, chars, List.getElem?_map, List.getElem?_eq_getElem hi, List.getD_eq_getElem?_getD, List.getElem?_eq_getElem hi]
  have := hd _ (List.getElem_mem hi)
  simp
  omega
theorem bytes_ext {a b : ByteArray} (h : a.data.toList = b.data.toList) : a = b := by
  cases a; cases b; simp at h; rw [h]
theorem txt_trim {ds : List Nat} {N k : Nat} {S r : ByteArray} (hd : decs ds) (hv : dval ds = N) (hN : N ≠ 0) (hS : S = strOfNums ((chars ds.reverse).map fun (x : Nat) => (x : Int)))
    (hk : k ≤ S.size) (hr : r.data.toList = S.data.toList.drop k) (hz : ∀ j, j < k → bt S j = 48) (hnz : k < S.size → bt S k ≠ 48) : r = txt N := by
  have hsz : S.size = ds.reverse.length := by rw [hS, strOfNums_size, List.length_map, chars_len]
  have hz' : ∀ j, j < k → ds.reverse.getD j 0 = 0 := fun j hj => by
    have h1 := hz j hj
    rw [str_bt (decs_rev hd) hS (by omega)] at h1
    omega
  have hbv : bval ds.reverse = N := by unfold bval; rw [List.reverse_reverse]; exact hv
  have hkl : k < ds.reverse.length := by
    rcases Nat.lt_or_ge k ds.reverse.length with h | h
    · exact h
    · exfalso
      apply hN
      rw [← hv]
      apply dval_zeros
      intro x hx
      obtain ⟨j, hj, rfl⟩ := List.getElem_of_mem (List.mem_reverse.2 hx)
      have := hz' j (by omega)
      rw [List.getD_eq_getElem?_getD, List.getElem?_eq_getElem hj] at this
      simpa using this
  have hw : wri N = ds.reverse.drop k := by
    rw [← hbv]
    refine wri_drop (decs_rev hd) hkl hz' (Or.inl fun h0 => ?_)
    have h1 := hnz (by omega)
    rw [str_bt (decs_rev hd) hS hkl, h0] at h1
    exact h1 rfl
  apply bytes_ext
  rw [hr, hS, strOfNums_data]
  unfold txt
  rw [strOfNums_data, hw]
  simp only [chars, List.map_drop]

end Go.Proofs.Ytaekaikkldnikaa

namespace Go.Proofs.Ytaekaikkldnikaa
open Go.RowKit

/-- The two cells of a whole number. -/
def ICell (w : World) (g : Nat) (neg : Bool) (m : Value) : Prop := w.heap[g]? = some (.cells #[.bool neg, m] 27 (0, 0))
theorem ICell.cells {w : World} {g : Nat} {neg : Bool} {m : Value} (h : ICell w g neg m) : w.cell? ⟨g, 0, none⟩ = some (.bool neg) ∧ w.cell? ⟨g, 1, none⟩ = some m := by
  refine ⟨?_, ?_⟩ <;> (rw [cell_of_row w g _ _ _ _ h]; rfl)
theorem ICell.thaw {w : World} {g : Nat} {neg : Bool} {m : Value} (h : ICell w g neg m) (k : Nat) : w.frozen? ⟨g, k, none⟩ = false := frozen_of_row w g k _ _ h
theorem ICell.below {w w' : World} {g : Nat} {neg : Bool} {m : Value} (h : ICell w g neg m) (hb : Below w.heap.size w w') : ICell w' g neg m := by
  unfold ICell; rw [hb.block _ (Array.getElem?_eq_some_iff.1 h).1]; exact h
theorem ICell.new (w : World) (neg : Bool) (m : Value) : ICell (w.alloc (.cells #[.bool neg, m] 27)) w.heap.size neg m := heap_alloc_new w _
theorem ICell.write {w : World} {g : Nat} {neg : Bool} {m : Value} (h : ICell w g neg m) (n2 : Bool) (m2 : Value) : ICell ((w.setCell ⟨g, 0, none⟩ (.bool n2)).setCell ⟨g, 1, none⟩ m2) g n2 m2 := by
  unfold ICell
  have h1 := heap_setCell_same w g 0 _ _ (.bool n2) h
  have h2 := heap_setCell_same _ g 1 _ _ m2 h1
  rw [h2]
  rfl
theorem ICell.other {w : World} {g : Nat} {neg : Bool} {m : Value} (h : ICell w g neg m) {g' : Nat} (hne : g ≠ g') (k : Nat) (v : Value) : ICell (w.setCell ⟨g', k, none⟩ v) g neg m := by
  unfold ICell
  rw [heap_setCell_other]
  · exact h
  · exact hne

/-- What signed leaves. -/
def SignEnd (w : World) (neg : Bool) (m : Value) (e : Ending) (w' : World) : Prop := e = .returned (.agg #[.bool neg, m]) ∧ Below w.heap.size w w'

set_option maxRecDepth 100000 in
set_option maxHeartbeats 1600000 in
theorem signed_any (neg : Bool) (m : Value) (xs : List Nat) (w : World) (h : Num w m xs) :
    Calls Try.prog 57 #[.bool neg, m] w fun e w' => SignEnd w (neg && decide (0 < xs.length)) m e w' := by
  obtain ⟨ao, cap, rfl, hac, ham⟩ := h.ao
  obtain ⟨n, hn⟩ : ∃ n, n = xs.length := ⟨_, rfl⟩
  rw [← hn] at hac ⊢
  clear hn h
  cases neg
  · go_enter Try.func57, Try.ntmps57
    go_wp2
    (try simp only [Exit.inBlock, Exit.then])
    exact bodyPost_ret (v := .agg #[.bool false, .slice ao n cap]) (results_cell_row rfl _ _ w.heap.size 27 _ (0, 0) _ rfl (ICell.new w _ _) Try.underlying27 rfl (by kernel_rfl)) rfl ⟨rfl, (Below.refl _ _).alloc (Nat.le_refl _) _⟩
  · go_enter Try.func57, Try.ntmps57
    go_wp2
    (try simp only [Exit.inBlock, Exit.then])
    exact bodyPost_ret (v := .agg #[.bool (decide (0 < n)), .slice ao n cap]) (results_cell_row rfl _ _ w.heap.size 27 _ (0, 0) _ rfl (ICell.new w _ _) Try.underlying27 rfl (by kernel_rfl)) rfl ⟨rfl, (Below.refl _ _).alloc (Nat.le_refl _) _⟩

set_option maxRecDepth 100000 in
set_option maxHeartbeats 1600000 in
theorem below_any (neg : Bool) (ao : Option Addr) (n cap : Nat) (xs : List Nat) (w : World) (h : Num w (.slice ao n cap) xs) (hl : xs.length ≤ 1000000) :
    Calls Try.prog 50 #[.agg #[.bool neg, .slice ao n cap]] w fun e w' => e = .returned (.bool (neg && decide (0 < bl (val xs)))) ∧ Below w.heap.size w w' := by
  cases neg
  · go_enter Try.func50, Try.ntmps50
    go_wp2_with fail
    go_ret
    exact ⟨rfl, (Below.refl _ _).alloc (Nat.le_refl _) _⟩
  · go_enter Try.func50, Try.ntmps50
    go_wp2_with fail
    refine (bits_any _ _ _ (h.alloc _) (by omega)).mono ?_
    rintro e w2 ⟨rfl, rfl⟩
    obtain ⟨b, hb⟩ : ∃ b, b = bl (val xs) := ⟨_, rfl⟩
    rw [← hb]
    have HB : Hid (b = bl (val xs)) := hb
    clear hb h
    go_wp2_with fail
    go_ret
    exact ⟨by rw [← HB.out]; rfl, (Below.refl _ _).alloc (Nat.le_refl _) _⟩
end Go.Proofs.Ytaekaikkldnikaa

namespace Go.Proofs.Ytaekaikkldnikaa
open Go.RowKit

def uintN (n : Nat) : Nat := if n < 18446744073709551616 then n else 0
def uintB (n : Nat) : Bool := decide (n < 18446744073709551616)
def leB (a b : Nat) : Bool := decide (a ≤ b)

theorem uint_all (v : Value) (xs : List Nat) (w : World) (h : Num w v xs) :
    Calls Try.prog 55 #[v] w fun e w' => e = .returned (.tuple #[.int .u64 (uintN (val xs) : Nat), .bool (uintB (val xs))]) ∧ w' = w := by
  by_cases hs : val xs < 18446744073709551616
  · rw [show uintN (val xs) = val xs by simp [uintN, hs], show uintB (val xs) = true by simp [uintB, hs]]
    exact uint_yes v xs w h hs
  · rw [show uintN (val xs) = 0 by simp [uintN, hs], show uintB (val xs) = false by simp [uintB]; omega]
    exact uint_no v xs w h (by omega)
/-- What Sub leaves, either way. -/
def SubTold (B : Nat) (w : World) (a b : Nat) (en : Ending) (w' : World) : Prop := ∃ v, en = .returned (.tuple #[v, .bool (leB b a)]) ∧ Own B 39 w' v (lim (a - b)) ∧ Below B w w'
end Go.Proofs.Ytaekaikkldnikaa

namespace Go.Proofs.Ytaekaikkldnikaa
open Go.RowKit

/-- The whole number of a side and a size. -/
def zv (neg : Bool) (n : Nat) : Int := if neg then -(n : Int) else n
/-- What a function leaves that answers a whole number. -/
def IntEnd (w : World) (z : Int) (e : Ending) (w' : World) : Prop :=
  ∃ m, e = .returned (.agg #[.bool (decide (z < 0)), m]) ∧ Own w.heap.size 39 w' m (lim z.natAbs) ∧ Below w.heap.size w w'
theorem lim_pos_len {n : Nat} : 0 < (lim n).length ↔ n ≠ 0 := by
  constructor
  · intro h h0; subst h0; simp [lim_zero] at h
  · intro h
    rcases Nat.eq_zero_or_pos (lim n).length with h0 | h0
    · exfalso; apply h; rw [← val_lim n, List.length_eq_zero_iff.1 h0]; rfl
    · exact h0
theorem sign_eq (neg : Bool) (n : Nat) : (neg && decide (0 < (lim n).length)) = decide (zv neg n < 0) := by
  cases neg
  · simp [zv]
  · by_cases h : n = 0
    · subst h; rfl
    · rw [decide_eq_true (lim_pos_len.2 h), decide_eq_true (show zv true n < 0 by unfold zv; simp; omega)]; rfl
theorem zv_abs (neg : Bool) (n : Nat) : (zv neg n).natAbs = n := by cases neg <;> simp [zv]

theorem int_done {w w3 : World} {g B : Nat} {z : Int} {b : Bool} {m : Value} (hb : b = decide (z < 0)) (hg : w.heap.size ≤ g) (ho : Own B 39 w3 m (lim z.natAbs)) (hgB : g < B) (hbel : Below w.heap.size w w3) :
    IntEnd w z (.returned (.agg #[.bool b, m])) ((w3.setCell ⟨g, 0, none⟩ (.bool b)).setCell ⟨g, 1, none⟩ m) := by
  have hne : m.ownBlock = none ∨ m.ownBlock ≠ some g := by
    cases hm : m.ownBlock with
    | none => exact Or.inl rfl
    | some k =>
      right
      intro e
      rw [Option.some.injEq] at e
      have := (ho.block k hm).1
      omega
  exact ⟨m, by rw [hb], ((ho.other (.bool b) hne).other m hne).mono (by omega), (hbel.setCell (p := ⟨g, 0, none⟩) hg _).setCell (p := ⟨g, 1, none⟩) hg _⟩

end Go.Proofs.Ytaekaikkldnikaa

namespace Go.Proofs.Ytaekaikkldnikaa
open Go.RowKit

theorem zv_add (n : Bool) (x y : Nat) : zv n x + zv n y = zv n (x + y) := by cases n <;> simp [zv] <;> omega
theorem zv_sub {n k : Bool} {x y : Nat} (h : n ≠ k) (hle : y ≤ x) : zv n x + zv k y = zv n (x - y) := by
  cases n <;> cases k <;> simp [zv] at h ⊢ <;> omega
theorem zv_sub' {n k : Bool} {x y : Nat} (h : n ≠ k) (hle : x ≤ y) : zv n x + zv k y = zv k (y - x) := by
  cases n <;> cases k <;> simp [zv] at h ⊢ <;> omega
/-- The two boxes and the result's. -/
def Boxes (w : World) (g : Nat) (na nb : Bool) (ma mb : Value) : Prop := ICell w g na ma ∧ ICell w (g + 1) nb mb ∧ ICell w (g + 1 + 1) false (.slice none 0 0)
theorem Boxes.below {w w' : World} {g : Nat} {na nb : Bool} {ma mb : Value} (h : Boxes w g na nb ma mb) (hb : Below w.heap.size w w') : Boxes w' g na nb ma mb := ⟨h.1.below hb, h.2.1.below hb, h.2.2.below hb⟩
theorem Boxes.new (w : World) (na nb : Bool) (ma mb : Value) : Boxes (((w.alloc (.cells #[.bool na, ma] 27)).alloc (.cells #[.bool nb, mb] 27)).alloc (.cells #[.bool false, .slice none 0 0] 27)) w.heap.size na nb ma mb := by
  have h3 := ICell.new ((w.alloc (.cells #[.bool na, ma] 27)).alloc (.cells #[.bool nb, mb] 27)) false (.slice none 0 0)
  have h2 := (ICell.new (w.alloc (.cells #[.bool na, ma] 27)) nb mb).below (belowA _ (.cells #[.bool false, .slice none 0 0] 27))
  have h1 := ((ICell.new w na ma).below (belowA _ (.cells #[.bool nb, mb] 27))).below (belowA _ (.cells #[.bool false, .slice none 0 0] 27))
  rw [World.size_alloc] at h2
  rw [World.size_alloc, World.size_alloc] at h3
  exact ⟨h1, h2, h3⟩

end Go.Proofs.Ytaekaikkldnikaa

namespace Go.Proofs.Ytaekaikkldnikaa

theorem txt_size (n : Nat) : (txt n).size = (wri n).length := by unfold txt; rw [strOfNums_size, List.length_map, chars_len]
theorem wri_len {n L : Nat} (h : (lim n).length ≤ L) : (wri n).length ≤ 32 * L + 1 := by
  unfold wri
  split
  · simp
  · rename_i h0
    rw [List.length_reverse]
    rcases Nat.lt_or_ge (32 * L + 1) (dec n).length with h1 | h1
    · exfalso
      obtain ⟨ds, d, hd⟩ : ∃ ds d, dec n = ds ++ [d] := ⟨(dec n).dropLast, (dec n).getLast (dec_ne h0), (List.dropLast_concat_getLast (dec_ne h0)).symm⟩
      have hw := wri_head h0 (wri_ne n)
      have hw2 : wri n = d :: ds.reverse := by unfold wri; rw [if_neg h0, hd, List.reverse_append]; rfl
      simp only [hw2, List.head_cons] at hw
      have h2 := dval_dec n
      rw [hd, dval_append] at h2
      simp only [dval, Nat.mul_zero, Nat.add_zero] at h2
      have h3 := dig_lt h2 hw (lim_lt_of_len h)
      rw [hd, List.length_append] at h1
      simp at h1
      omega
    · exact h1
theorem txt_short {n L : Nat} (h : (lim n).length ≤ L) : (txt n).size ≤ 32 * L + 1 := by rw [txt_size]; exact wri_len h
end Go.Proofs.Ytaekaikkldnikaa

namespace Go.Proofs.Ytaekaikkldnikaa
open Go.RowKit

theorem zv_neg (n : Bool) (x : Nat) : -(zv n x) = zv (!n) x := by cases n <;> simp [zv]

/-- How a whole number is written. -/
def ztxt (neg : Bool) (n : Nat) : ByteArray := if neg = true ∧ n ≠ 0 then ⟨#[45]⟩ ++ txt n else txt n
theorem bl_pos {n : Nat} : 0 < bl n ↔ n ≠ 0 := by
  constructor
  · intro h h0; subst h0; simp [bl_zero] at h
  · intro h
    obtain ⟨m, e, _⟩ := bl_bounds h
    omega

end Go.Proofs.Ytaekaikkldnikaa

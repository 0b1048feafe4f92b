/-
  Proved here: plain facts on texts with a stroke ahead, and on noughts ahead of digits. No condition.
  Proved here: what Same answers of two numbers that are one.
  Proved here: what the plain way's Parse answers.
  Proved here: what Make, Same and Parse of the plain way over whole numbers answer.
  Proved here: what Int of package whole answers of a number that is an int.
  Proved here: what the plain way's ten answers.
  Proved here: what the plain way's Text answers.
  Proved here: 'apart' of numbers that are what they must be, each in a row of its own, answers true.
  Proved here: what the law's cut answers.
  Proved here: what cut, roomy and kept answer.
-/
import Derived.Test.YtaekaikkldnikaaDoorWholeX3
import Derived.Test.YtaekaikkldnikaaDoorWholeDAll
import Derived.Laws.Strings
import Derived.Test.YtaekaikkldnikaaDoorTrimAll
import Derived.Test.YtaekaikkldnikaaDoorTrimLAll
import Derived.Test.YtaekaikkldnikaaDoorLimMathAll
import Derived.Test.YtaekaikkldnikaaDoorUintAll
import Derived.Test.YtaekaikkldnikaaDoorTakeAll
import Derived.Test.YtaekaikkldnikaaDoorLift
import Derived.Test.YtaekaikkldnikaaDoorText
import Derived.Test.YtaekaikkldnikaaDoorMulMathAll
import Derived.WalkSmall
namespace Go.Proofs.YtaekaikkldnikaaDoor
open Go.RowKit

theorem s_app (a b : ByteArray) : (a ++ b).data.toList = a.data.toList ++ b.data.toList := by rw [ByteArray.data_append, Array.toList_append]
theorem s_size (s : ByteArray) : s.size = s.data.toList.length := by rw [Array.length_toList]; rfl
theorem strk_eq (s : ByteArray) : strk s = decide (s.data.toList.take 1 = [45]) := by
  unfold strk
  rw [ByteArray.toList_eq, extract_list, List.drop_zero, s_size]
  cases h : s.data.toList with
  | nil => rfl
  | cons x r =>
    rw [Bool.eq_iff_iff]
    simp
theorem s_ext {a b : ByteArray} (h : a.data.toList = b.data.toList) : a = b := ByteArray.ext (Array.ext' h)
theorem strk_minus (t : ByteArray) : strk (⟨#[45]⟩ ++ t) = true ∧ tail (⟨#[45]⟩ ++ t) = t := by
  have h : strk (⟨#[45]⟩ ++ t) = true := by rw [strk_eq, s_app]; rfl
  refine ⟨h, ?_⟩
  unfold tail
  rw [if_pos h]
  apply s_ext
  rw [extract_list, s_app, s_size, s_app]
  simp
  exact List.take_of_length_le (by rw [s_size]; exact Nat.le_refl _)
theorem strk_first {s : ByteArray} {x : UInt8} {r : List UInt8} (h : s.data.toList = x :: r) (hx : x ≠ 45) : strk s = false ∧ tail s = s := by
  have h1 : strk s = false := by rw [strk_eq, h]; simpa using hx
  refine ⟨h1, ?_⟩
  unfold tail
  rw [h1]
  rfl
theorem dig_first {s : ByteArray} (h : DigOk s) (h0 : 0 < s.size) : strk s = false ∧ tail s = s := by
  cases hl : s.data.toList with
  | nil => rw [s_size, hl] at h0; exact absurd h0 (by simp)
  | cons x r =>
    refine strk_first hl ?_
    intro hx
    have h1 := h 0 h0
    unfold bt at h1
    rw [hl, hx] at h1
    simp at h1
/-- So many noughts. -/
def zrs (k : Nat) : ByteArray := ⟨(List.replicate k (48 : UInt8)).toArray⟩
theorem zrs_list (k : Nat) : (zrs k).data.toList = List.replicate k 48 := rfl
theorem zrs_succ (k : Nat) : zrs k ++ ⟨#[48]⟩ = zrs (k + 1) := by
  apply s_ext
  rw [s_app, zrs_list, zrs_list, List.replicate_succ']
theorem zrs_size (k : Nat) : (zrs k).size = k := by rw [s_size, zrs_list, List.length_replicate]
theorem zrs_dgs (k : Nat) : dgs (zrs k) = List.replicate k 0 := by
  unfold dgs
  rw [zrs_list, List.map_replicate]
  rfl
theorem x_bt {n i : Nat} (hi : i < (wri n).length) : bt (txt n) i = 48 + (wri n).getD i 0 := str_bt (wri_decs n) rfl hi
theorem x_dig (n : Nat) : DigOk (txt n) ∧ 0 < (txt n).size := by
  constructor
  · intro i hi
    rw [txt_size] at hi
    rw [x_bt hi]
    have := wri_decs n _ (List.getElem_mem hi)
    rw [List.getD_eq_getElem?_getD, List.getElem?_eq_getElem hi]
    simp
    omega
  · rw [txt_size]; exact List.length_pos_iff.2 (wri_ne n)
theorem x_dgs (n : Nat) : dgs (txt n) = wri n := by
  apply ext_getD (by rw [dgs_len, txt_size])
  intro q hq
  rw [dgs_len, txt_size] at hq
  rw [dgs_at (by rw [txt_size]; exact hq), x_bt hq]
  omega
theorem x_val (n : Nat) : bval (dgs (txt n)) = n := by rw [x_dgs, bval_wri]
theorem x_first {n : Nat} (h : 1 < (txt n).size) : bt (txt n) 0 ≠ 48 := by
  rw [txt_size] at h
  rw [x_bt (by omega)]
  have hn : n ≠ 0 := by intro h0; rw [h0] at h; exact absurd h (by decide)
  have h1 := wri_head hn (wri_ne n)
  cases hw : wri n with
  | nil => exact absurd hw (wri_ne n)
  | cons x r =>
    have h2 : x ≠ 0 := by simpa [hw] using h1
    show 48 + x ≠ 48
    omega
theorem zx_dig (k n : Nat) : DigOk (zrs k ++ txt n) ∧ 0 < (zrs k ++ txt n).size := by
  obtain ⟨h1, h2⟩ := x_dig n
  constructor
  · intro i hi
    unfold bt
    rw [s_app, zrs_list]
    by_cases h : i < k
    · rw [List.getD_eq_getElem?_getD, List.getElem?_append_left (by simpa using h), List.getElem?_replicate_of_lt h]
      decide
    · have h3 := h1 (i - k) (by rw [ByteArray.size_append, zrs_size] at hi; omega)
      unfold bt at h3
      rw [List.getD_eq_getElem?_getD, List.getElem?_append_right (by simpa using h), List.length_replicate, ← List.getD_eq_getElem?_getD]
      exact h3
  · rw [ByteArray.size_append]; omega
theorem zx_val (k n : Nat) : bval (dgs (zrs k ++ txt n)) = n := by
  have e : dgs (zrs k ++ txt n) = List.replicate k 0 ++ wri n := by rw [← zrs_dgs, ← x_dgs]; unfold dgs; rw [s_app, List.map_append]
  rw [e, bval_zeros_ahead (fun x hx => (List.mem_replicate.1 hx).2), bval_wri]
theorem and15 (k : Int) : ∃ N : Nat, N ≤ 15 ∧ bits BinOp.and IntKind.i64 k 15 = (N : Int) := by
  have h : (BitVec.ofInt 64 k &&& BitVec.ofInt 64 15).toNat ≤ 15 := by rw [BitVec.toNat_and]; exact Nat.le_trans Nat.and_le_right (by decide)
  refine ⟨_, h, ?_⟩
  show IntKind.i64.wrap ((BitVec.ofInt 64 k &&& BitVec.ofInt 64 15).toNat : Int) = _
  rw [IntKind.wrap_i64]
  omega
end Go.Proofs.YtaekaikkldnikaaDoor

namespace Go.Proofs.YtaekaikkldnikaaDoor
open Go.RowKit

end Go.Proofs.YtaekaikkldnikaaDoor

namespace Go.Proofs.YtaekaikkldnikaaDoor
open Go.RowKit

theorem tenfold_step {xs ys : List Nat} {k c d : Nat} (hk : ys.length = k) (h : val ys + 4294967296 ^ k * c = 10 * low xs k + d) :
    val (ys ++ [(c + 10 * xs.getD k 0) % 4294967296]) + 4294967296 ^ (k + 1) * ((c + 10 * xs.getD k 0) / 4294967296) = 10 * low xs (k + 1) + d := by
  rw [val_snoc, hk, low_succ xs k, Nat.pow_succ, Nat.add_assoc, carry_eq, Nat.mul_add, Nat.mul_add, Nat.mul_left_comm 10]
  omega
theorem not_digs {s : ByteArray} {i : Nat} (hi : i < s.size) (h : ¬ (48 ≤ bt s i ∧ bt s i ≤ 57)) : ¬ (DigOk s ∧ 0 < s.size) := fun hh => h (hh.1 i hi)

end Go.Proofs.YtaekaikkldnikaaDoor

namespace Go.Proofs.YtaekaikkldnikaaDoor
open Go.RowKit

/-- A whole number as it should stand. -/
def IStd (w : World) (v : Value) (z : Int) : Prop := ∃ m, v = .agg #[.bool (decide (z < 0)), m] ∧ Num w m (lim z.natAbs)
theorem IOwn.std {B : Nat} {w : World} {v : Value} {z : Int} (h : IOwn B w v z) : IStd w v z := by
  obtain ⟨m, e, ho⟩ := h
  exact ⟨m, e, ho.num⟩
theorem IStd.below {w w' : World} {v : Value} {z : Int} (h : IStd w v z) (hb : Below w.heap.size w w') : IStd w' v z := by
  obtain ⟨m, e, ho⟩ := h
  exact ⟨m, e, ho.below (Nat.le_refl _) hb⟩

/-- What is read, and the error's number. -/
def pz (s : ByteArray) : Int := if DigOk (tail s) ∧ 0 < (tail s).size then zv (strk s) (bval (dgs (tail s))) else 0
def pe (s : ByteArray) : Int := if DigOk (tail s) ∧ 0 < (tail s).size then 0 else 10
/-- What a reader leaves. -/
def PEnd (w : World) (z er : Int) (e : Ending) (w' : World) : Prop := ∃ v, e = .returned (.tuple #[v, .int .i64 er]) ∧ IOwn w.heap.size w' v z ∧ Below w.heap.size w w'
theorem IOwn.nil (B : Nat) (w : World) : IOwn B w (.agg #[.bool false, .slice none 0 0]) 0 := ⟨_, rfl, Own.of_nil _ _ _⟩
theorem strk_bt {s : ByteArray} (h : 0 < s.size) : strk s = decide (bt s 0 = 45) := by
  rw [strk_eq]
  unfold bt
  cases hl : s.data.toList with
  | nil => rw [s_size, hl] at h; exact absurd h (by simp)
  | cons x r =>
    rw [Bool.eq_iff_iff]
    simp
    exact ⟨fun h => by rw [h]; rfl, fun h => UInt8.toNat_inj.1 h⟩

/-- How many limbs a text's number has. -/
theorem lim_dgs {t : ByteArray} (hd : DigOk t) : (lim (bval (dgs t))).length ≤ t.size := by
  apply lim_len_le
  have h1 := dval_lt (decs_rev hd.decs)
  rw [List.length_reverse, dgs_len] at h1
  exact Nat.lt_of_lt_of_le h1 (Nat.pow_le_pow_left (by decide : 10 ≤ 4294967296) _)
theorem mk_pend {w w4 : World} {g : Nat} {z : Int} {m : Value} {B : Nat} (hg : g = w.heap.size) (ho : Own B 70 w4 m (lim z.natAbs)) (hgB : g < B) (hb : Below w.heap.size w w4) :
    PEnd w z 0 (.returned (.tuple #[.agg #[.bool (decide (z < 0)), m], .int .i64 0])) ((w4.setCell ⟨g, 0, none⟩ (.bool (decide (z < 0)))).setCell ⟨g, 1, none⟩ m) := by
  obtain ⟨v9, he9, ho9, hb9⟩ := (int_done (w := w) (g := g) (z := z) rfl (by rw [hg]; exact Nat.le_refl _) ho hgB hb).i
  cases he9
  exact ⟨_, rfl, ho9, hb9⟩

end Go.Proofs.YtaekaikkldnikaaDoor

namespace Go.Proofs.YtaekaikkldnikaaDoor
open Go.RowKit

end Go.Proofs.YtaekaikkldnikaaDoor

namespace Go.Proofs.YtaekaikkldnikaaDoor
open Go.RowKit

/-- What ten leaves. -/
def TenEnd (w : World) (v : Nat) (e : Ending) (w' : World) : Prop :=
  ∃ o, e = .returned (.tuple #[o, .int .i64 ((v % 10 : Nat) : Int)]) ∧ Own w.heap.size 70 w' o (lim (v / 10)) ∧ Below w.heap.size w w'

end Go.Proofs.YtaekaikkldnikaaDoor

namespace Go.Proofs.YtaekaikkldnikaaDoor
open Go.RowKit

theorem digit_at {d : Nat} (h : d < 10) : (({ data := #[48, 49, 50, 51, 52, 53, 54, 55, 56, 57] } : ByteArray)[d]'h).toNat = 48 + d := by
  rcases (show d = 0 ∨ d = 1 ∨ d = 2 ∨ d = 3 ∨ d = 4 ∨ d = 5 ∨ d = 6 ∨ d = 7 ∨ d = 8 ∨ d = 9 by omega) with rfl | rfl | rfl | rfl | rfl | rfl | rfl | rfl | rfl | rfl <;> rfl
theorem dec_parts {ds : List Nat} {v N : Nat} (h : ds ++ dec v = dec N) : dval ds + 10 ^ ds.length * v = N := by
  rw [← dval_dec N, ← h, dval_append, dval_dec]
theorem snoc_getD (ds : List Nat) (j : Nat) (h : j < ds.length) : (ds.drop j).reverse = (ds.drop (j + 1)).reverse ++ [ds.getD j 0] := by
  rw [List.drop_eq_getElem_cons h, List.reverse_cons, List.getD_eq_getElem?_getD, List.getElem?_eq_getElem h]; rfl

end Go.Proofs.YtaekaikkldnikaaDoor

namespace Go.Proofs.YtaekaikkldnikaaDoor
open Go.RowKit

theorem Tryd.infoN : (Tryd.prog.info? 26).map (fun i => (i.zero, i.size, i.bytes)) = some (some (.slice none 0 0), 1, 24) := by kernel_rfl

end Go.Proofs.YtaekaikkldnikaaDoor

namespace Go.Proofs.YtaekaikkldnikaaDoor
open Go.RowKit


end Go.Proofs.YtaekaikkldnikaaDoor

namespace Go.Proofs.YtaekaikkldnikaaDoor
open Go.RowKit

/-- A number with five marked limbs behind it. -/
def Room (B : Nat) (w : World) (v : Value) (xs : List Nat) : Prop :=
  ∃ u, v = cutTo u xs.length ∧ Own B 70 w u (xs ++ List.replicate 5 77)
theorem Room.own {B : Nat} {w : World} {v : Value} {xs : List Nat} (h : Room B w v xs) : Own B 70 w v xs := by
  obtain ⟨u, rfl, ho⟩ := h
  have := ho.cut (k := xs.length) (by simp)
  rwa [List.take_left] at this
theorem Room.shape {B : Nat} {w : World} {v : Value} {xs : List Nat} (h : Room B w v xs) : ∃ g cap, v = .slice (some ⟨g, 0, none⟩) xs.length cap ∧ xs.length + 5 ≤ cap ∧ cap ≤ 9223372036854775807 ∧ Own B 70 w (.slice (some ⟨g, 0, none⟩) (xs.length + 5) cap) (xs ++ List.replicate 5 77) := by
  obtain ⟨u, rfl, ho⟩ := h
  rcases ho.shape with ⟨_, h0⟩ | ⟨g, cap, rfl, h1, h2⟩
  · simp at h0
  · simp only [List.length_append, List.length_replicate] at h1 ho ⊢
    exact ⟨g, cap, rfl, h1, h2, ho⟩
theorem Room.below {B : Nat} {w w' : World} {v : Value} {xs : List Nat} (h : Room B w v xs) (hb : Below w.heap.size w w') : Room B w' v xs := by
  obtain ⟨u, e, ho⟩ := h
  exact ⟨u, e, ho.below hb⟩
theorem Room.same {B : Nat} {w w' : World} {v : Value} {xs : List Nat} (h : Room B w v xs) (hb : w'.heap = w.heap) : Room B w' v xs := by
  obtain ⟨u, e, ho⟩ := h
  exact ⟨u, e, ho.same hb⟩
theorem Room.mono {B B' : Nat} {w : World} {v : Value} {xs : List Nat} (h : Room B w v xs) (hb : B' ≤ B) : Room B' w v xs := by
  obtain ⟨u, e, ho⟩ := h
  exact ⟨u, e, ho.mono hb⟩

theorem room_step {B k : Nat} {w w' wr : World} {v v' : Value} {xs : List Nat} {o : Obj} (hv : Own B 70 wr v (xs ++ List.replicate k 77)) (hbel : Below B w wr) (hB : B ≤ wr.heap.size)
    (ho : w'.ownsRow B 70 1 v' (xs.length + k + 1) ((xs ++ List.replicate k 77).map U ++ [.int .u32 77])) (hg : (wr.alloc o).grownBy w' v.ownBlock) :
    Own B 70 w' v' (xs ++ List.replicate (k + 1) 77) ∧ Below B w w' ∧ B ≤ w'.heap.size := by
  have hsz : (wr.alloc o).heap.size = wr.heap.size + 1 := by simp
  have hbel2 : Below B (wr.alloc o) w' := below_of_grown hg (by omega) (fun g e => (hv.block g e).1)
  refine ⟨⟨?_, ?_⟩, (hbel.alloc hB o).trans hbel2, by have := hbel2.size; omega⟩
  · intro x hx
    rcases List.mem_append.1 hx with h | h
    · exact hv.1 x (List.mem_append_left _ h)
    · have := List.eq_of_mem_replicate h; omega
  · rw [List.length_append, List.length_replicate, List.replicate_succ', ← List.append_assoc, List.map_append]
    exact ho

theorem room_full {xs : List Nat} {j : Nat} (h : j < xs.length) : (xs ++ List.replicate 5 77).getD j 0 = xs.getD j 0 := by
  rw [List.getD_eq_getElem?_getD, List.getD_eq_getElem?_getD, List.getElem?_append_left h]
theorem room_mark {xs : List Nat} {j : Nat} (h : xs.length ≤ j) (h2 : j < xs.length + 5) : (xs ++ List.replicate 5 77).getD j 0 = 77 := by
  rw [List.getD_eq_getElem?_getD, List.getElem?_append_right h, List.getElem?_replicate, if_pos (by omega)]; rfl

end Go.Proofs.YtaekaikkldnikaaDoor

/-
  Proved here: facts on rows of bytes of the call's own; what slices.Reverse does to one.
  Proved here: what Text answers.
  Proved here: what the small functions of package whole answer.
  Proved here: what Uint answers.
  Proved here: what Uint and Sub answer of any numbers.
  Proved here: what Of, Add, Sub and Text of package whole answer.
  Proved here: what Add of package whole answers.
  Proved here: how long a number's text is.
  Proved here: what Sub and Text of package whole answer.
  Proved here: what Norm, Neg and Mul of package whole answer. Proved here: what Mul of package whole answers. Proved here: what Cmp, Sign and Neg of package whole answer. Proved here: what Sign, Neg, size, onSideOf and less of package whole answer. Proved here: what Quo of package whole answers.
-/
import Derived.Test.YtfnafgjnimfmjaaGreatDoorSubAll
import Derived.RegionTactic
import Derived.BigRegion
import Derived.Test.YtfnafgjnimfmjaaGreatDoorTrimLAll
import Derived.Laws.BytesArg
import Derived.Deep.RegionHeld3
import Derived.Deep.DrawnRows
namespace Go.Proofs.YtfnafgjnimfmjaaGreatDoor
set_option maxRecDepth 100000
set_option maxHeartbeats 12800000
open Go.RowKit

def Y (x : Nat) : Value := .int .u8 (x : Int)
def OwnY (B : Nat) (w : World) (v : Value) (ds : List Nat) : Prop := w.ownsRow B 5 1 v ds.length (ds.map Y)
theorem OwnY.heap {B g n cap : Nat} {w : World} {ds : List Nat} (h : OwnY B w (.slice (some ⟨g, 0, none⟩) n cap) ds) : B ≤ g ∧ n = ds.length ∧ ∃ cur, w.heap[g]? = some (.cells cur 5 (0, 0)) ∧ ds.length ≤ cap ∧ cur.size = cap ∧ cur.toList.take ds.length = ds.map Y := by
 rcases h.2 with ⟨h, _⟩ | ⟨g', cap', cur, h1, h3, h4, h5, h6, h7, h8⟩
 · simp at h
 ·
  simp only [Value.slice.injEq, Option.some.injEq, Addr.mk.injEq, and_true] at h1
  obtain ⟨rfl, rfl, rfl⟩ := h1
  exact ⟨h3, rfl, cur, h4, h5, by simpa using h7, by simpa using h8⟩
theorem OwnY.cell {B g n cap : Nat} {w : World} {ds : List Nat} (h : OwnY B w (.slice (some ⟨g, 0, none⟩) n cap) ds) {k : Nat} (hk : k < ds.length) : w.cell? ⟨g, k, none⟩ = some (.int .u8 ((ds.getD k 0 : Nat) : Int)) ∧ w.frozen? ⟨g, k, none⟩ = false := by
 obtain ⟨_, hn, cur, h1, h2, h3, h4⟩ := h.heap
 refine ⟨?_, frozen_of_row w g k cur _ h1⟩
 rw [cell_of_row w g k cur _ _ h1]
 have h5 : cur.toList[k]? = (ds.map Y)[k]? := by rw [← h4, List.getElem?_take_of_lt hk]
 rw [Array.getElem?_toList] at h5
 rw [h5, List.getElem?_map, List.getElem?_eq_getElem hk, List.getD_eq_getElem?_getD, List.getElem?_eq_getElem hk]
 rfl
theorem OwnY.set {B g n cap : Nat} {w : World} {ds : List Nat} (h : OwnY B w (.slice (some ⟨g, 0, none⟩) n cap) ds) (hn : ds.length = n) (k x : Nat) : OwnY B (w.setCell ⟨g, k, none⟩ (Y x)) (.slice (some ⟨g, 0, none⟩) n cap) (ds.set k x) := by
 subst hn
 have := (World.ownsRow.stored h k (Y x)).1
 unfold OwnY
 rw [List.length_set, List.map_set]
 exact this
theorem OwnY.of_nil (B : Nat) (w : World) : OwnY B w (.slice none 0 0) [] := World.ownsRow_nil _ _ _ _
theorem OwnY.same {B : Nat} {w w' : World} {v : Value} {ds : List Nat} (h : OwnY B w v ds) (he : w'.heap = w.heap) : OwnY B w' v ds := by
 obtain ⟨h1, h2⟩ := h
 refine ⟨h1, ?_⟩
 rcases h2 with h2 | ⟨g', cap, cur, rfl, h3, h4, h5⟩
 · exact Or.inl h2
 · exact Or.inr ⟨g', cap, cur, rfl, h3, by rw [he]; exact h4, h5⟩
theorem OwnY.grown {B : Nat} {w w' : World} {v : Value} {ds : List Nat} {r : Option Nat} (h : OwnY B w v ds) (hg : w.grownBy w' r) (hne : v.ownBlock = none ∨ v.ownBlock ≠ r) : OwnY B w' v ds := by
 obtain ⟨h1, h2⟩ := h
 refine ⟨h1, ?_⟩
 rcases h2 with h2 | ⟨g', cap, cur, rfl, h3, h4, h5⟩
 · exact Or.inl h2
 ·
  refine Or.inr ⟨g', cap, cur, rfl, h3, ?_, h5⟩
  rw [hg.block g' (Array.getElem?_eq_some_iff.1 h4).1 (hne.elim (fun h => absurd h (by simp [Value.ownBlock])) (fun h => h))]
  exact h4
theorem Own.grown {B e : Nat} {w w' : World} {v : Value} {xs : List Nat} {r : Option Nat} (h : Own B e w v xs) (hg : w.grownBy w' r) (hne : v.ownBlock = none ∨ v.ownBlock ≠ r) : Own B e w' v xs := by
 obtain ⟨h0, h1, h2⟩ := h
 refine ⟨h0, h1, ?_⟩
 rcases h2 with h2 | ⟨g', cap, cur, rfl, h3, h4, h5⟩
 · exact Or.inl h2
 ·
  refine Or.inr ⟨g', cap, cur, rfl, h3, ?_, h5⟩
  rw [hg.block g' (Array.getElem?_eq_some_iff.1 h4).1 (hne.elim (fun h => absurd h (by simp [Value.ownBlock])) (fun h => h))]
  exact h4
theorem push_ownY {B : Nat} {w w' wr : World} {v v' : Value} {ds : List Nat} {d : Nat} {o : Obj} (hv : OwnY B wr v ds) (hbel : Below B w wr) (hB : B ≤ wr.heap.size)
  (ho : w'.ownsRow B 5 1 v' (ds.length + 1) (ds.map Y ++ [Y d])) (hg : (wr.alloc o).grownBy w' v.ownBlock) :
  OwnY B w' v' (ds ++ [d]) ∧ Below B w w' ∧ B ≤ w'.heap.size := by
 have hsz : (wr.alloc o).heap.size = wr.heap.size + 1 := by simp
 have hbel2 : Below B (wr.alloc o) w' := below_of_grown hg (by omega) (fun g e => (World.ownsRow.lt hv g e).1)
 refine ⟨?_, (hbel.alloc hB o).trans hbel2, by have := hbel2.size; omega⟩
 unfold OwnY
 rw [List.length_append, List.map_append]
 exact ho
theorem getD_rev {ds : List Nat} {q : Nat} (h : q < ds.length) : ds.reverse.getD q 0 = ds.getD (ds.length - 1 - q) 0 := by
 rw [List.getD_eq_getElem?_getD, List.getElem?_reverse h, ← List.getD_eq_getElem?_getD]
theorem ext_getD {a b : List Nat} (hl : a.length = b.length) (h : ∀ q, q < a.length → a.getD q 0 = b.getD q 0) : a = b := by
 apply List.ext_getElem hl
 intro j h1 h2
 have := h j h1
 rw [List.getD_eq_getElem?_getD, List.getElem?_eq_getElem h1, List.getD_eq_getElem?_getD, List.getElem?_eq_getElem h2] at this
 simpa using this
def RevEnd (B : Nat) (w : World) (g n cap : Nat) (ds : List Nat) (e : Ending) (w' : World) : Prop :=
 e = .returned (.tuple #[]) ∧ OwnY B w' (.slice (some ⟨g, 0, none⟩) n cap) ds.reverse ∧ w.grownBy w' (some g)
theorem grownBy_set' {w0 w : World} {g : Nat} (h : w0.grownBy w (some g)) (k : Nat) (u : Value) : w0.grownBy (w.setCell ⟨g, k, none⟩ u) (some g) :=
 ⟨h.os, h.tape, h.output, by simp [World.setCell]; exact h.size, fun j hj hne => by
  rw [heap_setCell_other]
  · exact h.block j hj hne
  · intro e; exact hne (by rw [e])⟩
theorem reverse_any (B g n cap : Nat) (ds : List Nat) (w : World) (h : OwnY B w (.slice (some ⟨g, 0, none⟩) n cap) ds) (hn : ds.length = n) (hnc : n ≤ cap) (hcm : cap ≤ 9223372036854775807) :
  Calls Tryz.prog 92 #[.slice (some ⟨g, 0, none⟩) n cap] w fun e w' => RevEnd B w g n cap ds e w' := by
 have HN : Hid (ds.length = n) := hn
 have HO : Hid (OwnY B w (.slice (some ⟨g, 0, none⟩) n cap) ds) := h
 clear hn h
 go_enter Tryz.func92, Tryz.ntmps92
 go_wp2
 go_loopw [2, 3] (fun iv jv wr => ∃ (i : Nat) (ys : List Nat), 2 * i ≤ n + 1 ∧ i ≤ n ∧ iv = .int .i64 i ∧ jv = .int .i64 ((n : Int) - 1 - i) ∧ ys.length = n ∧ OwnY B wr (.slice (some ⟨g, 0, none⟩) n cap) ys ∧ w.grownBy wr (some g) ∧ ∀ q, q < n → ys.getD q 0 = if q < i ∨ n < q + i + 1 then ds.getD (n - 1 - q) 0 else ds.getD q 0) (fun iv _ _ => n - (intOf iv).toNat)
 case atStart => exact ⟨0, ds, by omega, by omega, rfl, by go_num, HN.out, HO.out, World.grownBy.refl _ _, fun q hq => by rw [if_neg (by omega)]⟩
 case round =>
  clear HO
  obtain ⟨i, ys, hi2, hin, rfl, rfl, hyl, how, hgr, hinv⟩ := hrel
  have HY : Hid (ys.length = n) := hyl
  have HI : Hid (∀ q, q < n → ys.getD q 0 = if q < i ∨ n < q + i + 1 then ds.getD (n - 1 - q) 0 else ds.getD q 0) := hinv
  clear hyl hinv
  by_cases hlt : i + i + 1 < n
  ·
   obtain ⟨j, hj⟩ : ∃ j, n = i + j + 1 := ⟨n - 1 - i, by omega⟩
   have ej : (n : Int) - 1 - (i : Int) = (j : Int) := by omega
   rw [ej]
   have hij : (i : Int) < (j : Int) := by omega
   have hin' : (i : Int) < (n : Int) := by omega
   have hjn' : (j : Int) < (n : Int) := by omega
   obtain ⟨ci, hfi⟩ := how.cell (k := i) (by rw [HY.out]; omega)
   obtain ⟨cj, hfj⟩ := how.cell (k := j) (by rw [HY.out]; omega)
   obtain ⟨x, hx⟩ : ∃ x, x = ys.getD i 0 := ⟨_, rfl⟩
   obtain ⟨y, hy⟩ : ∃ y, y = ys.getD j 0 := ⟨_, rfl⟩
   rw [← hx] at ci
   rw [← hy] at cj
   have HX : Hid (x = ys.getD i 0) := hx
   have HYY : Hid (y = ys.getD j 0) := hy
   have HJ : Hid (n = i + j + 1) := hj
   clear hx hy hj ej
   have hset1 := how.set HY.out i y
   have hset2 := hset1.set (by rw [List.length_set]; exact HY.out) j x
   have hgr2 := grownBy_set' (grownBy_set' hgr i (Y y)) j (Y x)
   rw [show Y y = .int .u8 (y : Int) from rfl, show Y x = .int .u8 (x : Int) from rfl] at hset2 hgr2
   clear hset1 how hgr
   go_wp2
   go_region
   go_wp2
   go_roundw
   case rel =>
    have hb := (Below.refl 0 ((wr.setCell ⟨g, i, none⟩ (.int .u8 (y : Int))).setCell ⟨g, j, none⟩ (.int .u8 (x : Int)))).drew
    have hJ := HJ.out
    refine ⟨i + 1, (ys.set i y).set j x, by omega, by omega, by go_num, by congr 1; omega, by rw [List.length_set, List.length_set]; exact HY.out, hset2.same rfl, ⟨hb.os.trans hgr2.os, hb.tape.trans hgr2.tape, hb.output.trans hgr2.output, hgr2.size, hgr2.block⟩, fun q hq => ?_⟩
    have hI := HI.out
    by_cases hqj : q = j
    ·
     subst hqj
     rw [getD_set_eq _ _ _ (by rw [List.length_set, HY.out]; exact hq), HX.out, hI i (by omega), if_neg (by omega), if_pos (by omega)]
     congr 1; omega
    ·
     rw [getD_set_off _ _ _ _ hqj]
     by_cases hqi : q = i
     ·
      subst hqi
      rw [getD_set_eq _ _ _ (by rw [HY.out]; exact hq), HYY.out, hI j (by omega), if_neg (by omega), if_pos (by omega)]
      congr 1; omega
     ·
      rw [getD_set_off _ _ _ _ hqi, hI q hq]
      by_cases hc : q < i ∨ n < q + i + 1
      · rw [if_pos hc, if_pos (by omega)]
      · rw [if_neg hc, if_neg (by omega)]
   case measure => simp [intOf]; have := HJ.out; omega
  ·
   have hlt' : ¬ (i : Int) < (n : Int) - 1 - (i : Int) := by omega
   have HE : Hid (RevEnd B w g n cap ds (.returned (.tuple #[])) wr) := by
    refine ⟨rfl, ?_, hgr⟩
    have : ys = ds.reverse := by
     apply ext_getD (by rw [List.length_reverse, HN.out, HY.out])
     intro q hq
     rw [HY.out] at hq
     rw [HI.out q hq, getD_rev (by rw [HN.out]; exact hq), HN.out]
     by_cases hc : q < i ∨ n < q + i + 1
     · rw [if_pos hc]
     · rw [if_neg hc]; congr 1; omega
    rw [← this]; exact how
   clear how hgr
   go_wp2
   go_end0
   exact HE.out
open Go.RowKit

def chars (ds : List Nat) : List Nat := ds.map (48 + ·)
theorem chars_len (ds : List Nat) : (chars ds).length = ds.length := by simp [chars]
theorem chars_append (a b : List Nat) : chars (a ++ b) = chars a ++ chars b := by simp [chars]
theorem chars_rev (a : List Nat) : (chars a).reverse = chars a.reverse := by simp [chars]
theorem Tryz.infoY : (Tryz.prog.info? 5).map (fun i => (i.zero, i.size, i.bytes)) = some (some (.int .u8 0), 1, 1) := by kernel_rfl
def txt (n : Nat) : ByteArray := strOfNums ((chars (wri n)).map fun (x : Nat) => (x : Int))
theorem dig_lt {ds : List Nat} {v N L : Nat} (h : dval ds + 10 ^ ds.length * v = N) (hv : v ≠ 0) (hN : N < 4294967296 ^ L) : ds.length ≤ 32 * L := by
 rcases Nat.lt_or_ge (32 * L) ds.length with h1 | h1
 ·
  have h2 : 10 ^ ds.length ≤ 10 ^ ds.length * v := Nat.le_mul_of_pos_right _ (by omega)
  have h3 : 2 ^ (32 * L) ≤ 10 ^ ds.length := Nat.le_trans (Nat.pow_le_pow_right (by decide) (Nat.le_of_lt h1)) (Nat.pow_le_pow_left (by decide) _)
  rw [Nat.pow_mul] at h3
  have h4 : (2 ^ 32) ^ L = 4294967296 ^ L := rfl
  omega
 · exact h1
theorem chunk_step {ds : List Nat} {k c A : Nat} (h : dval ds + 10 ^ ds.length * c = A) (hk : ds.length = k) : dval (ds ++ [c % 10]) + 10 ^ (k + 1) * (c / 10) = A := by
 rw [dval_append, hk]
 simp only [dval, Nat.mul_zero, Nat.add_zero]
 rw [hk] at h
 rw [Nat.pow_succ, ← h, Nat.mul_assoc, Nat.add_assoc, ← Nat.mul_add]
 congr 2; omega
theorem str_bt {ds : List Nat} (hd : decs ds) {S : ByteArray} (hS : S = strOfNums ((chars ds).map fun (x : Nat) => (x : Int))) {i : Nat} (hi : i < ds.length) : bt S i = 48 + ds.getD i 0 := by
 unfold bt
 rw [hS, strOfNums_data, List.map_map, List.getD_eq_getElem?_getD, List.getElem?_map, chars, List.getElem?_map, List.getElem?_eq_getElem hi, List.getD_eq_getElem?_getD, List.getElem?_eq_getElem hi]
 have := hd _ (List.getElem_mem hi)
 simp
 omega
theorem bytes_ext {a b : ByteArray} (h : a.data.toList = b.data.toList) : a = b := by
 cases a; cases b; simp at h; rw [h]
theorem txt_trim {ds : List Nat} {N k : Nat} {S r : ByteArray} (hd : decs ds) (hv : dval ds = N) (hN : N ≠ 0) (hS : S = strOfNums ((chars ds.reverse).map fun (x : Nat) => (x : Int)))
  (hk : k ≤ S.size) (hr : r.data.toList = S.data.toList.drop k) (hz : ∀ j, j < k → bt S j = 48) (hnz : k < S.size → bt S k ≠ 48) : r = txt N := by
 have hsz : S.size = ds.reverse.length := by rw [hS, strOfNums_size, List.length_map, chars_len]
 have hz' : ∀ j, j < k → ds.reverse.getD j 0 = 0 := fun j hj => by
  have h1 := hz j hj
  rw [str_bt (decs_rev hd) hS (by omega)] at h1
  omega
 have hbv : bval ds.reverse = N := by unfold bval; rw [List.reverse_reverse]; exact hv
 have hkl : k < ds.reverse.length := by
  rcases Nat.lt_or_ge k ds.reverse.length with h | h
  · exact h
  ·
   exfalso
   apply hN
   rw [← hv]
   apply dval_zeros
   intro x hx
   obtain ⟨j, hj, rfl⟩ := List.getElem_of_mem (List.mem_reverse.2 hx)
   have := hz' j (by omega)
   rw [List.getD_eq_getElem?_getD, List.getElem?_eq_getElem hj] at this
   simpa using this
 have hw : wri N = ds.reverse.drop k := by
  rw [← hbv]
  refine wri_drop (decs_rev hd) hkl hz' (Or.inl fun h0 => ?_)
  have h1 := hnz (by omega)
  rw [str_bt (decs_rev hd) hS hkl, h0] at h1
  exact h1 rfl
 apply bytes_ext
 rw [hr, hS, strOfNums_data]
 unfold txt
 rw [strOfNums_data, hw]
 simp only [chars, List.map_drop]
theorem text_any (u : Value) (xs : List Nat) (w : World) (h : Num w u xs) (hlen : xs.length ≤ 1000000) :
  Calls Tryz.prog 57 #[u] w fun e w' => e = .returned (.string (txt (val xs))) ∧ Below w.heap.size w w' := by
 obtain ⟨iY, hiY, hzY0, hzY1, hzY2⟩ := info_parts Tryz.infoY
 obtain ⟨N, hN⟩ : ∃ N, N = val xs := ⟨_, rfl⟩
 have HNL : Hid (N < 4294967296 ^ xs.length) := by rw [hN]; exact val_lt h.1
 have hll : (lim N).length ≤ 1000000 := by have := lim_short h; rw [← hN] at this; omega
 rw [← hN]
 go_enter Tryz.func57, Tryz.ntmps57
 go_wp2_with fail
 refine (norm_any _ _ _ h (by omega)).mono ?_
 rintro e w1 ⟨r, rfl, hor, hb1⟩
 rw [← hN] at hor
 clear h hN
 obtain ⟨ro, rc, rfl, hro, hrl, hrm⟩ := hor.ao
 by_cases hN0 : N = 0
 ·
  have hl0 : (lim N).length = 0 := by rw [hN0]; rfl
  rw [hl0] at hor ⊢
  have HE : Hid ((.returned (.string ⟨#[48]⟩) : Ending) = .returned (.string (txt N)) ∧ Below w.heap.size w w1) := ⟨by rw [hN0]; rfl, hb1⟩
  clear hor hb1 hro hl0 hN0
  go_wp2_with fail
  go_ret
  exact HE.out
 ·
  obtain ⟨n0, hn0⟩ : ∃ n0, n0 = (lim N).length := ⟨_, rfl⟩
  rw [← hn0] at hor hro hrl hll ⊢
  have hnn : ¬ (n0 : Int) = 0 := by
   intro h0
   apply hN0
   rw [← val_lim N, List.length_eq_zero_iff.1 (show (lim N).length = 0 by omega)]; rfl
  have HB1 : Hid (Below w.heap.size w w1) := hb1
  have HO0 : Hid (Own w.heap.size 37 w1 (.slice ro n0 rc) (lim N)) := hor
  have HN0 : Hid (N ≠ 0) := hN0
  clear hor hb1 hN0 hro hn0
  go_wp2_with fail
  go_loopw [3, 4] (fun rv dv wr => ∃ (v : Nat) (ds : List Nat), Own w.heap.size 37 wr rv (lim v) ∧ v ≤ N ∧ OwnY w.heap.size wr dv (chars ds) ∧ decs ds ∧ dval ds + 10 ^ ds.length * v = N ∧ ds.length ≤ 32 * xs.length + 9 ∧ Below w.heap.size w wr) (fun rv _ wr => valAt wr rv)
  case atStart => exact ⟨N, [], HO0.out, Nat.le_refl _, OwnY.of_nil _ _, fun x hx => by simp at hx, by simp [dval], by simp, HB1.out⟩
  case round =>
   clear HO0 HB1 hnn
   obtain ⟨v, ds, how, hvN, hoy, hdd, hsum, hdl, hbel⟩ := hrel
   have HD : Hid (decs ds) := hdd
   have HS : Hid (dval ds + 10 ^ ds.length * v = N) := hsum
   clear hdd hsum
   obtain ⟨ao, cap, rfl, hao, hlc, hcm⟩ := how.ao
   have HM : Hid (valAt wr (.slice ao (lim v).length cap) = v) := by show _ = _; rw [valAt_eq how.num, val_lim]
   obtain ⟨n, hn⟩ : ∃ n, n = (lim v).length := ⟨_, rfl⟩
   rw [← hn] at how hao hlc HM ⊢
   have HN : Hid (n = (lim v).length) := hn
   have hbw : w.heap.size ≤ wr.heap.size := hbel.size
   clear hn
   by_cases hn0 : 0 < n
   ·
    have hn0' : (0 : Int) < (n : Int) := by omega
    obtain ⟨g, rfl⟩ := hao hn0
    have hv0 : v ≠ 0 := by intro h0; rw [h0] at HN; have := HN.out; simp [lim_zero] at this; omega
    have hdl2 : ds.length ≤ 32 * xs.length := dig_lt HS.out hv0 HNL.out
    have hne : u4.ownBlock = none ∨ u4.ownBlock ≠ some g := own_types hoy how.2 (by decide)
    have HDIV := divideBy_any (lim v) w.heap.size g n cap 1000000000 wr how HN.out.symm hlc hcm (by omega) (by omega)
    rw [show (1000000000 : Int).toNat = 1000000000 from rfl] at HDIV
    have HDV : Hid (Calls Tryz.prog 91 #[.slice (some ⟨g, 0, none⟩) n cap, .int .u32 1000000000] wr fun e w' => ByEnd w.heap.size wr g cap (lim v) 1000000000 e w') := HDIV
    clear HDIV
    go_wp2_with fail
    refine HDV.out.mono ?_
    rintro e w2 ⟨ys, rfl, hyl, hoy2, hvy, hg2⟩
    rw [val_lim] at hvy ⊢
    obtain ⟨c0, hc0⟩ : ∃ c0, c0 = v % 1000000000 := ⟨_, rfl⟩
    rw [← hc0]
    have HC0 : Hid (c0 = v % 1000000000) := hc0
    clear hc0
    have hoyd : OwnY w.heap.size w2 u4 (chars ds) := hoy.grown hg2 hne
    have hbel2 : Below w.heap.size w w2 := hbel.grown hg2 hbw (by intro x hx; rw [Option.some.injEq] at hx; rw [← hx]; exact hoy2.heap.1)
    rw [← HN.out] at hoy2
    clear HDV how hoy hbel hg2
    go_wp2_with fail
    refine (trim_any _ _ _ hoy2.num).mono ?_
    rintro e w3 ⟨⟨k, hk, hkt, rfl⟩, rfl⟩
    have hok := hoy2.cut hk
    rw [hkt, hvy] at hok
    simp only [cutTo] at hok ⊢
    obtain ⟨v2, hv2⟩ : ∃ v2, v2 = v / 1000000000 := ⟨_, rfl⟩
    rw [← hv2] at hok
    have hc0 := HC0.out
    have hc9 : c0 < 1000000000 := by omega
    have HV : Hid (v = c0 + 1000000000 * v2) := by show _ = _; omega
    have hv2v : v2 < v := by omega
    have HST : Hid (OwnY w.heap.size w3 u4 (chars ds) ∧ Own w.heap.size 37 w3 (.slice (some ⟨g, 0, none⟩) k cap) (lim v2) ∧ Below w.heap.size w w3) := ⟨hoyd, hok, hbel2⟩
    have HC9 : Hid (c0 < 1000000000) := hc9
    clear hoyd hok hbel2 hoy2 hvy hyl hkt hk hc0 hv2 hbw hne
    go_wp2_with fail
    go_loopw [4, 5, 18] (fun dv cv t wq => ∃ (i c : Nat) (d2 : List Nat), i ≤ 9 ∧ t = .int .i64 i ∧ cv = .int .u32 c ∧ c < 10 ^ (9 - i) ∧ OwnY w.heap.size wq dv (chars d2) ∧ decs d2 ∧ d2.length = ds.length + i ∧ dval d2 + 10 ^ d2.length * c = dval ds + 10 ^ ds.length * c0 ∧ Own w.heap.size 37 wq (.slice (some ⟨g, 0, none⟩) k cap) (lim v2) ∧ Below w.heap.size w wq) (fun _ _ t _ => 9 - (intOf t).toNat)
    case atStart => exact ⟨0, c0, ds, by omega, rfl, rfl, HC9.out, HST.out.1, HD.out, by omega, rfl, HST.out.2.1, HST.out.2.2⟩
    case round =>
     clear HST HC9
     obtain ⟨i, c, d2, hi, rfl, rfl, hc10, hoyq, hd2, hl2, hs2, horq, hbelq⟩ := hrel
     have HD2 : Hid (decs d2) := hd2
     have HL2 : Hid (d2.length = ds.length + i) := hl2
     have HS2 : Hid (dval d2 + 10 ^ d2.length * c = dval ds + 10 ^ ds.length * c0) := hs2
     have HC10 : Hid (c < 10 ^ (9 - i)) := hc10
     have hc32 : c < 4294967296 := by
      have : 10 ^ (9 - i) ≤ 10 ^ 9 := ten_le (by omega)
      omega
     have hbw : w.heap.size ≤ wr.heap.size := hbelq.size
     clear hd2 hl2 hs2 hc10
     by_cases hi9 : i < 9
     ·
      have hi9' : (i : Int) < 9 := by omega
      obtain ⟨m, hm⟩ : ∃ m, m = (chars d2).length := ⟨_, rfl⟩
      have hmb : m ≤ 40000000 := by rw [hm, chars_len, HL2.out]; omega
      obtain ⟨r, hr⟩ : ∃ r, r = c % 10 := ⟨_, rfl⟩
      have er : (c : Int) % 10 = (r : Int) := by omega
      have hr9 : r ≤ 9 := by omega
      obtain ⟨q, hq⟩ : ∃ q, q = c / 10 := ⟨_, rfl⟩
      have eq : (c : Int) / 10 = (q : Int) := by omega
      have HR : Hid (r = c % 10 ∧ q = c / 10) := ⟨hr, hq⟩
      have HO : Hid (wr.ownsRow w.heap.size 5 1 u4 m ((chars d2).map Y)) := by show _; rw [hm]; exact hoyq
      have HMM : Hid (m = (chars d2).length) := hm
      clear hm hr hq
      have hB3 : w.heap.size ≤ (wr.alloc (.cells #[.int .u8 (48 + (r : Int))] 5)).heap.size := by simp; omega
      go_wp2_with (at_builtin; refine wpList_push _ rfl _ _ 102 rfl w.heap.size 5 iY (.int .u8 0) 1 Tryz.underlying102 hiY hzY0 hzY1 hzY2 rfl _ m ((chars d2).map Y) rfl (HO.out.alloc _) ⟨wr.heap.size, 0, none⟩ 1 1 [.int .u8 (48 + (r : Int))] rfl rfl (cell_one_new _ _ _) (fun u hu => by simp at hu; subst hu; rfl) (by decide) (by unfold maxLen; omega) (by omega) hB3 ?_)
      intro v' w5 ho hgr _ _
      have hne4 : (Value.slice (some ⟨g, 0, none⟩) k cap).ownBlock = none ∨ (Value.slice (some ⟨g, 0, none⟩) k cap).ownBlock ≠ u4.ownBlock := own_types horq.2 hoyq (by decide)
      have R := push_ownY (d := 48 + r) hoyq hbelq hbw (by rw [← HMM.out, show Y (48 + r) = .int .u8 (48 + (r : Int)) by unfold Y; congr 1]; exact ho) hgr
      have hor5 : Own w.heap.size 37 w5 (.slice (some ⟨g, 0, none⟩) k cap) (lim v2) := (horq.alloc _).grown hgr hne4
      clear ho hgr hoyq hbelq hbw HO hB3 horq hne4
      go_wp2
      go_roundw
      case rel =>
       have hR := HR.out
       refine ⟨i + 1, q, d2 ++ [r], by omega, by go_num, rfl, ?_, by rw [chars_append]; exact R.1, ?_, by rw [List.length_append, HL2.out]; rfl, ?_, hor5, R.2.1⟩
       ·
        have h1 := HC10.out
        rw [show 9 - i = (9 - (i + 1)) + 1 by omega, Nat.pow_succ] at h1
        omega
       ·
        refine decs_append HD2.out fun x hx => ?_
        simp at hx; omega
       ·
        rw [hR.1, hR.2, List.length_append]
        exact chunk_step HS2.out rfl
      case measure => simp [intOf]; omega
     ·
      have hi9' : ¬ (i : Int) < 9 := by omega
      have hi : i = 9 := by omega
      subst hi
      have hc0' : c = 0 := by have := HC10.out; simp at this; exact this
      subst hc0'
      go_wp2_with fail
      go_roundw
      case rel =>
       refine ⟨v2, horq, by omega, d2, hoyq, HD2.out, ?_, by rw [HL2.out]; omega⟩
       have h1 := HS2.out
       rw [Nat.mul_zero, Nat.add_zero] at h1
       rw [h1, HL2.out, ← HS.out, HV.out, Nat.pow_add, Nat.mul_add, show (10 : Nat) ^ 9 = 1000000000 from rfl, Nat.mul_assoc, Nat.add_assoc]
      case measure => rw [valAt_eq horq.num, val_lim, HM.out]; exact hv2v
   ·
    have hn0' : ¬ (0 : Int) < (n : Int) := by omega
    have hv0 : v = 0 := by
     rw [← val_lim v, List.length_eq_zero_iff.1 (show (lim v).length = 0 by rw [← HN.out]; omega)]; rfl
    subst hv0
    have hS := HS.out
    rw [Nat.mul_zero, Nat.add_zero] at hS
    have hds : ds.length ≠ 0 := by
     intro h0
     rw [List.length_eq_zero_iff.1 h0] at hS
     exact HN0.out hS.symm
    have HS2 : Hid (dval ds = N) := hS
    clear hS HS how hao HM
    have hsh : ∃ g cap', u4 = .slice (some ⟨g, 0, none⟩) ds.length cap' ∧ ds.length ≤ cap' ∧ cap' ≤ 9223372036854775807 := by
     rcases hoy.2 with ⟨_, h2⟩ | ⟨g', cap', cur, h1, h3, h4, h5, h6, h7, h8⟩
     · rw [chars_len] at h2; exact absurd h2 hds
     · rw [chars_len] at h1 h5; exact ⟨g', cap', h1, h5, h6⟩
    obtain ⟨g, cp, rfl, hcp, hcpm⟩ := hsh
    go_wp2_with fail
    refine (reverse_any w.heap.size g ds.length cp (chars ds) _ hoy (chars_len ds) hcp hcpm).mono ?_
    rintro e w5 ⟨rfl, hor5, hg5⟩
    rw [chars_rev] at hor5
    have hbel5 : Below w.heap.size w w5 := hbel.grown hg5 hbw (by intro x hx; rw [Option.some.injEq] at hx; rw [← hx]; exact hor5.heap.1)
    clear hoy hbel hg5
    have hcv := run_convert_bytes_arg (P := Tryz.prog) w5 102 5 Tryz.underlying102 Tryz.underlying5 g 0 ds.length cp ((chars ds.reverse).map fun (x : Nat) => (x : Int)) (by rw [List.length_map, chars_len, List.length_reverse]) (fun i hi => by
     have := (hor5.cell (k := i) (by rw [chars_len, List.length_reverse]; exact hi)).1
     rw [Nat.zero_add, this]
     congr 2
     rw [List.getD_eq_getElem?_getD, List.getD_eq_getElem?_getD, List.getElem?_map]
     cases (chars ds.reverse)[i]? <;> rfl) 9 Tryz.underlying9
    obtain ⟨S, hS⟩ : ∃ S, S = strOfNums ((chars ds.reverse).map fun (x : Nat) => (x : Int)) := ⟨_, rfl⟩
    rw [← hS] at hcv
    have hSl : S.size = ds.length := by rw [hS, strOfNums_size, List.length_map, chars_len, List.length_reverse]
    have HSS : Hid (S = strOfNums ((chars ds.reverse).map fun (x : Nat) => (x : Int))) := hS
    have HSL : Hid (S.size = ds.length) := hSl
    have hS0 : 0 < S.size := by omega
    clear hS hSl hor5
    go_wp2_with fail
    refine (trimLeft_any S w5 hS0).mono ?_
    rintro e w6 ⟨k, r, rfl, rfl, hk, hr, hz, hnz⟩
    have HE : Hid ((.returned (.string r) : Ending) = .returned (.string (txt N)) ∧ Below w.heap.size w w6) := by
     refine ⟨?_, hbel5⟩
     congr 2
     exact txt_trim HD.out HS2.out HN0.out HSS.out hk hr hz hnz
    clear hr hz hnz hbel5 hcv
    go_wp2_with fail
    go_ret
    exact HE.out
open Go.RowKit

def ICell (w : World) (g : Nat) (neg : Bool) (m : Value) : Prop := w.heap[g]? = some (.cells #[.bool neg, m] 25 (0, 0))
theorem ICell.cells {w : World} {g : Nat} {neg : Bool} {m : Value} (h : ICell w g neg m) : w.cell? ⟨g, 0, none⟩ = some (.bool neg) ∧ w.cell? ⟨g, 1, none⟩ = some m := by
 refine ⟨?_, ?_⟩ <;> (rw [cell_of_row w g _ _ _ _ h]; rfl)
theorem ICell.thaw {w : World} {g : Nat} {neg : Bool} {m : Value} (h : ICell w g neg m) (k : Nat) : w.frozen? ⟨g, k, none⟩ = false := frozen_of_row w g k _ _ h
theorem ICell.below {w w' : World} {g : Nat} {neg : Bool} {m : Value} (h : ICell w g neg m) (hb : Below w.heap.size w w') : ICell w' g neg m := by
 unfold ICell; rw [hb.block _ (Array.getElem?_eq_some_iff.1 h).1]; exact h
theorem ICell.new (w : World) (neg : Bool) (m : Value) : ICell (w.alloc (.cells #[.bool neg, m] 25)) w.heap.size neg m := heap_alloc_new w _
theorem ICell.write {w : World} {g : Nat} {neg : Bool} {m : Value} (h : ICell w g neg m) (n2 : Bool) (m2 : Value) : ICell ((w.setCell ⟨g, 0, none⟩ (.bool n2)).setCell ⟨g, 1, none⟩ m2) g n2 m2 := by
 unfold ICell
 have h1 := heap_setCell_same w g 0 _ _ (.bool n2) h
 have h2 := heap_setCell_same _ g 1 _ _ m2 h1
 rw [h2]
 rfl
theorem ICell.other {w : World} {g : Nat} {neg : Bool} {m : Value} (h : ICell w g neg m) {g' : Nat} (hne : g ≠ g') (k : Nat) (v : Value) : ICell (w.setCell ⟨g', k, none⟩ v) g neg m := by
 unfold ICell
 rw [heap_setCell_other]
 · exact h
 · exact hne
def SignEnd (w : World) (neg : Bool) (m : Value) (e : Ending) (w' : World) : Prop := e = .returned (.agg #[.bool neg, m]) ∧ Below w.heap.size w w'

theorem signed_any (neg : Bool) (m : Value) (xs : List Nat) (w : World) (h : Num w m xs) :
  Calls Tryz.prog 68 #[.bool neg, m] w fun e w' => SignEnd w (neg && decide (0 < xs.length)) m e w' := by
 obtain ⟨ao, cap, rfl, hac, ham⟩ := h.ao
 obtain ⟨n, hn⟩ : ∃ n, n = xs.length := ⟨_, rfl⟩
 rw [← hn] at hac ⊢
 clear hn h
 cases neg
 ·
  go_enter Tryz.func68, Tryz.ntmps68
  go_wp2
  (try simp only [Exit.inBlock, Exit.then])
  exact bodyPost_ret (v := .agg #[.bool false, .slice ao n cap]) (results_cell_row rfl _ _ w.heap.size 25 _ (0, 0) _ rfl (ICell.new w _ _) Tryz.underlying25 rfl (by kernel_rfl)) rfl ⟨rfl, (Below.refl _ _).alloc (Nat.le_refl _) _⟩
 ·
  go_enter Tryz.func68, Tryz.ntmps68
  go_wp2
  (try simp only [Exit.inBlock, Exit.then])
  exact bodyPost_ret (v := .agg #[.bool (decide (0 < n)), .slice ao n cap]) (results_cell_row rfl _ _ w.heap.size 25 _ (0, 0) _ rfl (ICell.new w _ _) Tryz.underlying25 rfl (by kernel_rfl)) rfl ⟨rfl, (Below.refl _ _).alloc (Nat.le_refl _) _⟩
theorem opposite_any (neg : Bool) (ao : Option Addr) (n cap : Nat) (w : World) :
  Calls Tryz.prog 107 #[.agg #[.bool neg, .slice ao n cap]] w fun e w' => SignEnd w (!neg) (.slice ao n cap) e w' := by
 go_enter Tryz.func107, Tryz.ntmps107
 go_wp2
 (try simp only [Exit.inBlock, Exit.then])
 exact bodyPost_ret (v := .agg #[.bool (!neg), .slice ao n cap]) (results_cell_row rfl _ _ (w.heap.size + 1) 25 _ (0, 0) _ rfl (heap_alloc2_new w _ _) Tryz.underlying25 rfl (by kernel_rfl)) rfl ⟨rfl, ((Below.refl _ _).alloc (Nat.le_refl _) _).alloc (by simp) _⟩
theorem below_any (neg : Bool) (ao : Option Addr) (n cap : Nat) (xs : List Nat) (w : World) (h : Num w (.slice ao n cap) xs) (hl : xs.length ≤ 1000000) :
  Calls Tryz.prog 88 #[.agg #[.bool neg, .slice ao n cap]] w fun e w' => e = .returned (.bool (neg && decide (0 < bl (val xs)))) ∧ Below w.heap.size w w' := by
 cases neg
 ·
  go_enter Tryz.func88, Tryz.ntmps88
  go_wp2_with fail
  go_ret
  exact ⟨rfl, (Below.refl _ _).alloc (Nat.le_refl _) _⟩
 ·
  go_enter Tryz.func88, Tryz.ntmps88
  go_wp2_with fail
  refine (bits_any _ _ _ (h.alloc _) (by omega)).mono ?_
  rintro e w2 ⟨rfl, rfl⟩
  obtain ⟨b, hb⟩ : ∃ b, b = bl (val xs) := ⟨_, rfl⟩
  rw [← hb]
  have HB : Hid (b = bl (val xs)) := hb
  clear hb h
  go_wp2_with fail
  go_ret
  exact ⟨by rw [← HB.out]; rfl, (Below.refl _ _).alloc (Nat.le_refl _) _⟩
open Go.RowKit

theorem uint_yes (v : Value) (xs : List Nat) (w : World) (h : Num w v xs) (hsm : val xs < 18446744073709551616) :
  Calls Tryz.prog 113 #[v] w fun e w' => e = .returned (.tuple #[.int .u64 (val xs : Nat), .bool true]) ∧ w' = w := by
 obtain ⟨ao, cap, hv⟩ : ∃ ao cap, v = .slice ao xs.length cap := by obtain ⟨_, ao, cap, hv, _⟩ := h; exact ⟨ao, cap, hv⟩
 subst hv
 have hl2 : (lim (val xs)).length ≤ 2 := lim_len_le hsm
 have hg := getD_lim_two (val xs) hsm
 go_enter Tryz.func113, Tryz.ntmps113
 go_wp2_with fail
 refine (trim_any _ _ _ h).mono ?_
 rintro e w' ⟨⟨k, hk, hk2, rfl⟩, rfl⟩
 have h2 := h.cut hk
 rw [hk2] at h2
 simp only [cutTo] at h2 ⊢
 have hkl : k ≤ 2 := by rw [← hk2, List.length_take, Nat.min_eq_left hk] at hl2; exact hl2
 have hkk : ¬ (2 : Int) < (k : Int) := by omega
 generalize hV : val xs = V at *
 have HV : Hid (val xs = V) := hV
 have Hg1 : Hid ((lim V).getD 0 0 = V % 4294967296) := hg.1
 have Hg2 : Hid ((lim V).getD 1 0 = V / 4294967296) := hg.2
 clear hV h hk2 hl2 hg
 go_wp2_with fail
 refine (limb_any _ _ _ _ h2 (by decide)).mono ?_
 rintro e w' ⟨rfl, rfl⟩
 rw [show (Int.toNat 0) = 0 from rfl, Hg1.out]
 go_wp2_with fail
 refine (limb_any _ _ _ _ h2 (by decide)).mono ?_
 rintro e w' ⟨rfl, rfl⟩
 rw [show (Int.toNat 1) = 1 from rfl, Hg2.out]
 have HO : Hid (bits BinOp.or IntKind.u64 ((V : Int) % 4294967296) ((V : Int) / 4294967296 * 4294967296) = (V : Int)) := or_halves V hsm
 go_wp2
 go_ret2
 refine ⟨?_, rfl⟩
 rw [HO.out, HV.out]; rfl
open Go.RowKit

def leB (a b : Nat) : Bool := decide (a ≤ b)

def SubTold (B : Nat) (w : World) (a b : Nat) (en : Ending) (w' : World) : Prop := ∃ v, en = .returned (.tuple #[v, .bool (leB b a)]) ∧ Own B 37 w' v (lim (a - b)) ∧ Below B w w'
theorem sub_all (u v : Value) (xs ys : List Nat) (w : World) (hu : Num w u xs) (hv : Num w v ys) (hbx : xs.length ≤ 1099511627776) (hby : ys.length ≤ 1099511627776) :
  Calls Tryz.prog 86 #[u, v] w fun e w' => SubTold w.heap.size w (val xs) (val ys) e w' := by
 unfold SubTold
 by_cases hs : val ys ≤ val xs
 ·
  rw [show leB (val ys) (val xs) = true by simp [leB, hs]]
  exact sub_yes u v xs ys w hu hv hbx hby hs
 ·
  rw [show leB (val ys) (val xs) = false by simp [leB, hs], show val xs - val ys = 0 by omega]
  refine (sub_no u v xs ys w hu hv (by omega)).mono ?_
  rintro e w' ⟨rfl, q, rfl⟩
  exact ⟨_, rfl, Own.of_nil _ _ _, below_drewN (Below.refl _ _) q⟩
open Go.RowKit

def zv (neg : Bool) (n : Nat) : Int := if neg then -(n : Int) else n
def IntEnd (w : World) (z : Int) (e : Ending) (w' : World) : Prop :=
 ∃ m, e = .returned (.agg #[.bool (decide (z < 0)), m]) ∧ Own w.heap.size 37 w' m (lim z.natAbs) ∧ Below w.heap.size w w'
theorem lim_pos_len {n : Nat} : 0 < (lim n).length ↔ n ≠ 0 := by
 constructor
 · intro h h0; subst h0; simp [lim_zero] at h
 ·
  intro h
  rcases Nat.eq_zero_or_pos (lim n).length with h0 | h0
  · exfalso; apply h; rw [← val_lim n, List.length_eq_zero_iff.1 h0]; rfl
  · exact h0
theorem sign_eq (neg : Bool) (n : Nat) : (neg && decide (0 < (lim n).length)) = decide (zv neg n < 0) := by
 cases neg
 · simp [zv]
 ·
  by_cases h : n = 0
  · subst h; rfl
  · rw [decide_eq_true (lim_pos_len.2 h), decide_eq_true (show zv true n < 0 by unfold zv; simp; omega)]; rfl
theorem zv_abs (neg : Bool) (n : Nat) : (zv neg n).natAbs = n := by cases neg <;> simp [zv]

theorem int_done {w w3 : World} {g B : Nat} {z : Int} {b : Bool} {m : Value} (hb : b = decide (z < 0)) (hg : w.heap.size ≤ g) (ho : Own B 37 w3 m (lim z.natAbs)) (hgB : g < B) (hbel : Below w.heap.size w w3) :
  IntEnd w z (.returned (.agg #[.bool b, m])) ((w3.setCell ⟨g, 0, none⟩ (.bool b)).setCell ⟨g, 1, none⟩ m) := by
 have hne : m.ownBlock = none ∨ m.ownBlock ≠ some g := by
  cases hm : m.ownBlock with
  | none => exact Or.inl rfl
  | some k =>
   right
   intro e
   rw [Option.some.injEq] at e
   have := (ho.block k hm).1
   omega
 exact ⟨m, by rw [hb], ((ho.other (.bool b) hne).other m hne).mono (by omega), (hbel.setCell (p := ⟨g, 0, none⟩) hg _).setCell (p := ⟨g, 1, none⟩) hg _⟩
theorem wof_any (n : Int) (w : World) (h1 : -9223372036854775808 ≤ n) (h2 : n ≤ 9223372036854775807) :
  Calls Tryz.prog 46 #[.int .i64 n] w fun e w' => IntEnd w n e w' := by
 obtain ⟨W1, hW1⟩ : ∃ W1, W1 = w.alloc (.cells #[.bool false, .slice none 0 0] 25) := ⟨_, rfl⟩
 have hi : ICell W1 w.heap.size false (.slice none 0 0) := by rw [hW1]; exact ICell.new w _ _
 have hb1 : Below w.heap.size w W1 := by rw [hW1]; exact (Below.refl _ _).alloc (Nat.le_refl _) _
 have hsz : w.heap.size < W1.heap.size := by rw [hW1]; simp
 have HW1 : Hid (W1 = w.alloc (.cells #[.bool false, .slice none 0 0] 25)) := hW1
 clear hW1
 by_cases hn : n < 0
 ·
  obtain ⟨k, hk⟩ : ∃ k : Nat, n = -(k : Int) := ⟨n.natAbs, by omega⟩
  have hk0 : k ≠ 0 := by omega
  have hk1 : k ≤ 9223372036854775808 := by omega
  subst hk
  have e1 : IntKind.u64.wrap (-(k : Int)) = 18446744073709551616 - (k : Int) := by rw [IntKind.wrap_u64]; omega
  have e2 : IntKind.u64.wrap (-(18446744073709551616 - (k : Int))) = (k : Int) := by rw [IntKind.wrap_u64]; omega
  go_enter Tryz.func46, Tryz.ntmps46
  go_wp2_with fail
  rw [← HW1.out]
  refine (of_any k W1 (by omega)).mono ?_
  rintro e w2 ⟨m, rfl, hm, hb2⟩
  obtain ⟨ao, nl, cap, rfl⟩ := hm.sl
  go_wp2_with fail
  refine (signed_any _ _ _ _ hm.num).mono ?_
  rintro e w3 ⟨rfl, hb3⟩
  rw [sign_eq]
  have hi3 := (hi.below hb2).below hb3
  have hm3 := hm.below hb3
  have hbel3 := bstep (bstep hb1 hb2) hb3
  obtain ⟨b, hb⟩ : ∃ b, b = decide (zv true k < 0) := ⟨_, rfl⟩
  rw [← hb]
  have HE : Hid (IntEnd w (-(k : Int)) (.returned (.agg #[.bool b, .slice ao nl cap])) ((w3.setCell ⟨w.heap.size, 0, none⟩ (.bool b)).setCell ⟨w.heap.size, 1, none⟩ (.slice ao nl cap))) :=
   int_done (by rw [hb]; rfl) (Nat.le_refl _) (by rw [Int.natAbs_neg, Int.natAbs_natCast]; exact hm3) hsz hbel3
  obtain ⟨c0, c1⟩ := hi3.cells
  have f0 := hi3.thaw 0
  have f1 := hi3.thaw 1
  have HW : Hid (ICell ((w3.setCell ⟨w.heap.size, 0, none⟩ (.bool b)).setCell ⟨w.heap.size, 1, none⟩ (.slice ao nl cap)) w.heap.size b (.slice ao nl cap)) := hi3.write _ _
  clear hb hi hi3 hm hm3 hb1 hb2 hb3 hbel3 hsz
  go_wp2_with fail
  (try simp only [Exit.inBlock, Exit.then])
  exact bodyPost_ret (results_cell_row rfl _ _ w.heap.size 25 _ (0, 0) _ rfl HW.out Tryz.underlying25 rfl (by kernel_rfl)) rfl HE.out
 ·
  obtain ⟨k, hk⟩ : ∃ k : Nat, n = (k : Int) := ⟨n.natAbs, by omega⟩
  have hk1 : k ≤ 9223372036854775807 := by omega
  subst hk
  have hn' : ¬ (k : Int) < 0 := hn
  go_enter Tryz.func46, Tryz.ntmps46
  go_wp2_with fail
  rw [← HW1.out]
  refine (of_any k W1 (by omega)).mono ?_
  rintro e w2 ⟨m, rfl, hm, hb2⟩
  obtain ⟨ao, nl, cap, rfl⟩ := hm.sl
  go_wp2_with fail
  refine (signed_any _ _ _ _ hm.num).mono ?_
  rintro e w3 ⟨rfl, hb3⟩
  rw [sign_eq]
  have hi3 := (hi.below hb2).below hb3
  have hm3 := hm.below hb3
  have hbel3 := bstep (bstep hb1 hb2) hb3
  obtain ⟨b, hb⟩ : ∃ b, b = decide (zv false k < 0) := ⟨_, rfl⟩
  rw [← hb]
  have HE : Hid (IntEnd w (k : Int) (.returned (.agg #[.bool b, .slice ao nl cap])) ((w3.setCell ⟨w.heap.size, 0, none⟩ (.bool b)).setCell ⟨w.heap.size, 1, none⟩ (.slice ao nl cap))) :=
   int_done (by rw [hb]; rfl) (Nat.le_refl _) (by rw [Int.natAbs_natCast]; exact hm3) hsz hbel3
  obtain ⟨c0, c1⟩ := hi3.cells
  have f0 := hi3.thaw 0
  have f1 := hi3.thaw 1
  have HW : Hid (ICell ((w3.setCell ⟨w.heap.size, 0, none⟩ (.bool b)).setCell ⟨w.heap.size, 1, none⟩ (.slice ao nl cap)) w.heap.size b (.slice ao nl cap)) := hi3.write _ _
  clear hb hi hi3 hm hm3 hb1 hb2 hb3 hbel3 hsz
  go_wp2_with fail
  (try simp only [Exit.inBlock, Exit.then])
  exact bodyPost_ret (results_cell_row rfl _ _ w.heap.size 25 _ (0, 0) _ rfl HW.out Tryz.underlying25 rfl (by kernel_rfl)) rfl HE.out
open Go.RowKit

theorem zv_add (n : Bool) (x y : Nat) : zv n x + zv n y = zv n (x + y) := by cases n <;> simp [zv] <;> omega
theorem zv_sub {n k : Bool} {x y : Nat} (h : n ≠ k) (hle : y ≤ x) : zv n x + zv k y = zv n (x - y) := by
 cases n <;> cases k <;> simp [zv] at h ⊢ <;> omega
theorem zv_sub' {n k : Bool} {x y : Nat} (h : n ≠ k) (hle : x ≤ y) : zv n x + zv k y = zv k (y - x) := by
 cases n <;> cases k <;> simp [zv] at h ⊢ <;> omega
def Boxes (w : World) (g : Nat) (na nb : Bool) (ma mb : Value) : Prop := ICell w g na ma ∧ ICell w (g + 1) nb mb ∧ ICell w (g + 1 + 1) false (.slice none 0 0)
theorem Boxes.below {w w' : World} {g : Nat} {na nb : Bool} {ma mb : Value} (h : Boxes w g na nb ma mb) (hb : Below w.heap.size w w') : Boxes w' g na nb ma mb := ⟨h.1.below hb, h.2.1.below hb, h.2.2.below hb⟩
theorem Boxes.new (w : World) (na nb : Bool) (ma mb : Value) : Boxes (((w.alloc (.cells #[.bool na, ma] 25)).alloc (.cells #[.bool nb, mb] 25)).alloc (.cells #[.bool false, .slice none 0 0] 25)) w.heap.size na nb ma mb := by
 have h3 := ICell.new ((w.alloc (.cells #[.bool na, ma] 25)).alloc (.cells #[.bool nb, mb] 25)) false (.slice none 0 0)
 have h2 := (ICell.new (w.alloc (.cells #[.bool na, ma] 25)) nb mb).below (belowA _ (.cells #[.bool false, .slice none 0 0] 25))
 have h1 := ((ICell.new w na ma).below (belowA _ (.cells #[.bool nb, mb] 25))).below (belowA _ (.cells #[.bool false, .slice none 0 0] 25))
 rw [World.size_alloc] at h2
 rw [World.size_alloc, World.size_alloc] at h3
 exact ⟨h1, h2, h3⟩
theorem wadd_any (na nb : Bool) (ao bo : Option Addr) (al ac bl_ bc : Nat) (xs ys : List Nat) (w : World) (ha : Num w (.slice ao al ac) xs) (hb : Num w (.slice bo bl_ bc) ys) (hlx : xs.length ≤ 1000000) (hly : ys.length ≤ 1000000) :
  Calls Tryz.prog 51 #[.agg #[.bool na, .slice ao al ac], .agg #[.bool nb, .slice bo bl_ bc]] w fun e w' => IntEnd w (zv na (val xs) + zv nb (val ys)) e w' := by
 obtain ⟨W1, hW1⟩ : ∃ W1, W1 = ((w.alloc (.cells #[.bool na, .slice ao al ac] 25)).alloc (.cells #[.bool nb, .slice bo bl_ bc] 25)).alloc (.cells #[.bool false, .slice none 0 0] 25) := ⟨_, rfl⟩
 have hx : Boxes W1 w.heap.size na nb (.slice ao al ac) (.slice bo bl_ bc) := by rw [hW1]; exact Boxes.new _ _ _ _ _
 have hb1 : Below w.heap.size w W1 := by rw [hW1]; exact bstep (bstep (belowA w _) (belowA _ _)) (belowA _ _)
 have hsz : w.heap.size + 1 + 1 < W1.heap.size := by rw [hW1]; simp
 have na1 := ha.below (Nat.le_refl _) hb1
 have nb1 := hb.below (Nat.le_refl _) hb1
 have HW1 : Hid (W1 = ((w.alloc (.cells #[.bool na, .slice ao al ac] 25)).alloc (.cells #[.bool nb, .slice bo bl_ bc] 25)).alloc (.cells #[.bool false, .slice none 0 0] 25)) := hW1
 clear hW1 ha hb
 go_enter Tryz.func51, Tryz.ntmps51
 by_cases hs : na = nb
 ·
  subst hs
  have hbq : (na == na) = true := by simp
  go_wp2_with fail
  rw [← HW1.out]
  obtain ⟨g, hg⟩ : ∃ g, g = w.heap.size := ⟨_, rfl⟩
  rw [← hg] at hx hsz ⊢
  have HG : Hid (g = w.heap.size) := hg
  obtain ⟨c0, c1⟩ := hx.1.cells
  obtain ⟨d0, d1⟩ := hx.2.1.cells
  have HX : Hid (Boxes W1 g na na (.slice ao al ac) (.slice bo bl_ bc)) := hx
  clear hx hg
  go_region_with (first
   | (go_at_call 85; refine (add_any _ _ _ _ _ (na1.same (w' := W1.drew) rfl) (nb1.same (w' := W1.drew) rfl) (by omega) (by omega)).mono ?_; rintro e w2 ⟨m, rfl, hm, hb2⟩; obtain ⟨mo, ml, mc, rfl⟩ := hm.sl; have e0 := ((show Boxes W1.drew g na na (.slice ao al ac) (.slice bo bl_ bc) from HX.out).below hb2).1.cells.1)
   | (go_at_call 68; refine (signed_any _ _ _ _ hm.num).mono ?_; rintro e w3 ⟨rfl, hb3⟩; rw [sign_eq]; have hx3 := ((show Boxes W1.drew g na na (.slice ao al ac) (.slice bo bl_ bc) from HX.out).below hb2).below hb3; have x0 := hx3.2.2.cells.1; have x1 := hx3.2.2.cells.2; have f0 := hx3.2.2.thaw 0; have f1 := hx3.2.2.thaw 1))
  all_goals
   have HE : Hid (IntEnd w (zv na (val xs) + zv na (val ys)) (.returned (.agg #[.bool (decide (zv na (val xs + val ys) < 0)), .slice mo ml mc])) ((w3.setCell ⟨g + 1 + 1, 0, none⟩ (.bool (decide (zv na (val xs + val ys) < 0)))).setCell ⟨g + 1 + 1, 1, none⟩ (.slice mo ml mc))) :=
    int_done (B := W1.drew.heap.size) (by rw [zv_add]) (by rw [HG.out]; omega) (by rw [zv_add, zv_abs]; exact hm.below hb3) hsz (bstep (bstep (bstep hb1 (Below.refl _ _).drew) hb2) hb3)
   have HW : Hid (ICell ((w3.setCell ⟨g + 1 + 1, 0, none⟩ (.bool (decide (zv na (val xs + val ys) < 0)))).setCell ⟨g + 1 + 1, 1, none⟩ (.slice mo ml mc)) (g + 1 + 1) (decide (zv na (val xs + val ys) < 0)) (.slice mo ml mc)) := hx3.2.2.write _ _
   clear hm hb2 hb3 hx3 x0 x1 f0 f1 e0 c0 c1 d0 d1 HX na1 nb1 hb1 hsz
   go_wp2_with fail
   (try simp only [Exit.inBlock, Exit.then])
   exact bodyPost_ret (results_cell_row rfl _ _ (g + 1 + 1) 25 _ (0, 0) _ rfl HW.out Tryz.underlying25 rfl (by kernel_rfl)) rfl HE.out
 ·
  have hbq : (na == nb) = false := by cases na <;> cases nb <;> simp at hs ⊢
  obtain ⟨g, hg⟩ : ∃ g, g = w.heap.size := ⟨_, rfl⟩
  rw [← hg] at hx hsz
  have HG : Hid (g = w.heap.size) := hg
  have HX : Hid (Boxes W1 g na nb (.slice ao al ac) (.slice bo bl_ bc)) := hx
  obtain ⟨c0, c1⟩ := hx.1.cells
  obtain ⟨d0, d1⟩ := hx.2.1.cells
  go_wp2_with fail
  rw [← HW1.out, ← hg]
  clear hx hg
  refine (sub_all _ _ _ _ _ na1 nb1 (by omega) (by omega)).mono ?_
  rintro e w2 ⟨m, rfl, hm, hb2⟩
  obtain ⟨mo, ml, mc, rfl⟩ := hm.sl
  have HX2 : Hid (Boxes w2 g na nb (.slice ao al ac) (.slice bo bl_ bc)) := HX.out.below hb2
  have hb12 := bstep hb1 hb2
  have hsz2 : g + 1 + 1 < w2.heap.size := Nat.lt_of_lt_of_le hsz hb2.size
  have na2 := na1.below (Nat.le_refl _) hb2
  have nb2 := nb1.below (Nat.le_refl _) hb2
  obtain ⟨p0, p1⟩ := HX2.out.1.cells
  obtain ⟨q0, q1⟩ := HX2.out.2.1.cells
  clear c0 c1 d0 d1
  by_cases hle : val ys ≤ val xs
  ·
   rw [show leB (val ys) (val xs) = true from decide_eq_true hle]
   go_wp2_with fail
   refine (signed_any _ _ _ _ hm.num).mono ?_
   rintro e w3 ⟨rfl, hb3⟩
   rw [sign_eq]
   have hx3 := HX2.out.below hb3
   have HE : Hid (IntEnd w (zv na (val xs) + zv nb (val ys)) (.returned (.agg #[.bool (decide (zv na (val xs - val ys) < 0)), .slice mo ml mc])) ((w3.setCell ⟨g + 1 + 1, 0, none⟩ (.bool (decide (zv na (val xs - val ys) < 0)))).setCell ⟨g + 1 + 1, 1, none⟩ (.slice mo ml mc))) :=
    int_done (B := W1.heap.size) (by rw [zv_sub hs hle]) (by rw [HG.out]; omega) (by rw [zv_sub hs hle, zv_abs]; exact hm.below hb3) hsz (bstep hb12 hb3)
   have HW : Hid (ICell ((w3.setCell ⟨g + 1 + 1, 0, none⟩ (.bool (decide (zv na (val xs - val ys) < 0)))).setCell ⟨g + 1 + 1, 1, none⟩ (.slice mo ml mc)) (g + 1 + 1) (decide (zv na (val xs - val ys) < 0)) (.slice mo ml mc)) := hx3.2.2.write _ _
   obtain ⟨x0, x1⟩ := hx3.2.2.cells
   have f0 := hx3.2.2.thaw 0
   have f1 := hx3.2.2.thaw 1
   generalize decide (zv na (val xs - val ys) < 0) = bb at *
   clear hm hb2 hb3 hx3 HX HX2 na1 nb1 na2 nb2 hb1 hb12 hsz hsz2 p0 p1 q0 q1
   go_wp2_with fail
   (try simp only [Exit.inBlock, Exit.then])
   exact bodyPost_ret (results_cell_row rfl _ _ (g + 1 + 1) 25 _ (0, 0) _ rfl HW.out Tryz.underlying25 rfl (by kernel_rfl)) rfl HE.out
  ·
   rw [show leB (val ys) (val xs) = false from decide_eq_false hle]
   go_wp2_with fail
   refine (sub_all _ _ _ _ _ nb2 na2 (by omega) (by omega)).mono ?_
   rintro e w3 ⟨m2, rfl, hm2, hb3⟩
   rw [show leB (val xs) (val ys) = true from decide_eq_true (by omega)]
   obtain ⟨ko, kl, kc, rfl⟩ := hm2.sl
   have HX3 : Hid (Boxes w3 g na nb (.slice ao al ac) (.slice bo bl_ bc)) := HX2.out.below hb3
   have hb13 := bstep hb12 hb3
   obtain ⟨r0, r1⟩ := HX3.out.2.1.cells
   clear p0 p1 q0 q1 hm na2 nb2
   go_wp2_with fail
   refine (signed_any _ _ _ _ hm2.num).mono ?_
   rintro e w4 ⟨rfl, hb4⟩
   rw [sign_eq]
   have hx4 := HX3.out.below hb4
   have HE : Hid (IntEnd w (zv na (val xs) + zv nb (val ys)) (.returned (.agg #[.bool (decide (zv nb (val ys - val xs) < 0)), .slice ko kl kc])) ((w4.setCell ⟨g + 1 + 1, 0, none⟩ (.bool (decide (zv nb (val ys - val xs) < 0)))).setCell ⟨g + 1 + 1, 1, none⟩ (.slice ko kl kc))) :=
    int_done (B := w2.heap.size) (by rw [zv_sub' hs (by omega)]) (by rw [HG.out]; omega) (by rw [zv_sub' hs (by omega), zv_abs]; exact hm2.below hb4) hsz2 (bstep hb13 hb4)
   have HW : Hid (ICell ((w4.setCell ⟨g + 1 + 1, 0, none⟩ (.bool (decide (zv nb (val ys - val xs) < 0)))).setCell ⟨g + 1 + 1, 1, none⟩ (.slice ko kl kc)) (g + 1 + 1) (decide (zv nb (val ys - val xs) < 0)) (.slice ko kl kc)) := hx4.2.2.write _ _
   obtain ⟨x0, x1⟩ := hx4.2.2.cells
   have f0 := hx4.2.2.thaw 0
   have f1 := hx4.2.2.thaw 1
   generalize decide (zv nb (val ys - val xs) < 0) = bb at *
   clear hm2 hb2 hb3 hb4 hx4 HX HX2 HX3 na1 nb1 hb1 hb12 hb13 hsz hsz2 r0 r1
   go_wp2_with fail
   (try simp only [Exit.inBlock, Exit.then])
   exact bodyPost_ret (results_cell_row rfl _ _ (g + 1 + 1) 25 _ (0, 0) _ rfl HW.out Tryz.underlying25 rfl (by kernel_rfl)) rfl HE.out

theorem txt_size (n : Nat) : (txt n).size = (wri n).length := by unfold txt; rw [strOfNums_size, List.length_map, chars_len]
theorem wri_len {n L : Nat} (h : (lim n).length ≤ L) : (wri n).length ≤ 32 * L + 1 := by
 unfold wri
 split
 · simp
 ·
  rename_i h0
  rw [List.length_reverse]
  rcases Nat.lt_or_ge (32 * L + 1) (dec n).length with h1 | h1
  ·
   exfalso
   obtain ⟨ds, d, hd⟩ : ∃ ds d, dec n = ds ++ [d] := ⟨(dec n).dropLast, (dec n).getLast (dec_ne h0), (List.dropLast_concat_getLast (dec_ne h0)).symm⟩
   have hw := wri_head h0 (wri_ne n)
   have hw2 : wri n = d :: ds.reverse := by unfold wri; rw [if_neg h0, hd, List.reverse_append]; rfl
   simp only [hw2, List.head_cons] at hw
   have h2 := dval_dec n
   rw [hd, dval_append] at h2
   simp only [dval, Nat.mul_zero, Nat.add_zero] at h2
   have h3 := dig_lt h2 hw (lim_lt_of_len h)
   rw [hd, List.length_append] at h1
   simp at h1
   omega
  · exact h1
theorem txt_short {n L : Nat} (h : (lim n).length ≤ L) : (txt n).size ≤ 32 * L + 1 := by rw [txt_size]; exact wri_len h
open Go.RowKit

theorem zv_neg (n : Bool) (x : Nat) : -(zv n x) = zv (!n) x := by cases n <;> simp [zv]

theorem wsub_any (na nb : Bool) (ao bo : Option Addr) (al ac bl_ bc : Nat) (xs ys : List Nat) (w : World) (ha : Num w (.slice ao al ac) xs) (hb : Num w (.slice bo bl_ bc) ys) (hlx : xs.length ≤ 1000000) (hly : ys.length ≤ 1000000) :
  Calls Tryz.prog 106 #[.agg #[.bool na, .slice ao al ac], .agg #[.bool nb, .slice bo bl_ bc]] w fun e w' => IntEnd w (zv na (val xs) - zv nb (val ys)) e w' := by
 obtain ⟨W1, hW1⟩ : ∃ W1, W1 = ((w.alloc (.cells #[.bool na, .slice ao al ac] 25)).alloc (.cells #[.bool nb, .slice bo bl_ bc] 25)).alloc (.cells #[.bool false, .slice none 0 0] 25) := ⟨_, rfl⟩
 have hx : Boxes W1 w.heap.size na nb (.slice ao al ac) (.slice bo bl_ bc) := by rw [hW1]; exact Boxes.new _ _ _ _ _
 have hb1 : Below w.heap.size w W1 := by rw [hW1]; exact bstep (bstep (belowA w _) (belowA _ _)) (belowA _ _)
 have hsz : w.heap.size + 1 + 1 < W1.heap.size := by rw [hW1]; simp
 have na1 := ha.below (Nat.le_refl _) hb1
 have nb1 := hb.below (Nat.le_refl _) hb1
 have HW1 : Hid (W1 = ((w.alloc (.cells #[.bool na, .slice ao al ac] 25)).alloc (.cells #[.bool nb, .slice bo bl_ bc] 25)).alloc (.cells #[.bool false, .slice none 0 0] 25)) := hW1
 clear hW1 ha hb
 obtain ⟨Z, hZ⟩ : ∃ Z, Z = zv na (val xs) - zv nb (val ys) := ⟨_, rfl⟩
 have HZ : Hid (zv na (val xs) + zv (!nb) (val ys) = Z) := by show _ = _; rw [← zv_neg, hZ]; omega
 rw [← hZ]
 clear hZ
 go_enter Tryz.func106, Tryz.ntmps106
 go_wp2_with fail
 rw [← HW1.out]
 obtain ⟨g, hg⟩ : ∃ g, g = w.heap.size := ⟨_, rfl⟩
 rw [← hg] at hx hsz ⊢
 have HG : Hid (g = w.heap.size) := hg
 obtain ⟨c0, c1⟩ := hx.1.cells
 obtain ⟨d0, d1⟩ := hx.2.1.cells
 have HX : Hid (Boxes W1 g na nb (.slice ao al ac) (.slice bo bl_ bc)) := hx
 clear hx hg
 go_region_with (first
  | (go_at_call 107; refine (opposite_any _ _ _ _ _).mono ?_; rintro e w2 ⟨rfl, hb2⟩; have x2 := ((show Boxes W1.drew g na nb (.slice ao al ac) (.slice bo bl_ bc) from HX.out).below hb2); have e0 := x2.1.cells.1; have e1 := x2.1.cells.2)
  | (go_at_call 51; refine (wadd_any _ _ _ _ _ _ _ _ _ _ _ ((na1.same (w' := W1.drew) rfl).below (Nat.le_refl _) hb2) ((nb1.same (w' := W1.drew) rfl).below (Nat.le_refl _) hb2) hlx hly).mono ?_; rw [HZ.out]; rintro e w3 ⟨m, rfl, hm, hb3⟩; obtain ⟨mo, ml, mc, rfl⟩ := hm.sl; have hx3 := x2.below hb3; have y0 := hx3.2.2.cells.1; have y1 := hx3.2.2.cells.2; have f0 := hx3.2.2.thaw 0; have f1 := hx3.2.2.thaw 1))
 all_goals
  have HE : Hid (IntEnd w Z (.returned (.agg #[.bool (decide (Z < 0)), .slice mo ml mc])) ((w3.setCell ⟨g + 1 + 1, 0, none⟩ (.bool (decide (Z < 0)))).setCell ⟨g + 1 + 1, 1, none⟩ (.slice mo ml mc))) :=
   int_done (B := w2.heap.size) rfl (by rw [HG.out]; omega) hm (Nat.lt_of_lt_of_le hsz hb2.size) (bstep (bstep (bstep hb1 (Below.refl _ _).drew) hb2) hb3)
  have HW : Hid (ICell ((w3.setCell ⟨g + 1 + 1, 0, none⟩ (.bool (decide (Z < 0)))).setCell ⟨g + 1 + 1, 1, none⟩ (.slice mo ml mc)) (g + 1 + 1) (decide (Z < 0)) (.slice mo ml mc)) := hx3.2.2.write _ _
  clear hm hb2 hb3 hx3 x2 y0 y1 f0 f1 e0 e1 c0 c1 d0 d1 HX na1 nb1 hb1 hsz
  go_wp2_with fail
  (try simp only [Exit.inBlock, Exit.then])
  exact bodyPost_ret (results_cell_row rfl _ _ (g + 1 + 1) 25 _ (0, 0) _ rfl HW.out Tryz.underlying25 rfl (by kernel_rfl)) rfl HE.out
def ztxt (neg : Bool) (n : Nat) : ByteArray := if neg = true ∧ n ≠ 0 then ⟨#[45]⟩ ++ txt n else txt n
theorem bl_pos {n : Nat} : 0 < bl n ↔ n ≠ 0 := by
 constructor
 · intro h h0; subst h0; simp [bl_zero] at h
 ·
  intro h
  obtain ⟨m, e, _⟩ := bl_bounds h
  omega
theorem wtext_any (neg : Bool) (ao : Option Addr) (n cap : Nat) (xs : List Nat) (w : World) (h : Num w (.slice ao n cap) xs) (hl : xs.length ≤ 1000000) :
  Calls Tryz.prog 54 #[.agg #[.bool neg, .slice ao n cap]] w fun e w' => e = .returned (.string (ztxt neg (val xs))) ∧ Below w.heap.size w w' := by
 obtain ⟨W1, hW1⟩ : ∃ W1, W1 = w.alloc (.cells #[.bool neg, .slice ao n cap] 25) := ⟨_, rfl⟩
 have hi : ICell W1 w.heap.size neg (.slice ao n cap) := by rw [hW1]; exact ICell.new w _ _
 have hb1 : Below w.heap.size w W1 := by rw [hW1]; exact belowA _ _
 have n1 := h.below (Nat.le_refl _) hb1
 have HW1 : Hid (W1 = w.alloc (.cells #[.bool neg, .slice ao n cap] 25)) := hW1
 clear hW1 h
 obtain ⟨T, hT⟩ : ∃ T, T = txt (val xs) := ⟨_, rfl⟩
 have HT : Hid (T = txt (val xs)) := hT
 have hTs : T.size ≤ 32000001 := by
  rw [hT]
  have h1 := txt_short (n := val xs) (L := xs.length) (lim_len_le (val_lt n1.1))
  omega
 clear hT
 go_enter Tryz.func54, Tryz.ntmps54
 go_wp2_with fail
 rw [← HW1.out]
 refine (text_any _ _ _ n1 hl).mono ?_
 rintro e w2 ⟨rfl, hb2⟩
 rw [← HT.out]
 have hi2 := hi.below hb2
 have n2 := n1.below (Nat.le_refl _) hb2
 obtain ⟨c0, c1⟩ := hi2.cells
 have hb12 := bstep hb1 hb2
 clear hi hb1 hb2 n1
 go_wp2_with fail
 refine (below_any _ _ _ _ _ _ n2 hl).mono ?_
 rintro e w3 ⟨rfl, hb3⟩
 have HB : Hid (Below w.heap.size w w3) := bstep hb12 hb3
 clear hb12 hb3 hi2 n2 c0 c1
 by_cases hc : neg = true ∧ val xs ≠ 0
 ·
  rw [show (neg && decide (0 < bl (val xs))) = true by rw [hc.1, decide_eq_true (bl_pos.2 hc.2)]; rfl]
  have HE : Hid ((.returned (.string (⟨#[45]⟩ ++ T)) : Ending) = .returned (.string (ztxt neg (val xs)))) := by show _ = _; unfold ztxt; rw [if_pos hc, HT.out]
  clear hc
  go_wp2_with fail
  go_ret
  exact ⟨HE.out, HB.out⟩
 ·
  rw [show (neg && decide (0 < bl (val xs))) = false by
   cases neg
   · rfl
   · rw [decide_eq_false (fun h => hc ⟨rfl, bl_pos.1 h⟩)]; rfl]
  have HE : Hid ((.returned (.string T) : Ending) = .returned (.string (ztxt neg (val xs)))) := by show _ = _; unfold ztxt; rw [if_neg hc, HT.out]
  clear hc
  go_wp2_with fail
  go_ret
  exact ⟨HE.out, HB.out⟩
open Go.RowKit
attribute [local go_sem ↓] Go.wp_at_zero Go.wp_at_succ

theorem keepB {w w' : World} {p : Addr} {v : Value} (hb : Below w.heap.size w w') (h : w.cell? p = some v) : w'.cell? p = some v := by
 rw [hb.cell (block_lt_of_cell h), h]
theorem keepB2 {w w' : World} {p q : Addr} {v u : Value} (hb : Below w.heap.size w w') (h : w.cell? p = some v ∧ w.cell? q = some u) : w'.cell? p = some v ∧ w'.cell? q = some u :=
 ⟨keepB hb h.1, keepB hb h.2⟩
theorem keepS {w : World} {g b o k k2 : Nat} {v v2 x : Value} (hne : b ≠ g) (h : w.cell? ⟨b, o, none⟩ = some x) : ((w.setCell ⟨g, k, none⟩ v).setCell ⟨g, k2, none⟩ v2).cell? ⟨b, o, none⟩ = some x := by
 rw [← h]
 apply World.cell?_of_block
 rw [heap_setCell_other, heap_setCell_other]
 · exact hne
 · exact hne
theorem zv_mul (na nb : Bool) (x y : Nat) : zv na x * zv nb y = zv (na != nb) (x * y) := by
 cases na <;> cases nb <;> simp [zv, Int.neg_mul, Int.mul_neg]
def Box1 (w : World) (g : Nat) (na : Bool) (ma : Value) : Prop := ICell w g na ma ∧ ICell w (g + 1) false (.slice none 0 0)
theorem Box1.below {w w' : World} {g : Nat} {na : Bool} {ma : Value} (h : Box1 w g na ma) (hb : Below w.heap.size w w') : Box1 w' g na ma := ⟨h.1.below hb, h.2.below hb⟩
theorem Box1.new (w : World) (na : Bool) (ma : Value) : Box1 ((w.alloc (.cells #[.bool na, ma] 25)).alloc (.cells #[.bool false, .slice none 0 0] 25)) w.heap.size na ma := by
 have h2 := ICell.new (w.alloc (.cells #[.bool na, ma] 25)) false (.slice none 0 0)
 have h1 := (ICell.new w na ma).below (belowA _ (.cells #[.bool false, .slice none 0 0] 25))
 rw [World.size_alloc] at h2
 exact ⟨h1, h2⟩
theorem wnorm_any (na : Bool) (ao : Option Addr) (al ac : Nat) (xs : List Nat) (w : World) (ha : Num w (.slice ao al ac) xs) (hlx : xs.length ≤ 1000000) :
  Calls Tryz.prog 30 #[.agg #[.bool na, .slice ao al ac]] w fun e w' => IntEnd w (zv na (val xs)) e w' := by
 obtain ⟨W1, hW1⟩ : ∃ W1, W1 = (w.alloc (.cells #[.bool na, .slice ao al ac] 25)).alloc (.cells #[.bool false, .slice none 0 0] 25) := ⟨_, rfl⟩
 have hx : Box1 W1 w.heap.size na (.slice ao al ac) := by rw [hW1]; exact Box1.new _ _ _
 have hb1 : Below w.heap.size w W1 := by rw [hW1]; exact bstep (belowA w _) (belowA _ _)
 have hsz : w.heap.size + 1 < W1.heap.size := by rw [hW1]; simp
 have na1 := ha.below (Nat.le_refl _) hb1
 have HW1 : Hid (W1 = (w.alloc (.cells #[.bool na, .slice ao al ac] 25)).alloc (.cells #[.bool false, .slice none 0 0] 25)) := hW1
 clear hW1 ha
 go_enter Tryz.func30, Tryz.ntmps30
 go_wp2_with fail
 rw [← HW1.out]
 obtain ⟨g, hg⟩ : ∃ g, g = w.heap.size := ⟨_, rfl⟩
 rw [← hg] at hx hsz ⊢
 have HG : Hid (g = w.heap.size) := hg
 obtain ⟨c0, c1⟩ := hx.1.cells
 have HX : Hid (Box1 W1 g na (.slice ao al ac)) := hx
 clear hx hg
 go_region_held3 (fun w' => w'.cell? ⟨g, 0, none⟩ = some (.bool na) ∧ w'.cell? ⟨g, 1, none⟩ = some (.slice ao al ac)) (first | go_keep | exact keepB2 (by with_reducible assumption) (by with_reducible assumption)) (first
  | (go_at_call 69; refine (norm_any _ _ _ (na1.same (w' := W1.drew) rfl) (by omega)).mono ?_; rintro e w2 ⟨m, rfl, hm, hb2⟩; obtain ⟨mo, ml, mc, rfl⟩ := hm.sl)
  | (go_at_call 68; refine (signed_any _ _ _ _ hm.num).mono ?_; rintro e w3 ⟨rfl, hb3⟩; rw [sign_eq]; have hx3 := ((show Box1 W1.drew g na (.slice ao al ac) from HX.out).below hb2).below hb3; have x0 := hx3.2.cells.1; have x1 := hx3.2.cells.2; have f0 := hx3.2.thaw 0; have f1 := hx3.2.thaw 1))
 all_goals
  have HE : Hid (IntEnd w (zv na (val xs)) (.returned (.agg #[.bool (decide (zv na (val xs) < 0)), .slice mo ml mc])) ((w3.setCell ⟨g + 1, 0, none⟩ (.bool (decide (zv na (val xs) < 0)))).setCell ⟨g + 1, 1, none⟩ (.slice mo ml mc))) :=
   int_done (B := W1.drew.heap.size) rfl (by rw [HG.out]; omega) (by rw [zv_abs]; exact hm.below hb3) hsz (bstep (bstep (bstep hb1 (Below.refl _ _).drew) hb2) hb3)
  have HW : Hid (ICell ((w3.setCell ⟨g + 1, 0, none⟩ (.bool (decide (zv na (val xs) < 0)))).setCell ⟨g + 1, 1, none⟩ (.slice mo ml mc)) (g + 1) (decide (zv na (val xs) < 0)) (.slice mo ml mc)) := hx3.2.write _ _
  clear hm hb2 hb3 hx3 x0 x1 f0 f1 c0 c1 HX na1 hb1 hsz
  go_wp2_with fail
  (try simp only [Exit.inBlock, Exit.then])
  exact bodyPost_ret (results_cell_row rfl _ _ (g + 1) 25 _ (0, 0) _ rfl HW.out Tryz.underlying25 rfl (by kernel_rfl)) rfl HE.out
open Go.RowKit
attribute [local go_sem ↓] Go.wp_at_zero Go.wp_at_succ

theorem wmul_any (na nb : Bool) (ao bo : Option Addr) (al ac bl_ bc : Nat) (xs ys : List Nat) (w : World) (ha : Num w (.slice ao al ac) xs) (hb : Num w (.slice bo bl_ bc) ys) (hlx : xs.length ≤ 1000000) (hly : ys.length ≤ 1000000) :
  Calls Tryz.prog 53 #[.agg #[.bool na, .slice ao al ac], .agg #[.bool nb, .slice bo bl_ bc]] w fun e w' => IntEnd w (zv na (val xs) * zv nb (val ys)) e w' := by
 obtain ⟨W1, hW1⟩ : ∃ W1, W1 = ((w.alloc (.cells #[.bool na, .slice ao al ac] 25)).alloc (.cells #[.bool nb, .slice bo bl_ bc] 25)).alloc (.cells #[.bool false, .slice none 0 0] 25) := ⟨_, rfl⟩
 have hx : Boxes W1 w.heap.size na nb (.slice ao al ac) (.slice bo bl_ bc) := by rw [hW1]; exact Boxes.new _ _ _ _ _
 have hb1 : Below w.heap.size w W1 := by rw [hW1]; exact bstep (bstep (belowA w _) (belowA _ _)) (belowA _ _)
 have hsz : w.heap.size + 1 + 1 < W1.heap.size := by rw [hW1]; simp
 have na1 := ha.below (Nat.le_refl _) hb1
 have nb1 := hb.below (Nat.le_refl _) hb1
 have HW1 : Hid (W1 = ((w.alloc (.cells #[.bool na, .slice ao al ac] 25)).alloc (.cells #[.bool nb, .slice bo bl_ bc] 25)).alloc (.cells #[.bool false, .slice none 0 0] 25)) := hW1
 clear hW1 ha hb
 obtain ⟨Z, hZ⟩ : ∃ Z, Z = zv na (val xs) * zv nb (val ys) := ⟨_, rfl⟩
 have HZ : Hid (zv (na != nb) (val xs * val ys) = Z) := by show _ = _; rw [hZ, zv_mul]
 rw [← hZ]
 clear hZ
 go_enter Tryz.func53, Tryz.ntmps53
 go_wp2_with fail
 rw [← HW1.out]
 obtain ⟨g, hg⟩ : ∃ g, g = w.heap.size := ⟨_, rfl⟩
 rw [← hg] at hx hsz ⊢
 have HG : Hid (g = w.heap.size) := hg
 obtain ⟨c0, c1⟩ := hx.1.cells
 obtain ⟨d0, d1⟩ := hx.2.1.cells
 have HX : Hid (Boxes W1 g na nb (.slice ao al ac) (.slice bo bl_ bc)) := hx
 obtain ⟨nn, hnn⟩ : ∃ nn, (!na == nb) = nn := ⟨_, rfl⟩
 have HN : Hid ((na != nb) = nn) := by show _ = _; rw [← hnn]; rfl
 clear hx hg
 have hne : ¬ g = g + 1 + 1 := by omega
 go_region_held3 (fun w' => w'.cell? ⟨g, 0, none⟩ = some (.bool na) ∧ w'.cell? ⟨g, 1, none⟩ = some (.slice ao al ac) ∧ w'.cell? ⟨g + 1, 0, none⟩ = some (.bool nb) ∧ w'.cell? ⟨g + 1, 1, none⟩ = some (.slice bo bl_ bc)) (((try dsimp only); go_split_ands; refine ⟨?_, ?_, ?_, ?_⟩ <;> first | exact keepB (by with_reducible assumption) (by with_reducible assumption) | exact keepS (by omega) (by with_reducible assumption) | go_keep)) (first
  | (go_at_call 87; refine (mul_any _ _ _ _ _ (na1.same (w' := W1.drew) rfl) (nb1.same (w' := W1.drew) rfl) (by omega) (by omega)).mono ?_; rintro e w2 ⟨m, rfl, hm, hb2⟩; obtain ⟨mo, ml, mc, rfl⟩ := hm.sl)
  | (go_at_call 68; refine (signed_any _ _ _ _ hm.num).mono ?_; rintro e w3 ⟨rfl, hb3⟩; rw [sign_eq]; have hx3 := ((show Boxes W1.drew g na nb (.slice ao al ac) (.slice bo bl_ bc) from HX.out).below hb2).below hb3; have x0 := hx3.2.2.cells.1; have x1 := hx3.2.2.cells.2; have f0 := hx3.2.2.thaw 0; have f1 := hx3.2.2.thaw 1))
 all_goals
  have HS : Hid (zv nn (val xs * val ys) = Z) := by show _ = _; rw [← HN.out]; exact HZ.out
  rw [HS.out]
  have HE : Hid (IntEnd w Z (.returned (.agg #[.bool (decide (Z < 0)), .slice mo ml mc])) ((w3.setCell ⟨g + 1 + 1, 0, none⟩ (.bool (decide (Z < 0)))).setCell ⟨g + 1 + 1, 1, none⟩ (.slice mo ml mc))) :=
   int_done (B := W1.drew.heap.size) rfl (by rw [HG.out]; omega) (by rw [← HS.out, zv_abs]; exact hm.below hb3) hsz (bstep (bstep (bstep hb1 (Below.refl _ _).drew) hb2) hb3)
  have HW : Hid (ICell ((w3.setCell ⟨g + 1 + 1, 0, none⟩ (.bool (decide (Z < 0)))).setCell ⟨g + 1 + 1, 1, none⟩ (.slice mo ml mc)) (g + 1 + 1) (decide (Z < 0)) (.slice mo ml mc)) := hx3.2.2.write _ _
  clear hm hb2 hb3 hx3 x0 x1 f0 f1 c0 c1 d0 d1 HX na1 nb1 hb1 hsz
  go_wp2_with fail
  (try simp only [Exit.inBlock, Exit.then])
  exact bodyPost_ret (results_cell_row rfl _ _ (g + 1 + 1) 25 _ (0, 0) _ rfl HW.out Tryz.underlying25 rfl (by kernel_rfl)) rfl HE.out
open Go.RowKit

def cmpZ (x y : Int) : Int := if x < y then -1 else if x = y then 0 else 1
theorem below_zv (neg : Bool) (n : Nat) : (neg && decide (0 < bl n)) = decide (zv neg n < 0) := by
 cases neg
 · simp [zv]
 ·
  by_cases h : n = 0
  · subst h; simp [zv, bl_zero]
  · rw [decide_eq_true (bl_pos.2 h), decide_eq_true (show zv true n < 0 by unfold zv; simp; omega)]; rfl
theorem cmp_neg {na nb : Bool} {x y : Nat} (ha : zv na x < 0) (hb : zv nb y < 0) : cmpN y x = cmpZ (zv na x) (zv nb y) := by
 cases na <;> cases nb <;> simp [zv] at ha hb ⊢ <;> try omega
 unfold cmpN cmpZ
 repeat' split
 all_goals omega
theorem cmp_pos {na nb : Bool} {x y : Nat} (ha : ¬ zv na x < 0) (hb : ¬ zv nb y < 0) : cmpN x y = cmpZ (zv na x) (zv nb y) := by
 have ea : zv na x = x := by cases na <;> simp [zv] at ha ⊢; omega
 have eb : zv nb y = y := by cases nb <;> simp [zv] at hb ⊢; omega
 rw [ea, eb]
 unfold cmpN cmpZ
 repeat' split
 all_goals omega
def Box2 (w : World) (g : Nat) (na nb : Bool) (ma mb : Value) : Prop := ICell w g na ma ∧ ICell w (g + 1) nb mb
theorem Box2.below {w w' : World} {g : Nat} {na nb : Bool} {ma mb : Value} (h : Box2 w g na nb ma mb) (hb : Below w.heap.size w w') : Box2 w' g na nb ma mb := ⟨h.1.below hb, h.2.below hb⟩
theorem Box2.new (w : World) (na nb : Bool) (ma mb : Value) : Box2 ((w.alloc (.cells #[.bool na, ma] 25)).alloc (.cells #[.bool nb, mb] 25)) w.heap.size na nb ma mb := by
 have h2 := ICell.new (w.alloc (.cells #[.bool na, ma] 25)) nb mb
 have h1 := (ICell.new w na ma).below (belowA _ (.cells #[.bool nb, mb] 25))
 rw [World.size_alloc] at h2
 exact ⟨h1, h2⟩
theorem wcmp_any (na nb : Bool) (ao bo : Option Addr) (al ac bl_ bc : Nat) (xs ys : List Nat) (w : World) (ha : Num w (.slice ao al ac) xs) (hb : Num w (.slice bo bl_ bc) ys) (hlx : xs.length ≤ 1000000) (hly : ys.length ≤ 1000000) :
  Calls Tryz.prog 58 #[.agg #[.bool na, .slice ao al ac], .agg #[.bool nb, .slice bo bl_ bc]] w fun e w' => e = .returned (.int .i64 (cmpZ (zv na (val xs)) (zv nb (val ys)))) ∧ Below w.heap.size w w' := by
 obtain ⟨W1, hW1⟩ : ∃ W1, W1 = (w.alloc (.cells #[.bool na, .slice ao al ac] 25)).alloc (.cells #[.bool nb, .slice bo bl_ bc] 25) := ⟨_, rfl⟩
 have hx : Box2 W1 w.heap.size na nb (.slice ao al ac) (.slice bo bl_ bc) := by rw [hW1]; exact Box2.new _ _ _ _ _
 have hb1 : Below w.heap.size w W1 := by rw [hW1]; exact bstep (belowA w _) (belowA _ _)
 have na1 := ha.below (Nat.le_refl _) hb1
 have nb1 := hb.below (Nat.le_refl _) hb1
 have HW1 : Hid (W1 = (w.alloc (.cells #[.bool na, .slice ao al ac] 25)).alloc (.cells #[.bool nb, .slice bo bl_ bc] 25)) := hW1
 clear hW1 ha hb
 obtain ⟨g, hg⟩ : ∃ g, g = w.heap.size := ⟨_, rfl⟩
 rw [← hg] at hx
 obtain ⟨Z, hZ⟩ : ∃ Z, Z = cmpZ (zv na (val xs)) (zv nb (val ys)) := ⟨_, rfl⟩
 have HZ : Hid (Z = cmpZ (zv na (val xs)) (zv nb (val ys))) := hZ
 rw [← hZ]
 clear hZ
 go_enter Tryz.func58, Tryz.ntmps58
 go_wp2_with fail
 rw [← HW1.out]
 rw [← hg]
 have HG : Hid (g = w.heap.size) := hg
 clear HW1 hg
 refine (below_any _ _ _ _ _ _ na1 hlx).mono ?_
 rintro e w2 ⟨rfl, hb2⟩
 rw [below_zv]
 replace hx := hx.below hb2
 replace na1 := na1.below (Nat.le_refl _) hb2
 replace nb1 := nb1.below (Nat.le_refl _) hb2
 replace hb1 := bstep hb1 hb2
 rw [← HG.out] at hb1
 clear hb2
 by_cases hA : zv na (val xs) < 0
 ·
  rw [decide_eq_true hA]
  obtain ⟨c0, c1⟩ := hx.1.cells
  obtain ⟨d0, d1⟩ := hx.2.cells
  go_wp2_with fail
  refine (below_any _ _ _ _ _ _ nb1 hly).mono ?_
  rintro e w3 ⟨rfl, hb2⟩
  rw [below_zv]
  replace hx := hx.below hb2
  replace na1 := na1.below (Nat.le_refl _) hb2
  replace nb1 := nb1.below (Nat.le_refl _) hb2
  have hb3 : Below g w w3 := by rw [HG.out] at hb1 ⊢; exact bstep hb1 hb2
  clear hb2 hb1 c0 c1 d0 d1
  obtain ⟨c0, c1⟩ := hx.1.cells
  obtain ⟨d0, d1⟩ := hx.2.cells
  by_cases hB : zv nb (val ys) < 0
  ·
   rw [decide_eq_true hB]
   have HC : Hid (cmpN (val ys) (val xs) = Z) := by show _ = _; rw [HZ.out, cmp_neg hA hB]
   go_wp2_with fail
   refine (cmp_any _ _ _ _ _ nb1 na1).mono ?_
   rintro e w4 ⟨rfl, kk, hk⟩
   rw [HC.out]
   have HE : Hid (Below w.heap.size w w4) := by rw [HG.out] at hb3; exact bstep hb3 (belowK hk)
   clear hk hb3 na1 nb1 hx c0 c1 d0 d1 hA hB
   go_wp2_with fail
   go_ret
   exact ⟨rfl, HE.out⟩
  ·
   rw [decide_eq_false hB]
   have HC : Hid (Z = -1) := by show _ = _; rw [HZ.out]; unfold cmpZ; rw [if_pos (by omega)]
   go_wp2_with fail
   refine (below_any _ _ _ _ _ _ na1 hlx).mono ?_
   rintro e w4 ⟨rfl, hb2⟩
   rw [below_zv, decide_eq_true (show zv na (val xs) < 0 by omega)]
   have HE : Hid (Below w.heap.size w w4) := by rw [HG.out] at hb3; exact bstep hb3 hb2
   clear hb2 hb3 na1 nb1 hx c0 c1 d0 d1 hA hB
   go_wp2_with fail
   go_ret
   exact ⟨by first | (rw [HC.out]; done) | (rw [HC.out]; rfl), HE.out⟩
 ·
  rw [decide_eq_false hA]
  obtain ⟨c0, c1⟩ := hx.1.cells
  obtain ⟨d0, d1⟩ := hx.2.cells
  go_wp2_with fail
  refine (below_any _ _ _ _ _ _ na1 hlx).mono ?_
  rintro e w3 ⟨rfl, hb2⟩
  rw [below_zv, decide_eq_false (show ¬ zv na (val xs) < 0 by omega)]
  replace hx := hx.below hb2
  replace na1 := na1.below (Nat.le_refl _) hb2
  replace nb1 := nb1.below (Nat.le_refl _) hb2
  have hb3 : Below g w w3 := by rw [HG.out] at hb1 ⊢; exact bstep hb1 hb2
  clear hb2 hb1 c0 c1 d0 d1
  obtain ⟨c0, c1⟩ := hx.1.cells
  obtain ⟨d0, d1⟩ := hx.2.cells
  go_wp2_with fail
  refine (below_any _ _ _ _ _ _ nb1 hly).mono ?_
  rintro e w4 ⟨rfl, hb2⟩
  rw [below_zv]
  replace hx := hx.below hb2
  replace na1 := na1.below (Nat.le_refl _) hb2
  replace nb1 := nb1.below (Nat.le_refl _) hb2
  have hb4 : Below g w w4 := by rw [HG.out] at hb3 ⊢; exact bstep hb3 hb2
  clear hb2 hb3 c0 c1 d0 d1
  obtain ⟨c0, c1⟩ := hx.1.cells
  obtain ⟨d0, d1⟩ := hx.2.cells
  by_cases hB : zv nb (val ys) < 0
  ·
   rw [decide_eq_true hB]
   have HC : Hid (Z = 1) := by show _ = _; rw [HZ.out]; unfold cmpZ; rw [if_neg (by omega), if_neg (by omega)]
   have HE : Hid (Below w.heap.size w w4) := by rw [HG.out] at hb4; exact hb4
   clear hb4 na1 nb1 hx c0 c1 d0 d1 hA hB
   go_wp2_with fail
   go_ret
   exact ⟨by first | (rw [HC.out]; done) | (rw [HC.out]; rfl), HE.out⟩
  ·
   rw [decide_eq_false hB]
   have HC : Hid (cmpN (val xs) (val ys) = Z) := by show _ = _; rw [HZ.out, cmp_pos (show ¬ zv na (val xs) < 0 by omega) (show ¬ zv nb (val ys) < 0 by omega)]
   go_wp2_with fail
   refine (cmp_any _ _ _ _ _ na1 nb1).mono ?_
   rintro e w5 ⟨rfl, kk, hk⟩
   rw [HC.out]
   have HE : Hid (Below w.heap.size w w5) := by rw [HG.out] at hb4; exact bstep hb4 (belowK hk)
   clear hk hb4 na1 nb1 hx c0 c1 d0 d1 hA hB
   go_wp2_with fail
   go_ret
   exact ⟨rfl, HE.out⟩
def INum (w : World) (v : Value) (z : Int) : Prop := ∃ neg ao n cap xs, v = .agg #[.bool neg, .slice ao n cap] ∧ Num w (.slice ao n cap) xs ∧ xs.length ≤ 1000000 ∧ zv neg (val xs) = z
def IOwn (B : Nat) (w : World) (v : Value) (z : Int) : Prop := ∃ m, v = .agg #[.bool (decide (z < 0)), m] ∧ Own B 37 w m (lim z.natAbs)
structure Sz (z : Int) (L : Nat) : Prop where
 lt : z.natAbs < 4294967296 ^ L
theorem Sz.mono {z : Int} {L M : Nat} (h : Sz z L) (hm : L ≤ M) : Sz z M := ⟨Nat.lt_of_lt_of_le h.lt (Nat.pow_le_pow_right (Nat.succ_pos _) hm)⟩
theorem Sz.len {z : Int} {L : Nat} (h : Sz z L) : (lim z.natAbs).length ≤ L := lim_len_le h.lt
theorem Sz.neg {z : Int} {L : Nat} (h : Sz z L) : Sz (-z) L := ⟨by rw [Int.natAbs_neg]; exact h.lt⟩
theorem Sz.mul {x y : Int} {L M : Nat} (hx : Sz x L) (hy : Sz y M) : Sz (x * y) (L + M) :=
 ⟨by rw [Int.natAbs_mul, Nat.pow_add]; exact Nat.mul_lt_mul'' hx.lt hy.lt⟩
theorem Sz.add {x y : Int} {L : Nat} (hx : Sz x L) (hy : Sz y L) : Sz (x + y) (L + 1) := ⟨by
 have h1 := hx.lt
 have h2 := hy.lt
 rw [Nat.pow_succ]
 have := Int.natAbs_add_le x y
 omega⟩
theorem Sz.sub {x y : Int} {L : Nat} (hx : Sz x L) (hy : Sz y L) : Sz (x - y) (L + 1) := by
 rw [Int.sub_eq_add_neg]; exact hx.add hy.neg
theorem Sz.le {x y : Int} {L : Nat} (hx : Sz x L) (h : y.natAbs ≤ x.natAbs) : Sz y L := ⟨Nat.lt_of_le_of_lt h hx.lt⟩
theorem Sz.one : Sz 1 1 := ⟨by decide⟩
theorem Sz.zero : Sz 0 1 := ⟨by decide⟩
theorem Sz.of_num {w : World} {v : Value} {xs : List Nat} {neg : Bool} {L : Nat} (h : Num w v xs) (hl : xs.length ≤ L) : Sz (zv neg (val xs)) L := ⟨by
 rw [zv_abs]
 exact Nat.lt_of_lt_of_le (val_lt h.1) (Nat.pow_le_pow_right (Nat.succ_pos _) hl)⟩
theorem zv_self (z : Int) : zv (decide (z < 0)) z.natAbs = z := by
 unfold zv
 by_cases h : z < 0
 · simp [h]; omega
 · simp [h]; omega
theorem INum.below {w w' : World} {v : Value} {z : Int} (h : INum w v z) (hb : Below w.heap.size w w') : INum w' v z := by
 obtain ⟨neg, ao, n, cap, xs, e, hn, hl, hz⟩ := h
 exact ⟨neg, ao, n, cap, xs, e, hn.below (Nat.le_refl _) hb, hl, hz⟩
theorem IOwn.num {B : Nat} {w : World} {v : Value} {z : Int} (h : IOwn B w v z) {L : Nat} (hs : Sz z L) (hL : L ≤ 1000000) : INum w v z := by
 obtain ⟨m, rfl, ho⟩ := h
 obtain ⟨ao, n, cap, rfl⟩ := ho.sl
 exact ⟨_, ao, n, cap, _, rfl, ho.num, Nat.le_trans hs.len hL, by rw [val_lim, zv_self]⟩
def IEnd (w : World) (z : Int) (e : Ending) (w' : World) : Prop := ∃ v, e = .returned v ∧ IOwn w.heap.size w' v z ∧ Below w.heap.size w w'
theorem IntEnd.i {w w' : World} {z : Int} {e : Ending} (h : IntEnd w z e w') : IEnd w z e w' := by
 obtain ⟨m, he, ho, hb⟩ := h
 exact ⟨_, he, ⟨m, rfl, ho⟩, hb⟩
theorem c_add {a b : Value} {x y : Int} {w : World} (ha : INum w a x) (hb : INum w b y) : Calls Tryz.prog 51 #[a, b] w fun e w' => IEnd w (x + y) e w' := by
 obtain ⟨na, ao, al, ac, xs, rfl, h1, h2, rfl⟩ := ha
 obtain ⟨nb, bo, bl_, bc, ys, rfl, k1, k2, rfl⟩ := hb
 exact (wadd_any _ _ _ _ _ _ _ _ _ _ _ h1 k1 h2 k2).mono fun _ _ h => h.i
theorem c_sub {a b : Value} {x y : Int} {w : World} (ha : INum w a x) (hb : INum w b y) : Calls Tryz.prog 106 #[a, b] w fun e w' => IEnd w (x - y) e w' := by
 obtain ⟨na, ao, al, ac, xs, rfl, h1, h2, rfl⟩ := ha
 obtain ⟨nb, bo, bl_, bc, ys, rfl, k1, k2, rfl⟩ := hb
 exact (wsub_any _ _ _ _ _ _ _ _ _ _ _ h1 k1 h2 k2).mono fun _ _ h => h.i
theorem c_mul {a b : Value} {x y : Int} {w : World} (ha : INum w a x) (hb : INum w b y) : Calls Tryz.prog 53 #[a, b] w fun e w' => IEnd w (x * y) e w' := by
 obtain ⟨na, ao, al, ac, xs, rfl, h1, h2, rfl⟩ := ha
 obtain ⟨nb, bo, bl_, bc, ys, rfl, k1, k2, rfl⟩ := hb
 exact (wmul_any _ _ _ _ _ _ _ _ _ _ _ h1 k1 h2 k2).mono fun _ _ h => h.i
theorem c_cmp {a b : Value} {x y : Int} {w : World} (ha : INum w a x) (hb : INum w b y) : Calls Tryz.prog 58 #[a, b] w fun e w' => e = .returned (.int .i64 (cmpZ x y)) ∧ Below w.heap.size w w' := by
 obtain ⟨na, ao, al, ac, xs, rfl, h1, h2, rfl⟩ := ha
 obtain ⟨nb, bo, bl_, bc, ys, rfl, k1, k2, rfl⟩ := hb
 exact wcmp_any _ _ _ _ _ _ _ _ _ _ _ h1 k1 h2 k2
theorem c_norm {a : Value} {x : Int} {w : World} (ha : INum w a x) : Calls Tryz.prog 30 #[a] w fun e w' => IEnd w x e w' := by
 obtain ⟨na, ao, al, ac, xs, rfl, h1, h2, rfl⟩ := ha
 exact (wnorm_any _ _ _ _ _ _ h1 h2).mono fun _ _ h => h.i
theorem c_of {n : Int} {w : World} (h1 : -9223372036854775808 ≤ n) (h2 : n ≤ 9223372036854775807) : Calls Tryz.prog 46 #[.int .i64 n] w fun e w' => IEnd w n e w' :=
 (wof_any n w h1 h2).mono fun _ _ h => h.i
theorem INum.nil (w : World) : INum w (.agg #[.bool false, .slice none 0 0]) 0 := ⟨false, none, 0, 0, [], rfl, Num.of_nil w, by simp, rfl⟩
open Go.RowKit
attribute [local go_sem ↓] Go.wp_at_zero Go.wp_at_succ

theorem icell_step {w : World} {o : Obj} {g : Nat} {neg : Bool} {m : Value} (h : ICell w g neg m) : ICell (w.alloc o) g neg m := h.below (belowA _ _)
theorem icell_new (w : World) {neg : Bool} {m : Value} {k : Nat} (hk : w.heap.size = k) : ICell (w.alloc (.cells #[.bool neg, m] 25)) k neg m := by subst hk; exact ICell.new w neg m
theorem INum.opp {w : World} {na : Bool} {m : Value} {x : Int} (h : INum w (.agg #[.bool na, m]) x) : INum w (.agg #[.bool (!na), m]) (-x) := by
 obtain ⟨neg, ao, n, cap, xs, e, h1, h2, rfl⟩ := h
 simp only [Value.agg.injEq, Array.mk.injEq, List.cons.injEq, Value.bool.injEq, and_true] at e
 obtain ⟨rfl, rfl⟩ := e
 exact ⟨_, _, _, _, _, rfl, h1, h2, by rw [zv_neg]⟩
theorem INum.abs {w : World} {na : Bool} {ao : Option Addr} {al ac : Nat} {x : Int} (h : INum w (.agg #[.bool na, .slice ao al ac]) x) : ∃ xs, Num w (.slice ao al ac) xs ∧ xs.length ≤ 1000000 ∧ val xs = x.natAbs ∧ zv na (val xs) = x := by
 obtain ⟨neg, ao', n, cap, xs, e, h1, h2, rfl⟩ := h
 simp only [Value.agg.injEq, Array.mk.injEq, List.cons.injEq, Value.bool.injEq, and_true, Value.slice.injEq] at e
 obtain ⟨rfl, rfl, rfl, rfl⟩ := e
 exact ⟨xs, h1, h2, (zv_abs _ _).symm, rfl⟩
theorem below_drew' (w : World) : Below w.heap.size w w.drew := (Below.refl _ _).drew
theorem c_sign {a : Value} {x : Int} {w : World} (ha : INum w a x) : Calls Tryz.prog 71 #[a] w fun e w' => e = .returned (.int .i64 (cmpZ x 0)) ∧ Below w.heap.size w w' := by
 obtain ⟨c, hc⟩ : ∃ c, c = cmpZ x 0 := ⟨_, rfl⟩
 have HC : Hid (c = cmpZ x 0) := hc
 rw [← hc]
 clear hc
 obtain ⟨na, ao, al, ac, xa, rfl, ua, la, za⟩ := ha
 have ha : INum w (.agg #[.bool na, .slice ao al ac]) x := ⟨_, _, _, _, _, rfl, ua, la, za⟩
 clear ua la za
 obtain ⟨W1, hW1⟩ : ∃ W1, W1 = w.alloc (.cells #[.bool na, .slice ao al ac] 25) := ⟨_, rfl⟩
 have q0 : ICell W1 (w.heap.size) na (.slice ao al ac) := by rw [hW1]; exact (icell_new _ (by simp))
 have hb : Below w.heap.size w W1 := by rw [hW1]; exact belowA w _
 have hsz : w.heap.size < W1.heap.size := by rw [hW1]; simp
 replace ha := ha.below hb
 have HW1 : Hid (W1 = w.alloc (.cells #[.bool na, .slice ao al ac] 25)) := hW1
 clear hW1
 go_enter Tryz.func71, Tryz.ntmps71
 go_wp2_with fail
 rw [← HW1.out]
 clear HW1
 obtain ⟨g, hg⟩ : ∃ g, g = w.heap.size := ⟨_, rfl⟩
 rw [← hg] at q0 hsz ⊢
 have HG : Hid (g = w.heap.size) := hg
 clear hg
 refine (c_cmp ha (INum.nil _)).mono ?_
 rintro e w2 ⟨rfl, hb2⟩
 have HE : Hid (Below w.heap.size w w2) := bstep hb hb2
 clear hb2 hb
 rw [← HC.out]
 go_wp2_with fail
 go_ret
 exact ⟨rfl, HE.out⟩
theorem c_neg {a : Value} {x : Int} {w : World} (ha : INum w a x) : Calls Tryz.prog 75 #[a] w fun e w' => IEnd w (-x) e w' := by
 obtain ⟨Z, hZ⟩ : ∃ Z, Z = -x := ⟨_, rfl⟩
 have HZ : Hid (-x = Z) := hZ.symm
 rw [← hZ]
 clear hZ
 obtain ⟨na, ao, al, ac, xa, rfl, ua, la, za⟩ := ha
 have ha : INum w (.agg #[.bool na, .slice ao al ac]) x := ⟨_, _, _, _, _, rfl, ua, la, za⟩
 clear ua la za
 obtain ⟨W1, hW1⟩ : ∃ W1, W1 = (w.alloc (.cells #[.bool na, .slice ao al ac] 25)).alloc (.cells #[.bool false, .slice none 0 0] 25) := ⟨_, rfl⟩
 have q0 : ICell W1 (w.heap.size) na (.slice ao al ac) := by rw [hW1]; exact (icell_step (icell_new _ (by simp)))
 have q1 : ICell W1 (w.heap.size + 1) false (.slice none 0 0) := by rw [hW1]; exact (icell_new _ (by simp))
 have hb : Below w.heap.size w W1 := by rw [hW1]; exact bstep (belowA w _) (belowA _ _)
 have hsz : w.heap.size + 1 < W1.heap.size := by rw [hW1]; simp
 replace ha := ha.below hb
 have HW1 : Hid (W1 = (w.alloc (.cells #[.bool na, .slice ao al ac] 25)).alloc (.cells #[.bool false, .slice none 0 0] 25)) := hW1
 clear hW1
 go_enter Tryz.func75, Tryz.ntmps75
 go_wp2_with fail
 rw [← HW1.out]
 clear HW1
 obtain ⟨g, hg⟩ : ∃ g, g = w.heap.size := ⟨_, rfl⟩
 rw [← hg] at q0 q1 hsz ⊢
 have HG : Hid (g = w.heap.size) := hg
 clear hg
 refine (opposite_any _ _ _ _ _).mono ?_
 rintro e w2 ⟨rfl, hb2⟩
 have hn := (ha.below hb2).opp
 rw [HZ.out] at hn
 replace hb := bstep hb hb2
 replace q1 := q1.below hb2
 replace hsz := Nat.lt_of_lt_of_le hsz hb2.size
 clear q0 hb2 ha
 generalize (!na) = nna at *
 go_wp2_with fail
 refine (c_norm hn).mono ?_
 rintro e w3 ⟨v, rfl, hv, hb3⟩
 replace q1 := q1.below hb3
 replace hb := bstep hb hb3
 clear hn
 obtain ⟨m, rfl, hm⟩ := hv
 obtain ⟨mo, ml, mc, rfl⟩ := hm.sl
 have HE : Hid (IEnd w (Z) (.returned (.agg #[.bool (decide (Z < 0)), .slice mo ml mc])) ((w3.setCell ⟨g + 1, 0, none⟩ (.bool (decide (Z < 0)))).setCell ⟨g + 1, 1, none⟩ (.slice mo ml mc))) := (int_done rfl (by rw [HG.out]; omega) hm hsz hb).i
 have HW : Hid (ICell ((w3.setCell ⟨g + 1, 0, none⟩ (.bool (decide (Z < 0)))).setCell ⟨g + 1, 1, none⟩ (.slice mo ml mc)) (g + 1) (decide (Z < 0)) (.slice mo ml mc)) := q1.write _ _
 obtain ⟨y0, y1⟩ := q1.cells
 have f0 := q1.thaw 0
 have f1 := q1.thaw 1
 generalize decide (Z < 0) = bb at *
 clear q1 hb hsz hm hb3
 go_wp2_with fail
 (try simp only [Exit.inBlock, Exit.then])
 exact bodyPost_ret (results_cell_row rfl _ _ (g + 1) 25 _ (0, 0) _ rfl HW.out Tryz.underlying25 rfl (by kernel_rfl)) rfl HE.out
open Go.RowKit
attribute [local go_sem ↓] Go.wp_at_zero Go.wp_at_succ

theorem results_cct {P : Program} {fn : Func} {p q u : Tmp} {ty : TypeId} (h : fn.results = #[.cell p ty, .cell q ty, .tmp u]) (tmps : Array Value) (w : World) (g g2 : Nat) (t t2 : TypeId) (cs cs2 : Array Value) (fr fr2 : Nat × Nat) (d : TypeDesc)
  (hp : tmps.getD p undef = .pointer (some ⟨g, 0, none⟩)) (hq : tmps.getD q undef = .pointer (some ⟨g2, 0, none⟩)) (hg : w.heap[g]? = some (.cells cs t fr)) (hg2 : w.heap[g2]? = some (.cells cs2 t2 fr2))
  (hu : P.underlying ty = some d) (hd : (match d with | .struct _ | .array _ _ => true | _ => false) = true) (hi : (P.info? ty).map (·.size) = some cs.size) (hi2 : (P.info? ty).map (·.size) = some cs2.size) :
  (results fn tmps).run P w = .ok (.tuple #[.agg cs, .agg cs2, tmps.getD u undef]) w := by
 have hp' : tmps[p]?.getD undef = .pointer (some ⟨g, 0, none⟩) := by simpa using hp
 have hq' : tmps[q]?.getD undef = .pointer (some ⟨g2, 0, none⟩) := by simpa using hq
 simp [results, h, hp', hq', asAddr, run_loadVar_row w g t ty cs fr d hg hu hd hi, run_loadVar_row w g2 t2 ty cs2 fr2 d hg2 hu hd hi2]
def rz (x y : Int) : Int := if y = 0 then 0 else x.tmod y
theorem zv_div (na nb : Bool) (x y : Nat) : zv (na != nb) (x / y) = (zv na x).tdiv (zv nb y) := by
 cases na <;> cases nb <;> simp [zv, Int.neg_tdiv, Int.tdiv_neg]
theorem zv_mod (na nb : Bool) (x y : Nat) (h : y ≠ 0) : zv na (modZ x y) = rz (zv na x) (zv nb y) := by
 unfold rz modZ
 have h2 : zv nb y ≠ 0 := by cases nb <;> simp [zv] <;> omega
 rw [if_neg h2]
 simp only [h, if_false]
 cases na <;> cases nb <;> simp [zv, Int.neg_tmod, Int.tmod_neg] <;> exact (Int.tmod_eq_emod_of_nonneg (by omega)).symm
def QEnd (w : World) (q r : Int) (er : Int) (e : Ending) (w' : World) : Prop :=
 ∃ mq mr, e = .returned (.tuple #[.agg #[.bool (decide (q < 0)), mq], .agg #[.bool (decide (r < 0)), mr], .int .i64 er]) ∧ Own w.heap.size 37 w' mq (lim q.natAbs) ∧ Own w.heap.size 37 w' mr (lim r.natAbs) ∧
  (mq.ownBlock = none ∨ mq.ownBlock ≠ mr.ownBlock) ∧ Below w.heap.size w w'
theorem own_far {B g g2 : Nat} {w : World} {m v0 v1 u0 u1 : Value} {xs : List Nat} (ho : Own B 37 w m xs) (hg : g < B) (hg2 : g2 < B) :
  Own B 37 ((((w.setCell ⟨g, 0, none⟩ v0).setCell ⟨g, 1, none⟩ v1).setCell ⟨g2, 0, none⟩ u0).setCell ⟨g2, 1, none⟩ u1) m xs := by
 have hne : ∀ k, k < B → m.ownBlock = none ∨ m.ownBlock ≠ some k := by
  intro k hk
  cases hm : m.ownBlock with
  | none => exact Or.inl rfl
  | some j =>
   right
   intro e
   rw [Option.some.injEq] at e
   have := (ho.block j hm).1
   omega
 exact (((ho.other v0 (hne g hg)).other v1 (hne g hg)).other u0 (hne g2 hg2)).other u1 (hne g2 hg2)
theorem below_far {w wr : World} {g g2 : Nat} {v0 v1 u0 u1 : Value} (hb : Below w.heap.size w wr) (hg : w.heap.size ≤ g) (hg2 : w.heap.size ≤ g2) :
  Below w.heap.size w ((((wr.setCell ⟨g, 0, none⟩ v0).setCell ⟨g, 1, none⟩ v1).setCell ⟨g2, 0, none⟩ u0).setCell ⟨g2, 1, none⟩ u1) :=
 (((hb.setCell (p := ⟨g, 0, none⟩) hg _).setCell (p := ⟨g, 1, none⟩) hg _).setCell (p := ⟨g2, 0, none⟩) hg2 _).setCell (p := ⟨g2, 1, none⟩) hg2 _
theorem quo_done {w wr : World} {B g g2 : Nat} {q r er : Int} {mq mr : Value} (hq : Own B 37 wr mq (lim q.natAbs)) (hr : Own B 37 wr mr (lim r.natAbs)) (hqr : mq.ownBlock = none ∨ mq.ownBlock ≠ mr.ownBlock)
  (hg : w.heap.size ≤ g) (hg2 : w.heap.size ≤ g2) (hgB : g < B) (hgB2 : g2 < B) (hb : Below w.heap.size w wr) {v0 v1 u0 u1 : Value} :
  QEnd w q r er (.returned (.tuple #[.agg #[.bool (decide (q < 0)), mq], .agg #[.bool (decide (r < 0)), mr], .int .i64 er])) ((((wr.setCell ⟨g, 0, none⟩ v0).setCell ⟨g, 1, none⟩ v1).setCell ⟨g2, 0, none⟩ u0).setCell ⟨g2, 1, none⟩ u1) :=
 ⟨mq, mr, rfl, (own_far hq hgB hgB2).mono (by omega), (own_far hr hgB hgB2).mono (by omega), hqr, below_far hb hg hg2⟩
theorem icell_two {w : World} {g g2 : Nat} {n1 n2 k1 k2 : Bool} {m1 m2 v1 v2 : Value} (h1 : ICell w g n1 m1) (h2 : ICell w g2 n2 m2) (hne : g ≠ g2) :
  ICell ((((w.setCell ⟨g, 0, none⟩ (.bool k1)).setCell ⟨g, 1, none⟩ v1).setCell ⟨g2, 0, none⟩ (.bool k2)).setCell ⟨g2, 1, none⟩ v2) g k1 v1 ∧
  ICell ((((w.setCell ⟨g, 0, none⟩ (.bool k1)).setCell ⟨g, 1, none⟩ v1).setCell ⟨g2, 0, none⟩ (.bool k2)).setCell ⟨g2, 1, none⟩ v2) g2 k2 v2 :=
 ⟨((h1.write k1 v1).other hne 0 _).other hne 1 _, ((h2.other (Ne.symm hne) 0 _).other (Ne.symm hne) 1 _).write k2 v2⟩
theorem c_quo {a b : Value} {x y : Int} {w : World} (ha : INum w a x) (hb' : INum w b y) : Calls Tryz.prog 84 #[a, b] w fun e w' => QEnd w (x.tdiv y) (rz x y) (errZ y.natAbs) e w' := by
 obtain ⟨na, ao, al, ac, xa, rfl, ua, la, za⟩ := ha
 have ha : INum w (.agg #[.bool na, .slice ao al ac]) x := ⟨_, _, _, _, _, rfl, ua, la, za⟩
 clear ua la za
 obtain ⟨nb, bo, bl, bc, xb, rfl, ub, lb, zb⟩ := hb'
 have hb' : INum w (.agg #[.bool nb, .slice bo bl bc]) y := ⟨_, _, _, _, _, rfl, ub, lb, zb⟩
 clear ub lb zb
 obtain ⟨W1, hW1⟩ : ∃ W1, W1 = (((w.alloc (.cells #[.bool na, .slice ao al ac] 25)).alloc (.cells #[.bool nb, .slice bo bl bc] 25)).alloc (.cells #[.bool false, .slice none 0 0] 25)).alloc (.cells #[.bool false, .slice none 0 0] 25) := ⟨_, rfl⟩
 have q0 : ICell W1 (w.heap.size) na (.slice ao al ac) := by rw [hW1]; exact (icell_step (icell_step (icell_step (icell_new _ (by simp)))))
 have q1 : ICell W1 (w.heap.size + 1) nb (.slice bo bl bc) := by rw [hW1]; exact (icell_step (icell_step (icell_new _ (by simp))))
 have q2 : ICell W1 (w.heap.size + 1 + 1) false (.slice none 0 0) := by rw [hW1]; exact (icell_step (icell_new _ (by simp)))
 have q3 : ICell W1 (w.heap.size + 1 + 1 + 1) false (.slice none 0 0) := by rw [hW1]; exact (icell_new _ (by simp))
 have hb : Below w.heap.size w W1 := by rw [hW1]; exact bstep (bstep (bstep (belowA w _) (belowA _ _)) (belowA _ _)) (belowA _ _)
 have hsz : w.heap.size + 1 + 1 + 1 < W1.heap.size := by rw [hW1]; simp
 replace ha := ha.below hb
 replace hb' := hb'.below hb
 have HW1 : Hid (W1 = (((w.alloc (.cells #[.bool na, .slice ao al ac] 25)).alloc (.cells #[.bool nb, .slice bo bl bc] 25)).alloc (.cells #[.bool false, .slice none 0 0] 25)).alloc (.cells #[.bool false, .slice none 0 0] 25)) := hW1
 clear hW1
 obtain ⟨xs, ux, lx, _, zx⟩ := ha.abs
 obtain ⟨ys, uy, ly, vy, zy⟩ := hb'.abs
 obtain ⟨c0, d0⟩ := q0.cells
 obtain ⟨c1, d1⟩ := q1.cells
 obtain ⟨Q, hQ⟩ : ∃ Q, Q = x.tdiv y := ⟨_, rfl⟩
 obtain ⟨R, hR⟩ : ∃ R, R = rz x y := ⟨_, rfl⟩
 have HQ : Hid (Q = x.tdiv y) := hQ
 have HR : Hid (R = rz x y) := hR
 rw [← hQ, ← hR]
 clear hQ hR
 obtain ⟨E, hE⟩ : ∃ E, E = errZ y.natAbs := ⟨_, rfl⟩
 have HEE : Hid (E = errZ y.natAbs) := hE
 rw [← hE]
 clear hE
 have HY : Hid (val ys = y.natAbs) := vy
 have HZX : Hid (zv na (val xs) = x) := zx
 have HZY : Hid (zv nb (val ys) = y) := zy
 clear vy zx zy
 go_enter Tryz.func84, Tryz.ntmps84
 go_wp2_with fail
 rw [← HW1.out]
 clear HW1
 obtain ⟨g, hg⟩ : ∃ g, g = w.heap.size := ⟨_, rfl⟩
 rw [← hg] at q0 q1 q2 q3 hsz ⊢
 have HG : Hid (g = w.heap.size) := hg
 clear hg
 refine (divMod_any _ _ _ _ _ ux uy (by omega)).mono ?_
 rintro e w2 ⟨q, r, rfl, hq, hr, hqr, hb2⟩
 obtain ⟨qo, ql, qc, rfl⟩ := hq.sl
 obtain ⟨ro, rl, rc, rfl⟩ := hr.sl
 rw [HY.out, ← HEE.out]
 replace q0 := q0.below hb2
 replace q1 := q1.below hb2
 replace q2 := q2.below hb2
 replace q3 := q3.below hb2
 replace hb := bstep hb hb2
 have HSZ : Hid (g + 1 + 1 + 1 < W1.heap.size) := hsz
 clear c0 d0 c1 d1 ux uy ha hb' hsz hb2
 obtain ⟨c0, d0⟩ := q0.cells
 obtain ⟨c1, d1⟩ := q1.cells
 obtain ⟨c2, d2⟩ := q2.cells
 obtain ⟨c3, d3⟩ := q3.cells
 have f20 := q2.thaw 0
 have f21 := q2.thaw 1
 have f30 := q3.thaw 0
 have f31 := q3.thaw 1
 by_cases hy : y.natAbs = 0
 ·
  have HZ0 : Hid (Q = 0 ∧ R = 0 ∧ E = 11) := by
   have h0 : y = 0 := by omega
   refine ⟨by rw [HQ.out, h0]; exact Int.tdiv_zero _, by rw [HR.out]; unfold rz; rw [if_pos h0], by rw [HEE.out, hy]; rfl⟩
  obtain ⟨hQ0, hR0, hE0⟩ := HZ0.out
  subst hQ0
  subst hR0
  subst hE0
  have HW := icell_two (k1 := false) (k2 := false) (v1 := .slice none 0 0) (v2 := .slice none 0 0) q2 q3 (by omega)
  have HW2 : Hid _ := HW
  have HE0 := quo_done (w := w) (q := 0) (r := 0) (er := 11) (B := W1.heap.size) (mq := .slice none 0 0) (mr := .slice none 0 0) (g := g + 1 + 1) (g2 := g + 1 + 1 + 1) (v0 := .bool false) (v1 := .slice none 0 0) (u0 := .bool false) (u1 := .slice none 0 0) (Own.of_nil _ _ _) (Own.of_nil _ _ _) (Or.inl rfl) (by rw [HG.out]; omega) (by rw [HG.out]; omega) (by have := HSZ.out; omega) HSZ.out hb
  rw [show decide ((0 : Int) < 0) = false from rfl] at HE0
  have HE : Hid _ := HE0
  clear HE0
  clear HW q0 q1 q2 q3 hb hq hr hqr hy c0 d0 c1 d1 HZ0
  go_wp2_with fail
  (try simp only [Exit.inBlock, Exit.then])
  exact bodyPost_ret (results_cct (p := 4) (q := 5) (u := 6) rfl _ _ (g + 1 + 1) (g + 1 + 1 + 1) 25 25 _ _ (0, 0) (0, 0) _ rfl rfl HW2.out.1 HW2.out.2 Tryz.underlying25 rfl (by kernel_rfl) (by kernel_rfl)) rfl HE.out
 ·
  have HZ1 : Hid (E = 0 ∧ zv (!na == nb) (x.natAbs / y.natAbs) = Q ∧ zv na (modZ x.natAbs y.natAbs) = R) := by
   have hxa : val xs = x.natAbs := by rw [← HZX.out, zv_abs]
   refine ⟨by rw [HEE.out]; unfold errZ; rw [if_neg hy], ?_, ?_⟩
   · rw [HQ.out, ← hxa, ← HY.out, ← HZX.out, ← HZY.out]; exact zv_div na nb _ _
   · rw [HR.out, ← hxa, ← HY.out, zv_mod na nb _ _ (by rw [HY.out]; exact hy), HZX.out, HZY.out]
  have hxa : val xs = x.natAbs := by rw [← HZX.out, zv_abs]
  rw [hxa, HY.out] at hq hr
  clear hxa
  obtain ⟨hE0, hQ1, hR1⟩ := HZ1.out
  subst hE0
  have HQ1 : Hid (zv (!na == nb) (x.natAbs / y.natAbs) = Q) := hQ1
  have HR1 : Hid (zv na (modZ x.natAbs y.natAbs) = R) := hR1
  clear hQ1 hR1 hy HZ1
  obtain ⟨nn, hnn⟩ : ∃ nn, (!na == nb) = nn := ⟨_, rfl⟩
  rw [hnn] at HQ1
  go_wp2_with fail
  have hne1 : ¬ g = g + 1 + 1 := by omega
  have hne2 : ¬ g = g + 1 + 1 + 1 := by omega
  have hne3 : ¬ g + 1 = g + 1 + 1 + 1 := by omega
  have HQR : Hid (ICell w2.drew (g + 1 + 1) false (.slice none 0 0) ∧ ICell w2.drew (g + 1 + 1 + 1) false (.slice none 0 0)) := ⟨q2, q3⟩
  clear q0 q1 q2 q3 c2 d2 c3 d3 f20 f21 f30 f31
  go_region_held3 (fun w' => w'.cell? ⟨g, 0, none⟩ = some (.bool na) ∧ w'.cell? ⟨g + 1, 0, none⟩ = some (.bool nb)) (((try dsimp only); go_split_ands; refine ⟨?_, ?_⟩ <;> first | exact keepB (by with_reducible assumption) (by with_reducible assumption) | exact keepS (by omega) (by with_reducible assumption) | go_keep)) (first
   | (go_at_call_of 68 qo; refine (signed_any _ _ _ _ (hq.num.same (w' := w2.drew) rfl)).mono ?_; rintro e w3 ⟨rfl, hb3⟩; rw [sign_eq, HQ1.out])
   | (go_at_call_of 68 ro; refine (signed_any _ _ _ _ ((hr.num.same (w' := w2.drew) rfl).below (Nat.le_refl _) hb3)).mono ?_; rintro e w4 ⟨rfl, hb4⟩; rw [sign_eq, HR1.out]; have q2' := (HQR.out.1.below hb3).below hb4; have q3' := (HQR.out.2.below hb3).below hb4; have y20 := q2'.cells.1; have y21 := q2'.cells.2; have y30 := q3'.cells.1; have y31 := q3'.cells.2; have f20 := q2'.thaw 0; have f21 := q2'.thaw 1; have f30 := q3'.thaw 0; have f31 := q3'.thaw 1))
  have HW := icell_two (k1 := decide (Q < 0)) (k2 := decide (R < 0)) (v1 := .slice qo ql qc) (v2 := .slice ro rl rc) q2' q3' (by omega)
  have HW2 : Hid _ := HW
  have HE : Hid (QEnd w Q R 0 _ _) := quo_done (w := w) (B := W1.heap.size) (q := Q) (r := R) (er := 0) (g := g + 1 + 1) (g2 := g + 1 + 1 + 1) (v0 := .bool (decide (Q < 0))) (v1 := .slice qo ql qc) (u0 := .bool (decide (R < 0))) (u1 := .slice ro rl rc) (((show Own W1.heap.size 37 w2.drew (.slice qo ql qc) (lim Q.natAbs) by rw [← HQ1.out, zv_abs]; exact hq.same rfl).below hb3).below hb4) (((show Own W1.heap.size 37 w2.drew (.slice ro rl rc) (lim R.natAbs) by rw [← HR1.out, zv_abs]; exact hr.same rfl).below hb3).below hb4) hqr (by rw [HG.out]; omega) (by rw [HG.out]; omega) (by have := HSZ.out; omega) HSZ.out (bstep (bstep (bstep hb (below_drew' _)) hb3) hb4)
  generalize decide (Q < 0) = bQ at *
  generalize decide (R < 0) = bR at *
  clear hq hr hqr hb3 hb4 hb HW q2' q3' y20 y21 y30 y31 f20 f21 f30 f31 c0 c1 d0 d1
  go_wp2_with fail
  (try simp only [Exit.inBlock, Exit.then])
  exact bodyPost_ret (results_cct (p := 4) (q := 5) (u := 6) rfl _ _ (g + 1 + 1) (g + 1 + 1 + 1) 25 25 _ _ (0, 0) (0, 0) _ rfl rfl HW2.out.1 HW2.out.2 Tryz.underlying25 rfl (by kernel_rfl) (by kernel_rfl)) rfl HE.out
end Go.Proofs.YtfnafgjnimfmjaaGreatDoor

/-
  Proved here: facts on rows of bytes of the call's own; what slices.Reverse does to one.
  Proved here: what Text answers.
-/
import Derived.Test.YtfnafgjnimfmjaaGreatDoorSubAll
import Derived.RegionTactic
import Derived.BigRegion
import Derived.Test.YtfnafgjnimfmjaaGreatDoorTrimLAll
import Derived.Test.YtfnafgjnimfmjaaGreatDoorValAtAll
import Derived.Laws.BytesArg
namespace Go.Proofs.YtfnafgjnimfmjaaGreatDoor
open Go.RowKit

def Y (x : Nat) : Value := .int .u8 (x : Int)
/-- Bytes in a row of the call's own. -/
def OwnY (B : Nat) (w : World) (v : Value) (ds : List Nat) : Prop := w.ownsRow B 5 1 v ds.length (ds.map Y)
theorem OwnY.heap {B g n cap : Nat} {w : World} {ds : List Nat} (h : OwnY B w (.slice (some ⟨g, 0, none⟩) n cap) ds) : B ≤ g ∧ n = ds.length ∧ ∃ cur, w.heap[g]? = some (.cells cur 5 (0, 0)) ∧ ds.length ≤ cap ∧ cur.size = cap ∧ cur.toList.take ds.length = ds.map Y := by
  rcases h.2 with ⟨h, _⟩ | ⟨g', cap', cur, h1, h3, h4, h5, h6, h7, h8⟩
  · simp at h
  · simp only [Value.slice.injEq, Option.some.injEq, Addr.mk.injEq, and_true] at h1
    obtain ⟨rfl, rfl, rfl⟩ := h1
    exact ⟨h3, rfl, cur, h4, h5, by simpa using h7, by simpa using h8⟩
theorem OwnY.cell {B g n cap : Nat} {w : World} {ds : List Nat} (h : OwnY B w (.slice (some ⟨g, 0, none⟩) n cap) ds) {k : Nat} (hk : k < ds.length) : w.cell? ⟨g, k, none⟩ = some (.int .u8 ((ds.getD k 0 : Nat) : Int)) ∧ w.frozen? ⟨g, k, none⟩ = false := by
  obtain ⟨_, hn, cur, h1, h2, h3, h4⟩ := h.heap
  refine ⟨?_, frozen_of_row w g k cur _ h1⟩
  rw [cell_of_row w g k cur _ _ h1]
  have h5 : cur.toList[k]? = (ds.map Y)[k]? := by rw [← h4, List.getElem?_take_of_lt hk]
  rw [Array.getElem?_toList] at h5
  rw [h5, List.getElem?_map, List.getElem?_eq_getElem hk, List.getD_eq_getElem?_getD, List.getElem?_eq_getElem hk]
  rfl
theorem OwnY.set {B g n cap : Nat} {w : World} {ds : List Nat} (h : OwnY B w (.slice (some ⟨g, 0, none⟩) n cap) ds) (hn : ds.length = n) (k x : Nat) : OwnY B (w.setCell ⟨g, k, none⟩ (Y x)) (.slice (some ⟨g, 0, none⟩) n cap) (ds.set k x) := by
  subst hn
  have := (World.ownsRow.stored h k (Y x)).1
  unfold OwnY
  rw [List.length_set, List.map_set]
  exact this
theorem OwnY.of_nil (B : Nat) (w : World) : OwnY B w (.slice none 0 0) [] := World.ownsRow_nil _ _ _ _
theorem OwnY.same {B : Nat} {w w' : World} {v : Value} {ds : List Nat} (h : OwnY B w v ds) (he : w'.heap = w.heap) : OwnY B w' v ds := by
  obtain ⟨h1, h2⟩ := h
  refine ⟨h1, ?_⟩
  rcases h2 with h2 | ⟨g', cap, cur, rfl, h3, h4, h5⟩
  · exact Or.inl h2
  · exact Or.inr ⟨g', cap, cur, rfl, h3, by rw [he]; exact h4, h5⟩
/-- A row of bytes stays where another row is written. -/
theorem OwnY.grown {B : Nat} {w w' : World} {v : Value} {ds : List Nat} {r : Option Nat} (h : OwnY B w v ds) (hg : w.grownBy w' r) (hne : v.ownBlock = none ∨ v.ownBlock ≠ r) : OwnY B w' v ds := by
  obtain ⟨h1, h2⟩ := h
  refine ⟨h1, ?_⟩
  rcases h2 with h2 | ⟨g', cap, cur, rfl, h3, h4, h5⟩
  · exact Or.inl h2
  · refine Or.inr ⟨g', cap, cur, rfl, h3, ?_, h5⟩
    rw [hg.block g' (Array.getElem?_eq_some_iff.1 h4).1 (hne.elim (fun h => absurd h (by simp [Value.ownBlock])) (fun h => h))]
    exact h4
theorem Own.grown {B e : Nat} {w w' : World} {v : Value} {xs : List Nat} {r : Option Nat} (h : Own B e w v xs) (hg : w.grownBy w' r) (hne : v.ownBlock = none ∨ v.ownBlock ≠ r) : Own B e w' v xs := by
  obtain ⟨h0, h1, h2⟩ := h
  refine ⟨h0, h1, ?_⟩
  rcases h2 with h2 | ⟨g', cap, cur, rfl, h3, h4, h5⟩
  · exact Or.inl h2
  · refine Or.inr ⟨g', cap, cur, rfl, h3, ?_, h5⟩
    rw [hg.block g' (Array.getElem?_eq_some_iff.1 h4).1 (hne.elim (fun h => absurd h (by simp [Value.ownBlock])) (fun h => h))]
    exact h4
theorem push_ownY {B : Nat} {w w' wr : World} {v v' : Value} {ds : List Nat} {d : Nat} {o : Obj} (hv : OwnY B wr v ds) (hbel : Below B w wr) (hB : B ≤ wr.heap.size)
    (ho : w'.ownsRow B 5 1 v' (ds.length + 1) (ds.map Y ++ [Y d])) (hg : (wr.alloc o).grownBy w' v.ownBlock) :
    OwnY B w' v' (ds ++ [d]) ∧ Below B w w' ∧ B ≤ w'.heap.size := by
  have hsz : (wr.alloc o).heap.size = wr.heap.size + 1 := by simp
  have hbel2 : Below B (wr.alloc o) w' := below_of_grown hg (by omega) (fun g e => (World.ownsRow.lt hv g e).1)
  refine ⟨?_, (hbel.alloc hB o).trans hbel2, by have := hbel2.size; omega⟩
  unfold OwnY
  rw [List.length_append, List.map_append]
  exact ho

theorem getD_rev {ds : List Nat} {q : Nat} (h : q < ds.length) : ds.reverse.getD q 0 = ds.getD (ds.length - 1 - q) 0 := by
  rw [List.getD_eq_getElem?_getD, List.getElem?_reverse h, ← List.getD_eq_getElem?_getD]
theorem ext_getD {a b : List Nat} (hl : a.length = b.length) (h : ∀ q, q < a.length → a.getD q 0 = b.getD q 0) : a = b := by
  apply List.ext_getElem hl
  intro j h1 h2
  have := h j h1
  rw [List.getD_eq_getElem?_getD, List.getElem?_eq_getElem h1, List.getD_eq_getElem?_getD, List.getElem?_eq_getElem h2] at this
  simpa using this
/-- What Reverse leaves. -/
def RevEnd (B : Nat) (w : World) (g n cap : Nat) (ds : List Nat) (e : Ending) (w' : World) : Prop :=
  e = .returned (.tuple #[]) ∧ OwnY B w' (.slice (some ⟨g, 0, none⟩) n cap) ds.reverse ∧ w.grownBy w' (some g)
theorem grownBy_set' {w0 w : World} {g : Nat} (h : w0.grownBy w (some g)) (k : Nat) (u : Value) : w0.grownBy (w.setCell ⟨g, k, none⟩ u) (some g) :=
  ⟨h.os, h.tape, h.output, by simp [World.setCell]; exact h.size, fun j hj hne => by
    rw [heap_setCell_other]
    · exact h.block j hj hne
    · intro e; exact hne (by rw [e])⟩

set_option maxRecDepth 100000 in
set_option maxHeartbeats 3200000 in
theorem reverse_any (B g n cap : Nat) (ds : List Nat) (w : World) (h : OwnY B w (.slice (some ⟨g, 0, none⟩) n cap) ds) (hn : ds.length = n) (hnc : n ≤ cap) (hcm : cap ≤ 9223372036854775807) :
    Calls Tryz.prog 92 #[.slice (some ⟨g, 0, none⟩) n cap] w fun e w' => RevEnd B w g n cap ds e w' := by
  have HN : Hid (ds.length = n) := hn
  have HO : Hid (OwnY B w (.slice (some ⟨g, 0, none⟩) n cap) ds) := h
  clear hn h
  go_enter Tryz.func92, Tryz.ntmps92
  go_wp2
  go_loopw [2, 3] (fun iv jv wr => ∃ (i : Nat) (ys : List Nat), 2 * i ≤ n + 1 ∧ i ≤ n ∧ iv = .int .i64 i ∧ jv = .int .i64 ((n : Int) - 1 - i) ∧ ys.length = n ∧ OwnY B wr (.slice (some ⟨g, 0, none⟩) n cap) ys ∧ w.grownBy wr (some g) ∧ ∀ q, q < n → ys.getD q 0 = if q < i ∨ n < q + i + 1 then ds.getD (n - 1 - q) 0 else ds.getD q 0) (fun iv _ _ => n - (intOf iv).toNat)
  case atStart => exact ⟨0, ds, by omega, by omega, rfl, by go_num, HN.out, HO.out, World.grownBy.refl _ _, fun q hq => by rw [if_neg (by omega)]⟩
  case round =>
    clear HO
    obtain ⟨i, ys, hi2, hin, rfl, rfl, hyl, how, hgr, hinv⟩ := hrel
    have HY : Hid (ys.length = n) := hyl
    have HI : Hid (∀ q, q < n → ys.getD q 0 = if q < i ∨ n < q + i + 1 then ds.getD (n - 1 - q) 0 else ds.getD q 0) := hinv
    clear hyl hinv
    by_cases hlt : i + i + 1 < n
    · obtain ⟨j, hj⟩ : ∃ j, n = i + j + 1 := ⟨n - 1 - i, by omega⟩
      have ej : (n : Int) - 1 - (i : Int) = (j : Int) := by omega
      rw [ej]
      have hij : (i : Int) < (j : Int) := by omega
      have hin' : (i : Int) < (n : Int) := by omega
      have hjn' : (j : Int) < (n : Int) := by omega
      obtain ⟨ci, hfi⟩ := how.cell (k := i) (by rw [HY.out]; omega)
      obtain ⟨cj, hfj⟩ := how.cell (k := j) (by rw [HY.out]; omega)
      obtain ⟨x, hx⟩ : ∃ x, x = ys.getD i 0 := ⟨_, rfl⟩
      obtain ⟨y, hy⟩ : ∃ y, y = ys.getD j 0 := ⟨_, rfl⟩
      rw [← hx] at ci
      rw [← hy] at cj
      have HX : Hid (x = ys.getD i 0) := hx
      have HYY : Hid (y = ys.getD j 0) := hy
      have HJ : Hid (n = i + j + 1) := hj
      clear hx hy hj ej
      have hset1 := how.set HY.out i y
      have hset2 := hset1.set (by rw [List.length_set]; exact HY.out) j x
      have hgr2 := grownBy_set' (grownBy_set' hgr i (Y y)) j (Y x)
      rw [show Y y = .int .u8 (y : Int) from rfl, show Y x = .int .u8 (x : Int) from rfl] at hset2 hgr2
      clear hset1 how hgr
      go_wp2
      go_region
      go_wp2
      go_roundw
      case rel =>
        have hb := (Below.refl 0 ((wr.setCell ⟨g, i, none⟩ (.int .u8 (y : Int))).setCell ⟨g, j, none⟩ (.int .u8 (x : Int)))).drew
        have hJ := HJ.out
        refine ⟨i + 1, (ys.set i y).set j x, by omega, by omega, by go_num, by congr 1; omega, by rw [List.length_set, List.length_set]; exact HY.out, hset2.same rfl, ⟨hb.os.trans hgr2.os, hb.tape.trans hgr2.tape, hb.output.trans hgr2.output, hgr2.size, hgr2.block⟩, fun q hq => ?_⟩
        have hI := HI.out
        by_cases hqj : q = j
        · subst hqj
          rw [getD_set_eq _ _ _ (by rw [List.length_set, HY.out]; exact hq), HX.out, hI i (by omega), if_neg (by omega), if_pos (by omega)]
          congr 1; omega
        · rw [getD_set_off _ _ _ _ hqj]
          by_cases hqi : q = i
          · subst hqi
            rw [getD_set_eq _ _ _ (by rw [HY.out]; exact hq), HYY.out, hI j (by omega), if_neg (by omega), if_pos (by omega)]
            congr 1; omega
          · rw [getD_set_off _ _ _ _ hqi, hI q hq]
            by_cases hc : q < i ∨ n < q + i + 1
            · rw [if_pos hc, if_pos (by omega)]
            · rw [if_neg hc, if_neg (by omega)]
      case measure => simp [intOf]; have := HJ.out; omega
    · have hlt' : ¬ (i : Int) < (n : Int) - 1 - (i : Int) := by omega
      have HE : Hid (RevEnd B w g n cap ds (.returned (.tuple #[])) wr) := by
        refine ⟨rfl, ?_, hgr⟩
        have : ys = ds.reverse := by
          apply ext_getD (by rw [List.length_reverse, HN.out, HY.out])
          intro q hq
          rw [HY.out] at hq
          rw [HI.out q hq, getD_rev (by rw [HN.out]; exact hq), HN.out]
          by_cases hc : q < i ∨ n < q + i + 1
          · rw [if_pos hc]
          · rw [if_neg hc]; congr 1; omega
        rw [← this]; exact how
      clear how hgr
      go_wp2
      go_end0
      exact HE.out
end Go.Proofs.YtfnafgjnimfmjaaGreatDoor

namespace Go.Proofs.YtfnafgjnimfmjaaGreatDoor
open Go.RowKit

/-- The bytes of some digits. -/
def chars (ds : List Nat) : List Nat := ds.map (48 + ·)
theorem chars_len (ds : List Nat) : (chars ds).length = ds.length := by simp [chars]
theorem chars_append (a b : List Nat) : chars (a ++ b) = chars a ++ chars b := by simp [chars]
theorem chars_rev (a : List Nat) : (chars a).reverse = chars a.reverse := by simp [chars]
theorem Tryz.infoY : (Tryz.prog.info? 5).map (fun i => (i.zero, i.size, i.bytes)) = some (some (.int .u8 0), 1, 1) := by kernel_rfl
/-- How a number is written, in bytes. -/
def txt (n : Nat) : ByteArray := strOfNums ((chars (wri n)).map fun (x : Nat) => (x : Int))
theorem dig_lt {ds : List Nat} {v N L : Nat} (h : dval ds + 10 ^ ds.length * v = N) (hv : v ≠ 0) (hN : N < 4294967296 ^ L) : ds.length ≤ 32 * L := by
  rcases Nat.lt_or_ge (32 * L) ds.length with h1 | h1
  · have h2 : 10 ^ ds.length ≤ 10 ^ ds.length * v := Nat.le_mul_of_pos_right _ (by omega)
    have h3 : 2 ^ (32 * L) ≤ 10 ^ ds.length := Nat.le_trans (Nat.pow_le_pow_right (by decide) (Nat.le_of_lt h1)) (Nat.pow_le_pow_left (by decide) _)
    rw [Nat.pow_mul] at h3
    have h4 : (2 ^ 32) ^ L = 4294967296 ^ L := rfl
    omega
  · exact h1
theorem chunk_step {ds : List Nat} {k c A : Nat} (h : dval ds + 10 ^ ds.length * c = A) (hk : ds.length = k) : dval (ds ++ [c % 10]) + 10 ^ (k + 1) * (c / 10) = A := by
  rw [dval_append, hk]
  simp only [dval, Nat.mul_zero, Nat.add_zero]
  rw [hk] at h
  rw [Nat.pow_succ, ← h, Nat.mul_assoc, Nat.add_assoc, ← Nat.mul_add]
  congr 2; omega

theorem str_bt {ds : List Nat} (hd : decs ds) {S : ByteArray} (hS : S = strOfNums ((chars ds).map fun (x : Nat) => (x : Int))) {i : Nat} (hi : i < ds.length) : bt S i = 48 + ds.getD i 0 := by
  unfold bt
  rw [hS, strOfNums_data, List.map_map, List.getD_eq_getElem?_getD, List.getElem?_map, chars, List.getElem?_map, List.getElem?_eq_getElem hi, List.getD_eq_getElem?_getD, List.getElem?_eq_getElem hi]
  have := hd _ (List.getElem_mem hi)
  simp
  omega
theorem bytes_ext {a b : ByteArray} (h : a.data.toList = b.data.toList) : a = b := by
  cases a; cases b; simp at h; rw [h]
theorem txt_trim {ds : List Nat} {N k : Nat} {S r : ByteArray} (hd : decs ds) (hv : dval ds = N) (hN : N ≠ 0) (hS : S = strOfNums ((chars ds.reverse).map fun (x : Nat) => (x : Int)))
    (hk : k ≤ S.size) (hr : r.data.toList = S.data.toList.drop k) (hz : ∀ j, j < k → bt S j = 48) (hnz : k < S.size → bt S k ≠ 48) : r = txt N := by
  have hsz : S.size = ds.reverse.length := by rw [hS, strOfNums_size, List.length_map, chars_len]
  have hz' : ∀ j, j < k → ds.reverse.getD j 0 = 0 := fun j hj => by
    have h1 := hz j hj
    rw [str_bt (decs_rev hd) hS (by omega)] at h1
    omega
  have hbv : bval ds.reverse = N := by unfold bval; rw [List.reverse_reverse]; exact hv
  have hkl : k < ds.reverse.length := by
    rcases Nat.lt_or_ge k ds.reverse.length with h | h
    · exact h
    · exfalso
      apply hN
      rw [← hv]
      apply dval_zeros
      intro x hx
      obtain ⟨j, hj, rfl⟩ := List.getElem_of_mem (List.mem_reverse.2 hx)
      have := hz' j (by omega)
      rw [List.getD_eq_getElem?_getD, List.getElem?_eq_getElem hj] at this
      simpa using this
  have hw : wri N = ds.reverse.drop k := by
    rw [← hbv]
    refine wri_drop (decs_rev hd) hkl hz' (Or.inl fun h0 => ?_)
    have h1 := hnz (by omega)
    rw [str_bt (decs_rev hd) hS hkl, h0] at h1
    exact h1 rfl
  apply bytes_ext
  rw [hr, hS, strOfNums_data]
  unfold txt
  rw [strOfNums_data, hw]
  simp only [chars, List.map_drop]

set_option maxRecDepth 100000 in
set_option maxHeartbeats 6400000 in
theorem text_any (u : Value) (xs : List Nat) (w : World) (h : Num w u xs) (hlen : xs.length ≤ 1000000) :
    Calls Tryz.prog 57 #[u] w fun e w' => e = .returned (.string (txt (val xs))) ∧ Below w.heap.size w w' := by
  obtain ⟨iY, hiY, hzY0, hzY1, hzY2⟩ := info_parts Tryz.infoY
  obtain ⟨N, hN⟩ : ∃ N, N = val xs := ⟨_, rfl⟩
  have HNL : Hid (N < 4294967296 ^ xs.length) := by rw [hN]; exact val_lt h.1
  have hll : (lim N).length ≤ 1000000 := by have := lim_short h; rw [← hN] at this; omega
  rw [← hN]
  go_enter Tryz.func57, Tryz.ntmps57
  go_wp2_with fail
  refine (norm_any _ _ _ h (by omega)).mono ?_
  rintro e w1 ⟨r, rfl, hor, hb1⟩
  rw [← hN] at hor
  clear h hN
  obtain ⟨ro, rc, rfl, hro, hrl, hrm⟩ := hor.ao
  by_cases hN0 : N = 0
  · have hl0 : (lim N).length = 0 := by rw [hN0]; rfl
    rw [hl0] at hor ⊢
    have HE : Hid ((.returned (.string ⟨#[48]⟩) : Ending) = .returned (.string (txt N)) ∧ Below w.heap.size w w1) := ⟨by rw [hN0]; rfl, hb1⟩
    clear hor hb1 hro hl0 hN0
    go_wp2_with fail
    go_ret
    exact HE.out
  · obtain ⟨n0, hn0⟩ : ∃ n0, n0 = (lim N).length := ⟨_, rfl⟩
    rw [← hn0] at hor hro hrl hll ⊢
    have hnn : ¬ (n0 : Int) = 0 := by
      intro h0
      apply hN0
      rw [← val_lim N, List.length_eq_zero_iff.1 (show (lim N).length = 0 by omega)]; rfl
    have HB1 : Hid (Below w.heap.size w w1) := hb1
    have HO0 : Hid (Own w.heap.size 37 w1 (.slice ro n0 rc) (lim N)) := hor
    have HN0 : Hid (N ≠ 0) := hN0
    clear hor hb1 hN0 hro hn0
    go_wp2_with fail
    go_loopw [3, 4] (fun rv dv wr => ∃ (v : Nat) (ds : List Nat), Own w.heap.size 37 wr rv (lim v) ∧ v ≤ N ∧ OwnY w.heap.size wr dv (chars ds) ∧ decs ds ∧ dval ds + 10 ^ ds.length * v = N ∧ ds.length ≤ 32 * xs.length + 9 ∧ Below w.heap.size w wr) (fun rv _ wr => valAt wr rv)
    case atStart => exact ⟨N, [], HO0.out, Nat.le_refl _, OwnY.of_nil _ _, fun x hx => by simp at hx, by simp [dval], by simp, HB1.out⟩
    case round =>
      clear HO0 HB1 hnn
      obtain ⟨v, ds, how, hvN, hoy, hdd, hsum, hdl, hbel⟩ := hrel
      have HD : Hid (decs ds) := hdd
      have HS : Hid (dval ds + 10 ^ ds.length * v = N) := hsum
      clear hdd hsum
      obtain ⟨ao, cap, rfl, hao, hlc, hcm⟩ := how.ao
      have HM : Hid (valAt wr (.slice ao (lim v).length cap) = v) := by show _ = _; rw [valAt_eq how.num, val_lim]
      obtain ⟨n, hn⟩ : ∃ n, n = (lim v).length := ⟨_, rfl⟩
      rw [← hn] at how hao hlc HM ⊢
      have HN : Hid (n = (lim v).length) := hn
      have hbw : w.heap.size ≤ wr.heap.size := hbel.size
      clear hn
      by_cases hn0 : 0 < n
      · have hn0' : (0 : Int) < (n : Int) := by omega
        obtain ⟨g, rfl⟩ := hao hn0
        have hv0 : v ≠ 0 := by intro h0; rw [h0] at HN; have := HN.out; simp [lim_zero] at this; omega
        have hdl2 : ds.length ≤ 32 * xs.length := dig_lt HS.out hv0 HNL.out
        have hne : u4.ownBlock = none ∨ u4.ownBlock ≠ some g := own_types hoy how.2 (by decide)
        have HDIV := divideBy_any (lim v) w.heap.size g n cap 1000000000 wr how HN.out.symm hlc hcm (by omega) (by omega)
        rw [show (1000000000 : Int).toNat = 1000000000 from rfl] at HDIV
        have HDV : Hid (Calls Tryz.prog 91 #[.slice (some ⟨g, 0, none⟩) n cap, .int .u32 1000000000] wr fun e w' => ByEnd w.heap.size wr g cap (lim v) 1000000000 e w') := HDIV
        clear HDIV
        go_wp2_with fail
        refine HDV.out.mono ?_
        rintro e w2 ⟨ys, rfl, hyl, hoy2, hvy, hg2⟩
        rw [val_lim] at hvy ⊢
        obtain ⟨c0, hc0⟩ : ∃ c0, c0 = v % 1000000000 := ⟨_, rfl⟩
        rw [← hc0]
        have HC0 : Hid (c0 = v % 1000000000) := hc0
        clear hc0
        have hoyd : OwnY w.heap.size w2 u4 (chars ds) := hoy.grown hg2 hne
        have hbel2 : Below w.heap.size w w2 := hbel.grown hg2 hbw (by intro x hx; rw [Option.some.injEq] at hx; rw [← hx]; exact hoy2.heap.1)
        rw [← HN.out] at hoy2
        clear HDV how hoy hbel hg2
        go_wp2_with fail
        refine (trim_any _ _ _ hoy2.num).mono ?_
        rintro e w3 ⟨⟨k, hk, hkt, rfl⟩, rfl⟩
        have hok := hoy2.cut hk
        rw [hkt, hvy] at hok
        simp only [cutTo] at hok ⊢
        obtain ⟨v2, hv2⟩ : ∃ v2, v2 = v / 1000000000 := ⟨_, rfl⟩
        rw [← hv2] at hok
        have hc0 := HC0.out
        have hc9 : c0 < 1000000000 := by omega
        have HV : Hid (v = c0 + 1000000000 * v2) := by show _ = _; omega
        have hv2v : v2 < v := by omega
        have HST : Hid (OwnY w.heap.size w3 u4 (chars ds) ∧ Own w.heap.size 37 w3 (.slice (some ⟨g, 0, none⟩) k cap) (lim v2) ∧ Below w.heap.size w w3) := ⟨hoyd, hok, hbel2⟩
        have HC9 : Hid (c0 < 1000000000) := hc9
        clear hoyd hok hbel2 hoy2 hvy hyl hkt hk hc0 hv2 hbw hne
        go_wp2_with fail
        go_loopw [4, 5, 18] (fun dv cv t wq => ∃ (i c : Nat) (d2 : List Nat), i ≤ 9 ∧ t = .int .i64 i ∧ cv = .int .u32 c ∧ c < 10 ^ (9 - i) ∧ OwnY w.heap.size wq dv (chars d2) ∧ decs d2 ∧ d2.length = ds.length + i ∧ dval d2 + 10 ^ d2.length * c = dval ds + 10 ^ ds.length * c0 ∧ Own w.heap.size 37 wq (.slice (some ⟨g, 0, none⟩) k cap) (lim v2) ∧ Below w.heap.size w wq) (fun _ _ t _ => 9 - (intOf t).toNat)
        case atStart => exact ⟨0, c0, ds, by omega, rfl, rfl, HC9.out, HST.out.1, HD.out, by omega, rfl, HST.out.2.1, HST.out.2.2⟩
        case round =>
          clear HST HC9
          obtain ⟨i, c, d2, hi, rfl, rfl, hc10, hoyq, hd2, hl2, hs2, horq, hbelq⟩ := hrel
          have HD2 : Hid (decs d2) := hd2
          have HL2 : Hid (d2.length = ds.length + i) := hl2
          have HS2 : Hid (dval d2 + 10 ^ d2.length * c = dval ds + 10 ^ ds.length * c0) := hs2
          have HC10 : Hid (c < 10 ^ (9 - i)) := hc10
          have hc32 : c < 4294967296 := by
            have : 10 ^ (9 - i) ≤ 10 ^ 9 := ten_le (by omega)
            omega
          have hbw : w.heap.size ≤ wr.heap.size := hbelq.size
          clear hd2 hl2 hs2 hc10
          by_cases hi9 : i < 9
          · have hi9' : (i : Int) < 9 := by omega
            obtain ⟨m, hm⟩ : ∃ m, m = (chars d2).length := ⟨_, rfl⟩
            have hmb : m ≤ 40000000 := by rw [hm, chars_len, HL2.out]; omega
            obtain ⟨r, hr⟩ : ∃ r, r = c % 10 := ⟨_, rfl⟩
            have er : (c : Int) % 10 = (r : Int) := by omega
            have hr9 : r ≤ 9 := by omega
            obtain ⟨q, hq⟩ : ∃ q, q = c / 10 := ⟨_, rfl⟩
            have eq : (c : Int) / 10 = (q : Int) := by omega
            have HR : Hid (r = c % 10 ∧ q = c / 10) := ⟨hr, hq⟩
            have HO : Hid (wr.ownsRow w.heap.size 5 1 u4 m ((chars d2).map Y)) := by show _; rw [hm]; exact hoyq
            have HMM : Hid (m = (chars d2).length) := hm
            clear hm hr hq
            have hB3 : w.heap.size ≤ (wr.alloc (.cells #[.int .u8 (48 + (r : Int))] 5)).heap.size := by simp; omega
            go_wp2_with (at_builtin; refine wpList_push _ rfl _ _ 102 rfl w.heap.size 5 iY (.int .u8 0) 1 Tryz.underlying102 hiY hzY0 hzY1 hzY2 rfl _ m ((chars d2).map Y) rfl (HO.out.alloc _) ⟨wr.heap.size, 0, none⟩ 1 1 [.int .u8 (48 + (r : Int))] rfl rfl (cell_one_new _ _ _) (fun u hu => by simp at hu; subst hu; rfl) (by decide) (by unfold maxLen; omega) (by omega) hB3 ?_)
            intro v' w5 ho hgr _ _
            have hne4 : (Value.slice (some ⟨g, 0, none⟩) k cap).ownBlock = none ∨ (Value.slice (some ⟨g, 0, none⟩) k cap).ownBlock ≠ u4.ownBlock := own_types horq.2 hoyq (by decide)
            have R := push_ownY (d := 48 + r) hoyq hbelq hbw (by rw [← HMM.out, show Y (48 + r) = .int .u8 (48 + (r : Int)) by unfold Y; congr 1]; exact ho) hgr
            have hor5 : Own w.heap.size 37 w5 (.slice (some ⟨g, 0, none⟩) k cap) (lim v2) := (horq.alloc _).grown hgr hne4
            clear ho hgr hoyq hbelq hbw HO hB3 horq hne4
            go_wp2
            go_roundw
            case rel =>
              have hR := HR.out
              refine ⟨i + 1, q, d2 ++ [r], by omega, by go_num, rfl, ?_, by rw [chars_append]; exact R.1, ?_, by rw [List.length_append, HL2.out]; rfl, ?_, hor5, R.2.1⟩
              · have h1 := HC10.out
                rw [show 9 - i = (9 - (i + 1)) + 1 by omega, Nat.pow_succ] at h1
                omega
              · refine decs_append HD2.out fun x hx => ?_
                simp at hx; omega
              · rw [hR.1, hR.2, List.length_append]
                exact chunk_step HS2.out rfl
            case measure => simp [intOf]; omega
          · have hi9' : ¬ (i : Int) < 9 := by omega
            have hi : i = 9 := by omega
            subst hi
            have hc0' : c = 0 := by have := HC10.out; simp at this; exact this
            subst hc0'
            go_wp2_with fail
            go_roundw
            case rel =>
              refine ⟨v2, horq, by omega, d2, hoyq, HD2.out, ?_, by rw [HL2.out]; omega⟩
              have h1 := HS2.out
              rw [Nat.mul_zero, Nat.add_zero] at h1
              rw [h1, HL2.out, ← HS.out, HV.out, Nat.pow_add, Nat.mul_add, show (10 : Nat) ^ 9 = 1000000000 from rfl, Nat.mul_assoc, Nat.add_assoc]
            case measure => rw [valAt_eq horq.num, val_lim, HM.out]; exact hv2v
      · have hn0' : ¬ (0 : Int) < (n : Int) := by omega
        have hv0 : v = 0 := by
          rw [← val_lim v, List.length_eq_zero_iff.1 (show (lim v).length = 0 by rw [← HN.out]; omega)]; rfl
        subst hv0
        have hS := HS.out
        rw [Nat.mul_zero, Nat.add_zero] at hS
        have hds : ds.length ≠ 0 := by
          intro h0
          rw [List.length_eq_zero_iff.1 h0] at hS
          exact HN0.out hS.symm
        have HS2 : Hid (dval ds = N) := hS
        clear hS HS how hao HM
        have hsh : ∃ g cap', u4 = .slice (some ⟨g, 0, none⟩) ds.length cap' ∧ ds.length ≤ cap' ∧ cap' ≤ 9223372036854775807 := by
          rcases hoy.2 with ⟨_, h2⟩ | ⟨g', cap', cur, h1, h3, h4, h5, h6, h7, h8⟩
          · rw [chars_len] at h2; exact absurd h2 hds
          · rw [chars_len] at h1 h5; exact ⟨g', cap', h1, h5, h6⟩
        obtain ⟨g, cp, rfl, hcp, hcpm⟩ := hsh
        go_wp2_with fail
        refine (reverse_any w.heap.size g ds.length cp (chars ds) _ hoy (chars_len ds) hcp hcpm).mono ?_
        rintro e w5 ⟨rfl, hor5, hg5⟩
        rw [chars_rev] at hor5
        have hbel5 : Below w.heap.size w w5 := hbel.grown hg5 hbw (by intro x hx; rw [Option.some.injEq] at hx; rw [← hx]; exact hor5.heap.1)
        clear hoy hbel hg5
        have hcv := run_convert_bytes_arg (P := Tryz.prog) w5 102 5 Tryz.underlying102 Tryz.underlying5 g 0 ds.length cp ((chars ds.reverse).map fun (x : Nat) => (x : Int)) (by rw [List.length_map, chars_len, List.length_reverse]) (fun i hi => by
          have := (hor5.cell (k := i) (by rw [chars_len, List.length_reverse]; exact hi)).1
          rw [Nat.zero_add, this]
          congr 2
          rw [List.getD_eq_getElem?_getD, List.getD_eq_getElem?_getD, List.getElem?_map]
          cases (chars ds.reverse)[i]? <;> rfl) 9 Tryz.underlying9
        obtain ⟨S, hS⟩ : ∃ S, S = strOfNums ((chars ds.reverse).map fun (x : Nat) => (x : Int)) := ⟨_, rfl⟩
        rw [← hS] at hcv
        have hSl : S.size = ds.length := by rw [hS, strOfNums_size, List.length_map, chars_len, List.length_reverse]
        have HSS : Hid (S = strOfNums ((chars ds.reverse).map fun (x : Nat) => (x : Int))) := hS
        have HSL : Hid (S.size = ds.length) := hSl
        have hS0 : 0 < S.size := by omega
        clear hS hSl hor5
        go_wp2_with fail
        refine (trimLeft_any S w5 hS0).mono ?_
        rintro e w6 ⟨k, r, rfl, rfl, hk, hr, hz, hnz⟩
        have HE : Hid ((.returned (.string r) : Ending) = .returned (.string (txt N)) ∧ Below w.heap.size w w6) := by
          refine ⟨?_, hbel5⟩
          congr 2
          exact txt_trim HD.out HS2.out HN0.out HSS.out hk hr hz hnz
        clear hr hz hnz hbel5 hcv
        go_wp2_with fail
        go_ret
        exact HE.out
end Go.Proofs.YtfnafgjnimfmjaaGreatDoor

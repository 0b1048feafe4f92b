/-
  Proved here: facts on rows of bytes of the call's own; what slices.Reverse does to one.
  Proved here: what fresh and Norm answer.
  Proved here: a number that is read in a world is one number.
-/
import Derived.Test.YtdfmmaehmngkhaaDoorLimMathAll
import Derived.RegionTactic
import Derived.BigRegion
import Derived.Test.YtdfmmaehmngkhaaDoorMulMathAll
import Derived.Laws.CopyOwn
import Derived.Test.YtdfmmaehmngkhaaDoorMemAll
namespace Go.Proofs.YtdfmmaehmngkhaaDoor
open Go.RowKit

def Y (x : Nat) : Value := .int .u8 (x : Int)
/-- Bytes in a row of the call's own. -/
def OwnY (B : Nat) (w : World) (v : Value) (ds : List Nat) : Prop := w.ownsRow B 5 1 v ds.length (ds.map Y)
theorem OwnY.heap {B g n cap : Nat} {w : World} {ds : List Nat} (h : OwnY B w (.slice (some ⟨g, 0, none⟩) n cap) ds) : B ≤ g ∧ n = ds.length ∧ ∃ cur, w.heap[g]? = some (.cells cur 5 (0, 0)) ∧ ds.length ≤ cap ∧ cur.size = cap ∧ cur.toList.take ds.length = ds.map Y := by
  rcases h.2 with ⟨h, _⟩ | ⟨g', cap', cur, h1, h3, h4, h5, h6, h7, h8⟩
  · simp at h
  · simp only [Value.slice.injEq, Option.some.injEq, Addr.mk.injEq, and_true] at h1
    obtain ⟨rfl, rfl, rfl⟩ := h1
    exact ⟨h3, rfl, cur, h4, h5, by simpa using h7, by simpa using h8⟩
theorem OwnY.cell {B g n cap : Nat} {w : World} {ds : List Nat} (h : OwnY B w (.slice (some ⟨g, 0, none⟩) n cap) ds) {k : Nat} (hk : k < ds.length) : w.cell? ⟨g, k, none⟩ = some (.int .u8 ((ds.getD k 0 : Nat) : Int)) ∧ w.frozen? ⟨g, k, none⟩ = false := by
  obtain ⟨_, hn, cur, h1, h2, h3, h4⟩ := h.heap
  refine ⟨?_, frozen_of_row w g k cur _ h1⟩
  rw [cell_of_row w g k cur _ _ h1]
  have h5 : cur.toList[k]? = (ds.map Y)[k]? := by rw [← h4, List.getElem?_take_of_lt hk]
  rw [Array.getElem?_toList] at h5
  rw [h5, List.getElem?_map, List.getElem?_eq_getElem hk, List.getD_eq_getElem?_getD, List.getElem?_eq_getElem hk]
  rfl
theorem OwnY.set {B g n cap : Nat} {w : World} {ds : List Nat} (h : OwnY B w (.slice (some ⟨g, 0, none⟩) n cap) ds) (hn : ds.length = n) (k x : Nat) : OwnY B (w.setCell ⟨g, k, none⟩ (Y x)) (.slice (some ⟨g, 0, none⟩) n cap) (ds.set k x) := by
  subst hn
  have := (World.ownsRow.stored h k (Y x)).1
  unfold OwnY
  rw [List.length_set, List.map_set]
  exact this
theorem OwnY.of_nil (B : Nat) (w : World) : OwnY B w (.slice none 0 0) [] := World.ownsRow_nil _ _ _ _
theorem OwnY.same {B : Nat} {w w' : World} {v : Value} {ds : List Nat} (h : OwnY B w v ds) (he : w'.heap = w.heap) : OwnY B w' v ds := by
  obtain ⟨h1, h2⟩ := h
  refine ⟨h1, ?_⟩
  rcases h2 with h2 | ⟨g', cap, cur, rfl, h3, h4, h5⟩
  · exact Or.inl h2
  · exact Or.inr ⟨g', cap, cur, rfl, h3, by rw [he]; exact h4, h5⟩
/-- A row of bytes stays where another row is written. -/
theorem OwnY.grown {B : Nat} {w w' : World} {v : Value} {ds : List Nat} {r : Option Nat} (h : OwnY B w v ds) (hg : w.grownBy w' r) (hne : v.ownBlock = none ∨ v.ownBlock ≠ r) : OwnY B w' v ds := by
  obtain ⟨h1, h2⟩ := h
  refine ⟨h1, ?_⟩
  rcases h2 with h2 | ⟨g', cap, cur, rfl, h3, h4, h5⟩
  · exact Or.inl h2
  · refine Or.inr ⟨g', cap, cur, rfl, h3, ?_, h5⟩
    rw [hg.block g' (Array.getElem?_eq_some_iff.1 h4).1 (hne.elim (fun h => absurd h (by simp [Value.ownBlock])) (fun h => h))]
    exact h4
theorem Own.grown {B e : Nat} {w w' : World} {v : Value} {xs : List Nat} {r : Option Nat} (h : Own B e w v xs) (hg : w.grownBy w' r) (hne : v.ownBlock = none ∨ v.ownBlock ≠ r) : Own B e w' v xs := by
  obtain ⟨h0, h1, h2⟩ := h
  refine ⟨h0, h1, ?_⟩
  rcases h2 with h2 | ⟨g', cap, cur, rfl, h3, h4, h5⟩
  · exact Or.inl h2
  · refine Or.inr ⟨g', cap, cur, rfl, h3, ?_, h5⟩
    rw [hg.block g' (Array.getElem?_eq_some_iff.1 h4).1 (hne.elim (fun h => absurd h (by simp [Value.ownBlock])) (fun h => h))]
    exact h4
theorem push_ownY {B : Nat} {w w' wr : World} {v v' : Value} {ds : List Nat} {d : Nat} {o : Obj} (hv : OwnY B wr v ds) (hbel : Below B w wr) (hB : B ≤ wr.heap.size)
    (ho : w'.ownsRow B 5 1 v' (ds.length + 1) (ds.map Y ++ [Y d])) (hg : (wr.alloc o).grownBy w' v.ownBlock) :
    OwnY B w' v' (ds ++ [d]) ∧ Below B w w' ∧ B ≤ w'.heap.size := by
  have hsz : (wr.alloc o).heap.size = wr.heap.size + 1 := by simp
  have hbel2 : Below B (wr.alloc o) w' := below_of_grown hg (by omega) (fun g e => (World.ownsRow.lt hv g e).1)
  refine ⟨?_, (hbel.alloc hB o).trans hbel2, by have := hbel2.size; omega⟩
  unfold OwnY
  rw [List.length_append, List.map_append]
  exact ho

theorem getD_rev {ds : List Nat} {q : Nat} (h : q < ds.length) : ds.reverse.getD q 0 = ds.getD (ds.length - 1 - q) 0 := by
  rw [List.getD_eq_getElem?_getD, List.getElem?_reverse h, ← List.getD_eq_getElem?_getD]
theorem ext_getD {a b : List Nat} (hl : a.length = b.length) (h : ∀ q, q < a.length → a.getD q 0 = b.getD q 0) : a = b := by
  apply List.ext_getElem hl
  intro j h1 h2
  have := h j h1
  rw [List.getD_eq_getElem?_getD, List.getElem?_eq_getElem h1, List.getD_eq_getElem?_getD, List.getElem?_eq_getElem h2] at this
  simpa using this
/-- What Reverse leaves. -/
def RevEnd (B : Nat) (w : World) (g n cap : Nat) (ds : List Nat) (e : Ending) (w' : World) : Prop :=
  e = .returned (.tuple #[]) ∧ OwnY B w' (.slice (some ⟨g, 0, none⟩) n cap) ds.reverse ∧ w.grownBy w' (some g)
theorem grownBy_set' {w0 w : World} {g : Nat} (h : w0.grownBy w (some g)) (k : Nat) (u : Value) : w0.grownBy (w.setCell ⟨g, k, none⟩ u) (some g) :=
  ⟨h.os, h.tape, h.output, by simp [World.setCell]; exact h.size, fun j hj hne => by
    rw [heap_setCell_other]
    · exact h.block j hj hne
    · intro e; exact hne (by rw [e])⟩

set_option maxRecDepth 100000 in
set_option maxHeartbeats 3200000 in
theorem reverse_any (B g n cap : Nat) (ds : List Nat) (w : World) (h : OwnY B w (.slice (some ⟨g, 0, none⟩) n cap) ds) (hn : ds.length = n) (hnc : n ≤ cap) (hcm : cap ≤ 9223372036854775807) :
    Calls Tryd.prog 69 #[.slice (some ⟨g, 0, none⟩) n cap] w fun e w' => RevEnd B w g n cap ds e w' := by
  have HN : Hid (ds.length = n) := hn
  have HO : Hid (OwnY B w (.slice (some ⟨g, 0, none⟩) n cap) ds) := h
  clear hn h
  go_enter Tryd.func69, Tryd.ntmps69
  go_wp2
  go_loopw [2, 3] (fun iv jv wr => ∃ (i : Nat) (ys : List Nat), 2 * i ≤ n + 1 ∧ i ≤ n ∧ iv = .int .i64 i ∧ jv = .int .i64 ((n : Int) - 1 - i) ∧ ys.length = n ∧ OwnY B wr (.slice (some ⟨g, 0, none⟩) n cap) ys ∧ w.grownBy wr (some g) ∧ ∀ q, q < n → ys.getD q 0 = if q < i ∨ n < q + i + 1 then ds.getD (n - 1 - q) 0 else ds.getD q 0) (fun iv _ _ => n - (intOf iv).toNat)
  case atStart => exact ⟨0, ds, by omega, by omega, rfl, by go_num, HN.out, HO.out, World.grownBy.refl _ _, fun q hq => by rw [if_neg (by omega)]⟩
  case round =>
    clear HO
    obtain ⟨i, ys, hi2, hin, rfl, rfl, hyl, how, hgr, hinv⟩ := hrel
    have HY : Hid (ys.length = n) := hyl
    have HI : Hid (∀ q, q < n → ys.getD q 0 = if q < i ∨ n < q + i + 1 then ds.getD (n - 1 - q) 0 else ds.getD q 0) := hinv
    clear hyl hinv
    by_cases hlt : i + i + 1 < n
    · obtain ⟨j, hj⟩ : ∃ j, n = i + j + 1 := ⟨n - 1 - i, by omega⟩
      have ej : (n : Int) - 1 - (i : Int) = (j : Int) := by omega
      rw [ej]
      have hij : (i : Int) < (j : Int) := by omega
      have hin' : (i : Int) < (n : Int) := by omega
      have hjn' : (j : Int) < (n : Int) := by omega
      obtain ⟨ci, hfi⟩ := how.cell (k := i) (by rw [HY.out]; omega)
      obtain ⟨cj, hfj⟩ := how.cell (k := j) (by rw [HY.out]; omega)
      obtain ⟨x, hx⟩ : ∃ x, x = ys.getD i 0 := ⟨_, rfl⟩
      obtain ⟨y, hy⟩ : ∃ y, y = ys.getD j 0 := ⟨_, rfl⟩
      rw [← hx] at ci
      rw [← hy] at cj
      have HX : Hid (x = ys.getD i 0) := hx
      have HYY : Hid (y = ys.getD j 0) := hy
      have HJ : Hid (n = i + j + 1) := hj
      clear hx hy hj ej
      have hset1 := how.set HY.out i y
      have hset2 := hset1.set (by rw [List.length_set]; exact HY.out) j x
      have hgr2 := grownBy_set' (grownBy_set' hgr i (Y y)) j (Y x)
      rw [show Y y = .int .u8 (y : Int) from rfl, show Y x = .int .u8 (x : Int) from rfl] at hset2 hgr2
      clear hset1 how hgr
      go_wp2
      go_region
      go_wp2
      go_roundw
      case rel =>
        have hb := (Below.refl 0 ((wr.setCell ⟨g, i, none⟩ (.int .u8 (y : Int))).setCell ⟨g, j, none⟩ (.int .u8 (x : Int)))).drew
        have hJ := HJ.out
        refine ⟨i + 1, (ys.set i y).set j x, by omega, by omega, by go_num, by congr 1; omega, by rw [List.length_set, List.length_set]; exact HY.out, hset2.same rfl, ⟨hb.os.trans hgr2.os, hb.tape.trans hgr2.tape, hb.output.trans hgr2.output, hgr2.size, hgr2.block⟩, fun q hq => ?_⟩
        have hI := HI.out
        by_cases hqj : q = j
        · subst hqj
          rw [getD_set_eq _ _ _ (by rw [List.length_set, HY.out]; exact hq), HX.out, hI i (by omega), if_neg (by omega), if_pos (by omega)]
          congr 1; omega
        · rw [getD_set_off _ _ _ _ hqj]
          by_cases hqi : q = i
          · subst hqi
            rw [getD_set_eq _ _ _ (by rw [HY.out]; exact hq), HYY.out, hI j (by omega), if_neg (by omega), if_pos (by omega)]
            congr 1; omega
          · rw [getD_set_off _ _ _ _ hqi, hI q hq]
            by_cases hc : q < i ∨ n < q + i + 1
            · rw [if_pos hc, if_pos (by omega)]
            · rw [if_neg hc, if_neg (by omega)]
      case measure => simp [intOf]; have := HJ.out; omega
    · have hlt' : ¬ (i : Int) < (n : Int) - 1 - (i : Int) := by omega
      have HE : Hid (RevEnd B w g n cap ds (.returned (.tuple #[])) wr) := by
        refine ⟨rfl, ?_, hgr⟩
        have : ys = ds.reverse := by
          apply ext_getD (by rw [List.length_reverse, HN.out, HY.out])
          intro q hq
          rw [HY.out] at hq
          rw [HI.out q hq, getD_rev (by rw [HN.out]; exact hq), HN.out]
          by_cases hc : q < i ∨ n < q + i + 1
          · rw [if_pos hc]
          · rw [if_neg hc]; congr 1; omega
        rw [← this]; exact how
      clear how hgr
      go_wp2
      go_end0
      exact HE.out
end Go.Proofs.YtdfmmaehmngkhaaDoor

namespace Go.Proofs.YtdfmmaehmngkhaaDoor
open Go.RowKit

theorem lim_len_of_lt {a b : Nat} (h : a ≤ b) : (lim a).length ≤ (lim b).length := lim_len_le (Nat.lt_of_le_of_lt h (lim_lt_of_len (Nat.le_refl _)))
theorem Tryd.sizeU : (Tryd.prog.info? 68).map (·.size) = some 1 := by kernel_rfl
theorem splice_all {L cs : List Value} (h : cs.length = L.length) : splice L 0 cs = cs := by
  simp only [splice, List.take_zero, List.nil_append, Nat.zero_add]
  rw [List.drop_of_length_le (by omega), List.append_nil]

set_option maxRecDepth 100000 in
set_option maxHeartbeats 800000 in
theorem fresh_any (v : Value) (xs : List Nat) (w : World) (h : Num w v xs) (hlen : xs.length ≤ 1099511627776) :
    Calls Tryd.prog 71 #[v] w fun e w' => Made' w.heap.size w xs e w' := by
  obtain ⟨hb, ao, cap, rfl, hc, hm, hnil, hcell⟩ := h.open_
  obtain ⟨n, hn⟩ : ∃ n, xs.length = n := ⟨_, rfl⟩
  rw [hn] at hc hlen h ⊢
  have HN : Hid (xs.length = n) := hn
  obtain ⟨i0, hi, hz0, hz1, hz2⟩ := info_parts Tryd.infoU
  have HC : Hid (∀ w2, Below w.heap.size w w2 → 0 < (xs.map U).length → ∃ ad, ao = some ad ∧ ∀ j u, (xs.map U)[j]? = some u → w2.cell? (ad.add j) = some u) := by
    intro w2 hb2 hp
    obtain ⟨b, off, rfl, _⟩ := hcell 0 (by simpa using hp)
    refine ⟨⟨b, off, none⟩, rfl, fun j u hj => ?_⟩
    rw [List.getElem?_map] at hj
    obtain ⟨y, hy, rfl⟩ := Option.map_eq_some_iff.1 hj
    obtain ⟨hjk, hy⟩ := List.getElem?_eq_some_iff.1 hy
    obtain ⟨b', off', he, hc'⟩ := hcell j (by omega)
    simp only [Option.some.injEq, Addr.mk.injEq] at he
    obtain ⟨rfl, rfl, _⟩ := he
    subst hy
    rw [Addr.add_lit, hb2.cell (p := ⟨b, off + j, none⟩) (block_lt_of_cell hc'), hc', List.getD_eq_getElem?_getD, List.getElem?_eq_getElem (by omega)]
    rfl
  have HL : Hid ((xs.map U).length = Nat.min n n) := by show _ = _; rw [List.length_map, HN.out]; simp
  have H1 : Hid (∀ u ∈ xs.map U, u.oneCell' = true) := by intro u hu; obtain ⟨y, _, rfl⟩ := List.mem_map.1 hu; rfl
  clear hcell hnil hn h
  go_enter Tryd.func71, Tryd.ntmps71
  go_wp2_with (at_make; refine wpList_make_full _ rfl _ _ 23 rfl w.heap.size 68 i0 (.int .u32 0) 1 Tryd.underlying23 hi hz0 hz1 _ _ _ _ n rfl rfl (by omega) (by omega) (by rw [hz2]; omega) (by unfold maxLen; omega) (Nat.le_refl _) ?_)
  intro w2 ho2 hg2
  have how := own_made ho2
  have hbel : Below w.heap.size w w2 := (Below.refl w.heap.size w).grown hg2 (Nat.le_refl _) (by intro k hk; simp at hk)
  obtain ⟨hq1, hq2, cur, hcur, hq3, hcs, hct⟩ := how.heap
  clear hq1 hq2 hq3 hct
  obtain ⟨L, hL⟩ : ∃ L : List Value, cur = L.toArray := ⟨cur.toList, by simp⟩
  subst hL
  have hLl : L.length = n := by simpa using hcs
  have HLL : Hid (L.length = n) := hLl
  have HCUR : Hid (w2.heap[w.heap.size]? = some (.cells L.toArray 68 (0, 0))) := hcur
  clear ho2 hg2 how hcur hcs hLl
  go_wp2_with (refine wpList_copy_splice rfl _ _ 23 23 rfl 68 Tryd.underlying23 Tryd.sizeU _ _ _ _ _ _ rfl rfl w.heap.size 0 L 68 HCUR.out (xs.map U) HL.out (fun hp => ⟨rfl, HC.out w2 hbel hp⟩) (by rw [HLL.out, List.length_map, HN.out]; omega) H1.out w.heap.size w hbel (Nat.le_refl _) ?_)
  intro w3 hh3 hb3
  have HO : Hid (Own w.heap.size 68 w3 (.slice (some ⟨w.heap.size, 0, none⟩) n n) xs) := by
    have h3 := hh3.out
    rw [splice_all (by rw [HLL.out, List.length_map, HN.out])] at h3
    refine ⟨hb, by rw [List.length_map]; omega, Or.inr ⟨w.heap.size, n, _, by rw [HN.out], Nat.le_refl _, h3, by rw [HN.out]; omega, by unfold maxLen; omega, by simp [HN.out], ?_⟩⟩
    rw [HN.out]
    exact List.take_of_length_le (by simp [HN.out])
  clear hh3 HCUR HC H1 HL hbel
  go_wp2
  go_ret
  exact ⟨_, rfl, HO.out, hb3⟩

theorem norm_any (v : Value) (xs : List Nat) (w : World) (h : Num w v xs) (hlen : xs.length ≤ 1099511627776) :
    Calls Tryd.prog 52 #[v] w fun e w' => Made' w.heap.size w (lim (val xs)) e w' := by
  go_enter Tryd.func52, Tryd.ntmps52
  go_wp2_with fail
  refine (trim_any _ _ _ h).mono ?_
  rintro e w1 ⟨⟨k, hk, hk2, rfl⟩, rfl⟩
  have nu := h.cut hk
  rw [hk2] at nu
  have hlx : (lim (val xs)).length ≤ 1099511627776 := by rw [← hk2, List.length_take]; omega
  clear h hk2
  go_wp2_with fail
  refine (fresh_any _ _ _ nu hlx).mono ?_
  rintro e w2 ⟨v2, rfl, ho, hb⟩
  clear nu hlx
  go_wp2
  go_ret
  exact ⟨_, rfl, ho, hb⟩
end Go.Proofs.YtdfmmaehmngkhaaDoor

namespace Go.Proofs.YtdfmmaehmngkhaaDoor
open Go.RowKit

theorem Num.unique {w : World} {v : Value} {xs ys : List Nat} (h : Num w v xs) (g : Num w v ys) : xs = ys := by
  obtain ⟨_, ao, cap, e, _, _, _, h4⟩ := h
  obtain ⟨_, ao', cap', e', _, _, _, g4⟩ := g
  rw [e] at e'
  simp only [Value.slice.injEq] at e'
  obtain ⟨rfl, hl, rfl⟩ := e'
  apply List.ext_getElem hl
  intro j h1 h2
  obtain ⟨b, off, e1, c1⟩ := h4 j h1
  obtain ⟨b', off', e2, c2⟩ := g4 j h2
  rw [e1] at e2
  simp only [Option.some.injEq, Addr.mk.injEq, and_true] at e2
  obtain ⟨rfl, rfl⟩ := e2
  rw [c1] at c2
  simp only [U, Option.some.injEq, Value.int.injEq, true_and] at c2
  rw [List.getD_eq_getElem?_getD, List.getElem?_eq_getElem h1, List.getD_eq_getElem?_getD, List.getElem?_eq_getElem h2] at c2
  simp at c2; omega
open Classical in
/-- The number that a value says in a world; 0 where it says none. -/
noncomputable def valAt (w : World) (v : Value) : Nat := if h : ∃ xs, Num w v xs then val (Classical.choose h) else 0
theorem valAt_eq {w : World} {v : Value} {xs : List Nat} (h : Num w v xs) : valAt w v = val xs := by
  have hx : ∃ xs, Num w v xs := ⟨xs, h⟩
  unfold valAt
  rw [dif_pos hx]
  congr 1
  exact (Classical.choose_spec hx).unique h
end Go.Proofs.YtdfmmaehmngkhaaDoor

/-
  Proved here: what Make, Same and Parse of the plain way over whole numbers answer.
  Proved here: what Int of package whole answers of a number that is an int.
  Proved here: what the plain way's ten answers.
  Proved here: what the plain way's Text answers.
-/
import Derived.Test.YtcmclmhfjmmffaaGreatDoorRefParseAll
import Derived.Test.YtcmclmhfjmmffaaGreatDoorFreshAll
import Derived.Test.YtcmclmhfjmmffaaGreatDoorWholeX3
import Derived.Test.YtcmclmhfjmmffaaGreatDoorWholeBAll
import Derived.Test.YtcmclmhfjmmffaaGreatDoorDivMathAll
import Derived.Test.YtcmclmhfjmmffaaGreatDoorLiftAll
import Derived.Test.YtcmclmhfjmmffaaGreatDoorTextAll
namespace Go.Proofs.YtcmclmhfjmmffaaGreatDoor
open Go.RowKit

/-- A whole number as it should stand. -/
def IStd (w : World) (v : Value) (z : Int) : Prop := ∃ m, v = .agg #[.bool (decide (z < 0)), m] ∧ Num w m (lim z.natAbs)
theorem IOwn.std {B : Nat} {w : World} {v : Value} {z : Int} (h : IOwn B w v z) : IStd w v z := by
  obtain ⟨m, e, ho⟩ := h
  exact ⟨m, e, ho.num⟩
theorem IStd.below {w w' : World} {v : Value} {z : Int} (h : IStd w v z) (hb : Below w.heap.size w w') : IStd w' v z := by
  obtain ⟨m, e, ho⟩ := h
  exact ⟨m, e, ho.below (Nat.le_refl _) hb⟩

set_option maxRecDepth 100000 in
set_option maxHeartbeats 3200000 in
theorem make_ref (neg : Bool) (m : Value) (xs : List Nat) (w : World) (h : Num w m xs) (hl : xs.length ≤ 1000000000) :
    Calls Tryz.prog 103 #[.bool neg, m] w fun e w' => IEnd w (zv neg (val xs)) e w' := by
  obtain ⟨ao, cap, rfl, _, _⟩ := h.ao
  obtain ⟨al, hal⟩ : ∃ l, l = xs.length := ⟨_, rfl⟩
  rw [← hal] at h ⊢
  clear hal
  obtain ⟨W1, hW1⟩ : ∃ W1, W1 = w.alloc (.cells #[.bool false, .slice none 0 0] 25) := ⟨_, rfl⟩
  have q0 : ICell W1 w.heap.size false (.slice none 0 0) := by rw [hW1]; exact icell_new _ rfl
  have hb : Below w.heap.size w W1 := by rw [hW1]; exact belowA _ _
  have hsz : w.heap.size < W1.heap.size := by rw [hW1]; simp
  have HW1 : Hid (W1 = w.alloc (.cells #[.bool false, .slice none 0 0] 25)) := hW1
  clear hW1
  replace h := h.below (Nat.le_refl _) hb
  obtain ⟨g, hg⟩ : ∃ g, g = w.heap.size := ⟨_, rfl⟩
  rw [← hg] at q0 hsz
  have HG : Hid (g = w.heap.size) := hg
  obtain ⟨z, hz⟩ : ∃ z, z = zv neg (val xs) := ⟨_, rfl⟩
  have HZ : Hid (z = zv neg (val xs)) := hz
  rw [← hz]
  clear hz
  go_enter Tryz.func103, Tryz.ntmps103
  go_wp2_with fail
  rw [← HW1.out, ← hg]
  clear HW1 hg
  refine (norm_ref _ _ _ h (by omega)).mono ?_
  rintro e w2 ⟨u, rfl, hu, hb2⟩
  obtain ⟨uo, uc, rfl, _, _⟩ := hu.num.ao
  obtain ⟨ul, hul⟩ : ∃ l, l = (lim (val xs)).length := ⟨_, rfl⟩
  rw [← hul] at hu ⊢
  have hbz : (neg && decide (0 < ul)) = decide (z < 0) := by rw [hul, HZ.out]; exact sign_eq _ _
  replace q0 := q0.below hb2
  replace hb := bstep hb hb2
  have hu' : Own W1.heap.size 69 w2 (.slice uo ul uc) (lim z.natAbs) := by rw [HZ.out, zv_abs]; exact hu
  cases neg
  · have HE : Hid (IEnd w z (.returned (.agg #[.bool false, .slice uo ul uc])) ((w2.setCell ⟨g, 0, none⟩ (.bool false)).setCell ⟨g, 1, none⟩ (.slice uo ul uc))) := (int_done (by rw [← hbz]; rfl) (by rw [HG.out]; omega) hu' hsz hb).i
    have HW : Hid (ICell ((w2.setCell ⟨g, 0, none⟩ (.bool false)).setCell ⟨g, 1, none⟩ (.slice uo ul uc)) g false (.slice uo ul uc)) := q0.write _ _
    obtain ⟨y0, y1⟩ := q0.cells
    have f0 := q0.thaw 0
    have f1 := q0.thaw 1
    clear q0 hb hu hu' hb2 hsz hbz hul h hl
    go_wp2_with fail
    (try simp only [Exit.inBlock, Exit.then])
    exact bodyPost_ret (results_cell_row rfl _ _ g 25 _ (0, 0) _ rfl HW.out Tryz.underlying25 rfl (by kernel_rfl)) rfl HE.out
  · obtain ⟨b, hbb⟩ : ∃ b, b = decide (0 < ul) := ⟨_, rfl⟩
    have HE : Hid (IEnd w z (.returned (.agg #[.bool b, .slice uo ul uc])) ((w2.setCell ⟨g, 0, none⟩ (.bool b)).setCell ⟨g, 1, none⟩ (.slice uo ul uc))) := (int_done (by rw [← hbz, hbb]; rfl) (by rw [HG.out]; omega) hu' hsz hb).i
    have HW : Hid (ICell ((w2.setCell ⟨g, 0, none⟩ (.bool b)).setCell ⟨g, 1, none⟩ (.slice uo ul uc)) g b (.slice uo ul uc)) := q0.write _ _
    obtain ⟨y0, y1⟩ := q0.cells
    have f0 := q0.thaw 0
    have f1 := q0.thaw 1
    have hb1 : decide (0 < ul) = b := hbb.symm
    clear q0 hb hu hu' hb2 hsz hbz hul h hl hbb
    go_wp2_with fail
    (try simp only [Exit.inBlock, Exit.then])
    exact bodyPost_ret (results_cell_row rfl _ _ g 25 _ (0, 0) _ rfl HW.out Tryz.underlying25 rfl (by kernel_rfl)) rfl HE.out

set_option maxRecDepth 100000 in
set_option maxHeartbeats 3200000 in
theorem same02 (a b : Value) (z : Int) (w : World) (ha : IStd w a z) (hb : IStd w b z) :
    Calls Tryz.prog 23 #[a, b] w fun e w' => e = .returned (.bool true) ∧ Below w.heap.size w w' := by
  obtain ⟨m, rfl, hm⟩ := ha
  obtain ⟨k, rfl, hk⟩ := hb
  obtain ⟨mo, mc, rfl, _, _⟩ := hm.ao
  obtain ⟨ko, kc, rfl, _, _⟩ := hk.ao
  obtain ⟨n, hn⟩ : ∃ n, n = (lim z.natAbs).length := ⟨_, rfl⟩
  rw [← hn] at hm hk ⊢
  clear hn
  obtain ⟨bb, hbb⟩ : ∃ b, b = decide (z < 0) := ⟨_, rfl⟩
  rw [← hbb]
  clear hbb
  have hself : (bb == bb) = true := by simp
  obtain ⟨W1, hW1⟩ : ∃ W1, W1 = (w.alloc (.cells #[.bool bb, .slice mo n mc] 25)).alloc (.cells #[.bool bb, .slice ko n kc] 25) := ⟨_, rfl⟩
  have q0 : ICell W1 (w.heap.size) bb (.slice mo n mc) := by rw [hW1]; exact icell_step (icell_new _ (by simp))
  have q1 : ICell W1 (w.heap.size + 1) bb (.slice ko n kc) := by rw [hW1]; exact icell_new _ (by simp)
  have hB : Below w.heap.size w W1 := by rw [hW1]; exact bstep (belowA w _) (belowA _ _)
  have HW1 : Hid (W1 = (w.alloc (.cells #[.bool bb, .slice mo n mc] 25)).alloc (.cells #[.bool bb, .slice ko n kc] 25)) := hW1
  clear hW1
  replace hm := hm.below (Nat.le_refl _) hB
  replace hk := hk.below (Nat.le_refl _) hB
  go_enter Tryz.func23, Tryz.ntmps23
  go_wp2_with fail
  rw [← HW1.out]
  clear HW1
  obtain ⟨g, hg⟩ : ∃ g, g = w.heap.size := ⟨_, rfl⟩
  rw [← hg] at q0 q1 ⊢
  have HB : Hid (Below w.heap.size w W1) := hB
  clear hg hB
  obtain ⟨c0, d0⟩ := q0.cells
  obtain ⟨c1, d1⟩ := q1.cells
  clear q0 q1
  go_wp2_with fail
  refine (same_yes _ _ _ _ hm hk).mono ?_
  rintro e w2 ⟨rfl, q, hq⟩
  have HE : Hid (Below w.heap.size w w2) := by rw [hq]; exact bstep HB.out (below_drewN (Below.refl _ _) q)
  clear hq hm hk HB c0 d0 c1 d1
  go_wp2_with fail
  go_ret
  exact ⟨rfl, HE.out⟩

/-- What is read, and the error's number. -/
def pz (s : ByteArray) : Int := if DigOk (tail s) ∧ 0 < (tail s).size then zv (strk s) (bval (dgs (tail s))) else 0
def pe (s : ByteArray) : Int := if DigOk (tail s) ∧ 0 < (tail s).size then 0 else 10
/-- What a reader leaves. -/
def PEnd (w : World) (z er : Int) (e : Ending) (w' : World) : Prop := ∃ v, e = .returned (.tuple #[v, .int .i64 er]) ∧ IOwn w.heap.size w' v z ∧ Below w.heap.size w w'
theorem IOwn.nil (B : Nat) (w : World) : IOwn B w (.agg #[.bool false, .slice none 0 0]) 0 := ⟨_, rfl, Own.of_nil _ _ _⟩
theorem c_parse2 (s : ByteArray) (w : World) (hs : s.size ≤ 1000000) : Calls Tryz.prog 83 #[.string s] w fun e w' => PEnd w (pz s) (pe s) e w' := by
  refine (c_parse s w hs).mono ?_
  intro e w' h
  unfold pz pe
  by_cases hd : DigOk (tail s) ∧ 0 < (tail s).size
  · rw [if_pos hd] at h ⊢
    rw [if_pos hd]
    exact h
  · rw [if_neg hd] at h ⊢
    rw [if_neg hd]
    exact ⟨_, h.1, IOwn.nil _ _, h.2⟩
theorem strk_bt {s : ByteArray} (h : 0 < s.size) : strk s = decide (bt s 0 = 45) := by
  rw [strk_eq]
  unfold bt
  cases hl : s.data.toList with
  | nil => rw [s_size, hl] at h; exact absurd h (by simp)
  | cons x r =>
    rw [Bool.eq_iff_iff]
    simp
    exact ⟨fun h => by rw [h]; rfl, fun h => UInt8.toNat_inj.1 h⟩

/-- How many limbs a text's number has. -/
theorem lim_dgs {t : ByteArray} (hd : DigOk t) : (lim (bval (dgs t))).length ≤ t.size := by
  apply lim_len_le
  have h1 := dval_lt (decs_rev hd.decs)
  rw [List.length_reverse, dgs_len] at h1
  exact Nat.lt_of_lt_of_le h1 (Nat.pow_le_pow_left (by decide : 10 ≤ 4294967296) _)
theorem mk_pend {w w4 : World} {g : Nat} {z : Int} {m : Value} {B : Nat} (hg : g = w.heap.size) (ho : Own B 69 w4 m (lim z.natAbs)) (hgB : g < B) (hb : Below w.heap.size w w4) :
    PEnd w z 0 (.returned (.tuple #[.agg #[.bool (decide (z < 0)), m], .int .i64 0])) ((w4.setCell ⟨g, 0, none⟩ (.bool (decide (z < 0)))).setCell ⟨g, 1, none⟩ m) := by
  obtain ⟨v9, he9, ho9, hb9⟩ := (int_done (w := w) (g := g) (z := z) rfl (by rw [hg]; exact Nat.le_refl _) ho hgB hb).i
  cases he9
  exact ⟨_, rfl, ho9, hb9⟩

end Go.Proofs.YtcmclmhfjmmffaaGreatDoor

namespace Go.Proofs.YtcmclmhfjmmffaaGreatDoor
open Go.RowKit

end Go.Proofs.YtcmclmhfjmmffaaGreatDoor

namespace Go.Proofs.YtcmclmhfjmmffaaGreatDoor
open Go.RowKit

/-- What ten leaves. -/
def TenEnd (w : World) (v : Nat) (e : Ending) (w' : World) : Prop :=
  ∃ o, e = .returned (.tuple #[o, .int .i64 ((v % 10 : Nat) : Int)]) ∧ Own w.heap.size 69 w' o (lim (v / 10)) ∧ Below w.heap.size w w'

set_option maxRecDepth 100000 in
set_option maxHeartbeats 1600000 in
theorem ten_ref (u : Value) (xs : List Nat) (w : World) (h : Num w u xs) (hlen : xs.length ≤ 1000000) :
    Calls Tryz.prog 121 #[u] w fun e w' => TenEnd w (val xs) e w' := by
  obtain ⟨hbx, ao, cap, rfl, hca, hma, _, hcell⟩ := h.open_
  obtain ⟨i0, hi, hz0, hz1, hz2⟩ := info_parts Tryz.infoU
  obtain ⟨n, hn⟩ : ∃ n, n = xs.length := ⟨_, rfl⟩
  rw [← hn] at hlen hca ⊢
  have HN : Hid (n = xs.length) := hn
  clear hn h
  go_enter Tryz.func121, Tryz.ntmps121
  go_wp2_with (at_make; refine wpList_make_full _ rfl _ _ 23 rfl w.heap.size 69 i0 (.int .u32 0) 1 Tryz.underlying23 hi hz0 hz1 _ _ _ _ n rfl rfl (by omega) (by omega) (by rw [hz2]; omega) (by unfold maxLen; omega) (Nat.le_refl _) ?_)
  intro w2 ho2 hg2
  have how := own_made ho2
  have hbel : Below w.heap.size w w2 := (Below.refl w.heap.size w).grown hg2 (Nat.le_refl _) (by intro k hk; simp at hk)
  obtain ⟨g, hg⟩ : ∃ g, g = w.heap.size := ⟨_, rfl⟩
  have HB : Hid (Below w.heap.size w w2 ∧ Cells w2 g (List.replicate n 0)) := by rw [hg]; exact ⟨hbel, how.cells⟩
  have HG : Hid (g = w.heap.size) := hg
  rw [← hg]
  clear hg hbel how ho2 hg2
  go_wp2
  go_loopw [5, 6] (fun lv t wr => ∃ (i l : Nat) (ys : List Nat), i ≤ n ∧ t = .int .i64 ((i : Int) - 1) ∧ lv = .int .u64 l ∧ l < 10 ∧ ys.length = n ∧ Cells wr g ys ∧ Below w.heap.size w wr ∧ val (ys.drop i) * 10 + l = val (xs.drop i)) (fun _ t _ => (intOf t + 1).toNat)
  case atStart =>
    refine ⟨n, 0, List.replicate n 0, Nat.le_refl _, rfl, rfl, by omega, by simp, HB.out.2, HB.out.1, ?_⟩
    rw [List.drop_of_length_le (by simp), List.drop_of_length_le (by rw [← HN.out]; exact Nat.le_refl _)]
    simp [val]
  case round =>
    clear HB
    obtain ⟨i, l, ys, hin, rfl, rfl, hlb, hyl, hcs, hbel, hinv⟩ := hrel
    have HY : Hid (ys.length = n) := hyl
    have HI : Hid (val (ys.drop i) * 10 + l = val (xs.drop i)) := hinv
    clear hyl hinv
    by_cases hi0 : 0 < i
    · obtain ⟨j, rfl⟩ : ∃ j, i = j + 1 := ⟨i - 1, by omega⟩
      rw [show ((j + 1 : Nat) : Int) - 1 = (j : Int) by omega]
      have hge : (0 : Int) ≤ (j : Int) := by omega
      have hjn : (j : Int) < (n : Int) := by omega
      obtain ⟨bb, bo, rfl, hx1⟩ := hcell j (by rw [← HN.out]; omega)
      have cx : wr.cell? ⟨bb, bo + j, none⟩ = some (.int .u32 ((xs.getD j 0 : Nat) : Int)) := by rw [hbel.cell (p := ⟨bb, bo + j, none⟩) (block_lt_of_cell hx1)]; exact hx1
      have hx0 := limb_lt hbx j
      obtain ⟨z, hz⟩ : ∃ z, z = xs.getD j 0 := ⟨_, rfl⟩
      rw [← hz] at cx hx0
      have HZ : Hid (z = xs.getD j 0) := hz
      obtain ⟨cz, hfz⟩ := hcs.cell (k := j) (by rw [HY.out]; omega)
      obtain ⟨y, hy⟩ : ∃ y, y = ys.getD j 0 := ⟨_, rfl⟩
      rw [← hy] at cz
      have hT1 : l * 4294967296 + z ≤ 42949672959 := by omega
      have hset := hcs.set j ((l * 4294967296 + z) / 10) (by omega)
      have hbel2 := hbel.setCell (p := ⟨g, j, none⟩) (by show _ ≤ g; rw [HG.out]; exact Nat.le_refl _) (U ((l * 4294967296 + z) / 10))
      rw [show U ((l * 4294967296 + z) / 10) = .int .u32 (((l : Int) * 4294967296 + (z : Int)) / 10) by simp [U]] at hset hbel2
      clear hz hy hcs hbel hcell hx1
      go_wp2
      go_roundw
      case rel =>
        refine ⟨j, (l * 4294967296 + z) % 10, _, by omega, by go_num, by go_num, by omega, by rw [List.length_set]; exact HY.out, hset, hbel2, ?_⟩
        exact div_by_step (by rw [HY.out]; omega) HI.out (by rw [← HZ.out]; omega)
      case measure => simp [intOf]
    · have hi1 : i = 0 := by omega
      subst hi1
      have hge : ¬ (0 : Int) ≤ ((0 : Nat) : Int) - 1 := by omega
      have hfin := HI.out
      rw [List.drop_zero, List.drop_zero] at hfin
      have h1 : val xs % 10 = l := by omega
      have h2 : val ys = val xs / 10 := by omega
      have hny : Num wr (.slice (some ⟨g, 0, none⟩) n n) ys := by
        have := (hcs.own (B := 0) (Nat.zero_le _) (by rw [HY.out]; omega)).num
        rw [HY.out] at this; exact this
      have HH : Hid (val xs % 10 = l ∧ val ys = val xs / 10) := ⟨h1, h2⟩
      clear h1 h2 hfin hcs hcell
      go_wp2_with fail
      refine (norm_ref _ _ _ hny (by rw [HY.out]; omega)).mono ?_
      rintro e w3 ⟨o, rfl, hoo, hb3⟩
      rw [HH.out.2] at hoo
      have HE : Hid (TenEnd w (val xs) (.returned (.tuple #[o, .int .i64 (l : Int)])) w3) := ⟨o, by rw [HH.out.1], hoo.mono hbel.size, hbel.trans (hb3.mono hbel.size)⟩
      clear hoo hb3 hbel hny
      go_wp2_with fail
      go_ret2
      exact HE.out
end Go.Proofs.YtcmclmhfjmmffaaGreatDoor

namespace Go.Proofs.YtcmclmhfjmmffaaGreatDoor
open Go.RowKit

theorem digit_at {d : Nat} (h : d < 10) : (({ data := #[48, 49, 50, 51, 52, 53, 54, 55, 56, 57] } : ByteArray)[d]'h).toNat = 48 + d := by
  rcases (show d = 0 ∨ d = 1 ∨ d = 2 ∨ d = 3 ∨ d = 4 ∨ d = 5 ∨ d = 6 ∨ d = 7 ∨ d = 8 ∨ d = 9 by omega) with rfl | rfl | rfl | rfl | rfl | rfl | rfl | rfl | rfl | rfl <;> rfl
theorem dec_parts {ds : List Nat} {v N : Nat} (h : ds ++ dec v = dec N) : dval ds + 10 ^ ds.length * v = N := by
  rw [← dval_dec N, ← h, dval_append, dval_dec]
theorem snoc_getD (ds : List Nat) (j : Nat) (h : j < ds.length) : (ds.drop j).reverse = (ds.drop (j + 1)).reverse ++ [ds.getD j 0] := by
  rw [List.drop_eq_getElem_cons h, List.reverse_cons, List.getD_eq_getElem?_getD, List.getElem?_eq_getElem h]; rfl

set_option maxRecDepth 100000 in
set_option maxHeartbeats 6400000 in
theorem text_ref (u : Value) (xs : List Nat) (w : World) (h : Num w u xs) (hlen : xs.length ≤ 1000000) :
    Calls Tryz.prog 90 #[u] w fun e w' => e = .returned (.string (txt (val xs))) ∧ Below w.heap.size w w' := by
  obtain ⟨iY, hiY, hzY0, hzY1, hzY2⟩ := info_parts Tryz.infoY
  obtain ⟨N, hN⟩ : ∃ N, N = val xs := ⟨_, rfl⟩
  have HNL : Hid (N < 4294967296 ^ xs.length) := by rw [hN]; exact val_lt h.1
  have hll : (lim N).length ≤ 1000000 := by have := lim_short h; rw [← hN] at this; omega
  rw [← hN]
  go_enter Tryz.func90, Tryz.ntmps90
  go_wp2_with fail
  refine (norm_ref _ _ _ h (by omega)).mono ?_
  rintro e w1 ⟨r, rfl, hor, hb1⟩
  rw [← hN] at hor
  clear h hN
  obtain ⟨ro, rc, rfl, hro, hrl, hrm⟩ := hor.ao
  by_cases hN0 : N = 0
  · have hl0 : (lim N).length = 0 := by rw [hN0]; rfl
    rw [hl0] at hor ⊢
    have HE : Hid ((.returned (.string ⟨#[48]⟩) : Ending) = .returned (.string (txt N)) ∧ Below w.heap.size w w1) := ⟨by rw [hN0]; rfl, hb1⟩
    clear hor hb1 hro hl0 hN0
    go_wp2_with fail
    go_ret
    exact HE.out
  · obtain ⟨n0, hn0⟩ : ∃ n0, n0 = (lim N).length := ⟨_, rfl⟩
    rw [← hn0] at hor hro hrl hll ⊢
    have hnn : ¬ (n0 : Int) = 0 := by
      intro h0
      apply hN0
      rw [← val_lim N, List.length_eq_zero_iff.1 (show (lim N).length = 0 by omega)]; rfl
    have hn00 : ((n0 : Int) == 0) = false := by simp; omega
    have HST : Hid (Own w.heap.size 69 w1 (.slice ro n0 rc) (lim N) ∧ Below w.heap.size w w1) := ⟨hor, hb1⟩
    have HN0 : Hid (N ≠ 0) := hN0
    clear hor hb1 hN0 hro hn0
    go_wp2_with fail
    go_loopw [3, 4] (fun rv dv wr => ∃ (v : Nat) (ds : List Nat), Own w.heap.size 69 wr rv (lim v) ∧ v ≤ N ∧ OwnY w.heap.size wr dv (chars ds) ∧ ds ++ dec v = dec N ∧ ds.length ≤ 32 * xs.length + 1 ∧ Below w.heap.size w wr) (fun rv _ wr => valAt wr rv)
    case atStart => exact ⟨N, [], HST.out.1, Nat.le_refl _, OwnY.of_nil _ _, rfl, by simp, HST.out.2⟩
    case round =>
      clear HST hnn
      obtain ⟨v, ds, how, hvN, hoy, hsum, hdl, hbel⟩ := hrel
      have HS : Hid (ds ++ dec v = dec N) := hsum
      clear hsum
      obtain ⟨ao, cap, rfl, hao, hlc, hcm⟩ := how.ao
      have HM : Hid (valAt wr (.slice ao (lim v).length cap) = v) := by show _ = _; rw [valAt_eq how.num, val_lim]
      have hvl : (lim v).length ≤ 1000000 := by
        have := lim_len_le (Nat.lt_of_le_of_lt hvN HNL.out); omega
      obtain ⟨n, hn⟩ : ∃ n, n = (lim v).length := ⟨_, rfl⟩
      rw [← hn] at how hao hlc HM ⊢
      have HN : Hid (n = (lim v).length) := hn
      have hbw : w.heap.size ≤ wr.heap.size := hbel.size
      clear hn
      by_cases hn0 : 0 < n
      · have hn0' : (0 : Int) < (n : Int) := by omega
        have hv0 : v ≠ 0 := by intro h0; rw [h0] at HN; have := HN.out; simp [lim_zero] at this; omega
        have hdl2 : ds.length ≤ 32 * xs.length := dig_lt (dec_parts HS.out) hv0 HNL.out
        go_wp2_with fail
        refine (ten_ref _ _ _ how.num hvl).mono ?_
        rw [val_lim]
        rintro e w2 ⟨o, rfl, hoo, hb2⟩
        obtain ⟨d, hd⟩ : ∃ d, d = v % 10 := ⟨_, rfl⟩
        rw [← hd]
        have hd10 : d < 10 := by omega
        have hd10' : (d : Int) < 10 := by omega
        have hdg := digit_at hd10
        obtain ⟨c, hc⟩ : ∃ c, c = 48 + d := ⟨_, rfl⟩
        rw [← hc] at hdg
        have HD : Hid (d = v % 10 ∧ c = 48 + d) := ⟨hd, hc⟩
        have hoy2 := hoy.below hb2
        have hbel2 := hbel.trans (hb2.mono hbw)
        have hoo2 := hoo.mono hbw
        have hbw2 : w.heap.size ≤ w2.heap.size := hbel2.size
        clear hd hc how hoy hbel hb2 hbw hoo hao
        obtain ⟨m, hm⟩ : ∃ m, m = (chars ds).length := ⟨_, rfl⟩
        have hmb : m ≤ 40000000 := by rw [hm, chars_len]; omega
        have HO : Hid (w2.ownsRow w.heap.size 5 1 u4 m ((chars ds).map Y)) := by show _; rw [hm]; exact hoy2
        have HMM : Hid (m = (chars ds).length) := hm
        clear hm
        have hB3 : w.heap.size ≤ (w2.alloc (.cells #[.int .u8 (c : Int)] 5)).heap.size := by simp; omega
        go_wp2_with (at_builtin; refine wpList_push _ rfl _ _ 94 rfl w.heap.size 5 iY (.int .u8 0) 1 Tryz.underlying94 hiY hzY0 hzY1 hzY2 rfl _ m ((chars ds).map Y) rfl (HO.out.alloc _) ⟨w2.heap.size, 0, none⟩ 1 1 [.int .u8 (c : Int)] rfl rfl (cell_one_new _ _ _) (fun u hu => by simp at hu; subst hu; rfl) (by decide) (by unfold maxLen; omega) (by omega) hB3 ?_)
        intro v' w5 ho hgr _ _
        have hne4 : o.ownBlock = none ∨ o.ownBlock ≠ u4.ownBlock := own_types hoo2.2 hoy2 (by decide)
        have R := push_ownY (d := c) hoy2 hbel2 hbw2 (by rw [← HMM.out, show Y c = .int .u8 (c : Int) from rfl]; exact ho) hgr
        have hor5 : Own w.heap.size 69 w5 o (lim (v / 10)) := (hoo2.alloc _).grown hgr hne4
        clear ho hgr hoy2 hbel2 hbw2 HO hB3 hoo2 hne4
        go_wp2
        go_roundw
        case rel =>
          have hD := HD.out
          refine ⟨v / 10, ds ++ [d], hor5, by omega, by rw [chars_append, show chars [d] = [c] by simp [chars]; omega]; exact R.1, ?_, by rw [List.length_append]; simp; omega, R.2.1⟩
          rw [List.append_assoc, ← HS.out, dec_pos hv0, hD.1]; rfl
        case measure => rw [valAt_eq hor5.num, val_lim, HM.out]; omega
      · have hn0' : ¬ (0 : Int) < (n : Int) := by omega
        have hv0 : v = 0 := by
          rw [← val_lim v, List.length_eq_zero_iff.1 (show (lim v).length = 0 by rw [← HN.out]; omega)]; rfl
        subst hv0
        have hS := HS.out
        rw [dec_zero, List.append_nil] at hS
        have hds : ds.length ≠ 0 := by
          intro h0
          rw [List.length_eq_zero_iff.1 h0] at hS
          exact dec_ne HN0.out hS.symm
        have HS2 : Hid (ds = dec N) := hS
        clear hS HS how hao HM
        have hsh : ∃ g cap', u4 = .slice (some ⟨g, 0, none⟩) ds.length cap' ∧ ds.length ≤ cap' ∧ cap' ≤ 9223372036854775807 := by
          rcases hoy.2 with ⟨_, h2⟩ | ⟨g', cap', cur, h1, h3, h4, h5, h6, h7, h8⟩
          · rw [chars_len] at h2; exact absurd h2 hds
          · rw [chars_len] at h1 h5; exact ⟨g', cap', h1, h5, h6⟩
        obtain ⟨g, cp, rfl, hcp, hcpm⟩ := hsh
        obtain ⟨L, hL⟩ : ∃ L, L = ds.length := ⟨_, rfl⟩
        rw [← hL] at hoy hcp hds hdl ⊢
        have HL : Hid (L = ds.length) := hL
        have HST : Hid (OwnY w.heap.size wr (.slice (some ⟨g, 0, none⟩) L cp) (chars ds) ∧ Below w.heap.size w wr) := ⟨hoy, hbel⟩
        obtain ⟨B2, hB2⟩ : ∃ B2, B2 = wr.heap.size := ⟨_, rfl⟩
        have hgB : g < B2 := by
          obtain ⟨_, _, cur, h1, _⟩ := hoy.heap
          rw [hB2]; exact (Array.getElem?_eq_some_iff.1 h1).1
        have hwB : w.heap.size ≤ B2 := by rw [hB2]; exact hbw
        have HB2 : Hid (B2 ≤ wr.heap.size) := by rw [hB2]; exact Nat.le_refl _
        clear hoy hbel hL hbw hB2
        go_wp2_with fail
        go_loopw [6, 7] (fun ov iv wq => ∃ (i : Nat), i ≤ L ∧ iv = .int .i64 ((i : Int) - 1) ∧ OwnY w.heap.size wq (.slice (some ⟨g, 0, none⟩) L cp) (chars ds) ∧ OwnY B2 wq ov (chars (ds.drop i).reverse) ∧ Below w.heap.size w wq ∧ B2 ≤ wq.heap.size) (fun _ iv _ => (intOf iv + 1).toNat)
        case atStart =>
          refine ⟨L, Nat.le_refl _, rfl, HST.out.1, ?_, HST.out.2, HB2.out⟩
          rw [List.drop_of_length_le (by rw [HL.out]; exact Nat.le_refl _)]
          exact OwnY.of_nil _ _
        case round =>
          clear HST
          obtain ⟨i, hiL, rfl, hog, hov, hbelq, hwq⟩ := hrel
          by_cases hi0 : 0 < i
          · obtain ⟨j, rfl⟩ : ∃ j, i = j + 1 := ⟨i - 1, by omega⟩
            rw [show ((j + 1 : Nat) : Int) - 1 = (j : Int) by omega]
            have hge : (0 : Int) ≤ (j : Int) := by omega
            have hjL : (j : Int) < (L : Int) := by omega
            obtain ⟨cg, _⟩ := hog.cell (k := j) (by rw [chars_len, ← HL.out]; omega)
            obtain ⟨c, hc⟩ : ∃ c, c = (chars ds).getD j 0 := ⟨_, rfl⟩
            rw [← hc] at cg
            have HC : Hid (c = 48 + ds.getD j 0) := by
              show _ = _
              have hjl : j < ds.length := by rw [← HL.out]; omega
              rw [hc, chars, List.getD_eq_getElem?_getD, List.getElem?_map, List.getElem?_eq_getElem hjl, List.getD_eq_getElem?_getD, List.getElem?_eq_getElem hjl]; rfl
            obtain ⟨m, hm⟩ : ∃ m, m = (chars (ds.drop (j + 1)).reverse).length := ⟨_, rfl⟩
            have hmb : m ≤ 40000000 := by rw [hm, chars_len, List.length_reverse, List.length_drop, ← HL.out]; omega
            have HO : Hid (wr.ownsRow B2 5 1 u6 m ((chars (ds.drop (j + 1)).reverse).map Y)) := by show _; rw [hm]; exact hov
            have HMM : Hid (m = (chars (ds.drop (j + 1)).reverse).length) := hm
            clear hm hc
            have hB3 : B2 ≤ (wr.alloc (.cells #[.int .u8 (c : Int)] 5)).heap.size := by simp; omega
            go_wp2_with (at_builtin; refine wpList_push _ rfl _ _ 94 rfl B2 5 iY (.int .u8 0) 1 Tryz.underlying94 hiY hzY0 hzY1 hzY2 rfl _ m ((chars (ds.drop (j + 1)).reverse).map Y) rfl (HO.out.alloc _) ⟨wr.heap.size, 0, none⟩ 1 1 [.int .u8 (c : Int)] rfl rfl (cell_one_new _ _ _) (fun u hu => by simp at hu; subst hu; rfl) (by decide) (by unfold maxLen; omega) (by omega) hB3 ?_)
            intro v' w5 ho hgr _ _
            have hne : (Value.slice (some ⟨g, 0, none⟩) L cp).ownBlock = none ∨ (Value.slice (some ⟨g, 0, none⟩) L cp).ownBlock ≠ u6.ownBlock := by
              right
              intro he
              have := (World.ownsRow.lt hov g he.symm).1
              omega
            have R := push_ownY (w := wr) (d := c) hov (Below.refl _ _) hwq (by rw [← HMM.out, show Y c = .int .u8 (c : Int) from rfl]; exact ho) hgr
            have hog5 : OwnY w.heap.size w5 (.slice (some ⟨g, 0, none⟩) L cp) (chars ds) := (hog.below ((Below.refl _ _).alloc (Nat.le_refl _) _)).grown hgr hne
            have hbel5 : Below w.heap.size w w5 := hbelq.trans (R.2.1.mono hwB)
            clear ho hgr hov hbelq HO hB3 hog hne
            go_wp2
            go_roundw
            case rel =>
              refine ⟨j, by omega, by go_num, hog5, ?_, hbel5, R.2.2⟩
              rw [snoc_getD ds j (by rw [← HL.out]; omega), chars_append, show chars [ds.getD j 0] = [c] by simp only [chars, List.map_cons, List.map_nil]; rw [HC.out]]
              exact R.1
            case measure => simp [intOf]
          · have hi1 : i = 0 := by omega
            subst hi1
            have hge : ¬ (0 : Int) ≤ ((0 : Nat) : Int) - 1 := by omega
            rw [List.drop_zero, HS2.out] at hov
            have hsh2 : ∃ g' cp', u6 = .slice (some ⟨g', 0, none⟩) L cp' := by
              rcases hov.2 with ⟨_, h2⟩ | ⟨g', cap', cur, h1, _⟩
              · rw [chars_len, List.length_reverse, ← HS2.out, ← HL.out] at h2; exact absurd h2 hds
              · rw [chars_len, List.length_reverse, ← HS2.out, ← HL.out] at h1; exact ⟨g', cap', h1⟩
            obtain ⟨g', cp', rfl⟩ := hsh2
            have hlr : (chars (dec N).reverse).length = L := by rw [chars_len, List.length_reverse, ← HS2.out, ← HL.out]
            have hcv := run_convert_bytes_arg (P := Tryz.prog) wr 94 5 Tryz.underlying94 Tryz.underlying5 g' 0 L cp' ((chars (dec N).reverse).map fun (x : Nat) => (x : Int)) (by rw [List.length_map, hlr]) (fun i hi => by
              have := (hov.cell (k := i) (by rw [hlr]; exact hi)).1
              rw [Nat.zero_add, this]
              congr 2
              rw [List.getD_eq_getElem?_getD, List.getD_eq_getElem?_getD, List.getElem?_map]
              cases (chars (dec N).reverse)[i]? <;> rfl) 9 Tryz.underlying9
            have htx : strOfNums ((chars (dec N).reverse).map fun (x : Nat) => (x : Int)) = txt N := by
              unfold txt wri; rw [if_neg HN0.out]
            rw [htx] at hcv
            have HE : Hid (Below w.heap.size w wr) := hbelq
            clear htx hov hog hbelq hlr
            go_wp2_with fail
            go_ret
            exact ⟨rfl, HE.out⟩
end Go.Proofs.YtcmclmhfjmmffaaGreatDoor

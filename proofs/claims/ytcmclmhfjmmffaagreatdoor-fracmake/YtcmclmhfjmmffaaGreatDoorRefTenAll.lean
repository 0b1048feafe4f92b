/-
  Proved here: what Make, Same and Parse of the plain way over whole numbers answer.
  Proved here: what Int of package whole answers of a number that is an int.
  Proved here: what the plain way's ten answers.
-/
import Derived.Test.YtcmclmhfjmmffaaGreatDoorRefParseAll
import Derived.Test.YtcmclmhfjmmffaaGreatDoorNormAll
import Derived.Test.YtcmclmhfjmmffaaGreatDoorWholeX3
import Derived.Test.YtcmclmhfjmmffaaGreatDoorWholeBAll
import Derived.Test.YtcmclmhfjmmffaaGreatDoorDivMathAll
import Derived.Test.YtcmclmhfjmmffaaGreatDoorLiftAll
namespace Go.Proofs.YtcmclmhfjmmffaaGreatDoor
open Go.RowKit

/-- A whole number as it should stand. -/
def IStd (w : World) (v : Value) (z : Int) : Prop := ∃ m, v = .agg #[.bool (decide (z < 0)), m] ∧ Num w m (lim z.natAbs)
theorem IOwn.std {B : Nat} {w : World} {v : Value} {z : Int} (h : IOwn B w v z) : IStd w v z := by
  obtain ⟨m, e, ho⟩ := h
  exact ⟨m, e, ho.num⟩
theorem IStd.below {w w' : World} {v : Value} {z : Int} (h : IStd w v z) (hb : Below w.heap.size w w') : IStd w' v z := by
  obtain ⟨m, e, ho⟩ := h
  exact ⟨m, e, ho.below (Nat.le_refl _) hb⟩

set_option maxRecDepth 100000 in
set_option maxHeartbeats 3200000 in
theorem make_ref (neg : Bool) (m : Value) (xs : List Nat) (w : World) (h : Num w m xs) (hl : xs.length ≤ 1000000000) :
    Calls Tryz.prog 103 #[.bool neg, m] w fun e w' => IEnd w (zv neg (val xs)) e w' := by
  obtain ⟨ao, cap, rfl, _, _⟩ := h.ao
  obtain ⟨al, hal⟩ : ∃ l, l = xs.length := ⟨_, rfl⟩
  rw [← hal] at h ⊢
  clear hal
  obtain ⟨W1, hW1⟩ : ∃ W1, W1 = w.alloc (.cells #[.bool false, .slice none 0 0] 25) := ⟨_, rfl⟩
  have q0 : ICell W1 w.heap.size false (.slice none 0 0) := by rw [hW1]; exact icell_new _ rfl
  have hb : Below w.heap.size w W1 := by rw [hW1]; exact belowA _ _
  have hsz : w.heap.size < W1.heap.size := by rw [hW1]; simp
  have HW1 : Hid (W1 = w.alloc (.cells #[.bool false, .slice none 0 0] 25)) := hW1
  clear hW1
  replace h := h.below (Nat.le_refl _) hb
  obtain ⟨g, hg⟩ : ∃ g, g = w.heap.size := ⟨_, rfl⟩
  rw [← hg] at q0 hsz
  have HG : Hid (g = w.heap.size) := hg
  obtain ⟨z, hz⟩ : ∃ z, z = zv neg (val xs) := ⟨_, rfl⟩
  have HZ : Hid (z = zv neg (val xs)) := hz
  rw [← hz]
  clear hz
  go_enter Tryz.func103, Tryz.ntmps103
  go_wp2_with fail
  rw [← HW1.out, ← hg]
  clear HW1 hg
  refine (norm_ref _ _ _ h (by omega)).mono ?_
  rintro e w2 ⟨u, rfl, hu, hb2⟩
  obtain ⟨uo, uc, rfl, _, _⟩ := hu.num.ao
  obtain ⟨ul, hul⟩ : ∃ l, l = (lim (val xs)).length := ⟨_, rfl⟩
  rw [← hul] at hu ⊢
  have hbz : (neg && decide (0 < ul)) = decide (z < 0) := by rw [hul, HZ.out]; exact sign_eq _ _
  replace q0 := q0.below hb2
  replace hb := bstep hb hb2
  have hu' : Own W1.heap.size 69 w2 (.slice uo ul uc) (lim z.natAbs) := by rw [HZ.out, zv_abs]; exact hu
  cases neg
  · have HE : Hid (IEnd w z (.returned (.agg #[.bool false, .slice uo ul uc])) ((w2.setCell ⟨g, 0, none⟩ (.bool false)).setCell ⟨g, 1, none⟩ (.slice uo ul uc))) := (int_done (by rw [← hbz]; rfl) (by rw [HG.out]; omega) hu' hsz hb).i
    have HW : Hid (ICell ((w2.setCell ⟨g, 0, none⟩ (.bool false)).setCell ⟨g, 1, none⟩ (.slice uo ul uc)) g false (.slice uo ul uc)) := q0.write _ _
    obtain ⟨y0, y1⟩ := q0.cells
    have f0 := q0.thaw 0
    have f1 := q0.thaw 1
    clear q0 hb hu hu' hb2 hsz hbz hul h hl
    go_wp2_with fail
    (try simp only [Exit.inBlock, Exit.then])
    exact bodyPost_ret (results_cell_row rfl _ _ g 25 _ (0, 0) _ rfl HW.out Tryz.underlying25 rfl (by kernel_rfl)) rfl HE.out
  · obtain ⟨b, hbb⟩ : ∃ b, b = decide (0 < ul) := ⟨_, rfl⟩
    have HE : Hid (IEnd w z (.returned (.agg #[.bool b, .slice uo ul uc])) ((w2.setCell ⟨g, 0, none⟩ (.bool b)).setCell ⟨g, 1, none⟩ (.slice uo ul uc))) := (int_done (by rw [← hbz, hbb]; rfl) (by rw [HG.out]; omega) hu' hsz hb).i
    have HW : Hid (ICell ((w2.setCell ⟨g, 0, none⟩ (.bool b)).setCell ⟨g, 1, none⟩ (.slice uo ul uc)) g b (.slice uo ul uc)) := q0.write _ _
    obtain ⟨y0, y1⟩ := q0.cells
    have f0 := q0.thaw 0
    have f1 := q0.thaw 1
    have hb1 : decide (0 < ul) = b := hbb.symm
    clear q0 hb hu hu' hb2 hsz hbz hul h hl hbb
    go_wp2_with fail
    (try simp only [Exit.inBlock, Exit.then])
    exact bodyPost_ret (results_cell_row rfl _ _ g 25 _ (0, 0) _ rfl HW.out Tryz.underlying25 rfl (by kernel_rfl)) rfl HE.out

set_option maxRecDepth 100000 in
set_option maxHeartbeats 3200000 in
theorem same02 (a b : Value) (z : Int) (w : World) (ha : IStd w a z) (hb : IStd w b z) :
    Calls Tryz.prog 23 #[a, b] w fun e w' => e = .returned (.bool true) ∧ Below w.heap.size w w' := by
  obtain ⟨m, rfl, hm⟩ := ha
  obtain ⟨k, rfl, hk⟩ := hb
  obtain ⟨mo, mc, rfl, _, _⟩ := hm.ao
  obtain ⟨ko, kc, rfl, _, _⟩ := hk.ao
  obtain ⟨n, hn⟩ : ∃ n, n = (lim z.natAbs).length := ⟨_, rfl⟩
  rw [← hn] at hm hk ⊢
  clear hn
  obtain ⟨bb, hbb⟩ : ∃ b, b = decide (z < 0) := ⟨_, rfl⟩
  rw [← hbb]
  clear hbb
  have hself : (bb == bb) = true := by simp
  obtain ⟨W1, hW1⟩ : ∃ W1, W1 = (w.alloc (.cells #[.bool bb, .slice mo n mc] 25)).alloc (.cells #[.bool bb, .slice ko n kc] 25) := ⟨_, rfl⟩
  have q0 : ICell W1 (w.heap.size) bb (.slice mo n mc) := by rw [hW1]; exact icell_step (icell_new _ (by simp))
  have q1 : ICell W1 (w.heap.size + 1) bb (.slice ko n kc) := by rw [hW1]; exact icell_new _ (by simp)
  have hB : Below w.heap.size w W1 := by rw [hW1]; exact bstep (belowA w _) (belowA _ _)
  have HW1 : Hid (W1 = (w.alloc (.cells #[.bool bb, .slice mo n mc] 25)).alloc (.cells #[.bool bb, .slice ko n kc] 25)) := hW1
  clear hW1
  replace hm := hm.below (Nat.le_refl _) hB
  replace hk := hk.below (Nat.le_refl _) hB
  go_enter Tryz.func23, Tryz.ntmps23
  go_wp2_with fail
  rw [← HW1.out]
  clear HW1
  obtain ⟨g, hg⟩ : ∃ g, g = w.heap.size := ⟨_, rfl⟩
  rw [← hg] at q0 q1 ⊢
  have HB : Hid (Below w.heap.size w W1) := hB
  clear hg hB
  obtain ⟨c0, d0⟩ := q0.cells
  obtain ⟨c1, d1⟩ := q1.cells
  clear q0 q1
  go_wp2_with fail
  refine (same_yes _ _ _ _ hm hk).mono ?_
  rintro e w2 ⟨rfl, q, hq⟩
  have HE : Hid (Below w.heap.size w w2) := by rw [hq]; exact bstep HB.out (below_drewN (Below.refl _ _) q)
  clear hq hm hk HB c0 d0 c1 d1
  go_wp2_with fail
  go_ret
  exact ⟨rfl, HE.out⟩

/-- What is read, and the error's number. -/
def pz (s : ByteArray) : Int := if DigOk (tail s) ∧ 0 < (tail s).size then zv (strk s) (bval (dgs (tail s))) else 0
def pe (s : ByteArray) : Int := if DigOk (tail s) ∧ 0 < (tail s).size then 0 else 10
/-- What a reader leaves. -/
def PEnd (w : World) (z er : Int) (e : Ending) (w' : World) : Prop := ∃ v, e = .returned (.tuple #[v, .int .i64 er]) ∧ IOwn w.heap.size w' v z ∧ Below w.heap.size w w'
theorem IOwn.nil (B : Nat) (w : World) : IOwn B w (.agg #[.bool false, .slice none 0 0]) 0 := ⟨_, rfl, Own.of_nil _ _ _⟩
theorem c_parse2 (s : ByteArray) (w : World) (hs : s.size ≤ 1000000) : Calls Tryz.prog 83 #[.string s] w fun e w' => PEnd w (pz s) (pe s) e w' := by
  refine (c_parse s w hs).mono ?_
  intro e w' h
  unfold pz pe
  by_cases hd : DigOk (tail s) ∧ 0 < (tail s).size
  · rw [if_pos hd] at h ⊢
    rw [if_pos hd]
    exact h
  · rw [if_neg hd] at h ⊢
    rw [if_neg hd]
    exact ⟨_, h.1, IOwn.nil _ _, h.2⟩
theorem strk_bt {s : ByteArray} (h : 0 < s.size) : strk s = decide (bt s 0 = 45) := by
  rw [strk_eq]
  unfold bt
  cases hl : s.data.toList with
  | nil => rw [s_size, hl] at h; exact absurd h (by simp)
  | cons x r =>
    rw [Bool.eq_iff_iff]
    simp
    exact ⟨fun h => by rw [h]; rfl, fun h => UInt8.toNat_inj.1 h⟩

/-- How many limbs a text's number has. -/
theorem lim_dgs {t : ByteArray} (hd : DigOk t) : (lim (bval (dgs t))).length ≤ t.size := by
  apply lim_len_le
  have h1 := dval_lt (decs_rev hd.decs)
  rw [List.length_reverse, dgs_len] at h1
  exact Nat.lt_of_lt_of_le h1 (Nat.pow_le_pow_left (by decide : 10 ≤ 4294967296) _)
theorem mk_pend {w w4 : World} {g : Nat} {z : Int} {m : Value} {B : Nat} (hg : g = w.heap.size) (ho : Own B 69 w4 m (lim z.natAbs)) (hgB : g < B) (hb : Below w.heap.size w w4) :
    PEnd w z 0 (.returned (.tuple #[.agg #[.bool (decide (z < 0)), m], .int .i64 0])) ((w4.setCell ⟨g, 0, none⟩ (.bool (decide (z < 0)))).setCell ⟨g, 1, none⟩ m) := by
  obtain ⟨v9, he9, ho9, hb9⟩ := (int_done (w := w) (g := g) (z := z) rfl (by rw [hg]; exact Nat.le_refl _) ho hgB hb).i
  cases he9
  exact ⟨_, rfl, ho9, hb9⟩

end Go.Proofs.YtcmclmhfjmmffaaGreatDoor

namespace Go.Proofs.YtcmclmhfjmmffaaGreatDoor
open Go.RowKit

end Go.Proofs.YtcmclmhfjmmffaaGreatDoor

namespace Go.Proofs.YtcmclmhfjmmffaaGreatDoor
open Go.RowKit

/-- What ten leaves. -/
def TenEnd (w : World) (v : Nat) (e : Ending) (w' : World) : Prop :=
  ∃ o, e = .returned (.tuple #[o, .int .i64 ((v % 10 : Nat) : Int)]) ∧ Own w.heap.size 69 w' o (lim (v / 10)) ∧ Below w.heap.size w w'

set_option maxRecDepth 100000 in
set_option maxHeartbeats 1600000 in
theorem ten_ref (u : Value) (xs : List Nat) (w : World) (h : Num w u xs) (hlen : xs.length ≤ 1000000) :
    Calls Tryz.prog 121 #[u] w fun e w' => TenEnd w (val xs) e w' := by
  obtain ⟨hbx, ao, cap, rfl, hca, hma, _, hcell⟩ := h.open_
  obtain ⟨i0, hi, hz0, hz1, hz2⟩ := info_parts Tryz.infoU
  obtain ⟨n, hn⟩ : ∃ n, n = xs.length := ⟨_, rfl⟩
  rw [← hn] at hlen hca ⊢
  have HN : Hid (n = xs.length) := hn
  clear hn h
  go_enter Tryz.func121, Tryz.ntmps121
  go_wp2_with (at_make; refine wpList_make_full _ rfl _ _ 23 rfl w.heap.size 69 i0 (.int .u32 0) 1 Tryz.underlying23 hi hz0 hz1 _ _ _ _ n rfl rfl (by omega) (by omega) (by rw [hz2]; omega) (by unfold maxLen; omega) (Nat.le_refl _) ?_)
  intro w2 ho2 hg2
  have how := own_made ho2
  have hbel : Below w.heap.size w w2 := (Below.refl w.heap.size w).grown hg2 (Nat.le_refl _) (by intro k hk; simp at hk)
  obtain ⟨g, hg⟩ : ∃ g, g = w.heap.size := ⟨_, rfl⟩
  have HB : Hid (Below w.heap.size w w2 ∧ Cells w2 g (List.replicate n 0)) := by rw [hg]; exact ⟨hbel, how.cells⟩
  have HG : Hid (g = w.heap.size) := hg
  rw [← hg]
  clear hg hbel how ho2 hg2
  go_wp2
  go_loopw [5, 6] (fun lv t wr => ∃ (i l : Nat) (ys : List Nat), i ≤ n ∧ t = .int .i64 ((i : Int) - 1) ∧ lv = .int .u64 l ∧ l < 10 ∧ ys.length = n ∧ Cells wr g ys ∧ Below w.heap.size w wr ∧ val (ys.drop i) * 10 + l = val (xs.drop i)) (fun _ t _ => (intOf t + 1).toNat)
  case atStart =>
    refine ⟨n, 0, List.replicate n 0, Nat.le_refl _, rfl, rfl, by omega, by simp, HB.out.2, HB.out.1, ?_⟩
    rw [List.drop_of_length_le (by simp), List.drop_of_length_le (by rw [← HN.out]; exact Nat.le_refl _)]
    simp [val]
  case round =>
    clear HB
    obtain ⟨i, l, ys, hin, rfl, rfl, hlb, hyl, hcs, hbel, hinv⟩ := hrel
    have HY : Hid (ys.length = n) := hyl
    have HI : Hid (val (ys.drop i) * 10 + l = val (xs.drop i)) := hinv
    clear hyl hinv
    by_cases hi0 : 0 < i
    · obtain ⟨j, rfl⟩ : ∃ j, i = j + 1 := ⟨i - 1, by omega⟩
      rw [show ((j + 1 : Nat) : Int) - 1 = (j : Int) by omega]
      have hge : (0 : Int) ≤ (j : Int) := by omega
      have hjn : (j : Int) < (n : Int) := by omega
      obtain ⟨bb, bo, rfl, hx1⟩ := hcell j (by rw [← HN.out]; omega)
      have cx : wr.cell? ⟨bb, bo + j, none⟩ = some (.int .u32 ((xs.getD j 0 : Nat) : Int)) := by rw [hbel.cell (p := ⟨bb, bo + j, none⟩) (block_lt_of_cell hx1)]; exact hx1
      have hx0 := limb_lt hbx j
      obtain ⟨z, hz⟩ : ∃ z, z = xs.getD j 0 := ⟨_, rfl⟩
      rw [← hz] at cx hx0
      have HZ : Hid (z = xs.getD j 0) := hz
      obtain ⟨cz, hfz⟩ := hcs.cell (k := j) (by rw [HY.out]; omega)
      obtain ⟨y, hy⟩ : ∃ y, y = ys.getD j 0 := ⟨_, rfl⟩
      rw [← hy] at cz
      have hT1 : l * 4294967296 + z ≤ 42949672959 := by omega
      have hset := hcs.set j ((l * 4294967296 + z) / 10) (by omega)
      have hbel2 := hbel.setCell (p := ⟨g, j, none⟩) (by show _ ≤ g; rw [HG.out]; exact Nat.le_refl _) (U ((l * 4294967296 + z) / 10))
      rw [show U ((l * 4294967296 + z) / 10) = .int .u32 (((l : Int) * 4294967296 + (z : Int)) / 10) by simp [U]] at hset hbel2
      clear hz hy hcs hbel hcell hx1
      go_wp2
      go_roundw
      case rel =>
        refine ⟨j, (l * 4294967296 + z) % 10, _, by omega, by go_num, by go_num, by omega, by rw [List.length_set]; exact HY.out, hset, hbel2, ?_⟩
        exact div_by_step (by rw [HY.out]; omega) HI.out (by rw [← HZ.out]; omega)
      case measure => simp [intOf]
    · have hi1 : i = 0 := by omega
      subst hi1
      have hge : ¬ (0 : Int) ≤ ((0 : Nat) : Int) - 1 := by omega
      have hfin := HI.out
      rw [List.drop_zero, List.drop_zero] at hfin
      have h1 : val xs % 10 = l := by omega
      have h2 : val ys = val xs / 10 := by omega
      have hny : Num wr (.slice (some ⟨g, 0, none⟩) n n) ys := by
        have := (hcs.own (B := 0) (Nat.zero_le _) (by rw [HY.out]; omega)).num
        rw [HY.out] at this; exact this
      have HH : Hid (val xs % 10 = l ∧ val ys = val xs / 10) := ⟨h1, h2⟩
      clear h1 h2 hfin hcs hcell
      go_wp2_with fail
      refine (norm_ref _ _ _ hny (by rw [HY.out]; omega)).mono ?_
      rintro e w3 ⟨o, rfl, hoo, hb3⟩
      rw [HH.out.2] at hoo
      have HE : Hid (TenEnd w (val xs) (.returned (.tuple #[o, .int .i64 (l : Int)])) w3) := ⟨o, by rw [HH.out.1], hoo.mono hbel.size, hbel.trans (hb3.mono hbel.size)⟩
      clear hoo hb3 hbel hny
      go_wp2_with fail
      go_ret2
      exact HE.out
end Go.Proofs.YtcmclmhfjmmffaaGreatDoor

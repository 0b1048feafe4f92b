/-
  Proved here: what Make, Same and Parse of the plain way over whole numbers answer.
-/
import Derived.Test.YtcbfhakolfcmgaaDoorStrMath
import Derived.Test.YtcbfhakolfcmgaaDoorRefParseAll
namespace Go.Proofs.YtcbfhakolfcmgaaDoor
open Go.RowKit

/-- A whole number as it should stand. -/
def IStd (w : World) (v : Value) (z : Int) : Prop := ∃ m, v = .agg #[.bool (decide (z < 0)), m] ∧ Num w m (lim z.natAbs)
theorem IOwn.std {B : Nat} {w : World} {v : Value} {z : Int} (h : IOwn B w v z) : IStd w v z := by
  obtain ⟨m, e, ho⟩ := h
  exact ⟨m, e, ho.num⟩
theorem IStd.below {w w' : World} {v : Value} {z : Int} (h : IStd w v z) (hb : Below w.heap.size w w') : IStd w' v z := by
  obtain ⟨m, e, ho⟩ := h
  exact ⟨m, e, ho.below (Nat.le_refl _) hb⟩

set_option maxRecDepth 100000 in
set_option maxHeartbeats 3200000 in
theorem make_ref (neg : Bool) (m : Value) (xs : List Nat) (w : World) (h : Num w m xs) (hl : xs.length ≤ 1000000000) :
    Calls Tryd.prog 45 #[.bool neg, m] w fun e w' => IEnd w (zv neg (val xs)) e w' := by
  obtain ⟨ao, cap, rfl, _, _⟩ := h.ao
  obtain ⟨al, hal⟩ : ∃ l, l = xs.length := ⟨_, rfl⟩
  rw [← hal] at h ⊢
  clear hal
  obtain ⟨W1, hW1⟩ : ∃ W1, W1 = w.alloc (.cells #[.bool false, .slice none 0 0] 25) := ⟨_, rfl⟩
  have q0 : ICell W1 w.heap.size false (.slice none 0 0) := by rw [hW1]; exact icell_new _ rfl
  have hb : Below w.heap.size w W1 := by rw [hW1]; exact belowA _ _
  have hsz : w.heap.size < W1.heap.size := by rw [hW1]; simp
  have HW1 : Hid (W1 = w.alloc (.cells #[.bool false, .slice none 0 0] 25)) := hW1
  clear hW1
  replace h := h.below (Nat.le_refl _) hb
  obtain ⟨g, hg⟩ : ∃ g, g = w.heap.size := ⟨_, rfl⟩
  rw [← hg] at q0 hsz
  have HG : Hid (g = w.heap.size) := hg
  obtain ⟨z, hz⟩ : ∃ z, z = zv neg (val xs) := ⟨_, rfl⟩
  have HZ : Hid (z = zv neg (val xs)) := hz
  rw [← hz]
  clear hz
  go_enter Tryd.func45, Tryd.ntmps45
  go_wp2_with fail
  rw [← HW1.out, ← hg]
  clear HW1 hg
  refine (norm_ref _ _ _ h (by omega)).mono ?_
  rintro e w2 ⟨u, rfl, hu, hb2⟩
  obtain ⟨uo, uc, rfl, _, _⟩ := hu.num.ao
  obtain ⟨ul, hul⟩ : ∃ l, l = (lim (val xs)).length := ⟨_, rfl⟩
  rw [← hul] at hu ⊢
  have hbz : (neg && decide (0 < ul)) = decide (z < 0) := by rw [hul, HZ.out]; exact sign_eq _ _
  replace q0 := q0.below hb2
  replace hb := bstep hb hb2
  have hu' : Own W1.heap.size 64 w2 (.slice uo ul uc) (lim z.natAbs) := by rw [HZ.out, zv_abs]; exact hu
  cases neg
  · have HE : Hid (IEnd w z (.returned (.agg #[.bool false, .slice uo ul uc])) ((w2.setCell ⟨g, 0, none⟩ (.bool false)).setCell ⟨g, 1, none⟩ (.slice uo ul uc))) := (int_done (by rw [← hbz]; rfl) (by rw [HG.out]; omega) hu' hsz hb).i
    have HW : Hid (ICell ((w2.setCell ⟨g, 0, none⟩ (.bool false)).setCell ⟨g, 1, none⟩ (.slice uo ul uc)) g false (.slice uo ul uc)) := q0.write _ _
    obtain ⟨y0, y1⟩ := q0.cells
    have f0 := q0.thaw 0
    have f1 := q0.thaw 1
    clear q0 hb hu hu' hb2 hsz hbz hul h hl
    go_wp2_with fail
    (try simp only [Exit.inBlock, Exit.then])
    exact bodyPost_ret (results_cell_row rfl _ _ g 25 _ (0, 0) _ rfl HW.out Tryd.underlying25 rfl (by kernel_rfl)) rfl HE.out
  · obtain ⟨b, hbb⟩ : ∃ b, b = decide (0 < ul) := ⟨_, rfl⟩
    have HE : Hid (IEnd w z (.returned (.agg #[.bool b, .slice uo ul uc])) ((w2.setCell ⟨g, 0, none⟩ (.bool b)).setCell ⟨g, 1, none⟩ (.slice uo ul uc))) := (int_done (by rw [← hbz, hbb]; rfl) (by rw [HG.out]; omega) hu' hsz hb).i
    have HW : Hid (ICell ((w2.setCell ⟨g, 0, none⟩ (.bool b)).setCell ⟨g, 1, none⟩ (.slice uo ul uc)) g b (.slice uo ul uc)) := q0.write _ _
    obtain ⟨y0, y1⟩ := q0.cells
    have f0 := q0.thaw 0
    have f1 := q0.thaw 1
    have hb1 : decide (0 < ul) = b := hbb.symm
    clear q0 hb hu hu' hb2 hsz hbz hul h hl hbb
    go_wp2_with fail
    (try simp only [Exit.inBlock, Exit.then])
    exact bodyPost_ret (results_cell_row rfl _ _ g 25 _ (0, 0) _ rfl HW.out Tryd.underlying25 rfl (by kernel_rfl)) rfl HE.out

set_option maxRecDepth 100000 in
set_option maxHeartbeats 3200000 in
theorem same02 (a b : Value) (z : Int) (w : World) (ha : IStd w a z) (hb : IStd w b z) :
    Calls Tryd.prog 16 #[a, b] w fun e w' => e = .returned (.bool true) ∧ Below w.heap.size w w' := by
  obtain ⟨m, rfl, hm⟩ := ha
  obtain ⟨k, rfl, hk⟩ := hb
  obtain ⟨mo, mc, rfl, _, _⟩ := hm.ao
  obtain ⟨ko, kc, rfl, _, _⟩ := hk.ao
  obtain ⟨n, hn⟩ : ∃ n, n = (lim z.natAbs).length := ⟨_, rfl⟩
  rw [← hn] at hm hk ⊢
  clear hn
  obtain ⟨bb, hbb⟩ : ∃ b, b = decide (z < 0) := ⟨_, rfl⟩
  rw [← hbb]
  clear hbb
  have hself : (bb == bb) = true := by simp
  obtain ⟨W1, hW1⟩ : ∃ W1, W1 = (w.alloc (.cells #[.bool bb, .slice mo n mc] 25)).alloc (.cells #[.bool bb, .slice ko n kc] 25) := ⟨_, rfl⟩
  have q0 : ICell W1 (w.heap.size) bb (.slice mo n mc) := by rw [hW1]; exact icell_step (icell_new _ (by simp))
  have q1 : ICell W1 (w.heap.size + 1) bb (.slice ko n kc) := by rw [hW1]; exact icell_new _ (by simp)
  have hB : Below w.heap.size w W1 := by rw [hW1]; exact bstep (belowA w _) (belowA _ _)
  have HW1 : Hid (W1 = (w.alloc (.cells #[.bool bb, .slice mo n mc] 25)).alloc (.cells #[.bool bb, .slice ko n kc] 25)) := hW1
  clear hW1
  replace hm := hm.below (Nat.le_refl _) hB
  replace hk := hk.below (Nat.le_refl _) hB
  go_enter Tryd.func16, Tryd.ntmps16
  go_wp2_with fail
  rw [← HW1.out]
  clear HW1
  obtain ⟨g, hg⟩ : ∃ g, g = w.heap.size := ⟨_, rfl⟩
  rw [← hg] at q0 q1 ⊢
  have HB : Hid (Below w.heap.size w W1) := hB
  clear hg hB
  obtain ⟨c0, d0⟩ := q0.cells
  obtain ⟨c1, d1⟩ := q1.cells
  clear q0 q1
  go_wp2_with fail
  refine (same_yes _ _ _ _ hm hk).mono ?_
  rintro e w2 ⟨rfl, q, hq⟩
  have HE : Hid (Below w.heap.size w w2) := by rw [hq]; exact bstep HB.out (below_drewN (Below.refl _ _) q)
  clear hq hm hk HB c0 d0 c1 d1
  go_wp2_with fail
  go_ret
  exact ⟨rfl, HE.out⟩

/-- What is read, and the error's number. -/
def pz (s : ByteArray) : Int := if DigOk (tail s) ∧ 0 < (tail s).size then zv (strk s) (bval (dgs (tail s))) else 0
def pe (s : ByteArray) : Int := if DigOk (tail s) ∧ 0 < (tail s).size then 0 else 10
/-- What a reader leaves. -/
def PEnd (w : World) (z er : Int) (e : Ending) (w' : World) : Prop := ∃ v, e = .returned (.tuple #[v, .int .i64 er]) ∧ IOwn w.heap.size w' v z ∧ Below w.heap.size w w'
theorem IOwn.nil (B : Nat) (w : World) : IOwn B w (.agg #[.bool false, .slice none 0 0]) 0 := ⟨_, rfl, Own.of_nil _ _ _⟩
theorem c_parse2 (s : ByteArray) (w : World) (hs : s.size ≤ 1000000) : Calls Tryd.prog 19 #[.string s] w fun e w' => PEnd w (pz s) (pe s) e w' := by
  refine (c_parse s w hs).mono ?_
  intro e w' h
  unfold pz pe
  by_cases hd : DigOk (tail s) ∧ 0 < (tail s).size
  · rw [if_pos hd] at h ⊢
    rw [if_pos hd]
    exact h
  · rw [if_neg hd] at h ⊢
    rw [if_neg hd]
    exact ⟨_, h.1, IOwn.nil _ _, h.2⟩
theorem strk_bt {s : ByteArray} (h : 0 < s.size) : strk s = decide (bt s 0 = 45) := by
  rw [strk_eq]
  unfold bt
  cases hl : s.data.toList with
  | nil => rw [s_size, hl] at h; exact absurd h (by simp)
  | cons x r =>
    rw [Bool.eq_iff_iff]
    simp
    exact ⟨fun h => by rw [h]; rfl, fun h => UInt8.toNat_inj.1 h⟩

/-- How many limbs a text's number has. -/
theorem lim_dgs {t : ByteArray} (hd : DigOk t) : (lim (bval (dgs t))).length ≤ t.size := by
  apply lim_len_le
  have h1 := dval_lt (decs_rev hd.decs)
  rw [List.length_reverse, dgs_len] at h1
  exact Nat.lt_of_lt_of_le h1 (Nat.pow_le_pow_left (by decide : 10 ≤ 4294967296) _)
theorem mk_pend {w w4 : World} {g : Nat} {z : Int} {m : Value} {B : Nat} (hg : g = w.heap.size) (ho : Own B 64 w4 m (lim z.natAbs)) (hgB : g < B) (hb : Below w.heap.size w w4) :
    PEnd w z 0 (.returned (.tuple #[.agg #[.bool (decide (z < 0)), m], .int .i64 0])) ((w4.setCell ⟨g, 0, none⟩ (.bool (decide (z < 0)))).setCell ⟨g, 1, none⟩ m) := by
  obtain ⟨v9, he9, ho9, hb9⟩ := (int_done (w := w) (g := g) (z := z) rfl (by rw [hg]; exact Nat.le_refl _) ho hgB hb).i
  cases he9
  exact ⟨_, rfl, ho9, hb9⟩

end Go.Proofs.YtcbfhakolfcmgaaDoor

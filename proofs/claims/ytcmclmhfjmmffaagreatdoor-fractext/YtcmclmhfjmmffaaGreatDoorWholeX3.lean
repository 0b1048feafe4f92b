/-
  Proved here: what Parse of package whole answers. Proved here: alive of credencelaw02 answers yes. Proved here: what the small functions of credencelaw02 answer.
-/
import Derived.Test.YtcmclmhfjmmffaaGreatDoorWholeX2
import Derived.Test.YtcmclmhfjmmffaaGreatDoorTrimLAll
namespace Go.Proofs.YtcmclmhfjmmffaaGreatDoor
open Go.RowKit

/-- A stroke ahead. -/
def strk (s : ByteArray) : Bool := decide (0 < s.size) && ((s.extract 0 1).toList == [45])

set_option maxRecDepth 100000 in
set_option maxHeartbeats 3200000 in
theorem cut_any' (s : ByteArray) (w : World) (hs : s.size ≤ 1000000) :
    Calls Tryz.prog 117 #[.string s, .string ⟨#[45]⟩] w fun e w' => e = .returned (.tuple #[.string (if strk s then s.extract 1 s.size else s), .bool (strk s)]) ∧ w' = w := by
  by_cases h0 : 0 < s.size
  · cases hb : ((s.extract 0 1).toList == [45])
    · have HK : Hid (strk s = false) := by show _ = _; unfold strk; rw [hb]; simp
      rw [HK.out, if_neg (by decide)]
      have h1 : (1 : Int) ≤ (s.size : Int) := by omega
      go_enter Tryz.func117, Tryz.ntmps117
      go_wp2
      go_ret2
      exact ⟨rfl, rfl⟩
    · have HK : Hid (strk s = true) := by show _ = _; unfold strk; rw [hb, decide_eq_true h0]; rfl
      rw [HK.out, if_pos rfl]
      have h1 : (1 : Int) ≤ (s.size : Int) := by omega
      go_enter Tryz.func117, Tryz.ntmps117
      go_wp2
      go_ret2
      exact ⟨rfl, rfl⟩
  · have HK : Hid (strk s = false) := by show _ = _; unfold strk; rw [decide_eq_false h0]; rfl
    rw [HK.out, if_neg (by decide)]
    have h1 : ¬ (1 : Int) ≤ (s.size : Int) := by omega
    go_enter Tryz.func117, Tryz.ntmps117
    go_wp2
    go_ret2
    exact ⟨rfl, rfl⟩
theorem results_ct {P : Program} {fn : Func} {p u : Tmp} {ty : TypeId} (h : fn.results = #[.cell p ty, .tmp u]) (tmps : Array Value) (w : World) (g : Nat) (t : TypeId) (cs : Array Value) (fr : Nat × Nat) (d : TypeDesc)
    (hp : tmps.getD p undef = .pointer (some ⟨g, 0, none⟩)) (hg : w.heap[g]? = some (.cells cs t fr))
    (hu : P.underlying ty = some d) (hd : (match d with | .struct _ | .array _ _ => true | _ => false) = true) (hi : (P.info? ty).map (·.size) = some cs.size) :
    (results fn tmps).run P w = .ok (.tuple #[.agg cs, tmps.getD u undef]) w := by
  have hp' : tmps[p]?.getD undef = .pointer (some ⟨g, 0, none⟩) := by simpa using hp
  simp [results, h, hp', asAddr, run_loadVar_row w g t ty cs fr d hg hu hd hi]
/-- The digits behind a stroke. -/
def tail (s : ByteArray) : ByteArray := if strk s then s.extract 1 s.size else s
theorem tail_size (s : ByteArray) : (tail s).size ≤ s.size := by
  unfold tail
  split
  · rw [ByteArray.size_extract]; omega
  · exact Nat.le_refl _

set_option maxRecDepth 100000 in
set_option maxHeartbeats 3200000 in
theorem c_parse (s : ByteArray) (w : World) (hs : s.size ≤ 1000000) :
    Calls Tryz.prog 83 #[.string s] w fun e w' => if DigOk (tail s) ∧ 0 < (tail s).size then ∃ v, e = .returned (.tuple #[v, .int .i64 0]) ∧ IOwn w.heap.size w' v (zv (strk s) (bval (dgs (tail s)))) ∧ Below w.heap.size w w'
      else e = .returned (.tuple #[.agg #[.bool false, .slice none 0 0], .int .i64 10]) ∧ Below w.heap.size w w' := by
  have hts := tail_size s
  obtain ⟨W1, hW1⟩ : ∃ W1, W1 = w.alloc (.cells #[.bool false, .slice none 0 0] 25) := ⟨_, rfl⟩
  have q0 : ICell W1 w.heap.size false (.slice none 0 0) := by rw [hW1]; exact icell_new _ rfl
  have hb : Below w.heap.size w W1 := by rw [hW1]; exact belowA _ _
  have hsz : w.heap.size < W1.heap.size := by rw [hW1]; simp
  have HW1 : Hid (W1 = w.alloc (.cells #[.bool false, .slice none 0 0] 25)) := hW1
  clear hW1
  obtain ⟨g, hg⟩ : ∃ g, g = w.heap.size := ⟨_, rfl⟩
  rw [← hg] at q0 hsz
  have HG : Hid (g = w.heap.size) := hg
  have hcut := cut_any' s W1 hs
  rw [show (if strk s = true then s.extract 1 s.size else s) = tail s from rfl] at hcut
  obtain ⟨t, ht⟩ : ∃ t, t = tail s := ⟨_, rfl⟩
  obtain ⟨k, hk⟩ : ∃ k, k = strk s := ⟨_, rfl⟩
  rw [← ht] at hcut hts ⊢
  rw [← hk] at hcut ⊢
  clear ht hk
  by_cases hd : DigOk t ∧ 0 < t.size
  · simp only [hd]
    obtain ⟨z, hz⟩ : ∃ z, z = zv k (bval (dgs t)) := ⟨_, rfl⟩
    have HZ : Hid (z = zv k (bval (dgs t))) := hz
    rw [← hz]
    clear hz
    go_enter Tryz.func83, Tryz.ntmps83
    go_wp2_with fail
    rw [← HW1.out, ← hg]
    clear HW1 hg
    refine hcut.mono ?_
    rintro e w2 ⟨rfl, rfl⟩
    clear hcut
    go_wp2_with fail
    refine (parse_any t _ (by omega)).mono ?_
    rintro e w3 ⟨u, rfl, hu, hb3⟩
    rw [if_pos hd]
    rw [if_pos hd] at hu
    obtain ⟨uo, ul, uc, rfl⟩ := hu.sl
    replace q0 := q0.below hb3
    replace hb := bstep hb hb3
    have HB : Hid (g < w2.heap.size) := hsz
    go_wp2_with fail
    refine (signed_any _ _ _ _ hu.num).mono ?_
    rintro e w4 ⟨rfl, hb4⟩
    rw [sign_eq, ← HZ.out]
    replace q0 := q0.below hb4
    replace hb := bstep hb hb4
    replace hu := hu.below hb4
    have hE := (int_done (w := w) (g := g) (z := z) rfl (by rw [HG.out]; exact Nat.le_refl _) (by rw [HZ.out, zv_abs]; exact hu) HB.out hb).i
    obtain ⟨v9, he9, ho9, hb9⟩ := hE
    cases he9
    have HE : Hid (∃ v, (Ending.returned (.tuple #[.agg #[.bool (decide (z < 0)), .slice uo ul uc], .int .i64 0])) = .returned (.tuple #[v, .int .i64 0]) ∧ IOwn w.heap.size ((w4.setCell ⟨g, 0, none⟩ (.bool (decide (z < 0)))).setCell ⟨g, 1, none⟩ (.slice uo ul uc)) v z ∧ Below w.heap.size w ((w4.setCell ⟨g, 0, none⟩ (.bool (decide (z < 0)))).setCell ⟨g, 1, none⟩ (.slice uo ul uc))) := ⟨_, rfl, ho9, hb9⟩
    have HW : Hid (ICell ((w4.setCell ⟨g, 0, none⟩ (.bool (decide (z < 0)))).setCell ⟨g, 1, none⟩ (.slice uo ul uc)) g (decide (z < 0)) (.slice uo ul uc)) := q0.write _ _
    obtain ⟨y0, y1⟩ := q0.cells
    have f0 := q0.thaw 0
    have f1 := q0.thaw 1
    clear q0 hb hu hb3 hb4 ho9 hb9 hsz hd
    go_wp2_with fail
    (try simp only [Exit.inBlock, Exit.then])
    exact bodyPost_ret (results_ct (p := 2) (u := 3) rfl _ _ g 25 _ (0, 0) _ rfl HW.out Tryz.underlying25 rfl (by kernel_rfl)) rfl HE.out
  · simp only [hd, if_false]
    go_enter Tryz.func83, Tryz.ntmps83
    go_wp2_with fail
    rw [← HW1.out, ← hg]
    clear HW1 hg
    refine hcut.mono ?_
    rintro e w2 ⟨rfl, rfl⟩
    clear hcut
    go_wp2_with fail
    refine (parse_any t _ (by omega)).mono ?_
    rintro e w3 ⟨u, rfl, hu, hb3⟩
    rw [if_neg hd]
    replace q0 := q0.below hb3
    replace hb := bstep hb hb3
    have HE : Hid (Below w.heap.size w ((w3.setCell ⟨g, 0, none⟩ (.bool false)).setCell ⟨g, 1, none⟩ (.slice none 0 0))) := iend2 hb (by rw [HG.out]; exact Nat.le_refl _)
    have HW : Hid (ICell ((w3.setCell ⟨g, 0, none⟩ (.bool false)).setCell ⟨g, 1, none⟩ (.slice none 0 0)) g false (.slice none 0 0)) := q0.write _ _
    obtain ⟨y0, y1⟩ := q0.cells
    have f0 := q0.thaw 0
    have f1 := q0.thaw 1
    clear q0 hb hu hb3 hsz hd
    go_wp2_with fail
    (try simp only [Exit.inBlock, Exit.then])
    exact bodyPost_ret (results_ct (p := 2) (u := 3) rfl _ _ g 25 _ (0, 0) _ rfl HW.out Tryz.underlying25 rfl (by kernel_rfl)) rfl ⟨rfl, HE.out⟩
end Go.Proofs.YtcmclmhfjmmffaaGreatDoor

namespace Go.Proofs.YtcmclmhfjmmffaaGreatDoor
open Go.RowKit

theorem IOwn.see {B : Nat} {w : World} {v : Value} {z : Int} (h : IOwn B w v z) {L : Nat} (hs : Sz z L) (hL : L ≤ 1000000) : ∃ n o l c, v = .agg #[.bool n, .slice o l c] ∧ INum w (.agg #[.bool n, .slice o l c]) z := by
  have hi := h.num hs hL
  obtain ⟨m, rfl, ho⟩ := h
  obtain ⟨o, l, c, rfl⟩ := ho.sl
  exact ⟨_, o, l, c, rfl, hi⟩
theorem INum.see {w : World} {v : Value} {z : Int} (h : INum w v z) : ∃ n o l c, v = .agg #[.bool n, .slice o l c] ∧ INum w (.agg #[.bool n, .slice o l c]) z := by
  obtain ⟨n, o, l, c, xs, rfl, h1, h2, h3⟩ := h
  exact ⟨n, o, l, c, rfl, n, o, l, c, xs, rfl, h1, h2, h3⟩
theorem Own.see {B : Nat} {w : World} {m : Value} {z : Int} (h : Own B 69 w m (lim z.natAbs)) {L : Nat} (hs : Sz z L) (hL : L ≤ 1000000) : ∃ n o l c, n = decide (z < 0) ∧ m = .slice o l c ∧ INum w (.agg #[.bool n, .slice o l c]) z := by
  obtain ⟨o, l, c, rfl⟩ := h.sl
  exact ⟨_, o, l, c, rfl, rfl, IOwn.num ⟨_, rfl, h⟩ hs hL⟩
/-- How a whole number is written. -/
def zt (z : Int) : ByteArray := ztxt (decide (z < 0)) z.natAbs
theorem zt_zv (neg : Bool) (n : Nat) : ztxt neg n = zt (zv neg n) := by
  unfold zt ztxt
  rw [zv_abs]
  by_cases h : neg = true ∧ n ≠ 0
  · rw [if_pos h, if_pos ⟨decide_eq_true (by rw [h.1]; unfold zv; simp; omega), h.2⟩]
  · rw [if_neg h, if_neg]
    intro h2
    apply h
    refine ⟨?_, h2.2⟩
    have := of_decide_eq_true h2.1
    cases neg
    · simp [zv] at this; omega
    · rfl
theorem c_text {a : Value} {x : Int} {w : World} (ha : INum w a x) : Calls Tryz.prog 78 #[a] w fun e w' => e = .returned (.string (zt x)) ∧ Below w.heap.size w w' := by
  obtain ⟨na, ao, al, ac, xs, rfl, h1, h2, rfl⟩ := ha
  rw [← zt_zv]
  exact wtext_any _ _ _ _ _ _ h1 h2
theorem Sz.of {z : Int} (h : z.natAbs < 4294967296 ^ 8) : Sz z 8 := ⟨h⟩
/-- The rows of 240 and 46. -/
def IA (r0 s0 t0 r1 s1 t1 : Int) : Prop := (r0 = 240 ∧ s0 = 1 ∧ t0 = 0 ∧ r1 = 46 ∧ s1 = 0 ∧ t1 = 1) ∨ (r0 = 46 ∧ s0 = 0 ∧ t0 = 1 ∧ r1 = 10 ∧ s1 = 1 ∧ t1 = -5) ∨ (r0 = 10 ∧ s0 = 1 ∧ t0 = -5 ∧ r1 = 6 ∧ s1 = -4 ∧ t1 = 21) ∨ (r0 = 6 ∧ s0 = -4 ∧ t0 = 21 ∧ r1 = 4 ∧ s1 = 5 ∧ t1 = -26) ∨ (r0 = 4 ∧ s0 = 5 ∧ t0 = -26 ∧ r1 = 2 ∧ s1 = -9 ∧ t1 = 47) ∨ (r0 = 2 ∧ s0 = -9 ∧ t0 = 47 ∧ r1 = 0 ∧ s1 = 23 ∧ t1 = -120)
theorem IA_step (r0 s0 t0 r1 s1 t1 : Int) (h : IA r0 s0 t0 r1 s1 t1) (hr : r1 ≠ 0) : IA r1 s1 t1 (rz r0 r1) (s0 - r0.tdiv r1 * s1) (t0 - r0.tdiv r1 * t1) := by
  rcases h with ⟨rfl, rfl, rfl, rfl, rfl, rfl⟩ | ⟨rfl, rfl, rfl, rfl, rfl, rfl⟩ | ⟨rfl, rfl, rfl, rfl, rfl, rfl⟩ | ⟨rfl, rfl, rfl, rfl, rfl, rfl⟩ | ⟨rfl, rfl, rfl, rfl, rfl, rfl⟩ | ⟨rfl, rfl, rfl, rfl, rfl, rfl⟩
  · exact Or.inr (Or.inl (by decide))
  · exact Or.inr (Or.inr (Or.inl (by decide)))
  · exact Or.inr (Or.inr (Or.inr (Or.inl (by decide))))
  · exact Or.inr (Or.inr (Or.inr (Or.inr (Or.inl (by decide)))))
  · exact Or.inr (Or.inr (Or.inr (Or.inr (Or.inr (by decide)))))
  · exact absurd rfl hr
theorem small_sz {z : Int} (h : z.natAbs < 4294967296) : Sz z 400000 := Sz.mono (L := 1) ⟨by rw [Nat.pow_one]; exact h⟩ (by decide)
theorem IA_sz (r0 s0 t0 r1 s1 t1 : Int) (h : IA r0 s0 t0 r1 s1 t1) : Sz r0 400000 ∧ Sz s0 400000 ∧ Sz t0 400000 ∧ Sz r1 400000 ∧ Sz s1 400000 ∧ Sz t1 400000 := by
  rcases h with ⟨rfl, rfl, rfl, rfl, rfl, rfl⟩ | ⟨rfl, rfl, rfl, rfl, rfl, rfl⟩ | ⟨rfl, rfl, rfl, rfl, rfl, rfl⟩ | ⟨rfl, rfl, rfl, rfl, rfl, rfl⟩ | ⟨rfl, rfl, rfl, rfl, rfl, rfl⟩ | ⟨rfl, rfl, rfl, rfl, rfl, rfl⟩ <;>
    exact ⟨small_sz (by decide), small_sz (by decide), small_sz (by decide), small_sz (by decide), small_sz (by decide), small_sz (by decide)⟩
theorem bz_240 : bz 240 1 0 46 0 1 = (2, -9, 47) := by
  rw [bz_go (by decide), show rz 240 46 = 10 by decide, show (1 - Int.tdiv 240 46 * 0 : Int) = 1 by decide, show (0 - Int.tdiv 240 46 * 1 : Int) = -5 by decide,
    bz_go (by decide), show rz 46 10 = 6 by decide, show (0 - Int.tdiv 46 10 * 1 : Int) = -4 by decide, show (1 - Int.tdiv 46 10 * -5 : Int) = 21 by decide,
    bz_go (by decide), show rz 10 6 = 4 by decide, show (1 - Int.tdiv 10 6 * -4 : Int) = 5 by decide, show (-5 - Int.tdiv 10 6 * 21 : Int) = -26 by decide,
    bz_go (by decide), show rz 6 4 = 2 by decide, show (-4 - Int.tdiv 6 4 * 5 : Int) = -9 by decide, show (21 - Int.tdiv 6 4 * -26 : Int) = 47 by decide,
    bz_go (by decide), show rz 4 2 = 0 by decide, bz_stop rfl]
theorem big_dig : DigOk (tail ⟨#[45, 49, 48, 48, 48, 48, 48, 48, 48, 48, 48, 48, 48, 48, 48, 48, 48, 48, 48, 48, 48, 48]⟩) ∧ 0 < (tail ⟨#[45, 49, 48, 48, 48, 48, 48, 48, 48, 48, 48, 48, 48, 48, 48, 48, 48, 48, 48, 48, 48, 48]⟩).size := by
  rw [show tail ⟨#[45, 49, 48, 48, 48, 48, 48, 48, 48, 48, 48, 48, 48, 48, 48, 48, 48, 48, 48, 48, 48, 48]⟩ = ⟨#[49, 48, 48, 48, 48, 48, 48, 48, 48, 48, 48, 48, 48, 48, 48, 48, 48, 48, 48, 48, 48]⟩ by kernel_rfl]
  decide
theorem big_val : zv (strk ⟨#[45, 49, 48, 48, 48, 48, 48, 48, 48, 48, 48, 48, 48, 48, 48, 48, 48, 48, 48, 48, 48, 48]⟩) (bval (dgs (tail ⟨#[45, 49, 48, 48, 48, 48, 48, 48, 48, 48, 48, 48, 48, 48, 48, 48, 48, 48, 48, 48, 48, 48]⟩))) = -100000000000000000000 := by kernel_rfl

end Go.Proofs.YtcmclmhfjmmffaaGreatDoor

namespace Go.Proofs.YtcmclmhfjmmffaaGreatDoor
open Go.RowKit

theorem cmpZ_eq (x y : Int) : (cmpZ x y == 0) = decide (x = y) := by
  unfold cmpZ
  by_cases h1 : x < y
  · rw [if_pos h1, decide_eq_false (by omega)]; rfl
  · rw [if_neg h1]
    by_cases h2 : x = y
    · rw [if_pos h2, decide_eq_true h2]; rfl
    · rw [if_neg h2, decide_eq_false h2]; rfl

/-- A number of few limbs, or of many. -/
theorem few {w : World} {n : Bool} {o : Option Addr} {l c : Nat} {xs : List Nat} (h : Num w (.slice o l c) xs) (hl : ¬ 30 < l) : INum w (.agg #[.bool n, .slice o l c]) (zv n (val xs)) ∧ Sz (zv n (val xs)) 30 := by
  have e : xs.length = l := by
    obtain ⟨_, _, _, e, _⟩ := h
    simp only [Value.slice.injEq] at e
    exact e.2.1.symm
  exact ⟨⟨_, _, _, _, xs, rfl, h, by omega, rfl⟩, Sz.of_num h (by omega)⟩
theorem cmpZ_sub (x y : Int) : cmpZ (x - y) 0 = cmpZ x y := by unfold cmpZ; repeat' split; all_goals omega
theorem cmpZ_swap (x y : Int) : cmpZ y x = -cmpZ x y := by unfold cmpZ; repeat' split; all_goals omega
theorem cmpZ_add (x y z : Int) : cmpZ (x + z) (y + z) = cmpZ x y := by unfold cmpZ; repeat' split; all_goals omega
theorem cmpZ_lt {x y : Int} (h : x < y) : cmpZ x y = -1 := by unfold cmpZ; rw [if_pos h]
theorem cmpZ_gt {x y : Int} (h : y < x) : cmpZ x y = 1 := by unfold cmpZ; rw [if_neg (by omega), if_neg (by omega)]
theorem cmpZ_same (x : Int) : cmpZ x x = 0 := by unfold cmpZ; rw [if_neg (by omega), if_pos rfl]
theorem cmpZ_mulz (x y z : Int) : cmpZ (x * z) (y * z) = cmpZ x y * cmpZ z 0 := by
  rcases Int.lt_trichotomy z 0 with hz | hz | hz
  · rw [cmpZ_lt hz]
    rcases Int.lt_trichotomy x y with h | h | h
    · rw [cmpZ_lt h, cmpZ_gt (Int.mul_lt_mul_of_neg_right h hz)]; rfl
    · rw [h, cmpZ_same, cmpZ_same]; rfl
    · rw [cmpZ_gt h, cmpZ_lt (Int.mul_lt_mul_of_neg_right h hz)]; rfl
  · rw [hz, Int.mul_zero, Int.mul_zero, cmpZ_same, Int.mul_zero]
  · rw [cmpZ_gt hz, Int.mul_one]
    rcases Int.lt_trichotomy x y with h | h | h
    · rw [cmpZ_lt h, cmpZ_lt (Int.mul_lt_mul_of_pos_right h hz)]
    · rw [h, cmpZ_same, cmpZ_same]
    · rw [cmpZ_gt h, cmpZ_gt (Int.mul_lt_mul_of_pos_right h hz)]
end Go.Proofs.YtcmclmhfjmmffaaGreatDoor

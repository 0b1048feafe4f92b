/-
  Proved here: what Parse of package whole answers. Proved here: alive of credencelaw02 answers yes. Proved here: what the small functions of credencelaw02 answer.
  Proved here: plain facts on texts with a stroke ahead, and on noughts ahead of digits. No condition.
  Proved here: what Same answers of two numbers that are one.
  Proved here: what the plain way's Parse answers.
  Proved here: what Make, Same and Parse of the plain way over whole numbers answer.
  Proved here: what Int of package whole answers of a number that is an int.
  Proved here: what the plain way's ten answers.
  Proved here: what the plain way's Text answers.
  Proved here: what the plain way's Of answers.
  Proved here: what the plain way's Mul answers.
  Proved here: 'apart' of numbers that are what they must be, each in a row of its own, answers true.
  Proved here: what the law's cut answers.
  Proved here: what cut, roomy and kept answer.
  Proved here: plain facts on a bag of numbers that a call made for itself, and 'apart' of such a bag.
  Proved here: what Uint and Sub answer of any numbers, by either way.
-/
import Derived.Test.YtfnafgjnimfmjaaGreatDoorWholeX2
import Derived.Test.YtfnafgjnimfmjaaGreatDoorTrimLAll
import Derived.Test.YtfnafgjnimfmjaaGreatDoorWholeDAll
import Derived.Laws.Strings
import Derived.Test.YtfnafgjnimfmjaaGreatDoorTrimAll
import Derived.Test.YtfnafgjnimfmjaaGreatDoorSubAll
import Derived.Test.YtfnafgjnimfmjaaGreatDoorDivMathAll
import Derived.Test.YtfnafgjnimfmjaaGreatDoorLiftAll
import Derived.Test.YtfnafgjnimfmjaaGreatDoorTextAll
import Derived.Test.YtfnafgjnimfmjaaGreatDoorMulMathAll
import Derived.WalkSmall
namespace Go.Proofs.YtfnafgjnimfmjaaGreatDoor
open Go.RowKit

/-- A stroke ahead. -/
def strk (s : ByteArray) : Bool := decide (0 < s.size) && ((s.extract 0 1).toList == [45])

set_option maxRecDepth 100000 in
set_option maxHeartbeats 3200000 in
theorem cut_any' (s : ByteArray) (w : World) (hs : s.size ≤ 1000000) :
    Calls Tryz.prog 80 #[.string s, .string ⟨#[45]⟩] w fun e w' => e = .returned (.tuple #[.string (if strk s then s.extract 1 s.size else s), .bool (strk s)]) ∧ w' = w := by
  by_cases h0 : 0 < s.size
  · cases hb : ((s.extract 0 1).toList == [45])
    · have HK : Hid (strk s = false) := by show _ = _; unfold strk; rw [hb]; simp
      rw [HK.out, if_neg (by decide)]
      have h1 : (1 : Int) ≤ (s.size : Int) := by omega
      go_enter Tryz.func80, Tryz.ntmps80
      go_wp2
      go_ret2
      exact ⟨rfl, rfl⟩
    · have HK : Hid (strk s = true) := by show _ = _; unfold strk; rw [hb, decide_eq_true h0]; rfl
      rw [HK.out, if_pos rfl]
      have h1 : (1 : Int) ≤ (s.size : Int) := by omega
      go_enter Tryz.func80, Tryz.ntmps80
      go_wp2
      go_ret2
      exact ⟨rfl, rfl⟩
  · have HK : Hid (strk s = false) := by show _ = _; unfold strk; rw [decide_eq_false h0]; rfl
    rw [HK.out, if_neg (by decide)]
    have h1 : ¬ (1 : Int) ≤ (s.size : Int) := by omega
    go_enter Tryz.func80, Tryz.ntmps80
    go_wp2
    go_ret2
    exact ⟨rfl, rfl⟩
theorem results_ct {P : Program} {fn : Func} {p u : Tmp} {ty : TypeId} (h : fn.results = #[.cell p ty, .tmp u]) (tmps : Array Value) (w : World) (g : Nat) (t : TypeId) (cs : Array Value) (fr : Nat × Nat) (d : TypeDesc)
    (hp : tmps.getD p undef = .pointer (some ⟨g, 0, none⟩)) (hg : w.heap[g]? = some (.cells cs t fr))
    (hu : P.underlying ty = some d) (hd : (match d with | .struct _ | .array _ _ => true | _ => false) = true) (hi : (P.info? ty).map (·.size) = some cs.size) :
    (results fn tmps).run P w = .ok (.tuple #[.agg cs, tmps.getD u undef]) w := by
  have hp' : tmps[p]?.getD undef = .pointer (some ⟨g, 0, none⟩) := by simpa using hp
  simp [results, h, hp', asAddr, run_loadVar_row w g t ty cs fr d hg hu hd hi]
/-- The digits behind a stroke. -/
def tail (s : ByteArray) : ByteArray := if strk s then s.extract 1 s.size else s
theorem tail_size (s : ByteArray) : (tail s).size ≤ s.size := by
  unfold tail
  split
  · rw [ByteArray.size_extract]; omega
  · exact Nat.le_refl _

set_option maxRecDepth 100000 in
set_option maxHeartbeats 3200000 in
theorem c_parse (s : ByteArray) (w : World) (hs : s.size ≤ 1000000) :
    Calls Tryz.prog 48 #[.string s] w fun e w' => if DigOk (tail s) ∧ 0 < (tail s).size then ∃ v, e = .returned (.tuple #[v, .int .i64 0]) ∧ IOwn w.heap.size w' v (zv (strk s) (bval (dgs (tail s)))) ∧ Below w.heap.size w w'
      else e = .returned (.tuple #[.agg #[.bool false, .slice none 0 0], .int .i64 10]) ∧ Below w.heap.size w w' := by
  have hts := tail_size s
  obtain ⟨W1, hW1⟩ : ∃ W1, W1 = w.alloc (.cells #[.bool false, .slice none 0 0] 25) := ⟨_, rfl⟩
  have q0 : ICell W1 w.heap.size false (.slice none 0 0) := by rw [hW1]; exact icell_new _ rfl
  have hb : Below w.heap.size w W1 := by rw [hW1]; exact belowA _ _
  have hsz : w.heap.size < W1.heap.size := by rw [hW1]; simp
  have HW1 : Hid (W1 = w.alloc (.cells #[.bool false, .slice none 0 0] 25)) := hW1
  clear hW1
  obtain ⟨g, hg⟩ : ∃ g, g = w.heap.size := ⟨_, rfl⟩
  rw [← hg] at q0 hsz
  have HG : Hid (g = w.heap.size) := hg
  have hcut := cut_any' s W1 hs
  rw [show (if strk s = true then s.extract 1 s.size else s) = tail s from rfl] at hcut
  obtain ⟨t, ht⟩ : ∃ t, t = tail s := ⟨_, rfl⟩
  obtain ⟨k, hk⟩ : ∃ k, k = strk s := ⟨_, rfl⟩
  rw [← ht] at hcut hts ⊢
  rw [← hk] at hcut ⊢
  clear ht hk
  by_cases hd : DigOk t ∧ 0 < t.size
  · simp only [hd]
    obtain ⟨z, hz⟩ : ∃ z, z = zv k (bval (dgs t)) := ⟨_, rfl⟩
    have HZ : Hid (z = zv k (bval (dgs t))) := hz
    rw [← hz]
    clear hz
    go_enter Tryz.func48, Tryz.ntmps48
    go_wp2_with fail
    rw [← HW1.out, ← hg]
    clear HW1 hg
    refine hcut.mono ?_
    rintro e w2 ⟨rfl, rfl⟩
    clear hcut
    go_wp2_with fail
    refine (parse_any t _ (by omega)).mono ?_
    rintro e w3 ⟨u, rfl, hu, hb3⟩
    rw [if_pos hd]
    rw [if_pos hd] at hu
    obtain ⟨uo, ul, uc, rfl⟩ := hu.sl
    replace q0 := q0.below hb3
    replace hb := bstep hb hb3
    have HB : Hid (g < w2.heap.size) := hsz
    go_wp2_with fail
    refine (signed_any _ _ _ _ hu.num).mono ?_
    rintro e w4 ⟨rfl, hb4⟩
    rw [sign_eq, ← HZ.out]
    replace q0 := q0.below hb4
    replace hb := bstep hb hb4
    replace hu := hu.below hb4
    have hE := (int_done (w := w) (g := g) (z := z) rfl (by rw [HG.out]; exact Nat.le_refl _) (by rw [HZ.out, zv_abs]; exact hu) HB.out hb).i
    obtain ⟨v9, he9, ho9, hb9⟩ := hE
    cases he9
    have HE : Hid (∃ v, (Ending.returned (.tuple #[.agg #[.bool (decide (z < 0)), .slice uo ul uc], .int .i64 0])) = .returned (.tuple #[v, .int .i64 0]) ∧ IOwn w.heap.size ((w4.setCell ⟨g, 0, none⟩ (.bool (decide (z < 0)))).setCell ⟨g, 1, none⟩ (.slice uo ul uc)) v z ∧ Below w.heap.size w ((w4.setCell ⟨g, 0, none⟩ (.bool (decide (z < 0)))).setCell ⟨g, 1, none⟩ (.slice uo ul uc))) := ⟨_, rfl, ho9, hb9⟩
    have HW : Hid (ICell ((w4.setCell ⟨g, 0, none⟩ (.bool (decide (z < 0)))).setCell ⟨g, 1, none⟩ (.slice uo ul uc)) g (decide (z < 0)) (.slice uo ul uc)) := q0.write _ _
    obtain ⟨y0, y1⟩ := q0.cells
    have f0 := q0.thaw 0
    have f1 := q0.thaw 1
    clear q0 hb hu hb3 hb4 ho9 hb9 hsz hd
    go_wp2_with fail
    (try simp only [Exit.inBlock, Exit.then])
    exact bodyPost_ret (results_ct (p := 2) (u := 3) rfl _ _ g 25 _ (0, 0) _ rfl HW.out Tryz.underlying25 rfl (by kernel_rfl)) rfl HE.out
  · simp only [hd, if_false]
    go_enter Tryz.func48, Tryz.ntmps48
    go_wp2_with fail
    rw [← HW1.out, ← hg]
    clear HW1 hg
    refine hcut.mono ?_
    rintro e w2 ⟨rfl, rfl⟩
    clear hcut
    go_wp2_with fail
    refine (parse_any t _ (by omega)).mono ?_
    rintro e w3 ⟨u, rfl, hu, hb3⟩
    rw [if_neg hd]
    replace q0 := q0.below hb3
    replace hb := bstep hb hb3
    have HE : Hid (Below w.heap.size w ((w3.setCell ⟨g, 0, none⟩ (.bool false)).setCell ⟨g, 1, none⟩ (.slice none 0 0))) := iend2 hb (by rw [HG.out]; exact Nat.le_refl _)
    have HW : Hid (ICell ((w3.setCell ⟨g, 0, none⟩ (.bool false)).setCell ⟨g, 1, none⟩ (.slice none 0 0)) g false (.slice none 0 0)) := q0.write _ _
    obtain ⟨y0, y1⟩ := q0.cells
    have f0 := q0.thaw 0
    have f1 := q0.thaw 1
    clear q0 hb hu hb3 hsz hd
    go_wp2_with fail
    (try simp only [Exit.inBlock, Exit.then])
    exact bodyPost_ret (results_ct (p := 2) (u := 3) rfl _ _ g 25 _ (0, 0) _ rfl HW.out Tryz.underlying25 rfl (by kernel_rfl)) rfl ⟨rfl, HE.out⟩
end Go.Proofs.YtfnafgjnimfmjaaGreatDoor

namespace Go.Proofs.YtfnafgjnimfmjaaGreatDoor
open Go.RowKit

theorem IOwn.see {B : Nat} {w : World} {v : Value} {z : Int} (h : IOwn B w v z) {L : Nat} (hs : Sz z L) (hL : L ≤ 1000000) : ∃ n o l c, v = .agg #[.bool n, .slice o l c] ∧ INum w (.agg #[.bool n, .slice o l c]) z := by
  have hi := h.num hs hL
  obtain ⟨m, rfl, ho⟩ := h
  obtain ⟨o, l, c, rfl⟩ := ho.sl
  exact ⟨_, o, l, c, rfl, hi⟩
theorem INum.see {w : World} {v : Value} {z : Int} (h : INum w v z) : ∃ n o l c, v = .agg #[.bool n, .slice o l c] ∧ INum w (.agg #[.bool n, .slice o l c]) z := by
  obtain ⟨n, o, l, c, xs, rfl, h1, h2, h3⟩ := h
  exact ⟨n, o, l, c, rfl, n, o, l, c, xs, rfl, h1, h2, h3⟩
/-- How a whole number is written. -/
def zt (z : Int) : ByteArray := ztxt (decide (z < 0)) z.natAbs
theorem zt_zv (neg : Bool) (n : Nat) : ztxt neg n = zt (zv neg n) := by
  unfold zt ztxt
  rw [zv_abs]
  by_cases h : neg = true ∧ n ≠ 0
  · rw [if_pos h, if_pos ⟨decide_eq_true (by rw [h.1]; unfold zv; simp; omega), h.2⟩]
  · rw [if_neg h, if_neg]
    intro h2
    apply h
    refine ⟨?_, h2.2⟩
    have := of_decide_eq_true h2.1
    cases neg
    · simp [zv] at this; omega
    · rfl
theorem c_text {a : Value} {x : Int} {w : World} (ha : INum w a x) : Calls Tryz.prog 54 #[a] w fun e w' => e = .returned (.string (zt x)) ∧ Below w.heap.size w w' := by
  obtain ⟨na, ao, al, ac, xs, rfl, h1, h2, rfl⟩ := ha
  rw [← zt_zv]
  exact wtext_any _ _ _ _ _ _ h1 h2
theorem Sz.of {z : Int} (h : z.natAbs < 4294967296 ^ 8) : Sz z 8 := ⟨h⟩
end Go.Proofs.YtfnafgjnimfmjaaGreatDoor

namespace Go.Proofs.YtfnafgjnimfmjaaGreatDoor
open Go.RowKit

theorem cmpZ_eq (x y : Int) : (cmpZ x y == 0) = decide (x = y) := by
  unfold cmpZ
  by_cases h1 : x < y
  · rw [if_pos h1, decide_eq_false (by omega)]; rfl
  · rw [if_neg h1]
    by_cases h2 : x = y
    · rw [if_pos h2, decide_eq_true h2]; rfl
    · rw [if_neg h2, decide_eq_false h2]; rfl

theorem cmpZ_sub (x y : Int) : cmpZ (x - y) 0 = cmpZ x y := by unfold cmpZ; repeat' split; all_goals omega
theorem cmpZ_lt {x y : Int} (h : x < y) : cmpZ x y = -1 := by unfold cmpZ; rw [if_pos h]
theorem cmpZ_gt {x y : Int} (h : y < x) : cmpZ x y = 1 := by unfold cmpZ; rw [if_neg (by omega), if_neg (by omega)]
end Go.Proofs.YtfnafgjnimfmjaaGreatDoor

namespace Go.Proofs.YtfnafgjnimfmjaaGreatDoor
open Go.RowKit

theorem s_size (s : ByteArray) : s.size = s.data.toList.length := by rw [Array.length_toList]; rfl
theorem strk_eq (s : ByteArray) : strk s = decide (s.data.toList.take 1 = [45]) := by
  unfold strk
  rw [ByteArray.toList_eq, extract_list, List.drop_zero, s_size]
  cases h : s.data.toList with
  | nil => rfl
  | cons x r =>
    rw [Bool.eq_iff_iff]
    simp
theorem strk_first {s : ByteArray} {x : UInt8} {r : List UInt8} (h : s.data.toList = x :: r) (hx : x ≠ 45) : strk s = false ∧ tail s = s := by
  have h1 : strk s = false := by rw [strk_eq, h]; simpa using hx
  refine ⟨h1, ?_⟩
  unfold tail
  rw [h1]
  rfl
theorem dig_first {s : ByteArray} (h : DigOk s) (h0 : 0 < s.size) : strk s = false ∧ tail s = s := by
  cases hl : s.data.toList with
  | nil => rw [s_size, hl] at h0; exact absurd h0 (by simp)
  | cons x r =>
    refine strk_first hl ?_
    intro hx
    have h1 := h 0 h0
    unfold bt at h1
    rw [hl, hx] at h1
    simp at h1
theorem parse_of {s t : ByteArray} {k : Bool} {z : Int} (hst : strk s = k) (htl : tail s = t) (hd : DigOk t ∧ 0 < t.size) (hz : zv k (bval (dgs t)) = z) (hs : s.size ≤ 1000000) (w : World) :
    Calls Tryz.prog 48 #[.string s] w fun e w' => ∃ v, e = .returned (.tuple #[v, .int .i64 0]) ∧ IOwn w.heap.size w' v z ∧ Below w.heap.size w w' := by
  have h := c_parse s w hs
  rw [htl, hst, hz] at h
  simp only [hd, and_self, if_true] at h
  exact h
end Go.Proofs.YtfnafgjnimfmjaaGreatDoor

namespace Go.Proofs.YtfnafgjnimfmjaaGreatDoor
open Go.RowKit

set_option maxHeartbeats 800000 in
theorem same_yes (v u : Value) (xs : List Nat) (w : World) (hv : Num w v xs) (hu : Num w u xs) :
    Calls Tryz.prog 37 #[v, u] w fun e w' => e = .returned (.bool true) ∧ ∃ q, w' = w.drewN q := by
  obtain ⟨hb, ao, cap, rfl, hc, hm, hnil, hcell⟩ := hv.open_
  obtain ⟨_, ao', cap', rfl, hc', hm', hnil', hcell'⟩ := hu.open_
  clear hv hu hnil hnil'
  obtain ⟨n, hn⟩ : ∃ n, xs.length = n := ⟨_, rfl⟩
  rw [hn] at hc hc' ⊢
  have HN : Hid (xs.length = n) := hn
  clear hn
  have hne : (((n : Nat) : Int) != ((n : Nat) : Int)) = false := by simp
  go_enter Tryz.func37, Tryz.ntmps37
  go_wp2
  go_loopw [5] (fun t wr => ∃ k : Nat, k ≤ n ∧ t = .int .i64 k ∧ ∃ q, wr = w.drewN q) (fun t _ => n - (intOf t).toNat)
  case atStart => exact ⟨0, Nat.zero_le _, rfl, 0, rfl⟩
  case round =>
    obtain ⟨k, hk, rfl, q, rfl⟩ := hrel
    by_cases hkn : k < n
    · obtain ⟨b, off, rfl, hc0⟩ := hcell k (by rw [HN.out]; omega)
      obtain ⟨b', off', rfl, hc1⟩ := hcell' k (by rw [HN.out]; omega)
      obtain ⟨x, hx⟩ : ∃ x, x = xs.getD k 0 := ⟨_, rfl⟩
      rw [← hx] at hc0 hc1
      clear hx hcell hcell'
      have hlt : (k : Int) < (n : Int) := by omega
      go_wp2
      go_quiet (fail)
      go_wp2
      go_roundw
      case rel => exact ⟨k + 1, by omega, by go_num, _, rfl⟩
      case measure => simp [intOf]; omega
    · have hge : ¬ (k : Int) < (n : Int) := by omega
      clear hcell hcell'
      go_wp2
      go_ret
      exact ⟨rfl, q, rfl⟩
end Go.Proofs.YtfnafgjnimfmjaaGreatDoor

namespace Go.Proofs.YtfnafgjnimfmjaaGreatDoor
open Go.RowKit

end Go.Proofs.YtfnafgjnimfmjaaGreatDoor

namespace Go.Proofs.YtfnafgjnimfmjaaGreatDoor
open Go.RowKit

set_option maxRecDepth 100000 in
set_option maxHeartbeats 3200000 in
theorem make_ref (neg : Bool) (m : Value) (xs : List Nat) (w : World) (h : Num w m xs) (hl : xs.length ≤ 1000000000) :
    Calls Tryz.prog 108 #[.bool neg, m] w fun e w' => IEnd w (zv neg (val xs)) e w' := by
  obtain ⟨ao, cap, rfl, _, _⟩ := h.ao
  obtain ⟨al, hal⟩ : ∃ l, l = xs.length := ⟨_, rfl⟩
  rw [← hal] at h ⊢
  clear hal
  obtain ⟨W1, hW1⟩ : ∃ W1, W1 = w.alloc (.cells #[.bool false, .slice none 0 0] 25) := ⟨_, rfl⟩
  have q0 : ICell W1 w.heap.size false (.slice none 0 0) := by rw [hW1]; exact icell_new _ rfl
  have hb : Below w.heap.size w W1 := by rw [hW1]; exact belowA _ _
  have hsz : w.heap.size < W1.heap.size := by rw [hW1]; simp
  have HW1 : Hid (W1 = w.alloc (.cells #[.bool false, .slice none 0 0] 25)) := hW1
  clear hW1
  replace h := h.below (Nat.le_refl _) hb
  obtain ⟨g, hg⟩ : ∃ g, g = w.heap.size := ⟨_, rfl⟩
  rw [← hg] at q0 hsz
  have HG : Hid (g = w.heap.size) := hg
  obtain ⟨z, hz⟩ : ∃ z, z = zv neg (val xs) := ⟨_, rfl⟩
  have HZ : Hid (z = zv neg (val xs)) := hz
  rw [← hz]
  clear hz
  go_enter Tryz.func108, Tryz.ntmps108
  go_wp2_with fail
  rw [← HW1.out, ← hg]
  clear HW1 hg
  refine (norm_ref _ _ _ h (by omega)).mono ?_
  rintro e w2 ⟨u, rfl, hu, hb2⟩
  obtain ⟨uo, uc, rfl, _, _⟩ := hu.num.ao
  obtain ⟨ul, hul⟩ : ∃ l, l = (lim (val xs)).length := ⟨_, rfl⟩
  rw [← hul] at hu ⊢
  have hbz : (neg && decide (0 < ul)) = decide (z < 0) := by rw [hul, HZ.out]; exact sign_eq _ _
  replace q0 := q0.below hb2
  replace hb := bstep hb hb2
  have hu' : Own W1.heap.size 37 w2 (.slice uo ul uc) (lim z.natAbs) := by rw [HZ.out, zv_abs]; exact hu
  cases neg
  · have HE : Hid (IEnd w z (.returned (.agg #[.bool false, .slice uo ul uc])) ((w2.setCell ⟨g, 0, none⟩ (.bool false)).setCell ⟨g, 1, none⟩ (.slice uo ul uc))) := (int_done (by rw [← hbz]; rfl) (by rw [HG.out]; omega) hu' hsz hb).i
    have HW : Hid (ICell ((w2.setCell ⟨g, 0, none⟩ (.bool false)).setCell ⟨g, 1, none⟩ (.slice uo ul uc)) g false (.slice uo ul uc)) := q0.write _ _
    obtain ⟨y0, y1⟩ := q0.cells
    have f0 := q0.thaw 0
    have f1 := q0.thaw 1
    clear q0 hb hu hu' hb2 hsz hbz hul h hl
    go_wp2_with fail
    (try simp only [Exit.inBlock, Exit.then])
    exact bodyPost_ret (results_cell_row rfl _ _ g 25 _ (0, 0) _ rfl HW.out Tryz.underlying25 rfl (by kernel_rfl)) rfl HE.out
  · obtain ⟨b, hbb⟩ : ∃ b, b = decide (0 < ul) := ⟨_, rfl⟩
    have HE : Hid (IEnd w z (.returned (.agg #[.bool b, .slice uo ul uc])) ((w2.setCell ⟨g, 0, none⟩ (.bool b)).setCell ⟨g, 1, none⟩ (.slice uo ul uc))) := (int_done (by rw [← hbz, hbb]; rfl) (by rw [HG.out]; omega) hu' hsz hb).i
    have HW : Hid (ICell ((w2.setCell ⟨g, 0, none⟩ (.bool b)).setCell ⟨g, 1, none⟩ (.slice uo ul uc)) g b (.slice uo ul uc)) := q0.write _ _
    obtain ⟨y0, y1⟩ := q0.cells
    have f0 := q0.thaw 0
    have f1 := q0.thaw 1
    have hb1 : decide (0 < ul) = b := hbb.symm
    clear q0 hb hu hu' hb2 hsz hbz hul h hl hbb
    go_wp2_with fail
    (try simp only [Exit.inBlock, Exit.then])
    exact bodyPost_ret (results_cell_row rfl _ _ g 25 _ (0, 0) _ rfl HW.out Tryz.underlying25 rfl (by kernel_rfl)) rfl HE.out

end Go.Proofs.YtfnafgjnimfmjaaGreatDoor

namespace Go.Proofs.YtfnafgjnimfmjaaGreatDoor
open Go.RowKit

end Go.Proofs.YtfnafgjnimfmjaaGreatDoor

namespace Go.Proofs.YtfnafgjnimfmjaaGreatDoor
open Go.RowKit

end Go.Proofs.YtfnafgjnimfmjaaGreatDoor

namespace Go.Proofs.YtfnafgjnimfmjaaGreatDoor
open Go.RowKit

end Go.Proofs.YtfnafgjnimfmjaaGreatDoor

namespace Go.Proofs.YtfnafgjnimfmjaaGreatDoor
open Go.RowKit

set_option maxHeartbeats 400000 in
theorem of_ref (u : Nat) (w : World) (hu : u < 18446744073709551616) :
    Calls Tryz.prog 122 #[.int .u64 (u : Int)] w fun e w' => Made w.heap.size 37 w (lim u) e w' := by
  have hb : limbs [u % 4294967296, u / 4294967296] := by
    intro x hx
    simp at hx
    omega
  have how := Own.lit (B := w.heap.size) 37 w #[.int .u32 ((u : Int) % 4294967296), .int .u32 ((u : Int) / 4294967296)] [u % 4294967296, u / 4294967296] hb (Nat.le_refl _) (by simp [maxLen]) (by simp [U])
  have hbel : Below w.heap.size w (w.alloc (.cells #[.int .u32 ((u : Int) % 4294967296), .int .u32 ((u : Int) / 4294967296)] 37)) := (Below.refl _ _).alloc (Nat.le_refl _) _
  go_enter Tryz.func122, Tryz.ntmps122
  go_wp2_with fail
  refine (norm_ref _ _ _ how.num (by simp)).mono ?_
  rintro e w' ⟨v, rfl, how2, hbel2⟩
  rw [val_two] at how2
  have hw : w.heap.size ≤ (w.alloc (.cells #[.int .u32 ((u : Int) % 4294967296), .int .u32 ((u : Int) / 4294967296)] 37)).heap.size := by simp
  have hm := how2.mono hw
  have hbb := hbel.trans (hbel2.mono hw)
  clear how hb how2 hbel hbel2 hw
  go_wp2
  go_ret
  exact ⟨_, rfl, hm, hbb⟩

end Go.Proofs.YtfnafgjnimfmjaaGreatDoor

namespace Go.Proofs.YtfnafgjnimfmjaaGreatDoor
open Go.RowKit

theorem Cells.same {g : Nat} {w w' : World} {zs : List Nat} (h : Cells w g zs) (e : w'.heap = w.heap) : Cells w' g zs := ⟨h.1, by rw [e]; exact h.2⟩

set_option maxRecDepth 100000 in
set_option maxHeartbeats 3200000 in
theorem mul_ref (u v : Value) (xs ys : List Nat) (w : World) (hu : Num w u xs) (hv : Num w v ys) (hbx : xs.length ≤ 549755813888) (hby : ys.length ≤ 549755813888) :
    Calls Tryz.prog 99 #[u, v] w fun e w' => Made' w.heap.size w (lim (val xs * val ys)) e w' := by
  obtain ⟨i0, hi, hz0, hz1, hz2⟩ := info_parts Tryz.infoU
  have hsx := lim_short hu
  have hsy := lim_short hv
  go_enter Tryz.func99, Tryz.ntmps99
  go_wp2_with fail
  refine (norm_ref _ _ _ hu (by omega)).mono ?_
  rintro e w1 ⟨vx, rfl, hox, hb1⟩
  go_wp2_with fail
  refine (norm_ref _ _ _ (hv.below (Nat.le_refl _) hb1) (by omega)).mono ?_
  rintro e w2 ⟨vy, rfl, hoy, hb2⟩
  have hox2 := hox.below hb2
  have hB2 : Below w.heap.size w w2 := hb1.trans (hb2.mono hb1.size)
  have hS2 := hB2.size
  have HE : Hid (val xs * val ys = val (lim (val xs)) * val (lim (val ys))) := by show _ = _; rw [val_lim, val_lim]
  clear hox hb1 hb2 hu hv
  obtain ⟨ao, cap, rfl, hpx, hl1, hm1⟩ := hox2.ao
  obtain ⟨bo, dap, rfl, hpy, hl2, hm2⟩ := hoy.ao
  obtain ⟨k, hk⟩ : ∃ k, k = (lim (val xs)).length := ⟨_, rfl⟩
  obtain ⟨m, hm⟩ : ∃ m, m = (lim (val ys)).length := ⟨_, rfl⟩
  rw [← hk] at hsx hox2 hpx hl1 ⊢
  rw [← hm] at hsy hoy hpy hl2 ⊢
  generalize hX : lim (val xs) = X at *
  generalize hY : lim (val ys) = Y at *
  have HKL : Hid (k = X.length) := hk
  have HML : Hid (m = Y.length) := hm
  clear hk hm hX hY
  obtain ⟨n, hn⟩ : ∃ n, n = k + m := ⟨_, rfl⟩
  have HNN : Hid (n = k + m) := hn
  have hn1 : k ≤ n := by omega
  have hn2 : m ≤ n := by omega
  have hn3 : n ≤ 1099511627776 := by omega
  clear hn
  go_wp2_with (at_make; refine wpList_make_full _ rfl _ _ 23 rfl w.heap.size 37 i0 (.int .u32 0) 1 Tryz.underlying23 hi hz0 hz1 _ _ _ _ n rfl rfl (by have := HNN.out; omega) (by have := HNN.out; omega) (by rw [hz2]; omega) (by unfold maxLen; omega) hS2 ?_)
  intro w3 ho3 hg3
  have how := own_made ho3
  have hbel : Below w2.heap.size w2 w3 := (Below.refl w2.heap.size w2).grown hg3 (Nat.le_refl _) (by intro k hk; simp at hk)
  obtain ⟨g, hg⟩ : ∃ g, g = w2.heap.size := ⟨_, rfl⟩
  have HB : Hid (Below w2.heap.size w2 w3 ∧ Cells w3 g (List.replicate n 0)) := by rw [hg]; exact ⟨hbel, how.cells⟩
  have HG : Hid (w2.heap.size ≤ g) := by show _ ≤ _; omega
  rw [← hg]
  clear hg hbel how ho3 hg3
  go_wp2
  go_loopw [8] (fun t wr => ∃ (i : Nat) (zs : List Nat), i ≤ k ∧ t = .int .i64 i ∧ zs.length = n ∧ Cells wr g zs ∧ Below w2.heap.size w2 wr ∧ (∀ j, i + m ≤ j → zs.getD j 0 = 0) ∧ val zs = val Y * low X i) (fun t _ => k - (intOf t).toNat)
  case atStart => exact ⟨0, List.replicate n 0, Nat.zero_le _, rfl, by simp, HB.out.2, HB.out.1, fun j _ => by rw [List.getD_eq_getElem?_getD, List.getElem?_replicate]; split <;> rfl, by rw [low_zero, Nat.mul_zero]; exact val_zeros fun x hx => List.eq_of_mem_replicate hx⟩
  case round =>
    clear HB
    obtain ⟨i, zs, hin, rfl, hzl, hcs, hbel, hzero, hval⟩ := hrel
    have HZ : Hid (zs.length = n) := hzl
    have HV : Hid (val zs = val Y * low X i) := hval
    have HZZ : Hid (∀ j, i + m ≤ j → zs.getD j 0 = 0) := hzero
    clear hzl hval hzero
    by_cases hlt : i < k
    · have hlt' : (i : Int) < (k : Int) := by omega
      have hik : i + m < n := by have := HNN.out; omega
      obtain ⟨gx, rfl⟩ := hpx (by omega)
      have cx := (hox2.cell (k := i) (by rw [← HKL.out]; exact hlt)).1
      have hx0 := limb_lt hox2.1 i
      have hgx := (hox2.block gx rfl).2
      obtain ⟨x, hx⟩ : ∃ x, x = X.getD i 0 := ⟨_, rfl⟩
      rw [← hx] at cx hx0
      have HX : Hid (x = X.getD i 0) := hx
      have CX : Hid (w2.cell? ⟨gx, i, none⟩ = some (.int .u32 (x : Int))) := cx
      have HC0 : Hid (Cells wr g zs) := hcs
      have HB0 : Hid (Below w2.heap.size w2 wr) := hbel
      clear hx cx hcs hbel
      go_wp2
      go_loopw [9, 10] (fun cv t wr => ∃ (j c : Nat) (ys' : List Nat), j ≤ m ∧ t = .int .i64 j ∧ cv = .int .u64 c ∧ c < 4294967296 ∧ ys'.length = zs.length ∧ Cells wr g ys' ∧ Below w2.heap.size w2 wr ∧ (∀ q, q < i ∨ i + j ≤ q → ys'.getD q 0 = zs.getD q 0) ∧ low (ys'.drop i) j + 4294967296 ^ j * c = low (zs.drop i) j + low Y j * x) (fun _ t _ => m - (intOf t).toNat)
      case atStart => exact ⟨0, 0, zs, Nat.zero_le _, rfl, rfl, by omega, rfl, HC0.out, HB0.out, fun _ _ => rfl, by simp [low_zero]⟩
      case round =>
        clear HC0 HB0
        obtain ⟨j, c, zt, hjm, rfl, rfl, hc1, hyl, hcs, hbel, hout, hinv⟩ := hrel
        have HY : Hid (zt.length = zs.length) := hyl
        have HI : Hid (low (zt.drop i) j + 4294967296 ^ j * c = low (zs.drop i) j + low Y j * x) := hinv
        have HO : Hid (∀ q, q < i ∨ i + j ≤ q → zt.getD q 0 = zs.getD q 0) := hout
        clear hyl hinv hout
        by_cases hjt : j < m
        · have hjt' : (j : Int) < (m : Int) := by omega
          have hij : i + j < n := by omega
          obtain ⟨gy, rfl⟩ := hpy (by omega)
          have cy := (hoy.cell (k := j) (by rw [← HML.out]; exact hjt)).1
          have hy0 := limb_lt hoy.1 j
          have hgy := (hoy.block gy rfl).2
          obtain ⟨y, hy⟩ : ∃ y, y = Y.getD j 0 := ⟨_, rfl⟩
          rw [← hy] at cy hy0
          have HYY : Hid (y = Y.getD j 0) := hy
          have cx' : wr.cell? ⟨gx, i, none⟩ = some (.int .u32 (x : Int)) := by rw [hbel.cell (p := ⟨gx, i, none⟩) hgx]; exact CX.out
          have cy' : wr.cell? ⟨gy, j, none⟩ = some (.int .u32 (y : Int)) := by rw [hbel.cell (p := ⟨gy, j, none⟩) hgy]; exact cy
          obtain ⟨cz, hfz⟩ := hcs.cell (k := i + j) (by rw [HY.out, HZ.out]; exact hij)
          have hz0' := limb_lt hcs.1 (i + j)
          obtain ⟨z, hz⟩ : ∃ z, z = zt.getD (i + j) 0 := ⟨_, rfl⟩
          rw [← hz] at cz hz0'
          have HZT : Hid (z = zt.getD (i + j) 0) := hz
          have tb := mul_bound hx0 hy0
          obtain ⟨t, ht⟩ : ∃ t, t = x * y := ⟨_, rfl⟩
          rw [← ht] at tb
          have et : (x : Int) * (y : Int) = (t : Int) := by rw [ht]; exact (Int.natCast_mul x y).symm
          have HT : Hid (t = y * x) := by show _ = _; rw [ht, Nat.mul_comm]
          have hts := top_sum tb hc1 hz0'
          have hts2 : c + t ≤ 18446744073709551615 := by omega
          clear hy hz ht cy
          go_wp2
          go_quiet (fail)
          have hcs2 : Cells (wr.drewN nq) g zt := hcs.same (heap_drewN _ _)
          have hbel2 : Below w2.heap.size w2 (wr.drewN nq) := below_drewN hbel nq
          clear cz hfz cx' cy' hcs hbel
          generalize wr.drewN nq = W at *
          obtain ⟨cz, hfz⟩ := hcs2.cell (k := i + j) (by rw [HY.out, HZ.out]; exact hij)
          rw [← HZT.out] at cz
          have hset := hcs2.set (i + j) ((c + (t + z)) % 4294967296) (by omega)
          have hU : U ((c + (t + z)) % 4294967296) = .int .u32 (((c : Int) + (t : Int) + (z : Int)) % 4294967296) := by unfold U; congr 1; omega
          have hbel3 := hbel2.setCell (p := ⟨g, i + j, none⟩) (by exact HG.out) (U ((c + (t + z)) % 4294967296))
          rw [hU] at hset hbel3
          clear hcs2 hbel2 hU
          go_wp2
          go_roundw
          case rel =>
            refine ⟨j + 1, (c + (t + z)) / 4294967296, _, by omega, by go_num, by go_num, by omega, by rw [List.length_set]; exact HY.out, hset, hbel3, fun q hq => ?_, ?_⟩
            · rw [getD_set_off _ _ _ _ (by omega)]; exact HO.out q (by omega)
            · rw [drop_set_add, HT.out, HYY.out, HZT.out, ← getD_drop]
              refine times_step (by simp; rw [HY.out, HZ.out]; omega) HI.out ?_
              rw [getD_drop, getD_drop]
              exact HO.out _ (by omega)
          case measure => simp [intOf]; omega
        · have hjt' : ¬ (j : Int) < (m : Int) := by omega
          have hjm' : j = m := by omega
          have HI' : Hid (low (zt.drop i) m + 4294967296 ^ m * c = low (zs.drop i) m + val Y * x) := by
            show _ = _
            have := HI.out
            rw [hjm', low_all (xs := Y) (by rw [← HML.out]; omega)] at this
            exact this
          have HO' : Hid (∀ q, q < i ∨ i + m ≤ q → zt.getD q 0 = zs.getD q 0) := by rw [← hjm']; exact HO.out
          obtain ⟨cz, hfz⟩ := hcs.cell (k := i + m) (by rw [HY.out, HZ.out]; exact hik)
          obtain ⟨z, hz⟩ : ∃ z, z = zt.getD (i + m) 0 := ⟨_, rfl⟩
          rw [← hz] at cz
          have hset := hcs.set (i + m) c hc1
          have hbel3 := hbel.setCell (p := ⟨g, i + m, none⟩) (by exact HG.out) (U c)
          rw [show U c = .int .u32 (c : Int) from rfl] at hset hbel3
          have HR : Hid (val (zt.set (i + m) c) = val Y * low X (i + 1)) := by
            show _ = _
            rw [mul_step HY.out (by rw [HZ.out]; exact hik) HZZ.out HO'.out HI'.out, HX.out]
            exact mul_row HV.out
          have HR2 : Hid (∀ q, i + 1 + m ≤ q → (zt.set (i + m) c).getD q 0 = 0) := mul_zeros HZZ.out HO'.out
          clear hjm' hcs hbel hz HI HO HI' HO'
          go_wp2
          go_roundw
          case rel => exact ⟨i + 1, _, by omega, by go_num, by rw [List.length_set, HY.out]; exact HZ.out, hset, hbel3, HR2.out, HR.out⟩
          case measure => simp [intOf]; omega
    · have hlt' : ¬ (i : Int) < (k : Int) := by omega
      have him : i = k := by omega
      have HF : Hid (val zs = val xs * val ys) := by
        show _ = _
        rw [HE.out, HV.out, him, low_all (by rw [← HKL.out]; omega), Nat.mul_comm]
      have how : Own w.heap.size 37 wr (.slice (some ⟨g, 0, none⟩) n n) zs := by
        have := hcs.own (B := w.heap.size) (Nat.le_trans hS2 HG.out) (by rw [HZ.out]; omega)
        rw [HZ.out] at this
        exact this
      have hBW : Below w.heap.size w wr := hB2.trans (hbel.mono hS2)
      have hsW := hBW.size
      clear him hcs hbel
      go_wp2_with fail
      refine (norm_ref _ _ _ how.num (by rw [HZ.out]; omega)).mono ?_
      rintro e w4 ⟨v4, rfl, ho4, hb4⟩
      rw [HF.out] at ho4
      have ho5 := ho4.mono hsW
      have hb5 := hBW.trans (hb4.mono hsW)
      clear how ho4 hb4 hBW
      go_wp2
      go_ret
      exact ⟨_, rfl, ho5, hb5⟩
end Go.Proofs.YtfnafgjnimfmjaaGreatDoor

namespace Go.Proofs.YtfnafgjnimfmjaaGreatDoor
open Go.RowKit

end Go.Proofs.YtfnafgjnimfmjaaGreatDoor

namespace Go.Proofs.YtfnafgjnimfmjaaGreatDoor
open Go.RowKit


end Go.Proofs.YtfnafgjnimfmjaaGreatDoor

namespace Go.Proofs.YtfnafgjnimfmjaaGreatDoor
open Go.RowKit

end Go.Proofs.YtfnafgjnimfmjaaGreatDoor

namespace Go.Proofs.YtfnafgjnimfmjaaGreatDoor
open Go.RowKit

end Go.Proofs.YtfnafgjnimfmjaaGreatDoor

namespace Go.Proofs.YtfnafgjnimfmjaaGreatDoor
open Go.RowKit

theorem sub_ref (u v : Value) (xs ys : List Nat) (w : World) (hu : Num w u xs) (hv : Num w v ys) (hbx : xs.length ≤ 1099511627776) (hby : ys.length ≤ 1099511627776) :
    Calls Tryz.prog 124 #[u, v] w fun e w' => SubTold w.heap.size w (val xs) (val ys) e w' := by
  unfold SubTold
  by_cases hs : val ys ≤ val xs
  · rw [show leB (val ys) (val xs) = true by simp [leB, hs]]
    exact sub_ref_yes u v xs ys w hu hv hbx hby hs
  · rw [show leB (val ys) (val xs) = false by simp [leB, hs], show val xs - val ys = 0 by omega]
    refine (sub_ref_no u v xs ys w hu hv hbx hby (by omega)).mono ?_
    rintro e w' ⟨rfl, rfl⟩
    exact ⟨_, rfl, Own.of_nil _ _ _, Below.refl _ _⟩
end Go.Proofs.YtfnafgjnimfmjaaGreatDoor

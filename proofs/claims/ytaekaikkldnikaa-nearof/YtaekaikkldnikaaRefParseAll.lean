/-
  Proved here: what Parse of package whole answers. Proved here: alive of credencelaw02 answers yes. Proved here: what the small functions of credencelaw02 answer.
  Proved here: plain facts on texts with a stroke ahead, and on noughts ahead of digits. No condition.
  Proved here: what Same answers of two numbers that are one.
  Proved here: what the plain way's Parse answers.
-/
import Derived.Test.YtaekaikkldnikaaWholeX2All
import Derived.Test.YtaekaikkldnikaaBytesAll
import Derived.Test.YtaekaikkldnikaaWholeDAll
import Derived.Laws.Strings
import Derived.Test.YtaekaikkldnikaaTrimAll
import Derived.Test.YtaekaikkldnikaaNormAll
namespace Go.Proofs.Ytaekaikkldnikaa
open Go.RowKit

/-- A stroke ahead. -/
def strk (s : ByteArray) : Bool := decide (0 < s.size) && ((s.extract 0 1).toList == [45])

theorem results_ct {P : Program} {fn : Func} {p u : Tmp} {ty : TypeId} (h : fn.results = #[.cell p ty, .tmp u]) (tmps : Array Value) (w : World) (g : Nat) (t : TypeId) (cs : Array Value) (fr : Nat × Nat) (d : TypeDesc)
    (hp : tmps.getD p undef = .pointer (some ⟨g, 0, none⟩)) (hg : w.heap[g]? = some (.cells cs t fr))
    (hu : P.underlying ty = some d) (hd : (match d with | .struct _ | .array _ _ => true | _ => false) = true) (hi : (P.info? ty).map (·.size) = some cs.size) :
    (results fn tmps).run P w = .ok (.tuple #[.agg cs, tmps.getD u undef]) w := by
  have hp' : tmps[p]?.getD undef = .pointer (some ⟨g, 0, none⟩) := by simpa using hp
  simp [results, h, hp', asAddr, run_loadVar_row w g t ty cs fr d hg hu hd hi]
/-- The digits behind a stroke. -/
def tail (s : ByteArray) : ByteArray := if strk s then s.extract 1 s.size else s
theorem tail_size (s : ByteArray) : (tail s).size ≤ s.size := by
  unfold tail
  split
  · rw [ByteArray.size_extract]; omega
  · exact Nat.le_refl _

end Go.Proofs.Ytaekaikkldnikaa

namespace Go.Proofs.Ytaekaikkldnikaa
open Go.RowKit

theorem IOwn.see {B : Nat} {w : World} {v : Value} {z : Int} (h : IOwn B w v z) {L : Nat} (hs : Sz z L) (hL : L ≤ 1000000) : ∃ n o l c, v = .agg #[.bool n, .slice o l c] ∧ INum w (.agg #[.bool n, .slice o l c]) z := by
  have hi := h.num hs hL
  obtain ⟨m, rfl, ho⟩ := h
  obtain ⟨o, l, c, rfl⟩ := ho.sl
  exact ⟨_, o, l, c, rfl, hi⟩
theorem INum.see {w : World} {v : Value} {z : Int} (h : INum w v z) : ∃ n o l c, v = .agg #[.bool n, .slice o l c] ∧ INum w (.agg #[.bool n, .slice o l c]) z := by
  obtain ⟨n, o, l, c, xs, rfl, h1, h2, h3⟩ := h
  exact ⟨n, o, l, c, rfl, n, o, l, c, xs, rfl, h1, h2, h3⟩
theorem Own.see {B : Nat} {w : World} {m : Value} {z : Int} (h : Own B 39 w m (lim z.natAbs)) {L : Nat} (hs : Sz z L) (hL : L ≤ 1000000) : ∃ n o l c, n = decide (z < 0) ∧ m = .slice o l c ∧ INum w (.agg #[.bool n, .slice o l c]) z := by
  obtain ⟨o, l, c, rfl⟩ := h.sl
  exact ⟨_, o, l, c, rfl, rfl, IOwn.num ⟨_, rfl, h⟩ hs hL⟩
/-- How a whole number is written. -/
def zt (z : Int) : ByteArray := ztxt (decide (z < 0)) z.natAbs
theorem zt_zv (neg : Bool) (n : Nat) : ztxt neg n = zt (zv neg n) := by
  unfold zt ztxt
  rw [zv_abs]
  by_cases h : neg = true ∧ n ≠ 0
  · rw [if_pos h, if_pos ⟨decide_eq_true (by rw [h.1]; unfold zv; simp; omega), h.2⟩]
  · rw [if_neg h, if_neg]
    intro h2
    apply h
    refine ⟨?_, h2.2⟩
    have := of_decide_eq_true h2.1
    cases neg
    · simp [zv] at this; omega
    · rfl
theorem Sz.of {z : Int} (h : z.natAbs < 4294967296 ^ 8) : Sz z 8 := ⟨h⟩
/-- The rows of 240 and 46. -/
def IA (r0 s0 t0 r1 s1 t1 : Int) : Prop := (r0 = 240 ∧ s0 = 1 ∧ t0 = 0 ∧ r1 = 46 ∧ s1 = 0 ∧ t1 = 1) ∨ (r0 = 46 ∧ s0 = 0 ∧ t0 = 1 ∧ r1 = 10 ∧ s1 = 1 ∧ t1 = -5) ∨ (r0 = 10 ∧ s0 = 1 ∧ t0 = -5 ∧ r1 = 6 ∧ s1 = -4 ∧ t1 = 21) ∨ (r0 = 6 ∧ s0 = -4 ∧ t0 = 21 ∧ r1 = 4 ∧ s1 = 5 ∧ t1 = -26) ∨ (r0 = 4 ∧ s0 = 5 ∧ t0 = -26 ∧ r1 = 2 ∧ s1 = -9 ∧ t1 = 47) ∨ (r0 = 2 ∧ s0 = -9 ∧ t0 = 47 ∧ r1 = 0 ∧ s1 = 23 ∧ t1 = -120)
theorem IA_step (r0 s0 t0 r1 s1 t1 : Int) (h : IA r0 s0 t0 r1 s1 t1) (hr : r1 ≠ 0) : IA r1 s1 t1 (rz r0 r1) (s0 - r0.tdiv r1 * s1) (t0 - r0.tdiv r1 * t1) := by
  rcases h with ⟨rfl, rfl, rfl, rfl, rfl, rfl⟩ | ⟨rfl, rfl, rfl, rfl, rfl, rfl⟩ | ⟨rfl, rfl, rfl, rfl, rfl, rfl⟩ | ⟨rfl, rfl, rfl, rfl, rfl, rfl⟩ | ⟨rfl, rfl, rfl, rfl, rfl, rfl⟩ | ⟨rfl, rfl, rfl, rfl, rfl, rfl⟩
  · exact Or.inr (Or.inl (by decide))
  · exact Or.inr (Or.inr (Or.inl (by decide)))
  · exact Or.inr (Or.inr (Or.inr (Or.inl (by decide))))
  · exact Or.inr (Or.inr (Or.inr (Or.inr (Or.inl (by decide)))))
  · exact Or.inr (Or.inr (Or.inr (Or.inr (Or.inr (by decide)))))
  · exact absurd rfl hr
theorem small_sz {z : Int} (h : z.natAbs < 4294967296) : Sz z 400000 := Sz.mono (L := 1) ⟨by rw [Nat.pow_one]; exact h⟩ (by decide)
theorem IA_sz (r0 s0 t0 r1 s1 t1 : Int) (h : IA r0 s0 t0 r1 s1 t1) : Sz r0 400000 ∧ Sz s0 400000 ∧ Sz t0 400000 ∧ Sz r1 400000 ∧ Sz s1 400000 ∧ Sz t1 400000 := by
  rcases h with ⟨rfl, rfl, rfl, rfl, rfl, rfl⟩ | ⟨rfl, rfl, rfl, rfl, rfl, rfl⟩ | ⟨rfl, rfl, rfl, rfl, rfl, rfl⟩ | ⟨rfl, rfl, rfl, rfl, rfl, rfl⟩ | ⟨rfl, rfl, rfl, rfl, rfl, rfl⟩ | ⟨rfl, rfl, rfl, rfl, rfl, rfl⟩ <;>
    exact ⟨small_sz (by decide), small_sz (by decide), small_sz (by decide), small_sz (by decide), small_sz (by decide), small_sz (by decide)⟩
theorem bz_240 : bz 240 1 0 46 0 1 = (2, -9, 47) := by
  rw [bz_go (by decide), show rz 240 46 = 10 by decide, show (1 - Int.tdiv 240 46 * 0 : Int) = 1 by decide, show (0 - Int.tdiv 240 46 * 1 : Int) = -5 by decide,
    bz_go (by decide), show rz 46 10 = 6 by decide, show (0 - Int.tdiv 46 10 * 1 : Int) = -4 by decide, show (1 - Int.tdiv 46 10 * -5 : Int) = 21 by decide,
    bz_go (by decide), show rz 10 6 = 4 by decide, show (1 - Int.tdiv 10 6 * -4 : Int) = 5 by decide, show (-5 - Int.tdiv 10 6 * 21 : Int) = -26 by decide,
    bz_go (by decide), show rz 6 4 = 2 by decide, show (-4 - Int.tdiv 6 4 * 5 : Int) = -9 by decide, show (21 - Int.tdiv 6 4 * -26 : Int) = 47 by decide,
    bz_go (by decide), show rz 4 2 = 0 by decide, bz_stop rfl]
theorem big_dig : DigOk (tail ⟨#[45, 49, 48, 48, 48, 48, 48, 48, 48, 48, 48, 48, 48, 48, 48, 48, 48, 48, 48, 48, 48, 48]⟩) ∧ 0 < (tail ⟨#[45, 49, 48, 48, 48, 48, 48, 48, 48, 48, 48, 48, 48, 48, 48, 48, 48, 48, 48, 48, 48, 48]⟩).size := by
  rw [show tail ⟨#[45, 49, 48, 48, 48, 48, 48, 48, 48, 48, 48, 48, 48, 48, 48, 48, 48, 48, 48, 48, 48, 48]⟩ = ⟨#[49, 48, 48, 48, 48, 48, 48, 48, 48, 48, 48, 48, 48, 48, 48, 48, 48, 48, 48, 48, 48]⟩ by kernel_rfl]
  decide
theorem big_val : zv (strk ⟨#[45, 49, 48, 48, 48, 48, 48, 48, 48, 48, 48, 48, 48, 48, 48, 48, 48, 48, 48, 48, 48, 48]⟩) (bval (dgs (tail ⟨#[45, 49, 48, 48, 48, 48, 48, 48, 48, 48, 48, 48, 48, 48, 48, 48, 48, 48, 48, 48, 48, 48]⟩))) = -100000000000000000000 := by kernel_rfl

end Go.Proofs.Ytaekaikkldnikaa

namespace Go.Proofs.Ytaekaikkldnikaa
open Go.RowKit

theorem cmpZ_eq (x y : Int) : (cmpZ x y == 0) = decide (x = y) := by
  unfold cmpZ
  by_cases h1 : x < y
  · rw [if_pos h1, decide_eq_false (by omega)]; rfl
  · rw [if_neg h1]
    by_cases h2 : x = y
    · rw [if_pos h2, decide_eq_true h2]; rfl
    · rw [if_neg h2, decide_eq_false h2]; rfl

/-- A number of few limbs, or of many. -/
theorem few {w : World} {n : Bool} {o : Option Addr} {l c : Nat} {xs : List Nat} (h : Num w (.slice o l c) xs) (hl : ¬ 30 < l) : INum w (.agg #[.bool n, .slice o l c]) (zv n (val xs)) ∧ Sz (zv n (val xs)) 30 := by
  have e : xs.length = l := by
    obtain ⟨_, _, _, e, _⟩ := h
    simp only [Value.slice.injEq] at e
    exact e.2.1.symm
  exact ⟨⟨_, _, _, _, xs, rfl, h, by omega, rfl⟩, Sz.of_num h (by omega)⟩
theorem cmpZ_sub (x y : Int) : cmpZ (x - y) 0 = cmpZ x y := by unfold cmpZ; repeat' split; all_goals omega
theorem cmpZ_swap (x y : Int) : cmpZ y x = -cmpZ x y := by unfold cmpZ; repeat' split; all_goals omega
theorem cmpZ_add (x y z : Int) : cmpZ (x + z) (y + z) = cmpZ x y := by unfold cmpZ; repeat' split; all_goals omega
theorem cmpZ_lt {x y : Int} (h : x < y) : cmpZ x y = -1 := by unfold cmpZ; rw [if_pos h]
theorem cmpZ_gt {x y : Int} (h : y < x) : cmpZ x y = 1 := by unfold cmpZ; rw [if_neg (by omega), if_neg (by omega)]
theorem cmpZ_same (x : Int) : cmpZ x x = 0 := by unfold cmpZ; rw [if_neg (by omega), if_pos rfl]
theorem cmpZ_mulz (x y z : Int) : cmpZ (x * z) (y * z) = cmpZ x y * cmpZ z 0 := by
  rcases Int.lt_trichotomy z 0 with hz | hz | hz
  · rw [cmpZ_lt hz]
    rcases Int.lt_trichotomy x y with h | h | h
    · rw [cmpZ_lt h, cmpZ_gt (Int.mul_lt_mul_of_neg_right h hz)]; rfl
    · rw [h, cmpZ_same, cmpZ_same]; rfl
    · rw [cmpZ_gt h, cmpZ_lt (Int.mul_lt_mul_of_neg_right h hz)]; rfl
  · rw [hz, Int.mul_zero, Int.mul_zero, cmpZ_same, Int.mul_zero]
  · rw [cmpZ_gt hz, Int.mul_one]
    rcases Int.lt_trichotomy x y with h | h | h
    · rw [cmpZ_lt h, cmpZ_lt (Int.mul_lt_mul_of_pos_right h hz)]
    · rw [h, cmpZ_same, cmpZ_same]
    · rw [cmpZ_gt h, cmpZ_gt (Int.mul_lt_mul_of_pos_right h hz)]
end Go.Proofs.Ytaekaikkldnikaa

namespace Go.Proofs.Ytaekaikkldnikaa
open Go.RowKit

theorem s_app (a b : ByteArray) : (a ++ b).data.toList = a.data.toList ++ b.data.toList := by rw [ByteArray.data_append, Array.toList_append]
theorem s_size (s : ByteArray) : s.size = s.data.toList.length := by rw [Array.length_toList]; rfl
theorem strk_eq (s : ByteArray) : strk s = decide (s.data.toList.take 1 = [45]) := by
  unfold strk
  rw [ByteArray.toList_eq, extract_list, List.drop_zero, s_size]
  cases h : s.data.toList with
  | nil => rfl
  | cons x r =>
    rw [Bool.eq_iff_iff]
    simp
theorem s_ext {a b : ByteArray} (h : a.data.toList = b.data.toList) : a = b := ByteArray.ext (Array.ext' h)
theorem strk_minus (t : ByteArray) : strk (⟨#[45]⟩ ++ t) = true ∧ tail (⟨#[45]⟩ ++ t) = t := by
  have h : strk (⟨#[45]⟩ ++ t) = true := by rw [strk_eq, s_app]; rfl
  refine ⟨h, ?_⟩
  unfold tail
  rw [if_pos h]
  apply s_ext
  rw [extract_list, s_app, s_size, s_app]
  simp
  exact List.take_of_length_le (by rw [s_size]; exact Nat.le_refl _)
theorem strk_first {s : ByteArray} {x : UInt8} {r : List UInt8} (h : s.data.toList = x :: r) (hx : x ≠ 45) : strk s = false ∧ tail s = s := by
  have h1 : strk s = false := by rw [strk_eq, h]; simpa using hx
  refine ⟨h1, ?_⟩
  unfold tail
  rw [h1]
  rfl
theorem dig_first {s : ByteArray} (h : DigOk s) (h0 : 0 < s.size) : strk s = false ∧ tail s = s := by
  cases hl : s.data.toList with
  | nil => rw [s_size, hl] at h0; exact absurd h0 (by simp)
  | cons x r =>
    refine strk_first hl ?_
    intro hx
    have h1 := h 0 h0
    unfold bt at h1
    rw [hl, hx] at h1
    simp at h1
/-- So many noughts. -/
def zrs (k : Nat) : ByteArray := ⟨(List.replicate k (48 : UInt8)).toArray⟩
theorem zrs_list (k : Nat) : (zrs k).data.toList = List.replicate k 48 := rfl
theorem zrs_succ (k : Nat) : zrs k ++ ⟨#[48]⟩ = zrs (k + 1) := by
  apply s_ext
  rw [s_app, zrs_list, zrs_list, List.replicate_succ']
theorem zrs_size (k : Nat) : (zrs k).size = k := by rw [s_size, zrs_list, List.length_replicate]
theorem zrs_dgs (k : Nat) : dgs (zrs k) = List.replicate k 0 := by
  unfold dgs
  rw [zrs_list, List.map_replicate]
  rfl
theorem x_bt {n i : Nat} (hi : i < (wri n).length) : bt (txt n) i = 48 + (wri n).getD i 0 := str_bt (wri_decs n) rfl hi
theorem x_dig (n : Nat) : DigOk (txt n) ∧ 0 < (txt n).size := by
  constructor
  · intro i hi
    rw [txt_size] at hi
    rw [x_bt hi]
    have := wri_decs n _ (List.getElem_mem hi)
    rw [List.getD_eq_getElem?_getD, List.getElem?_eq_getElem hi]
    simp
    omega
  · rw [txt_size]; exact List.length_pos_iff.2 (wri_ne n)
theorem x_dgs (n : Nat) : dgs (txt n) = wri n := by
  apply ext_getD (by rw [dgs_len, txt_size])
  intro q hq
  rw [dgs_len, txt_size] at hq
  rw [dgs_at (by rw [txt_size]; exact hq), x_bt hq]
  omega
theorem x_val (n : Nat) : bval (dgs (txt n)) = n := by rw [x_dgs, bval_wri]
theorem x_first {n : Nat} (h : 1 < (txt n).size) : bt (txt n) 0 ≠ 48 := by
  rw [txt_size] at h
  rw [x_bt (by omega)]
  have hn : n ≠ 0 := by intro h0; rw [h0] at h; exact absurd h (by decide)
  have h1 := wri_head hn (wri_ne n)
  cases hw : wri n with
  | nil => exact absurd hw (wri_ne n)
  | cons x r =>
    have h2 : x ≠ 0 := by simpa [hw] using h1
    show 48 + x ≠ 48
    omega
theorem zx_dig (k n : Nat) : DigOk (zrs k ++ txt n) ∧ 0 < (zrs k ++ txt n).size := by
  obtain ⟨h1, h2⟩ := x_dig n
  constructor
  · intro i hi
    unfold bt
    rw [s_app, zrs_list]
    by_cases h : i < k
    · rw [List.getD_eq_getElem?_getD, List.getElem?_append_left (by simpa using h), List.getElem?_replicate_of_lt h]
      decide
    · have h3 := h1 (i - k) (by rw [ByteArray.size_append, zrs_size] at hi; omega)
      unfold bt at h3
      rw [List.getD_eq_getElem?_getD, List.getElem?_append_right (by simpa using h), List.length_replicate, ← List.getD_eq_getElem?_getD]
      exact h3
  · rw [ByteArray.size_append]; omega
theorem zx_val (k n : Nat) : bval (dgs (zrs k ++ txt n)) = n := by
  have e : dgs (zrs k ++ txt n) = List.replicate k 0 ++ wri n := by rw [← zrs_dgs, ← x_dgs]; unfold dgs; rw [s_app, List.map_append]
  rw [e, bval_zeros_ahead (fun x hx => (List.mem_replicate.1 hx).2), bval_wri]
theorem and15 (k : Int) : ∃ N : Nat, N ≤ 15 ∧ bits BinOp.and IntKind.i64 k 15 = (N : Int) := by
  have h : (BitVec.ofInt 64 k &&& BitVec.ofInt 64 15).toNat ≤ 15 := by rw [BitVec.toNat_and]; exact Nat.le_trans Nat.and_le_right (by decide)
  refine ⟨_, h, ?_⟩
  show IntKind.i64.wrap ((BitVec.ofInt 64 k &&& BitVec.ofInt 64 15).toNat : Int) = _
  rw [IntKind.wrap_i64]
  omega
end Go.Proofs.Ytaekaikkldnikaa

namespace Go.Proofs.Ytaekaikkldnikaa
open Go.RowKit

set_option maxHeartbeats 800000 in
theorem same_yes (v u : Value) (xs : List Nat) (w : World) (hv : Num w v xs) (hu : Num w u xs) :
    Calls Try.prog 25 #[v, u] w fun e w' => e = .returned (.bool true) ∧ ∃ q, w' = w.drewN q := by
  obtain ⟨hb, ao, cap, rfl, hc, hm, hnil, hcell⟩ := hv.open_
  obtain ⟨_, ao', cap', rfl, hc', hm', hnil', hcell'⟩ := hu.open_
  clear hv hu hnil hnil'
  obtain ⟨n, hn⟩ : ∃ n, xs.length = n := ⟨_, rfl⟩
  rw [hn] at hc hc' ⊢
  have HN : Hid (xs.length = n) := hn
  clear hn
  have hne : (((n : Nat) : Int) != ((n : Nat) : Int)) = false := by simp
  go_enter Try.func25, Try.ntmps25
  go_wp2
  go_loopw [5] (fun t wr => ∃ k : Nat, k ≤ n ∧ t = .int .i64 k ∧ ∃ q, wr = w.drewN q) (fun t _ => n - (intOf t).toNat)
  case atStart => exact ⟨0, Nat.zero_le _, rfl, 0, rfl⟩
  case round =>
    obtain ⟨k, hk, rfl, q, rfl⟩ := hrel
    by_cases hkn : k < n
    · obtain ⟨b, off, rfl, hc0⟩ := hcell k (by rw [HN.out]; omega)
      obtain ⟨b', off', rfl, hc1⟩ := hcell' k (by rw [HN.out]; omega)
      obtain ⟨x, hx⟩ : ∃ x, x = xs.getD k 0 := ⟨_, rfl⟩
      rw [← hx] at hc0 hc1
      clear hx hcell hcell'
      have hlt : (k : Int) < (n : Int) := by omega
      go_wp2
      go_quiet (fail)
      go_wp2
      go_roundw
      case rel => exact ⟨k + 1, by omega, by go_num, _, rfl⟩
      case measure => simp [intOf]; omega
    · have hge : ¬ (k : Int) < (n : Int) := by omega
      clear hcell hcell'
      go_wp2
      go_ret
      exact ⟨rfl, q, rfl⟩
end Go.Proofs.Ytaekaikkldnikaa

namespace Go.Proofs.Ytaekaikkldnikaa
open Go.RowKit

theorem tenfold_step {xs ys : List Nat} {k c d : Nat} (hk : ys.length = k) (h : val ys + 4294967296 ^ k * c = 10 * low xs k + d) :
    val (ys ++ [(c + 10 * xs.getD k 0) % 4294967296]) + 4294967296 ^ (k + 1) * ((c + 10 * xs.getD k 0) / 4294967296) = 10 * low xs (k + 1) + d := by
  rw [val_snoc, hk, low_succ xs k, Nat.pow_succ, Nat.add_assoc, carry_eq, Nat.mul_add, Nat.mul_add, Nat.mul_left_comm 10]
  omega
theorem not_digs {s : ByteArray} {i : Nat} (hi : i < s.size) (h : ¬ (48 ≤ bt s i ∧ bt s i ≤ 57)) : ¬ (DigOk s ∧ 0 < s.size) := fun hh => h (hh.1 i hi)

end Go.Proofs.Ytaekaikkldnikaa

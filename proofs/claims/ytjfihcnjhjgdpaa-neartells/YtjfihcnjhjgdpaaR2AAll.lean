/-
  Proved here: plain facts on texts with a stroke ahead, and on noughts ahead of digits. No condition.
  Proved here: what Same answers of two numbers that are one.
  Proved here: what the plain way's Parse answers.
  Proved here: what Make, Same and Parse of the plain way over whole numbers answer.
-/
import Derived.Test.YtjfihcnjhjgdpaaWholeX3
import Derived.Test.YtjfihcnjhjgdpaaWholeDAll
import Derived.Laws.Strings
import Derived.Test.YtjfihcnjhjgdpaaTrimAll
import Derived.Test.YtjfihcnjhjgdpaaBytesAll
import Derived.Test.YtjfihcnjhjgdpaaBlendFnAll
namespace Go.Proofs.Ytjfihcnjhjgdpaa
open Go.RowKit

theorem s_app (a b : ByteArray) : (a ++ b).data.toList = a.data.toList ++ b.data.toList := by rw [ByteArray.data_append, Array.toList_append]
theorem s_size (s : ByteArray) : s.size = s.data.toList.length := by rw [Array.length_toList]; rfl
theorem strk_eq (s : ByteArray) : strk s = decide (s.data.toList.take 1 = [45]) := by
  unfold strk
  rw [ByteArray.toList_eq, extract_list, List.drop_zero, s_size]
  cases h : s.data.toList with
  | nil => rfl
  | cons x r =>
    rw [Bool.eq_iff_iff]
    simp
theorem s_ext {a b : ByteArray} (h : a.data.toList = b.data.toList) : a = b := ByteArray.ext (Array.ext' h)
theorem strk_minus (t : ByteArray) : strk (⟨#[45]⟩ ++ t) = true ∧ tail (⟨#[45]⟩ ++ t) = t := by
  have h : strk (⟨#[45]⟩ ++ t) = true := by rw [strk_eq, s_app]; rfl
  refine ⟨h, ?_⟩
  unfold tail
  rw [if_pos h]
  apply s_ext
  rw [extract_list, s_app, s_size, s_app]
  simp
  exact List.take_of_length_le (by rw [s_size]; exact Nat.le_refl _)
theorem strk_first {s : ByteArray} {x : UInt8} {r : List UInt8} (h : s.data.toList = x :: r) (hx : x ≠ 45) : strk s = false ∧ tail s = s := by
  have h1 : strk s = false := by rw [strk_eq, h]; simpa using hx
  refine ⟨h1, ?_⟩
  unfold tail
  rw [h1]
  rfl
theorem dig_first {s : ByteArray} (h : DigOk s) (h0 : 0 < s.size) : strk s = false ∧ tail s = s := by
  cases hl : s.data.toList with
  | nil => rw [s_size, hl] at h0; exact absurd h0 (by simp)
  | cons x r =>
    refine strk_first hl ?_
    intro hx
    have h1 := h 0 h0
    unfold bt at h1
    rw [hl, hx] at h1
    simp at h1
/-- So many noughts. -/
def zrs (k : Nat) : ByteArray := ⟨(List.replicate k (48 : UInt8)).toArray⟩
theorem zrs_list (k : Nat) : (zrs k).data.toList = List.replicate k 48 := rfl
theorem zrs_succ (k : Nat) : zrs k ++ ⟨#[48]⟩ = zrs (k + 1) := by
  apply s_ext
  rw [s_app, zrs_list, zrs_list, List.replicate_succ']
theorem zrs_size (k : Nat) : (zrs k).size = k := by rw [s_size, zrs_list, List.length_replicate]
theorem zrs_dgs (k : Nat) : dgs (zrs k) = List.replicate k 0 := by
  unfold dgs
  rw [zrs_list, List.map_replicate]
  rfl
theorem x_bt {n i : Nat} (hi : i < (wri n).length) : bt (txt n) i = 48 + (wri n).getD i 0 := str_bt (wri_decs n) rfl hi
theorem x_dig (n : Nat) : DigOk (txt n) ∧ 0 < (txt n).size := by
  constructor
  · intro i hi
    rw [txt_size] at hi
    rw [x_bt hi]
    have := wri_decs n _ (List.getElem_mem hi)
    rw [List.getD_eq_getElem?_getD, List.getElem?_eq_getElem hi]
    simp
    omega
  · rw [txt_size]; exact List.length_pos_iff.2 (wri_ne n)
theorem x_dgs (n : Nat) : dgs (txt n) = wri n := by
  apply ext_getD (by rw [dgs_len, txt_size])
  intro q hq
  rw [dgs_len, txt_size] at hq
  rw [dgs_at (by rw [txt_size]; exact hq), x_bt hq]
  omega
theorem x_val (n : Nat) : bval (dgs (txt n)) = n := by rw [x_dgs, bval_wri]
theorem x_first {n : Nat} (h : 1 < (txt n).size) : bt (txt n) 0 ≠ 48 := by
  rw [txt_size] at h
  rw [x_bt (by omega)]
  have hn : n ≠ 0 := by intro h0; rw [h0] at h; exact absurd h (by decide)
  have h1 := wri_head hn (wri_ne n)
  cases hw : wri n with
  | nil => exact absurd hw (wri_ne n)
  | cons x r =>
    have h2 : x ≠ 0 := by simpa [hw] using h1
    show 48 + x ≠ 48
    omega
theorem zx_dig (k n : Nat) : DigOk (zrs k ++ txt n) ∧ 0 < (zrs k ++ txt n).size := by
  obtain ⟨h1, h2⟩ := x_dig n
  constructor
  · intro i hi
    unfold bt
    rw [s_app, zrs_list]
    by_cases h : i < k
    · rw [List.getD_eq_getElem?_getD, List.getElem?_append_left (by simpa using h), List.getElem?_replicate_of_lt h]
      decide
    · have h3 := h1 (i - k) (by rw [ByteArray.size_append, zrs_size] at hi; omega)
      unfold bt at h3
      rw [List.getD_eq_getElem?_getD, List.getElem?_append_right (by simpa using h), List.length_replicate, ← List.getD_eq_getElem?_getD]
      exact h3
  · rw [ByteArray.size_append]; omega
theorem zx_val (k n : Nat) : bval (dgs (zrs k ++ txt n)) = n := by
  have e : dgs (zrs k ++ txt n) = List.replicate k 0 ++ wri n := by rw [← zrs_dgs, ← x_dgs]; unfold dgs; rw [s_app, List.map_append]
  rw [e, bval_zeros_ahead (fun x hx => (List.mem_replicate.1 hx).2), bval_wri]
theorem and15 (k : Int) : ∃ N : Nat, N ≤ 15 ∧ bits BinOp.and IntKind.i64 k 15 = (N : Int) := by
  have h : (BitVec.ofInt 64 k &&& BitVec.ofInt 64 15).toNat ≤ 15 := by rw [BitVec.toNat_and]; exact Nat.le_trans Nat.and_le_right (by decide)
  refine ⟨_, h, ?_⟩
  show IntKind.i64.wrap ((BitVec.ofInt 64 k &&& BitVec.ofInt 64 15).toNat : Int) = _
  rw [IntKind.wrap_i64]
  omega
end Go.Proofs.Ytjfihcnjhjgdpaa

namespace Go.Proofs.Ytjfihcnjhjgdpaa
open Go.RowKit

set_option maxHeartbeats 800000 in
theorem same_yes (v u : Value) (xs : List Nat) (w : World) (hv : Num w v xs) (hu : Num w u xs) :
    Calls Try.prog 37 #[v, u] w fun e w' => e = .returned (.bool true) ∧ ∃ q, w' = w.drewN q := by
  obtain ⟨hb, ao, cap, rfl, hc, hm, hnil, hcell⟩ := hv.open_
  obtain ⟨_, ao', cap', rfl, hc', hm', hnil', hcell'⟩ := hu.open_
  clear hv hu hnil hnil'
  obtain ⟨n, hn⟩ : ∃ n, xs.length = n := ⟨_, rfl⟩
  rw [hn] at hc hc' ⊢
  have HN : Hid (xs.length = n) := hn
  clear hn
  have hne : (((n : Nat) : Int) != ((n : Nat) : Int)) = false := by simp
  go_enter Try.func37, Try.ntmps37
  go_wp2
  go_loopw [5] (fun t wr => ∃ k : Nat, k ≤ n ∧ t = .int .i64 k ∧ ∃ q, wr = w.drewN q) (fun t _ => n - (intOf t).toNat)
  case atStart => exact ⟨0, Nat.zero_le _, rfl, 0, rfl⟩
  case round =>
    obtain ⟨k, hk, rfl, q, rfl⟩ := hrel
    by_cases hkn : k < n
    · obtain ⟨b, off, rfl, hc0⟩ := hcell k (by rw [HN.out]; omega)
      obtain ⟨b', off', rfl, hc1⟩ := hcell' k (by rw [HN.out]; omega)
      obtain ⟨x, hx⟩ : ∃ x, x = xs.getD k 0 := ⟨_, rfl⟩
      rw [← hx] at hc0 hc1
      clear hx hcell hcell'
      have hlt : (k : Int) < (n : Int) := by omega
      go_wp2
      go_quiet (fail)
      go_wp2
      go_roundw
      case rel => exact ⟨k + 1, by omega, by go_num, _, rfl⟩
      case measure => simp [intOf]; omega
    · have hge : ¬ (k : Int) < (n : Int) := by omega
      clear hcell hcell'
      go_wp2
      go_ret
      exact ⟨rfl, q, rfl⟩
end Go.Proofs.Ytjfihcnjhjgdpaa

namespace Go.Proofs.Ytjfihcnjhjgdpaa
open Go.RowKit

theorem tenfold_step {xs ys : List Nat} {k c d : Nat} (hk : ys.length = k) (h : val ys + 4294967296 ^ k * c = 10 * low xs k + d) :
    val (ys ++ [(c + 10 * xs.getD k 0) % 4294967296]) + 4294967296 ^ (k + 1) * ((c + 10 * xs.getD k 0) / 4294967296) = 10 * low xs (k + 1) + d := by
  rw [val_snoc, hk, low_succ xs k, Nat.pow_succ, Nat.add_assoc, carry_eq, Nat.mul_add, Nat.mul_add, Nat.mul_left_comm 10]
  omega
theorem not_digs {s : ByteArray} {i : Nat} (hi : i < s.size) (h : ¬ (48 ≤ bt s i ∧ bt s i ≤ 57)) : ¬ (DigOk s ∧ 0 < s.size) := fun hh => h (hh.1 i hi)

end Go.Proofs.Ytjfihcnjhjgdpaa

namespace Go.Proofs.Ytjfihcnjhjgdpaa
open Go.RowKit

/-- A whole number as it should stand. -/
def IStd (w : World) (v : Value) (z : Int) : Prop := ∃ m, v = .agg #[.bool (decide (z < 0)), m] ∧ Num w m (lim z.natAbs)
theorem IOwn.std {B : Nat} {w : World} {v : Value} {z : Int} (h : IOwn B w v z) : IStd w v z := by
  obtain ⟨m, e, ho⟩ := h
  exact ⟨m, e, ho.num⟩
theorem IStd.below {w w' : World} {v : Value} {z : Int} (h : IStd w v z) (hb : Below w.heap.size w w') : IStd w' v z := by
  obtain ⟨m, e, ho⟩ := h
  exact ⟨m, e, ho.below (Nat.le_refl _) hb⟩

set_option maxRecDepth 100000 in
set_option maxHeartbeats 3200000 in
theorem make_ref (neg : Bool) (m : Value) (xs : List Nat) (w : World) (h : Num w m xs) (hl : xs.length ≤ 1000000000) :
    Calls Try.prog 24 #[.bool neg, m] w fun e w' => IEnd w (zv neg (val xs)) e w' := by
  obtain ⟨ao, cap, rfl, _, _⟩ := h.ao
  obtain ⟨al, hal⟩ : ∃ l, l = xs.length := ⟨_, rfl⟩
  rw [← hal] at h ⊢
  clear hal
  obtain ⟨W1, hW1⟩ : ∃ W1, W1 = w.alloc (.cells #[.bool false, .slice none 0 0] 27) := ⟨_, rfl⟩
  have q0 : ICell W1 w.heap.size false (.slice none 0 0) := by rw [hW1]; exact icell_new _ rfl
  have hb : Below w.heap.size w W1 := by rw [hW1]; exact belowA _ _
  have hsz : w.heap.size < W1.heap.size := by rw [hW1]; simp
  have HW1 : Hid (W1 = w.alloc (.cells #[.bool false, .slice none 0 0] 27)) := hW1
  clear hW1
  replace h := h.below (Nat.le_refl _) hb
  obtain ⟨g, hg⟩ : ∃ g, g = w.heap.size := ⟨_, rfl⟩
  rw [← hg] at q0 hsz
  have HG : Hid (g = w.heap.size) := hg
  obtain ⟨z, hz⟩ : ∃ z, z = zv neg (val xs) := ⟨_, rfl⟩
  have HZ : Hid (z = zv neg (val xs)) := hz
  rw [← hz]
  clear hz
  go_enter Try.func24, Try.ntmps24
  go_wp2_with fail
  rw [← HW1.out, ← hg]
  clear HW1 hg
  refine (norm_ref _ _ _ h (by omega)).mono ?_
  rintro e w2 ⟨u, rfl, hu, hb2⟩
  obtain ⟨uo, uc, rfl, _, _⟩ := hu.num.ao
  obtain ⟨ul, hul⟩ : ∃ l, l = (lim (val xs)).length := ⟨_, rfl⟩
  rw [← hul] at hu ⊢
  have hbz : (neg && decide (0 < ul)) = decide (z < 0) := by rw [hul, HZ.out]; exact sign_eq _ _
  replace q0 := q0.below hb2
  replace hb := bstep hb hb2
  have hu' : Own W1.heap.size 39 w2 (.slice uo ul uc) (lim z.natAbs) := by rw [HZ.out, zv_abs]; exact hu
  cases neg
  · have HE : Hid (IEnd w z (.returned (.agg #[.bool false, .slice uo ul uc])) ((w2.setCell ⟨g, 0, none⟩ (.bool false)).setCell ⟨g, 1, none⟩ (.slice uo ul uc))) := (int_done (by rw [← hbz]; rfl) (by rw [HG.out]; omega) hu' hsz hb).i
    have HW : Hid (ICell ((w2.setCell ⟨g, 0, none⟩ (.bool false)).setCell ⟨g, 1, none⟩ (.slice uo ul uc)) g false (.slice uo ul uc)) := q0.write _ _
    obtain ⟨y0, y1⟩ := q0.cells
    have f0 := q0.thaw 0
    have f1 := q0.thaw 1
    clear q0 hb hu hu' hb2 hsz hbz hul h hl
    go_wp2_with fail
    (try simp only [Exit.inBlock, Exit.then])
    exact bodyPost_ret (results_cell_row rfl _ _ g 27 _ (0, 0) _ rfl HW.out Try.underlying27 rfl (by kernel_rfl)) rfl HE.out
  · obtain ⟨b, hbb⟩ : ∃ b, b = decide (0 < ul) := ⟨_, rfl⟩
    have HE : Hid (IEnd w z (.returned (.agg #[.bool b, .slice uo ul uc])) ((w2.setCell ⟨g, 0, none⟩ (.bool b)).setCell ⟨g, 1, none⟩ (.slice uo ul uc))) := (int_done (by rw [← hbz, hbb]; rfl) (by rw [HG.out]; omega) hu' hsz hb).i
    have HW : Hid (ICell ((w2.setCell ⟨g, 0, none⟩ (.bool b)).setCell ⟨g, 1, none⟩ (.slice uo ul uc)) g b (.slice uo ul uc)) := q0.write _ _
    obtain ⟨y0, y1⟩ := q0.cells
    have f0 := q0.thaw 0
    have f1 := q0.thaw 1
    have hb1 : decide (0 < ul) = b := hbb.symm
    clear q0 hb hu hu' hb2 hsz hbz hul h hl hbb
    go_wp2_with fail
    (try simp only [Exit.inBlock, Exit.then])
    exact bodyPost_ret (results_cell_row rfl _ _ g 27 _ (0, 0) _ rfl HW.out Try.underlying27 rfl (by kernel_rfl)) rfl HE.out

set_option maxRecDepth 100000 in
set_option maxHeartbeats 3200000 in
theorem same02 (a b : Value) (z : Int) (w : World) (ha : IStd w a z) (hb : IStd w b z) :
    Calls Try.prog 36 #[a, b] w fun e w' => e = .returned (.bool true) ∧ Below w.heap.size w w' := by
  obtain ⟨m, rfl, hm⟩ := ha
  obtain ⟨k, rfl, hk⟩ := hb
  obtain ⟨mo, mc, rfl, _, _⟩ := hm.ao
  obtain ⟨ko, kc, rfl, _, _⟩ := hk.ao
  obtain ⟨n, hn⟩ : ∃ n, n = (lim z.natAbs).length := ⟨_, rfl⟩
  rw [← hn] at hm hk ⊢
  clear hn
  obtain ⟨bb, hbb⟩ : ∃ b, b = decide (z < 0) := ⟨_, rfl⟩
  rw [← hbb]
  clear hbb
  have hself : (bb == bb) = true := by simp
  obtain ⟨W1, hW1⟩ : ∃ W1, W1 = (w.alloc (.cells #[.bool bb, .slice mo n mc] 27)).alloc (.cells #[.bool bb, .slice ko n kc] 27) := ⟨_, rfl⟩
  have q0 : ICell W1 (w.heap.size) bb (.slice mo n mc) := by rw [hW1]; exact icell_step (icell_new _ (by simp))
  have q1 : ICell W1 (w.heap.size + 1) bb (.slice ko n kc) := by rw [hW1]; exact icell_new _ (by simp)
  have hB : Below w.heap.size w W1 := by rw [hW1]; exact bstep (belowA w _) (belowA _ _)
  have HW1 : Hid (W1 = (w.alloc (.cells #[.bool bb, .slice mo n mc] 27)).alloc (.cells #[.bool bb, .slice ko n kc] 27)) := hW1
  clear hW1
  replace hm := hm.below (Nat.le_refl _) hB
  replace hk := hk.below (Nat.le_refl _) hB
  go_enter Try.func36, Try.ntmps36
  go_wp2_with fail
  rw [← HW1.out]
  clear HW1
  obtain ⟨g, hg⟩ : ∃ g, g = w.heap.size := ⟨_, rfl⟩
  rw [← hg] at q0 q1 ⊢
  have HB : Hid (Below w.heap.size w W1) := hB
  clear hg hB
  obtain ⟨c0, d0⟩ := q0.cells
  obtain ⟨c1, d1⟩ := q1.cells
  clear q0 q1
  go_wp2_with fail
  refine (same_yes _ _ _ _ hm hk).mono ?_
  rintro e w2 ⟨rfl, q, hq⟩
  have HE : Hid (Below w.heap.size w w2) := by rw [hq]; exact bstep HB.out (below_drewN (Below.refl _ _) q)
  clear hq hm hk HB c0 d0 c1 d1
  go_wp2_with fail
  go_ret
  exact ⟨rfl, HE.out⟩

/-- What is read, and the error's number. -/
def pz (s : ByteArray) : Int := if DigOk (tail s) ∧ 0 < (tail s).size then zv (strk s) (bval (dgs (tail s))) else 0
def pe (s : ByteArray) : Int := if DigOk (tail s) ∧ 0 < (tail s).size then 0 else 10
/-- What a reader leaves. -/
def PEnd (w : World) (z er : Int) (e : Ending) (w' : World) : Prop := ∃ v, e = .returned (.tuple #[v, .int .i64 er]) ∧ IOwn w.heap.size w' v z ∧ Below w.heap.size w w'
theorem IOwn.nil (B : Nat) (w : World) : IOwn B w (.agg #[.bool false, .slice none 0 0]) 0 := ⟨_, rfl, Own.of_nil _ _ _⟩
theorem strk_bt {s : ByteArray} (h : 0 < s.size) : strk s = decide (bt s 0 = 45) := by
  rw [strk_eq]
  unfold bt
  cases hl : s.data.toList with
  | nil => rw [s_size, hl] at h; exact absurd h (by simp)
  | cons x r =>
    rw [Bool.eq_iff_iff]
    simp
    exact ⟨fun h => by rw [h]; rfl, fun h => UInt8.toNat_inj.1 h⟩

/-- How many limbs a text's number has. -/
theorem lim_dgs {t : ByteArray} (hd : DigOk t) : (lim (bval (dgs t))).length ≤ t.size := by
  apply lim_len_le
  have h1 := dval_lt (decs_rev hd.decs)
  rw [List.length_reverse, dgs_len] at h1
  exact Nat.lt_of_lt_of_le h1 (Nat.pow_le_pow_left (by decide : 10 ≤ 4294967296) _)
theorem mk_pend {w w4 : World} {g : Nat} {z : Int} {m : Value} {B : Nat} (hg : g = w.heap.size) (ho : Own B 39 w4 m (lim z.natAbs)) (hgB : g < B) (hb : Below w.heap.size w w4) :
    PEnd w z 0 (.returned (.tuple #[.agg #[.bool (decide (z < 0)), m], .int .i64 0])) ((w4.setCell ⟨g, 0, none⟩ (.bool (decide (z < 0)))).setCell ⟨g, 1, none⟩ m) := by
  obtain ⟨v9, he9, ho9, hb9⟩ := (int_done (w := w) (g := g) (z := z) rfl (by rw [hg]; exact Nat.le_refl _) ho hgB hb).i
  cases he9
  exact ⟨_, rfl, ho9, hb9⟩

end Go.Proofs.Ytjfihcnjhjgdpaa

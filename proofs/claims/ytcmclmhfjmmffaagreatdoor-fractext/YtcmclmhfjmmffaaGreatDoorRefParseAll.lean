/-
  Proved here: plain facts on texts with a stroke ahead, and on noughts ahead of digits. No condition.
  Proved here: what Same answers of two numbers that are one.
  Proved here: what the plain way's Parse answers.
-/
import Derived.Test.YtcmclmhfjmmffaaGreatDoorWholeX3
import Derived.Test.YtcmclmhfjmmffaaGreatDoorWholeDAll
import Derived.Laws.Strings
import Derived.Test.YtcmclmhfjmmffaaGreatDoorTrimAll
import Derived.Test.YtcmclmhfjmmffaaGreatDoorTrimLAll
import Derived.Test.YtcmclmhfjmmffaaGreatDoorFreshAll
namespace Go.Proofs.YtcmclmhfjmmffaaGreatDoor
open Go.RowKit

theorem s_app (a b : ByteArray) : (a ++ b).data.toList = a.data.toList ++ b.data.toList := by rw [ByteArray.data_append, Array.toList_append]
theorem s_size (s : ByteArray) : s.size = s.data.toList.length := by rw [Array.length_toList]; rfl
theorem strk_eq (s : ByteArray) : strk s = decide (s.data.toList.take 1 = [45]) := by
  unfold strk
  rw [ByteArray.toList_eq, extract_list, List.drop_zero, s_size]
  cases h : s.data.toList with
  | nil => rfl
  | cons x r =>
    rw [Bool.eq_iff_iff]
    simp
theorem s_ext {a b : ByteArray} (h : a.data.toList = b.data.toList) : a = b := ByteArray.ext (Array.ext' h)
theorem strk_minus (t : ByteArray) : strk (⟨#[45]⟩ ++ t) = true ∧ tail (⟨#[45]⟩ ++ t) = t := by
  have h : strk (⟨#[45]⟩ ++ t) = true := by rw [strk_eq, s_app]; rfl
  refine ⟨h, ?_⟩
  unfold tail
  rw [if_pos h]
  apply s_ext
  rw [extract_list, s_app, s_size, s_app]
  simp
  exact List.take_of_length_le (by rw [s_size]; exact Nat.le_refl _)
theorem strk_first {s : ByteArray} {x : UInt8} {r : List UInt8} (h : s.data.toList = x :: r) (hx : x ≠ 45) : strk s = false ∧ tail s = s := by
  have h1 : strk s = false := by rw [strk_eq, h]; simpa using hx
  refine ⟨h1, ?_⟩
  unfold tail
  rw [h1]
  rfl
theorem dig_first {s : ByteArray} (h : DigOk s) (h0 : 0 < s.size) : strk s = false ∧ tail s = s := by
  cases hl : s.data.toList with
  | nil => rw [s_size, hl] at h0; exact absurd h0 (by simp)
  | cons x r =>
    refine strk_first hl ?_
    intro hx
    have h1 := h 0 h0
    unfold bt at h1
    rw [hl, hx] at h1
    simp at h1
/-- So many noughts. -/
def zrs (k : Nat) : ByteArray := ⟨(List.replicate k (48 : UInt8)).toArray⟩
theorem zrs_list (k : Nat) : (zrs k).data.toList = List.replicate k 48 := rfl
theorem zrs_succ (k : Nat) : zrs k ++ ⟨#[48]⟩ = zrs (k + 1) := by
  apply s_ext
  rw [s_app, zrs_list, zrs_list, List.replicate_succ']
theorem zrs_size (k : Nat) : (zrs k).size = k := by rw [s_size, zrs_list, List.length_replicate]
theorem zrs_dgs (k : Nat) : dgs (zrs k) = List.replicate k 0 := by
  unfold dgs
  rw [zrs_list, List.map_replicate]
  rfl
theorem x_bt {n i : Nat} (hi : i < (wri n).length) : bt (txt n) i = 48 + (wri n).getD i 0 := str_bt (wri_decs n) rfl hi
theorem x_dig (n : Nat) : DigOk (txt n) ∧ 0 < (txt n).size := by
  constructor
  · intro i hi
    rw [txt_size] at hi
    rw [x_bt hi]
    have := wri_decs n _ (List.getElem_mem hi)
    rw [List.getD_eq_getElem?_getD, List.getElem?_eq_getElem hi]
    simp
    omega
  · rw [txt_size]; exact List.length_pos_iff.2 (wri_ne n)
theorem x_dgs (n : Nat) : dgs (txt n) = wri n := by
  apply ext_getD (by rw [dgs_len, txt_size])
  intro q hq
  rw [dgs_len, txt_size] at hq
  rw [dgs_at (by rw [txt_size]; exact hq), x_bt hq]
  omega
theorem x_val (n : Nat) : bval (dgs (txt n)) = n := by rw [x_dgs, bval_wri]
theorem x_first {n : Nat} (h : 1 < (txt n).size) : bt (txt n) 0 ≠ 48 := by
  rw [txt_size] at h
  rw [x_bt (by omega)]
  have hn : n ≠ 0 := by intro h0; rw [h0] at h; exact absurd h (by decide)
  have h1 := wri_head hn (wri_ne n)
  cases hw : wri n with
  | nil => exact absurd hw (wri_ne n)
  | cons x r =>
    have h2 : x ≠ 0 := by simpa [hw] using h1
    show 48 + x ≠ 48
    omega
theorem zx_dig (k n : Nat) : DigOk (zrs k ++ txt n) ∧ 0 < (zrs k ++ txt n).size := by
  obtain ⟨h1, h2⟩ := x_dig n
  constructor
  · intro i hi
    unfold bt
    rw [s_app, zrs_list]
    by_cases h : i < k
    · rw [List.getD_eq_getElem?_getD, List.getElem?_append_left (by simpa using h), List.getElem?_replicate_of_lt h]
      decide
    · have h3 := h1 (i - k) (by rw [ByteArray.size_append, zrs_size] at hi; omega)
      unfold bt at h3
      rw [List.getD_eq_getElem?_getD, List.getElem?_append_right (by simpa using h), List.length_replicate, ← List.getD_eq_getElem?_getD]
      exact h3
  · rw [ByteArray.size_append]; omega
theorem zx_val (k n : Nat) : bval (dgs (zrs k ++ txt n)) = n := by
  have e : dgs (zrs k ++ txt n) = List.replicate k 0 ++ wri n := by rw [← zrs_dgs, ← x_dgs]; unfold dgs; rw [s_app, List.map_append]
  rw [e, bval_zeros_ahead (fun x hx => (List.mem_replicate.1 hx).2), bval_wri]
theorem and15 (k : Int) : ∃ N : Nat, N ≤ 15 ∧ bits BinOp.and IntKind.i64 k 15 = (N : Int) := by
  have h : (BitVec.ofInt 64 k &&& BitVec.ofInt 64 15).toNat ≤ 15 := by rw [BitVec.toNat_and]; exact Nat.le_trans Nat.and_le_right (by decide)
  refine ⟨_, h, ?_⟩
  show IntKind.i64.wrap ((BitVec.ofInt 64 k &&& BitVec.ofInt 64 15).toNat : Int) = _
  rw [IntKind.wrap_i64]
  omega
theorem parse_of {s t : ByteArray} {k : Bool} {z : Int} (hst : strk s = k) (htl : tail s = t) (hd : DigOk t ∧ 0 < t.size) (hz : zv k (bval (dgs t)) = z) (hs : s.size ≤ 1000000) (w : World) :
    Calls Tryz.prog 83 #[.string s] w fun e w' => ∃ v, e = .returned (.tuple #[v, .int .i64 0]) ∧ IOwn w.heap.size w' v z ∧ Below w.heap.size w w' := by
  have h := c_parse s w hs
  rw [htl, hst, hz] at h
  simp only [hd, and_self, if_true] at h
  exact h
theorem parse_plus {s : ByteArray} (hs : (⟨#[43]⟩ ++ s).size ≤ 1000000) (w : World) :
    Calls Tryz.prog 83 #[.string (⟨#[43]⟩ ++ s)] w fun e w' => e = .returned (.tuple #[.agg #[.bool false, .slice none 0 0], .int .i64 10]) ∧ Below w.heap.size w w' := by
  have h := c_parse (⟨#[43]⟩ ++ s) w hs
  have hl : (⟨#[43]⟩ ++ s : ByteArray).data.toList = 43 :: s.data.toList := by rw [s_app]; rfl
  have hf := strk_first hl (by decide)
  rw [hf.2] at h
  have hn : ¬ (DigOk (⟨#[43]⟩ ++ s) ∧ 0 < (⟨#[43]⟩ ++ s : ByteArray).size) := by
    intro hd
    have h1 := hd.1 0 hd.2
    unfold bt at h1
    rw [hl] at h1
    have h2 : 48 ≤ (43 : UInt8).toNat := h1.1
    exact absurd h2 (by decide)
  simp only [hn, if_false] at h
  exact h
end Go.Proofs.YtcmclmhfjmmffaaGreatDoor

namespace Go.Proofs.YtcmclmhfjmmffaaGreatDoor
open Go.RowKit

set_option maxHeartbeats 800000 in
theorem same_yes (v u : Value) (xs : List Nat) (w : World) (hv : Num w v xs) (hu : Num w u xs) :
    Calls Tryz.prog 68 #[v, u] w fun e w' => e = .returned (.bool true) ∧ ∃ q, w' = w.drewN q := by
  obtain ⟨hb, ao, cap, rfl, hc, hm, hnil, hcell⟩ := hv.open_
  obtain ⟨_, ao', cap', rfl, hc', hm', hnil', hcell'⟩ := hu.open_
  clear hv hu hnil hnil'
  obtain ⟨n, hn⟩ : ∃ n, xs.length = n := ⟨_, rfl⟩
  rw [hn] at hc hc' ⊢
  have HN : Hid (xs.length = n) := hn
  clear hn
  have hne : (((n : Nat) : Int) != ((n : Nat) : Int)) = false := by simp
  go_enter Tryz.func68, Tryz.ntmps68
  go_wp2
  go_loopw [5] (fun t wr => ∃ k : Nat, k ≤ n ∧ t = .int .i64 k ∧ ∃ q, wr = w.drewN q) (fun t _ => n - (intOf t).toNat)
  case atStart => exact ⟨0, Nat.zero_le _, rfl, 0, rfl⟩
  case round =>
    obtain ⟨k, hk, rfl, q, rfl⟩ := hrel
    by_cases hkn : k < n
    · obtain ⟨b, off, rfl, hc0⟩ := hcell k (by rw [HN.out]; omega)
      obtain ⟨b', off', rfl, hc1⟩ := hcell' k (by rw [HN.out]; omega)
      obtain ⟨x, hx⟩ : ∃ x, x = xs.getD k 0 := ⟨_, rfl⟩
      rw [← hx] at hc0 hc1
      clear hx hcell hcell'
      have hlt : (k : Int) < (n : Int) := by omega
      go_wp2
      go_quiet (fail)
      go_wp2
      go_roundw
      case rel => exact ⟨k + 1, by omega, by go_num, _, rfl⟩
      case measure => simp [intOf]; omega
    · have hge : ¬ (k : Int) < (n : Int) := by omega
      clear hcell hcell'
      go_wp2
      go_ret
      exact ⟨rfl, q, rfl⟩
end Go.Proofs.YtcmclmhfjmmffaaGreatDoor

namespace Go.Proofs.YtcmclmhfjmmffaaGreatDoor
open Go.RowKit

theorem tenfold_step {xs ys : List Nat} {k c d : Nat} (hk : ys.length = k) (h : val ys + 4294967296 ^ k * c = 10 * low xs k + d) :
    val (ys ++ [(c + 10 * xs.getD k 0) % 4294967296]) + 4294967296 ^ (k + 1) * ((c + 10 * xs.getD k 0) / 4294967296) = 10 * low xs (k + 1) + d := by
  rw [val_snoc, hk, low_succ xs k, Nat.pow_succ, Nat.add_assoc, carry_eq, Nat.mul_add, Nat.mul_add, Nat.mul_left_comm 10]
  omega
theorem not_digs {s : ByteArray} {i : Nat} (hi : i < s.size) (h : ¬ (48 ≤ bt s i ∧ bt s i ≤ 57)) : ¬ (DigOk s ∧ 0 < s.size) := fun hh => h (hh.1 i hi)

set_option maxRecDepth 100000 in
set_option maxHeartbeats 6400000 in
theorem parse_ref (s : ByteArray) (w : World) (hs : s.size ≤ 1000000) :
    Calls Tryz.prog 86 #[.string s] w fun e w' => ParseEnd w s e w' := by
  obtain ⟨iU, hiU, hzU0, hzU1, hzU2⟩ := info_parts Tryz.infoU
  by_cases h0 : s.size = 0
  · have hd : ¬ (DigOk s ∧ 0 < s.size) := fun h => by omega
    have HE : Hid (ParseEnd w s (.returned (.tuple #[.slice none 0 0, .int .i64 10])) w) := by
      refine ⟨_, by rw [if_neg hd], ?_, Below.refl _ _⟩
      rw [if_neg hd]
      exact Own.of_nil _ _ _
    have hne : s.toList = [] := by
      have h1 : s.toList = s.data.toList := ByteArray.toList_eq s
      rw [h1]
      exact List.eq_nil_of_length_eq_zero (by rw [Array.length_toList]; exact h0)
    have hie : s.toList.isEmpty = true := by rw [hne]; rfl
    clear hd
    go_enter Tryz.func86, Tryz.ntmps86
    go_wp2_with fail
    go_ret2
    exact HE.out
  · have hne : ¬ s.toList = [] := by
      intro h
      have h1 : s.toList = s.data.toList := ByteArray.toList_eq s
      rw [h1] at h
      have h2 : s.data.toList.length = 0 := by rw [h]; rfl
      rw [Array.length_toList] at h2
      exact h0 h2
    have hie : s.toList.isEmpty = false := by rw [List.isEmpty_eq_false_iff]; exact hne
    have hs0 : 0 < s.size := by omega
    go_enter Tryz.func86, Tryz.ntmps86
    go_wp2_with fail
    go_loopw [4, 5] (fun xv iv wr => ∃ (i : Nat) (xs : List Nat), i ≤ s.size ∧ iv = .int .i64 i ∧ xs.length ≤ i ∧ val xs = bval ((dgs s).take i) ∧ (∀ j, j < i → 48 ≤ bt s j ∧ bt s j ≤ 57) ∧ Own w.heap.size 69 wr xv xs ∧ Below w.heap.size w wr) (fun _ iv _ => s.size - (intOf iv).toNat)
    case atStart => exact ⟨0, [], Nat.zero_le _, rfl, Nat.zero_le _, rfl, fun j hj => by omega, Own.of_nil _ _ _, Below.refl _ _⟩
    case round =>
      obtain ⟨i, xs, hi, rfl, hxl, hxv, hdd, how, hbel⟩ := hrel
      have HXV : Hid (val xs = bval ((dgs s).take i)) := hxv
      have HDD : Hid (∀ j, j < i → 48 ≤ bt s j ∧ bt s j ≤ 57) := hdd
      clear hxv hdd
      by_cases hlt : i < s.size
      · have hlt' : (i : Int) < (s.size : Int) := by omega
        have hg := bt_get hlt
        have hda := dgs_at hlt
        obtain ⟨c, hc⟩ : ∃ c, c = bt s i := ⟨_, rfl⟩
        rw [← hc] at hg hda
        have hc256 : c < 256 := by rw [hc]; exact bt_lt s i
        have HC : Hid (c = bt s i) := hc
        have HDA : Hid ((dgs s).getD i 0 = c - 48) := hda
        clear hc hda
        by_cases h1 : c < 48
        · have h1' : (c : Int) < 48 := by omega
          have hnd := not_digs hlt (by rw [← HC.out]; omega)
          have HE : Hid (ParseEnd w s (.returned (.tuple #[.slice none 0 0, .int .i64 10])) wr) := by
            refine ⟨_, by rw [if_neg hnd], ?_, hbel⟩
            rw [if_neg hnd]
            exact Own.of_nil _ _ _
          clear hnd how hbel
          go_wp2_with fail
          go_ret2
          exact HE.out
        · have h1' : ¬ (c : Int) < 48 := by omega
          by_cases h2 : 57 < c
          · have h2' : (57 : Int) < (c : Int) := by omega
            have hnd := not_digs hlt (by rw [← HC.out]; omega)
            have HE : Hid (ParseEnd w s (.returned (.tuple #[.slice none 0 0, .int .i64 10])) wr) := by
              refine ⟨_, by rw [if_neg hnd], ?_, hbel⟩
              rw [if_neg hnd]
              exact Own.of_nil _ _ _
            clear hnd how hbel
            go_wp2_with fail
            go_ret2
            exact HE.out
          · have h2' : ¬ (57 : Int) < (c : Int) := by omega
            have h48 : (48 : Int) ≤ (c : Int) := by omega
            obtain ⟨ao, cap, rfl, hao, hlc, hcm⟩ := how.ao
            obtain ⟨n, hn⟩ : ∃ n, n = xs.length := ⟨_, rfl⟩
            rw [← hn] at how hao hlc hxl ⊢
            have HN : Hid (n = xs.length) := hn
            clear hn
            obtain ⟨W0, hW0⟩ : ∃ W0, W0 = wr := ⟨_, rfl⟩
            have HW : Hid (Own w.heap.size 69 W0 (.slice ao n cap) xs ∧ Below w.heap.size w W0) := by rw [hW0]; exact ⟨how, hbel⟩
            have HST : Hid (Below W0.heap.size W0 wr) := by rw [hW0]; exact Below.refl _ _
            clear how hbel hW0
            go_wp2_with fail
            go_loopw [6, 7, 8] (fun cv yv kv wq => ∃ (k r : Nat) (ys : List Nat), k ≤ n ∧ kv = .int .i64 k ∧ cv = .int .u64 r ∧ r ≤ 10 ∧ ys.length = k ∧ Own W0.heap.size 69 wq yv ys ∧ Below W0.heap.size W0 wq ∧ val ys + 4294967296 ^ k * r = 10 * low xs k + (c - 48)) (fun _ _ kv _ => n - (intOf kv).toNat)
            case atStart => exact ⟨0, c - 48, [], Nat.zero_le _, rfl, by congr 1; omega, by omega, rfl, Own.of_nil _ _ _, HST.out, by simp [low_zero, val]⟩
            case round =>
              clear HST
              obtain ⟨k, r, ys, hk, rfl, rfl, hr10, hyl, hoy, hbq, hinv⟩ := hrel
              have HY : Hid (ys.length = k) := hyl
              have HI : Hid (val ys + 4294967296 ^ k * r = 10 * low xs k + (c - 48)) := hinv
              have hB : W0.heap.size ≤ wr.heap.size := hbq.size
              clear hyl hinv
              by_cases hkn : k < n
              · have hkn' : (k : Int) < (n : Int) := by omega
                obtain ⟨g, rfl⟩ := hao (by omega)
                have hx0 := limb_lt HW.out.1.1 k
                have cx : wr.cell? ⟨g, k, none⟩ = some (.int .u32 ((xs.getD k 0 : Nat) : Int)) := by
                  have h1 := (HW.out.1.cell (k := k) (by rw [← HN.out]; exact hkn)).1
                  rw [hbq.cell (p := ⟨g, k, none⟩) (block_lt_of_cell h1)]; exact h1
                obtain ⟨x, hx⟩ : ∃ x, x = xs.getD k 0 := ⟨_, rfl⟩
                rw [← hx] at cx hx0
                have HX : Hid (x = xs.getD k 0) := hx
                obtain ⟨T, hT⟩ : ∃ T, T = r + 10 * x := ⟨_, rfl⟩
                have eT : (r : Int) + 10 * (x : Int) = (T : Int) := by omega
                have hTb : T ≤ 42949672960 := by omega
                obtain ⟨L, hL⟩ : ∃ L, L = T % 4294967296 := ⟨_, rfl⟩
                have eL : (T : Int) % 4294967296 = (L : Int) := by omega
                have hLb : L < 4294967296 := by omega
                obtain ⟨H, hH⟩ : ∃ H, H = T / 4294967296 := ⟨_, rfl⟩
                have eH : (T : Int) / 4294967296 = (H : Int) := by omega
                have hHb : H ≤ 10 := by omega
                have HT : Hid (L = (r + 10 * xs.getD k 0) % 4294967296 ∧ H = (r + 10 * xs.getD k 0) / 4294967296) := by rw [← hx, ← hT]; exact ⟨hL, hH⟩
                have HO : Hid (wr.ownsRow W0.heap.size 69 1 u7 k (ys.map U)) := by show _; rw [← HY.out]; exact hoy.2
                clear hx hT hL hH
                have hB3 : W0.heap.size ≤ (wr.alloc (.cells #[.int .u32 (L : Int)] 69)).heap.size := by simp; omega
                go_wp2_with (at_builtin; refine wpList_push _ rfl _ _ 23 rfl W0.heap.size 69 iU (.int .u32 0) 4 Tryz.underlying23 hiU hzU0 hzU1 hzU2 rfl _ k (ys.map U) rfl (HO.out.alloc _) ⟨wr.heap.size, 0, none⟩ 1 1 [.int .u32 (L : Int)] rfl rfl (cell_one_new _ _ _) (fun u hu => by simp at hu; subst hu; rfl) (by decide) (by unfold maxLen; omega) (by omega) hB3 ?_)
                intro v' w5 ho hgr _ _
                have R := push_own (d := L) hoy hbq hB hLb (by rw [HY.out, show U L = .int .u32 (L : Int) from rfl]; exact ho) hgr
                clear ho hgr hoy hbq hB HO hB3 cx hao
                go_wp2
                go_roundw
                case rel =>
                  refine ⟨k + 1, H, ys ++ [L], by omega, by go_num, rfl, hHb, by rw [List.length_append, HY.out]; rfl, R.1, R.2.1, ?_⟩
                  rw [HT.out.1, HT.out.2]
                  exact tenfold_step HY.out HI.out
                case measure => simp [intOf]; omega
              · have hkn' : ¬ (k : Int) < (n : Int) := by omega
                have hkn2 : k = n := by omega
                subst hkn2
                have hI := HI.out
                rw [low_all (xs := xs) (by rw [← HN.out]; exact Nat.le_refl _)] at hI
                have HNX : Hid (10 * val xs + (c - 48) = bval ((dgs s).take (i + 1))) := by
                  show _ = _
                  rw [take_snoc (by rw [dgs_len]; exact hlt), bval_snoc, HDA.out, HXV.out, Nat.mul_comm]
                have HD2 : Hid (∀ j, j < i + 1 → 48 ≤ bt s j ∧ bt s j ≤ 57) := fun j hj => by
                  by_cases hji : j = i
                  · rw [hji, ← HC.out]; omega
                  · exact HDD.out j (by omega)
                have hbw0 : w.heap.size ≤ W0.heap.size := HW.out.2.size
                by_cases hr0 : r = 0
                · subst hr0
                  have hr0' : ¬ (0 : Int) < ((0 : Nat) : Int) := by omega
                  rw [Nat.mul_zero, Nat.add_zero] at hI
                  have HI2 : Hid (val ys = 10 * val xs + (c - 48)) := hI
                  have hoy2 := hoy.mono hbw0
                  have hbel2 := HW.out.2.trans (hbq.mono hbw0)
                  clear hI hoy hbq hao
                  go_wp2_with fail
                  go_roundw
                  case rel => exact ⟨i + 1, ys, by omega, by go_num, by rw [HY.out]; omega, by rw [HI2.out, HNX.out], HD2.out, hoy2, hbel2⟩
                  case measure => simp [intOf]; omega
                · have hr0' : (0 : Int) < (r : Int) := by omega
                  have hr32 : r < 4294967296 := by omega
                  have HI2 : Hid (val (ys ++ [r]) = 10 * val xs + (c - 48)) := by show _ = _; rw [val_snoc, HY.out]; exact hI
                  have HO : Hid (wr.ownsRow W0.heap.size 69 1 u7 k (ys.map U)) := by show _; rw [← HY.out]; exact hoy.2
                  have hB3 : W0.heap.size ≤ (wr.alloc (.cells #[.int .u32 (r : Int)] 69)).heap.size := by simp; omega
                  clear hI
                  go_wp2_with (at_builtin; refine wpList_push _ rfl _ _ 23 rfl W0.heap.size 69 iU (.int .u32 0) 4 Tryz.underlying23 hiU hzU0 hzU1 hzU2 rfl _ k (ys.map U) rfl (HO.out.alloc _) ⟨wr.heap.size, 0, none⟩ 1 1 [.int .u32 (r : Int)] rfl rfl (cell_one_new _ _ _) (fun u hu => by simp at hu; subst hu; rfl) (by decide) (by unfold maxLen; omega) (by omega) hB3 ?_)
                  intro v' w5 ho hgr _ _
                  have R := push_own (d := r) hoy hbq hB hr32 (by rw [HY.out, show U r = .int .u32 (r : Int) from rfl]; exact ho) hgr
                  have hoy2 := R.1.mono hbw0
                  have hbel2 := HW.out.2.trans (R.2.1.mono hbw0)
                  clear ho hgr hoy hbq hB HO hB3 hao R
                  go_wp2_with fail
                  go_roundw
                  case rel => exact ⟨i + 1, ys ++ [r], by omega, by go_num, by rw [List.length_append, HY.out]; simp; omega, by rw [HI2.out, HNX.out], HD2.out, hoy2, hbel2⟩
                  case measure => simp [intOf]; omega
      · have hlt' : ¬ (i : Int) < (s.size : Int) := by omega
        have hin : i = s.size := by omega
        subst hin
        have hd : DigOk s ∧ 0 < s.size := ⟨HDD.out, hs0⟩
        have hxv := HXV.out
        rw [List.take_of_length_le (by rw [dgs_len]; exact Nat.le_refl _)] at hxv
        go_wp2_with fail
        refine (norm_ref _ _ _ how.num (by omega)).mono ?_
        rintro e w3 ⟨o, rfl, hoo, hb3⟩
        rw [hxv] at hoo
        have HE : Hid (ParseEnd w s (.returned (.tuple #[o, .int .i64 0])) w3) := by
          refine ⟨_, by rw [if_pos hd], ?_, hbel.trans (hb3.mono hbel.size)⟩
          rw [if_pos hd]; exact hoo.mono hbel.size
        clear how hbel hoo hb3 hd hxv
        go_wp2_with fail
        go_ret2
        exact HE.out
end Go.Proofs.YtcmclmhfjmmffaaGreatDoor

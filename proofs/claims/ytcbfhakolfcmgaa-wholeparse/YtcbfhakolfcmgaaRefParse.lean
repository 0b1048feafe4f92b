/-
  Proved here: what the plain way's Parse answers.
-/
import Derived.Test.YtcbfhakolfcmgaaParse
import Derived.Test.YtcbfhakolfcmgaaNorm
namespace Go.Proofs.Ytcbfhakolfcmgaa
open Go.RowKit

theorem tenfold_step {xs ys : List Nat} {k c d : Nat} (hk : ys.length = k) (h : val ys + 4294967296 ^ k * c = 10 * low xs k + d) :
    val (ys ++ [(c + 10 * xs.getD k 0) % 4294967296]) + 4294967296 ^ (k + 1) * ((c + 10 * xs.getD k 0) / 4294967296) = 10 * low xs (k + 1) + d := by
  rw [val_snoc, hk, low_succ xs k, Nat.pow_succ, Nat.add_assoc, carry_eq, Nat.mul_add, Nat.mul_add, Nat.mul_left_comm 10]
  omega
theorem not_digs {s : ByteArray} {i : Nat} (hi : i < s.size) (h : ¬ (48 ≤ bt s i ∧ bt s i ≤ 57)) : ¬ (DigOk s ∧ 0 < s.size) := fun hh => h (hh.1 i hi)

set_option maxRecDepth 100000 in
set_option maxHeartbeats 6400000 in
theorem parse_ref (s : ByteArray) (w : World) (hs : s.size ≤ 1000000) :
    Calls Try.prog 7 #[.string s] w fun e w' => ParseEnd w s e w' := by
  obtain ⟨iU, hiU, hzU0, hzU1, hzU2⟩ := info_parts Try.infoU
  by_cases h0 : s.size = 0
  · have hd : ¬ (DigOk s ∧ 0 < s.size) := fun h => by omega
    have HE : Hid (ParseEnd w s (.returned (.tuple #[.slice none 0 0, .int .i64 10])) w) := by
      refine ⟨_, by rw [if_neg hd], ?_, Below.refl _ _⟩
      rw [if_neg hd]
      exact Own.of_nil _ _ _
    have hne : s.toList = [] := by
      have h1 : s.toList = s.data.toList := ByteArray.toList_eq s
      rw [h1]
      exact List.eq_nil_of_length_eq_zero (by rw [Array.length_toList]; exact h0)
    have hie : s.toList.isEmpty = true := by rw [hne]; rfl
    clear hd
    go_enter Try.func7, Try.ntmps7
    go_wp2_with fail
    go_ret2
    exact HE.out
  · have hne : ¬ s.toList = [] := by
      intro h
      have h1 : s.toList = s.data.toList := ByteArray.toList_eq s
      rw [h1] at h
      have h2 : s.data.toList.length = 0 := by rw [h]; rfl
      rw [Array.length_toList] at h2
      exact h0 h2
    have hie : s.toList.isEmpty = false := by rw [List.isEmpty_eq_false_iff]; exact hne
    have hs0 : 0 < s.size := by omega
    go_enter Try.func7, Try.ntmps7
    go_wp2_with fail
    go_loopw [4, 5] (fun xv iv wr => ∃ (i : Nat) (xs : List Nat), i ≤ s.size ∧ iv = .int .i64 i ∧ xs.length ≤ i ∧ val xs = bval ((dgs s).take i) ∧ (∀ j, j < i → 48 ≤ bt s j ∧ bt s j ≤ 57) ∧ Own w.heap.size 30 wr xv xs ∧ Below w.heap.size w wr) (fun _ iv _ => s.size - (intOf iv).toNat)
    case atStart => exact ⟨0, [], Nat.zero_le _, rfl, Nat.zero_le _, rfl, fun j hj => by omega, Own.of_nil _ _ _, Below.refl _ _⟩
    case round =>
      obtain ⟨i, xs, hi, rfl, hxl, hxv, hdd, how, hbel⟩ := hrel
      have HXV : Hid (val xs = bval ((dgs s).take i)) := hxv
      have HDD : Hid (∀ j, j < i → 48 ≤ bt s j ∧ bt s j ≤ 57) := hdd
      clear hxv hdd
      by_cases hlt : i < s.size
      · have hlt' : (i : Int) < (s.size : Int) := by omega
        have hg := bt_get hlt
        have hda := dgs_at hlt
        obtain ⟨c, hc⟩ : ∃ c, c = bt s i := ⟨_, rfl⟩
        rw [← hc] at hg hda
        have hc256 : c < 256 := by rw [hc]; exact bt_lt s i
        have HC : Hid (c = bt s i) := hc
        have HDA : Hid ((dgs s).getD i 0 = c - 48) := hda
        clear hc hda
        by_cases h1 : c < 48
        · have h1' : (c : Int) < 48 := by omega
          have hnd := not_digs hlt (by rw [← HC.out]; omega)
          have HE : Hid (ParseEnd w s (.returned (.tuple #[.slice none 0 0, .int .i64 10])) wr) := by
            refine ⟨_, by rw [if_neg hnd], ?_, hbel⟩
            rw [if_neg hnd]
            exact Own.of_nil _ _ _
          clear hnd how hbel
          go_wp2_with fail
          go_ret2
          exact HE.out
        · have h1' : ¬ (c : Int) < 48 := by omega
          by_cases h2 : 57 < c
          · have h2' : (57 : Int) < (c : Int) := by omega
            have hnd := not_digs hlt (by rw [← HC.out]; omega)
            have HE : Hid (ParseEnd w s (.returned (.tuple #[.slice none 0 0, .int .i64 10])) wr) := by
              refine ⟨_, by rw [if_neg hnd], ?_, hbel⟩
              rw [if_neg hnd]
              exact Own.of_nil _ _ _
            clear hnd how hbel
            go_wp2_with fail
            go_ret2
            exact HE.out
          · have h2' : ¬ (57 : Int) < (c : Int) := by omega
            have h48 : (48 : Int) ≤ (c : Int) := by omega
            obtain ⟨ao, cap, rfl, hao, hlc, hcm⟩ := how.ao
            obtain ⟨n, hn⟩ : ∃ n, n = xs.length := ⟨_, rfl⟩
            rw [← hn] at how hao hlc hxl ⊢
            have HN : Hid (n = xs.length) := hn
            clear hn
            obtain ⟨W0, hW0⟩ : ∃ W0, W0 = wr := ⟨_, rfl⟩
            have HW : Hid (Own w.heap.size 30 W0 (.slice ao n cap) xs ∧ Below w.heap.size w W0) := by rw [hW0]; exact ⟨how, hbel⟩
            have HST : Hid (Below W0.heap.size W0 wr) := by rw [hW0]; exact Below.refl _ _
            clear how hbel hW0
            go_wp2_with fail
            go_loopw [6, 7, 8] (fun cv yv kv wq => ∃ (k r : Nat) (ys : List Nat), k ≤ n ∧ kv = .int .i64 k ∧ cv = .int .u64 r ∧ r ≤ 10 ∧ ys.length = k ∧ Own W0.heap.size 30 wq yv ys ∧ Below W0.heap.size W0 wq ∧ val ys + 4294967296 ^ k * r = 10 * low xs k + (c - 48)) (fun _ _ kv _ => n - (intOf kv).toNat)
            case atStart => exact ⟨0, c - 48, [], Nat.zero_le _, rfl, by congr 1; omega, by omega, rfl, Own.of_nil _ _ _, HST.out, by simp [low_zero, val]⟩
            case round =>
              clear HST
              obtain ⟨k, r, ys, hk, rfl, rfl, hr10, hyl, hoy, hbq, hinv⟩ := hrel
              have HY : Hid (ys.length = k) := hyl
              have HI : Hid (val ys + 4294967296 ^ k * r = 10 * low xs k + (c - 48)) := hinv
              have hB : W0.heap.size ≤ wr.heap.size := hbq.size
              clear hyl hinv
              by_cases hkn : k < n
              · have hkn' : (k : Int) < (n : Int) := by omega
                obtain ⟨g, rfl⟩ := hao (by omega)
                have hx0 := limb_lt HW.out.1.1 k
                have cx : wr.cell? ⟨g, k, none⟩ = some (.int .u32 ((xs.getD k 0 : Nat) : Int)) := by
                  have h1 := (HW.out.1.cell (k := k) (by rw [← HN.out]; exact hkn)).1
                  rw [hbq.cell (p := ⟨g, k, none⟩) (block_lt_of_cell h1)]; exact h1
                obtain ⟨x, hx⟩ : ∃ x, x = xs.getD k 0 := ⟨_, rfl⟩
                rw [← hx] at cx hx0
                have HX : Hid (x = xs.getD k 0) := hx
                obtain ⟨T, hT⟩ : ∃ T, T = r + 10 * x := ⟨_, rfl⟩
                have eT : (r : Int) + 10 * (x : Int) = (T : Int) := by omega
                have hTb : T ≤ 42949672960 := by omega
                obtain ⟨L, hL⟩ : ∃ L, L = T % 4294967296 := ⟨_, rfl⟩
                have eL : (T : Int) % 4294967296 = (L : Int) := by omega
                have hLb : L < 4294967296 := by omega
                obtain ⟨H, hH⟩ : ∃ H, H = T / 4294967296 := ⟨_, rfl⟩
                have eH : (T : Int) / 4294967296 = (H : Int) := by omega
                have hHb : H ≤ 10 := by omega
                have HT : Hid (L = (r + 10 * xs.getD k 0) % 4294967296 ∧ H = (r + 10 * xs.getD k 0) / 4294967296) := by rw [← hx, ← hT]; exact ⟨hL, hH⟩
                have HO : Hid (wr.ownsRow W0.heap.size 30 1 u7 k (ys.map U)) := by show _; rw [← HY.out]; exact hoy.2
                clear hx hT hL hH
                have hB3 : W0.heap.size ≤ (wr.alloc (.cells #[.int .u32 (L : Int)] 30)).heap.size := by simp; omega
                go_wp2_with (at_builtin; refine wpList_push _ rfl _ _ 23 rfl W0.heap.size 30 iU (.int .u32 0) 4 Try.underlying23 hiU hzU0 hzU1 hzU2 rfl _ k (ys.map U) rfl (HO.out.alloc _) ⟨wr.heap.size, 0, none⟩ 1 1 [.int .u32 (L : Int)] rfl rfl (cell_one_new _ _ _) (fun u hu => by simp at hu; subst hu; rfl) (by decide) (by unfold maxLen; omega) (by omega) hB3 ?_)
                intro v' w5 ho hgr _ _
                have R := push_own (d := L) hoy hbq hB hLb (by rw [HY.out, show U L = .int .u32 (L : Int) from rfl]; exact ho) hgr
                clear ho hgr hoy hbq hB HO hB3 cx hao
                go_wp2
                go_roundw
                case rel =>
                  refine ⟨k + 1, H, ys ++ [L], by omega, by go_num, rfl, hHb, by rw [List.length_append, HY.out]; rfl, R.1, R.2.1, ?_⟩
                  rw [HT.out.1, HT.out.2]
                  exact tenfold_step HY.out HI.out
                case measure => simp [intOf]; omega
              · have hkn' : ¬ (k : Int) < (n : Int) := by omega
                have hkn2 : k = n := by omega
                subst hkn2
                have hI := HI.out
                rw [low_all (xs := xs) (by rw [← HN.out]; exact Nat.le_refl _)] at hI
                have HNX : Hid (10 * val xs + (c - 48) = bval ((dgs s).take (i + 1))) := by
                  show _ = _
                  rw [take_snoc (by rw [dgs_len]; exact hlt), bval_snoc, HDA.out, HXV.out, Nat.mul_comm]
                have HD2 : Hid (∀ j, j < i + 1 → 48 ≤ bt s j ∧ bt s j ≤ 57) := fun j hj => by
                  by_cases hji : j = i
                  · rw [hji, ← HC.out]; omega
                  · exact HDD.out j (by omega)
                have hbw0 : w.heap.size ≤ W0.heap.size := HW.out.2.size
                by_cases hr0 : r = 0
                · subst hr0
                  have hr0' : ¬ (0 : Int) < ((0 : Nat) : Int) := by omega
                  rw [Nat.mul_zero, Nat.add_zero] at hI
                  have HI2 : Hid (val ys = 10 * val xs + (c - 48)) := hI
                  have hoy2 := hoy.mono hbw0
                  have hbel2 := HW.out.2.trans (hbq.mono hbw0)
                  clear hI hoy hbq hao
                  go_wp2_with fail
                  go_roundw
                  case rel => exact ⟨i + 1, ys, by omega, by go_num, by rw [HY.out]; omega, by rw [HI2.out, HNX.out], HD2.out, hoy2, hbel2⟩
                  case measure => simp [intOf]; omega
                · have hr0' : (0 : Int) < (r : Int) := by omega
                  have hr32 : r < 4294967296 := by omega
                  have HI2 : Hid (val (ys ++ [r]) = 10 * val xs + (c - 48)) := by show _ = _; rw [val_snoc, HY.out]; exact hI
                  have HO : Hid (wr.ownsRow W0.heap.size 30 1 u7 k (ys.map U)) := by show _; rw [← HY.out]; exact hoy.2
                  have hB3 : W0.heap.size ≤ (wr.alloc (.cells #[.int .u32 (r : Int)] 30)).heap.size := by simp; omega
                  clear hI
                  go_wp2_with (at_builtin; refine wpList_push _ rfl _ _ 23 rfl W0.heap.size 30 iU (.int .u32 0) 4 Try.underlying23 hiU hzU0 hzU1 hzU2 rfl _ k (ys.map U) rfl (HO.out.alloc _) ⟨wr.heap.size, 0, none⟩ 1 1 [.int .u32 (r : Int)] rfl rfl (cell_one_new _ _ _) (fun u hu => by simp at hu; subst hu; rfl) (by decide) (by unfold maxLen; omega) (by omega) hB3 ?_)
                  intro v' w5 ho hgr _ _
                  have R := push_own (d := r) hoy hbq hB hr32 (by rw [HY.out, show U r = .int .u32 (r : Int) from rfl]; exact ho) hgr
                  have hoy2 := R.1.mono hbw0
                  have hbel2 := HW.out.2.trans (R.2.1.mono hbw0)
                  clear ho hgr hoy hbq hB HO hB3 hao R
                  go_wp2_with fail
                  go_roundw
                  case rel => exact ⟨i + 1, ys ++ [r], by omega, by go_num, by rw [List.length_append, HY.out]; simp; omega, by rw [HI2.out, HNX.out], HD2.out, hoy2, hbel2⟩
                  case measure => simp [intOf]; omega
      · have hlt' : ¬ (i : Int) < (s.size : Int) := by omega
        have hin : i = s.size := by omega
        subst hin
        have hd : DigOk s ∧ 0 < s.size := ⟨HDD.out, hs0⟩
        have hxv := HXV.out
        rw [List.take_of_length_le (by rw [dgs_len]; exact Nat.le_refl _)] at hxv
        go_wp2_with fail
        refine (norm_ref _ _ _ how.num (by omega)).mono ?_
        rintro e w3 ⟨o, rfl, hoo, hb3⟩
        rw [hxv] at hoo
        have HE : Hid (ParseEnd w s (.returned (.tuple #[o, .int .i64 0])) w3) := by
          refine ⟨_, by rw [if_pos hd], ?_, hbel.trans (hb3.mono hbel.size)⟩
          rw [if_pos hd]; exact hoo.mono hbel.size
        clear how hbel hoo hb3 hd hxv
        go_wp2_with fail
        go_ret2
        exact HE.out
end Go.Proofs.Ytcbfhakolfcmgaa

/-
  Proved here: what the plain way's double answers.
-/
import Derived.Test.YtnlajeinegampaaLimMathAll
import Derived.Test.YtnlajeinegampaaNormAll
namespace Go.Proofs.Ytnlajeinegampaa
open Go.RowKit

theorem double_step {xs ys : List Nat} {k c d : Nat} (hk : ys.length = k) (h : val ys + 4294967296 ^ k * c = 2 * low xs k + d) :
    val (ys ++ [(c + 2 * xs.getD k 0) % 4294967296]) + 4294967296 ^ (k + 1) * ((c + 2 * xs.getD k 0) / 4294967296) = 2 * low xs (k + 1) + d := by
  rw [val_snoc, hk, low_succ xs k, Nat.pow_succ, Nat.add_assoc, carry_eq, Nat.mul_add, Nat.mul_add, Nat.mul_left_comm 2]
  omega
/-- What double leaves. -/
def DblEnd (w : World) (xs : List Nat) (d : Nat) (e : Ending) (w' : World) : Prop :=
  ∃ u zs, e = .returned u ∧ Own w.heap.size 40 w' u zs ∧ val zs = 2 * val xs + d ∧ zs.length ≤ xs.length + 1 ∧ (xs = lim (val xs) → zs = lim (2 * val xs + d)) ∧ Below w.heap.size w w'

set_option maxRecDepth 100000 in
set_option maxHeartbeats 3200000 in
theorem double_ref (u : Value) (xs : List Nat) (d : Nat) (w : World) (h : Num w u xs) (hlen : xs.length ≤ 1000000) (hd : d ≤ 1) :
    Calls Try.prog 32 #[u, .int .u32 (d : Int)] w fun e w' => DblEnd w xs d e w' := by
  obtain ⟨hbx, ao, cap, rfl, hca, hma, _, hcell⟩ := h.open_
  obtain ⟨iU, hiU, hzU0, hzU1, hzU2⟩ := info_parts Try.infoU
  obtain ⟨n, hn⟩ : ∃ n, n = xs.length := ⟨_, rfl⟩
  rw [← hn] at hlen hca ⊢
  have HN : Hid (n = xs.length) := hn
  clear hn h
  go_enter Try.func32, Try.ntmps32
  go_wp2
  go_loopw [5, 6, 7] (fun yv cv kv wq => ∃ (k r : Nat) (ys : List Nat), k ≤ n ∧ kv = .int .i64 k ∧ cv = .int .u64 r ∧ r ≤ 1 ∧ ys.length = k ∧ Own w.heap.size 40 wq yv ys ∧ Below w.heap.size w wq ∧ val ys + 4294967296 ^ k * r = 2 * low xs k + d) (fun _ _ kv _ => n - (intOf kv).toNat)
  case atStart => exact ⟨0, d, [], Nat.zero_le _, rfl, rfl, hd, rfl, Own.of_nil _ _ _, Below.refl _ _, by simp [low_zero, val]⟩
  case round =>
    obtain ⟨k, r, ys, hk, rfl, rfl, hr1, hyl, hoy, hbq, hinv⟩ := hrel
    have HY : Hid (ys.length = k) := hyl
    have HI : Hid (val ys + 4294967296 ^ k * r = 2 * low xs k + d) := hinv
    have hB : w.heap.size ≤ wr.heap.size := hbq.size
    clear hyl hinv
    by_cases hkn : k < n
    · have hkn' : (k : Int) < (n : Int) := by omega
      obtain ⟨bb, bo, rfl, hx1⟩ := hcell k (by rw [← HN.out]; exact hkn)
      have cx : wr.cell? ⟨bb, bo + k, none⟩ = some (.int .u32 ((xs.getD k 0 : Nat) : Int)) := by rw [hbq.cell (p := ⟨bb, bo + k, none⟩) (block_lt_of_cell hx1)]; exact hx1
      have hx0 := limb_lt hbx k
      obtain ⟨x, hx⟩ : ∃ x, x = xs.getD k 0 := ⟨_, rfl⟩
      rw [← hx] at cx hx0
      obtain ⟨T, hT⟩ : ∃ T, T = r + 2 * x := ⟨_, rfl⟩
      have eT : (r : Int) + 2 * (x : Int) = (T : Int) := by omega
      have hTb : T ≤ 8589934591 := by omega
      obtain ⟨L, hL⟩ : ∃ L, L = T % 4294967296 := ⟨_, rfl⟩
      have eL : (T : Int) % 4294967296 = (L : Int) := by omega
      have hLb : L < 4294967296 := by omega
      obtain ⟨H, hH⟩ : ∃ H, H = T / 4294967296 := ⟨_, rfl⟩
      have eH : (T : Int) / 4294967296 = (H : Int) := by omega
      have hHb : H ≤ 1 := by omega
      have HT : Hid (L = (r + 2 * xs.getD k 0) % 4294967296 ∧ H = (r + 2 * xs.getD k 0) / 4294967296) := by rw [← hx, ← hT]; exact ⟨hL, hH⟩
      have HO : Hid (wr.ownsRow w.heap.size 40 1 u5 k (ys.map U)) := by show _; rw [← HY.out]; exact hoy.2
      clear hx hT hL hH hx1 hcell
      have hB3 : w.heap.size ≤ (wr.alloc (.cells #[.int .u32 (L : Int)] 40)).heap.size := by simp; omega
      go_wp2_with (at_builtin; refine wpList_push _ rfl _ _ 23 rfl w.heap.size 40 iU (.int .u32 0) 4 Try.underlying23 hiU hzU0 hzU1 hzU2 rfl _ k (ys.map U) rfl (HO.out.alloc _) ⟨wr.heap.size, 0, none⟩ 1 1 [.int .u32 (L : Int)] rfl rfl (cell_one_new _ _ _) (fun u hu => by simp at hu; subst hu; rfl) (by decide) (by unfold maxLen; omega) (by omega) hB3 ?_)
      intro v' w5 ho hgr _ _
      have R := push_own (d := L) hoy hbq hB hLb (by rw [HY.out, show U L = .int .u32 (L : Int) from rfl]; exact ho) hgr
      clear ho hgr hoy hbq hB HO hB3 cx
      go_wp2
      go_roundw
      case rel =>
        refine ⟨k + 1, H, ys ++ [L], by omega, by go_num, rfl, hHb, by rw [List.length_append, HY.out]; rfl, R.1, R.2.1, ?_⟩
        rw [HT.out.1, HT.out.2]
        exact double_step HY.out HI.out
      case measure => simp [intOf]; omega
    · have hkn' : ¬ (k : Int) < (n : Int) := by omega
      have hkn2 : k = n := by omega
      subst hkn2
      have hI := HI.out
      rw [low_all (xs := xs) (by rw [← HN.out]; exact Nat.le_refl _)] at hI
      clear hcell
      by_cases hr0 : r = 0
      · subst hr0
        have hr0' : ¬ (0 : Int) < ((0 : Nat) : Int) := by omega
        rw [Nat.mul_zero, Nat.add_zero] at hI
        have HE : Hid (DblEnd w xs d (.returned u5) wr) := by
          refine ⟨u5, ys, rfl, hoy, hI, by rw [HY.out, HN.out]; omega, fun hnorm => ?_, hbq⟩
          rw [← hI]
          rcases Nat.eq_zero_or_pos k with h0 | h0
          · have : ys = [] := List.eq_nil_of_length_eq_zero (by rw [HY.out, h0])
            rw [this]; rfl
          · obtain ⟨m, hm⟩ : ∃ m, k = m + 1 := ⟨k - 1, by omega⟩
            refine (lim_of_ge hoy.1 (by rw [HY.out, hm]) ?_).symm
            have h3 : 4294967296 ^ m ≤ val xs := lim_ge (by rw [← hnorm, ← HN.out, hm])
            omega
        clear hI hoy hbq
        go_wp2_with fail
        go_ret
        exact HE.out
      · have hr0' : (0 : Int) < (r : Int) := by omega
        have hr32 : r < 4294967296 := by omega
        have HO : Hid (wr.ownsRow w.heap.size 40 1 u5 k (ys.map U)) := by show _; rw [← HY.out]; exact hoy.2
        have hB3 : w.heap.size ≤ (wr.alloc (.cells #[.int .u32 (r : Int)] 40)).heap.size := by simp; omega
        have HI2 : Hid (val ys + 4294967296 ^ k * r = 2 * val xs + d) := hI
        clear hI
        go_wp2_with (at_builtin; refine wpList_push _ rfl _ _ 23 rfl w.heap.size 40 iU (.int .u32 0) 4 Try.underlying23 hiU hzU0 hzU1 hzU2 rfl _ k (ys.map U) rfl (HO.out.alloc _) ⟨wr.heap.size, 0, none⟩ 1 1 [.int .u32 (r : Int)] rfl rfl (cell_one_new _ _ _) (fun u hu => by simp at hu; subst hu; rfl) (by decide) (by unfold maxLen; omega) (by omega) hB3 ?_)
        intro v' w5 ho hgr _ _
        have R := push_own (d := r) hoy hbq hB hr32 (by rw [HY.out, show U r = .int .u32 (r : Int) from rfl]; exact ho) hgr
        have HE : Hid (DblEnd w xs d (.returned v') w5) := by
          refine ⟨v', ys ++ [r], rfl, R.1, by rw [val_snoc, HY.out]; exact HI2.out, by rw [List.length_append, HY.out, HN.out]; exact Nat.le_refl _, fun _ => ?_, R.2.1⟩
          rw [← HI2.out]
          have := lim_snoc hoy.1 hr32 hr0
          rw [HY.out] at this
          exact this.symm
        clear ho hgr hoy hbq hB HO hB3 R
        go_wp2_with fail
        go_ret
        exact HE.out
end Go.Proofs.Ytnlajeinegampaa

/-
  Proved here: what the plain way's Sub (of a smaller number), Add and Mul answer.
  Proved here: what the plain way's Mul answers.
-/
import Derived.Test.YtjfihcnjhjgdpaaRefB
import Derived.Test.YtjfihcnjhjgdpaaShiftMathAll
namespace Go.Proofs.Ytjfihcnjhjgdpaa
open Go.RowKit

set_option maxRecDepth 100000 in
theorem sub_ref_no (u v : Value) (xs ys : List Nat) (w : World) (hu : Num w u xs) (hv : Num w v ys) (hbx : xs.length ≤ 1099511627776) (hby : ys.length ≤ 1099511627776) (hle : val xs < val ys) :
    Calls Try.prog 72 #[u, v] w fun e w' => e = .returned (.tuple #[.slice none 0 0, .bool false]) ∧ w' = w := by
  obtain ⟨ao, cap, rfl, hl1, hm1⟩ := hu.ao
  obtain ⟨bo, dap, rfl, hl2, hm2⟩ := hv.ao
  go_enter Try.func72, Try.ntmps72
  go_wp2_with fail
  refine (cmp_ref _ _ _ _ _ hu hv hbx hby).mono ?_
  rintro e w1 ⟨rfl, rfl⟩
  rw [cmpN_lt hle]
  clear hu hv
  go_wp2
  go_ret2
  exact ⟨rfl, rfl⟩

theorem add_end {xs ys zs : List Nat} {i : Nat} (hi : xs.length ≤ i) (hj : ys.length ≤ i) (h : val zs + 4294967296 ^ i * 0 = low xs i + low ys i) : val zs = val xs + val ys := by
  rw [low_all hi, low_all hj] at h; omega

set_option maxRecDepth 100000 in
set_option maxHeartbeats 3200000 in
theorem add_ref (u v : Value) (xs ys : List Nat) (w : World) (hu : Num w u xs) (hv : Num w v ys) (hbx : xs.length ≤ 1099511627775) (hby : ys.length ≤ 1099511627775) :
    Calls Try.prog 69 #[u, v] w fun e w' => Made' w.heap.size w (lim (val xs + val ys)) e w' := by
  obtain ⟨ao, cap, rfl, hl1, hm1⟩ := hu.ao
  obtain ⟨bo, dap, rfl, hl2, hm2⟩ := hv.ao
  obtain ⟨iU, hiU, hzU0, hzU1, hzU2⟩ := info_parts Try.infoU
  obtain ⟨k, hk⟩ : ∃ k, k = xs.length := ⟨_, rfl⟩
  obtain ⟨m, hm⟩ : ∃ m, m = ys.length := ⟨_, rfl⟩
  rw [← hk] at hu hl1 hbx ⊢
  rw [← hm] at hv hl2 hby ⊢
  have HK : Hid (k = xs.length) := hk
  have HM : Hid (m = ys.length) := hm
  clear hk hm
  go_enter Try.func69, Try.ntmps69
  go_wp2
  go_loopw [5, 6, 7] (fun o cv t wr => ∃ (i c : Nat) (zs : List Nat), i ≤ max k m + 1 ∧ t = .int .i64 i ∧ cv = .int .u64 c ∧ c ≤ 1 ∧ (max k m < i → c = 0) ∧ zs.length = i ∧ Own w.heap.size 39 wr o zs ∧ Below w.heap.size w wr ∧ w.heap.size ≤ wr.heap.size ∧ val zs + 4294967296 ^ i * c = low xs i + low ys i) (fun _ _ t _ => max k m + 1 - (intOf t).toNat)
  case atStart => exact ⟨0, 0, [], Nat.zero_le _, rfl, rfl, by omega, fun _ => rfl, rfl, Own.of_nil _ _ _, Below.refl _ _, Nat.le_refl _, by simp [low_zero, val]⟩
  case round =>
    obtain ⟨i, c, zs, hin, rfl, rfl, hc1, hci, hzl, how, hbel, hB, hinv⟩ := hrel
    have HZ : Hid (zs.length = i) := hzl
    have HI : Hid (val zs + 4294967296 ^ i * c = low xs i + low ys i) := hinv
    clear hzl hinv
    have nu2 := hu.below (Nat.le_refl _) hbel
    have nv2 := hv.below (Nat.le_refl _) hbel
    have him : i ≤ 1099511627777 := by omega
    by_cases hgo : i < k ∨ i < m ∨ 0 < c
    · have him2 : i ≤ max k m := by
        rcases hgo with h | h | h
        · omega
        · omega
        · rcases Nat.lt_or_ge (max k m) i with h2 | h2
          · have := hci h2; omega
          · exact h2
      have HIM : Hid (i ≤ max k m) := him2
      have hx0 := limb_lt hu.1 i
      have hy0 := limb_lt hv.1 i
      obtain ⟨x, hx⟩ : ∃ x, x = xs.getD i 0 := ⟨_, rfl⟩
      obtain ⟨y, hy⟩ : ∃ y, y = ys.getD i 0 := ⟨_, rfl⟩
      have HX : Hid (x = xs.getD i 0) := hx
      have HY : Hid (y = ys.getD i 0) := hy
      rw [← hx] at hx0
      rw [← hy] at hy0
      have HC : Hid (max k m < i + 1 → (c + x + y) / 4294967296 = 0) := by
        intro h
        have h1 : x = 0 := by rw [hx]; exact getD_ge (by have := HK.out; omega)
        have h2 : y = 0 := by rw [hy]; exact getD_ge (by have := HM.out; omega)
        omega
      have three : (i < k) ∨ (¬ i < k ∧ i < m) ∨ (¬ i < k ∧ ¬ i < m ∧ 0 < c) := by omega
      clear hx hy hci him2 hgo
      have HO : Hid (wr.ownsRow w.heap.size 39 1 u5 i (zs.map U)) := by show _; rw [← HZ.out]; exact how.2
      have HU : Hid (U ((c + x + y) % 4294967296) = .int .u32 (((c : Int) + (x : Int) + (y : Int)) % 4294967296)) := by show _ = _; simp [U]
      have hB3 : w.heap.size ≤ (wr.alloc (.cells #[.int .u32 (((c : Int) + (x : Int) + (y : Int)) % 4294967296)] 39)).heap.size := by simp; omega
      rcases three with h1 | ⟨h1, h2⟩ | ⟨h1, h2, h3⟩
      all_goals
        first | have d1 := decide_eq_true h1 | have d1 := decide_eq_false h1
        try (first | have d2 := decide_eq_true h2 | have d2 := decide_eq_false h2)
        try have d3 : (0 : Int) < (c : Int) := Int.natCast_pos.2 h3
        go_wp2_with fail
        refine (limb_ref _ _ _ _ nu2 (by omega)).mono ?_
        rintro e w3 ⟨rfl, rfl⟩
        rw [Int.toNat_natCast, ← HX.out]
        go_wp2_with fail
        refine (limb_ref _ _ _ _ nv2 (by omega)).mono ?_
        rintro e w4 ⟨rfl, rfl⟩
        rw [Int.toNat_natCast, ← HY.out]
        clear nu2 nv2
        go_wp2_with (at_builtin; refine wpList_push _ rfl _ _ 25 rfl w.heap.size 39 iU (.int .u32 0) 4 Try.underlying25 hiU hzU0 hzU1 hzU2 rfl _ i (zs.map U) rfl (HO.out.alloc _) ⟨w4.heap.size, 0, none⟩ 1 1 [.int .u32 (((c : Int) + (x : Int) + (y : Int)) % 4294967296)] rfl rfl (cell_one_new _ _ _) (fun u hu => by simp at hu; subst hu; rfl) (by decide) (by unfold maxLen; omega) (by omega) hB3 ?_)
        intro v' w5 ho hgr _ _
        have R := push_own (d := (c + x + y) % 4294967296) how hbel hB (by omega) (by rw [HZ.out, HU.out]; exact ho) hgr
        clear ho hgr how hbel hB HO hB3
        go_wp2
        go_roundw
        case rel => exact ⟨i + 1, (c + x + y) / 4294967296, _, by have := HIM.out; omega, by go_num, by go_num, by omega, HC.out, by rw [List.length_append, HZ.out]; rfl, R.1, R.2.1, R.2.2, by rw [HX.out, HY.out]; exact add_push HZ.out HI.out⟩
        case measure => have := HIM.out; simp [intOf]; omega
    · have h1 : ¬ i < k := fun h => hgo (Or.inl h)
      have h2 : ¬ i < m := fun h => hgo (Or.inr (Or.inl h))
      have h3 : c = 0 := by omega
      subst h3
      have d1 := decide_eq_false h1
      have d2 := decide_eq_false h2
      have HF : Hid (val zs = val xs + val ys) := add_end (by rw [← HK.out]; omega) (by rw [← HM.out]; omega) HI.out
      have hzl2 : zs.length ≤ 1099511627776 := by rw [HZ.out]; omega
      clear hgo hci nu2 nv2
      go_wp2_with fail
      refine (norm_ref _ _ _ how.num (by omega)).mono ?_
      rintro e w3 ⟨v3, rfl, ho3, hb3⟩
      rw [HF.out] at ho3
      have ho4 := ho3.mono hB
      have hb4 := hbel.trans (hb3.mono hB)
      clear how ho3 hb3 hbel
      go_wp2
      go_ret
      exact ⟨_, rfl, ho4, hb4⟩
end Go.Proofs.Ytjfihcnjhjgdpaa

namespace Go.Proofs.Ytjfihcnjhjgdpaa
open Go.RowKit

theorem Cells.same {g : Nat} {w w' : World} {zs : List Nat} (h : Cells w g zs) (e : w'.heap = w.heap) : Cells w' g zs := ⟨h.1, by rw [e]; exact h.2⟩

set_option maxRecDepth 100000 in
set_option maxHeartbeats 3200000 in
theorem mul_ref (u v : Value) (xs ys : List Nat) (w : World) (hu : Num w u xs) (hv : Num w v ys) (hbx : xs.length ≤ 549755813888) (hby : ys.length ≤ 549755813888) :
    Calls Try.prog 67 #[u, v] w fun e w' => Made' w.heap.size w (lim (val xs * val ys)) e w' := by
  obtain ⟨i0, hi, hz0, hz1, hz2⟩ := info_parts Try.infoU
  have hsx := lim_short hu
  have hsy := lim_short hv
  go_enter Try.func67, Try.ntmps67
  go_wp2_with fail
  refine (norm_ref _ _ _ hu (by omega)).mono ?_
  rintro e w1 ⟨vx, rfl, hox, hb1⟩
  go_wp2_with fail
  refine (norm_ref _ _ _ (hv.below (Nat.le_refl _) hb1) (by omega)).mono ?_
  rintro e w2 ⟨vy, rfl, hoy, hb2⟩
  have hox2 := hox.below hb2
  have hB2 : Below w.heap.size w w2 := hb1.trans (hb2.mono hb1.size)
  have hS2 := hB2.size
  have HE : Hid (val xs * val ys = val (lim (val xs)) * val (lim (val ys))) := by show _ = _; rw [val_lim, val_lim]
  clear hox hb1 hb2 hu hv
  obtain ⟨ao, cap, rfl, hpx, hl1, hm1⟩ := hox2.ao
  obtain ⟨bo, dap, rfl, hpy, hl2, hm2⟩ := hoy.ao
  obtain ⟨k, hk⟩ : ∃ k, k = (lim (val xs)).length := ⟨_, rfl⟩
  obtain ⟨m, hm⟩ : ∃ m, m = (lim (val ys)).length := ⟨_, rfl⟩
  rw [← hk] at hsx hox2 hpx hl1 ⊢
  rw [← hm] at hsy hoy hpy hl2 ⊢
  generalize hX : lim (val xs) = X at *
  generalize hY : lim (val ys) = Y at *
  have HKL : Hid (k = X.length) := hk
  have HML : Hid (m = Y.length) := hm
  clear hk hm hX hY
  obtain ⟨n, hn⟩ : ∃ n, n = k + m := ⟨_, rfl⟩
  have HNN : Hid (n = k + m) := hn
  have hn1 : k ≤ n := by omega
  have hn2 : m ≤ n := by omega
  have hn3 : n ≤ 1099511627776 := by omega
  clear hn
  go_wp2_with (at_make; refine wpList_make_full _ rfl _ _ 25 rfl w.heap.size 39 i0 (.int .u32 0) 1 Try.underlying25 hi hz0 hz1 _ _ _ _ n rfl rfl (by have := HNN.out; omega) (by have := HNN.out; omega) (by rw [hz2]; omega) (by unfold maxLen; omega) hS2 ?_)
  intro w3 ho3 hg3
  have how := own_made ho3
  have hbel : Below w2.heap.size w2 w3 := (Below.refl w2.heap.size w2).grown hg3 (Nat.le_refl _) (by intro k hk; simp at hk)
  obtain ⟨g, hg⟩ : ∃ g, g = w2.heap.size := ⟨_, rfl⟩
  have HB : Hid (Below w2.heap.size w2 w3 ∧ Cells w3 g (List.replicate n 0)) := by rw [hg]; exact ⟨hbel, how.cells⟩
  have HG : Hid (w2.heap.size ≤ g) := by show _ ≤ _; omega
  rw [← hg]
  clear hg hbel how ho3 hg3
  go_wp2
  go_loopw [8] (fun t wr => ∃ (i : Nat) (zs : List Nat), i ≤ k ∧ t = .int .i64 i ∧ zs.length = n ∧ Cells wr g zs ∧ Below w2.heap.size w2 wr ∧ (∀ j, i + m ≤ j → zs.getD j 0 = 0) ∧ val zs = val Y * low X i) (fun t _ => k - (intOf t).toNat)
  case atStart => exact ⟨0, List.replicate n 0, Nat.zero_le _, rfl, by simp, HB.out.2, HB.out.1, fun j _ => by rw [List.getD_eq_getElem?_getD, List.getElem?_replicate]; split <;> rfl, by rw [low_zero, Nat.mul_zero]; exact val_zeros fun x hx => List.eq_of_mem_replicate hx⟩
  case round =>
    clear HB
    obtain ⟨i, zs, hin, rfl, hzl, hcs, hbel, hzero, hval⟩ := hrel
    have HZ : Hid (zs.length = n) := hzl
    have HV : Hid (val zs = val Y * low X i) := hval
    have HZZ : Hid (∀ j, i + m ≤ j → zs.getD j 0 = 0) := hzero
    clear hzl hval hzero
    by_cases hlt : i < k
    · have hlt' : (i : Int) < (k : Int) := by omega
      have hik : i + m < n := by have := HNN.out; omega
      obtain ⟨gx, rfl⟩ := hpx (by omega)
      have cx := (hox2.cell (k := i) (by rw [← HKL.out]; exact hlt)).1
      have hx0 := limb_lt hox2.1 i
      have hgx := (hox2.block gx rfl).2
      obtain ⟨x, hx⟩ : ∃ x, x = X.getD i 0 := ⟨_, rfl⟩
      rw [← hx] at cx hx0
      have HX : Hid (x = X.getD i 0) := hx
      have CX : Hid (w2.cell? ⟨gx, i, none⟩ = some (.int .u32 (x : Int))) := cx
      have HC0 : Hid (Cells wr g zs) := hcs
      have HB0 : Hid (Below w2.heap.size w2 wr) := hbel
      clear hx cx hcs hbel
      go_wp2
      go_loopw [9, 10] (fun cv t wr => ∃ (j c : Nat) (ys' : List Nat), j ≤ m ∧ t = .int .i64 j ∧ cv = .int .u64 c ∧ c < 4294967296 ∧ ys'.length = zs.length ∧ Cells wr g ys' ∧ Below w2.heap.size w2 wr ∧ (∀ q, q < i ∨ i + j ≤ q → ys'.getD q 0 = zs.getD q 0) ∧ low (ys'.drop i) j + 4294967296 ^ j * c = low (zs.drop i) j + low Y j * x) (fun _ t _ => m - (intOf t).toNat)
      case atStart => exact ⟨0, 0, zs, Nat.zero_le _, rfl, rfl, by omega, rfl, HC0.out, HB0.out, fun _ _ => rfl, by simp [low_zero]⟩
      case round =>
        clear HC0 HB0
        obtain ⟨j, c, zt, hjm, rfl, rfl, hc1, hyl, hcs, hbel, hout, hinv⟩ := hrel
        have HY : Hid (zt.length = zs.length) := hyl
        have HI : Hid (low (zt.drop i) j + 4294967296 ^ j * c = low (zs.drop i) j + low Y j * x) := hinv
        have HO : Hid (∀ q, q < i ∨ i + j ≤ q → zt.getD q 0 = zs.getD q 0) := hout
        clear hyl hinv hout
        by_cases hjt : j < m
        · have hjt' : (j : Int) < (m : Int) := by omega
          have hij : i + j < n := by omega
          obtain ⟨gy, rfl⟩ := hpy (by omega)
          have cy := (hoy.cell (k := j) (by rw [← HML.out]; exact hjt)).1
          have hy0 := limb_lt hoy.1 j
          have hgy := (hoy.block gy rfl).2
          obtain ⟨y, hy⟩ : ∃ y, y = Y.getD j 0 := ⟨_, rfl⟩
          rw [← hy] at cy hy0
          have HYY : Hid (y = Y.getD j 0) := hy
          have cx' : wr.cell? ⟨gx, i, none⟩ = some (.int .u32 (x : Int)) := by rw [hbel.cell (p := ⟨gx, i, none⟩) hgx]; exact CX.out
          have cy' : wr.cell? ⟨gy, j, none⟩ = some (.int .u32 (y : Int)) := by rw [hbel.cell (p := ⟨gy, j, none⟩) hgy]; exact cy
          obtain ⟨cz, hfz⟩ := hcs.cell (k := i + j) (by rw [HY.out, HZ.out]; exact hij)
          have hz0' := limb_lt hcs.1 (i + j)
          obtain ⟨z, hz⟩ : ∃ z, z = zt.getD (i + j) 0 := ⟨_, rfl⟩
          rw [← hz] at cz hz0'
          have HZT : Hid (z = zt.getD (i + j) 0) := hz
          have tb := mul_bound hx0 hy0
          obtain ⟨t, ht⟩ : ∃ t, t = x * y := ⟨_, rfl⟩
          rw [← ht] at tb
          have et : (x : Int) * (y : Int) = (t : Int) := by rw [ht]; exact (Int.natCast_mul x y).symm
          have HT : Hid (t = y * x) := by show _ = _; rw [ht, Nat.mul_comm]
          have hts := top_sum tb hc1 hz0'
          have hts2 : c + t ≤ 18446744073709551615 := by omega
          clear hy hz ht cy
          go_wp2
          go_quiet (fail)
          have hcs2 : Cells (wr.drewN nq) g zt := hcs.same (heap_drewN _ _)
          have hbel2 : Below w2.heap.size w2 (wr.drewN nq) := below_drewN hbel nq
          clear cz hfz cx' cy' hcs hbel
          generalize wr.drewN nq = W at *
          obtain ⟨cz, hfz⟩ := hcs2.cell (k := i + j) (by rw [HY.out, HZ.out]; exact hij)
          rw [← HZT.out] at cz
          have hset := hcs2.set (i + j) ((c + (t + z)) % 4294967296) (by omega)
          have hU : U ((c + (t + z)) % 4294967296) = .int .u32 (((c : Int) + (t : Int) + (z : Int)) % 4294967296) := by unfold U; congr 1; omega
          have hbel3 := hbel2.setCell (p := ⟨g, i + j, none⟩) (by exact HG.out) (U ((c + (t + z)) % 4294967296))
          rw [hU] at hset hbel3
          clear hcs2 hbel2 hU
          go_wp2
          go_roundw
          case rel =>
            refine ⟨j + 1, (c + (t + z)) / 4294967296, _, by omega, by go_num, by go_num, by omega, by rw [List.length_set]; exact HY.out, hset, hbel3, fun q hq => ?_, ?_⟩
            · rw [getD_set_off _ _ _ _ (by omega)]; exact HO.out q (by omega)
            · rw [drop_set_add, HT.out, HYY.out, HZT.out, ← getD_drop]
              refine times_step (by simp; rw [HY.out, HZ.out]; omega) HI.out ?_
              rw [getD_drop, getD_drop]
              exact HO.out _ (by omega)
          case measure => simp [intOf]; omega
        · have hjt' : ¬ (j : Int) < (m : Int) := by omega
          have hjm' : j = m := by omega
          have HI' : Hid (low (zt.drop i) m + 4294967296 ^ m * c = low (zs.drop i) m + val Y * x) := by
            show _ = _
            have := HI.out
            rw [hjm', low_all (xs := Y) (by rw [← HML.out]; omega)] at this
            exact this
          have HO' : Hid (∀ q, q < i ∨ i + m ≤ q → zt.getD q 0 = zs.getD q 0) := by rw [← hjm']; exact HO.out
          obtain ⟨cz, hfz⟩ := hcs.cell (k := i + m) (by rw [HY.out, HZ.out]; exact hik)
          obtain ⟨z, hz⟩ : ∃ z, z = zt.getD (i + m) 0 := ⟨_, rfl⟩
          rw [← hz] at cz
          have hset := hcs.set (i + m) c hc1
          have hbel3 := hbel.setCell (p := ⟨g, i + m, none⟩) (by exact HG.out) (U c)
          rw [show U c = .int .u32 (c : Int) from rfl] at hset hbel3
          have HR : Hid (val (zt.set (i + m) c) = val Y * low X (i + 1)) := by
            show _ = _
            rw [mul_step HY.out (by rw [HZ.out]; exact hik) HZZ.out HO'.out HI'.out, HX.out]
            exact mul_row HV.out
          have HR2 : Hid (∀ q, i + 1 + m ≤ q → (zt.set (i + m) c).getD q 0 = 0) := mul_zeros HZZ.out HO'.out
          clear hjm' hcs hbel hz HI HO HI' HO'
          go_wp2
          go_roundw
          case rel => exact ⟨i + 1, _, by omega, by go_num, by rw [List.length_set, HY.out]; exact HZ.out, hset, hbel3, HR2.out, HR.out⟩
          case measure => simp [intOf]; omega
    · have hlt' : ¬ (i : Int) < (k : Int) := by omega
      have him : i = k := by omega
      have HF : Hid (val zs = val xs * val ys) := by
        show _ = _
        rw [HE.out, HV.out, him, low_all (by rw [← HKL.out]; omega), Nat.mul_comm]
      have how : Own w.heap.size 39 wr (.slice (some ⟨g, 0, none⟩) n n) zs := by
        have := hcs.own (B := w.heap.size) (Nat.le_trans hS2 HG.out) (by rw [HZ.out]; omega)
        rw [HZ.out] at this
        exact this
      have hBW : Below w.heap.size w wr := hB2.trans (hbel.mono hS2)
      have hsW := hBW.size
      clear him hcs hbel
      go_wp2_with fail
      refine (norm_ref _ _ _ how.num (by rw [HZ.out]; omega)).mono ?_
      rintro e w4 ⟨v4, rfl, ho4, hb4⟩
      rw [HF.out] at ho4
      have ho5 := ho4.mono hsW
      have hb5 := hBW.trans (hb4.mono hsW)
      clear how ho4 hb4 hBW
      go_wp2
      go_ret
      exact ⟨_, rfl, ho5, hb5⟩
end Go.Proofs.Ytjfihcnjhjgdpaa

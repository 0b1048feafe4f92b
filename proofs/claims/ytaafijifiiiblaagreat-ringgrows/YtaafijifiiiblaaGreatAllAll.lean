/-
  Proved here: what the plain way's Mul answers.
  Proved here: 'apart' of numbers that are what they must be, each in a row of its own, answers true.
  Proved here: what the law's cut answers.
  Proved here: what cut, roomy and kept answer.
  Proved here: plain facts on a bag of numbers that a call made for itself, and 'apart' of such a bag.
  Proved here: what Uint and Sub answer of any numbers, by either way.
-/
import Derived.Test.YtaafijifiiiblaaGreatDivMathAll
import Derived.Test.YtaafijifiiiblaaGreatSmallAll
import Derived.Test.YtaafijifiiiblaaGreatRefOfAll
import Derived.Test.YtaafijifiiiblaaGreatSubAll
import Derived.WalkSmall
import Derived.Test.YtaafijifiiiblaaGreatTrimAll
import Derived.Test.YtaafijifiiiblaaGreatBitsAll
import Derived.Test.YtaafijifiiiblaaGreatWholeBAll
namespace Go.Proofs.YtaafijifiiiblaaGreat
open Go.RowKit

theorem Cells.same {g : Nat} {w w' : World} {zs : List Nat} (h : Cells w g zs) (e : w'.heap = w.heap) : Cells w' g zs := ⟨h.1, by rw [e]; exact h.2⟩

set_option maxRecDepth 100000 in
set_option maxHeartbeats 3200000 in
theorem mul_ref (u v : Value) (xs ys : List Nat) (w : World) (hu : Num w u xs) (hv : Num w v ys) (hbx : xs.length ≤ 549755813888) (hby : ys.length ≤ 549755813888) :
    Calls Tryz.prog 83 #[u, v] w fun e w' => Made' w.heap.size w (lim (val xs * val ys)) e w' := by
  obtain ⟨i0, hi, hz0, hz1, hz2⟩ := info_parts Tryz.infoU
  have hsx := lim_short hu
  have hsy := lim_short hv
  go_enter Tryz.func83, Tryz.ntmps83
  go_wp2_with fail
  refine (norm_ref _ _ _ hu (by omega)).mono ?_
  rintro e w1 ⟨vx, rfl, hox, hb1⟩
  go_wp2_with fail
  refine (norm_ref _ _ _ (hv.below (Nat.le_refl _) hb1) (by omega)).mono ?_
  rintro e w2 ⟨vy, rfl, hoy, hb2⟩
  have hox2 := hox.below hb2
  have hB2 : Below w.heap.size w w2 := hb1.trans (hb2.mono hb1.size)
  have hS2 := hB2.size
  have HE : Hid (val xs * val ys = val (lim (val xs)) * val (lim (val ys))) := by show _ = _; rw [val_lim, val_lim]
  clear hox hb1 hb2 hu hv
  obtain ⟨ao, cap, rfl, hpx, hl1, hm1⟩ := hox2.ao
  obtain ⟨bo, dap, rfl, hpy, hl2, hm2⟩ := hoy.ao
  obtain ⟨k, hk⟩ : ∃ k, k = (lim (val xs)).length := ⟨_, rfl⟩
  obtain ⟨m, hm⟩ : ∃ m, m = (lim (val ys)).length := ⟨_, rfl⟩
  rw [← hk] at hsx hox2 hpx hl1 ⊢
  rw [← hm] at hsy hoy hpy hl2 ⊢
  generalize hX : lim (val xs) = X at *
  generalize hY : lim (val ys) = Y at *
  have HKL : Hid (k = X.length) := hk
  have HML : Hid (m = Y.length) := hm
  clear hk hm hX hY
  obtain ⟨n, hn⟩ : ∃ n, n = k + m := ⟨_, rfl⟩
  have HNN : Hid (n = k + m) := hn
  have hn1 : k ≤ n := by omega
  have hn2 : m ≤ n := by omega
  have hn3 : n ≤ 1099511627776 := by omega
  clear hn
  go_wp2_with (at_make; refine wpList_make_full _ rfl _ _ 23 rfl w.heap.size 100 i0 (.int .u32 0) 1 Tryz.underlying23 hi hz0 hz1 _ _ _ _ n rfl rfl (by have := HNN.out; omega) (by have := HNN.out; omega) (by rw [hz2]; omega) (by unfold maxLen; omega) hS2 ?_)
  intro w3 ho3 hg3
  have how := own_made ho3
  have hbel : Below w2.heap.size w2 w3 := (Below.refl w2.heap.size w2).grown hg3 (Nat.le_refl _) (by intro k hk; simp at hk)
  obtain ⟨g, hg⟩ : ∃ g, g = w2.heap.size := ⟨_, rfl⟩
  have HB : Hid (Below w2.heap.size w2 w3 ∧ Cells w3 g (List.replicate n 0)) := by rw [hg]; exact ⟨hbel, how.cells⟩
  have HG : Hid (w2.heap.size ≤ g) := by show _ ≤ _; omega
  rw [← hg]
  clear hg hbel how ho3 hg3
  go_wp2
  go_loopw [8] (fun t wr => ∃ (i : Nat) (zs : List Nat), i ≤ k ∧ t = .int .i64 i ∧ zs.length = n ∧ Cells wr g zs ∧ Below w2.heap.size w2 wr ∧ (∀ j, i + m ≤ j → zs.getD j 0 = 0) ∧ val zs = val Y * low X i) (fun t _ => k - (intOf t).toNat)
  case atStart => exact ⟨0, List.replicate n 0, Nat.zero_le _, rfl, by simp, HB.out.2, HB.out.1, fun j _ => by rw [List.getD_eq_getElem?_getD, List.getElem?_replicate]; split <;> rfl, by rw [low_zero, Nat.mul_zero]; exact val_zeros fun x hx => List.eq_of_mem_replicate hx⟩
  case round =>
    clear HB
    obtain ⟨i, zs, hin, rfl, hzl, hcs, hbel, hzero, hval⟩ := hrel
    have HZ : Hid (zs.length = n) := hzl
    have HV : Hid (val zs = val Y * low X i) := hval
    have HZZ : Hid (∀ j, i + m ≤ j → zs.getD j 0 = 0) := hzero
    clear hzl hval hzero
    by_cases hlt : i < k
    · have hlt' : (i : Int) < (k : Int) := by omega
      have hik : i + m < n := by have := HNN.out; omega
      obtain ⟨gx, rfl⟩ := hpx (by omega)
      have cx := (hox2.cell (k := i) (by rw [← HKL.out]; exact hlt)).1
      have hx0 := limb_lt hox2.1 i
      have hgx := (hox2.block gx rfl).2
      obtain ⟨x, hx⟩ : ∃ x, x = X.getD i 0 := ⟨_, rfl⟩
      rw [← hx] at cx hx0
      have HX : Hid (x = X.getD i 0) := hx
      have CX : Hid (w2.cell? ⟨gx, i, none⟩ = some (.int .u32 (x : Int))) := cx
      have HC0 : Hid (Cells wr g zs) := hcs
      have HB0 : Hid (Below w2.heap.size w2 wr) := hbel
      clear hx cx hcs hbel
      go_wp2
      go_loopw [9, 10] (fun cv t wr => ∃ (j c : Nat) (ys' : List Nat), j ≤ m ∧ t = .int .i64 j ∧ cv = .int .u64 c ∧ c < 4294967296 ∧ ys'.length = zs.length ∧ Cells wr g ys' ∧ Below w2.heap.size w2 wr ∧ (∀ q, q < i ∨ i + j ≤ q → ys'.getD q 0 = zs.getD q 0) ∧ low (ys'.drop i) j + 4294967296 ^ j * c = low (zs.drop i) j + low Y j * x) (fun _ t _ => m - (intOf t).toNat)
      case atStart => exact ⟨0, 0, zs, Nat.zero_le _, rfl, rfl, by omega, rfl, HC0.out, HB0.out, fun _ _ => rfl, by simp [low_zero]⟩
      case round =>
        clear HC0 HB0
        obtain ⟨j, c, zt, hjm, rfl, rfl, hc1, hyl, hcs, hbel, hout, hinv⟩ := hrel
        have HY : Hid (zt.length = zs.length) := hyl
        have HI : Hid (low (zt.drop i) j + 4294967296 ^ j * c = low (zs.drop i) j + low Y j * x) := hinv
        have HO : Hid (∀ q, q < i ∨ i + j ≤ q → zt.getD q 0 = zs.getD q 0) := hout
        clear hyl hinv hout
        by_cases hjt : j < m
        · have hjt' : (j : Int) < (m : Int) := by omega
          have hij : i + j < n := by omega
          obtain ⟨gy, rfl⟩ := hpy (by omega)
          have cy := (hoy.cell (k := j) (by rw [← HML.out]; exact hjt)).1
          have hy0 := limb_lt hoy.1 j
          have hgy := (hoy.block gy rfl).2
          obtain ⟨y, hy⟩ : ∃ y, y = Y.getD j 0 := ⟨_, rfl⟩
          rw [← hy] at cy hy0
          have HYY : Hid (y = Y.getD j 0) := hy
          have cx' : wr.cell? ⟨gx, i, none⟩ = some (.int .u32 (x : Int)) := by rw [hbel.cell (p := ⟨gx, i, none⟩) hgx]; exact CX.out
          have cy' : wr.cell? ⟨gy, j, none⟩ = some (.int .u32 (y : Int)) := by rw [hbel.cell (p := ⟨gy, j, none⟩) hgy]; exact cy
          obtain ⟨cz, hfz⟩ := hcs.cell (k := i + j) (by rw [HY.out, HZ.out]; exact hij)
          have hz0' := limb_lt hcs.1 (i + j)
          obtain ⟨z, hz⟩ : ∃ z, z = zt.getD (i + j) 0 := ⟨_, rfl⟩
          rw [← hz] at cz hz0'
          have HZT : Hid (z = zt.getD (i + j) 0) := hz
          have tb := mul_bound hx0 hy0
          obtain ⟨t, ht⟩ : ∃ t, t = x * y := ⟨_, rfl⟩
          rw [← ht] at tb
          have et : (x : Int) * (y : Int) = (t : Int) := by rw [ht]; exact (Int.natCast_mul x y).symm
          have HT : Hid (t = y * x) := by show _ = _; rw [ht, Nat.mul_comm]
          have hts := top_sum tb hc1 hz0'
          have hts2 : c + t ≤ 18446744073709551615 := by omega
          clear hy hz ht cy
          go_wp2
          go_quiet (fail)
          have hcs2 : Cells (wr.drewN nq) g zt := hcs.same (heap_drewN _ _)
          have hbel2 : Below w2.heap.size w2 (wr.drewN nq) := below_drewN hbel nq
          clear cz hfz cx' cy' hcs hbel
          generalize wr.drewN nq = W at *
          obtain ⟨cz, hfz⟩ := hcs2.cell (k := i + j) (by rw [HY.out, HZ.out]; exact hij)
          rw [← HZT.out] at cz
          have hset := hcs2.set (i + j) ((c + (t + z)) % 4294967296) (by omega)
          have hU : U ((c + (t + z)) % 4294967296) = .int .u32 (((c : Int) + (t : Int) + (z : Int)) % 4294967296) := by unfold U; congr 1; omega
          have hbel3 := hbel2.setCell (p := ⟨g, i + j, none⟩) (by exact HG.out) (U ((c + (t + z)) % 4294967296))
          rw [hU] at hset hbel3
          clear hcs2 hbel2 hU
          go_wp2
          go_roundw
          case rel =>
            refine ⟨j + 1, (c + (t + z)) / 4294967296, _, by omega, by go_num, by go_num, by omega, by rw [List.length_set]; exact HY.out, hset, hbel3, fun q hq => ?_, ?_⟩
            · rw [getD_set_off _ _ _ _ (by omega)]; exact HO.out q (by omega)
            · rw [drop_set_add, HT.out, HYY.out, HZT.out, ← getD_drop]
              refine times_step (by simp; rw [HY.out, HZ.out]; omega) HI.out ?_
              rw [getD_drop, getD_drop]
              exact HO.out _ (by omega)
          case measure => simp [intOf]; omega
        · have hjt' : ¬ (j : Int) < (m : Int) := by omega
          have hjm' : j = m := by omega
          have HI' : Hid (low (zt.drop i) m + 4294967296 ^ m * c = low (zs.drop i) m + val Y * x) := by
            show _ = _
            have := HI.out
            rw [hjm', low_all (xs := Y) (by rw [← HML.out]; omega)] at this
            exact this
          have HO' : Hid (∀ q, q < i ∨ i + m ≤ q → zt.getD q 0 = zs.getD q 0) := by rw [← hjm']; exact HO.out
          obtain ⟨cz, hfz⟩ := hcs.cell (k := i + m) (by rw [HY.out, HZ.out]; exact hik)
          obtain ⟨z, hz⟩ : ∃ z, z = zt.getD (i + m) 0 := ⟨_, rfl⟩
          rw [← hz] at cz
          have hset := hcs.set (i + m) c hc1
          have hbel3 := hbel.setCell (p := ⟨g, i + m, none⟩) (by exact HG.out) (U c)
          rw [show U c = .int .u32 (c : Int) from rfl] at hset hbel3
          have HR : Hid (val (zt.set (i + m) c) = val Y * low X (i + 1)) := by
            show _ = _
            rw [mul_step HY.out (by rw [HZ.out]; exact hik) HZZ.out HO'.out HI'.out, HX.out]
            exact mul_row HV.out
          have HR2 : Hid (∀ q, i + 1 + m ≤ q → (zt.set (i + m) c).getD q 0 = 0) := mul_zeros HZZ.out HO'.out
          clear hjm' hcs hbel hz HI HO HI' HO'
          go_wp2
          go_roundw
          case rel => exact ⟨i + 1, _, by omega, by go_num, by rw [List.length_set, HY.out]; exact HZ.out, hset, hbel3, HR2.out, HR.out⟩
          case measure => simp [intOf]; omega
    · have hlt' : ¬ (i : Int) < (k : Int) := by omega
      have him : i = k := by omega
      have HF : Hid (val zs = val xs * val ys) := by
        show _ = _
        rw [HE.out, HV.out, him, low_all (by rw [← HKL.out]; omega), Nat.mul_comm]
      have how : Own w.heap.size 100 wr (.slice (some ⟨g, 0, none⟩) n n) zs := by
        have := hcs.own (B := w.heap.size) (Nat.le_trans hS2 HG.out) (by rw [HZ.out]; omega)
        rw [HZ.out] at this
        exact this
      have hBW : Below w.heap.size w wr := hB2.trans (hbel.mono hS2)
      have hsW := hBW.size
      clear him hcs hbel
      go_wp2_with fail
      refine (norm_ref _ _ _ how.num (by rw [HZ.out]; omega)).mono ?_
      rintro e w4 ⟨v4, rfl, ho4, hb4⟩
      rw [HF.out] at ho4
      have ho5 := ho4.mono hsW
      have hb5 := hBW.trans (hb4.mono hsW)
      clear how ho4 hb4 hBW
      go_wp2
      go_ret
      exact ⟨_, rfl, ho5, hb5⟩
end Go.Proofs.YtaafijifiiiblaaGreat

namespace Go.Proofs.YtaafijifiiiblaaGreat
open Go.RowKit

end Go.Proofs.YtaafijifiiiblaaGreat

namespace Go.Proofs.YtaafijifiiiblaaGreat
open Go.RowKit


end Go.Proofs.YtaafijifiiiblaaGreat

namespace Go.Proofs.YtaafijifiiiblaaGreat
open Go.RowKit

end Go.Proofs.YtaafijifiiiblaaGreat

namespace Go.Proofs.YtaafijifiiiblaaGreat
open Go.RowKit

/-- The answers that must be, beside those that were told. -/
def Wants (w : World) (ws : List Value) (l : List (Value × List Nat)) : Prop := ws.length = l.length ∧ ∀ j, j < l.length → Num w (at_ ws j) ((l.map Prod.snd).getD j [])
theorem Wants.cons {w : World} {ws : List Value} {l : List (Value × List Nat)} {v u : Value} {xs : List Nat} (h : Num w v xs) (hr : Wants w ws l) : Wants w (v :: ws) ((u, xs) :: l) := by
  refine ⟨by simp [hr.1], fun j hj => ?_⟩
  cases j with
  | zero => exact h
  | succ j => exact hr.2 j (by simpa using hj)

end Go.Proofs.YtaafijifiiiblaaGreat

namespace Go.Proofs.YtaafijifiiiblaaGreat
open Go.RowKit

theorem sub_ref (u v : Value) (xs ys : List Nat) (w : World) (hu : Num w u xs) (hv : Num w v ys) (hbx : xs.length ≤ 1099511627776) (hby : ys.length ≤ 1099511627776) :
    Calls Tryz.prog 106 #[u, v] w fun e w' => SubTold w.heap.size w (val xs) (val ys) e w' := by
  unfold SubTold
  by_cases hs : val ys ≤ val xs
  · rw [show leB (val ys) (val xs) = true by simp [leB, hs]]
    exact sub_ref_yes u v xs ys w hu hv hbx hby hs
  · rw [show leB (val ys) (val xs) = false by simp [leB, hs], show val xs - val ys = 0 by omega]
    refine (sub_ref_no u v xs ys w hu hv hbx hby (by omega)).mono ?_
    rintro e w' ⟨rfl, rfl⟩
    exact ⟨_, rfl, Own.of_nil _ _ _, Below.refl _ _⟩
end Go.Proofs.YtaafijifiiiblaaGreat

/-
  Proved here: what addTimes and Mul answer.
-/
import Derived.Test.YtaafijifiiiblaaGreatMulMathAll
namespace Go.Proofs.YtaafijifiiiblaaGreat
open Go.RowKit

/-- A row that holds just these limbs. -/
def Cells (w : World) (g : Nat) (zs : List Nat) : Prop := limbs zs ∧ w.heap[g]? = some (.cells (zs.map U).toArray 100 (0, 0))
theorem Own.cells {B g n : Nat} {w : World} {zs : List Nat} (h : Own B 100 w (.slice (some ⟨g, 0, none⟩) n n) zs) : Cells w g zs := by
  obtain ⟨_, hn, cur, h1, h2, h3, h4⟩ := h.heap
  refine ⟨h.1, ?_⟩
  rw [h1]
  congr 2
  rw [← h4, List.take_of_length_le (by rw [Array.length_toList]; omega)]
theorem Cells.own {B g : Nat} {w : World} {zs : List Nat} (h : Cells w g zs) (hB : B ≤ g) (hm : zs.length ≤ 9223372036854775807) : Own B 100 w (.slice (some ⟨g, 0, none⟩) zs.length zs.length) zs :=
  ⟨h.1, by simp, Or.inr ⟨g, zs.length, _, rfl, hB, h.2, Nat.le_refl _, hm, by simp, by simp only [Nat.mul_one]; exact List.take_of_length_le (by simp)⟩⟩
theorem Cells.cell {g k : Nat} {w : World} {zs : List Nat} (h : Cells w g zs) (hk : k < zs.length) : w.cell? ⟨g, k, none⟩ = some (.int .u32 ((zs.getD k 0 : Nat) : Int)) ∧ w.frozen? ⟨g, k, none⟩ = false := by
  refine ⟨?_, frozen_of_row w g k _ _ h.2⟩
  rw [cell_of_row w g k _ _ _ h.2]
  simp [List.getD, hk, U]
theorem Cells.set {g : Nat} {w : World} {zs : List Nat} (h : Cells w g zs) (k x : Nat) (hx : x < 4294967296) : Cells (w.setCell ⟨g, k, none⟩ (U x)) g (zs.set k x) := by
  refine ⟨limbs_set h.1 k x hx, ?_⟩
  rw [heap_setCell_same w g k _ _ _ h.2, List.map_set]
  simp

/-- What addTimes leaves. -/
def TimesEnd (w0 : World) (g off n : Nat) (zs X : List Nat) (b : Nat) (e : Ending) (w' : World) : Prop :=
  ∃ (zs' : List Nat) (c : Nat), e = .returned (.int .u32 (c : Int)) ∧ c < 4294967296 ∧ zs'.length = zs.length ∧ Cells w' g zs' ∧ Below w0.heap.size w0 w' ∧
    (∀ j, j < off ∨ off + n ≤ j → zs'.getD j 0 = zs.getD j 0) ∧ low (zs'.drop off) n + 4294967296 ^ n * c = low (zs.drop off) n + val X * b

theorem top_sum {t c z : Nat} (ht : t ≤ 18446744065119617025) (hc : c < 4294967296) (hz : z < 4294967296) : c + (t + z) ≤ 18446744073709551615 := by omega

set_option maxRecDepth 100000 in
set_option maxHeartbeats 1600000 in
theorem addTimes_any (a : Value) (X zs : List Nat) (g off m cap : Nat) (bI : Int) (w0 w : World) (ha : Num w0 a X) (hg : w0.heap.size ≤ g) (hb : Below w0.heap.size w0 w) (hc : Cells w g zs)
    (hoff : off + X.length ≤ zs.length) (hm : X.length ≤ m) (hmc : m ≤ cap) (hcm : cap ≤ 9223372036854775807) (hb0 : 0 ≤ bI) (hb1 : bI < 4294967296) :
    Calls Tryz.prog 141 #[.slice (some ⟨g, off, none⟩) m cap, a, .int .u32 bI] w fun e w' => TimesEnd w0 g off X.length zs X bI.toNat e w' := by
  obtain ⟨b, rfl⟩ := Int.eq_ofNat_of_zero_le hb0
  rw [Int.toNat_natCast]
  obtain ⟨hbx, ao, capa, rfl, hca, hma, _, hcell⟩ := ha.open_
  obtain ⟨n, hn⟩ : ∃ n, n = X.length := ⟨_, rfl⟩
  rw [← hn] at hoff hm hca ⊢
  have HN : Hid (n = X.length) := hn
  have HC0 : Hid (Cells w g zs) := hc
  have HB0 : Hid (Below w0.heap.size w0 w) := hb
  clear hn ha hc hb hb0
  go_enter Tryz.func141, Tryz.ntmps141
  go_wp2
  go_loopw [7, 12] (fun cv t wr => ∃ (i c : Nat) (ys : List Nat), i ≤ n ∧ t = .int .i64 i ∧ cv = .int .u64 c ∧ c < 4294967296 ∧ ys.length = zs.length ∧ Cells wr g ys ∧ Below w0.heap.size w0 wr ∧ (∀ j, j < off ∨ off + i ≤ j → ys.getD j 0 = zs.getD j 0) ∧ low (ys.drop off) i + 4294967296 ^ i * c = low (zs.drop off) i + low X i * b) (fun _ t _ => n - (intOf t).toNat)
  case atStart => exact ⟨0, 0, zs, Nat.zero_le _, rfl, rfl, by omega, rfl, HC0.out, HB0.out, fun _ _ => rfl, by simp [low_zero]⟩
  case round =>
    obtain ⟨i, c, ys, hin, rfl, rfl, hc1, hyl, hcs, hbel, hout, hinv⟩ := hrel
    have HY : Hid (ys.length = zs.length) := hyl
    have HI : Hid (low (ys.drop off) i + 4294967296 ^ i * c = low (zs.drop off) i + low X i * b) := hinv
    have HO : Hid (∀ j, j < off ∨ off + i ≤ j → ys.getD j 0 = zs.getD j 0) := hout
    clear hyl hinv hout
    by_cases hlt : i < n
    · have hlt' : (i : Int) < (n : Int) := by omega
      have hlm' : (i : Int) < (m : Int) := by omega
      obtain ⟨bb, bo, rfl, hx1⟩ := hcell i (by rw [← HN.out]; exact hlt)
      have cx : wr.cell? ⟨bb, bo + i, none⟩ = some (.int .u32 ((X.getD i 0 : Nat) : Int)) := by rw [hbel.cell (p := ⟨bb, bo + i, none⟩) (block_lt_of_cell hx1)]; exact hx1
      obtain ⟨cz, hfz⟩ := hcs.cell (k := off + i) (by rw [HY.out]; omega)
      have hx0 := limb_lt hbx i
      have hz0 := limb_lt hcs.1 (off + i)
      obtain ⟨x, hx⟩ : ∃ x, x = X.getD i 0 := ⟨_, rfl⟩
      obtain ⟨z, hz⟩ : ∃ z, z = ys.getD (off + i) 0 := ⟨_, rfl⟩
      rw [← hx] at cx hx0
      rw [← hz] at cz hz0
      have HX : Hid (x = X.getD i 0) := hx
      have HZ : Hid (z = ys.getD (off + i) 0) := hz
      have tb := mul_bound hx0 (show b < 4294967296 by omega)
      obtain ⟨t, ht⟩ : ∃ t, t = x * b := ⟨_, rfl⟩
      rw [← ht] at tb
      have et : (x : Int) * (b : Int) = (t : Int) := by rw [ht]; exact (Int.natCast_mul x b).symm
      have HT : Hid (t = x * b) := ht
      have hts := top_sum tb hc1 hz0
      have hset := hcs.set (off + i) ((c + (t + z)) % 4294967296) (by omega)
      have hU : U ((c + (t + z)) % 4294967296) = .int .u32 (((c : Int) + ((t : Int) + (z : Int))) % 4294967296) := by simp [U]
      have hbel2 := hbel.setCell (p := ⟨g, off + i, none⟩) (by exact hg) (U ((c + (t + z)) % 4294967296))
      rw [hU] at hset hbel2
      clear hx hz ht hcs hbel hU hcell hx1
      go_wp2
      go_roundw
      case rel =>
        refine ⟨i + 1, (c + (t + z)) / 4294967296, _, by omega, by go_num, by go_num, by omega, by rw [List.length_set]; exact HY.out, hset, hbel2, fun j hj => ?_, ?_⟩
        · rw [getD_set_off _ _ _ _ (by omega)]; exact HO.out j (by omega)
        · rw [drop_set_add, HT.out, HX.out, HZ.out, ← getD_drop]
          refine times_step (by simp; rw [HY.out]; omega) HI.out ?_
          rw [getD_drop, getD_drop]
          exact HO.out _ (by omega)
      case measure => simp [intOf]; omega
    · have hlt' : ¬ (i : Int) < (n : Int) := by omega
      have hin' : i = n := by omega
      have HE : Hid (∃ (zs' : List Nat) (c' : Nat), Ending.returned (.int .u32 (c : Int)) = .returned (.int .u32 (c' : Int)) ∧ c' < 4294967296 ∧ zs'.length = zs.length ∧ Cells wr g zs' ∧ Below w0.heap.size w0 wr ∧ (∀ j, j < off ∨ off + n ≤ j → zs'.getD j 0 = zs.getD j 0) ∧ low (zs'.drop off) n + 4294967296 ^ n * c' = low (zs.drop off) n + val X * b) := by
        refine ⟨ys, c, rfl, hc1, HY.out, hcs, hbel, by rw [← hin']; exact HO.out, ?_⟩
        have := HI.out
        rw [hin', low_all (xs := X) (by rw [HN.out]; omega)] at this
        exact this
      clear hin' hcs hbel hcell HI HO
      go_wp2
      go_ret
      exact HE.out

set_option maxRecDepth 100000 in
set_option maxHeartbeats 1600000 in
theorem mul_any (u v : Value) (xs ys : List Nat) (w : World) (hu : Num w u xs) (hv : Num w v ys) (hbx : xs.length ≤ 1099511627776) (hby : ys.length ≤ 1099511627776) :
    Calls Tryz.prog 118 #[u, v] w fun e w' => Made' w.heap.size w (lim (val xs * val ys)) e w' := by
  obtain ⟨ao, cap, rfl, hl1, hm1⟩ := hu.ao
  obtain ⟨bo, dap, rfl, hl2, hm2⟩ := hv.ao
  obtain ⟨i0, hi, hz0, hz1, hz2⟩ := info_parts Tryz.infoU
  go_enter Tryz.func118, Tryz.ntmps118
  go_wp2_with fail
  refine (trim_any _ _ _ hu).mono ?_
  rintro e w1 ⟨⟨k, hk, hk2, rfl⟩, rfl⟩
  go_wp2_with fail
  refine (trim_any _ _ _ hv).mono ?_
  rintro e w1 ⟨⟨m, hm, hm3, rfl⟩, rfl⟩
  simp only [cutTo]
  have hkl : k = (lim (val xs)).length := by rw [← hk2, List.length_take, Nat.min_eq_left hk]
  have hml : m = (lim (val ys)).length := by rw [← hm3, List.length_take, Nat.min_eq_left hm]
  have nu := hu.cut hk
  have nv := hv.cut hm
  rw [hk2] at nu
  rw [hm3] at nv
  simp only [cutTo] at nu nv
  have hle1 : k ≤ 1099511627776 := by omega
  have hle2 : m ≤ 1099511627776 := by omega
  have HE : Hid (val xs * val ys = val (lim (val xs)) * val (lim (val ys))) := by show _ = _; rw [val_lim, val_lim]
  generalize hX : lim (val xs) = X at *
  generalize hY : lim (val ys) = Y at *
  have HKL : Hid (k = X.length) := hkl
  have HML : Hid (m = Y.length) := hml
  clear hX hY hkl hml hu hv hk2 hm3 hk hm
  by_cases hk0 : k = 0
  · have hkt : ((k : Int) == 0) = true := by simp [hk0]
    have hX0 : X = [] := List.eq_nil_of_length_eq_zero (by rw [← HKL.out]; exact hk0)
    have HR : Hid (Made' w1.heap.size w1 (lim (val xs * val ys)) (.returned (.slice none 0 0)) w1) := ⟨_, rfl, by rw [HE.out, hX0]; simp only [val, Nat.zero_mul]; exact Own.of_nil _ _ _, Below.refl _ _⟩
    clear hX0 hk0 nu nv
    go_wp2
    go_ret
    exact HR.out
  · have hkt : ((k : Int) == 0) = false := by simp; omega
    by_cases hm0 : m = 0
    · have hmt : ((m : Int) == 0) = true := by simp [hm0]
      have hY0 : Y = [] := List.eq_nil_of_length_eq_zero (by rw [← HML.out]; exact hm0)
      have HR : Hid (Made' w1.heap.size w1 (lim (val xs * val ys)) (.returned (.slice none 0 0)) w1) := ⟨_, rfl, by rw [HE.out, hY0]; simp only [val, Nat.mul_zero]; exact Own.of_nil _ _ _, Below.refl _ _⟩
      clear hY0 hk0 hm0 nu nv
      go_wp2
      go_ret
      exact HR.out
    · have hmt : ((m : Int) == 0) = false := by simp; omega
      obtain ⟨n, hn⟩ : ∃ n, n = k + m := ⟨_, rfl⟩
      have HNN : Hid (n = k + m) := hn
      have hn1 : k < n := by omega
      have hn2 : m < n := by omega
      have hn3 : n ≤ 2199023255552 := by omega
      clear hn
      go_wp2_with (at_make; refine wpList_make_full _ rfl _ _ 23 rfl w1.heap.size 100 i0 (.int .u32 0) 1 Tryz.underlying23 hi hz0 hz1 _ _ _ _ n rfl rfl (by have := HNN.out; omega) (by have := HNN.out; omega) (by rw [hz2]; omega) (by unfold maxLen; omega) (Nat.le_refl _) ?_)
      intro w2 ho2 hg2
      have how := own_made ho2
      have hbel : Below w1.heap.size w1 w2 := (Below.refl w1.heap.size w1).grown hg2 (Nat.le_refl _) (by intro k hk; simp at hk)
      obtain ⟨g, hg⟩ : ∃ g, g = w1.heap.size := ⟨_, rfl⟩
      have HB : Hid (Below w1.heap.size w1 w2 ∧ Cells w2 g (List.replicate n 0)) := by rw [hg]; exact ⟨hbel, how.cells⟩
      have HG : Hid (w1.heap.size ≤ g) := by show _ ≤ _; omega
      rw [← hg]
      clear hg hbel how ho2 hg2
      go_wp2
      go_loopw [28] (fun t wr => ∃ (i : Nat) (zs : List Nat), i ≤ m ∧ t = .int .i64 i ∧ zs.length = n ∧ Cells wr g zs ∧ Below w1.heap.size w1 wr ∧ (∀ j, i + k ≤ j → zs.getD j 0 = 0) ∧ val zs = val X * low Y i) (fun t _ => m - (intOf t).toNat)
      case atStart => exact ⟨0, List.replicate n 0, Nat.zero_le _, rfl, by simp, HB.out.2, HB.out.1, fun j _ => by rw [List.getD_eq_getElem?_getD, List.getElem?_replicate]; split <;> rfl, by rw [low_zero, Nat.mul_zero]; exact val_zeros fun x hx => List.eq_of_mem_replicate hx⟩
      case round =>
        clear HB
        obtain ⟨i, zs, hin, rfl, hzl, hcs, hbel, hzero, hval⟩ := hrel
        have HZ : Hid (zs.length = n) := hzl
        have HV : Hid (val zs = val X * low Y i) := hval
        have HZZ : Hid (∀ j, i + k ≤ j → zs.getD j 0 = 0) := hzero
        clear hzl hval hzero
        by_cases hlt : i < m
        · have hlt' : (i : Int) < (m : Int) := by omega
          have hik : i + k ≤ n := by have := HNN.out; omega
          have hik2 : i + k < n := by have := HNN.out; omega
          obtain ⟨hby_, bo', dap', ey, _, _, _, cy⟩ := nv.open_
          simp only [Value.slice.injEq] at ey
          obtain ⟨rfl, hq1, rfl⟩ := ey
          obtain ⟨bb, bof, rfl, hy1⟩ := cy i (by rw [← HML.out]; exact hlt)
          have cyy : wr.cell? ⟨bb, bof + i, none⟩ = some (.int .u32 ((Y.getD i 0 : Nat) : Int)) := by rw [hbel.cell (p := ⟨bb, bof + i, none⟩) (block_lt_of_cell hy1)]; exact hy1
          have hy0 := limb_lt nv.1 i
          obtain ⟨y, hy⟩ : ∃ y, y = Y.getD i 0 := ⟨_, rfl⟩
          rw [← hy] at cyy hy0
          have HY : Hid (y = Y.getD i 0) := hy
          clear hy hq1 cy hy1
          go_wp2_with fail
          refine (addTimes_any _ X zs g i k (n - i) _ w1 _ nu HG.out hbel hcs (by rw [HZ.out, ← HKL.out]; exact hik) (by rw [← HKL.out]; omega) (by omega) (by omega) (by omega) (by omega)).mono ?_
          rintro e w3 ⟨zs', c, rfl, hc, hzl', hcs', hbel', hs', hinv'⟩
          rw [← HKL.out] at hs' hinv'
          rw [Int.toNat_natCast] at hinv'
          have HS' : Hid (∀ j, j < i ∨ i + k ≤ j → zs'.getD j 0 = zs.getD j 0) := hs'
          have HI' : Hid (low (zs'.drop i) k + 4294967296 ^ k * c = low (zs.drop i) k + val X * y) := hinv'
          have HZ' : Hid (zs'.length = zs.length) := hzl'
          obtain ⟨hcz, hfz⟩ := hcs'.cell (k := i + k) (by rw [HZ'.out, HZ.out]; exact hik2)
          obtain ⟨z, hz⟩ : ∃ z, z = zs'.getD (i + k) 0 := ⟨_, rfl⟩
          rw [← hz] at hcz
          have hset := hcs'.set (i + k) c hc
          have hbel2 := hbel'.setCell (p := ⟨g, i + k, none⟩) (by exact HG.out) (U c)
          rw [show U c = .int .u32 (c : Int) from rfl] at hset hbel2
          have HR : Hid (val (zs'.set (i + k) c) = val X * low Y (i + 1)) := by
            show _ = _
            rw [mul_step HZ'.out (by rw [HZ.out]; exact hik2) HZZ.out HS'.out HI'.out, HY.out]
            exact mul_row HV.out
          have HR2 : Hid (∀ j, i + 1 + k ≤ j → (zs'.set (i + k) c).getD j 0 = 0) := mul_zeros HZZ.out HS'.out
          clear hcs hbel hs' hinv' hzl' hcs' hbel' hz HI' HS'
          go_wp2
          go_roundw
          case rel => exact ⟨i + 1, _, by omega, by go_num, by rw [List.length_set, HZ'.out]; exact HZ.out, hset, hbel2, HR2.out, HR.out⟩
          case measure => simp [intOf]; omega
        · have hlt' : ¬ (i : Int) < (m : Int) := by omega
          have him : i = m := by omega
          have HF : Hid (val zs = val xs * val ys) := by
            show _ = _
            rw [HE.out, HV.out, him, low_all (by rw [← HML.out]; omega)]
          have how : Own w1.heap.size 100 wr (.slice (some ⟨g, 0, none⟩) n n) zs := by
            have := hcs.own HG.out (by rw [HZ.out]; omega)
            rw [HZ.out] at this
            exact this
          clear him hcs
          go_wp2_with fail
          refine (trim_any _ _ _ how.num).mono ?_
          rintro e w3 ⟨⟨k3, hk3, hk4, rfl⟩, rfl⟩
          have how2 := how.cut hk3
          rw [hk4, HF.out] at how2
          clear how hk4
          go_wp2
          go_ret
          exact ⟨_, rfl, how2, hbel⟩
end Go.Proofs.YtaafijifiiiblaaGreat

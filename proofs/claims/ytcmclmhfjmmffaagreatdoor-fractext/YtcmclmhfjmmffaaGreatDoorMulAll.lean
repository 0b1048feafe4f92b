/-
  Proved here: what the small makers of numbers answer.
  Proved here: what Add answers.
  Proved here: what blend and Sub answer.
  Proved here: plain facts on a row of a product. No condition.
  Proved here: what addTimes and Mul answer.
-/
import Derived.Test.YtcmclmhfjmmffaaGreatDoorTrimAll
import Derived.Laws.Bits64b
import Derived.Test.YtcmclmhfjmmffaaGreatDoorPushAll
import Derived.Test.YtcmclmhfjmmffaaGreatDoorLongAll
namespace Go.Proofs.YtcmclmhfjmmffaaGreatDoor
open Go.RowKit

theorem Tryz.infoU : (Tryz.prog.info? 69).map (fun i => (i.zero, i.size, i.bytes)) = some (some (.int .u32 0), 1, 4) := by kernel_rfl

theorem val_two (u : Nat) : val [u % 4294967296, u / 4294967296] = u := by simp [val]; omega

set_option maxHeartbeats 400000 in
theorem of_any (u : Nat) (w : World) (hu : u < 18446744073709551616) :
    Calls Tryz.prog 80 #[.int .u64 (u : Int)] w fun e w' => ∃ v, e = .returned v ∧ Own w.heap.size 69 w' v (lim u) ∧ Below w.heap.size w w' := by
  have hb : limbs [u % 4294967296, u / 4294967296] := by
    intro x hx
    simp at hx
    omega
  have how := Own.lit (B := w.heap.size) 69 w #[.int .u32 ((u : Int) % 4294967296), .int .u32 ((u : Int) / 4294967296)] [u % 4294967296, u / 4294967296] hb (Nat.le_refl _) (by simp [maxLen]) (by simp [U])
  have hbel : Below w.heap.size w (w.alloc (.cells #[.int .u32 ((u : Int) % 4294967296), .int .u32 ((u : Int) / 4294967296)] 69)) := (Below.refl _ _).alloc (Nat.le_refl _) _
  go_enter Tryz.func80, Tryz.ntmps80
  go_wp2_with fail
  refine (trim_any _ _ _ how.num).mono ?_
  rintro e w' ⟨⟨k, hk, hk2, rfl⟩, rfl⟩
  have how2 := how.cut hk
  rw [hk2, val_two] at how2
  clear how hk2 hb
  go_wp2
  go_ret
  exact ⟨_, rfl, how2, hbel⟩

theorem or_high (x y : Nat) (hx : x < 4294967296) (hy : y < 4294967296) : bits BinOp.or IntKind.u64 (x : Int) ((y : Int) * 4294967296) = ((x + 4294967296 * y : Nat) : Int) := by
  have h := bits_or_u64_nat x (y * 4294967296) (by omega) (by omega)
  rw [show ((y : Int) * 4294967296) = ((y * 4294967296 : Nat) : Int) by omega, h]
  congr 1
  have h2 := Nat.shiftLeft_add_eq_or_of_lt (i := 32) (b := x) (by simpa using hx) y
  rw [Nat.shiftLeft_eq, show (2 ^ 32 : Nat) = 4294967296 from rfl] at h2
  rw [Nat.or_comm, ← h2]; omega

theorem or_halves (V : Nat) (h : V < 18446744073709551616) : bits BinOp.or IntKind.u64 ((V : Int) % 4294967296) ((V : Int) / 4294967296 * 4294967296) = (V : Int) := by
  have hor := or_high (V % 4294967296) (V / 4294967296) (by omega) (by omega)
  rw [Int.natCast_emod, Int.natCast_ediv] at hor
  refine hor.trans ?_
  omega

end Go.Proofs.YtcmclmhfjmmffaaGreatDoor

namespace Go.Proofs.YtcmclmhfjmmffaaGreatDoor
open Go.RowKit

theorem own_made {B e n : Nat} {w : World} {v : Value} (h : w.ownsRow B e 1 v n (madeCells #[Value.int .u32 0] n).toList) : Own B e w v (List.replicate n 0) := by
  refine ⟨fun x hx => by have := List.eq_of_mem_replicate hx; omega, ?_⟩
  rw [toList_madeCells_one] at h
  rw [List.map_replicate, List.length_replicate]
  exact h

/-- What a maker of a number leaves. -/
def Made' (B : Nat) (w : World) (xs : List Nat) (en : Ending) (w' : World) : Prop := ∃ v, en = .returned v ∧ Own B 69 w' v xs ∧ Below B w w'

set_option maxRecDepth 100000 in
set_option maxHeartbeats 1600000 in
theorem add_any (u v : Value) (xs ys : List Nat) (w : World) (hu : Num w u xs) (hv : Num w v ys) (hbx : xs.length ≤ 1099511627776) (hby : ys.length ≤ 1099511627776) :
    Calls Tryz.prog 97 #[u, v] w fun e w' => Made' w.heap.size w (lim (val xs + val ys)) e w' := by
  obtain ⟨ao, cap, rfl, hl1, hm1⟩ := hu.ao
  obtain ⟨bo, dap, rfl, hl2, hm2⟩ := hv.ao
  obtain ⟨i0, hi, hz0, hz1, hz2⟩ := info_parts Tryz.infoU
  go_enter Tryz.func97, Tryz.ntmps97
  go_wp2_with fail
  refine (trim_any _ _ _ hu).mono ?_
  rintro e w1 ⟨⟨k, hk, hk2, rfl⟩, rfl⟩
  go_wp2_with fail
  refine (trim_any _ _ _ hv).mono ?_
  rintro e w1 ⟨⟨m, hm, hm3, rfl⟩, rfl⟩
  simp only [cutTo]
  have hkl : k = (lim (val xs)).length := by rw [← hk2, List.length_take, Nat.min_eq_left hk]
  have hml : m = (lim (val ys)).length := by rw [← hm3, List.length_take, Nat.min_eq_left hm]
  have nu := hu.cut hk
  have nv := hv.cut hm
  rw [hk2] at nu
  rw [hm3] at nv
  simp only [cutTo] at nu nv
  have hle1 : k ≤ 1099511627776 := by omega
  have hle2 : m ≤ 1099511627776 := by omega
  have HE : Hid (val xs + val ys = val (lim (val xs)) + val (lim (val ys))) := by show _ = _; rw [val_lim, val_lim]
  generalize hX : lim (val xs) = X at *
  generalize hY : lim (val ys) = Y at *
  have HKL : Hid (k = X.length) := hkl
  have HML : Hid (m = Y.length) := hml
  clear hX hY hkl hml hu hv hk2 hm3 hk hm
  have pre : ∃ n : Nat, k < n ∧ m < n ∧ n ≤ 1099511627777 ∧ ((k < m ∧ n = m + 1) ∨ (¬ k < m ∧ n = k + 1)) := by
    by_cases h : k < m
    · exact ⟨m + 1, by omega, by omega, by omega, Or.inl ⟨h, rfl⟩⟩
    · exact ⟨k + 1, by omega, by omega, by omega, Or.inr ⟨h, rfl⟩⟩
  obtain ⟨n, hn1, hn2, hn3, hcase⟩ := pre
  rcases hcase with ⟨hkm, hn⟩ | ⟨hkm, hn⟩
  all_goals
    have HNN : Hid (n = _) := hn
    clear hn
    go_wp2_with (at_make; refine wpList_make_full _ rfl _ _ 23 rfl w1.heap.size 69 i0 (.int .u32 0) 1 Tryz.underlying23 hi hz0 hz1 _ _ _ _ n rfl rfl (by have := HNN.out; omega) (by have := HNN.out; omega) (by rw [hz2]; omega) (by unfold maxLen; omega) (Nat.le_refl _) ?_)
    intro w2 ho2 hg2
    have how := own_made ho2
    have hbel : Below w1.heap.size w1 w2 := (Below.refl w1.heap.size w1).grown hg2 (Nat.le_refl _) (by intro k hk; simp at hk)
    have HXL : Hid (X.length < n) := by show _ < _; rw [← HKL.out]; exact hn1
    have HYL : Hid (Y.length < n) := by show _ < _; rw [← HML.out]; exact hn2
    clear ho2 hg2 HNN hn1 hn2
    obtain ⟨g, hg⟩ : ∃ g, g = w1.heap.size := ⟨_, rfl⟩
    have HB : Hid (Below w1.heap.size w1 w2 ∧ Own w1.heap.size 69 w2 (.slice (some ⟨g, 0, none⟩) n n) (List.replicate n 0)) := by rw [hg]; exact ⟨hbel, how⟩
    rw [← hg] 
    clear hg hbel how
    go_wp2
    go_loopw [6, 21] (fun c t wr => ∃ (i cN : Nat) (zs : List Nat), i ≤ n ∧ t = .int .i64 i ∧ c = .int .u64 cN ∧ cN ≤ 1 ∧ zs.length = n ∧ Own w1.heap.size 69 wr (.slice (some ⟨g, 0, none⟩) n n) zs ∧ low zs i + 4294967296 ^ i * cN = low X i + low Y i ∧ Below w1.heap.size w1 wr) (fun _ t _ => n - (intOf t).toNat)
    case atStart => exact ⟨0, 0, List.replicate n 0, Nat.zero_le _, rfl, rfl, by omega, by simp, HB.out.2, by simp [low_zero], HB.out.1⟩
    case round =>
      obtain ⟨i, c, zs, hin, rfl, rfl, hc1, hzl, how, hinv, hbel⟩ := hrel
      have HZ : Hid (zs.length = n) := hzl
      have HI : Hid (low zs i + 4294967296 ^ i * c = low X i + low Y i) := hinv
      clear hzl hinv HB
      have nu2 := nu.below (Nat.le_refl _) hbel
      have nv2 := nv.below (Nat.le_refl _) hbel
      by_cases hlt : i < n
      · have hlt' : (i : Int) < (n : Int) := by omega
        have hx0 := limb_lt nu.1 i
        have hy0 := limb_lt nv.1 i
        obtain ⟨x, hx⟩ : ∃ x, x = X.getD i 0 := ⟨_, rfl⟩
        obtain ⟨y, hy⟩ : ∃ y, y = Y.getD i 0 := ⟨_, rfl⟩
        have HX : Hid (x = X.getD i 0) := hx
        have HY : Hid (y = Y.getD i 0) := hy
        rw [← hx] at hx0
        rw [← hy] at hy0
        obtain ⟨hcz, hfz⟩ := how.cell (k := i) (by rw [HZ.out]; exact hlt)
        obtain ⟨z, hz⟩ : ∃ z, z = zs.getD i 0 := ⟨_, rfl⟩
        rw [← hz] at hcz
        have hset := how.set HZ.out i ((c + (x + y)) % 4294967296) (by omega)
        have hU : U ((c + (x + y)) % 4294967296) = .int .u32 (((c : Int) + ((x : Int) + (y : Int))) % 4294967296) := by simp [U]
        rw [hU] at hset
        have hbel2 : Below w1.heap.size w1 (wr.setCell ⟨g, i, none⟩ (.int .u32 (((c : Int) + ((x : Int) + (y : Int))) % 4294967296))) := hbel.setCell (by exact how.heap.1) _
        clear hx hy hz how hbel hU
        go_wp2_with fail
        refine (limb_any _ _ _ _ nu2 (by omega)).mono ?_
        rintro e w3 ⟨rfl, rfl⟩
        rw [Int.toNat_natCast, ← HX.out]
        go_wp2_with fail
        refine (limb_any _ _ _ _ nv2 (by omega)).mono ?_
        rintro e w4 ⟨rfl, rfl⟩
        rw [Int.toNat_natCast, ← HY.out]
        clear nu2 nv2
        go_wp2
        go_roundw
        case rel => exact ⟨i + 1, (c + (x + y)) / 4294967296, _, by omega, by go_num, by go_num, by omega, by rw [List.length_set]; exact HZ.out, hset, by rw [HX.out, HY.out]; exact add_step (by rw [HZ.out]; exact hlt) HI.out, hbel2⟩
        case measure => simp [intOf]; omega
      · have hlt' : ¬ (i : Int) < (n : Int) := by omega
        have hin' : i = n := by omega
        have HV : Hid (val zs = val xs + val ys) := by
          show _ = _
          rw [HE.out]
          exact add_done nu.1 nv.1 HXL.out HYL.out HZ.out (by rw [← hin']; exact HI.out)
        clear hin' nu2 nv2
        go_wp2_with fail
        refine (trim_any _ _ _ how.num).mono ?_
        rintro e w3 ⟨⟨k3, hk3, hk4, rfl⟩, rfl⟩
        have how2 := how.cut hk3
        rw [hk4, HV.out] at how2
        clear how hk4
        go_wp2
        go_ret
        exact ⟨_, rfl, how2, hbel⟩
end Go.Proofs.YtcmclmhfjmmffaaGreatDoor

namespace Go.Proofs.YtcmclmhfjmmffaaGreatDoor
open Go.RowKit

theorem and_mask (a : Nat) (h : a < 18446744073709551616) : bits BinOp.and IntKind.u64 (a : Int) 4294967295 = ((a % 4294967296 : Nat) : Int) := by
  have := bits_and_u64_nat a 4294967295 h (by decide)
  rw [show ((4294967295 : Nat) : Int) = 4294967295 from rfl] at this
  rw [this]
  congr 1
  exact Nat.and_two_pow_sub_one_eq_mod a 32

theorem sub_wrap (P M b : Nat) (hP : P < 4294967296) (hM : M < 4294967296) (hb : b ≤ 1) : ∃ D1 D b' dl : Nat, IntKind.u64.wrap ((P : Int) - (M : Int)) = (D1 : Int) ∧ IntKind.u64.wrap ((D1 : Int) - (b : Int)) = (D : Int) ∧ D < 18446744073709551616 ∧
    ((D : Int) % 4294967296) = (dl : Int) ∧ ((D : Int) / 9223372036854775808) = (b' : Int) ∧ b' ≤ 1 ∧ dl < 4294967296 ∧ P + 4294967296 * b' = M + b + dl := by
  by_cases h1 : M ≤ P
  · by_cases h2 : M + b ≤ P
    · exact ⟨P - M, P - M - b, 0, P - M - b, by rw [IntKind.wrap_u64]; omega, by rw [IntKind.wrap_u64]; omega, by omega, by omega, by omega, by omega, by omega, by omega⟩
    · refine ⟨0, 18446744073709551615, 1, 4294967295, by rw [IntKind.wrap_u64]; omega, by rw [IntKind.wrap_u64]; omega, by omega, by omega, by omega, by omega, by omega, by omega⟩
  · exact ⟨18446744073709551616 + P - M, 18446744073709551616 + P - M - b, 1, 4294967296 + P - M - b, by rw [IntKind.wrap_u64]; omega, by rw [IntKind.wrap_u64]; omega, by omega, by omega, by omega, by omega, by omega, by omega⟩

theorem mul_bound {x u : Nat} (hx : x < 4294967296) (hu : u < 4294967296) : x * u ≤ 18446744065119617025 := by
  have : x * u ≤ 4294967295 * 4294967295 := Nat.mul_le_mul (by omega) (by omega)
  omega

end Go.Proofs.YtcmclmhfjmmffaaGreatDoor

namespace Go.Proofs.YtcmclmhfjmmffaaGreatDoor

theorem val_zero_of {zs : List Nat} (h : ∀ j, zs.getD j 0 = 0) : val zs = 0 := by
  rw [val_congr zs.length (ys := []) (Nat.le_refl _) (by simp) (fun j => by rw [h j]; simp)]
  rfl
theorem mul_step {zs zs' X : List Nat} {i k c b : Nat} (hl : zs'.length = zs.length) (hik : i + k < zs.length) (hz : ∀ j, i + k ≤ j → zs.getD j 0 = 0) (hs : ∀ j, j < i ∨ i + k ≤ j → zs'.getD j 0 = zs.getD j 0)
    (h : low (zs'.drop i) k + 4294967296 ^ k * c = low (zs.drop i) k + val X * b) : val (zs'.set (i + k) c) = val zs + 4294967296 ^ i * (val X * b) := by
  have e1 : low (zs'.set (i + k) c) i = low zs i := by
    rw [low_set_ge _ _ _ _ (by omega)]
    exact low_congr fun j hj => hs j (Or.inl hj)
  have e2 : val ((zs'.set (i + k) c).drop i) = low (zs'.drop i) k + 4294967296 ^ k * c := by
    rw [drop_set_add, val_split _ k (by simp; omega), low_set_ge _ _ _ _ (Nat.le_refl _)]
    congr 2
    rw [List.drop_set, if_neg (by omega), Nat.sub_self, List.drop_drop, val_tail, getD_set_eq _ _ _ (by simp; omega)]
    rw [val_zero_of (zs := ((zs'.drop (i + k)).set 0 c).tail)]
    · simp
    · intro j
      rw [getD_tail, getD_set_off _ _ _ _ (by omega), getD_drop, hs _ (Or.inr (by omega)), hz _ (by omega)]
  have e3 : val (zs.drop i) = low (zs.drop i) k := by
    rw [val_split _ k (by simp; omega), val_zero_of (zs := (zs.drop i).drop k), Nat.mul_zero, Nat.add_zero]
    intro j
    rw [getD_drop, getD_drop]
    exact hz _ (by omega)
  rw [val_split (zs'.set (i + k) c) i (by simp; omega), e1, e2, h, val_split zs i (by omega), e3, Nat.mul_add, Nat.add_assoc]
theorem mul_row {X Y : List Nat} {i v : Nat} (h : v = val X * low Y i) : v + 4294967296 ^ i * (val X * Y.getD i 0) = val X * low Y (i + 1) := by
  rw [h, low_succ, Nat.mul_add]
  congr 1
  rw [← Nat.mul_assoc, ← Nat.mul_assoc, Nat.mul_comm (4294967296 ^ i)]
theorem mul_zeros {zs zs' : List Nat} {i k c : Nat} (hz : ∀ j, i + k ≤ j → zs.getD j 0 = 0) (hs : ∀ j, j < i ∨ i + k ≤ j → zs'.getD j 0 = zs.getD j 0) : ∀ j, i + 1 + k ≤ j → (zs'.set (i + k) c).getD j 0 = 0 := fun j hj => by
  rw [getD_set_off _ _ _ _ (by omega), hs j (Or.inr (by omega)), hz j (by omega)]
end Go.Proofs.YtcmclmhfjmmffaaGreatDoor

namespace Go.Proofs.YtcmclmhfjmmffaaGreatDoor
open Go.RowKit

/-- A row that holds just these limbs. -/
def Cells (w : World) (g : Nat) (zs : List Nat) : Prop := limbs zs ∧ w.heap[g]? = some (.cells (zs.map U).toArray 69 (0, 0))
theorem Own.cells {B g n : Nat} {w : World} {zs : List Nat} (h : Own B 69 w (.slice (some ⟨g, 0, none⟩) n n) zs) : Cells w g zs := by
  obtain ⟨_, hn, cur, h1, h2, h3, h4⟩ := h.heap
  refine ⟨h.1, ?_⟩
  rw [h1]
  congr 2
  rw [← h4, List.take_of_length_le (by rw [Array.length_toList]; omega)]
theorem Cells.own {B g : Nat} {w : World} {zs : List Nat} (h : Cells w g zs) (hB : B ≤ g) (hm : zs.length ≤ 9223372036854775807) : Own B 69 w (.slice (some ⟨g, 0, none⟩) zs.length zs.length) zs :=
  ⟨h.1, by simp, Or.inr ⟨g, zs.length, _, rfl, hB, h.2, Nat.le_refl _, hm, by simp, by simp only [Nat.mul_one]; exact List.take_of_length_le (by simp)⟩⟩
theorem Cells.cell {g k : Nat} {w : World} {zs : List Nat} (h : Cells w g zs) (hk : k < zs.length) : w.cell? ⟨g, k, none⟩ = some (.int .u32 ((zs.getD k 0 : Nat) : Int)) ∧ w.frozen? ⟨g, k, none⟩ = false := by
  refine ⟨?_, frozen_of_row w g k _ _ h.2⟩
  rw [cell_of_row w g k _ _ _ h.2]
  simp [List.getD, hk, U]
theorem Cells.set {g : Nat} {w : World} {zs : List Nat} (h : Cells w g zs) (k x : Nat) (hx : x < 4294967296) : Cells (w.setCell ⟨g, k, none⟩ (U x)) g (zs.set k x) := by
  refine ⟨limbs_set h.1 k x hx, ?_⟩
  rw [heap_setCell_same w g k _ _ _ h.2, List.map_set]
  simp

/-- What addTimes leaves. -/
def TimesEnd (w0 : World) (g off n : Nat) (zs X : List Nat) (b : Nat) (e : Ending) (w' : World) : Prop :=
  ∃ (zs' : List Nat) (c : Nat), e = .returned (.int .u32 (c : Int)) ∧ c < 4294967296 ∧ zs'.length = zs.length ∧ Cells w' g zs' ∧ Below w0.heap.size w0 w' ∧
    (∀ j, j < off ∨ off + n ≤ j → zs'.getD j 0 = zs.getD j 0) ∧ low (zs'.drop off) n + 4294967296 ^ n * c = low (zs.drop off) n + val X * b

theorem top_sum {t c z : Nat} (ht : t ≤ 18446744065119617025) (hc : c < 4294967296) (hz : z < 4294967296) : c + (t + z) ≤ 18446744073709551615 := by omega

set_option maxRecDepth 100000 in
set_option maxHeartbeats 1600000 in
theorem addTimes_any (a : Value) (X zs : List Nat) (g off m cap : Nat) (bI : Int) (w0 w : World) (ha : Num w0 a X) (hg : w0.heap.size ≤ g) (hb : Below w0.heap.size w0 w) (hc : Cells w g zs)
    (hoff : off + X.length ≤ zs.length) (hm : X.length ≤ m) (hmc : m ≤ cap) (hcm : cap ≤ 9223372036854775807) (hb0 : 0 ≤ bI) (hb1 : bI < 4294967296) :
    Calls Tryz.prog 129 #[.slice (some ⟨g, off, none⟩) m cap, a, .int .u32 bI] w fun e w' => TimesEnd w0 g off X.length zs X bI.toNat e w' := by
  obtain ⟨b, rfl⟩ := Int.eq_ofNat_of_zero_le hb0
  rw [Int.toNat_natCast]
  obtain ⟨hbx, ao, capa, rfl, hca, hma, _, hcell⟩ := ha.open_
  obtain ⟨n, hn⟩ : ∃ n, n = X.length := ⟨_, rfl⟩
  rw [← hn] at hoff hm hca ⊢
  have HN : Hid (n = X.length) := hn
  have HC0 : Hid (Cells w g zs) := hc
  have HB0 : Hid (Below w0.heap.size w0 w) := hb
  clear hn ha hc hb hb0
  go_enter Tryz.func129, Tryz.ntmps129
  go_wp2
  go_loopw [7, 12] (fun cv t wr => ∃ (i c : Nat) (ys : List Nat), i ≤ n ∧ t = .int .i64 i ∧ cv = .int .u64 c ∧ c < 4294967296 ∧ ys.length = zs.length ∧ Cells wr g ys ∧ Below w0.heap.size w0 wr ∧ (∀ j, j < off ∨ off + i ≤ j → ys.getD j 0 = zs.getD j 0) ∧ low (ys.drop off) i + 4294967296 ^ i * c = low (zs.drop off) i + low X i * b) (fun _ t _ => n - (intOf t).toNat)
  case atStart => exact ⟨0, 0, zs, Nat.zero_le _, rfl, rfl, by omega, rfl, HC0.out, HB0.out, fun _ _ => rfl, by simp [low_zero]⟩
  case round =>
    obtain ⟨i, c, ys, hin, rfl, rfl, hc1, hyl, hcs, hbel, hout, hinv⟩ := hrel
    have HY : Hid (ys.length = zs.length) := hyl
    have HI : Hid (low (ys.drop off) i + 4294967296 ^ i * c = low (zs.drop off) i + low X i * b) := hinv
    have HO : Hid (∀ j, j < off ∨ off + i ≤ j → ys.getD j 0 = zs.getD j 0) := hout
    clear hyl hinv hout
    by_cases hlt : i < n
    · have hlt' : (i : Int) < (n : Int) := by omega
      have hlm' : (i : Int) < (m : Int) := by omega
      obtain ⟨bb, bo, rfl, hx1⟩ := hcell i (by rw [← HN.out]; exact hlt)
      have cx : wr.cell? ⟨bb, bo + i, none⟩ = some (.int .u32 ((X.getD i 0 : Nat) : Int)) := by rw [hbel.cell (p := ⟨bb, bo + i, none⟩) (block_lt_of_cell hx1)]; exact hx1
      obtain ⟨cz, hfz⟩ := hcs.cell (k := off + i) (by rw [HY.out]; omega)
      have hx0 := limb_lt hbx i
      have hz0 := limb_lt hcs.1 (off + i)
      obtain ⟨x, hx⟩ : ∃ x, x = X.getD i 0 := ⟨_, rfl⟩
      obtain ⟨z, hz⟩ : ∃ z, z = ys.getD (off + i) 0 := ⟨_, rfl⟩
      rw [← hx] at cx hx0
      rw [← hz] at cz hz0
      have HX : Hid (x = X.getD i 0) := hx
      have HZ : Hid (z = ys.getD (off + i) 0) := hz
      have tb := mul_bound hx0 (show b < 4294967296 by omega)
      obtain ⟨t, ht⟩ : ∃ t, t = x * b := ⟨_, rfl⟩
      rw [← ht] at tb
      have et : (x : Int) * (b : Int) = (t : Int) := by rw [ht]; exact (Int.natCast_mul x b).symm
      have HT : Hid (t = x * b) := ht
      have hts := top_sum tb hc1 hz0
      have hset := hcs.set (off + i) ((c + (t + z)) % 4294967296) (by omega)
      have hU : U ((c + (t + z)) % 4294967296) = .int .u32 (((c : Int) + ((t : Int) + (z : Int))) % 4294967296) := by simp [U]
      have hbel2 := hbel.setCell (p := ⟨g, off + i, none⟩) (by exact hg) (U ((c + (t + z)) % 4294967296))
      rw [hU] at hset hbel2
      clear hx hz ht hcs hbel hU hcell hx1
      go_wp2
      go_roundw
      case rel =>
        refine ⟨i + 1, (c + (t + z)) / 4294967296, _, by omega, by go_num, by go_num, by omega, by rw [List.length_set]; exact HY.out, hset, hbel2, fun j hj => ?_, ?_⟩
        · rw [getD_set_off _ _ _ _ (by omega)]; exact HO.out j (by omega)
        · rw [drop_set_add, HT.out, HX.out, HZ.out, ← getD_drop]
          refine times_step (by simp; rw [HY.out]; omega) HI.out ?_
          rw [getD_drop, getD_drop]
          exact HO.out _ (by omega)
      case measure => simp [intOf]; omega
    · have hlt' : ¬ (i : Int) < (n : Int) := by omega
      have hin' : i = n := by omega
      have HE : Hid (∃ (zs' : List Nat) (c' : Nat), Ending.returned (.int .u32 (c : Int)) = .returned (.int .u32 (c' : Int)) ∧ c' < 4294967296 ∧ zs'.length = zs.length ∧ Cells wr g zs' ∧ Below w0.heap.size w0 wr ∧ (∀ j, j < off ∨ off + n ≤ j → zs'.getD j 0 = zs.getD j 0) ∧ low (zs'.drop off) n + 4294967296 ^ n * c' = low (zs.drop off) n + val X * b) := by
        refine ⟨ys, c, rfl, hc1, HY.out, hcs, hbel, by rw [← hin']; exact HO.out, ?_⟩
        have := HI.out
        rw [hin', low_all (xs := X) (by rw [HN.out]; omega)] at this
        exact this
      clear hin' hcs hbel hcell HI HO
      go_wp2
      go_ret
      exact HE.out

set_option maxRecDepth 100000 in
set_option maxHeartbeats 1600000 in
theorem mul_any (u v : Value) (xs ys : List Nat) (w : World) (hu : Num w u xs) (hv : Num w v ys) (hbx : xs.length ≤ 1099511627776) (hby : ys.length ≤ 1099511627776) :
    Calls Tryz.prog 99 #[u, v] w fun e w' => Made' w.heap.size w (lim (val xs * val ys)) e w' := by
  obtain ⟨ao, cap, rfl, hl1, hm1⟩ := hu.ao
  obtain ⟨bo, dap, rfl, hl2, hm2⟩ := hv.ao
  obtain ⟨i0, hi, hz0, hz1, hz2⟩ := info_parts Tryz.infoU
  go_enter Tryz.func99, Tryz.ntmps99
  go_wp2_with fail
  refine (trim_any _ _ _ hu).mono ?_
  rintro e w1 ⟨⟨k, hk, hk2, rfl⟩, rfl⟩
  go_wp2_with fail
  refine (trim_any _ _ _ hv).mono ?_
  rintro e w1 ⟨⟨m, hm, hm3, rfl⟩, rfl⟩
  simp only [cutTo]
  have hkl : k = (lim (val xs)).length := by rw [← hk2, List.length_take, Nat.min_eq_left hk]
  have hml : m = (lim (val ys)).length := by rw [← hm3, List.length_take, Nat.min_eq_left hm]
  have nu := hu.cut hk
  have nv := hv.cut hm
  rw [hk2] at nu
  rw [hm3] at nv
  simp only [cutTo] at nu nv
  have hle1 : k ≤ 1099511627776 := by omega
  have hle2 : m ≤ 1099511627776 := by omega
  have HE : Hid (val xs * val ys = val (lim (val xs)) * val (lim (val ys))) := by show _ = _; rw [val_lim, val_lim]
  generalize hX : lim (val xs) = X at *
  generalize hY : lim (val ys) = Y at *
  have HKL : Hid (k = X.length) := hkl
  have HML : Hid (m = Y.length) := hml
  clear hX hY hkl hml hu hv hk2 hm3 hk hm
  by_cases hk0 : k = 0
  · have hkt : ((k : Int) == 0) = true := by simp [hk0]
    have hX0 : X = [] := List.eq_nil_of_length_eq_zero (by rw [← HKL.out]; exact hk0)
    have HR : Hid (Made' w1.heap.size w1 (lim (val xs * val ys)) (.returned (.slice none 0 0)) w1) := ⟨_, rfl, by rw [HE.out, hX0]; simp only [val, Nat.zero_mul]; exact Own.of_nil _ _ _, Below.refl _ _⟩
    clear hX0 hk0 nu nv
    go_wp2
    go_ret
    exact HR.out
  · have hkt : ((k : Int) == 0) = false := by simp; omega
    by_cases hm0 : m = 0
    · have hmt : ((m : Int) == 0) = true := by simp [hm0]
      have hY0 : Y = [] := List.eq_nil_of_length_eq_zero (by rw [← HML.out]; exact hm0)
      have HR : Hid (Made' w1.heap.size w1 (lim (val xs * val ys)) (.returned (.slice none 0 0)) w1) := ⟨_, rfl, by rw [HE.out, hY0]; simp only [val, Nat.mul_zero]; exact Own.of_nil _ _ _, Below.refl _ _⟩
      clear hY0 hk0 hm0 nu nv
      go_wp2
      go_ret
      exact HR.out
    · have hmt : ((m : Int) == 0) = false := by simp; omega
      obtain ⟨n, hn⟩ : ∃ n, n = k + m := ⟨_, rfl⟩
      have HNN : Hid (n = k + m) := hn
      have hn1 : k < n := by omega
      have hn2 : m < n := by omega
      have hn3 : n ≤ 2199023255552 := by omega
      clear hn
      go_wp2_with (at_make; refine wpList_make_full _ rfl _ _ 23 rfl w1.heap.size 69 i0 (.int .u32 0) 1 Tryz.underlying23 hi hz0 hz1 _ _ _ _ n rfl rfl (by have := HNN.out; omega) (by have := HNN.out; omega) (by rw [hz2]; omega) (by unfold maxLen; omega) (Nat.le_refl _) ?_)
      intro w2 ho2 hg2
      have how := own_made ho2
      have hbel : Below w1.heap.size w1 w2 := (Below.refl w1.heap.size w1).grown hg2 (Nat.le_refl _) (by intro k hk; simp at hk)
      obtain ⟨g, hg⟩ : ∃ g, g = w1.heap.size := ⟨_, rfl⟩
      have HB : Hid (Below w1.heap.size w1 w2 ∧ Cells w2 g (List.replicate n 0)) := by rw [hg]; exact ⟨hbel, how.cells⟩
      have HG : Hid (w1.heap.size ≤ g) := by show _ ≤ _; omega
      rw [← hg]
      clear hg hbel how ho2 hg2
      go_wp2
      go_loopw [28] (fun t wr => ∃ (i : Nat) (zs : List Nat), i ≤ m ∧ t = .int .i64 i ∧ zs.length = n ∧ Cells wr g zs ∧ Below w1.heap.size w1 wr ∧ (∀ j, i + k ≤ j → zs.getD j 0 = 0) ∧ val zs = val X * low Y i) (fun t _ => m - (intOf t).toNat)
      case atStart => exact ⟨0, List.replicate n 0, Nat.zero_le _, rfl, by simp, HB.out.2, HB.out.1, fun j _ => by rw [List.getD_eq_getElem?_getD, List.getElem?_replicate]; split <;> rfl, by rw [low_zero, Nat.mul_zero]; exact val_zeros fun x hx => List.eq_of_mem_replicate hx⟩
      case round =>
        clear HB
        obtain ⟨i, zs, hin, rfl, hzl, hcs, hbel, hzero, hval⟩ := hrel
        have HZ : Hid (zs.length = n) := hzl
        have HV : Hid (val zs = val X * low Y i) := hval
        have HZZ : Hid (∀ j, i + k ≤ j → zs.getD j 0 = 0) := hzero
        clear hzl hval hzero
        by_cases hlt : i < m
        · have hlt' : (i : Int) < (m : Int) := by omega
          have hik : i + k ≤ n := by have := HNN.out; omega
          have hik2 : i + k < n := by have := HNN.out; omega
          obtain ⟨hby_, bo', dap', ey, _, _, _, cy⟩ := nv.open_
          simp only [Value.slice.injEq] at ey
          obtain ⟨rfl, hq1, rfl⟩ := ey
          obtain ⟨bb, bof, rfl, hy1⟩ := cy i (by rw [← HML.out]; exact hlt)
          have cyy : wr.cell? ⟨bb, bof + i, none⟩ = some (.int .u32 ((Y.getD i 0 : Nat) : Int)) := by rw [hbel.cell (p := ⟨bb, bof + i, none⟩) (block_lt_of_cell hy1)]; exact hy1
          have hy0 := limb_lt nv.1 i
          obtain ⟨y, hy⟩ : ∃ y, y = Y.getD i 0 := ⟨_, rfl⟩
          rw [← hy] at cyy hy0
          have HY : Hid (y = Y.getD i 0) := hy
          clear hy hq1 cy hy1
          go_wp2_with fail
          refine (addTimes_any _ X zs g i k (n - i) _ w1 _ nu HG.out hbel hcs (by rw [HZ.out, ← HKL.out]; exact hik) (by rw [← HKL.out]; omega) (by omega) (by omega) (by omega) (by omega)).mono ?_
          rintro e w3 ⟨zs', c, rfl, hc, hzl', hcs', hbel', hs', hinv'⟩
          rw [← HKL.out] at hs' hinv'
          rw [Int.toNat_natCast] at hinv'
          have HS' : Hid (∀ j, j < i ∨ i + k ≤ j → zs'.getD j 0 = zs.getD j 0) := hs'
          have HI' : Hid (low (zs'.drop i) k + 4294967296 ^ k * c = low (zs.drop i) k + val X * y) := hinv'
          have HZ' : Hid (zs'.length = zs.length) := hzl'
          obtain ⟨hcz, hfz⟩ := hcs'.cell (k := i + k) (by rw [HZ'.out, HZ.out]; exact hik2)
          obtain ⟨z, hz⟩ : ∃ z, z = zs'.getD (i + k) 0 := ⟨_, rfl⟩
          rw [← hz] at hcz
          have hset := hcs'.set (i + k) c hc
          have hbel2 := hbel'.setCell (p := ⟨g, i + k, none⟩) (by exact HG.out) (U c)
          rw [show U c = .int .u32 (c : Int) from rfl] at hset hbel2
          have HR : Hid (val (zs'.set (i + k) c) = val X * low Y (i + 1)) := by
            show _ = _
            rw [mul_step HZ'.out (by rw [HZ.out]; exact hik2) HZZ.out HS'.out HI'.out, HY.out]
            exact mul_row HV.out
          have HR2 : Hid (∀ j, i + 1 + k ≤ j → (zs'.set (i + k) c).getD j 0 = 0) := mul_zeros HZZ.out HS'.out
          clear hcs hbel hs' hinv' hzl' hcs' hbel' hz HI' HS'
          go_wp2
          go_roundw
          case rel => exact ⟨i + 1, _, by omega, by go_num, by rw [List.length_set, HZ'.out]; exact HZ.out, hset, hbel2, HR2.out, HR.out⟩
          case measure => simp [intOf]; omega
        · have hlt' : ¬ (i : Int) < (m : Int) := by omega
          have him : i = m := by omega
          have HF : Hid (val zs = val xs * val ys) := by
            show _ = _
            rw [HE.out, HV.out, him, low_all (by rw [← HML.out]; omega)]
          have how : Own w1.heap.size 69 wr (.slice (some ⟨g, 0, none⟩) n n) zs := by
            have := hcs.own HG.out (by rw [HZ.out]; omega)
            rw [HZ.out] at this
            exact this
          clear him hcs
          go_wp2_with fail
          refine (trim_any _ _ _ how.num).mono ?_
          rintro e w3 ⟨⟨k3, hk3, hk4, rfl⟩, rfl⟩
          have how2 := how.cut hk3
          rw [hk4, HF.out] at how2
          clear how hk4
          go_wp2
          go_ret
          exact ⟨_, rfl, how2, hbel⟩
end Go.Proofs.YtcmclmhfjmmffaaGreatDoor

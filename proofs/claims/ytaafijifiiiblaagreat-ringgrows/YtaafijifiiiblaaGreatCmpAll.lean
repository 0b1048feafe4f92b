/-
  Proved here: plain facts on the lowest limbs of a number, on carries and on the order of numbers. No condition.
  Proved here: what Cmp answers.
-/
import Derived.Test.YtaafijifiiiblaaGreatTrimAll
namespace Go.Proofs.YtaafijifiiiblaaGreat

/-- The number of the lowest i limbs. -/
def low (xs : List Nat) (i : Nat) : Nat := val (xs.take i)
theorem low_zero (xs : List Nat) : low xs 0 = 0 := rfl
theorem low_nil (i : Nat) : low [] i = 0 := by simp [low, val]
theorem low_cons (x : Nat) (r : List Nat) (i : Nat) : low (x :: r) (i + 1) = x + 4294967296 * low r i := rfl
theorem low_all {xs : List Nat} {i : Nat} (h : xs.length ≤ i) : low xs i = val xs := by rw [low, List.take_of_length_le h]
theorem low_succ : ∀ (xs : List Nat) (i : Nat), low xs (i + 1) = low xs i + 4294967296 ^ i * xs.getD i 0
  | [], i => by simp [low_nil]
  | x :: r, 0 => by simp [low, val]
  | x :: r, i + 1 => by
    rw [low_cons, low_cons, low_succ r i, List.getD_cons_succ, Nat.pow_succ, Nat.mul_add, Nat.mul_comm (4294967296 ^ i) 4294967296, Nat.mul_assoc, Nat.add_assoc]
theorem low_lt {xs : List Nat} (h : limbs xs) (i : Nat) : low xs i < 4294967296 ^ i := by
  have h1 := val_lt (limbs_take h i)
  refine Nat.lt_of_lt_of_le h1 (Nat.pow_le_pow_right (by decide) ?_)
  simp [List.length_take]; omega
theorem low_set_ge (zs : List Nat) (i k x : Nat) (h : i ≤ k) : low (zs.set k x) i = low zs i := by
  rw [low, low, List.take_set, List.set_eq_of_length_le (by simp [List.length_take]; omega)]
theorem getD_set_eq (l : List Nat) (k x : Nat) (h : k < l.length) : (l.set k x).getD k 0 = x := by simp [List.getD, h]
theorem getD_set_off (l : List Nat) (k q x : Nat) (h : q ≠ k) : (l.set k x).getD q 0 = l.getD q 0 := by
  simp only [List.getD_eq_getElem?_getD]
  rw [List.getElem?_set_ne (by omega)]
theorem low_set_succ (zs : List Nat) (i x : Nat) (h : i < zs.length) : low (zs.set i x) (i + 1) = low zs i + 4294967296 ^ i * x := by
  rw [low_succ, low_set_ge _ _ _ _ (Nat.le_refl _), getD_set_eq _ _ _ h]
theorem low_congr : ∀ {xs ys : List Nat} {i : Nat}, (∀ j, j < i → xs.getD j 0 = ys.getD j 0) → low xs i = low ys i
  | xs, ys, 0, _ => rfl
  | xs, ys, i + 1, h => by rw [low_succ, low_succ, low_congr (i := i) fun j hj => h j (by omega), h i (by omega)]
theorem carry_eq (P c : Nat) : P * (c % 4294967296) + P * 4294967296 * (c / 4294967296) = P * c := by
  rw [Nat.mul_assoc, ← Nat.mul_add, Nat.mod_add_div]
theorem getD_ge {xs : List Nat} {j : Nat} (h : xs.length ≤ j) : xs.getD j 0 = 0 := by rw [List.getD_eq_getElem?_getD, List.getElem?_eq_none h]; rfl

/-- One step of a sum. -/
theorem add_step {xs ys zs : List Nat} {i c : Nat} (hi : i < zs.length) (h : low zs i + 4294967296 ^ i * c = low xs i + low ys i) :
    low (zs.set i ((c + (xs.getD i 0 + ys.getD i 0)) % 4294967296)) (i + 1) + 4294967296 ^ (i + 1) * ((c + (xs.getD i 0 + ys.getD i 0)) / 4294967296) = low xs (i + 1) + low ys (i + 1) := by
  rw [low_set_succ _ _ _ hi, low_succ, low_succ, Nat.pow_succ]
  have := carry_eq (4294967296 ^ i) (c + (xs.getD i 0 + ys.getD i 0))
  rw [Nat.mul_add, Nat.mul_add] at this
  omega
/-- What is not carried is all. -/
theorem add_done {xs ys zs : List Nat} {n c : Nat} (hx : limbs xs) (hy : limbs ys) (hxn : xs.length < n) (hyn : ys.length < n) (hz : zs.length = n) (h : low zs n + 4294967296 ^ n * c = low xs n + low ys n) : val zs = val xs + val ys := by
  rw [low_all (by omega), low_all (by omega), low_all (by omega)] at h
  have h1 := val_lt hx
  have h2 := val_lt hy
  have h3 : 4294967296 ^ xs.length ≤ 4294967296 ^ (n - 1) := Nat.pow_le_pow_right (by decide) (by omega)
  have h4 : 4294967296 ^ ys.length ≤ 4294967296 ^ (n - 1) := Nat.pow_le_pow_right (by decide) (by omega)
  have h5 : 4294967296 ^ n = 4294967296 ^ (n - 1) * 4294967296 := by rw [← Nat.pow_succ]; congr 1; omega
  rcases Nat.eq_zero_or_pos c with hc | hc
  · subst hc; simpa using h
  · have : 4294967296 ^ n * 1 ≤ 4294967296 ^ n * c := Nat.mul_le_mul_left _ hc
    omega

theorem val_tail (xs : List Nat) : val xs = xs.getD 0 0 + 4294967296 * val xs.tail := by cases xs <;> simp [val]
theorem getD_tail (xs : List Nat) (j : Nat) : xs.tail.getD j 0 = xs.getD (j + 1) 0 := by cases xs <;> simp
theorem limbs_tail {xs : List Nat} (h : limbs xs) : limbs xs.tail := fun x hx => h x (List.mem_of_mem_tail hx)
theorem val_congr : ∀ (n : Nat) {xs ys : List Nat}, xs.length ≤ n → ys.length ≤ n → (∀ j, xs.getD j 0 = ys.getD j 0) → val xs = val ys
  | n, xs, ys, h1, h2, h => by
    rw [← low_all h1, ← low_all h2]
    exact low_congr fun j _ => h j
/-- The highest limb that differs tells. -/
theorem val_lt_top : ∀ (i : Nat) {xs ys : List Nat}, limbs xs → limbs ys → (∀ j, i < j → xs.getD j 0 = ys.getD j 0) → xs.getD i 0 < ys.getD i 0 → val xs < val ys
  | 0, xs, ys, hx, hy, h, hlt => by
    have e : val xs.tail = val ys.tail := val_congr (max xs.length ys.length) (by simp; omega) (by simp; omega) fun j => by rw [getD_tail, getD_tail]; exact h (j + 1) (by omega)
    rw [val_tail xs, val_tail ys, e]; omega
  | i + 1, xs, ys, hx, hy, h, hlt => by
    have := val_lt_top i (limbs_tail hx) (limbs_tail hy) (fun j hj => by rw [getD_tail, getD_tail]; exact h (j + 1) (by omega)) (by rw [getD_tail, getD_tail]; exact hlt)
    rw [val_tail xs, val_tail ys]
    have h0 := limb_lt hx 0
    omega
theorem lt_of_lim_len {a b : Nat} (h : (lim b).length < (lim a).length) : b < a := by
  rcases Nat.lt_or_ge b a with h1 | h1
  · exact h1
  · have h2 := lim_lt_of_len (k := (lim b).length) (n := b) (Nat.le_refl _)
    have := lim_len_le (Nat.lt_of_le_of_lt h1 h2)
    omega
/-- What Cmp tells. -/
def cmpN (a b : Nat) : Int := if a < b then -1 else if a = b then 0 else 1
theorem cmpN_lt {a b : Nat} (h : a < b) : cmpN a b = -1 := by simp [cmpN, h]
theorem cmpN_eq (a : Nat) : cmpN a a = 0 := by simp [cmpN]
theorem cmpN_gt {a b : Nat} (h : b < a) : cmpN a b = 1 := by unfold cmpN; rw [if_neg (by omega), if_neg (by omega)]
theorem cmpN_cases (a b : Nat) : (a < b ∧ cmpN a b = -1) ∨ (a = b ∧ cmpN a b = 0) ∨ (b < a ∧ cmpN a b = 1) := by
  rcases Nat.lt_trichotomy a b with h | h | h
  · exact Or.inl ⟨h, cmpN_lt h⟩
  · exact Or.inr (Or.inl ⟨h, by rw [h]; exact cmpN_eq b⟩)
  · exact Or.inr (Or.inr ⟨h, cmpN_gt h⟩)

/-- One step of a difference of products. -/
theorem blend_step {xs ys zs : List Nat} {i u v p m b d : Nat} (hi : i < zs.length)
    (h : low xs i * u + 4294967296 ^ i * (m + b) = low ys i * v + low zs i + 4294967296 ^ i * p) (b' : Nat)
    (hd : (p + xs.getD i 0 * u) % 4294967296 + 4294967296 * b' = (m + ys.getD i 0 * v) % 4294967296 + b + d) :
    low xs (i + 1) * u + 4294967296 ^ (i + 1) * ((m + ys.getD i 0 * v) / 4294967296 + b') = low ys (i + 1) * v + low (zs.set i d) (i + 1) + 4294967296 ^ (i + 1) * ((p + xs.getD i 0 * u) / 4294967296) := by
  rw [low_set_succ _ _ _ hi, low_succ, low_succ, Nat.pow_succ]
  generalize hP : 4294967296 ^ i = P at *
  generalize hX : xs.getD i 0 = x at *
  generalize hY : ys.getD i 0 = y at *
  have e1 := carry_eq P (p + x * u)
  have e2 := carry_eq P (m + y * v)
  have e3 : P * ((p + x * u) % 4294967296 + 4294967296 * b') = P * ((m + y * v) % 4294967296 + b + d) := by rw [hd]
  rw [Nat.mul_add, Nat.mul_add, Nat.mul_add] at e3
  rw [Nat.mul_add, ← Nat.mul_assoc P x u] at e1
  rw [Nat.mul_add, ← Nat.mul_assoc P y v] at e2
  rw [Nat.mul_add] at h
  rw [Nat.add_mul, Nat.add_mul, Nat.mul_add (P * 4294967296), Nat.mul_assoc P 4294967296 b']
  omega
theorem blend_done {xs ys zs : List Nat} {n u v p m b : Nat} (hz : limbs zs) (hzl : zs.length = n) (hxn : xs.length ≤ n) (hyn : ys.length ≤ n) (h1 : val ys * v ≤ val xs * u) (h2 : val xs * u - val ys * v < 4294967296 ^ n)
    (h : low xs n * u + 4294967296 ^ n * (m + b) = low ys n * v + low zs n + 4294967296 ^ n * p) : val zs = val xs * u - val ys * v := by
  rw [low_all hxn, low_all hyn, low_all (by omega)] at h
  have hz2 := val_lt hz
  rw [hzl] at hz2
  generalize 4294967296 ^ n = P at *
  have h3 : (val xs * u - val ys * v) + P * (m + b) = val zs + P * p := by omega
  have h4 : ((val xs * u - val ys * v) + P * (m + b)) % P = (val zs + P * p) % P := by rw [h3]
  rw [Nat.add_mul_mod_self_left, Nat.add_mul_mod_self_left, Nat.mod_eq_of_lt h2, Nat.mod_eq_of_lt hz2] at h4
  exact h4.symm

/-- One step of a row of a product. -/
theorem times_step {zs s : List Nat} {xs : List Nat} {i by_ c : Nat} (hi : i < zs.length) (h : low zs i + 4294967296 ^ i * c = low s i + low xs i * by_) (hs : zs.getD i 0 = s.getD i 0) :
    low (zs.set i ((c + (xs.getD i 0 * by_ + zs.getD i 0)) % 4294967296)) (i + 1) + 4294967296 ^ (i + 1) * ((c + (xs.getD i 0 * by_ + zs.getD i 0)) / 4294967296) = low s (i + 1) + low xs (i + 1) * by_ := by
  rw [low_set_succ _ _ _ hi, low_succ, low_succ, Nat.pow_succ, hs]
  have := carry_eq (4294967296 ^ i) (c + (xs.getD i 0 * by_ + s.getD i 0))
  rw [Nat.mul_add, Nat.mul_add, ← Nat.mul_assoc] at this
  rw [Nat.add_mul]
  omega
theorem val_split (zs : List Nat) (k : Nat) (h : k ≤ zs.length) : val zs = low zs k + 4294967296 ^ k * val (zs.drop k) := by
  conv => lhs; rw [← List.take_append_drop k zs, val_append]
  rw [List.length_take, Nat.min_eq_left h]; rfl
theorem drop_set_add (zs : List Nat) (off i x : Nat) : (zs.set (off + i) x).drop off = (zs.drop off).set i x := by
  rw [List.drop_set, if_neg (by omega)]
  congr 1; omega
theorem getD_drop (zs : List Nat) (off i : Nat) : (zs.drop off).getD i 0 = zs.getD (off + i) 0 := by
  rw [List.getD_eq_getElem?_getD, List.getD_eq_getElem?_getD, List.getElem?_drop]
end Go.Proofs.YtaafijifiiiblaaGreat

namespace Go.Proofs.YtaafijifiiiblaaGreat
open Go.RowKit

theorem side_t (w : World) : Calls Tryz.prog 143 #[.bool true] w fun e w' => e = .returned (.int .i64 1) ∧ w' = w := by
  go_enter Tryz.func143, Tryz.ntmps143
  go_wp2
  go_ret
  exact ⟨rfl, rfl⟩
theorem side_f (w : World) : Calls Tryz.prog 143 #[.bool false] w fun e w' => e = .returned (.int .i64 (-1)) ∧ w' = w := by
  go_enter Tryz.func143, Tryz.ntmps143
  go_wp2
  go_ret
  exact ⟨rfl, rfl⟩

theorem Num.ao {w : World} {v : Value} {xs : List Nat} (h : Num w v xs) : ∃ ao cap, v = .slice ao xs.length cap ∧ xs.length ≤ cap ∧ cap ≤ 9223372036854775807 := by
  obtain ⟨_, ao, cap, h1, h2, h3, _⟩ := h
  exact ⟨ao, cap, h1, h2, h3⟩

set_option maxRecDepth 100000 in
set_option maxHeartbeats 1600000 in
theorem cmp_any (u v : Value) (xs ys : List Nat) (w : World) (hu : Num w u xs) (hv : Num w v ys) :
    Calls Tryz.prog 121 #[u, v] w fun e w' => e = .returned (.int .i64 (cmpN (val xs) (val ys))) ∧ ∃ q, w' = w.drewN q := by
  obtain ⟨ao, cap, rfl, hl1, hm1⟩ := hu.ao
  obtain ⟨bo, dap, rfl, hl2, hm2⟩ := hv.ao
  go_enter Tryz.func121, Tryz.ntmps121
  go_wp2_with fail
  refine (trim_any _ _ _ hu).mono ?_
  rintro e w1 ⟨⟨k, hk, hk2, rfl⟩, rfl⟩
  go_wp2_with fail
  refine (trim_any _ _ _ hv).mono ?_
  rintro e w1 ⟨⟨m, hm, hm3, rfl⟩, rfl⟩
  simp only [cutTo]
  have hkl : k = (lim (val xs)).length := by rw [← hk2, List.length_take, Nat.min_eq_left hk]
  have hml : m = (lim (val ys)).length := by rw [← hm3, List.length_take, Nat.min_eq_left hm]
  have nu := hu.cut hk
  have nv := hv.cut hm
  rw [hk2] at nu
  rw [hm3] at nv
  simp only [cutTo] at nu nv
  have hle1 : k ≤ 9223372036854775807 := by omega
  have hle2 : m ≤ 9223372036854775807 := by omega
  clear hu hv hk2 hm3
  by_cases hkm : k = m
  · have hne : ((k : Int) != (m : Int)) = false := by simp [hkm]
    have HKM : Hid (k = m) := hkm
    obtain ⟨bx, aox, capx, ex, hcx, _, _, cx⟩ := nu.open_
    obtain ⟨by_, aoy, capy, ey, hcy, _, _, cy⟩ := nv.open_
    simp only [Value.slice.injEq] at ex ey
    obtain ⟨rfl, hq1, rfl⟩ := ex
    obtain ⟨rfl, hq2, rfl⟩ := ey
    clear hq1 hq2
    generalize hX : lim (val xs) = X at *
    generalize hY : lim (val ys) = Y at *
    have HVX : Hid (val xs = val X) := by show _ = _; rw [← hX, val_lim]
    have HVY : Hid (val ys = val Y) := by show _ = _; rw [← hY, val_lim]
    have HKL : Hid (k = X.length) := hkl
    have HML : Hid (m = Y.length) := hml
    clear hX hY hkl hml hkm nu nv hk hm
    go_wp2
    go_loopw [5] (fun t wr => ∃ i : Nat, i ≤ k ∧ t = .int .i64 ((i : Int) - 1) ∧ (∀ j, i ≤ j → X.getD j 0 = Y.getD j 0) ∧ ∃ q, wr = w1.drewN q) (fun t _ => (intOf t + 1).toNat)
    case atStart => exact ⟨k, Nat.le_refl _, rfl, fun j hj => by rw [getD_ge (by have := HKL.out; omega), getD_ge (by have := HML.out; have := HKM.out; omega)], 0, rfl⟩
    case round =>
      obtain ⟨i, hi, rfl, hz, q, hq⟩ := hrel
      have HZ : Hid (∀ j, i ≤ j → X.getD j 0 = Y.getD j 0) := hz
      have HQ : Hid (wr = w1.drewN q) := hq
      have hhp : wr.heap = w1.heap := by rw [hq, heap_drewN]
      clear hz hq
      by_cases hi0 : 0 < i
      · have hge : (0 : Int) ≤ (i : Int) - 1 := by omega
        obtain ⟨b, off, rfl, hcx0⟩ := cx (i - 1) (by have := HKL.out; omega)
        obtain ⟨b', off', rfl, hcy0⟩ := cy (i - 1) (by have := HML.out; have := HKM.out; omega)
        have c0 : wr.cell? ⟨b, off + (i - 1), none⟩ = some (.int .u32 ((X.getD (i - 1) 0 : Nat) : Int)) := by rw [← hcx0]; exact World.cell?_of_block (by rw [hhp])
        have c1 : wr.cell? ⟨b', off' + (i - 1), none⟩ = some (.int .u32 ((Y.getD (i - 1) 0 : Nat) : Int)) := by rw [← hcy0]; exact World.cell?_of_block (by rw [hhp])
        obtain ⟨x, hx⟩ : ∃ x, x = X.getD (i - 1) 0 := ⟨_, rfl⟩
        obtain ⟨y, hy⟩ : ∃ y, y = Y.getD (i - 1) 0 := ⟨_, rfl⟩
        rw [← hx] at c0
        rw [← hy] at c1
        have HX : Hid (x = X.getD (i - 1) 0) := hx
        have HY : Hid (y = Y.getD (i - 1) 0) := hy
        have him : i ≤ m := by have := HKM.out; omega
        clear hx hy cx cy hcx0 hcy0 hhp
        by_cases hxy : x = y
        · have hne2 : ((x : Int) != (y : Int)) = false := by simp [hxy]
          have HXY : Hid (x = y) := hxy
          clear hxy
          go_wp2
          go_quiet (fail)
          go_wp2
          go_roundw
          case rel =>
            refine ⟨i - 1, by omega, by congr 1; omega, fun j hj => ?_, _, by rw [HQ.out, World.drewN_drewN]⟩
            by_cases hj2 : j = i - 1
            · rw [hj2, ← HX.out, ← HY.out]; exact HXY.out
            · exact HZ.out j (by omega)
          case measure => simp [intOf]; omega
        · have hne2 : ((x : Int) != (y : Int)) = true := by simp; omega
          have top : ∀ j, i - 1 < j → X.getD j 0 = Y.getD j 0 := fun j hj => HZ.out j (by omega)
          by_cases hlt : x < y
          · have hgd : decide (y < x) = false := by simp; omega
            have HR : Hid (cmpN (val xs) (val ys) = -1) := by
              show _ = _
              rw [HVX.out, HVY.out]
              exact cmpN_lt (val_lt_top (i - 1) bx by_ top (by rw [← HX.out, ← HY.out]; exact hlt))
            clear hxy hlt top HZ
            go_wp2
            go_quiet (fail)
            go_wp2
            have d0 : (wr.drewN nq).cell? ⟨b, off + (i - 1), none⟩ = some (.int .u32 (x : Int)) := by rw [← c0]; exact World.cell?_of_block (by rw [heap_drewN])
            have d1 : (wr.drewN nq).cell? ⟨b', off' + (i - 1), none⟩ = some (.int .u32 (y : Int)) := by rw [← c1]; exact World.cell?_of_block (by rw [heap_drewN])
            have HW : Hid (wr.drewN nq = w1.drewN (q + nq)) := by show _ = _; rw [HQ.out, World.drewN_drewN]
            clear c0 c1
            generalize wr.drewN nq = W at *
            go_quiet ((go_at_call 143; exact Calls.quiet_of_same (side_f _)))
            go_wp2
            go_ret
            exact ⟨by rw [HR.out]; rfl, _, by rw [HW.out, World.drewN_drewN]⟩
          · have hgd : decide (y < x) = true := by simp; omega
            have HR : Hid (cmpN (val xs) (val ys) = 1) := by
              show _ = _
              rw [HVX.out, HVY.out]
              exact cmpN_gt (val_lt_top (i - 1) by_ bx (fun j hj => (top j hj).symm) (by rw [← HX.out, ← HY.out]; omega))
            clear hxy hlt top HZ
            go_wp2
            go_quiet (fail)
            go_wp2
            have d0 : (wr.drewN nq).cell? ⟨b, off + (i - 1), none⟩ = some (.int .u32 (x : Int)) := by rw [← c0]; exact World.cell?_of_block (by rw [heap_drewN])
            have d1 : (wr.drewN nq).cell? ⟨b', off' + (i - 1), none⟩ = some (.int .u32 (y : Int)) := by rw [← c1]; exact World.cell?_of_block (by rw [heap_drewN])
            have HW : Hid (wr.drewN nq = w1.drewN (q + nq)) := by show _ = _; rw [HQ.out, World.drewN_drewN]
            clear c0 c1
            generalize wr.drewN nq = W at *
            go_quiet ((go_at_call 143; exact Calls.quiet_of_same (side_t _)))
            go_wp2
            go_ret
            exact ⟨by rw [HR.out]; rfl, _, by rw [HW.out, World.drewN_drewN]⟩
      · have hi1 : i = 0 := by omega
        subst hi1
        have HR : Hid (cmpN (val xs) (val ys) = 0) := by
          show _ = _
          rw [HVX.out, HVY.out, val_congr k (by have := HKL.out; omega) (by have := HML.out; have := HKM.out; omega) (fun j => HZ.out j (by omega))]
          exact cmpN_eq _
        clear cx cy hhp
        go_wp2
        go_ret
        exact ⟨by rw [HR.out]; rfl, q, HQ.out⟩
  · have hne : ((k : Int) != (m : Int)) = true := by simp; omega
    by_cases hlt : k < m
    · have hgd : decide (m < k) = false := by simp; omega
      have HR : Hid (cmpN (val xs) (val ys) = -1) := cmpN_lt (lt_of_lim_len (by omega))
      clear hkl hml hkm nu nv hlt
      go_wp2_with fail
      refine (side_f _).mono ?_
      rintro e w2 ⟨rfl, rfl⟩
      go_wp2
      go_ret
      exact ⟨by rw [HR.out]; rfl, 0, rfl⟩
    · have hgd : decide (m < k) = true := by simp; omega
      have HR : Hid (cmpN (val xs) (val ys) = 1) := cmpN_gt (lt_of_lim_len (by omega))
      clear hkl hml hkm nu nv hlt
      go_wp2_with fail
      refine (side_t _).mono ?_
      rintro e w2 ⟨rfl, rfl⟩
      go_wp2
      go_ret
      exact ⟨by rw [HR.out]; rfl, 0, rfl⟩
end Go.Proofs.YtaafijifiiiblaaGreat

/-
  Proved here: plain facts on the lowest limbs of a number, on carries and on the order of numbers. No condition.
-/
import Derived.Test.YtlemnbegblpllaaDoorMath
namespace Go.Proofs.YtlemnbegblpllaaDoor

/-- The number of the lowest i limbs. -/
def low (xs : List Nat) (i : Nat) : Nat := val (xs.take i)
theorem low_zero (xs : List Nat) : low xs 0 = 0 := rfl
theorem low_nil (i : Nat) : low [] i = 0 := by simp [low, val]
theorem low_cons (x : Nat) (r : List Nat) (i : Nat) : low (x :: r) (i + 1) = x + 4294967296 * low r i := rfl
theorem low_all {xs : List Nat} {i : Nat} (h : xs.length ≤ i) : low xs i = val xs := by rw [low, List.take_of_length_le h]
theorem low_succ : ∀ (xs : List Nat) (i : Nat), low xs (i + 1) = low xs i + 4294967296 ^ i * xs.getD i 0
  | [], i => by simp [low_nil]
  | x :: r, 0 => by simp [low, val]
  | x :: r, i + 1 => by
    rw [low_cons, low_cons, low_succ r i, List.getD_cons_succ, Nat.pow_succ, Nat.mul_add, Nat.mul_comm (4294967296 ^ i) 4294967296, Nat.mul_assoc, Nat.add_assoc]
theorem low_lt {xs : List Nat} (h : limbs xs) (i : Nat) : low xs i < 4294967296 ^ i := by
  have h1 := val_lt (limbs_take h i)
  refine Nat.lt_of_lt_of_le h1 (Nat.pow_le_pow_right (by decide) ?_)
  simp [List.length_take]; omega
theorem low_set_ge (zs : List Nat) (i k x : Nat) (h : i ≤ k) : low (zs.set k x) i = low zs i := by
  rw [low, low, List.take_set, List.set_eq_of_length_le (by simp [List.length_take]; omega)]
theorem getD_set_eq (l : List Nat) (k x : Nat) (h : k < l.length) : (l.set k x).getD k 0 = x := by simp [List.getD, h]
theorem getD_set_off (l : List Nat) (k q x : Nat) (h : q ≠ k) : (l.set k x).getD q 0 = l.getD q 0 := by
  simp only [List.getD_eq_getElem?_getD]
  rw [List.getElem?_set_ne (by omega)]
theorem low_set_succ (zs : List Nat) (i x : Nat) (h : i < zs.length) : low (zs.set i x) (i + 1) = low zs i + 4294967296 ^ i * x := by
  rw [low_succ, low_set_ge _ _ _ _ (Nat.le_refl _), getD_set_eq _ _ _ h]
theorem low_congr : ∀ {xs ys : List Nat} {i : Nat}, (∀ j, j < i → xs.getD j 0 = ys.getD j 0) → low xs i = low ys i
  | xs, ys, 0, _ => rfl
  | xs, ys, i + 1, h => by rw [low_succ, low_succ, low_congr (i := i) fun j hj => h j (by omega), h i (by omega)]
theorem carry_eq (P c : Nat) : P * (c % 4294967296) + P * 4294967296 * (c / 4294967296) = P * c := by
  rw [Nat.mul_assoc, ← Nat.mul_add, Nat.mod_add_div]
theorem getD_ge {xs : List Nat} {j : Nat} (h : xs.length ≤ j) : xs.getD j 0 = 0 := by rw [List.getD_eq_getElem?_getD, List.getElem?_eq_none h]; rfl

/-- One step of a sum. -/
theorem add_step {xs ys zs : List Nat} {i c : Nat} (hi : i < zs.length) (h : low zs i + 4294967296 ^ i * c = low xs i + low ys i) :
    low (zs.set i ((c + (xs.getD i 0 + ys.getD i 0)) % 4294967296)) (i + 1) + 4294967296 ^ (i + 1) * ((c + (xs.getD i 0 + ys.getD i 0)) / 4294967296) = low xs (i + 1) + low ys (i + 1) := by
  rw [low_set_succ _ _ _ hi, low_succ, low_succ, Nat.pow_succ]
  have := carry_eq (4294967296 ^ i) (c + (xs.getD i 0 + ys.getD i 0))
  rw [Nat.mul_add, Nat.mul_add] at this
  omega
/-- What is not carried is all. -/
theorem add_done {xs ys zs : List Nat} {n c : Nat} (hx : limbs xs) (hy : limbs ys) (hxn : xs.length < n) (hyn : ys.length < n) (hz : zs.length = n) (h : low zs n + 4294967296 ^ n * c = low xs n + low ys n) : val zs = val xs + val ys := by
  rw [low_all (by omega), low_all (by omega), low_all (by omega)] at h
  have h1 := val_lt hx
  have h2 := val_lt hy
  have h3 : 4294967296 ^ xs.length ≤ 4294967296 ^ (n - 1) := Nat.pow_le_pow_right (by decide) (by omega)
  have h4 : 4294967296 ^ ys.length ≤ 4294967296 ^ (n - 1) := Nat.pow_le_pow_right (by decide) (by omega)
  have h5 : 4294967296 ^ n = 4294967296 ^ (n - 1) * 4294967296 := by rw [← Nat.pow_succ]; congr 1; omega
  rcases Nat.eq_zero_or_pos c with hc | hc
  · subst hc; simpa using h
  · have : 4294967296 ^ n * 1 ≤ 4294967296 ^ n * c := Nat.mul_le_mul_left _ hc
    omega

theorem val_tail (xs : List Nat) : val xs = xs.getD 0 0 + 4294967296 * val xs.tail := by cases xs <;> simp [val]
theorem getD_tail (xs : List Nat) (j : Nat) : xs.tail.getD j 0 = xs.getD (j + 1) 0 := by cases xs <;> simp
theorem limbs_tail {xs : List Nat} (h : limbs xs) : limbs xs.tail := fun x hx => h x (List.mem_of_mem_tail hx)
theorem val_congr : ∀ (n : Nat) {xs ys : List Nat}, xs.length ≤ n → ys.length ≤ n → (∀ j, xs.getD j 0 = ys.getD j 0) → val xs = val ys
  | n, xs, ys, h1, h2, h => by
    rw [← low_all h1, ← low_all h2]
    exact low_congr fun j _ => h j
/-- The highest limb that differs tells. -/
theorem val_lt_top : ∀ (i : Nat) {xs ys : List Nat}, limbs xs → limbs ys → (∀ j, i < j → xs.getD j 0 = ys.getD j 0) → xs.getD i 0 < ys.getD i 0 → val xs < val ys
  | 0, xs, ys, hx, hy, h, hlt => by
    have e : val xs.tail = val ys.tail := val_congr (max xs.length ys.length) (by simp; omega) (by simp; omega) fun j => by rw [getD_tail, getD_tail]; exact h (j + 1) (by omega)
    rw [val_tail xs, val_tail ys, e]; omega
  | i + 1, xs, ys, hx, hy, h, hlt => by
    have := val_lt_top i (limbs_tail hx) (limbs_tail hy) (fun j hj => by rw [getD_tail, getD_tail]; exact h (j + 1) (by omega)) (by rw [getD_tail, getD_tail]; exact hlt)
    rw [val_tail xs, val_tail ys]
    have h0 := limb_lt hx 0
    omega
theorem lt_of_lim_len {a b : Nat} (h : (lim b).length < (lim a).length) : b < a := by
  rcases Nat.lt_or_ge b a with h1 | h1
  · exact h1
  · have h2 := lim_lt_of_len (k := (lim b).length) (n := b) (Nat.le_refl _)
    have := lim_len_le (Nat.lt_of_le_of_lt h1 h2)
    omega
/-- What Cmp tells. -/
def cmpN (a b : Nat) : Int := if a < b then -1 else if a = b then 0 else 1
theorem cmpN_lt {a b : Nat} (h : a < b) : cmpN a b = -1 := by simp [cmpN, h]
theorem cmpN_eq (a : Nat) : cmpN a a = 0 := by simp [cmpN]
theorem cmpN_gt {a b : Nat} (h : b < a) : cmpN a b = 1 := by unfold cmpN; rw [if_neg (by omega), if_neg (by omega)]
theorem cmpN_cases (a b : Nat) : (a < b ∧ cmpN a b = -1) ∨ (a = b ∧ cmpN a b = 0) ∨ (b < a ∧ cmpN a b = 1) := by
  rcases Nat.lt_trichotomy a b with h | h | h
  · exact Or.inl ⟨h, cmpN_lt h⟩
  · exact Or.inr (Or.inl ⟨h, by rw [h]; exact cmpN_eq b⟩)
  · exact Or.inr (Or.inr ⟨h, cmpN_gt h⟩)

/-- One step of a difference of products. -/
theorem blend_step {xs ys zs : List Nat} {i u v p m b d : Nat} (hi : i < zs.length)
    (h : low xs i * u + 4294967296 ^ i * (m + b) = low ys i * v + low zs i + 4294967296 ^ i * p) (b' : Nat)
    (hd : (p + xs.getD i 0 * u) % 4294967296 + 4294967296 * b' = (m + ys.getD i 0 * v) % 4294967296 + b + d) :
    low xs (i + 1) * u + 4294967296 ^ (i + 1) * ((m + ys.getD i 0 * v) / 4294967296 + b') = low ys (i + 1) * v + low (zs.set i d) (i + 1) + 4294967296 ^ (i + 1) * ((p + xs.getD i 0 * u) / 4294967296) := by
  rw [low_set_succ _ _ _ hi, low_succ, low_succ, Nat.pow_succ]
  generalize hP : 4294967296 ^ i = P at *
  generalize hX : xs.getD i 0 = x at *
  generalize hY : ys.getD i 0 = y at *
  have e1 := carry_eq P (p + x * u)
  have e2 := carry_eq P (m + y * v)
  have e3 : P * ((p + x * u) % 4294967296 + 4294967296 * b') = P * ((m + y * v) % 4294967296 + b + d) := by rw [hd]
  rw [Nat.mul_add, Nat.mul_add, Nat.mul_add] at e3
  rw [Nat.mul_add, ← Nat.mul_assoc P x u] at e1
  rw [Nat.mul_add, ← Nat.mul_assoc P y v] at e2
  rw [Nat.mul_add] at h
  rw [Nat.add_mul, Nat.add_mul, Nat.mul_add (P * 4294967296), Nat.mul_assoc P 4294967296 b']
  omega
theorem blend_done {xs ys zs : List Nat} {n u v p m b : Nat} (hz : limbs zs) (hzl : zs.length = n) (hxn : xs.length ≤ n) (hyn : ys.length ≤ n) (h1 : val ys * v ≤ val xs * u) (h2 : val xs * u - val ys * v < 4294967296 ^ n)
    (h : low xs n * u + 4294967296 ^ n * (m + b) = low ys n * v + low zs n + 4294967296 ^ n * p) : val zs = val xs * u - val ys * v := by
  rw [low_all hxn, low_all hyn, low_all (by omega)] at h
  have hz2 := val_lt hz
  rw [hzl] at hz2
  generalize 4294967296 ^ n = P at *
  have h3 : (val xs * u - val ys * v) + P * (m + b) = val zs + P * p := by omega
  have h4 : ((val xs * u - val ys * v) + P * (m + b)) % P = (val zs + P * p) % P := by rw [h3]
  rw [Nat.add_mul_mod_self_left, Nat.add_mul_mod_self_left, Nat.mod_eq_of_lt h2, Nat.mod_eq_of_lt hz2] at h4
  exact h4.symm

/-- One step of a row of a product. -/
theorem times_step {zs s : List Nat} {xs : List Nat} {i by_ c : Nat} (hi : i < zs.length) (h : low zs i + 4294967296 ^ i * c = low s i + low xs i * by_) (hs : zs.getD i 0 = s.getD i 0) :
    low (zs.set i ((c + (xs.getD i 0 * by_ + zs.getD i 0)) % 4294967296)) (i + 1) + 4294967296 ^ (i + 1) * ((c + (xs.getD i 0 * by_ + zs.getD i 0)) / 4294967296) = low s (i + 1) + low xs (i + 1) * by_ := by
  rw [low_set_succ _ _ _ hi, low_succ, low_succ, Nat.pow_succ, hs]
  have := carry_eq (4294967296 ^ i) (c + (xs.getD i 0 * by_ + s.getD i 0))
  rw [Nat.mul_add, Nat.mul_add, ← Nat.mul_assoc] at this
  rw [Nat.add_mul]
  omega
theorem val_split (zs : List Nat) (k : Nat) (h : k ≤ zs.length) : val zs = low zs k + 4294967296 ^ k * val (zs.drop k) := by
  conv => lhs; rw [← List.take_append_drop k zs, val_append]
  rw [List.length_take, Nat.min_eq_left h]; rfl
theorem drop_set_add (zs : List Nat) (off i x : Nat) : (zs.set (off + i) x).drop off = (zs.drop off).set i x := by
  rw [List.drop_set, if_neg (by omega)]
  congr 1; omega
theorem getD_drop (zs : List Nat) (off i : Nat) : (zs.drop off).getD i 0 = zs.getD (off + i) 0 := by
  rw [List.getD_eq_getElem?_getD, List.getD_eq_getElem?_getD, List.getElem?_drop]
end Go.Proofs.YtlemnbegblpllaaDoor

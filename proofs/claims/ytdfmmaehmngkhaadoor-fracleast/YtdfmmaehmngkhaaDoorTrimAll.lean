/-
  Proved here: plain facts on the lowest limbs of a number, on carries and on the order of numbers. No condition.
  Proved here: what stays as it was while numbers are gone on with, one by one.
  Proved here: what the small readers of a number's limbs answer.
-/
import Derived.Test.YtdfmmaehmngkhaaDoorMemAll
import Derived.Test.YtdfmmaehmngkhaaDoorFamAll
import Derived.Test.YtdfmmaehmngkhaaDoorRows
import Derived.WalkKit
import Derived.WalkSpells
import Derived.WalkLawsBesides
import Derived.Below
import Derived.BigQuiet
namespace Go.Proofs.YtdfmmaehmngkhaaDoor

/-- The number of the lowest i limbs. -/
def low (xs : List Nat) (i : Nat) : Nat := val (xs.take i)
theorem low_zero (xs : List Nat) : low xs 0 = 0 := rfl
theorem low_nil (i : Nat) : low [] i = 0 := by simp [low, val]
theorem low_cons (x : Nat) (r : List Nat) (i : Nat) : low (x :: r) (i + 1) = x + 4294967296 * low r i := rfl
theorem low_all {xs : List Nat} {i : Nat} (h : xs.length ≤ i) : low xs i = val xs := by rw [low, List.take_of_length_le h]
theorem low_succ : ∀ (xs : List Nat) (i : Nat), low xs (i + 1) = low xs i + 4294967296 ^ i * xs.getD i 0
  | [], i => by simp [low_nil]
  | x :: r, 0 => by simp [low, val]
  | x :: r, i + 1 => by
    rw [low_cons, low_cons, low_succ r i, List.getD_cons_succ, Nat.pow_succ, Nat.mul_add, Nat.mul_comm (4294967296 ^ i) 4294967296, Nat.mul_assoc, Nat.add_assoc]
theorem low_lt {xs : List Nat} (h : limbs xs) (i : Nat) : low xs i < 4294967296 ^ i := by
  have h1 := val_lt (limbs_take h i)
  refine Nat.lt_of_lt_of_le h1 (Nat.pow_le_pow_right (by decide) ?_)
  simp [List.length_take]; omega
theorem low_set_ge (zs : List Nat) (i k x : Nat) (h : i ≤ k) : low (zs.set k x) i = low zs i := by
  rw [low, low, List.take_set, List.set_eq_of_length_le (by simp [List.length_take]; omega)]
theorem getD_set_eq (l : List Nat) (k x : Nat) (h : k < l.length) : (l.set k x).getD k 0 = x := by simp [List.getD, h]
theorem getD_set_off (l : List Nat) (k q x : Nat) (h : q ≠ k) : (l.set k x).getD q 0 = l.getD q 0 := by
  simp only [List.getD_eq_getElem?_getD]
  rw [List.getElem?_set_ne (by omega)]
theorem low_set_succ (zs : List Nat) (i x : Nat) (h : i < zs.length) : low (zs.set i x) (i + 1) = low zs i + 4294967296 ^ i * x := by
  rw [low_succ, low_set_ge _ _ _ _ (Nat.le_refl _), getD_set_eq _ _ _ h]
theorem low_congr : ∀ {xs ys : List Nat} {i : Nat}, (∀ j, j < i → xs.getD j 0 = ys.getD j 0) → low xs i = low ys i
  | xs, ys, 0, _ => rfl
  | xs, ys, i + 1, h => by rw [low_succ, low_succ, low_congr (i := i) fun j hj => h j (by omega), h i (by omega)]
theorem carry_eq (P c : Nat) : P * (c % 4294967296) + P * 4294967296 * (c / 4294967296) = P * c := by
  rw [Nat.mul_assoc, ← Nat.mul_add, Nat.mod_add_div]
theorem getD_ge {xs : List Nat} {j : Nat} (h : xs.length ≤ j) : xs.getD j 0 = 0 := by rw [List.getD_eq_getElem?_getD, List.getElem?_eq_none h]; rfl

/-- One step of a sum. -/
theorem add_step {xs ys zs : List Nat} {i c : Nat} (hi : i < zs.length) (h : low zs i + 4294967296 ^ i * c = low xs i + low ys i) :
    low (zs.set i ((c + (xs.getD i 0 + ys.getD i 0)) % 4294967296)) (i + 1) + 4294967296 ^ (i + 1) * ((c + (xs.getD i 0 + ys.getD i 0)) / 4294967296) = low xs (i + 1) + low ys (i + 1) := by
  rw [low_set_succ _ _ _ hi, low_succ, low_succ, Nat.pow_succ]
  have := carry_eq (4294967296 ^ i) (c + (xs.getD i 0 + ys.getD i 0))
  rw [Nat.mul_add, Nat.mul_add] at this
  omega
/-- What is not carried is all. -/
theorem add_done {xs ys zs : List Nat} {n c : Nat} (hx : limbs xs) (hy : limbs ys) (hxn : xs.length < n) (hyn : ys.length < n) (hz : zs.length = n) (h : low zs n + 4294967296 ^ n * c = low xs n + low ys n) : val zs = val xs + val ys := by
  rw [low_all (by omega), low_all (by omega), low_all (by omega)] at h
  have h1 := val_lt hx
  have h2 := val_lt hy
  have h3 : 4294967296 ^ xs.length ≤ 4294967296 ^ (n - 1) := Nat.pow_le_pow_right (by decide) (by omega)
  have h4 : 4294967296 ^ ys.length ≤ 4294967296 ^ (n - 1) := Nat.pow_le_pow_right (by decide) (by omega)
  have h5 : 4294967296 ^ n = 4294967296 ^ (n - 1) * 4294967296 := by rw [← Nat.pow_succ]; congr 1; omega
  rcases Nat.eq_zero_or_pos c with hc | hc
  · subst hc; simpa using h
  · have : 4294967296 ^ n * 1 ≤ 4294967296 ^ n * c := Nat.mul_le_mul_left _ hc
    omega

theorem val_tail (xs : List Nat) : val xs = xs.getD 0 0 + 4294967296 * val xs.tail := by cases xs <;> simp [val]
theorem getD_tail (xs : List Nat) (j : Nat) : xs.tail.getD j 0 = xs.getD (j + 1) 0 := by cases xs <;> simp
theorem limbs_tail {xs : List Nat} (h : limbs xs) : limbs xs.tail := fun x hx => h x (List.mem_of_mem_tail hx)
theorem val_congr : ∀ (n : Nat) {xs ys : List Nat}, xs.length ≤ n → ys.length ≤ n → (∀ j, xs.getD j 0 = ys.getD j 0) → val xs = val ys
  | n, xs, ys, h1, h2, h => by
    rw [← low_all h1, ← low_all h2]
    exact low_congr fun j _ => h j
/-- The highest limb that differs tells. -/
theorem val_lt_top : ∀ (i : Nat) {xs ys : List Nat}, limbs xs → limbs ys → (∀ j, i < j → xs.getD j 0 = ys.getD j 0) → xs.getD i 0 < ys.getD i 0 → val xs < val ys
  | 0, xs, ys, hx, hy, h, hlt => by
    have e : val xs.tail = val ys.tail := val_congr (max xs.length ys.length) (by simp; omega) (by simp; omega) fun j => by rw [getD_tail, getD_tail]; exact h (j + 1) (by omega)
    rw [val_tail xs, val_tail ys, e]; omega
  | i + 1, xs, ys, hx, hy, h, hlt => by
    have := val_lt_top i (limbs_tail hx) (limbs_tail hy) (fun j hj => by rw [getD_tail, getD_tail]; exact h (j + 1) (by omega)) (by rw [getD_tail, getD_tail]; exact hlt)
    rw [val_tail xs, val_tail ys]
    have h0 := limb_lt hx 0
    omega
theorem lt_of_lim_len {a b : Nat} (h : (lim b).length < (lim a).length) : b < a := by
  rcases Nat.lt_or_ge b a with h1 | h1
  · exact h1
  · have h2 := lim_lt_of_len (k := (lim b).length) (n := b) (Nat.le_refl _)
    have := lim_len_le (Nat.lt_of_le_of_lt h1 h2)
    omega
/-- What Cmp tells. -/
def cmpN (a b : Nat) : Int := if a < b then -1 else if a = b then 0 else 1
theorem cmpN_lt {a b : Nat} (h : a < b) : cmpN a b = -1 := by simp [cmpN, h]
theorem cmpN_eq (a : Nat) : cmpN a a = 0 := by simp [cmpN]
theorem cmpN_gt {a b : Nat} (h : b < a) : cmpN a b = 1 := by unfold cmpN; rw [if_neg (by omega), if_neg (by omega)]
theorem cmpN_cases (a b : Nat) : (a < b ∧ cmpN a b = -1) ∨ (a = b ∧ cmpN a b = 0) ∨ (b < a ∧ cmpN a b = 1) := by
  rcases Nat.lt_trichotomy a b with h | h | h
  · exact Or.inl ⟨h, cmpN_lt h⟩
  · exact Or.inr (Or.inl ⟨h, by rw [h]; exact cmpN_eq b⟩)
  · exact Or.inr (Or.inr ⟨h, cmpN_gt h⟩)

/-- One step of a difference of products. -/
theorem blend_step {xs ys zs : List Nat} {i u v p m b d : Nat} (hi : i < zs.length)
    (h : low xs i * u + 4294967296 ^ i * (m + b) = low ys i * v + low zs i + 4294967296 ^ i * p) (b' : Nat)
    (hd : (p + xs.getD i 0 * u) % 4294967296 + 4294967296 * b' = (m + ys.getD i 0 * v) % 4294967296 + b + d) :
    low xs (i + 1) * u + 4294967296 ^ (i + 1) * ((m + ys.getD i 0 * v) / 4294967296 + b') = low ys (i + 1) * v + low (zs.set i d) (i + 1) + 4294967296 ^ (i + 1) * ((p + xs.getD i 0 * u) / 4294967296) := by
  rw [low_set_succ _ _ _ hi, low_succ, low_succ, Nat.pow_succ]
  generalize hP : 4294967296 ^ i = P at *
  generalize hX : xs.getD i 0 = x at *
  generalize hY : ys.getD i 0 = y at *
  have e1 := carry_eq P (p + x * u)
  have e2 := carry_eq P (m + y * v)
  have e3 : P * ((p + x * u) % 4294967296 + 4294967296 * b') = P * ((m + y * v) % 4294967296 + b + d) := by rw [hd]
  rw [Nat.mul_add, Nat.mul_add, Nat.mul_add] at e3
  rw [Nat.mul_add, ← Nat.mul_assoc P x u] at e1
  rw [Nat.mul_add, ← Nat.mul_assoc P y v] at e2
  rw [Nat.mul_add] at h
  rw [Nat.add_mul, Nat.add_mul, Nat.mul_add (P * 4294967296), Nat.mul_assoc P 4294967296 b']
  omega
theorem blend_done {xs ys zs : List Nat} {n u v p m b : Nat} (hz : limbs zs) (hzl : zs.length = n) (hxn : xs.length ≤ n) (hyn : ys.length ≤ n) (h1 : val ys * v ≤ val xs * u) (h2 : val xs * u - val ys * v < 4294967296 ^ n)
    (h : low xs n * u + 4294967296 ^ n * (m + b) = low ys n * v + low zs n + 4294967296 ^ n * p) : val zs = val xs * u - val ys * v := by
  rw [low_all hxn, low_all hyn, low_all (by omega)] at h
  have hz2 := val_lt hz
  rw [hzl] at hz2
  generalize 4294967296 ^ n = P at *
  have h3 : (val xs * u - val ys * v) + P * (m + b) = val zs + P * p := by omega
  have h4 : ((val xs * u - val ys * v) + P * (m + b)) % P = (val zs + P * p) % P := by rw [h3]
  rw [Nat.add_mul_mod_self_left, Nat.add_mul_mod_self_left, Nat.mod_eq_of_lt h2, Nat.mod_eq_of_lt hz2] at h4
  exact h4.symm

/-- One step of a row of a product. -/
theorem times_step {zs s : List Nat} {xs : List Nat} {i by_ c : Nat} (hi : i < zs.length) (h : low zs i + 4294967296 ^ i * c = low s i + low xs i * by_) (hs : zs.getD i 0 = s.getD i 0) :
    low (zs.set i ((c + (xs.getD i 0 * by_ + zs.getD i 0)) % 4294967296)) (i + 1) + 4294967296 ^ (i + 1) * ((c + (xs.getD i 0 * by_ + zs.getD i 0)) / 4294967296) = low s (i + 1) + low xs (i + 1) * by_ := by
  rw [low_set_succ _ _ _ hi, low_succ, low_succ, Nat.pow_succ, hs]
  have := carry_eq (4294967296 ^ i) (c + (xs.getD i 0 * by_ + s.getD i 0))
  rw [Nat.mul_add, Nat.mul_add, ← Nat.mul_assoc] at this
  rw [Nat.add_mul]
  omega
theorem val_split (zs : List Nat) (k : Nat) (h : k ≤ zs.length) : val zs = low zs k + 4294967296 ^ k * val (zs.drop k) := by
  conv => lhs; rw [← List.take_append_drop k zs, val_append]
  rw [List.length_take, Nat.min_eq_left h]; rfl
theorem drop_set_add (zs : List Nat) (off i x : Nat) : (zs.set (off + i) x).drop off = (zs.drop off).set i x := by
  rw [List.drop_set, if_neg (by omega)]
  congr 1; omega
theorem getD_drop (zs : List Nat) (off i : Nat) : (zs.drop off).getD i 0 = zs.getD (off + i) 0 := by
  rw [List.getD_eq_getElem?_getD, List.getD_eq_getElem?_getD, List.getElem?_drop]
end Go.Proofs.YtdfmmaehmngkhaaDoor

namespace Go.Proofs.YtdfmmaehmngkhaaDoor
open Go.RowKit

theorem own_types {w : World} {b b' e e' k k' : Nat} {u u' : Value} {ys ys' : List Value} (h : w.ownsRow b e 1 u k ys) (h' : w.ownsRow b' e' 1 u' k' ys') (hne : e ≠ e') : u.ownBlock = none ∨ u.ownBlock ≠ u'.ownBlock := by
  rcases h.2 with ⟨rfl, _⟩ | ⟨g, cap, cur, rfl, _, hh, _⟩
  · exact Or.inl rfl
  · right
    rcases h'.2 with ⟨rfl, _⟩ | ⟨g', cap', cur', rfl, _, hh', _⟩
    · simp [Value.ownBlock]
    · simp only [Value.ownBlock, ne_eq, Option.some.injEq]
      intro he
      subst he
      rw [hh] at hh'
      simp only [Option.some.injEq, Obj.cells.injEq, and_true] at hh'
      exact hne hh'.2
theorem below_of_grown {B : Nat} {w w' : World} {v : Value} (hg : w.grownBy w' v.ownBlock) (hB : B ≤ w.heap.size) (hv : ∀ k, v.ownBlock = some k → B ≤ k) : Below B w w' := (Below.refl B w).grown hg hB hv

theorem Own.alloc {B e : Nat} {w : World} {v : Value} {xs : List Nat} (h : Own B e w v xs) (o : Obj) : Own B e (w.alloc o) v xs := ⟨h.1, h.2.alloc o⟩
theorem Num.alloc {w : World} {v : Value} {xs : List Nat} (h : Num w v xs) (o : Obj) : Num (w.alloc o) v xs := h.below (Nat.le_refl _) ((Below.refl _ _).alloc (Nat.le_refl _) o)
/-- Two rows, the one made behind the other. -/
theorem apart_later {B B' e e' : Nat} {w w' : World} {u v : Value} {xs ys : List Nat} (h : Own B e w u xs) (h' : Own B' e' w' v ys) (hB : w.heap.size ≤ B') : u.ownBlock = none ∨ u.ownBlock ≠ v.ownBlock := by
  rcases hu : u.ownBlock with _ | g
  · exact Or.inl rfl
  · right
    rcases hv : v.ownBlock with _ | g'
    · simp
    · have := (h.block g hu).2
      have := (h'.block g' hv).1
      simp only [ne_eq, Option.some.injEq]; omega
end Go.Proofs.YtdfmmaehmngkhaaDoor

namespace Go.Proofs.YtdfmmaehmngkhaaDoor
open Go.RowKit

set_option maxHeartbeats 400000 in
theorem trim_any (v : Value) (xs : List Nat) (w : World) (h : Num w v xs) :
    Calls Tryd.prog 43 #[v] w fun e w' => (∃ k, k ≤ xs.length ∧ xs.take k = lim (val xs) ∧ e = .returned (cutTo v k)) ∧ w' = w := by
  obtain ⟨hb, ao, cap, rfl, hc, hm, hnil, hcell⟩ := h.open_
  clear h
  obtain ⟨n, hn⟩ : ∃ n, xs.length = n := ⟨_, rfl⟩
  rw [hn] at hc ⊢
  have HN : Hid (xs.length = n) := hn
  clear hn
  go_enter Tryd.func43, Tryd.ntmps43
  go_wp2
  go_loop [3] (fun t => ∃ k : Nat, k ≤ n ∧ t = .int .i64 k ∧ (∀ j, k ≤ j → j < n → xs.getD j 0 = 0)) (fun t => (intOf t).toNat)
  case atStart => exact ⟨n, Nat.le_refl _, rfl, fun j h1 h2 => by omega⟩
  case round =>
    obtain ⟨k, hk, rfl, hz⟩ := hrel
    have HZ : Hid (∀ j, k ≤ j → j < n → xs.getD j 0 = 0) := hz
    clear hz
    by_cases hk0 : 0 < k
    · obtain ⟨b, off, rfl, hc0⟩ := hcell (k - 1) (by rw [HN.out]; omega)
      obtain ⟨x, hx⟩ : ∃ x, x = xs.getD (k - 1) 0 := ⟨_, rfl⟩
      rw [← hx] at hc0
      have HX : Hid (x = xs.getD (k - 1) 0) := hx
      clear hx hcell hnil
      by_cases hx0 : x = 0
      · have ht : ((x : Int) == 0) = true := by simp [hx0]
        have HX0 : Hid (x = 0) := hx0
        clear hx0
        go_wp2
        go_round
        case rel =>
          refine ⟨k - 1, by omega, by congr 1; omega, fun j h1 h2 => ?_⟩
          by_cases hj : j = k - 1
          · rw [hj, ← HX.out, HX0.out]
          · exact HZ.out j (by omega) h2
        case measure => simp [intOf]; omega
      · have ht : ((x : Int) == 0) = false := by simp [hx0]
        have HX0 : Hid (x ≠ 0) := hx0
        clear hx0
        go_wp2
        go_ret
        exact ⟨⟨k, hk, take_trim hb (by rw [HN.out]; omega) (by rw [HN.out]; exact HZ.out) (fun _ => by rw [← HX.out]; exact HX0.out), rfl⟩, rfl⟩
    · have hk1 : k = 0 := by omega
      subst hk1
      have hgt : ¬ (0 : Int) < ((0 : Nat) : Int) := by omega
      have HF : xs.take 0 = lim (val xs) := take_trim hb (by omega) (by rw [HN.out]; exact HZ.out) (fun h => by omega)
      have HF' : Hid (xs.take 0 = lim (val xs)) := HF
      clear HF hcell
      rcases ao with _ | a
      · have := hnil rfl
        subst this
        have hn0 : n = 0 := by omega
        subst hn0
        go_wp2
        go_ret
        exact ⟨⟨HF'.out.symm, rfl⟩, rfl⟩
      · clear hnil
        obtain ⟨b, off, spot⟩ := a
        go_wp2
        go_ret
        exact ⟨⟨0, by omega, HF'.out, rfl⟩, rfl⟩

/-- A limb, 0 behind the last one. -/
theorem limb_any (v : Value) (xs : List Nat) (i : Int) (w : World) (h : Num w v xs) (hi : 0 ≤ i) :
    Calls Tryd.prog 73 #[v, .int .i64 i] w fun e w' => e = .returned (.int .u64 ((xs.getD i.toNat 0 : Nat) : Int)) ∧ w' = w := by
  obtain ⟨hb, ao, cap, rfl, hc, hm, hnil, hcell⟩ := h.open_
  clear h
  obtain ⟨k, rfl⟩ := Int.eq_ofNat_of_zero_le hi
  have hlt := limb_lt hb k
  by_cases hk : k < xs.length
  · obtain ⟨b, off, rfl, hc0⟩ := hcell k hk
    rw [Int.toNat_natCast]
    obtain ⟨x, hx⟩ : ∃ x, x = xs.getD k 0 := ⟨_, rfl⟩
    rw [← hx] at hc0 hlt ⊢
    clear hx hcell hnil hb
    go_enter Tryd.func73, Tryd.ntmps73
    go_wp2
    go_ret
    exact ⟨rfl, rfl⟩
  · have hg : xs.getD k 0 = 0 := by rw [List.getD_eq_getElem?_getD, List.getElem?_eq_none (by omega)]; rfl
    rw [Int.toNat_natCast, hg]
    clear hcell hnil hb hlt hg
    have hge : ((xs.length : Nat) : Int) ≤ (k : Int) := by omega
    go_enter Tryd.func73, Tryd.ntmps73
    go_wp2
    go_ret
    exact ⟨rfl, rfl⟩

end Go.Proofs.YtdfmmaehmngkhaaDoor

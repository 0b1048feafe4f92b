/-
  Proved here: what the plain way's Sub (of a smaller number), Add and Mul answer.
  Proved here: what the plain way's Mul answers.
  Proved here: what the document's Floor, just and Round of floats answer.
  Proved here: what the document's Round of floats answers.
  Proved here: what the document's Round of floats answers.
  Proved here: when limbs are a number's normal ones. No condition.
  Proved here: plain facts on numbers written with digits. No condition.
-/
import Derived.Test.YtaekaikkldnikaaRefB
import Derived.Test.YtaekaikkldnikaaShiftMathAll
import Derived.Test.YtaekaikkldnikaaNearRAll
import Derived.Test.YtaekaikkldnikaaNearKAll
import Derived.Test.YtaekaikkldnikaaCmpAll
namespace Go.Proofs.Ytaekaikkldnikaa
open Go.RowKit

set_option maxRecDepth 100000 in
theorem sub_ref_no (u v : Value) (xs ys : List Nat) (w : World) (hu : Num w u xs) (hv : Num w v ys) (hbx : xs.length ≤ 1099511627776) (hby : ys.length ≤ 1099511627776) (hle : val xs < val ys) :
    Calls Try.prog 39 #[u, v] w fun e w' => e = .returned (.tuple #[.slice none 0 0, .bool false]) ∧ w' = w := by
  obtain ⟨ao, cap, rfl, hl1, hm1⟩ := hu.ao
  obtain ⟨bo, dap, rfl, hl2, hm2⟩ := hv.ao
  go_enter Try.func39, Try.ntmps39
  go_wp2_with fail
  refine (cmp_ref _ _ _ _ _ hu hv hbx hby).mono ?_
  rintro e w1 ⟨rfl, rfl⟩
  rw [cmpN_lt hle]
  clear hu hv
  go_wp2
  go_ret2
  exact ⟨rfl, rfl⟩

theorem add_end {xs ys zs : List Nat} {i : Nat} (hi : xs.length ≤ i) (hj : ys.length ≤ i) (h : val zs + 4294967296 ^ i * 0 = low xs i + low ys i) : val zs = val xs + val ys := by
  rw [low_all hi, low_all hj] at h; omega

end Go.Proofs.Ytaekaikkldnikaa

namespace Go.Proofs.Ytaekaikkldnikaa
open Go.RowKit

theorem Cells.same {g : Nat} {w w' : World} {zs : List Nat} (h : Cells w g zs) (e : w'.heap = w.heap) : Cells w' g zs := ⟨h.1, by rw [e]; exact h.2⟩

end Go.Proofs.Ytaekaikkldnikaa

namespace Go.Proofs.Ytaekaikkldnikaa
open Go.RowKit

theorem fval_len {p b : Nat} (hp : p ≤ 60) (hb : b / 2 ^ p ≤ 4000) : (lim (fval p b)).length ≤ 200 := by
  obtain ⟨k, hk⟩ : ∃ k : Nat, k = 200 := ⟨_, rfl⟩
  rw [← hk]
  refine lim_len_le ?_
  have h1 : b % 2 ^ p < 2 ^ p := Nat.mod_lt _ (Nat.two_pow_pos p)
  have h2 : fval p b ≤ (2 ^ p + 2 ^ p) * 2 ^ (b / 2 ^ p) := by
    unfold fval
    split
    · rename_i h
      rw [h, Nat.pow_zero, Nat.mul_one]
      omega
    · exact Nat.mul_le_mul (by omega) (Nat.pow_le_pow_right (by decide) (Nat.sub_le _ _))
  obtain ⟨q, hq⟩ : ∃ q, q = b / 2 ^ p := ⟨_, rfl⟩
  rw [← hq] at h2 hb
  have h3 : (2 ^ p + 2 ^ p) * 2 ^ q = 2 ^ (p + 1 + q) := by rw [Nat.pow_add, Nat.pow_succ, Nat.mul_two]
  have h4 : (4294967296 : Nat) ^ k = 2 ^ (32 * k) := by rw [Nat.pow_mul]
  rw [h4]
  exact Nat.lt_of_le_of_lt (by rw [← h3]; exact h2) (Nat.pow_lt_pow_right (by decide) (by omega))
theorem mul_lt_pow {a b k l : Nat} (h1 : a < 4294967296 ^ k) (h2 : b < 4294967296 ^ l) : a * b < 4294967296 ^ (k + l) := by
  rw [Nat.pow_add]
  exact Nat.mul_lt_mul'' h1 h2
theorem lim_mul_len {a b k l : Nat} (h1 : (lim a).length ≤ k) (h2 : (lim b).length ≤ l) : (lim (a * b)).length ≤ k + l := lim_len_le (mul_lt_pow (lim_lt_of_len h1) (lim_lt_of_len h2))
theorem lim_add_len {a b k : Nat} (h1 : (lim a).length ≤ k) (h2 : (lim b).length ≤ k) : (lim (a + b)).length ≤ k + 1 := by
  have a1 := lim_lt_of_len h1
  have a2 := lim_lt_of_len h2
  refine lim_len_le ?_
  rw [Nat.pow_succ]
  generalize (4294967296 : Nat) ^ k = P at *
  omega
theorem undN_pos (d : Nat) : 0 < undN d := by unfold undN; split <;> omega
theorem lim_num {w : World} {v : Value} {n : Nat} (_ : Num w v (lim n)) {k : Nat} (h : (lim n).length ≤ k) (hk : k ≤ 500000) : (lim n).length ≤ 549755813888 := by omega
theorem undN_len {ys : List Nat} (h : limbs ys) (hl : ys.length ≤ 1000) : (lim (undN (val ys))).length ≤ 1000 := by
  unfold undN
  split
  · decide
  · exact Nat.le_trans (lim_len_le (val_lt h)) hl
theorem scaled_len {xs : List Nat} {k : Nat} (h : limbs xs) (hl : xs.length ≤ 1000) (hk : k ≤ 3200) : (lim (val xs * 2 ^ k)).length ≤ 1100 := by
  obtain ⟨j, hj⟩ : ∃ j : Nat, j = 100 := ⟨_, rfl⟩
  refine Nat.le_trans (lim_len_le (k := xs.length + j) ?_) (by omega)
  rw [Nat.pow_add]
  have h1 : (2 : Nat) ^ k ≤ 4294967296 ^ j := by
    rw [show (4294967296 : Nat) = 2 ^ 32 from rfl, ← Nat.pow_mul]
    exact Nat.pow_le_pow_right (by decide) (by omega)
  calc val xs * 2 ^ k < 4294967296 ^ xs.length * 2 ^ k := Nat.mul_lt_mul_of_pos_right (val_lt h) (Nat.two_pow_pos _)
    _ ≤ _ := Nat.mul_le_mul_left _ h1

end Go.Proofs.Ytaekaikkldnikaa

namespace Go.Proofs.Ytaekaikkldnikaa
open Go.RowKit

end Go.Proofs.Ytaekaikkldnikaa

namespace Go.Proofs.Ytaekaikkldnikaa
open Go.RowKit

end Go.Proofs.Ytaekaikkldnikaa

namespace Go.Proofs.Ytaekaikkldnikaa

/-- Limbs whose highest one is none of 0. -/
theorem lim_of_ge {zs : List Nat} (h : limbs zs) {n : Nat} (hn : zs.length = n + 1) (hv : 4294967296 ^ n ≤ val zs) : lim (val zs) = zs := by
  apply lim_of_last h
  intro hne
  have e := low_succ zs n
  rw [low_all (by omega)] at e
  have hl := low_lt h n
  have : zs.getD n 0 ≠ 0 := by intro h0; rw [h0, Nat.mul_zero] at e; omega
  rw [List.getLast_eq_getElem]
  rw [List.getD_eq_getElem?_getD, List.getElem?_eq_getElem (by omega)] at this
  simpa [hn] using this
theorem lim_snoc {zs : List Nat} (h : limbs zs) {d : Nat} (hd : d < 4294967296) (h0 : d ≠ 0) : lim (val zs + 4294967296 ^ zs.length * d) = zs ++ [d] := by
  rw [← val_snoc]
  exact lim_of_last (limbs_snoc h hd) fun _ => by simpa using h0
theorem lim_ge {v n : Nat} (h : (lim v).length = n + 1) : 4294967296 ^ n ≤ v := by
  rcases Nat.lt_or_ge v (4294967296 ^ n) with h1 | h1
  · have := lim_len_le h1; omega
  · exact h1
end Go.Proofs.Ytaekaikkldnikaa

namespace Go.Proofs.Ytaekaikkldnikaa

/-- The number of some digits, the lowest one first. -/
def dval : List Nat → Nat
  | [] => 0
  | x :: r => x + 10 * dval r
def decs (xs : List Nat) : Prop := ∀ x ∈ xs, x < 10
def ddigs : Nat → Nat → List Nat
  | 0, _ => []
  | f + 1, n => if n = 0 then [] else n % 10 :: ddigs f (n / 10)
/-- A number's digits, the lowest one first; 0 has none. -/
def dec (n : Nat) : List Nat := ddigs n n

theorem ddigs_zero (f : Nat) : ddigs f 0 = [] := by cases f <;> simp [ddigs]
theorem ddigs_fuel : ∀ (f g n : Nat), n ≤ f → n ≤ g → ddigs f n = ddigs g n
  | 0, g, n, h, _ => by
    have : n = 0 := by omega
    subst this; rw [ddigs_zero, ddigs_zero]
  | f + 1, 0, n, _, h => by
    have : n = 0 := by omega
    subst this; rw [ddigs_zero, ddigs_zero]
  | f + 1, g + 1, n, h1, h2 => by
    unfold ddigs
    by_cases h : n = 0
    · rw [if_pos h, if_pos h]
    · rw [if_neg h, if_neg h, ddigs_fuel f g (n / 10) (by omega) (by omega)]
theorem dec_zero : dec 0 = [] := rfl
theorem dec_pos {n : Nat} (h : n ≠ 0) : dec n = n % 10 :: dec (n / 10) := by
  obtain ⟨m, rfl⟩ : ∃ m, n = m + 1 := ⟨n - 1, by omega⟩
  conv => lhs; unfold dec ddigs
  rw [if_neg h]
  congr 1
  exact ddigs_fuel _ _ _ (by omega) (Nat.le_refl _)
theorem dec_step (n : Nat) : dval (dec n) = n ∧ decs (dec n) := by
  induction n using Nat.strongRecOn with
  | ind n ih =>
    by_cases h : n = 0
    · subst h; exact ⟨rfl, fun x hx => by simp [dec_zero] at hx⟩
    · rw [dec_pos h]
      have := ih (n / 10) (by omega)
      refine ⟨by simp only [dval]; rw [this.1]; omega, fun x hx => ?_⟩
      rcases List.mem_cons.1 hx with rfl | h1
      · omega
      · exact this.2 x h1
theorem dval_dec (n : Nat) : dval (dec n) = n := (dec_step n).1
theorem decs_dec (n : Nat) : decs (dec n) := (dec_step n).2
theorem dec_ne {n : Nat} (h : n ≠ 0) : dec n ≠ [] := by rw [dec_pos h]; simp
theorem dval_append (a b : List Nat) : dval (a ++ b) = dval a + 10 ^ a.length * dval b := by
  induction a with
  | nil => simp [dval]
  | cons x r ih =>
    simp only [List.cons_append, dval, List.length_cons, ih, Nat.mul_add, ← Nat.mul_assoc, Nat.pow_succ]
    rw [Nat.mul_comm 10 (10 ^ r.length)]
    omega
theorem decs_cons {x : Nat} {r : List Nat} : decs (x :: r) ↔ x < 10 ∧ decs r := by
  constructor
  · intro h; exact ⟨h x (by simp), fun y hy => h y (by simp [hy])⟩
  · rintro ⟨h1, h2⟩ y hy
    rcases List.mem_cons.1 hy with rfl | h
    · exact h1
    · exact h2 y h
theorem decs_append {a b : List Nat} (ha : decs a) (hb : decs b) : decs (a ++ b) := fun x hx => by
  rcases List.mem_append.1 hx with h | h
  · exact ha x h
  · exact hb x h
theorem decs_rev {a : List Nat} (ha : decs a) : decs a.reverse := fun x hx => ha x (List.mem_reverse.1 hx)
theorem decs_take {a : List Nat} (ha : decs a) (k : Nat) : decs (a.take k) := fun x hx => ha x (List.mem_of_mem_take hx)
theorem decs_drop {a : List Nat} (ha : decs a) (k : Nat) : decs (a.drop k) := fun x hx => ha x (List.mem_of_mem_drop hx)
theorem dval_lt {xs : List Nat} (h : decs xs) : dval xs < 10 ^ xs.length := by
  induction xs with
  | nil => simp [dval]
  | cons x r ih =>
    have hx := decs_cons.1 h
    have := ih hx.2
    simp only [dval, List.length_cons, Nat.pow_succ]
    omega
theorem dval_zeros : ∀ {xs : List Nat}, (∀ x ∈ xs, x = 0) → dval xs = 0
  | [], _ => rfl
  | x :: r, h => by
    simp only [dval]
    rw [dval_zeros (xs := r) (fun y hy => h y (by simp [hy])), h x (by simp)]
theorem dec_last : ∀ {xs : List Nat}, decs xs → (∀ h : xs ≠ [], xs.getLast h ≠ 0) → dec (dval xs) = xs
  | [], _, _ => rfl
  | [x], hb, hl => by
    have hx := (decs_cons.1 hb).1
    have h0 : x ≠ 0 := by have := hl (by simp); simpa using this
    simp only [dval, Nat.mul_zero, Nat.add_zero]
    rw [dec_pos h0, Nat.mod_eq_of_lt hx, Nat.div_eq_of_lt hx, dec_zero]
  | x :: y :: r, hb, hl => by
    have hx := decs_cons.1 hb
    have ih := dec_last (xs := y :: r) hx.2 (fun _ => by have := hl (by simp); simpa using this)
    have hp : dval (y :: r) ≠ 0 := by
      intro h0
      rw [h0, dec_zero] at ih
      simp at ih
    have h1 : x + 10 * dval (y :: r) ≠ 0 := by omega
    show dec (x + 10 * dval (y :: r)) = _
    rw [dec_pos h1, show (x + 10 * dval (y :: r)) % 10 = x by omega, show (x + 10 * dval (y :: r)) / 10 = dval (y :: r) by omega, ih]
/-- The number of some digits, the highest one first. -/
def bval (ds : List Nat) : Nat := dval ds.reverse
theorem bval_nil : bval [] = 0 := rfl
theorem bval_snoc (ds : List Nat) (d : Nat) : bval (ds ++ [d]) = bval ds * 10 + d := by
  simp only [bval, List.reverse_append, List.reverse_cons, List.reverse_nil, List.nil_append, List.cons_append, dval]; omega
theorem bval_append (a b : List Nat) : bval (a ++ b) = bval a * 10 ^ b.length + bval b := by
  simp only [bval, List.reverse_append, dval_append, List.length_reverse]
  rw [Nat.mul_comm]; omega
theorem bval_zeros_ahead {a b : List Nat} (h : ∀ x ∈ a, x = 0) : bval (a ++ b) = bval b := by
  rw [bval_append]
  have : bval a = 0 := dval_zeros fun x hx => h x (List.mem_reverse.1 hx)
  rw [this, Nat.zero_mul, Nat.zero_add]
/-- The noughts ahead are gone: these are the digits. -/
theorem dec_head {ds : List Nat} (hd : decs ds) (h0 : ∀ h : ds ≠ [], ds.head h ≠ 0) : (dec (bval ds)).reverse = ds := by
  unfold bval
  rw [dec_last (decs_rev hd) (fun h => by rw [List.getLast_reverse]; exact h0 _), List.reverse_reverse]
theorem head_pos {ds : List Nat} (hd : decs ds) (h : ds ≠ []) (h0 : ds.head h ≠ 0) : bval ds ≠ 0 := by
  intro e
  have := dec_head hd (fun _ => h0)
  rw [e, dec_zero] at this
  exact h this.symm
/-- How a number is written: the highest digit first; 0 is one nought. -/
def wri (n : Nat) : List Nat := if n = 0 then [0] else (dec n).reverse
theorem wri_decs (n : Nat) : decs (wri n) := by
  unfold wri
  split
  · intro x hx; simp at hx; omega
  · exact decs_rev (decs_dec n)
theorem bval_wri (n : Nat) : bval (wri n) = n := by
  unfold wri
  split
  · subst_vars; rfl
  · unfold bval; rw [List.reverse_reverse, dval_dec]
theorem wri_ne (n : Nat) : wri n ≠ [] := by
  unfold wri
  split
  · simp
  · rename_i h; simpa using dec_ne h
theorem wri_head {n : Nat} (h : n ≠ 0) (hh : wri n ≠ []) : (wri n).head hh ≠ 0 := by
  intro e
  have hd : wri n = (dec n).reverse := by unfold wri; rw [if_neg h]
  obtain ⟨x, r, hx⟩ := List.exists_cons_of_ne_nil hh
  simp only [hx, List.head_cons] at e
  have hl : (dec n) = r.reverse ++ [0] := by
    have : (dec n).reverse.reverse = (x :: r).reverse := by rw [← hd, hx]
    rw [List.reverse_reverse, List.reverse_cons, e] at this
    exact this
  have h1 := dval_dec n
  rw [hl, dval_append] at h1
  simp only [dval, Nat.mul_zero, Nat.add_zero] at h1
  -- the digits without the last nought are the same number's
  have h2 : ∀ m : Nat, dec m ≠ [] → (dec m).getLast? ≠ some 0 := by
    intro m
    induction m using Nat.strongRecOn with
    | ind m ih =>
      intro hm
      have hm0 : m ≠ 0 := by intro h0; subst h0; exact hm rfl
      rw [dec_pos hm0]
      by_cases hq : m / 10 = 0
      · rw [hq, dec_zero]; simp; omega
      · have := ih (m / 10) (by omega) (dec_ne hq)
        obtain ⟨y, t, ht⟩ := List.exists_cons_of_ne_nil (dec_ne hq)
        rw [ht] at this ⊢
        rw [List.getLast?_cons_cons]; exact this
  exact h2 n (dec_ne h) (by rw [hl]; simp)
/-- Noughts ahead of a digit that is none, or of the last digit. -/
theorem wri_drop {ds : List Nat} (hd : decs ds) {k : Nat} (hk : k < ds.length) (hz : ∀ j, j < k → ds.getD j 0 = 0) (hl : ds.getD k 0 ≠ 0 ∨ k + 1 = ds.length) : wri (bval ds) = ds.drop k := by
  have hs : ds = ds.take k ++ ds.drop k := (List.take_append_drop k ds).symm
  have hb : bval ds = bval (ds.drop k) := by
    conv => lhs; rw [hs]
    apply bval_zeros_ahead
    intro x hx
    obtain ⟨j, hj, rfl⟩ := List.getElem_of_mem hx
    simp only [List.length_take] at hj
    have := hz j (by omega)
    rw [List.getElem_take]
    rw [List.getD_eq_getElem?_getD, List.getElem?_eq_getElem (by omega)] at this
    simpa using this
  have hne : ds.drop k ≠ [] := by simp; omega
  have hhd : (ds.drop k).head hne = ds.getD k 0 := by
    rw [List.head_drop, List.getD_eq_getElem?_getD, List.getElem?_eq_getElem (by omega)]; rfl
  rw [hb]
  by_cases h0 : ds.getD k 0 = 0
  · have h1 : k + 1 = ds.length := by rcases hl with h | h; exact absurd h0 h; exact h
    obtain ⟨x, r, hx⟩ := List.exists_cons_of_ne_nil hne
    have hr : r = [] := by
      have : (ds.drop k).length = 1 := by simp; omega
      rw [hx] at this
      simpa using this
    simp only [hx, List.head_cons] at hhd
    rw [hx, hr, hhd, h0]; rfl
  · have h1 : bval (ds.drop k) ≠ 0 := head_pos (decs_drop hd k) hne (by rw [hhd]; exact h0)
    unfold wri
    rw [if_neg h1]
    exact dec_head (decs_drop hd k) fun _ => by rw [hhd]; exact h0
end Go.Proofs.Ytaekaikkldnikaa

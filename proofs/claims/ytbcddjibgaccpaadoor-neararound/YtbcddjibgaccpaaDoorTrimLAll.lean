/-
  Proved here: plain facts on numbers written with digits. No condition.
  Proved here: what digitsAlone answers.
  Proved here: what appendDigits answers.
  Proved here: what Parse answers.
  Proved here: what strings.TrimLeft answers at the cutset 0.
-/
import Derived.Test.YtbcddjibgaccpaaDoorCmpAll
import Derived.Test.YtbcddjibgaccpaaDoorTrimAll
import Derived.Test.YtbcddjibgaccpaaDoorNearKAll
import Derived.Test.YtbcddjibgaccpaaDoorLimMathAll
import Derived.Test.YtbcddjibgaccpaaDoorMul
import Derived.Test.YtbcddjibgaccpaaDoorTakeAll
namespace Go.Proofs.YtbcddjibgaccpaaDoor

/-- The number of some digits, the lowest one first. -/
def dval : List Nat → Nat
  | [] => 0
  | x :: r => x + 10 * dval r
def decs (xs : List Nat) : Prop := ∀ x ∈ xs, x < 10
def ddigs : Nat → Nat → List Nat
  | 0, _ => []
  | f + 1, n => if n = 0 then [] else n % 10 :: ddigs f (n / 10)
/-- A number's digits, the lowest one first; 0 has none. -/
def dec (n : Nat) : List Nat := ddigs n n

theorem ddigs_zero (f : Nat) : ddigs f 0 = [] := by cases f <;> simp [ddigs]
theorem ddigs_fuel : ∀ (f g n : Nat), n ≤ f → n ≤ g → ddigs f n = ddigs g n
  | 0, g, n, h, _ => by
    have : n = 0 := by omega
    subst this; rw [ddigs_zero, ddigs_zero]
  | f + 1, 0, n, _, h => by
    have : n = 0 := by omega
    subst this; rw [ddigs_zero, ddigs_zero]
  | f + 1, g + 1, n, h1, h2 => by
    unfold ddigs
    by_cases h : n = 0
    · rw [if_pos h, if_pos h]
    · rw [if_neg h, if_neg h, ddigs_fuel f g (n / 10) (by omega) (by omega)]
theorem dec_zero : dec 0 = [] := rfl
theorem dec_pos {n : Nat} (h : n ≠ 0) : dec n = n % 10 :: dec (n / 10) := by
  obtain ⟨m, rfl⟩ : ∃ m, n = m + 1 := ⟨n - 1, by omega⟩
  conv => lhs; unfold dec ddigs
  rw [if_neg h]
  congr 1
  exact ddigs_fuel _ _ _ (by omega) (Nat.le_refl _)
theorem dec_step (n : Nat) : dval (dec n) = n ∧ decs (dec n) := by
  induction n using Nat.strongRecOn with
  | ind n ih =>
    by_cases h : n = 0
    · subst h; exact ⟨rfl, fun x hx => by simp [dec_zero] at hx⟩
    · rw [dec_pos h]
      have := ih (n / 10) (by omega)
      refine ⟨by simp only [dval]; rw [this.1]; omega, fun x hx => ?_⟩
      rcases List.mem_cons.1 hx with rfl | h1
      · omega
      · exact this.2 x h1
theorem dval_dec (n : Nat) : dval (dec n) = n := (dec_step n).1
theorem decs_dec (n : Nat) : decs (dec n) := (dec_step n).2
theorem dec_ne {n : Nat} (h : n ≠ 0) : dec n ≠ [] := by rw [dec_pos h]; simp
theorem dval_append (a b : List Nat) : dval (a ++ b) = dval a + 10 ^ a.length * dval b := by
  induction a with
  | nil => simp [dval]
  | cons x r ih =>
    simp only [List.cons_append, dval, List.length_cons, ih, Nat.mul_add, ← Nat.mul_assoc, Nat.pow_succ]
    rw [Nat.mul_comm 10 (10 ^ r.length)]
    omega
theorem decs_cons {x : Nat} {r : List Nat} : decs (x :: r) ↔ x < 10 ∧ decs r := by
  constructor
  · intro h; exact ⟨h x (by simp), fun y hy => h y (by simp [hy])⟩
  · rintro ⟨h1, h2⟩ y hy
    rcases List.mem_cons.1 hy with rfl | h
    · exact h1
    · exact h2 y h
theorem decs_append {a b : List Nat} (ha : decs a) (hb : decs b) : decs (a ++ b) := fun x hx => by
  rcases List.mem_append.1 hx with h | h
  · exact ha x h
  · exact hb x h
theorem decs_rev {a : List Nat} (ha : decs a) : decs a.reverse := fun x hx => ha x (List.mem_reverse.1 hx)
theorem decs_take {a : List Nat} (ha : decs a) (k : Nat) : decs (a.take k) := fun x hx => ha x (List.mem_of_mem_take hx)
theorem decs_drop {a : List Nat} (ha : decs a) (k : Nat) : decs (a.drop k) := fun x hx => ha x (List.mem_of_mem_drop hx)
theorem dval_lt {xs : List Nat} (h : decs xs) : dval xs < 10 ^ xs.length := by
  induction xs with
  | nil => simp [dval]
  | cons x r ih =>
    have hx := decs_cons.1 h
    have := ih hx.2
    simp only [dval, List.length_cons, Nat.pow_succ]
    omega
theorem dval_zeros : ∀ {xs : List Nat}, (∀ x ∈ xs, x = 0) → dval xs = 0
  | [], _ => rfl
  | x :: r, h => by
    simp only [dval]
    rw [dval_zeros (xs := r) (fun y hy => h y (by simp [hy])), h x (by simp)]
theorem dec_last : ∀ {xs : List Nat}, decs xs → (∀ h : xs ≠ [], xs.getLast h ≠ 0) → dec (dval xs) = xs
  | [], _, _ => rfl
  | [x], hb, hl => by
    have hx := (decs_cons.1 hb).1
    have h0 : x ≠ 0 := by have := hl (by simp); simpa using this
    simp only [dval, Nat.mul_zero, Nat.add_zero]
    rw [dec_pos h0, Nat.mod_eq_of_lt hx, Nat.div_eq_of_lt hx, dec_zero]
  | x :: y :: r, hb, hl => by
    have hx := decs_cons.1 hb
    have ih := dec_last (xs := y :: r) hx.2 (fun _ => by have := hl (by simp); simpa using this)
    have hp : dval (y :: r) ≠ 0 := by
      intro h0
      rw [h0, dec_zero] at ih
      simp at ih
    have h1 : x + 10 * dval (y :: r) ≠ 0 := by omega
    show dec (x + 10 * dval (y :: r)) = _
    rw [dec_pos h1, show (x + 10 * dval (y :: r)) % 10 = x by omega, show (x + 10 * dval (y :: r)) / 10 = dval (y :: r) by omega, ih]
/-- The number of some digits, the highest one first. -/
def bval (ds : List Nat) : Nat := dval ds.reverse
theorem bval_nil : bval [] = 0 := rfl
theorem bval_snoc (ds : List Nat) (d : Nat) : bval (ds ++ [d]) = bval ds * 10 + d := by
  simp only [bval, List.reverse_append, List.reverse_cons, List.reverse_nil, List.nil_append, List.cons_append, dval]; omega
theorem bval_append (a b : List Nat) : bval (a ++ b) = bval a * 10 ^ b.length + bval b := by
  simp only [bval, List.reverse_append, dval_append, List.length_reverse]
  rw [Nat.mul_comm]; omega
theorem bval_zeros_ahead {a b : List Nat} (h : ∀ x ∈ a, x = 0) : bval (a ++ b) = bval b := by
  rw [bval_append]
  have : bval a = 0 := dval_zeros fun x hx => h x (List.mem_reverse.1 hx)
  rw [this, Nat.zero_mul, Nat.zero_add]
/-- The noughts ahead are gone: these are the digits. -/
theorem dec_head {ds : List Nat} (hd : decs ds) (h0 : ∀ h : ds ≠ [], ds.head h ≠ 0) : (dec (bval ds)).reverse = ds := by
  unfold bval
  rw [dec_last (decs_rev hd) (fun h => by rw [List.getLast_reverse]; exact h0 _), List.reverse_reverse]
theorem head_pos {ds : List Nat} (hd : decs ds) (h : ds ≠ []) (h0 : ds.head h ≠ 0) : bval ds ≠ 0 := by
  intro e
  have := dec_head hd (fun _ => h0)
  rw [e, dec_zero] at this
  exact h this.symm
/-- How a number is written: the highest digit first; 0 is one nought. -/
def wri (n : Nat) : List Nat := if n = 0 then [0] else (dec n).reverse
theorem wri_decs (n : Nat) : decs (wri n) := by
  unfold wri
  split
  · intro x hx; simp at hx; omega
  · exact decs_rev (decs_dec n)
theorem bval_wri (n : Nat) : bval (wri n) = n := by
  unfold wri
  split
  · subst_vars; rfl
  · unfold bval; rw [List.reverse_reverse, dval_dec]
theorem wri_ne (n : Nat) : wri n ≠ [] := by
  unfold wri
  split
  · simp
  · rename_i h; simpa using dec_ne h
theorem wri_head {n : Nat} (h : n ≠ 0) (hh : wri n ≠ []) : (wri n).head hh ≠ 0 := by
  intro e
  have hd : wri n = (dec n).reverse := by unfold wri; rw [if_neg h]
  obtain ⟨x, r, hx⟩ := List.exists_cons_of_ne_nil hh
  simp only [hx, List.head_cons] at e
  have hl : (dec n) = r.reverse ++ [0] := by
    have : (dec n).reverse.reverse = (x :: r).reverse := by rw [← hd, hx]
    rw [List.reverse_reverse, List.reverse_cons, e] at this
    exact this
  have h1 := dval_dec n
  rw [hl, dval_append] at h1
  simp only [dval, Nat.mul_zero, Nat.add_zero] at h1
  -- the digits without the last nought are the same number's
  have h2 : ∀ m : Nat, dec m ≠ [] → (dec m).getLast? ≠ some 0 := by
    intro m
    induction m using Nat.strongRecOn with
    | ind m ih =>
      intro hm
      have hm0 : m ≠ 0 := by intro h0; subst h0; exact hm rfl
      rw [dec_pos hm0]
      by_cases hq : m / 10 = 0
      · rw [hq, dec_zero]; simp; omega
      · have := ih (m / 10) (by omega) (dec_ne hq)
        obtain ⟨y, t, ht⟩ := List.exists_cons_of_ne_nil (dec_ne hq)
        rw [ht] at this ⊢
        rw [List.getLast?_cons_cons]; exact this
  exact h2 n (dec_ne h) (by rw [hl]; simp)
/-- Noughts ahead of a digit that is none, or of the last digit. -/
theorem wri_drop {ds : List Nat} (hd : decs ds) {k : Nat} (hk : k < ds.length) (hz : ∀ j, j < k → ds.getD j 0 = 0) (hl : ds.getD k 0 ≠ 0 ∨ k + 1 = ds.length) : wri (bval ds) = ds.drop k := by
  have hs : ds = ds.take k ++ ds.drop k := (List.take_append_drop k ds).symm
  have hb : bval ds = bval (ds.drop k) := by
    conv => lhs; rw [hs]
    apply bval_zeros_ahead
    intro x hx
    obtain ⟨j, hj, rfl⟩ := List.getElem_of_mem hx
    simp only [List.length_take] at hj
    have := hz j (by omega)
    rw [List.getElem_take]
    rw [List.getD_eq_getElem?_getD, List.getElem?_eq_getElem (by omega)] at this
    simpa using this
  have hne : ds.drop k ≠ [] := by simp; omega
  have hhd : (ds.drop k).head hne = ds.getD k 0 := by
    rw [List.head_drop, List.getD_eq_getElem?_getD, List.getElem?_eq_getElem (by omega)]; rfl
  rw [hb]
  by_cases h0 : ds.getD k 0 = 0
  · have h1 : k + 1 = ds.length := by rcases hl with h | h; exact absurd h0 h; exact h
    obtain ⟨x, r, hx⟩ := List.exists_cons_of_ne_nil hne
    have hr : r = [] := by
      have : (ds.drop k).length = 1 := by simp; omega
      rw [hx] at this
      simpa using this
    simp only [hx, List.head_cons] at hhd
    rw [hx, hr, hhd, h0]; rfl
  · have h1 : bval (ds.drop k) ≠ 0 := head_pos (decs_drop hd k) hne (by rw [hhd]; exact h0)
    unfold wri
    rw [if_neg h1]
    exact dec_head (decs_drop hd k) fun _ => by rw [hhd]; exact h0
end Go.Proofs.YtbcddjibgaccpaaDoor

namespace Go.Proofs.YtbcddjibgaccpaaDoor
open Go.RowKit

/-- A byte of a text. -/
def bt (s : ByteArray) (i : Nat) : Nat := (s.data.toList.getD i 0).toNat
theorem bt_get {s : ByteArray} {i : Nat} (h : i < s.size) : s[i].toNat = bt s i := by
  unfold bt
  rw [List.getD_eq_getElem?_getD, Array.getElem?_toList, Array.getElem?_eq_getElem h]
  rfl
theorem bt_lt (s : ByteArray) (i : Nat) : bt s i < 256 := UInt8.toNat_lt _
/-- The digits of a text. -/
def dgs (s : ByteArray) : List Nat := s.data.toList.map fun b => b.toNat - 48
theorem dgs_len (s : ByteArray) : (dgs s).length = s.size := by unfold dgs; rw [List.length_map]; exact Array.length_toList
theorem dgs_at {s : ByteArray} {i : Nat} (h : i < s.size) : (dgs s).getD i 0 = bt s i - 48 := by
  unfold dgs bt
  rw [List.getD_eq_getElem?_getD, List.getElem?_map, List.getD_eq_getElem?_getD]
  have : i < s.data.toList.length := by simpa using h
  rw [List.getElem?_eq_getElem this]; rfl
/-- All bytes are digits. -/
def DigOk (s : ByteArray) : Prop := ∀ i, i < s.size → 48 ≤ bt s i ∧ bt s i ≤ 57
theorem DigOk.decs {s : ByteArray} (h : DigOk s) : decs (dgs s) := fun x hx => by
  obtain ⟨i, hi, rfl⟩ := List.getElem_of_mem hx
  rw [dgs_len] at hi
  have h1 := dgs_at hi
  rw [List.getD_eq_getElem?_getD, List.getElem?_eq_getElem (by rw [dgs_len]; exact hi)] at h1
  have h2 := h i hi
  simp at h1
  omega
theorem ret_bool {a b : Bool} (h : a = b) : Ending.returned (.bool a) = .returned (.bool b) := by rw [h]
instance (s : ByteArray) : Decidable (DigOk s) := inferInstanceAs (Decidable (∀ i, i < s.size → _))

end Go.Proofs.YtbcddjibgaccpaaDoor

namespace Go.Proofs.YtbcddjibgaccpaaDoor
open Go.RowKit

theorem dig_step {xs ys : List Nat} {i sc c c0 : Nat} (hi : i < ys.length) (h : low ys i + 4294967296 ^ i * c = low xs i * sc + c0) :
    low (ys.set i ((c + xs.getD i 0 * sc) % 4294967296)) (i + 1) + 4294967296 ^ (i + 1) * ((c + xs.getD i 0 * sc) / 4294967296) = low xs (i + 1) * sc + c0 := by
  rw [low_set_succ _ _ _ hi, low_succ xs i, Nat.pow_succ, Nat.add_assoc, carry_eq, Nat.mul_add, Nat.add_mul, Nat.mul_assoc]
  omega
theorem take_snoc {l : List Nat} {i : Nat} (h : i < l.length) : l.take (i + 1) = l.take i ++ [l.getD i 0] := by
  rw [List.take_add_one, List.getD_eq_getElem?_getD, List.getElem?_eq_getElem h]; rfl
theorem ten_le {i n : Nat} (h : i ≤ n) : 10 ^ i ≤ 10 ^ n := Nat.pow_le_pow_right (by decide) h

/-- What appendDigits leaves. -/
def DigEnd (B : Nat) (w : World) (v : Nat) (s : ByteArray) (e : Ending) (w' : World) : Prop :=
  ∃ u, e = .returned u ∧ Own B 74 w' u (lim (v * 10 ^ s.size + bval (dgs s))) ∧ Below B w w'

end Go.Proofs.YtbcddjibgaccpaaDoor

namespace Go.Proofs.YtbcddjibgaccpaaDoor
open Go.RowKit

def szOf : Value → Nat
  | .string r => r.size
  | _ => 0
/-- What Parse leaves. -/
def ParseEnd (w : World) (s : ByteArray) (e : Ending) (w' : World) : Prop :=
  ∃ u, e = .returned (.tuple #[u, .int .i64 (if DigOk s ∧ 0 < s.size then 0 else 10)]) ∧ Own w.heap.size 74 w' u (if DigOk s ∧ 0 < s.size then lim (bval (dgs s)) else []) ∧ Below w.heap.size w w'

theorem extract_list (r : ByteArray) (a b : Nat) : (r.extract a b).data.toList = (r.data.toList.drop a).take (b - a) := by
  rw [ByteArray.data_extract, Array.toList_extract]
theorem dgs_part {s c : ByteArray} {k m : Nat} (h : c.data.toList = (s.data.toList.drop k).take m) : dgs c = ((dgs s).drop k).take m := by
  unfold dgs; rw [h, List.map_take, List.map_drop]
theorem size_part {s c : ByteArray} {k m : Nat} (h : c.data.toList = (s.data.toList.drop k).take m) : c.size = min m (s.size - k) := by
  have : c.data.toList.length = min m (s.size - k) := by rw [h, List.length_take, List.length_drop, Array.length_toList]; rfl
  rw [Array.length_toList] at this; exact this
theorem bt_part {s c : ByteArray} {k m i : Nat} (h : c.data.toList = (s.data.toList.drop k).take m) (hi : i < m) : bt c i = bt s (k + i) := by
  unfold bt
  rw [h, List.getD_eq_getElem?_getD, List.getElem?_take_of_lt hi, List.getElem?_drop, ← List.getD_eq_getElem?_getD]
theorem DigOk.part {s c : ByteArray} {k m : Nat} (hd : DigOk s) (h : c.data.toList = (s.data.toList.drop k).take m) : DigOk c := fun i hi => by
  have hs := size_part h
  rw [bt_part h (by omega)]
  exact hd _ (by omega)
theorem bval_chunk {s c : ByteArray} {k m : Nat} (h : c.data.toList = (s.data.toList.drop k).take m) : bval ((dgs s).take (k + m)) = bval ((dgs s).take k) * 10 ^ c.size + bval (dgs c) := by
  rw [List.take_add, bval_append, ← dgs_part h, dgs_len]

end Go.Proofs.YtbcddjibgaccpaaDoor

namespace Go.Proofs.YtbcddjibgaccpaaDoor
open Go.RowKit

/-- What is left of a text without its noughts ahead. -/
def TrimEnd (s : ByteArray) (w : World) (e : Ending) (w' : World) : Prop :=
  ∃ (k : Nat) (r : ByteArray), e = .returned (.string r) ∧ w' = w ∧ k ≤ s.size ∧ r.data.toList = s.data.toList.drop k ∧ (∀ j, j < k → bt s j = 48) ∧ (k < s.size → bt s k ≠ 48)

set_option maxRecDepth 100000 in
set_option maxHeartbeats 1600000 in
theorem trimByte_any (s : ByteArray) (w : World) :
    Calls Tryd.prog 72 #[.string s, .int .u8 48] w fun e w' => TrimEnd s w e w' := by
  go_enter Tryd.func72, Tryd.ntmps72
  go_wp2
  go_loop [0] (fun sv => ∃ (k : Nat) (r : ByteArray), k ≤ s.size ∧ sv = .string r ∧ r.data.toList = s.data.toList.drop k ∧ (∀ j, j < k → bt s j = 48)) (fun sv => szOf sv)
  case atStart => exact ⟨0, s, Nat.zero_le _, rfl, rfl, fun j hj => by omega⟩
  case round =>
    obtain ⟨k, r, hk, rfl, hr, hz⟩ := hrel
    have HRR : Hid (r.data.toList = s.data.toList.drop k) := hr
    have HZ : Hid (∀ j, j < k → bt s j = 48) := hz
    have HRS : Hid (r.size = s.size - k) := by
      have h1 : r.data.toList.length = s.size - k := by rw [hr, List.length_drop, Array.length_toList]; rfl
      rw [Array.length_toList] at h1; exact h1
    clear hr hz
    by_cases hlt : 0 < r.size
    · have hlt' : (0 : Int) < (r.size : Int) := by omega
      have hg := bt_get hlt
      have hbk : bt r 0 = bt s k := by
        unfold bt
        rw [HRR.out, List.getD_eq_getElem?_getD, List.getElem?_drop, Nat.add_zero, ← List.getD_eq_getElem?_getD]
      rw [hbk] at hg
      obtain ⟨c, hc⟩ : ∃ c, c = bt s k := ⟨_, rfl⟩
      rw [← hc] at hg
      have HC : Hid (c = bt s k) := hc
      clear hc hbk
      have hks : k < s.size := by have := HRS.out; omega
      by_cases h48 : c = 48
      · subst h48
        go_wp2
        go_round
        case rel =>
          have hrs := HRS.out
          refine ⟨k + 1, _, by omega, rfl, ?_, fun j hj => ?_⟩
          · rw [extract_list, HRR.out, List.drop_drop, List.take_of_length_le (by rw [List.length_drop, Array.length_toList]; show s.size - (k + 1) ≤ _; omega)]
          · by_cases hjk : j = k
            · rw [hjk]; exact HC.out.symm
            · exact HZ.out j (by omega)
        case measure => simp [szOf]; omega
      · have h48' : ¬ (c : Int) = 48 := by omega
        have HE : Hid (TrimEnd s w (.returned (.string r)) w) := ⟨k, r, rfl, rfl, hk, HRR.out, HZ.out, fun _ => by rw [← HC.out]; exact h48⟩
        go_wp2
        go_ret
        exact HE.out
    · have hlt' : ¬ (0 : Int) < (r.size : Int) := by omega
      have HE : Hid (TrimEnd s w (.returned (.string r)) w) := ⟨k, r, rfl, rfl, hk, HRR.out, HZ.out, fun h => by have := HRS.out; omega⟩
      go_wp2
      go_ret
      exact HE.out

set_option maxRecDepth 100000 in
set_option maxHeartbeats 1600000 in
theorem trimLeft_any (s : ByteArray) (w : World) (h0 : 0 < s.size) :
    Calls Tryd.prog 58 #[.string s, .string ⟨#[48]⟩] w fun e w' => TrimEnd s w e w' := by
  have hne : ¬ s.toList = [] := by
    intro h
    have h1 : s.toList = s.data.toList := ByteArray.toList_eq s
    rw [h1] at h
    have h2 : s.data.toList.length = 0 := by rw [h]; rfl
    rw [Array.length_toList] at h2
    have : s.size = s.data.size := rfl
    omega
  have hie : s.toList.isEmpty = false := by rw [List.isEmpty_eq_false_iff]; exact hne
  have h48 : (({ data := #[48] } : ByteArray)[0]'(by decide)).toNat = 48 := rfl
  go_enter Tryd.func58, Tryd.ntmps58
  go_wp2_with fail
  refine (trimByte_any s w).mono ?_
  rintro e w1 ⟨k, r, rfl, rfl, h1, h2, h3, h4⟩
  have HE : Hid (TrimEnd s w1 (.returned (.string r)) w1) := ⟨k, r, rfl, rfl, h1, h2, h3, h4⟩
  clear h1 h2 h3 h4
  go_wp2
  go_ret
  exact HE.out
end Go.Proofs.YtbcddjibgaccpaaDoor

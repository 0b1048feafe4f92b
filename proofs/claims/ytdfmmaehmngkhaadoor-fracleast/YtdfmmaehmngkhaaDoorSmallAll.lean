/-
  Proved here: plain facts on numbers written with digits. No condition.
  Proved here: what digitsAlone answers.
  Proved here: what the small makers of numbers answer.
-/
import Derived.Test.YtdfmmaehmngkhaaDoorTrimAll
import Derived.Laws.Bits64b
namespace Go.Proofs.YtdfmmaehmngkhaaDoor

/-- The number of some digits, the lowest one first. -/
def dval : List Nat → Nat
  | [] => 0
  | x :: r => x + 10 * dval r
def decs (xs : List Nat) : Prop := ∀ x ∈ xs, x < 10
def ddigs : Nat → Nat → List Nat
  | 0, _ => []
  | f + 1, n => if n = 0 then [] else n % 10 :: ddigs f (n / 10)
/-- A number's digits, the lowest one first; 0 has none. -/
def dec (n : Nat) : List Nat := ddigs n n

theorem ddigs_zero (f : Nat) : ddigs f 0 = [] := by cases f <;> simp [ddigs]
theorem ddigs_fuel : ∀ (f g n : Nat), n ≤ f → n ≤ g → ddigs f n = ddigs g n
  | 0, g, n, h, _ => by
    have : n = 0 := by omega
    subst this; rw [ddigs_zero, ddigs_zero]
  | f + 1, 0, n, _, h => by
    have : n = 0 := by omega
    subst this; rw [ddigs_zero, ddigs_zero]
  | f + 1, g + 1, n, h1, h2 => by
    unfold ddigs
    by_cases h : n = 0
    · rw [if_pos h, if_pos h]
    · rw [if_neg h, if_neg h, ddigs_fuel f g (n / 10) (by omega) (by omega)]
theorem dec_zero : dec 0 = [] := rfl
theorem dec_pos {n : Nat} (h : n ≠ 0) : dec n = n % 10 :: dec (n / 10) := by
  obtain ⟨m, rfl⟩ : ∃ m, n = m + 1 := ⟨n - 1, by omega⟩
  conv => lhs; unfold dec ddigs
  rw [if_neg h]
  congr 1
  exact ddigs_fuel _ _ _ (by omega) (Nat.le_refl _)
theorem dec_step (n : Nat) : dval (dec n) = n ∧ decs (dec n) := by
  induction n using Nat.strongRecOn with
  | ind n ih =>
    by_cases h : n = 0
    · subst h; exact ⟨rfl, fun x hx => by simp [dec_zero] at hx⟩
    · rw [dec_pos h]
      have := ih (n / 10) (by omega)
      refine ⟨by simp only [dval]; rw [this.1]; omega, fun x hx => ?_⟩
      rcases List.mem_cons.1 hx with rfl | h1
      · omega
      · exact this.2 x h1
theorem dval_dec (n : Nat) : dval (dec n) = n := (dec_step n).1
theorem dec_ne {n : Nat} (h : n ≠ 0) : dec n ≠ [] := by rw [dec_pos h]; simp
theorem dval_append (a b : List Nat) : dval (a ++ b) = dval a + 10 ^ a.length * dval b := by
  induction a with
  | nil => simp [dval]
  | cons x r ih =>
    simp only [List.cons_append, dval, List.length_cons, ih, Nat.mul_add, ← Nat.mul_assoc, Nat.pow_succ]
    rw [Nat.mul_comm 10 (10 ^ r.length)]
    omega
theorem decs_cons {x : Nat} {r : List Nat} : decs (x :: r) ↔ x < 10 ∧ decs r := by
  constructor
  · intro h; exact ⟨h x (by simp), fun y hy => h y (by simp [hy])⟩
  · rintro ⟨h1, h2⟩ y hy
    rcases List.mem_cons.1 hy with rfl | h
    · exact h1
    · exact h2 y h
theorem decs_append {a b : List Nat} (ha : decs a) (hb : decs b) : decs (a ++ b) := fun x hx => by
  rcases List.mem_append.1 hx with h | h
  · exact ha x h
  · exact hb x h
theorem decs_rev {a : List Nat} (ha : decs a) : decs a.reverse := fun x hx => ha x (List.mem_reverse.1 hx)
theorem decs_take {a : List Nat} (ha : decs a) (k : Nat) : decs (a.take k) := fun x hx => ha x (List.mem_of_mem_take hx)
theorem decs_drop {a : List Nat} (ha : decs a) (k : Nat) : decs (a.drop k) := fun x hx => ha x (List.mem_of_mem_drop hx)
theorem dval_lt {xs : List Nat} (h : decs xs) : dval xs < 10 ^ xs.length := by
  induction xs with
  | nil => simp [dval]
  | cons x r ih =>
    have hx := decs_cons.1 h
    have := ih hx.2
    simp only [dval, List.length_cons, Nat.pow_succ]
    omega
theorem dval_zeros : ∀ {xs : List Nat}, (∀ x ∈ xs, x = 0) → dval xs = 0
  | [], _ => rfl
  | x :: r, h => by
    simp only [dval]
    rw [dval_zeros (xs := r) (fun y hy => h y (by simp [hy])), h x (by simp)]
theorem dec_last : ∀ {xs : List Nat}, decs xs → (∀ h : xs ≠ [], xs.getLast h ≠ 0) → dec (dval xs) = xs
  | [], _, _ => rfl
  | [x], hb, hl => by
    have hx := (decs_cons.1 hb).1
    have h0 : x ≠ 0 := by have := hl (by simp); simpa using this
    simp only [dval, Nat.mul_zero, Nat.add_zero]
    rw [dec_pos h0, Nat.mod_eq_of_lt hx, Nat.div_eq_of_lt hx, dec_zero]
  | x :: y :: r, hb, hl => by
    have hx := decs_cons.1 hb
    have ih := dec_last (xs := y :: r) hx.2 (fun _ => by have := hl (by simp); simpa using this)
    have hp : dval (y :: r) ≠ 0 := by
      intro h0
      rw [h0, dec_zero] at ih
      simp at ih
    have h1 : x + 10 * dval (y :: r) ≠ 0 := by omega
    show dec (x + 10 * dval (y :: r)) = _
    rw [dec_pos h1, show (x + 10 * dval (y :: r)) % 10 = x by omega, show (x + 10 * dval (y :: r)) / 10 = dval (y :: r) by omega, ih]
/-- The number of some digits, the highest one first. -/
def bval (ds : List Nat) : Nat := dval ds.reverse
theorem bval_snoc (ds : List Nat) (d : Nat) : bval (ds ++ [d]) = bval ds * 10 + d := by
  simp only [bval, List.reverse_append, List.reverse_cons, List.reverse_nil, List.nil_append, List.cons_append, dval]; omega
theorem bval_append (a b : List Nat) : bval (a ++ b) = bval a * 10 ^ b.length + bval b := by
  simp only [bval, List.reverse_append, dval_append, List.length_reverse]
  rw [Nat.mul_comm]; omega
theorem bval_zeros_ahead {a b : List Nat} (h : ∀ x ∈ a, x = 0) : bval (a ++ b) = bval b := by
  rw [bval_append]
  have : bval a = 0 := dval_zeros fun x hx => h x (List.mem_reverse.1 hx)
  rw [this, Nat.zero_mul, Nat.zero_add]
/-- The noughts ahead are gone: these are the digits. -/
theorem dec_head {ds : List Nat} (hd : decs ds) (h0 : ∀ h : ds ≠ [], ds.head h ≠ 0) : (dec (bval ds)).reverse = ds := by
  unfold bval
  rw [dec_last (decs_rev hd) (fun h => by rw [List.getLast_reverse]; exact h0 _), List.reverse_reverse]
theorem head_pos {ds : List Nat} (hd : decs ds) (h : ds ≠ []) (h0 : ds.head h ≠ 0) : bval ds ≠ 0 := by
  intro e
  have := dec_head hd (fun _ => h0)
  rw [e, dec_zero] at this
  exact h this.symm
/-- How a number is written: the highest digit first; 0 is one nought. -/
def wri (n : Nat) : List Nat := if n = 0 then [0] else (dec n).reverse
theorem wri_ne (n : Nat) : wri n ≠ [] := by
  unfold wri
  split
  · simp
  · rename_i h; simpa using dec_ne h
theorem wri_head {n : Nat} (h : n ≠ 0) (hh : wri n ≠ []) : (wri n).head hh ≠ 0 := by
  intro e
  have hd : wri n = (dec n).reverse := by unfold wri; rw [if_neg h]
  obtain ⟨x, r, hx⟩ := List.exists_cons_of_ne_nil hh
  simp only [hx, List.head_cons] at e
  have hl : (dec n) = r.reverse ++ [0] := by
    have : (dec n).reverse.reverse = (x :: r).reverse := by rw [← hd, hx]
    rw [List.reverse_reverse, List.reverse_cons, e] at this
    exact this
  have h1 := dval_dec n
  rw [hl, dval_append] at h1
  simp only [dval, Nat.mul_zero, Nat.add_zero] at h1
  -- the digits without the last nought are the same number's
  have h2 : ∀ m : Nat, dec m ≠ [] → (dec m).getLast? ≠ some 0 := by
    intro m
    induction m using Nat.strongRecOn with
    | ind m ih =>
      intro hm
      have hm0 : m ≠ 0 := by intro h0; subst h0; exact hm rfl
      rw [dec_pos hm0]
      by_cases hq : m / 10 = 0
      · rw [hq, dec_zero]; simp; omega
      · have := ih (m / 10) (by omega) (dec_ne hq)
        obtain ⟨y, t, ht⟩ := List.exists_cons_of_ne_nil (dec_ne hq)
        rw [ht] at this ⊢
        rw [List.getLast?_cons_cons]; exact this
  exact h2 n (dec_ne h) (by rw [hl]; simp)
/-- Noughts ahead of a digit that is none, or of the last digit. -/
theorem wri_drop {ds : List Nat} (hd : decs ds) {k : Nat} (hk : k < ds.length) (hz : ∀ j, j < k → ds.getD j 0 = 0) (hl : ds.getD k 0 ≠ 0 ∨ k + 1 = ds.length) : wri (bval ds) = ds.drop k := by
  have hs : ds = ds.take k ++ ds.drop k := (List.take_append_drop k ds).symm
  have hb : bval ds = bval (ds.drop k) := by
    conv => lhs; rw [hs]
    apply bval_zeros_ahead
    intro x hx
    obtain ⟨j, hj, rfl⟩ := List.getElem_of_mem hx
    simp only [List.length_take] at hj
    have := hz j (by omega)
    rw [List.getElem_take]
    rw [List.getD_eq_getElem?_getD, List.getElem?_eq_getElem (by omega)] at this
    simpa using this
  have hne : ds.drop k ≠ [] := by simp; omega
  have hhd : (ds.drop k).head hne = ds.getD k 0 := by
    rw [List.head_drop, List.getD_eq_getElem?_getD, List.getElem?_eq_getElem (by omega)]; rfl
  rw [hb]
  by_cases h0 : ds.getD k 0 = 0
  · have h1 : k + 1 = ds.length := by rcases hl with h | h; exact absurd h0 h; exact h
    obtain ⟨x, r, hx⟩ := List.exists_cons_of_ne_nil hne
    have hr : r = [] := by
      have : (ds.drop k).length = 1 := by simp; omega
      rw [hx] at this
      simpa using this
    simp only [hx, List.head_cons] at hhd
    rw [hx, hr, hhd, h0]; rfl
  · have h1 : bval (ds.drop k) ≠ 0 := head_pos (decs_drop hd k) hne (by rw [hhd]; exact h0)
    unfold wri
    rw [if_neg h1]
    exact dec_head (decs_drop hd k) fun _ => by rw [hhd]; exact h0
end Go.Proofs.YtdfmmaehmngkhaaDoor

namespace Go.Proofs.YtdfmmaehmngkhaaDoor
open Go.RowKit

/-- A byte of a text. -/
def bt (s : ByteArray) (i : Nat) : Nat := (s.data.toList.getD i 0).toNat
theorem bt_get {s : ByteArray} {i : Nat} (h : i < s.size) : s[i].toNat = bt s i := by
  unfold bt
  rw [List.getD_eq_getElem?_getD, Array.getElem?_toList, Array.getElem?_eq_getElem h]
  rfl
theorem bt_lt (s : ByteArray) (i : Nat) : bt s i < 256 := UInt8.toNat_lt _
/-- The digits of a text. -/
def dgs (s : ByteArray) : List Nat := s.data.toList.map fun b => b.toNat - 48
theorem dgs_len (s : ByteArray) : (dgs s).length = s.size := by unfold dgs; rw [List.length_map]; exact Array.length_toList
theorem dgs_at {s : ByteArray} {i : Nat} (h : i < s.size) : (dgs s).getD i 0 = bt s i - 48 := by
  unfold dgs bt
  rw [List.getD_eq_getElem?_getD, List.getElem?_map, List.getD_eq_getElem?_getD]
  have : i < s.data.toList.length := by simpa using h
  rw [List.getElem?_eq_getElem this]; rfl
/-- All bytes are digits. -/
def DigOk (s : ByteArray) : Prop := ∀ i, i < s.size → 48 ≤ bt s i ∧ bt s i ≤ 57
theorem DigOk.decs {s : ByteArray} (h : DigOk s) : decs (dgs s) := fun x hx => by
  obtain ⟨i, hi, rfl⟩ := List.getElem_of_mem hx
  rw [dgs_len] at hi
  have h1 := dgs_at hi
  rw [List.getD_eq_getElem?_getD, List.getElem?_eq_getElem (by rw [dgs_len]; exact hi)] at h1
  have h2 := h i hi
  simp at h1
  omega
theorem ret_bool {a b : Bool} (h : a = b) : Ending.returned (.bool a) = .returned (.bool b) := by rw [h]
instance (s : ByteArray) : Decidable (DigOk s) := inferInstanceAs (Decidable (∀ i, i < s.size → _))

set_option maxRecDepth 100000 in
set_option maxHeartbeats 1600000 in
theorem digitsAlone_any (s : ByteArray) (w : World) (hs : s.size ≤ 9223372036854775807) :
    Calls Tryd.prog 66 #[.string s] w fun e w' => e = .returned (.bool (decide (DigOk s ∧ 0 < s.size))) ∧ w' = w := by
  obtain ⟨n, hn⟩ : ∃ n, n = s.size := ⟨_, rfl⟩
  obtain ⟨R, hR⟩ : ∃ R, R = decide (DigOk s ∧ 0 < s.size) := ⟨_, rfl⟩
  rw [← hR]
  have HR : Hid (R = decide (DigOk s ∧ 0 < s.size)) := hR
  clear hR
  go_enter Tryd.func66, Tryd.ntmps66
  go_wp2
  go_loop [6] (fun t => ∃ i : Nat, i ≤ s.size ∧ t = .int .i64 i ∧ ∀ j, j < i → 48 ≤ bt s j ∧ bt s j ≤ 57) (fun t => s.size - (intOf t).toNat)
  case atStart => exact ⟨0, Nat.zero_le _, rfl, fun j hj => by omega⟩
  case round =>
    obtain ⟨i, hi, rfl, hd⟩ := hrel
    have HD : Hid (∀ j, j < i → 48 ≤ bt s j ∧ bt s j ≤ 57) := hd
    clear hd
    by_cases hlt : i < s.size
    · have hlt' : (i : Int) < (s.size : Int) := by omega
      have hg := bt_get hlt
      have hb := bt_lt s i
      obtain ⟨c, hc⟩ : ∃ c, c = bt s i := ⟨_, rfl⟩
      rw [← hc] at hg hb
      have HC : Hid (c = bt s i) := hc
      clear hc
      by_cases h1 : c < 48
      · have h1' : (c : Int) < 48 := by omega
        have HF : Hid (R = false) := by
          show _ = _
          rw [HR.out]
          refine decide_eq_false fun h => ?_
          have := h.1 i hlt
          rw [← HC.out] at this; omega
        go_wp2
        go_ret
        exact ⟨(ret_bool HF.out).symm, rfl⟩
      · have h1' : ¬ (c : Int) < 48 := by omega
        by_cases h2 : 57 < c
        · have h2' : (57 : Int) < (c : Int) := by omega
          have HF : Hid (R = false) := by
            show _ = _
            rw [HR.out]
            refine decide_eq_false fun h => ?_
            have := h.1 i hlt
            rw [← HC.out] at this; omega
          go_wp2
          go_ret
          exact ⟨(ret_bool HF.out).symm, rfl⟩
        · have h2' : ¬ (57 : Int) < (c : Int) := by omega
          go_wp2
          go_round
          case rel =>
            refine ⟨i + 1, by omega, by go_num, fun j hj => ?_⟩
            by_cases hji : j = i
            · rw [hji, ← HC.out]; omega
            · exact HD.out j (by omega)
          case measure => simp [intOf]; omega
    · have hlt' : ¬ (i : Int) < (s.size : Int) := by omega
      have hin : i = s.size := by omega
      have HF : Hid (R = decide (0 < s.size)) := by
        show _ = _
        rw [HR.out]
        by_cases h0 : 0 < s.size
        · rw [decide_eq_true h0]
          exact decide_eq_true ⟨fun j hj => HD.out j (by omega), h0⟩
        · rw [decide_eq_false h0]
          exact decide_eq_false fun h => h0 h.2
      go_wp2
      go_ret
      exact ⟨(ret_bool HF.out).symm, rfl⟩
end Go.Proofs.YtdfmmaehmngkhaaDoor

namespace Go.Proofs.YtdfmmaehmngkhaaDoor
open Go.RowKit

theorem Tryd.infoU : (Tryd.prog.info? 68).map (fun i => (i.zero, i.size, i.bytes)) = some (some (.int .u32 0), 1, 4) := by kernel_rfl

theorem val_two (u : Nat) : val [u % 4294967296, u / 4294967296] = u := by simp [val]; omega

set_option maxHeartbeats 400000 in
theorem of_any (u : Nat) (w : World) (hu : u < 18446744073709551616) :
    Calls Tryd.prog 20 #[.int .u64 (u : Int)] w fun e w' => ∃ v, e = .returned v ∧ Own w.heap.size 68 w' v (lim u) ∧ Below w.heap.size w w' := by
  have hb : limbs [u % 4294967296, u / 4294967296] := by
    intro x hx
    simp at hx
    omega
  have how := Own.lit (B := w.heap.size) 68 w #[.int .u32 ((u : Int) % 4294967296), .int .u32 ((u : Int) / 4294967296)] [u % 4294967296, u / 4294967296] hb (Nat.le_refl _) (by simp [maxLen]) (by simp [U])
  have hbel : Below w.heap.size w (w.alloc (.cells #[.int .u32 ((u : Int) % 4294967296), .int .u32 ((u : Int) / 4294967296)] 68)) := (Below.refl _ _).alloc (Nat.le_refl _) _
  go_enter Tryd.func20, Tryd.ntmps20
  go_wp2_with fail
  refine (trim_any _ _ _ how.num).mono ?_
  rintro e w' ⟨⟨k, hk, hk2, rfl⟩, rfl⟩
  have how2 := how.cut hk
  rw [hk2, val_two] at how2
  clear how hk2 hb
  go_wp2
  go_ret
  exact ⟨_, rfl, how2, hbel⟩

theorem or_high (x y : Nat) (hx : x < 4294967296) (hy : y < 4294967296) : bits BinOp.or IntKind.u64 (x : Int) ((y : Int) * 4294967296) = ((x + 4294967296 * y : Nat) : Int) := by
  have h := bits_or_u64_nat x (y * 4294967296) (by omega) (by omega)
  rw [show ((y : Int) * 4294967296) = ((y * 4294967296 : Nat) : Int) by omega, h]
  congr 1
  have h2 := Nat.shiftLeft_add_eq_or_of_lt (i := 32) (b := x) (by simpa using hx) y
  rw [Nat.shiftLeft_eq, show (2 ^ 32 : Nat) = 4294967296 from rfl] at h2
  rw [Nat.or_comm, ← h2]; omega

theorem or_halves (V : Nat) (h : V < 18446744073709551616) : bits BinOp.or IntKind.u64 ((V : Int) % 4294967296) ((V : Int) / 4294967296 * 4294967296) = (V : Int) := by
  have hor := or_high (V % 4294967296) (V / 4294967296) (by omega) (by omega)
  rw [Int.natCast_emod, Int.natCast_ediv] at hor
  refine hor.trans ?_
  omega

end Go.Proofs.YtdfmmaehmngkhaaDoor

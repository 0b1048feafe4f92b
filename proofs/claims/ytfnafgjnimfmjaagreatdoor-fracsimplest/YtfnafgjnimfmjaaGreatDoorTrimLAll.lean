/-
  Proved here: plain facts on numbers written with digits. No condition.
  Proved here: what digitsAlone answers.
  Proved here: what appendDigits answers.
  Proved here: what Parse answers.
  Proved here: what strings.TrimLeft answers at the cutset 0.
-/
import Derived.Test.YtfnafgjnimfmjaaGreatDoorCmpAll
import Derived.Test.YtfnafgjnimfmjaaGreatDoorTrimAll
import Derived.Test.YtfnafgjnimfmjaaGreatDoorSubAll
import Derived.Test.YtfnafgjnimfmjaaGreatDoorRefBAll
import Derived.Test.YtfnafgjnimfmjaaGreatDoorMul
import Derived.Test.YtfnafgjnimfmjaaGreatDoorDivMathAll
namespace Go.Proofs.YtfnafgjnimfmjaaGreatDoor

/-- The number of some digits, the lowest one first. -/
def dval : List Nat → Nat
  | [] => 0
  | x :: r => x + 10 * dval r
def decs (xs : List Nat) : Prop := ∀ x ∈ xs, x < 10
def ddigs : Nat → Nat → List Nat
  | 0, _ => []
  | f + 1, n => if n = 0 then [] else n % 10 :: ddigs f (n / 10)
/-- A number's digits, the lowest one first; 0 has none. -/
def dec (n : Nat) : List Nat := ddigs n n

theorem ddigs_zero (f : Nat) : ddigs f 0 = [] := by cases f <;> simp [ddigs]
theorem ddigs_fuel : ∀ (f g n : Nat), n ≤ f → n ≤ g → ddigs f n = ddigs g n
  | 0, g, n, h, _ => by
    have : n = 0 := by omega
    subst this; rw [ddigs_zero, ddigs_zero]
  | f + 1, 0, n, _, h => by
    have : n = 0 := by omega
    subst this; rw [ddigs_zero, ddigs_zero]
  | f + 1, g + 1, n, h1, h2 => by
    unfold ddigs
    by_cases h : n = 0
    · rw [if_pos h, if_pos h]
    · rw [if_neg h, if_neg h, ddigs_fuel f g (n / 10) (by omega) (by omega)]
theorem dec_zero : dec 0 = [] := rfl
theorem dec_pos {n : Nat} (h : n ≠ 0) : dec n = n % 10 :: dec (n / 10) := by
  obtain ⟨m, rfl⟩ : ∃ m, n = m + 1 := ⟨n - 1, by omega⟩
  conv => lhs; unfold dec ddigs
  rw [if_neg h]
  congr 1
  exact ddigs_fuel _ _ _ (by omega) (Nat.le_refl _)
theorem dec_step (n : Nat) : dval (dec n) = n ∧ decs (dec n) := by
  induction n using Nat.strongRecOn with
  | ind n ih =>
    by_cases h : n = 0
    · subst h; exact ⟨rfl, fun x hx => by simp [dec_zero] at hx⟩
    · rw [dec_pos h]
      have := ih (n / 10) (by omega)
      refine ⟨by simp only [dval]; rw [this.1]; omega, fun x hx => ?_⟩
      rcases List.mem_cons.1 hx with rfl | h1
      · omega
      · exact this.2 x h1
theorem dval_dec (n : Nat) : dval (dec n) = n := (dec_step n).1
theorem dec_ne {n : Nat} (h : n ≠ 0) : dec n ≠ [] := by rw [dec_pos h]; simp
theorem dval_append (a b : List Nat) : dval (a ++ b) = dval a + 10 ^ a.length * dval b := by
  induction a with
  | nil => simp [dval]
  | cons x r ih =>
    simp only [List.cons_append, dval, List.length_cons, ih, Nat.mul_add, ← Nat.mul_assoc, Nat.pow_succ]
    rw [Nat.mul_comm 10 (10 ^ r.length)]
    omega
theorem decs_cons {x : Nat} {r : List Nat} : decs (x :: r) ↔ x < 10 ∧ decs r := by
  constructor
  · intro h; exact ⟨h x (by simp), fun y hy => h y (by simp [hy])⟩
  · rintro ⟨h1, h2⟩ y hy
    rcases List.mem_cons.1 hy with rfl | h
    · exact h1
    · exact h2 y h
theorem decs_append {a b : List Nat} (ha : decs a) (hb : decs b) : decs (a ++ b) := fun x hx => by
  rcases List.mem_append.1 hx with h | h
  · exact ha x h
  · exact hb x h
theorem decs_rev {a : List Nat} (ha : decs a) : decs a.reverse := fun x hx => ha x (List.mem_reverse.1 hx)
theorem decs_take {a : List Nat} (ha : decs a) (k : Nat) : decs (a.take k) := fun x hx => ha x (List.mem_of_mem_take hx)
theorem decs_drop {a : List Nat} (ha : decs a) (k : Nat) : decs (a.drop k) := fun x hx => ha x (List.mem_of_mem_drop hx)
theorem dval_lt {xs : List Nat} (h : decs xs) : dval xs < 10 ^ xs.length := by
  induction xs with
  | nil => simp [dval]
  | cons x r ih =>
    have hx := decs_cons.1 h
    have := ih hx.2
    simp only [dval, List.length_cons, Nat.pow_succ]
    omega
theorem dval_zeros : ∀ {xs : List Nat}, (∀ x ∈ xs, x = 0) → dval xs = 0
  | [], _ => rfl
  | x :: r, h => by
    simp only [dval]
    rw [dval_zeros (xs := r) (fun y hy => h y (by simp [hy])), h x (by simp)]
theorem dec_last : ∀ {xs : List Nat}, decs xs → (∀ h : xs ≠ [], xs.getLast h ≠ 0) → dec (dval xs) = xs
  | [], _, _ => rfl
  | [x], hb, hl => by
    have hx := (decs_cons.1 hb).1
    have h0 : x ≠ 0 := by have := hl (by simp); simpa using this
    simp only [dval, Nat.mul_zero, Nat.add_zero]
    rw [dec_pos h0, Nat.mod_eq_of_lt hx, Nat.div_eq_of_lt hx, dec_zero]
  | x :: y :: r, hb, hl => by
    have hx := decs_cons.1 hb
    have ih := dec_last (xs := y :: r) hx.2 (fun _ => by have := hl (by simp); simpa using this)
    have hp : dval (y :: r) ≠ 0 := by
      intro h0
      rw [h0, dec_zero] at ih
      simp at ih
    have h1 : x + 10 * dval (y :: r) ≠ 0 := by omega
    show dec (x + 10 * dval (y :: r)) = _
    rw [dec_pos h1, show (x + 10 * dval (y :: r)) % 10 = x by omega, show (x + 10 * dval (y :: r)) / 10 = dval (y :: r) by omega, ih]
/-- The number of some digits, the highest one first. -/
def bval (ds : List Nat) : Nat := dval ds.reverse
theorem bval_snoc (ds : List Nat) (d : Nat) : bval (ds ++ [d]) = bval ds * 10 + d := by
  simp only [bval, List.reverse_append, List.reverse_cons, List.reverse_nil, List.nil_append, List.cons_append, dval]; omega
theorem bval_append (a b : List Nat) : bval (a ++ b) = bval a * 10 ^ b.length + bval b := by
  simp only [bval, List.reverse_append, dval_append, List.length_reverse]
  rw [Nat.mul_comm]; omega
theorem bval_zeros_ahead {a b : List Nat} (h : ∀ x ∈ a, x = 0) : bval (a ++ b) = bval b := by
  rw [bval_append]
  have : bval a = 0 := dval_zeros fun x hx => h x (List.mem_reverse.1 hx)
  rw [this, Nat.zero_mul, Nat.zero_add]
/-- The noughts ahead are gone: these are the digits. -/
theorem dec_head {ds : List Nat} (hd : decs ds) (h0 : ∀ h : ds ≠ [], ds.head h ≠ 0) : (dec (bval ds)).reverse = ds := by
  unfold bval
  rw [dec_last (decs_rev hd) (fun h => by rw [List.getLast_reverse]; exact h0 _), List.reverse_reverse]
theorem head_pos {ds : List Nat} (hd : decs ds) (h : ds ≠ []) (h0 : ds.head h ≠ 0) : bval ds ≠ 0 := by
  intro e
  have := dec_head hd (fun _ => h0)
  rw [e, dec_zero] at this
  exact h this.symm
/-- How a number is written: the highest digit first; 0 is one nought. -/
def wri (n : Nat) : List Nat := if n = 0 then [0] else (dec n).reverse
theorem wri_ne (n : Nat) : wri n ≠ [] := by
  unfold wri
  split
  · simp
  · rename_i h; simpa using dec_ne h
theorem wri_head {n : Nat} (h : n ≠ 0) (hh : wri n ≠ []) : (wri n).head hh ≠ 0 := by
  intro e
  have hd : wri n = (dec n).reverse := by unfold wri; rw [if_neg h]
  obtain ⟨x, r, hx⟩ := List.exists_cons_of_ne_nil hh
  simp only [hx, List.head_cons] at e
  have hl : (dec n) = r.reverse ++ [0] := by
    have : (dec n).reverse.reverse = (x :: r).reverse := by rw [← hd, hx]
    rw [List.reverse_reverse, List.reverse_cons, e] at this
    exact this
  have h1 := dval_dec n
  rw [hl, dval_append] at h1
  simp only [dval, Nat.mul_zero, Nat.add_zero] at h1
  -- the digits without the last nought are the same number's
  have h2 : ∀ m : Nat, dec m ≠ [] → (dec m).getLast? ≠ some 0 := by
    intro m
    induction m using Nat.strongRecOn with
    | ind m ih =>
      intro hm
      have hm0 : m ≠ 0 := by intro h0; subst h0; exact hm rfl
      rw [dec_pos hm0]
      by_cases hq : m / 10 = 0
      · rw [hq, dec_zero]; simp; omega
      · have := ih (m / 10) (by omega) (dec_ne hq)
        obtain ⟨y, t, ht⟩ := List.exists_cons_of_ne_nil (dec_ne hq)
        rw [ht] at this ⊢
        rw [List.getLast?_cons_cons]; exact this
  exact h2 n (dec_ne h) (by rw [hl]; simp)
/-- Noughts ahead of a digit that is none, or of the last digit. -/
theorem wri_drop {ds : List Nat} (hd : decs ds) {k : Nat} (hk : k < ds.length) (hz : ∀ j, j < k → ds.getD j 0 = 0) (hl : ds.getD k 0 ≠ 0 ∨ k + 1 = ds.length) : wri (bval ds) = ds.drop k := by
  have hs : ds = ds.take k ++ ds.drop k := (List.take_append_drop k ds).symm
  have hb : bval ds = bval (ds.drop k) := by
    conv => lhs; rw [hs]
    apply bval_zeros_ahead
    intro x hx
    obtain ⟨j, hj, rfl⟩ := List.getElem_of_mem hx
    simp only [List.length_take] at hj
    have := hz j (by omega)
    rw [List.getElem_take]
    rw [List.getD_eq_getElem?_getD, List.getElem?_eq_getElem (by omega)] at this
    simpa using this
  have hne : ds.drop k ≠ [] := by simp; omega
  have hhd : (ds.drop k).head hne = ds.getD k 0 := by
    rw [List.head_drop, List.getD_eq_getElem?_getD, List.getElem?_eq_getElem (by omega)]; rfl
  rw [hb]
  by_cases h0 : ds.getD k 0 = 0
  · have h1 : k + 1 = ds.length := by rcases hl with h | h; exact absurd h0 h; exact h
    obtain ⟨x, r, hx⟩ := List.exists_cons_of_ne_nil hne
    have hr : r = [] := by
      have : (ds.drop k).length = 1 := by simp; omega
      rw [hx] at this
      simpa using this
    simp only [hx, List.head_cons] at hhd
    rw [hx, hr, hhd, h0]; rfl
  · have h1 : bval (ds.drop k) ≠ 0 := head_pos (decs_drop hd k) hne (by rw [hhd]; exact h0)
    unfold wri
    rw [if_neg h1]
    exact dec_head (decs_drop hd k) fun _ => by rw [hhd]; exact h0
end Go.Proofs.YtfnafgjnimfmjaaGreatDoor

namespace Go.Proofs.YtfnafgjnimfmjaaGreatDoor
open Go.RowKit

/-- A byte of a text. -/
def bt (s : ByteArray) (i : Nat) : Nat := (s.data.toList.getD i 0).toNat
theorem bt_get {s : ByteArray} {i : Nat} (h : i < s.size) : s[i].toNat = bt s i := by
  unfold bt
  rw [List.getD_eq_getElem?_getD, Array.getElem?_toList, Array.getElem?_eq_getElem h]
  rfl
theorem bt_lt (s : ByteArray) (i : Nat) : bt s i < 256 := UInt8.toNat_lt _
/-- The digits of a text. -/
def dgs (s : ByteArray) : List Nat := s.data.toList.map fun b => b.toNat - 48
theorem dgs_len (s : ByteArray) : (dgs s).length = s.size := by unfold dgs; rw [List.length_map]; exact Array.length_toList
theorem dgs_at {s : ByteArray} {i : Nat} (h : i < s.size) : (dgs s).getD i 0 = bt s i - 48 := by
  unfold dgs bt
  rw [List.getD_eq_getElem?_getD, List.getElem?_map, List.getD_eq_getElem?_getD]
  have : i < s.data.toList.length := by simpa using h
  rw [List.getElem?_eq_getElem this]; rfl
/-- All bytes are digits. -/
def DigOk (s : ByteArray) : Prop := ∀ i, i < s.size → 48 ≤ bt s i ∧ bt s i ≤ 57
theorem DigOk.decs {s : ByteArray} (h : DigOk s) : decs (dgs s) := fun x hx => by
  obtain ⟨i, hi, rfl⟩ := List.getElem_of_mem hx
  rw [dgs_len] at hi
  have h1 := dgs_at hi
  rw [List.getD_eq_getElem?_getD, List.getElem?_eq_getElem (by rw [dgs_len]; exact hi)] at h1
  have h2 := h i hi
  simp at h1
  omega
theorem ret_bool {a b : Bool} (h : a = b) : Ending.returned (.bool a) = .returned (.bool b) := by rw [h]
instance (s : ByteArray) : Decidable (DigOk s) := inferInstanceAs (Decidable (∀ i, i < s.size → _))

set_option maxRecDepth 100000 in
set_option maxHeartbeats 1600000 in
theorem digitsAlone_any (s : ByteArray) (w : World) (hs : s.size ≤ 9223372036854775807) :
    Calls Tryz.prog 81 #[.string s] w fun e w' => e = .returned (.bool (decide (DigOk s ∧ 0 < s.size))) ∧ w' = w := by
  obtain ⟨n, hn⟩ : ∃ n, n = s.size := ⟨_, rfl⟩
  obtain ⟨R, hR⟩ : ∃ R, R = decide (DigOk s ∧ 0 < s.size) := ⟨_, rfl⟩
  rw [← hR]
  have HR : Hid (R = decide (DigOk s ∧ 0 < s.size)) := hR
  clear hR
  go_enter Tryz.func81, Tryz.ntmps81
  go_wp2
  go_loop [6] (fun t => ∃ i : Nat, i ≤ s.size ∧ t = .int .i64 i ∧ ∀ j, j < i → 48 ≤ bt s j ∧ bt s j ≤ 57) (fun t => s.size - (intOf t).toNat)
  case atStart => exact ⟨0, Nat.zero_le _, rfl, fun j hj => by omega⟩
  case round =>
    obtain ⟨i, hi, rfl, hd⟩ := hrel
    have HD : Hid (∀ j, j < i → 48 ≤ bt s j ∧ bt s j ≤ 57) := hd
    clear hd
    by_cases hlt : i < s.size
    · have hlt' : (i : Int) < (s.size : Int) := by omega
      have hg := bt_get hlt
      have hb := bt_lt s i
      obtain ⟨c, hc⟩ : ∃ c, c = bt s i := ⟨_, rfl⟩
      rw [← hc] at hg hb
      have HC : Hid (c = bt s i) := hc
      clear hc
      by_cases h1 : c < 48
      · have h1' : (c : Int) < 48 := by omega
        have HF : Hid (R = false) := by
          show _ = _
          rw [HR.out]
          refine decide_eq_false fun h => ?_
          have := h.1 i hlt
          rw [← HC.out] at this; omega
        go_wp2
        go_ret
        exact ⟨(ret_bool HF.out).symm, rfl⟩
      · have h1' : ¬ (c : Int) < 48 := by omega
        by_cases h2 : 57 < c
        · have h2' : (57 : Int) < (c : Int) := by omega
          have HF : Hid (R = false) := by
            show _ = _
            rw [HR.out]
            refine decide_eq_false fun h => ?_
            have := h.1 i hlt
            rw [← HC.out] at this; omega
          go_wp2
          go_ret
          exact ⟨(ret_bool HF.out).symm, rfl⟩
        · have h2' : ¬ (57 : Int) < (c : Int) := by omega
          go_wp2
          go_round
          case rel =>
            refine ⟨i + 1, by omega, by go_num, fun j hj => ?_⟩
            by_cases hji : j = i
            · rw [hji, ← HC.out]; omega
            · exact HD.out j (by omega)
          case measure => simp [intOf]; omega
    · have hlt' : ¬ (i : Int) < (s.size : Int) := by omega
      have hin : i = s.size := by omega
      have HF : Hid (R = decide (0 < s.size)) := by
        show _ = _
        rw [HR.out]
        by_cases h0 : 0 < s.size
        · rw [decide_eq_true h0]
          exact decide_eq_true ⟨fun j hj => HD.out j (by omega), h0⟩
        · rw [decide_eq_false h0]
          exact decide_eq_false fun h => h0 h.2
      go_wp2
      go_ret
      exact ⟨(ret_bool HF.out).symm, rfl⟩
end Go.Proofs.YtfnafgjnimfmjaaGreatDoor

namespace Go.Proofs.YtfnafgjnimfmjaaGreatDoor
open Go.RowKit

theorem dig_step {xs ys : List Nat} {i sc c c0 : Nat} (hi : i < ys.length) (h : low ys i + 4294967296 ^ i * c = low xs i * sc + c0) :
    low (ys.set i ((c + xs.getD i 0 * sc) % 4294967296)) (i + 1) + 4294967296 ^ (i + 1) * ((c + xs.getD i 0 * sc) / 4294967296) = low xs (i + 1) * sc + c0 := by
  rw [low_set_succ _ _ _ hi, low_succ xs i, Nat.pow_succ, Nat.add_assoc, carry_eq, Nat.mul_add, Nat.add_mul, Nat.mul_assoc]
  omega
theorem take_snoc {l : List Nat} {i : Nat} (h : i < l.length) : l.take (i + 1) = l.take i ++ [l.getD i 0] := by
  rw [List.take_add_one, List.getD_eq_getElem?_getD, List.getElem?_eq_getElem h]; rfl
theorem ten_le {i n : Nat} (h : i ≤ n) : 10 ^ i ≤ 10 ^ n := Nat.pow_le_pow_right (by decide) h

/-- What appendDigits leaves. -/
def DigEnd (B : Nat) (w : World) (v : Nat) (s : ByteArray) (e : Ending) (w' : World) : Prop :=
  ∃ u, e = .returned u ∧ Own B 37 w' u (lim (v * 10 ^ s.size + bval (dgs s))) ∧ Below B w w'

set_option maxRecDepth 100000 in
set_option maxHeartbeats 3200000 in
theorem appendDigits_any (B v : Nat) (u : Value) (s : ByteArray) (w : World) (h : Own B 37 w u (lim v)) (hB : B ≤ w.heap.size) (hl : (lim v).length ≤ 1000000) (hs : s.size ≤ 9) (hd : DigOk s) :
    Calls Tryz.prog 82 #[u, .string s] w fun e w' => DigEnd B w v s e w' := by
  obtain ⟨iU, hiU, hzU0, hzU1, hzU2⟩ := info_parts Tryz.infoU
  obtain ⟨ao, cap, rfl, hao, hlc, hcm⟩ := h.ao
  obtain ⟨n, hn⟩ : ∃ n, n = (lim v).length := ⟨_, rfl⟩
  rw [← hn] at hao hlc hl h ⊢
  have HN : Hid (n = (lim v).length) := hn
  have HDD : Hid (decs (dgs s)) := hd.decs
  clear hn
  go_enter Tryz.func82, Tryz.ntmps82
  go_wp2
  go_loop [5, 6, 12] (fun sv cv t => ∃ i sc c : Nat, i ≤ s.size ∧ t = .int .i64 i ∧ sv = .int .u64 sc ∧ cv = .int .u64 c ∧ sc = 10 ^ i ∧ c = bval ((dgs s).take i)) (fun _ _ t => s.size - (intOf t).toNat)
  case atStart => exact ⟨0, 1, 0, Nat.zero_le _, rfl, rfl, rfl, rfl, rfl⟩
  case round =>
    obtain ⟨i, sc, c, hi, rfl, rfl, rfl, hsc, hc⟩ := hrel
    have HSC : Hid (sc = 10 ^ i) := hsc
    have HC : Hid (c = bval ((dgs s).take i)) := hc
    have hcs : c < sc := by
      rw [hsc, hc]
      have h1 := dval_lt (decs_rev (decs_take HDD.out i))
      rw [List.length_reverse, List.length_take, dgs_len, Nat.min_eq_left hi] at h1
      exact h1
    clear hsc hc
    by_cases hlt : i < s.size
    · have hlt' : (i : Int) < (s.size : Int) := by omega
      have hsc9 : sc ≤ 100000000 := by rw [HSC.out]; exact ten_le (n := 8) (by omega)
      have hg := bt_get hlt
      have hb := hd i hlt
      have hda := dgs_at hlt
      obtain ⟨b, hbb⟩ : ∃ b, b = bt s i := ⟨_, rfl⟩
      rw [← hbb] at hg hb hda
      have HDA : Hid ((dgs s).getD i 0 = b - 48) := hda
      have hb1 : (48 : Int) ≤ (b : Int) := by omega
      have hb2 : (b : Int) ≤ 57 := by omega
      clear hbb hda
      go_wp2
      go_round
      case rel =>
        refine ⟨i + 1, sc * 10, c * 10 + (b - 48), by omega, by go_num, by go_num, ?_, ?_, ?_⟩
        · congr 1; omega
        · rw [HSC.out, Nat.pow_succ]
        · rw [take_snoc (by rw [dgs_len]; exact hlt), bval_snoc, HDA.out, HC.out]
      case measure => simp [intOf]; omega
    · have hlt' : ¬ (i : Int) < (s.size : Int) := by omega
      have hin : i = s.size := by omega
      subst hin
      have hsc9 : sc ≤ 1000000000 := by rw [HSC.out]; exact ten_le (n := 9) (by omega)
      rw [List.take_of_length_le (by rw [dgs_len]; exact Nat.le_refl _)] at HC
      have HOW : Hid (Own B 37 w (.slice ao n cap) (lim v)) := h
      clear h
      have hsc1 : 1 ≤ sc := by omega
      have HTG : Hid (v * 10 ^ s.size + bval (dgs s) = v * sc + c) := by show _ = _; rw [HSC.out, HC.out]
      clear hcs hi hlt
      have hc0 : c < sc := by
        rw [HSC.out, HC.out]
        have h1 := dval_lt (decs_rev HDD.out)
        rw [List.length_reverse, dgs_len] at h1
        exact h1
      have HC0 : Hid (c < sc) := hc0
      clear hc0
      go_wp2
      go_loopw [6, 28] (fun cv t wr => ∃ (i k : Nat) (ys : List Nat), i ≤ n ∧ t = .int .i64 i ∧ cv = .int .u64 k ∧ k < sc ∧ ys.length = n ∧ Own B 37 wr (.slice ao n cap) ys ∧ Below B w wr ∧ (∀ j, i ≤ j → ys.getD j 0 = (lim v).getD j 0) ∧ low ys i + 4294967296 ^ i * k = low (lim v) i * sc + c) (fun _ t _ => n - (intOf t).toNat)
      case atStart => exact ⟨0, c, lim v, Nat.zero_le _, rfl, rfl, HC0.out, HN.out.symm, HOW.out, Below.refl _ _, fun _ _ => rfl, by simp [low_zero]⟩
      case round =>
        clear HOW HC0
        obtain ⟨i, k, ys, hin, rfl, rfl, hk, hyl, how, hbel, hsame, hinv⟩ := hrel
        have HY : Hid (ys.length = n) := hyl
        have HS : Hid (∀ j, i ≤ j → ys.getD j 0 = (lim v).getD j 0) := hsame
        have HI : Hid (low ys i + 4294967296 ^ i * k = low (lim v) i * sc + c) := hinv
        clear hyl hsame hinv
        by_cases hlt : i < n
        · have hlt' : (i : Int) < (n : Int) := by omega
          obtain ⟨g, rfl⟩ := hao (by omega)
          obtain ⟨cz, hfz⟩ := how.cell (k := i) (by rw [HY.out]; exact hlt)
          rw [HS.out i (Nat.le_refl _)] at cz
          have hx0 := limb_lt (limbs_lim v) i
          obtain ⟨x, hx⟩ : ∃ x, x = (lim v).getD i 0 := ⟨_, rfl⟩
          rw [← hx] at cz hx0
          have HX : Hid (x = (lim v).getD i 0) := hx
          have hxs : x * sc + sc ≤ 4294967296 * sc := by
            have := Nat.mul_le_mul_right sc (show x + 1 ≤ 4294967296 by omega)
            rw [Nat.add_mul, Nat.one_mul] at this; exact this
          obtain ⟨t, ht⟩ : ∃ t, t = x * sc := ⟨_, rfl⟩
          rw [← ht] at hxs
          have et : (x : Int) * (sc : Int) = (t : Int) := by rw [ht]; exact (Int.natCast_mul x sc).symm
          have HT : Hid (t = x * sc) := ht
          have htb : t ≤ 4294967296000000000 := by omega
          have hk2 : (k + t) / 4294967296 < sc := by omega
          have hset := how.set HY.out i ((k + t) % 4294967296) (by omega)
          have hbel2 := hbel.setCell (p := ⟨g, i, none⟩) (by exact how.heap.1) (U ((k + t) % 4294967296))
          rw [show U ((k + t) % 4294967296) = .int .u32 (((k : Int) + (t : Int)) % 4294967296) by simp [U]] at hset hbel2
          clear hx ht how hbel hxs
          go_wp2
          go_roundw
          case rel =>
            refine ⟨i + 1, (k + t) / 4294967296, _, by omega, by go_num, by go_num, hk2, by rw [List.length_set]; exact HY.out, hset, hbel2, fun j hj => ?_, ?_⟩
            · rw [getD_set_off _ _ _ _ (by omega)]; exact HS.out j (by omega)
            · rw [HT.out, HX.out]; exact dig_step (by rw [HY.out]; exact hlt) HI.out
          case measure => simp [intOf]; omega
        · have hlt' : ¬ (i : Int) < (n : Int) := by omega
          have hin2 : i = n := by omega
          subst hin2
          have hI := HI.out
          rw [low_all (xs := lim v) (by rw [← HN.out]; exact Nat.le_refl _), low_all (xs := ys) (by rw [HY.out]; exact Nat.le_refl _), val_lim] at hI
          have HI2 : Hid (val ys + 4294967296 ^ i * k = v * sc + c) := hI
          clear hI HI
          by_cases hk0 : k = 0
          · subst hk0
            have HE : Hid (DigEnd B w v s (.returned (.slice ao i cap)) wr) := by
              refine ⟨_, rfl, ?_, hbel⟩
              have h1 := HI2.out
              rw [Nat.mul_zero, Nat.add_zero] at h1
              rw [HTG.out, ← h1]
              have h2 : lim (val ys) = ys := by
                rcases Nat.eq_zero_or_pos i with h0 | h0
                · have : ys = [] := List.eq_nil_of_length_eq_zero (by rw [HY.out, h0])
                  rw [this]; rfl
                · obtain ⟨m, rfl⟩ : ∃ m, i = m + 1 := ⟨i - 1, by omega⟩
                  refine lim_of_ge how.1 HY.out ?_
                  have h3 := lim_ge HN.out.symm
                  have h4 := Nat.le_mul_of_pos_right v (show 0 < sc by omega)
                  omega
              rw [h2]; exact how
            clear how hbel hao
            go_wp2
            go_ret
            exact HE.out
          · have hk0' : ¬ (k : Int) = 0 := by omega
            have hk32 : k < 4294967296 := by omega
            have hbw : B ≤ wr.heap.size := Nat.le_trans hB hbel.size
            have HO : Hid (wr.ownsRow B 37 1 (.slice ao i cap) i (ys.map U)) := by have := how.2; rw [HY.out] at this; exact this
            have hB3 : B ≤ (wr.alloc (.cells #[.int .u32 (k : Int)] 37)).heap.size := by simp; omega
            go_wp2_with (at_builtin; refine wpList_push _ rfl _ _ 23 rfl B 37 iU (.int .u32 0) 4 Tryz.underlying23 hiU hzU0 hzU1 hzU2 rfl _ i (ys.map U) rfl (HO.out.alloc _) ⟨wr.heap.size, 0, none⟩ 1 1 [.int .u32 (k : Int)] rfl rfl (cell_one_new _ _ _) (fun u hu => by simp at hu; subst hu; rfl) (by decide) (by unfold maxLen; omega) (by omega) hB3 ?_)
            intro v' w5 ho hgr _ _
            have R := push_own (d := k) how hbel hbw hk32 (by rw [HY.out, show U k = .int .u32 (k : Int) from rfl]; exact ho) hgr
            have HE : Hid (DigEnd B w v s (.returned v') w5) := by
              refine ⟨_, rfl, ?_, R.2.1⟩
              rw [HTG.out, ← HI2.out]
              have h2 := lim_snoc how.1 hk32 hk0
              rw [HY.out] at h2
              rw [h2]; exact R.1
            clear ho hgr how hbel HO hB3 R hao
            go_wp2
            go_ret
            exact HE.out
end Go.Proofs.YtfnafgjnimfmjaaGreatDoor

namespace Go.Proofs.YtfnafgjnimfmjaaGreatDoor
open Go.RowKit

def szOf : Value → Nat
  | .string r => r.size
  | _ => 0
/-- What Parse leaves. -/
def ParseEnd (w : World) (s : ByteArray) (e : Ending) (w' : World) : Prop :=
  ∃ u, e = .returned (.tuple #[u, .int .i64 (if DigOk s ∧ 0 < s.size then 0 else 10)]) ∧ Own w.heap.size 37 w' u (if DigOk s ∧ 0 < s.size then lim (bval (dgs s)) else []) ∧ Below w.heap.size w w'

theorem extract_list (r : ByteArray) (a b : Nat) : (r.extract a b).data.toList = (r.data.toList.drop a).take (b - a) := by
  rw [ByteArray.data_extract, Array.toList_extract]
theorem dgs_part {s c : ByteArray} {k m : Nat} (h : c.data.toList = (s.data.toList.drop k).take m) : dgs c = ((dgs s).drop k).take m := by
  unfold dgs; rw [h, List.map_take, List.map_drop]
theorem size_part {s c : ByteArray} {k m : Nat} (h : c.data.toList = (s.data.toList.drop k).take m) : c.size = min m (s.size - k) := by
  have : c.data.toList.length = min m (s.size - k) := by rw [h, List.length_take, List.length_drop, Array.length_toList]; rfl
  rw [Array.length_toList] at this; exact this
theorem bt_part {s c : ByteArray} {k m i : Nat} (h : c.data.toList = (s.data.toList.drop k).take m) (hi : i < m) : bt c i = bt s (k + i) := by
  unfold bt
  rw [h, List.getD_eq_getElem?_getD, List.getElem?_take_of_lt hi, List.getElem?_drop, ← List.getD_eq_getElem?_getD]
theorem DigOk.part {s c : ByteArray} {k m : Nat} (hd : DigOk s) (h : c.data.toList = (s.data.toList.drop k).take m) : DigOk c := fun i hi => by
  have hs := size_part h
  rw [bt_part h (by omega)]
  exact hd _ (by omega)
theorem bval_chunk {s c : ByteArray} {k m : Nat} (h : c.data.toList = (s.data.toList.drop k).take m) : bval ((dgs s).take (k + m)) = bval ((dgs s).take k) * 10 ^ c.size + bval (dgs c) := by
  rw [List.take_add, bval_append, ← dgs_part h, dgs_len]

set_option maxRecDepth 100000 in
set_option maxHeartbeats 3200000 in
theorem parse_any (s : ByteArray) (w : World) (hs : s.size ≤ 1000000) :
    Calls Tryz.prog 49 #[.string s] w fun e w' => ParseEnd w s e w' := by
  go_enter Tryz.func49, Tryz.ntmps49
  go_wp2_with fail
  refine (digitsAlone_any _ _ (by omega)).mono ?_
  rintro e w1 ⟨rfl, rfl⟩
  by_cases hd : DigOk s ∧ 0 < s.size
  · rw [decide_eq_true hd]
    have HD : Hid (DigOk s) := hd.1
    have HDD : Hid (DigOk s ∧ 0 < s.size) := hd
    clear hd
    go_wp2_with fail
    go_loopw [0, 4] (fun sv t wr => ∃ (k : Nat) (r : ByteArray), k ≤ s.size ∧ sv = .string r ∧ r.data.toList = s.data.toList.drop k ∧ Own w1.heap.size 37 wr t (lim (bval ((dgs s).take k))) ∧ Below w1.heap.size w1 wr) (fun sv _ _ => szOf sv)
    case atStart => exact ⟨0, s, Nat.zero_le _, rfl, rfl, Own.of_nil _ _ _, Below.refl _ _⟩
    case round =>
      obtain ⟨k, r, hk, rfl, hr, how, hbel⟩ := hrel
      have HRR : Hid (r.data.toList = s.data.toList.drop k) := hr
      clear hr
      have hrs : r.size = s.size - k := by
        have h1 : r.data.toList.length = s.size - k := by rw [HRR.out, List.length_drop, Array.length_toList]; rfl
        rw [Array.length_toList] at h1; exact h1
      have HRS : Hid (r.size = s.size - k) := hrs
      have hll : (lim (bval ((dgs s).take k))).length ≤ 1000000 := by
        have h2 : (lim (bval ((dgs s).take k))).length ≤ k := by
          apply lim_len_le
          have h1 := dval_lt (decs_rev (decs_take HD.out.decs k))
          rw [List.length_reverse, List.length_take, dgs_len, Nat.min_eq_left hk] at h1
          exact Nat.lt_of_lt_of_le h1 (Nat.pow_le_pow_left (by decide : 10 ≤ 4294967296) k)
        omega
      have hbw : w1.heap.size ≤ wr.heap.size := hbel.size
      clear hrs
      by_cases hlt : 0 < r.size
      · have hlt' : (0 : Int) < (r.size : Int) := by omega
        by_cases h9 : r.size ≤ 9
        · have h9' : (r.size : Int) ≤ 9 := by omega
          have hc : r.data.toList = (s.data.toList.drop k).take r.size := by
            rw [← HRR.out, List.take_of_length_le (by rw [Array.length_toList]; exact Nat.le_refl _)]
          have HBV : Hid (bval ((dgs s).take (k + r.size)) = bval ((dgs s).take k) * 10 ^ r.size + bval (dgs r)) := bval_chunk hc
          have HDR : Hid (DigOk r) := HD.out.part hc
          clear hc
          go_wp2_with fail
          refine (appendDigits_any w1.heap.size _ _ r wr how hbw hll h9 HDR.out).mono ?_
          rintro e w2 ⟨u, rfl, hou, hb2⟩
          rw [← HBV.out] at hou
          have hbel2 := hbel.trans hb2
          clear how hbel hb2 HBV
          go_wp2_with fail
          go_roundw
          case rel =>
            have hrs := HRS.out
            refine ⟨k + r.size, _, by omega, rfl, ?_, hou, hbel2⟩
            rw [List.drop_of_length_le (by rw [Array.length_toList]; show s.size ≤ _; omega)]; rfl
          case measure => simp [szOf]; omega
        · have h9' : ¬ (r.size : Int) ≤ 9 := by omega
          have h9'' : (9 : Int) ≤ (r.size : Int) := by omega
          have h9n : 9 ≤ r.size := by omega
          have hc : (r.extract 0 9).data.toList = (s.data.toList.drop k).take 9 := by rw [extract_list, HRR.out, List.drop_zero]
          have HBV : Hid (bval ((dgs s).take (k + 9)) = bval ((dgs s).take k) * 10 ^ (r.extract 0 9).size + bval (dgs (r.extract 0 9))) := bval_chunk hc
          have HDR : Hid (DigOk (r.extract 0 9)) := HD.out.part hc
          have hsz9 : (r.extract 0 9).size ≤ 9 := by rw [size_part hc]; omega
          clear hc
          go_wp2_with fail
          refine (appendDigits_any w1.heap.size _ _ (r.extract 0 9) wr how hbw hll hsz9 HDR.out).mono ?_
          rintro e w2 ⟨u, rfl, hou, hb2⟩
          rw [← HBV.out] at hou
          have hbel2 := hbel.trans hb2
          clear how hbel hb2 HBV
          go_wp2_with fail
          go_roundw
          case rel =>
            have hrs := HRS.out
            refine ⟨k + 9, _, by omega, rfl, ?_, hou, hbel2⟩
            rw [extract_list, HRR.out, List.drop_drop, List.take_of_length_le (by rw [List.length_drop, Array.length_toList]; show s.size - (k + 9) ≤ _; omega)]
          case measure => simp [szOf]; omega
      · have hlt' : ¬ (0 : Int) < (r.size : Int) := by omega
        have hks : k = s.size := by have := HRS.out; omega
        have HE : Hid (ParseEnd w1 s (.returned (.tuple #[u4, .int .i64 0])) wr) := by
          refine ⟨_, by rw [if_pos HDD.out], ?_, hbel⟩
          rw [if_pos HDD.out]
          rw [hks, List.take_of_length_le (by rw [dgs_len]; exact Nat.le_refl _)] at how
          exact how
        clear how hbel hks
        go_wp2_with fail
        go_ret2
        exact HE.out
  · rw [decide_eq_false hd]
    have HE : Hid (ParseEnd w1 s (.returned (.tuple #[.slice none 0 0, .int .i64 10])) w1) := by
      refine ⟨_, by rw [if_neg hd], ?_, Below.refl _ _⟩
      rw [if_neg hd]
      exact Own.of_nil _ _ _
    go_wp2_with fail
    go_ret2
    exact HE.out
end Go.Proofs.YtfnafgjnimfmjaaGreatDoor

namespace Go.Proofs.YtfnafgjnimfmjaaGreatDoor
open Go.RowKit

/-- What is left of a text without its noughts ahead. -/
def TrimEnd (s : ByteArray) (w : World) (e : Ending) (w' : World) : Prop :=
  ∃ (k : Nat) (r : ByteArray), e = .returned (.string r) ∧ w' = w ∧ k ≤ s.size ∧ r.data.toList = s.data.toList.drop k ∧ (∀ j, j < k → bt s j = 48) ∧ (k < s.size → bt s k ≠ 48)

set_option maxRecDepth 100000 in
set_option maxHeartbeats 1600000 in
theorem trimByte_any (s : ByteArray) (w : World) :
    Calls Tryz.prog 118 #[.string s, .int .u8 48] w fun e w' => TrimEnd s w e w' := by
  go_enter Tryz.func118, Tryz.ntmps118
  go_wp2
  go_loop [0] (fun sv => ∃ (k : Nat) (r : ByteArray), k ≤ s.size ∧ sv = .string r ∧ r.data.toList = s.data.toList.drop k ∧ (∀ j, j < k → bt s j = 48)) (fun sv => szOf sv)
  case atStart => exact ⟨0, s, Nat.zero_le _, rfl, rfl, fun j hj => by omega⟩
  case round =>
    obtain ⟨k, r, hk, rfl, hr, hz⟩ := hrel
    have HRR : Hid (r.data.toList = s.data.toList.drop k) := hr
    have HZ : Hid (∀ j, j < k → bt s j = 48) := hz
    have HRS : Hid (r.size = s.size - k) := by
      have h1 : r.data.toList.length = s.size - k := by rw [hr, List.length_drop, Array.length_toList]; rfl
      rw [Array.length_toList] at h1; exact h1
    clear hr hz
    by_cases hlt : 0 < r.size
    · have hlt' : (0 : Int) < (r.size : Int) := by omega
      have hg := bt_get hlt
      have hbk : bt r 0 = bt s k := by
        unfold bt
        rw [HRR.out, List.getD_eq_getElem?_getD, List.getElem?_drop, Nat.add_zero, ← List.getD_eq_getElem?_getD]
      rw [hbk] at hg
      obtain ⟨c, hc⟩ : ∃ c, c = bt s k := ⟨_, rfl⟩
      rw [← hc] at hg
      have HC : Hid (c = bt s k) := hc
      clear hc hbk
      have hks : k < s.size := by have := HRS.out; omega
      by_cases h48 : c = 48
      · subst h48
        go_wp2
        go_round
        case rel =>
          have hrs := HRS.out
          refine ⟨k + 1, _, by omega, rfl, ?_, fun j hj => ?_⟩
          · rw [extract_list, HRR.out, List.drop_drop, List.take_of_length_le (by rw [List.length_drop, Array.length_toList]; show s.size - (k + 1) ≤ _; omega)]
          · by_cases hjk : j = k
            · rw [hjk]; exact HC.out.symm
            · exact HZ.out j (by omega)
        case measure => simp [szOf]; omega
      · have h48' : ¬ (c : Int) = 48 := by omega
        have HE : Hid (TrimEnd s w (.returned (.string r)) w) := ⟨k, r, rfl, rfl, hk, HRR.out, HZ.out, fun _ => by rw [← HC.out]; exact h48⟩
        go_wp2
        go_ret
        exact HE.out
    · have hlt' : ¬ (0 : Int) < (r.size : Int) := by omega
      have HE : Hid (TrimEnd s w (.returned (.string r)) w) := ⟨k, r, rfl, rfl, hk, HRR.out, HZ.out, fun h => by have := HRS.out; omega⟩
      go_wp2
      go_ret
      exact HE.out

set_option maxRecDepth 100000 in
set_option maxHeartbeats 1600000 in
theorem trimLeft_any (s : ByteArray) (w : World) (h0 : 0 < s.size) :
    Calls Tryz.prog 93 #[.string s, .string ⟨#[48]⟩] w fun e w' => TrimEnd s w e w' := by
  have hne : ¬ s.toList = [] := by
    intro h
    have h1 : s.toList = s.data.toList := ByteArray.toList_eq s
    rw [h1] at h
    have h2 : s.data.toList.length = 0 := by rw [h]; rfl
    rw [Array.length_toList] at h2
    have : s.size = s.data.size := rfl
    omega
  have hie : s.toList.isEmpty = false := by rw [List.isEmpty_eq_false_iff]; exact hne
  have h48 : (({ data := #[48] } : ByteArray)[0]'(by decide)).toNat = 48 := rfl
  go_enter Tryz.func93, Tryz.ntmps93
  go_wp2_with fail
  refine (trimByte_any s w).mono ?_
  rintro e w1 ⟨k, r, rfl, rfl, h1, h2, h3, h4⟩
  have HE : Hid (TrimEnd s w1 (.returned (.string r)) w1) := ⟨k, r, rfl, rfl, h1, h2, h3, h4⟩
  clear h1 h2 h3 h4
  go_wp2
  go_ret
  exact HE.out
end Go.Proofs.YtfnafgjnimfmjaaGreatDoor

/-
  Proved here: what Parse of package frac answers of a written whole number, and of one with a stroke and digits behind it.
-/
import Derived.Test.YtnlajeinegampaaDoorFracTAll
import Derived.Test.YtnlajeinegampaaDoorFracE
namespace Go.Proofs.YtnlajeinegampaaDoor
open Go.RowKit

theorem bt_left {a b : ByteArray} {i : Nat} (h : i < a.size) : bt (a ++ b) i = bt a i := by
  unfold bt
  rw [s_app, List.getD_eq_getElem?_getD, List.getElem?_append_left (by rw [← s_size]; exact h), ← List.getD_eq_getElem?_getD]
theorem bt_right {a b : ByteArray} {i : Nat} (h : a.size ≤ i) : bt (a ++ b) i = bt b (i - a.size) := by
  unfold bt
  rw [s_app, List.getD_eq_getElem?_getD, List.getElem?_append_right (by rw [← s_size]; exact h), ← List.getD_eq_getElem?_getD, ← s_size]
theorem txt_no {n i : Nat} (hi : i < (txt n).size) : bt (txt n) i ≠ 47 := by
  rw [txt_size] at hi
  rw [x_bt hi]
  omega
theorem zt_cases (z : Int) : (z < 0 ∧ zt z = ⟨#[45]⟩ ++ txt z.natAbs) ∨ (¬ z < 0 ∧ zt z = txt z.natAbs) := by
  unfold zt ztxt
  by_cases h : z < 0
  · exact Or.inl ⟨h, by rw [if_pos ⟨decide_eq_true h, by omega⟩]⟩
  · exact Or.inr ⟨h, by rw [if_neg (fun k => h (of_decide_eq_true k.1))]⟩
theorem zt_no {z : Int} {i : Nat} (hi : i < (zt z).size) : bt (zt z) i ≠ 47 := by
  rcases zt_cases z with ⟨_, e⟩ | ⟨_, e⟩
  · rw [e] at hi ⊢
    by_cases h0 : i < 1
    · have e0 : i = 0 := by omega
      subst e0
      rw [bt_left (show 0 < (⟨#[45]⟩ : ByteArray).size by decide)]
      decide
    · rw [bt_right (show (⟨#[45]⟩ : ByteArray).size ≤ i from by show 1 ≤ i; omega)]
      apply txt_no
      rw [ByteArray.size_append] at hi
      have h1 : (⟨#[45]⟩ : ByteArray).size = 1 := rfl
      omega
  · rw [e] at hi ⊢
    exact txt_no hi
theorem zt_pos_size (z : Int) : 0 < (zt z).size := by
  have h := (x_dig z.natAbs).2
  rcases zt_cases z with ⟨_, e⟩ | ⟨_, e⟩
  · rw [e, ByteArray.size_append]; omega
  · rw [e]; exact h
theorem ne47 {s : ByteArray} (h : bt s 0 ≠ 47) : (([47] : List UInt8) == s.toList) = false := by
  rw [ByteArray.toList_eq]
  cases hl : s.data.toList with
  | nil => rfl
  | cons x r =>
    unfold bt at h
    rw [hl] at h
    rw [beq_eq_false_iff_ne]
    intro e
    injection e with e1 _
    apply h
    rw [← e1]
    rfl
theorem c_parse_zt (z : Int) (w : World) (hs : (zt z).size ≤ 1000000) : Calls Tryd.prog 40 #[.string (zt z)] w fun e w' => ∃ v, e = .returned (.tuple #[v, .int .i64 0]) ∧ IOwn w.heap.size w' v z ∧ Below w.heap.size w w' := by
  rcases zt_cases z with ⟨hz, e⟩ | ⟨hz, e⟩
  · rw [e] at hs ⊢
    exact parse_of (strk_minus _).1 (strk_minus _).2 (x_dig _) (by rw [x_val]; unfold zv; simp; omega) hs w
  · rw [e] at hs ⊢
    exact parse_of (dig_first (x_dig _).1 (x_dig _).2).1 (dig_first (x_dig _).1 (x_dig _).2).2 (x_dig _) (by rw [x_val]; unfold zv; simp; omega) hs w
theorem c_nparse (q : Nat) (w : World) (hs : (txt q).size ≤ 1000000) : Calls Tryd.prog 41 #[.string (txt q)] w fun e w' => ∃ v, e = .returned (.tuple #[v, .int .i64 0]) ∧ Own w.heap.size 77 w' v (lim q) ∧ Below w.heap.size w w' := by
  have h := parse_any (txt q) w hs
  refine h.mono ?_
  rintro e w' ⟨u, rfl, hu, hb⟩
  rw [if_pos (x_dig q), x_val] at hu
  exact ⟨u, by rw [if_pos (x_dig q)], hu, hb⟩
/-- Two written numbers with a stroke between. -/
def two47 (a b : ByteArray) : ByteArray := a ++ ⟨#[47]⟩ ++ b
theorem two_size (a b : ByteArray) : (two47 a b).size = a.size + 1 + b.size := by unfold two47; rw [ByteArray.size_append, ByteArray.size_append]; rfl
theorem two_first {a b : ByteArray} (ha : ∀ i, i < a.size → bt a i ≠ 47) : firstIdx (two47 a b) 47 = (a.size : Int) := by
  refine first_some (by rw [two_size]; omega) ?_ (fun i hi => ?_)
  · unfold two47
    rw [bt_left (by rw [ByteArray.size_append]; show a.size < a.size + 1; omega), bt_right (Nat.le_refl _), Nat.sub_self]
    decide
  · unfold two47
    rw [bt_left (by rw [ByteArray.size_append]; omega), bt_left hi]
    exact ha i hi
theorem two_left (a b : ByteArray) : (two47 a b).extract 0 a.size = a := by
  apply s_ext
  unfold two47
  rw [extract_list, s_app, s_app, s_size]
  simp
theorem drop_mid {l r : List UInt8} (x : UInt8) : ((l ++ [x] ++ r).drop (l.length + 1)).take r.length = r := by
  rw [show l.length + 1 = (l ++ [x]).length by simp, List.drop_left, List.take_length]
theorem two_right (a b : ByteArray) : (two47 a b).extract (a.size + 1) (two47 a b).size = b := by
  apply s_ext
  rw [two_size]
  unfold two47
  rw [extract_list, s_app, s_app, s_size a, s_size b, Nat.add_sub_cancel_left]
  exact drop_mid _
set_option maxRecDepth 100000 in
set_option maxHeartbeats 3200000 in
theorem cut_no (s : ByteArray) (hs : s.size ≤ 1000000000) (hi : firstIdx s 47 = -1) (hne : (([47] : List UInt8) == s.toList) = false) (w : World) : Calls Tryd.prog 39 #[.string s, .string ⟨#[47]⟩] w fun e w' => e = .returned (.tuple #[.string s, .string ⟨#[]⟩, .bool false]) ∧ Below w.heap.size w w' := by
  go_enter Tryd.func39, Tryd.ntmps39
  go_wp2_with fail
  refine (slcut_no s hs hi hne _).mono ?_
  rintro e w2 ⟨rfl, hb⟩
  have HB : Hid (Below w.heap.size w w2) := hb
  clear hb hi hne
  go_wp2_with fail
  go_ret3
  exact ⟨rfl, HB.out⟩
set_option maxRecDepth 100000 in
set_option maxHeartbeats 3200000 in
theorem cut_two (a b : ByteArray) (h0 : 0 < a.size) (ha : ∀ i, i < a.size → bt a i ≠ 47) (hs : (two47 a b).size ≤ 1000000000) (w : World) : Calls Tryd.prog 39 #[.string (two47 a b), .string ⟨#[47]⟩] w fun e w' => e = .returned (.tuple #[.string a, .string b, .bool true]) ∧ Below w.heap.size w w' := by
  have h := fun w => slcut_yes (two47 a b) a.size (by rw [two_size]; omega) hs (two_first ha) (ne47 (by unfold two47; rw [bt_left (by rw [ByteArray.size_append]; omega), bt_left h0]; exact ha 0 h0)) w
  rw [two_left, two_right] at h
  generalize two47 a b = s at *
  clear ha h0 hs
  go_enter Tryd.func39, Tryd.ntmps39
  go_wp2_with fail
  refine (h _).mono ?_
  rintro e w2 ⟨rfl, hb⟩
  have HB : Hid (Below w.heap.size w w2) := hb
  clear hb h
  go_wp2_with fail
  go_ret3
  exact ⟨rfl, HB.out⟩
end Go.Proofs.YtnlajeinegampaaDoor

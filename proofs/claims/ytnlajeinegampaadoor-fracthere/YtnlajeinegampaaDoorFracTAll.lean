/-
  Proved here: what strings.Cut answers of a text and a stroke.
  Proved here: plain facts on texts with a stroke ahead, and on noughts ahead of digits. No condition.
  Proved here: what strings.Cut answers of a text and a stroke.
-/
import Derived.Test.YtnlajeinegampaaDoorFracC
import Derived.Laws.Externs
import Derived.Test.YtnlajeinegampaaDoorWholeX3
import Derived.Test.YtnlajeinegampaaDoorDivMathAll
import Derived.Laws.Strings
namespace Go.Proofs.YtnlajeinegampaaDoor
open Go.RowKit
theorem ixb (s : ByteArray) (w : World) : (callFunc 95 #[.string s, .int .u8 47]).run Tryd.prog w = .ok (.value (.int .i64 (firstIdx s 47))) w := by
  rw [run_callFunc_extern (e := Extern.BytealgIndexByte.indexByte) Tryd.func95 (by kernel_rfl) (by kernel_rfl) (by kernel_rfl) (by kernel_rfl), run_indexByte_string]
  rfl
theorem b47 : ((({ data := #[47] } : ByteArray)[0]'(by decide)).toNat : Int) = 47 := rfl
set_option maxRecDepth 100000 in
set_option maxHeartbeats 3200000 in
theorem slcut56 (w : World) : Calls Tryd.prog 56 #[.string ⟨#[53, 47, 54]⟩, .string ⟨#[47]⟩] w fun e w' => e = .returned (.tuple #[.string ⟨#[53]⟩, .string ⟨#[54]⟩, .bool true]) ∧ Below w.heap.size w w' := by
  have h1 := ixb ⟨#[53, 47, 54]⟩ w
  rw [show firstIdx ⟨#[53, 47, 54]⟩ 47 = 1 by decide] at h1
  have h2 := b47
  go_enter Tryd.func56, Tryd.ntmps56
  go_wp2
  go_quiet (fail)
  go_wp2
  go_ret3
  exact ⟨rfl, belowDN _ _⟩
set_option maxRecDepth 100000 in
set_option maxHeartbeats 3200000 in
theorem cut56 (w : World) : Calls Tryd.prog 39 #[.string ⟨#[53, 47, 54]⟩, .string ⟨#[47]⟩] w fun e w' => e = .returned (.tuple #[.string ⟨#[53]⟩, .string ⟨#[54]⟩, .bool true]) ∧ Below w.heap.size w w' := by
  go_enter Tryd.func39, Tryd.ntmps39
  go_wp2_with fail
  refine (slcut56 _).mono ?_
  rintro e w2 ⟨rfl, hb⟩
  have HB : Hid (Below w.heap.size w w2) := hb
  clear hb
  go_wp2_with fail
  go_ret3
  exact ⟨rfl, HB.out⟩
end Go.Proofs.YtnlajeinegampaaDoor

namespace Go.Proofs.YtnlajeinegampaaDoor
open Go.RowKit

theorem s_app (a b : ByteArray) : (a ++ b).data.toList = a.data.toList ++ b.data.toList := by rw [ByteArray.data_append, Array.toList_append]
theorem s_size (s : ByteArray) : s.size = s.data.toList.length := by rw [Array.length_toList]; rfl
theorem strk_eq (s : ByteArray) : strk s = decide (s.data.toList.take 1 = [45]) := by
  unfold strk
  rw [ByteArray.toList_eq, extract_list, List.drop_zero, s_size]
  cases h : s.data.toList with
  | nil => rfl
  | cons x r =>
    rw [Bool.eq_iff_iff]
    simp
theorem s_ext {a b : ByteArray} (h : a.data.toList = b.data.toList) : a = b := ByteArray.ext (Array.ext' h)
theorem strk_minus (t : ByteArray) : strk (⟨#[45]⟩ ++ t) = true ∧ tail (⟨#[45]⟩ ++ t) = t := by
  have h : strk (⟨#[45]⟩ ++ t) = true := by rw [strk_eq, s_app]; rfl
  refine ⟨h, ?_⟩
  unfold tail
  rw [if_pos h]
  apply s_ext
  rw [extract_list, s_app, s_size, s_app]
  simp
  exact List.take_of_length_le (by rw [s_size]; exact Nat.le_refl _)
theorem strk_first {s : ByteArray} {x : UInt8} {r : List UInt8} (h : s.data.toList = x :: r) (hx : x ≠ 45) : strk s = false ∧ tail s = s := by
  have h1 : strk s = false := by rw [strk_eq, h]; simpa using hx
  refine ⟨h1, ?_⟩
  unfold tail
  rw [h1]
  rfl
theorem dig_first {s : ByteArray} (h : DigOk s) (h0 : 0 < s.size) : strk s = false ∧ tail s = s := by
  cases hl : s.data.toList with
  | nil => rw [s_size, hl] at h0; exact absurd h0 (by simp)
  | cons x r =>
    refine strk_first hl ?_
    intro hx
    have h1 := h 0 h0
    unfold bt at h1
    rw [hl, hx] at h1
    simp at h1
/-- So many noughts. -/
def zrs (k : Nat) : ByteArray := ⟨(List.replicate k (48 : UInt8)).toArray⟩
theorem zrs_list (k : Nat) : (zrs k).data.toList = List.replicate k 48 := rfl
theorem zrs_succ (k : Nat) : zrs k ++ ⟨#[48]⟩ = zrs (k + 1) := by
  apply s_ext
  rw [s_app, zrs_list, zrs_list, List.replicate_succ']
theorem zrs_size (k : Nat) : (zrs k).size = k := by rw [s_size, zrs_list, List.length_replicate]
theorem zrs_dgs (k : Nat) : dgs (zrs k) = List.replicate k 0 := by
  unfold dgs
  rw [zrs_list, List.map_replicate]
  rfl
theorem x_bt {n i : Nat} (hi : i < (wri n).length) : bt (txt n) i = 48 + (wri n).getD i 0 := str_bt (wri_decs n) rfl hi
theorem x_dig (n : Nat) : DigOk (txt n) ∧ 0 < (txt n).size := by
  constructor
  · intro i hi
    rw [txt_size] at hi
    rw [x_bt hi]
    have := wri_decs n _ (List.getElem_mem hi)
    rw [List.getD_eq_getElem?_getD, List.getElem?_eq_getElem hi]
    simp
    omega
  · rw [txt_size]; exact List.length_pos_iff.2 (wri_ne n)
theorem x_dgs (n : Nat) : dgs (txt n) = wri n := by
  apply ext_getD (by rw [dgs_len, txt_size])
  intro q hq
  rw [dgs_len, txt_size] at hq
  rw [dgs_at (by rw [txt_size]; exact hq), x_bt hq]
  omega
theorem x_val (n : Nat) : bval (dgs (txt n)) = n := by rw [x_dgs, bval_wri]
theorem x_first {n : Nat} (h : 1 < (txt n).size) : bt (txt n) 0 ≠ 48 := by
  rw [txt_size] at h
  rw [x_bt (by omega)]
  have hn : n ≠ 0 := by intro h0; rw [h0] at h; exact absurd h (by decide)
  have h1 := wri_head hn (wri_ne n)
  cases hw : wri n with
  | nil => exact absurd hw (wri_ne n)
  | cons x r =>
    have h2 : x ≠ 0 := by simpa [hw] using h1
    show 48 + x ≠ 48
    omega
theorem zx_dig (k n : Nat) : DigOk (zrs k ++ txt n) ∧ 0 < (zrs k ++ txt n).size := by
  obtain ⟨h1, h2⟩ := x_dig n
  constructor
  · intro i hi
    unfold bt
    rw [s_app, zrs_list]
    by_cases h : i < k
    · rw [List.getD_eq_getElem?_getD, List.getElem?_append_left (by simpa using h), List.getElem?_replicate_of_lt h]
      decide
    · have h3 := h1 (i - k) (by rw [ByteArray.size_append, zrs_size] at hi; omega)
      unfold bt at h3
      rw [List.getD_eq_getElem?_getD, List.getElem?_append_right (by simpa using h), List.length_replicate, ← List.getD_eq_getElem?_getD]
      exact h3
  · rw [ByteArray.size_append]; omega
theorem zx_val (k n : Nat) : bval (dgs (zrs k ++ txt n)) = n := by
  have e : dgs (zrs k ++ txt n) = List.replicate k 0 ++ wri n := by rw [← zrs_dgs, ← x_dgs]; unfold dgs; rw [s_app, List.map_append]
  rw [e, bval_zeros_ahead (fun x hx => (List.mem_replicate.1 hx).2), bval_wri]
theorem and15 (k : Int) : ∃ N : Nat, N ≤ 15 ∧ bits BinOp.and IntKind.i64 k 15 = (N : Int) := by
  have h : (BitVec.ofInt 64 k &&& BitVec.ofInt 64 15).toNat ≤ 15 := by rw [BitVec.toNat_and]; exact Nat.le_trans Nat.and_le_right (by decide)
  refine ⟨_, h, ?_⟩
  show IntKind.i64.wrap ((BitVec.ofInt 64 k &&& BitVec.ofInt 64 15).toNat : Int) = _
  rw [IntKind.wrap_i64]
  omega
theorem parse_of {s t : ByteArray} {k : Bool} {z : Int} (hst : strk s = k) (htl : tail s = t) (hd : DigOk t ∧ 0 < t.size) (hz : zv k (bval (dgs t)) = z) (hs : s.size ≤ 1000000) (w : World) :
    Calls Tryd.prog 40 #[.string s] w fun e w' => ∃ v, e = .returned (.tuple #[v, .int .i64 0]) ∧ IOwn w.heap.size w' v z ∧ Below w.heap.size w w' := by
  have h := c_parse s w hs
  rw [htl, hst, hz] at h
  simp only [hd, and_self, if_true] at h
  exact h
theorem parse_plus {s : ByteArray} (hs : (⟨#[43]⟩ ++ s).size ≤ 1000000) (w : World) :
    Calls Tryd.prog 40 #[.string (⟨#[43]⟩ ++ s)] w fun e w' => e = .returned (.tuple #[.agg #[.bool false, .slice none 0 0], .int .i64 10]) ∧ Below w.heap.size w w' := by
  have h := c_parse (⟨#[43]⟩ ++ s) w hs
  have hl : (⟨#[43]⟩ ++ s : ByteArray).data.toList = 43 :: s.data.toList := by rw [s_app]; rfl
  have hf := strk_first hl (by decide)
  rw [hf.2] at h
  have hn : ¬ (DigOk (⟨#[43]⟩ ++ s) ∧ 0 < (⟨#[43]⟩ ++ s : ByteArray).size) := by
    intro hd
    have h1 := hd.1 0 hd.2
    unfold bt at h1
    rw [hl] at h1
    have h2 : 48 ≤ (43 : UInt8).toNat := h1.1
    exact absurd h2 (by decide)
  simp only [hn, if_false] at h
  exact h
end Go.Proofs.YtnlajeinegampaaDoor

namespace Go.Proofs.YtnlajeinegampaaDoor
open Go.RowKit

theorem at_bt {s : ByteArray} {i : Nat} (hi : i < s.size) : (s[i]! == (47 : UInt8)) = decide (bt s i = 47) := by
  rw [getElem!_pos s i hi, Bool.eq_iff_iff]
  simp only [beq_iff_eq, decide_eq_true_eq]
  rw [← bt_get hi]
  exact ⟨fun h => by rw [h]; rfl, fun h => UInt8.toNat_inj.1 h⟩
theorem first_none {s : ByteArray} (h : ∀ i, i < s.size → bt s i ≠ 47) : firstIdx s 47 = -1 := by
  unfold firstIdx
  have h1 : (List.range s.size).find? (fun i => s[i]! == 47) = none := by
    rw [List.find?_range_eq_none]
    intro i hi
    rw [at_bt hi]
    simpa using h i hi
  rw [h1]
theorem first_some {s : ByteArray} {k : Nat} (hk : k < s.size) (h : bt s k = 47) (h0 : ∀ i, i < k → bt s i ≠ 47) : firstIdx s 47 = (k : Int) := by
  unfold firstIdx
  have h1 : (List.range s.size).find? (fun i => s[i]! == 47) = some k := by
    rw [List.find?_range_eq_some]
    refine ⟨by rw [at_bt hk]; exact decide_eq_true h, List.mem_range.2 hk, fun j hj => ?_⟩
    rw [at_bt (by omega)]
    simpa using h0 j hj
  rw [h1]

set_option maxRecDepth 100000 in
set_option maxHeartbeats 3200000 in
theorem slcut_no (s : ByteArray) (_hs : s.size ≤ 1000000000) (hi : firstIdx s 47 = -1) (hne : (([47] : List UInt8) == s.toList) = false) (w : World) : Calls Tryd.prog 56 #[.string s, .string ⟨#[47]⟩] w fun e w' => e = .returned (.tuple #[.string s, .string ⟨#[]⟩, .bool false]) ∧ Below w.heap.size w w' := by
  have h1 := ixb s w
  rw [hi] at h1
  have h2 := b47
  clear hi
  go_enter Tryd.func56, Tryd.ntmps56
  go_wp2
  go_ret3
  exact ⟨rfl, Below.refl _ _⟩
set_option maxRecDepth 100000 in
set_option maxHeartbeats 3200000 in
theorem slcut_yes (s : ByteArray) (k : Nat) (hk : k < s.size) (hs : s.size ≤ 1000000000) (hi : firstIdx s 47 = (k : Int)) (hne : (([47] : List UInt8) == s.toList) = false) (w : World) : Calls Tryd.prog 56 #[.string s, .string ⟨#[47]⟩] w fun e w' => e = .returned (.tuple #[.string (s.extract 0 k), .string (s.extract (k + 1) s.size), .bool true]) ∧ Below w.heap.size w w' := by
  have h1 := ixb s w
  rw [hi] at h1
  have h2 := b47
  have hk2 : (k : Int) ≤ (s.size : Int) := by omega
  have hk3 : (k : Int) + 1 ≤ (s.size : Int) := by omega
  clear hi
  go_enter Tryd.func56, Tryd.ntmps56
  go_wp2
  go_quiet (fail)
  go_wp2
  go_ret3
  exact ⟨rfl, belowDN _ _⟩
end Go.Proofs.YtnlajeinegampaaDoor

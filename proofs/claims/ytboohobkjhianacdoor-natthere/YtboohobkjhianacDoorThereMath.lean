/-
  Proved here: NatThere of any number and any two texts returns true, and writes nothing that was there.
-/
import Derived.Test.YtboohobkjhianacDoorAlive
import Derived.Test.YtboohobkjhianacDoorBase0
import Derived.Test.YtboohobkjhianacDoorLawDigits
import Derived.RegionTactic
namespace Go.Proofs.YtboohobkjhianacDoor
open Go.RowKit

theorem txt_size (n : Nat) : (txt n).size = (wri n).length := by unfold txt; rw [strOfNums_size, List.length_map, chars_len]
theorem txt_bt {n i : Nat} (hi : i < (wri n).length) : bt (txt n) i = 48 + (wri n).getD i 0 := str_bt (wri_decs n) rfl hi
theorem txt_dig (n : Nat) : DigOk (txt n) ∧ 0 < (txt n).size := by
  constructor
  · intro i hi
    rw [txt_size] at hi
    rw [txt_bt hi]
    have := wri_decs n _ (List.getElem_mem hi)
    rw [List.getD_eq_getElem?_getD, List.getElem?_eq_getElem hi]
    simp
    omega
  · rw [txt_size]; exact List.length_pos_iff.2 (wri_ne n)
theorem txt_dgs (n : Nat) : dgs (txt n) = wri n := by
  apply ext_getD (by rw [dgs_len, txt_size])
  intro q hq
  rw [dgs_len, txt_size] at hq
  rw [dgs_at (by rw [txt_size]; exact hq), txt_bt hq]
  omega
theorem app_data (a b : ByteArray) : (a ++ b).data.toList = a.data.toList ++ b.data.toList := by
  rw [ByteArray.data_append, Array.toList_append]
theorem app_size (a b : ByteArray) : (a ++ b).size = a.size + b.size := ByteArray.size_append
theorem app_dgs (a b : ByteArray) : dgs (a ++ b) = dgs a ++ dgs b := by unfold dgs; rw [app_data, List.map_append]
theorem app_dig {a b : ByteArray} (ha : DigOk a) (hb : DigOk b) : DigOk (a ++ b) := fun i hi => by
  rw [app_size] at hi
  unfold bt
  rw [app_data]
  by_cases h : i < a.size
  · have h1 : i < a.data.toList.length := by rw [Array.length_toList]; exact h
    rw [List.getD_eq_getElem?_getD, List.getElem?_append_left h1, ← List.getD_eq_getElem?_getD]
    exact ha i h
  · have h1 : a.data.toList.length ≤ i := by rw [Array.length_toList]; show a.size ≤ i; omega
    rw [List.getD_eq_getElem?_getD, List.getElem?_append_right h1, ← List.getD_eq_getElem?_getD, Array.length_toList]
    exact hb (i - a.size) (by omega)
/-- A text without its noughts ahead is how its number is written. -/
theorem txt_rest {u r : ByteArray} {k : Nat} (hd : DigOk u) (hk : k < u.size) (hz : ∀ j, j < k → bt u j = 48) (hl : bt u k ≠ 48 ∨ k + 1 = u.size) (hr : r.data.toList = u.data.toList.drop k) : r = txt (bval (dgs u)) := by
  have h1 : wri (bval (dgs u)) = (dgs u).drop k := by
    refine wri_drop hd.decs (by rw [dgs_len]; exact hk) (fun j hj => ?_) ?_
    · rw [dgs_at (by omega), hz j hj]
    · rcases hl with h | h
      · left; rw [dgs_at hk]; have := hd k hk; omega
      · right; rw [dgs_len]; exact h
  apply bytes_ext
  unfold txt
  rw [strOfNums_data, h1, hr]
  apply List.ext_getElem
  · simp [chars, dgs]
  · intro i h2 h3
    simp only [List.getElem_drop, List.getElem_map, chars, dgs, List.map_map]
    have h4 : k + i < u.size := by
      rw [List.length_drop, Array.length_toList] at h2
      have : u.size = u.data.size := rfl
      omega
    have h5 := hd (k + i) h4
    unfold bt at h5
    rw [List.getD_eq_getElem?_getD, List.getElem?_eq_getElem (by rw [Array.length_toList]; exact h4)] at h5
    simp only [Option.getD_some] at h5
    apply UInt8.toNat.inj
    simp only [Array.getElem_toList] at h5
    simp
    omega
theorem wri_len {n L : Nat} (h : (lim n).length ≤ L) : (wri n).length ≤ 32 * L + 1 := by
  unfold wri
  split
  · simp
  · rename_i h0
    rw [List.length_reverse]
    rcases Nat.lt_or_ge (32 * L + 1) (dec n).length with h1 | h1
    · exfalso
      obtain ⟨ds, d, hd⟩ : ∃ ds d, dec n = ds ++ [d] := ⟨(dec n).dropLast, (dec n).getLast (dec_ne h0), (List.dropLast_concat_getLast (dec_ne h0)).symm⟩
      have hw := wri_head h0 (wri_ne n)
      have hw2 : wri n = d :: ds.reverse := by unfold wri; rw [if_neg h0, hd, List.reverse_append]; rfl
      simp only [hw2, List.head_cons] at hw
      have h2 := dval_dec n
      rw [hd, dval_append] at h2
      simp only [dval, Nat.mul_zero, Nat.add_zero] at h2
      have h3 := dig_lt h2 hw (lim_lt_of_len h)
      rw [hd, List.length_append] at h1
      simp at h1
      omega
    · exact h1
end Go.Proofs.YtboohobkjhianacDoor

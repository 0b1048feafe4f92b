/-
  Proved here: a number that is read in a world is one number.
  Proved here: what Text answers.
-/
import Derived.Test.YtnlajeinegampaaMem
import Derived.Test.YtnlajeinegampaaTrimLAll
import Derived.Test.YtnlajeinegampaaBytes
import Derived.Test.YtnlajeinegampaaFresh
import Derived.Laws.BytesArg
namespace Go.Proofs.Ytnlajeinegampaa
open Go.RowKit

theorem Num.unique {w : World} {v : Value} {xs ys : List Nat} (h : Num w v xs) (g : Num w v ys) : xs = ys := by
  obtain ⟨_, ao, cap, e, _, _, _, h4⟩ := h
  obtain ⟨_, ao', cap', e', _, _, _, g4⟩ := g
  rw [e] at e'
  simp only [Value.slice.injEq] at e'
  obtain ⟨rfl, hl, rfl⟩ := e'
  apply List.ext_getElem hl
  intro j h1 h2
  obtain ⟨b, off, e1, c1⟩ := h4 j h1
  obtain ⟨b', off', e2, c2⟩ := g4 j h2
  rw [e1] at e2
  simp only [Option.some.injEq, Addr.mk.injEq, and_true] at e2
  obtain ⟨rfl, rfl⟩ := e2
  rw [c1] at c2
  simp only [U, Option.some.injEq, Value.int.injEq, true_and] at c2
  rw [List.getD_eq_getElem?_getD, List.getElem?_eq_getElem h1, List.getD_eq_getElem?_getD, List.getElem?_eq_getElem h2] at c2
  simp at c2; omega
open Classical in
/-- The number that a value says in a world; 0 where it says none. -/
noncomputable def valAt (w : World) (v : Value) : Nat := if h : ∃ xs, Num w v xs then val (Classical.choose h) else 0
theorem valAt_eq {w : World} {v : Value} {xs : List Nat} (h : Num w v xs) : valAt w v = val xs := by
  have hx : ∃ xs, Num w v xs := ⟨xs, h⟩
  unfold valAt
  rw [dif_pos hx]
  congr 1
  exact (Classical.choose_spec hx).unique h
end Go.Proofs.Ytnlajeinegampaa

namespace Go.Proofs.Ytnlajeinegampaa
open Go.RowKit

/-- The bytes of some digits. -/
def chars (ds : List Nat) : List Nat := ds.map (48 + ·)
theorem chars_len (ds : List Nat) : (chars ds).length = ds.length := by simp [chars]
theorem chars_append (a b : List Nat) : chars (a ++ b) = chars a ++ chars b := by simp [chars]
theorem chars_rev (a : List Nat) : (chars a).reverse = chars a.reverse := by simp [chars]
theorem Try.infoY : (Try.prog.info? 5).map (fun i => (i.zero, i.size, i.bytes)) = some (some (.int .u8 0), 1, 1) := by kernel_rfl
/-- How a number is written, in bytes. -/
def txt (n : Nat) : ByteArray := strOfNums ((chars (wri n)).map fun (x : Nat) => (x : Int))
theorem dig_lt {ds : List Nat} {v N L : Nat} (h : dval ds + 10 ^ ds.length * v = N) (hv : v ≠ 0) (hN : N < 4294967296 ^ L) : ds.length ≤ 32 * L := by
  rcases Nat.lt_or_ge (32 * L) ds.length with h1 | h1
  · have h2 : 10 ^ ds.length ≤ 10 ^ ds.length * v := Nat.le_mul_of_pos_right _ (by omega)
    have h3 : 2 ^ (32 * L) ≤ 10 ^ ds.length := Nat.le_trans (Nat.pow_le_pow_right (by decide) (Nat.le_of_lt h1)) (Nat.pow_le_pow_left (by decide) _)
    rw [Nat.pow_mul] at h3
    have h4 : (2 ^ 32) ^ L = 4294967296 ^ L := rfl
    omega
  · exact h1
theorem chunk_step {ds : List Nat} {k c A : Nat} (h : dval ds + 10 ^ ds.length * c = A) (hk : ds.length = k) : dval (ds ++ [c % 10]) + 10 ^ (k + 1) * (c / 10) = A := by
  rw [dval_append, hk]
  simp only [dval, Nat.mul_zero, Nat.add_zero]
  rw [hk] at h
  rw [Nat.pow_succ, ← h, Nat.mul_assoc, Nat.add_assoc, ← Nat.mul_add]
  congr 2; omega

theorem str_bt {ds : List Nat} (hd : decs ds) {S : ByteArray} (hS : S = strOfNums ((chars ds).map fun (x : Nat) => (x : Int))) {i : Nat} (hi : i < ds.length) : bt S i = 48 + ds.getD i 0 := by
  unfold bt
  rw [hS, strOfNums_data, List.map_map, List.getD_eq_getElem?_getD, List.getElem?_map, chars, List.getElem?_map, List.getElem?_eq_getElem hi, List.getD_eq_getElem?_getD, List.getElem?_eq_getElem hi]
  have := hd _ (List.getElem_mem hi)
  simp
  omega
theorem bytes_ext {a b : ByteArray} (h : a.data.toList = b.data.toList) : a = b := by
  cases a; cases b; simp at h; rw [h]
theorem txt_trim {ds : List Nat} {N k : Nat} {S r : ByteArray} (hd : decs ds) (hv : dval ds = N) (hN : N ≠ 0) (hS : S = strOfNums ((chars ds.reverse).map fun (x : Nat) => (x : Int)))
    (hk : k ≤ S.size) (hr : r.data.toList = S.data.toList.drop k) (hz : ∀ j, j < k → bt S j = 48) (hnz : k < S.size → bt S k ≠ 48) : r = txt N := by
  have hsz : S.size = ds.reverse.length := by rw [hS, strOfNums_size, List.length_map, chars_len]
  have hz' : ∀ j, j < k → ds.reverse.getD j 0 = 0 := fun j hj => by
    have h1 := hz j hj
    rw [str_bt (decs_rev hd) hS (by omega)] at h1
    omega
  have hbv : bval ds.reverse = N := by unfold bval; rw [List.reverse_reverse]; exact hv
  have hkl : k < ds.reverse.length := by
    rcases Nat.lt_or_ge k ds.reverse.length with h | h
    · exact h
    · exfalso
      apply hN
      rw [← hv]
      apply dval_zeros
      intro x hx
      obtain ⟨j, hj, rfl⟩ := List.getElem_of_mem (List.mem_reverse.2 hx)
      have := hz' j (by omega)
      rw [List.getD_eq_getElem?_getD, List.getElem?_eq_getElem hj] at this
      simpa using this
  have hw : wri N = ds.reverse.drop k := by
    rw [← hbv]
    refine wri_drop (decs_rev hd) hkl hz' (Or.inl fun h0 => ?_)
    have h1 := hnz (by omega)
    rw [str_bt (decs_rev hd) hS hkl, h0] at h1
    exact h1 rfl
  apply bytes_ext
  rw [hr, hS, strOfNums_data]
  unfold txt
  rw [strOfNums_data, hw]
  simp only [chars, List.map_drop]

end Go.Proofs.Ytnlajeinegampaa

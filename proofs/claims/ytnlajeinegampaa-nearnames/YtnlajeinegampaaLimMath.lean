/-
  Proved here: when limbs are a number's normal ones. No condition.
-/
import Derived.Test.YtnlajeinegampaaPushOwn
namespace Go.Proofs.Ytnlajeinegampaa

/-- Limbs whose highest one is none of 0. -/
theorem lim_of_ge {zs : List Nat} (h : limbs zs) {n : Nat} (hn : zs.length = n + 1) (hv : 4294967296 ^ n ≤ val zs) : lim (val zs) = zs := by
  apply lim_of_last h
  intro hne
  have e := low_succ zs n
  rw [low_all (by omega)] at e
  have hl := low_lt h n
  have : zs.getD n 0 ≠ 0 := by intro h0; rw [h0, Nat.mul_zero] at e; omega
  rw [List.getLast_eq_getElem]
  rw [List.getD_eq_getElem?_getD, List.getElem?_eq_getElem (by omega)] at this
  simpa [hn] using this
theorem lim_snoc {zs : List Nat} (h : limbs zs) {d : Nat} (hd : d < 4294967296) (h0 : d ≠ 0) : lim (val zs + 4294967296 ^ zs.length * d) = zs ++ [d] := by
  rw [← val_snoc]
  exact lim_of_last (limbs_snoc h hd) fun _ => by simpa using h0
theorem lim_ge {v n : Nat} (h : (lim v).length = n + 1) : 4294967296 ^ n ≤ v := by
  rcases Nat.lt_or_ge v (4294967296 ^ n) with h1 | h1
  · have := lim_len_le h1; omega
  · exact h1
end Go.Proofs.Ytnlajeinegampaa

/-
  Proved here: plain facts on a bag of numbers that a call made for itself, and 'apart' of such a bag.
  Proved here: what Uint and Sub answer of any numbers, by either way.
  Proved here: what Norm, Neg, Add, Sub, Sign, Cmp, Of, Int and Text of the plain way over whole numbers answer.
  Proved here: what Single of package near and the document's Nearest and Single answer: one and the same.
-/
import Derived.Test.YtaekaikkldnikaaNearKAll
import Derived.Test.YtaekaikkldnikaaBaseAll
import Derived.Test.YtaekaikkldnikaaDecMathAll
import Derived.Test.YtaekaikkldnikaaWholeDAll
import Derived.Test.YtaekaikkldnikaaNearRAll
import Derived.Test.YtaekaikkldnikaaWholeX2All
namespace Go.Proofs.Ytaekaikkldnikaa
open Go.RowKit

/-- Numbers in rows of the call's own, each in another. -/
def Bag (B : Nat) (w : World) (l : List (Value × List Nat)) : Prop :=
  (∀ p ∈ l, Own B 39 w p.1 p.2) ∧ l.Pairwise fun p q => p.1.ownBlock = none ∨ p.1.ownBlock ≠ q.1.ownBlock
theorem Bag.nil (B : Nat) (w : World) : Bag B w [] := ⟨fun p hp => by simp at hp, List.Pairwise.nil⟩
theorem Bag.step {B : Nat} {w w' : World} {l : List (Value × List Nat)} (h : Bag B w l) (hb : Below w.heap.size w w') : Bag B w' l := ⟨fun p hp => (h.1 p hp).below hb, h.2⟩
theorem Bag.push {B : Nat} {w w' : World} {l : List (Value × List Nat)} {v : Value} {xs : List Nat} (h : Bag B w l) (ho : Own w.heap.size 39 w' v xs) (hb : Below w.heap.size w w') (hB : B ≤ w.heap.size) : Bag B w' (l ++ [(v, xs)]) := by
  refine ⟨fun p hp => ?_, ?_⟩
  · rcases List.mem_append.1 hp with hp | hp
    · exact (h.1 p hp).below hb
    · simp only [List.mem_singleton] at hp
      subst hp
      exact ho.mono hB
  · rw [List.pairwise_append]
    refine ⟨h.2, by simp, fun p hp q hq => ?_⟩
    simp only [List.mem_singleton] at hq
    subst hq
    exact apart_later (h.1 p hp) ho (Nat.le_refl _)
theorem Bag.perm {B : Nat} {w : World} {l l' : List (Value × List Nat)} (h : Bag B w l) (p : l'.Perm l) : Bag B w l' :=
  ⟨fun q hq => h.1 q (p.mem_iff.1 hq), (p.pairwise_iff (fun hab => apart_symm hab)).2 h.2⟩
theorem Bag.dist {B : Nat} {w : World} {l : List (Value × List Nat)} (h : Bag B w l) : Dist (l.map Prod.fst) := by
  intro i j hi hj hne
  simp only [List.length_map] at hi hj
  have e1 : at_ (l.map Prod.fst) i = (l[i]).1 := by simp [at_, hi]
  have e2 : at_ (l.map Prod.fst) j = (l[j]).1 := by simp [at_, hj]
  rw [e1, e2]
  rcases Nat.lt_or_gt_of_ne hne with hlt | hgt
  · exact List.pairwise_iff_getElem.1 h.2 i j hi hj hlt
  · exact apart_symm (List.pairwise_iff_getElem.1 h.2 j i hj hi hgt)
theorem Bag.fam {B : Nat} {w : World} {l : List (Value × List Nat)} (h : Bag B w l) : Fam B w (l.map Prod.fst) (fun j => (l.map Prod.snd).getD j []) := by
  intro j hj
  simp only [List.length_map] at hj
  have e1 : at_ (l.map Prod.fst) j = (l[j]).1 := by simp [at_, hj]
  have e2 : (l.map Prod.snd).getD j [] = (l[j]).2 := by simp [List.getD, hj]
  rw [e1]
  simp only [e2]
  exact h.1 _ (List.getElem_mem hj)
theorem Bag.head {B : Nat} {w : World} {p : Value × List Nat} {l : List (Value × List Nat)} {gs : List Value} (h : Bag B w (p :: l)) (hgs : l.map Prod.fst = gs) : Own B 39 w p.1 p.2 ∧ Bag B w l ∧ ∀ j, j < gs.length → (at_ gs j).ownBlock = none ∨ (at_ gs j).ownBlock ≠ p.1.ownBlock := by
  subst hgs
  refine ⟨h.1 p (by simp), ⟨fun q hq => h.1 q (by simp [hq]), (List.pairwise_cons.1 h.2).2⟩, fun j hj => ?_⟩
  simp only [List.length_map] at hj
  have e1 : at_ (l.map Prod.fst) j = (l[j]).1 := by simp [at_, hj]
  rw [e1]
  exact apart_symm ((List.pairwise_cons.1 h.2).1 _ (List.getElem_mem hj))
/-- The answers that must be, beside those that were told. -/
def Wants (w : World) (ws : List Value) (l : List (Value × List Nat)) : Prop := ws.length = l.length ∧ ∀ j, j < l.length → Num w (at_ ws j) ((l.map Prod.snd).getD j [])
theorem Wants.nil (w : World) : Wants w [] [] := ⟨rfl, fun j hj => by simp at hj⟩
theorem Wants.cons {w : World} {ws : List Value} {l : List (Value × List Nat)} {v u : Value} {xs : List Nat} (h : Num w v xs) (hr : Wants w ws l) : Wants w (v :: ws) ((u, xs) :: l) := by
  refine ⟨by simp [hr.1], fun j hj => ?_⟩
  cases j with
  | zero => exact h
  | succ j => exact hr.2 j (by simpa using hj)

theorem nextB {B : Nat} {w wr w' : World} (h : Below B w wr) (hB : B ≤ wr.heap.size) (hb : Below wr.heap.size wr w') : Below B w w' ∧ B ≤ w'.heap.size :=
  ⟨h.trans (hb.mono hB), Nat.le_trans hB hb.size⟩
theorem belowD (w : World) (q : Nat) : Below w.heap.size w (w.drewN q) := below_drewN (Below.refl _ _) q
end Go.Proofs.Ytaekaikkldnikaa

namespace Go.Proofs.Ytaekaikkldnikaa
open Go.RowKit

theorem sub_ref (u v : Value) (xs ys : List Nat) (w : World) (hu : Num w u xs) (hv : Num w v ys) (hbx : xs.length ≤ 1099511627776) (hby : ys.length ≤ 1099511627776) :
    Calls Try.prog 39 #[u, v] w fun e w' => SubTold w.heap.size w (val xs) (val ys) e w' := by
  unfold SubTold
  by_cases hs : val ys ≤ val xs
  · rw [show leB (val ys) (val xs) = true by simp [leB, hs]]
    exact sub_ref_yes u v xs ys w hu hv hbx hby hs
  · rw [show leB (val ys) (val xs) = false by simp [leB, hs], show val xs - val ys = 0 by omega]
    refine (sub_ref_no u v xs ys w hu hv hbx hby (by omega)).mono ?_
    rintro e w' ⟨rfl, rfl⟩
    exact ⟨_, rfl, Own.of_nil _ _ _, Below.refl _ _⟩
end Go.Proofs.Ytaekaikkldnikaa

namespace Go.Proofs.Ytaekaikkldnikaa
open Go.RowKit

theorem lim_le {n : Nat} {xs : List Nat} {w : World} {v : Value} (h : Num w v xs) (hn : n ≤ val xs) : (lim n).length ≤ xs.length := lim_len_le (Nat.lt_of_le_of_lt hn (val_lt h.1))
theorem nz_int2 {x : Nat} (h : 0 < x) : ((x : Int) == 0) = false := by
  have h1 : ¬ (x : Int) = 0 := by omega
  simpa using h1
theorem lim_sum {xs ys : List Nat} (hx : limbs xs) (hy : limbs ys) {n : Nat} (lx : xs.length ≤ n) (ly : ys.length ≤ n) : (lim (val xs + val ys)).length ≤ n + 1 := by
  apply lim_len_le
  have h1 := Nat.lt_of_lt_of_le (val_lt hx) (Nat.pow_le_pow_right (Nat.succ_pos 4294967295) lx)
  have h2 := Nat.lt_of_lt_of_le (val_lt hy) (Nat.pow_le_pow_right (Nat.succ_pos 4294967295) ly)
  rw [Nat.pow_succ]
  generalize 4294967296 ^ n = P at *
  omega
theorem neg_parts {n : Bool} {k : Nat} (h : zv n k < 0) : n = true ∧ k ≠ 0 := by
  cases n
  · simp [zv] at h; omega
  · simp [zv] at h; exact ⟨rfl, by omega⟩
theorem parts_neg {n : Bool} {k : Nat} (h : n = true ∧ k ≠ 0) : zv n k < 0 := by
  obtain ⟨rfl, h⟩ := h
  simp [zv]
  omega
/-- The int of a whole number, if there is one. -/
def intZ (x : Int) : Int := if -9223372036854775808 ≤ x ∧ x ≤ 9223372036854775807 then x else 0
def intB (x : Int) : Bool := decide (-9223372036854775808 ≤ x ∧ x ≤ 9223372036854775807)
theorem intZ_yes {x : Int} (h : -9223372036854775808 ≤ x ∧ x ≤ 9223372036854775807) : intZ x = x ∧ intB x = true := ⟨if_pos h, decide_eq_true h⟩
theorem intZ_no {x : Int} (h : ¬ (-9223372036854775808 ≤ x ∧ x ≤ 9223372036854775807)) : intZ x = 0 ∧ intB x = false := ⟨if_neg h, decide_eq_false h⟩
end Go.Proofs.Ytaekaikkldnikaa

namespace Go.Proofs.Ytaekaikkldnikaa
open Go.RowKit

def sidedS (s : Bool) (b : Nat) : Nat := if s = true ∧ b ≠ 0 then 2 ^ 31 + b else b
theorem xor_top2 {b k : Nat} (h : b < 2 ^ k) : b ^^^ 2 ^ k = 2 ^ k + b := by
  apply Nat.eq_of_testBit_eq
  intro i
  rw [Nat.testBit_xor, Nat.testBit_two_pow]
  rcases Nat.lt_trichotomy i k with hi | hi | hi
  · rw [Nat.testBit_two_pow_add_gt hi, decide_eq_false (by omega), Bool.xor_false]
  · subst hi
    rw [Nat.testBit_two_pow_add_eq]
    simp
  · have h1 : b < 2 ^ i := Nat.lt_of_lt_of_le h (Nat.pow_le_pow_right (by decide) (by omega))
    have h2 : 2 ^ k + b < 2 ^ i := by
      have h3 : (2 : Nat) ^ (k + 1) ≤ 2 ^ i := Nat.pow_le_pow_right (by decide) (by omega)
      rw [Nat.pow_succ] at h3
      omega
    rw [Nat.testBit_lt_two_pow h1, Nat.testBit_lt_two_pow h2, decide_eq_false (by omega)]
    rfl
theorem dzero {b : Nat} (hb : b ≤ 9218868437227405312) : (FloatKind.f64.format.order b 0 != some .eq) = decide (b ≠ 0) := by
  have h1 : (FloatKind.f64.format.order b 0 == some .eq) = (Ieee.double.read b).isZero := order_nought _ _
  have h2 : (Ieee.double.read b).isZero = decide (b = 0) := by
    by_cases h0 : b = 0
    · subst h0; decide
    · rw [decide_eq_false h0]
      unfold Ieee.Format.read
      rw [dsw, dbin, dinf]
      have e1 : b % 2 ^ 63 = b := by omega
      dsimp only
      rw [e1]
      split
      · unfold Ieee.Datum.isZero
        split
        · rename_i h; injection h with _ h3 _; exact absurd h3 h0
        · rfl
      · split
        · unfold Ieee.Datum.isZero
          split
          · rename_i h; injection h with _ h3 _; omega
          · rfl
        · split <;> rfl
  show (!(FloatKind.f64.format.order b 0 == some .eq)) = _
  rw [h1, h2]
  by_cases h0 : b = 0 <;> simp [h0]
theorem szero {b : Nat} (hb : b ≤ 2139095040) : (FloatKind.f32.format.order b 0 != some .eq) = decide (b ≠ 0) := by
  have h1 : (FloatKind.f32.format.order b 0 == some .eq) = (Ieee.single.read b).isZero := order_nought _ _
  have h2 : (Ieee.single.read b).isZero = decide (b = 0) := by
    by_cases h0 : b = 0
    · subst h0; decide
    · rw [decide_eq_false h0]
      unfold Ieee.Format.read
      rw [ssw, sbin, sinf]
      have e1 : b % 2 ^ 31 = b := by omega
      dsimp only
      rw [e1]
      split
      · unfold Ieee.Datum.isZero
        split
        · rename_i h; injection h with _ h3 _; exact absurd h3 h0
        · rfl
      · split
        · unfold Ieee.Datum.isZero
          split
          · rename_i h; injection h with _ h3 _; omega
          · rfl
        · split <;> rfl
  show (!(FloatKind.f32.format.order b 0 == some .eq)) = _
  rw [h1, h2]
  by_cases h0 : b = 0 <;> simp [h0]

@[local go_sem] theorem run_f64from2 (b : Nat) (w : World) : (callFunc 31 #[.int .u64 (b : Int)]).run Try.prog w = .ok (.value (.float .f64 b)) w := by
  rw [run_callFunc_extern Try.func31 (by kernel_rfl) (by kernel_rfl) (by kernel_rfl) (e := Extern.MathFloatBits.float64frombits) (by kernel_rfl)]
  rfl
theorem near_isD {z : Int} (hz : z = (-1074)) {N D b : Nat} (hD : 0 < D) (h : FloorOk 52 9218868437227405312 (N * 2 ^ (-z).toNat) D b) : roundR 52 9218868437227405312 (N * 2 ^ (-z).toNat) D b = nearestF (findF 53 (-1074) 1024 N D) := by
  have hi : infF 53 z 1024 = 9218868437227405312 := by rw [hz]; decide
  have hf : findF 53 z 1024 N D = findF 53 (-1074) 1024 N D := by rw [hz]
  have ho := find_ok (N := N) (D := D) (d := 53) (l := z) (t := 1024) (by omega) (by decide) (by omega) (by omega) (by decide)
  rw [hi, hf] at ho
  exact round_one hD (by decide) ho h
theorem round_leD {n D b : Nat} (h : FloorOk 52 9218868437227405312 n D b) : roundR 52 9218868437227405312 n D b ≤ 9218868437227405312 := by
  have := h.lt
  unfold roundR
  split
  · omega
  · split <;> omega

theorem near_isS {z : Int} (hz : z = (-149)) {N D b : Nat} (hD : 0 < D) (h : FloorOk 23 2139095040 (N * 2 ^ (-z).toNat) D b) : roundR 23 2139095040 (N * 2 ^ (-z).toNat) D b = nearestF (findF 24 (-149) 128 N D) := by
  have hi : infF 24 z 128 = 2139095040 := by rw [hz]; decide
  have hf : findF 24 z 128 N D = findF 24 (-149) 128 N D := by rw [hz]
  have ho := find_ok (N := N) (D := D) (d := 24) (l := z) (t := 128) (by omega) (by decide) (by omega) (by omega) (by decide)
  rw [hi, hf] at ho
  exact round_one hD (by decide) ho h
theorem round_leS {n D b : Nat} (h : FloorOk 23 2139095040 n D b) : roundR 23 2139095040 n D b ≤ 2139095040 := by
  have := h.lt
  unfold roundR
  split
  · omega
  · split <;> omega

end Go.Proofs.Ytaekaikkldnikaa

/-
  Proved here: what strings.Cut answers of a text and a stroke.
  Proved here: what Of and Text of package frac answer, and Parse of one text.
  Proved here: what Text of package frac answers.
  Proved here: what Sum of package frac answers.
  Proved here: what the small functions of credencelaw03 answer.
  Proved here: awake answers true.
  Proved here: plain facts on fractions that a law reads. No condition.
  Proved here: what near answers of a fraction as it is read: its side, its size above and below the line.
  Proved here: alive of the laws of near returns true.
  Proved here: how many limbs a float's value has; which floats are noughts; plain mathematics.
-/
import Derived.Test.YtaekaikkldnikaaFracC
import Derived.Laws.Externs
import Derived.Test.YtaekaikkldnikaaRefParseAll
import Derived.Test.YtaekaikkldnikaaNearFAll
import Derived.Test.YtaekaikkldnikaaNearOfA
namespace Go.Proofs.Ytaekaikkldnikaa
open Go.RowKit
theorem b47 : ((({ data := #[47] } : ByteArray)[0]'(by decide)).toNat : Int) = 47 := rfl
end Go.Proofs.Ytaekaikkldnikaa

namespace Go.Proofs.Ytaekaikkldnikaa
open Go.RowKit

theorem dig1 (c : UInt8) (h1 : 48 ≤ c.toNat) (h2 : c.toNat ≤ 57) : DigOk ⟨#[c]⟩ ∧ 0 < (⟨#[c]⟩ : ByteArray).size := by
  refine ⟨fun i hi => ?_, Nat.zero_lt_one⟩
  have h0 : i = 0 := by change i < 1 at hi; omega
  subst h0
  exact ⟨h1, h2⟩
theorem sz_of {n : Int} (h1 : -9223372036854775808 ≤ n) (h2 : n ≤ 9223372036854775807) : Sz n 8 := Sz.of (by show n.natAbs < 4294967296 ^ 8; omega)
end Go.Proofs.Ytaekaikkldnikaa

namespace Go.Proofs.Ytaekaikkldnikaa
open Go.RowKit

/-- How a fraction is written. -/
def rt (x : Rat) : ByteArray := if x.den = 1 then zt x.num else zt x.num ++ ⟨#[47]⟩ ++ txt x.den
theorem RStd.parts {w : World} {n : Bool} {ao bo : Option Addr} {al ac bl bc : Nat} {r : Rat} {L : Nat} (h : RStd w (.agg #[.bool n, .slice ao al ac, .slice bo bl bc]) r) (hs : RSz r L) (hL : L ≤ 1000000) : INum w (.agg #[.bool n, .slice ao al ac]) r.num ∧ Num w (.slice bo bl bc) (lim r.den) ∧ n = decide (r.num < 0) ∧ (lim r.den).length ≤ 1000000 := by
  obtain ⟨n', ao', al', ac', bo', bl', bc', e, e2, h1, h2⟩ := h
  simp only [Value.agg.injEq, Array.mk.injEq, List.cons.injEq, Value.bool.injEq, Value.slice.injEq, and_true] at e
  obtain ⟨rfl, ⟨rfl, rfl, rfl⟩, rfl, rfl, rfl⟩ := e
  refine ⟨⟨_, _, _, _, _, rfl, h1, Nat.le_trans hs.num.len hL, ?_⟩, h2, e2, ?_⟩
  · rw [val_lim, e2]; exact zv_self _
  · have := hs.den.len
    rw [Int.natAbs_natCast] at this
    omega
theorem RNum.sz {w : World} {v : Value} {x : Rat} {L : Nat} (h : RNum w v x L) : RSz x L := by
  obtain ⟨p, q, _, rfl, h1, h2⟩ := h
  exact RSz.of (und_ne _) h1 h2
theorem zt_size {z : Int} {L : Nat} (h : Sz z L) : (zt z).size ≤ 32 * L + 2 := by
  unfold zt ztxt
  have h1 := txt_short h.len
  split
  · rw [ByteArray.size_append]; show 1 + _ ≤ _; omega
  · omega
theorem cmpN_ne {a : Nat} (h : ¬ a = 1) : (cmpN a 1 == 0) = false := by
  unfold cmpN
  repeat' split
  all_goals first | rfl | omega
end Go.Proofs.Ytaekaikkldnikaa

namespace Go.Proofs.Ytaekaikkldnikaa
open Go.RowKit

/-- A row of fractions that can be read. -/
def RRow (w : World) (b n : Nat) (xs : Nat → Rat) (L : Nat) : Prop := ∀ i, i < n → ∃ nn ao al ac bo bl bc, w.cell? ⟨b, i * 3, none⟩ = some (.bool nn) ∧ w.cell? ⟨b, i * 3 + 1, none⟩ = some (.slice ao al ac) ∧ w.cell? ⟨b, i * 3 + 2, none⟩ = some (.slice bo bl bc) ∧ RNum w (.agg #[.bool nn, .slice ao al ac, .slice bo bl bc]) (xs i) L
theorem RRow.below {w w' : World} {b n : Nat} {xs : Nat → Rat} {L : Nat} (h : RRow w b n xs L) (hb : Below w.heap.size w w') : RRow w' b n xs L := by
  intro i hi
  obtain ⟨nn, ao, al, ac, bo, bl, bc, h1, h2, h3, h4⟩ := h i hi
  exact ⟨nn, ao, al, ac, bo, bl, bc, keepB hb h1, keepB hb h2, keepB hb h3, h4.below hb⟩
/-- The sum of the first. -/
def rsum (xs : Nat → Rat) : Nat → Rat
  | 0 => 0
  | i + 1 => rsum xs i + xs i
theorem rsum_succ (xs : Nat → Rat) (i : Nat) : rsum xs (i + 1) = rsum xs i + xs i := rfl
theorem rown_store {B B0 g : Nat} {w : World} {r : Rat} {b : Bool} {m d : Value} (hb : b = decide (r.num < 0)) (hm : Own B0 39 w m (lim r.num.natAbs)) (hd : Own B0 39 w d (lim r.den)) (hap : m.ownBlock = none ∨ m.ownBlock ≠ d.ownBlock) (hg : g < B0) (hB : B ≤ B0) :
    ROwn B (((w.setCell ⟨g, 0, none⟩ (.bool b)).setCell ⟨g, 1, none⟩ m).setCell ⟨g, 2, none⟩ d) (.agg #[.bool b, m, d]) r :=
  ⟨m, d, by rw [hb], (((hm.other _ (own_ne hm hg)).other _ (own_ne hm hg)).other _ (own_ne hm hg)).mono hB, (((hd.other _ (own_ne hd hg)).other _ (own_ne hd hg)).other _ (own_ne hd hg)).mono hB, hap⟩
theorem RSz.zero : RSz 0 1 := ⟨Sz.zero, Sz.one⟩
end Go.Proofs.Ytaekaikkldnikaa

namespace Go.Proofs.Ytaekaikkldnikaa
open Go.RowKit

theorem num_len {w : World} {o : Option Addr} {l c : Nat} {xs : List Nat} (h : Num w (.slice o l c) xs) : xs.length = l ∧ l ≤ c ∧ c ≤ 9223372036854775807 := by
  obtain ⟨ao, cap, e, h1, h2⟩ := h.ao
  simp only [Value.slice.injEq] at e
  obtain ⟨_, rfl, rfl⟩ := e
  exact ⟨rfl, h1, h2⟩
/-- A number cut to so many limbs. -/
theorem num_cut {w : World} {o : Option Addr} {l c : Nat} {xs : List Nat} (h : Num w (.slice o l c) xs) {k : Nat} (hk : k ≤ l) : Num w (.slice o k c) (xs.take k) := by
  have h1 := h.cut (k := k) (by rw [(num_len h).1]; exact hk)
  exact h1
theorem lim_top {n k : Nat} (hk : (lim n).length = k + 1) : (lim n).getD k 0 ≠ 0 := by
  have hn : n ≠ 0 := by intro h; rw [h, show (lim 0).length = 0 from rfl] at hk; omega
  obtain ⟨k', t, h1, h2, h3, _⟩ := lim_last hn
  have e : k' = k := by omega
  rw [e] at h2
  rw [h2]
  exact h3
end Go.Proofs.Ytaekaikkldnikaa

namespace Go.Proofs.Ytaekaikkldnikaa
open Go.RowKit

theorem ROwn.see {B : Nat} {w : World} {v : Value} {r : Rat} {L : Nat} (h : ROwn B w v r) (hs : RSz r L) (hL : L ≤ 1000000) : ∃ n ao al ac bo bl bc, v = .agg #[.bool n, .slice ao al ac, .slice bo bl bc] ∧ RNum w (.agg #[.bool n, .slice ao al ac, .slice bo bl bc]) r L := by
  have h1 := h.std
  have h2 := h1.num hs hL
  obtain ⟨n, ao, al, ac, bo, bl, bc, rfl, _⟩ := h1
  exact ⟨n, ao, al, ac, bo, bl, bc, rfl, h2⟩
end Go.Proofs.Ytaekaikkldnikaa

namespace Go.Proofs.Ytaekaikkldnikaa
open Go.RowKit

theorem ROwn.seeS {B : Nat} {w : World} {v : Value} {r : Rat} (h : ROwn B w v r) : ∃ n ao al ac bo bl bc, v = .agg #[.bool n, .slice ao al ac, .slice bo bl bc] ∧ RStd w (.agg #[.bool n, .slice ao al ac, .slice bo bl bc]) r := by
  have h1 := h.std
  have h2 := h.std
  obtain ⟨n, ao, al, ac, bo, bl, bc, rfl, _⟩ := h1
  exact ⟨n, ao, al, ac, bo, bl, bc, rfl, h2⟩
theorem rnum_of {w : World} {n : Bool} {ao bo : Option Addr} {al ac bl bc : Nat} {xs ys : List Nat} {L : Nat} (hx : Num w (.slice ao al ac) xs) (hy : Num w (.slice bo bl bc) ys) (lx : xs.length ≤ L) (ly : ys.length ≤ L) (h1 : 1 ≤ L) (hL : L ≤ 1000000) : RNum w (.agg #[.bool n, .slice ao al ac, .slice bo bl bc]) (rq (zv n (val xs)) (val ys)) L := by
  refine ⟨_, _, ⟨_, _, _, _, _, _, _, _, rfl, ⟨_, _, _, _, _, rfl, hx, by omega, rfl⟩, hy, by omega, rfl⟩, rfl, Sz.of_num hx lx, ?_⟩
  unfold und
  split
  · exact Sz.one.mono h1
  · exact (Sz.of_num (neg := false) hy ly)
end Go.Proofs.Ytaekaikkldnikaa

namespace Go.Proofs.Ytaekaikkldnikaa
open Go.RowKit

/-- A fraction that can be read, of at most 1000 limbs: its side, what stands above, what counts below. -/
def QN (w : World) (v : Value) (s : Bool) (N D : Nat) : Prop := ∃ na po pl pc qo ql qc xs ys, v = .agg #[.bool na, .slice po pl pc, .slice qo ql qc] ∧ Num w (.slice po pl pc) xs ∧ Num w (.slice qo ql qc) ys ∧ xs.length ≤ 1000 ∧ ys.length ≤ 1000 ∧ val xs = N ∧ undN (val ys) = D ∧ decide (cmpZ (zv na (val xs)) 0 < 0) = s
theorem QN.below {w w' : World} {v : Value} {s : Bool} {N D : Nat} (h : QN w v s N D) (hb : Below w.heap.size w w') : QN w' v s N D := by
  obtain ⟨na, po, pl, pc, qo, ql, qc, xs, ys, e, h1, h2, h3⟩ := h
  exact ⟨na, po, pl, pc, qo, ql, qc, xs, ys, e, h1.below (Nat.le_refl _) hb, h2.below (Nat.le_refl _) hb, h3⟩
theorem cmpZ_neg {z : Int} : decide (cmpZ z 0 < 0) = decide (z < 0) := by
  unfold cmpZ
  by_cases h : z < 0
  · rw [if_pos h, decide_eq_true h]; rfl
  · rw [if_neg h, decide_eq_false h]; split <;> rfl
theorem RStd.qn {w : World} {v : Value} {r : Rat} {L : Nat} (h : RStd w v r) (hs : RSz r L) (hL : L ≤ 1000) : QN w v (decide (r.num < 0)) r.num.natAbs r.den := by
  obtain ⟨n, ao, al, ac, bo, bl, bc, e, e2, h1, h2⟩ := h
  have hd := hs.den.len
  rw [Int.natAbs_natCast] at hd
  refine ⟨n, ao, al, ac, bo, bl, bc, _, _, e, h1, h2, Nat.le_trans hs.num.len hL, Nat.le_trans hd hL, val_lim _, ?_, ?_⟩
  · rw [val_lim]; exact if_neg r.den_nz
  · rw [val_lim, cmpZ_neg, e2, zv_self]
end Go.Proofs.Ytaekaikkldnikaa

namespace Go.Proofs.Ytaekaikkldnikaa
open Go.RowKit

theorem sz_half : RSz (Rat.divInt 1 2) 1 := RSz.of (by decide) ⟨by decide⟩ ⟨by decide⟩
theorem sz_third : RSz (Rat.divInt (-1) 3) 1 := RSz.of (by decide) ⟨by decide⟩ ⟨by decide⟩
theorem sz_quart : RSz (Rat.divInt 3 4) 1 := RSz.of (by decide) ⟨by decide⟩ ⟨by decide⟩
theorem fR_quart : fR 4604930618986332160 = Rat.divInt 3 4 := by decide +kernel
theorem half_bits : sidedF (decide ((Rat.divInt 1 2).num < 0)) (nearestF (findF 53 (-1074) 1024 (Rat.divInt 1 2).num.natAbs (Rat.divInt 1 2).den)) = 4602678819172646912 := by decide +kernel
theorem half_bits2 : sidedS (decide ((Rat.divInt 1 2).num < 0)) (nearestF (findF 24 (-149) 128 (Rat.divInt 1 2).num.natAbs (Rat.divInt 1 2).den)) = 1056964608 := by decide +kernel
theorem third_lo : arLo (decide ((Rat.divInt (-1) 3).num < 0)) (findF 53 (-1074) 1024 (Rat.divInt (-1) 3).num.natAbs (Rat.divInt (-1) 3).den).1 (aboveF (findF 53 (-1074) 1024 (Rat.divInt (-1) 3).num.natAbs (Rat.divInt (-1) 3).den)) = 13823048456275842390 := by decide +kernel
theorem third_hi : arHi (decide ((Rat.divInt (-1) 3).num < 0)) (findF 53 (-1074) 1024 (Rat.divInt (-1) 3).num.natAbs (Rat.divInt (-1) 3).den).1 (aboveF (findF 53 (-1074) 1024 (Rat.divInt (-1) 3).num.natAbs (Rat.divInt (-1) 3).den)) = 13823048456275842389 := by decide +kernel
theorem quart_text : rt (Rat.divInt 3 4) = ⟨#[51, 47, 52]⟩ := by decide +kernel
theorem same_bits : (FloatKind.f64.format.order 4602678819172646912 4602678819172646912 == some .eq) = true ∧ (FloatKind.f64.format.order 13823048456275842390 13823048456275842390 == some .eq) = true ∧ (FloatKind.f64.format.order 13823048456275842389 13823048456275842389 == some .eq) = true ∧ (FloatKind.f32.format.order 1056964608 1056964608 == some .eq) = true := by decide +kernel

end Go.Proofs.Ytaekaikkldnikaa

namespace Go.Proofs.Ytaekaikkldnikaa
open Go.RowKit

theorem fR_sz {b : Nat} (h : b % 2 ^ 63 < 9218868437227405312) : RSz (fR b) 100 := by
  have hd : Sz ((2 ^ eD : Nat) : Int) 100 := ⟨by decide +kernel⟩
  have hi : fval 52 9218868437227405312 < 4294967296 ^ 100 := by decide +kernel
  have h1 := Nat.lt_trans (fval_mono 52 h) hi
  rw [fR_div]
  refine RSz.of (two_pow_ne _) ⟨?_⟩ hd
  have h2 := zv_bd (sgnb b) (fval 52 (b % 2 ^ 63))
  show (zv (sgnb b) (fval 52 (b % 2 ^ 63))).natAbs < _
  rw [zv_abs]
  exact h1
theorem eq_nought {b : Nat} (hb : b < 18446744073709551616) (h : b % 2 ^ 63 < 9218868437227405312) : (FloatKind.f64.format.order b 0 == some .eq) = decide (b % 2 ^ 63 = 0) := by
  have h1 : FloatKind.f64.format.order b 0 = some (compare (fv b) (fv 0)) := order_fvb hb (by decide) (Nat.le_of_lt h) (by decide)
  have h2 : fv 0 = 0 := by decide
  have e2 : ∀ x y : Int, compare x y = if x < y then .lt else if x = y then .eq else .gt := fun _ _ => rfl
  rw [h1, h2, e2]
  have hz : fval 52 0 = 0 := by decide
  have hp : 0 < b % 2 ^ 63 → 0 < fval 52 (b % 2 ^ 63) := fun h => Nat.lt_of_le_of_lt (Nat.zero_le _) (fval_mono 52 h)
  unfold fv zv
  by_cases h0 : b % 2 ^ 63 = 0
  · rw [h0, hz]
    cases sgnb b <;> rfl
  · have hp := hp (Nat.pos_of_ne_zero h0)
    rw [decide_eq_false h0]
    obtain ⟨y, hy⟩ : ∃ y, y = fval 52 (b % 2 ^ 63) := ⟨_, rfl⟩
    rw [← hy] at hp ⊢
    cases sgnb b
    · have a1 : ¬ ((y : Int) < 0) := by omega
      have a2 : ¬ ((y : Int) = 0) := by omega
      show (some (if (y : Int) < 0 then Ordering.lt else if (y : Int) = 0 then Ordering.eq else Ordering.gt) == some Ordering.eq) = false
      rw [if_neg a1, if_neg a2]; rfl
    · rw [if_pos rfl, if_pos (by omega)]; rfl
end Go.Proofs.Ytaekaikkldnikaa

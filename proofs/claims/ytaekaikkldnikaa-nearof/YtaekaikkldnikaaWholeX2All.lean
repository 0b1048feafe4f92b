/-
  Proved here: what Nearest of package near answers: the nearest float's bits.
  Proved here: what divide and find of package near answer: the place of a fraction's size among floats.
  Proved here: what under, find and Nearest of package near answer.
  Proved here: what Floor of package whole answers. Proved here: what a step of Bezout in package whole answers. Proved here: what onSideOf of package whole answers; plain facts on Euclid's rows. Proved here: what Bezout of package whole answers.
-/
import Derived.Test.YtaekaikkldnikaaNormAll
import Derived.Test.YtaekaikkldnikaaWholeX1
import Derived.Test.YtaekaikkldnikaaDivModAll
import Derived.Test.YtaekaikkldnikaaLate
import Derived.Test.YtaekaikkldnikaaWholeDAll
namespace Go.Proofs.Ytaekaikkldnikaa
open Go.RowKit

/-- A float on the side of 0 that is told. -/
def sidedF (s : Bool) (b : Nat) : Nat := if s = true ∧ b ≠ 0 then 2 ^ 63 + b else b
theorem find_lt (N D : Nat) : (findF 53 (-1074) 1024 N D).1 < 9218868437227405312 := by
  unfold findF
  have hi : infF 53 (-1074) 1024 = 9218868437227405312 := by decide
  split
  · decide
  · split
    · rw [hi]; decide
    · split
      · decide
      · unfold divideF
        rw [hi]
        split
        · decide
        · show belowF _ _ _ _ < _
          omega
theorem nearestF_lt {p : Nat × Int} (h : p.1 < 9218868437227405312) : nearestF p ≤ 9218868437227405312 := by unfold nearestF; split <;> omega

theorem xor_top {b : Nat} (h : b < 2 ^ 63) : b ^^^ 2 ^ 63 = 2 ^ 63 + b := by
  apply Nat.eq_of_testBit_eq
  intro i
  rw [Nat.testBit_xor, Nat.testBit_two_pow]
  rcases Nat.lt_trichotomy i 63 with hi | hi | hi
  · rw [Nat.testBit_two_pow_add_gt hi, decide_eq_false (by omega), Bool.xor_false]
  · subst hi
    rw [Nat.testBit_two_pow_add_eq]
    simp
  · have h1 : b < 2 ^ i := Nat.lt_of_lt_of_le h (Nat.pow_le_pow_right (by decide) (by omega))
    have h2 : 2 ^ 63 + b < 2 ^ i := Nat.lt_of_lt_of_le (show 2 ^ 63 + b < 2 ^ 64 by omega) (Nat.pow_le_pow_right (by decide) (by omega))
    rw [Nat.testBit_lt_two_pow h1, Nat.testBit_lt_two_pow h2, decide_eq_false (by omega)]
    rfl

@[local go_sem] theorem run_f64from (b : Nat) (w : World) : (callFunc 31 #[.int .u64 (b : Int)]).run Try.prog w = .ok (.value (.float .f64 b)) w := by
  rw [run_callFunc_extern Try.func31 (by kernel_rfl) (by kernel_rfl) (by kernel_rfl) (e := Extern.MathFloatBits.float64frombits) (by kernel_rfl)]
  rfl

end Go.Proofs.Ytaekaikkldnikaa

namespace Go.Proofs.Ytaekaikkldnikaa
open Go.RowKit


end Go.Proofs.Ytaekaikkldnikaa

namespace Go.Proofs.Ytaekaikkldnikaa
open Go.RowKit


end Go.Proofs.Ytaekaikkldnikaa

namespace Go.Proofs.Ytaekaikkldnikaa
open Go.RowKit
attribute [local go_sem ↓] Go.wp_at_zero Go.wp_at_succ

theorem INum.sz {w : World} {v : Value} {z : Int} (h : INum w v z) : Sz z 1000000 := by
  obtain ⟨neg, ao, n, cap, xs, rfl, h1, h2, rfl⟩ := h
  exact Sz.of_num h1 h2
theorem rz_le (x y : Int) : (rz x y).natAbs ≤ x.natAbs := by
  unfold rz
  split
  · simp
  · rw [Int.natAbs_tmod]; exact Nat.mod_le _ _
theorem tdiv_le (x y : Int) : (x.tdiv y).natAbs ≤ x.natAbs := by rw [Int.natAbs_tdiv]; exact Nat.div_le_self _ _
theorem INum.mk' {B : Nat} {w : World} {m : Value} {z : Int} (h : Own B 39 w m (lim z.natAbs)) (hs : Sz z 1000000) : INum w (.agg #[.bool (decide (z < 0)), m]) z := IOwn.num ⟨m, rfl, h⟩ hs (Nat.le_refl _)
/-- Whether rounding towards 0 went up. -/
def fup (x y : Int) : Prop := cmpZ (rz x y) 0 * cmpZ y 0 < 0
instance (x y : Int) : Decidable (fup x y) := inferInstanceAs (Decidable (_ < _))
def fq (x y : Int) : Int := if fup x y then x.tdiv y - 1 else x.tdiv y
def fr (x y : Int) : Int := if fup x y then rz x y + y else rz x y
theorem cmpZ_bd (x y : Int) : cmpZ x y = -1 ∨ cmpZ x y = 0 ∨ cmpZ x y = 1 := by
  unfold cmpZ
  split
  · exact Or.inl rfl
  · split
    · exact Or.inr (Or.inl rfl)
    · exact Or.inr (Or.inr rfl)
theorem icell_keep4 {w : World} {g v v2 : Nat} {n : Bool} {m a0 a1 b0 b1 : Value} (h : ICell w g n m) (h1 : g ≠ v) (h2 : g ≠ v2) : ICell ((((w.setCell ⟨v, 0, none⟩ a0).setCell ⟨v, 1, none⟩ a1).setCell ⟨v2, 0, none⟩ b0).setCell ⟨v2, 1, none⟩ b1) g n m :=
  (((h.other h1 0 _).other h1 1 _).other h2 0 _).other h2 1 _
theorem cmpZ_mul (x y : Int) : -1 ≤ cmpZ x 0 * cmpZ y 0 ∧ cmpZ x 0 * cmpZ y 0 ≤ 1 := by
  rcases cmpZ_bd x 0 with h | h | h <;> rcases cmpZ_bd y 0 with h2 | h2 | h2 <;> rw [h, h2] <;> decide

end Go.Proofs.Ytaekaikkldnikaa

namespace Go.Proofs.Ytaekaikkldnikaa
open Go.RowKit
attribute [local go_sem ↓] Go.wp_at_zero Go.wp_at_succ

section
variable {w w' : World} {g : Nat} {n0 n1 n2 : Bool} {m0 m1 m2 : Value}
end
theorem keepS6 {w : World} {g b o : Nat} {v0 v1 v2 v3 v4 v5 x : Value} (hne : ¬ b = g) (h : w.cell? ⟨b, o, none⟩ = some x) : ((((((w.setCell ⟨g, 0, none⟩ v0).setCell ⟨g, 1, none⟩ v1).setCell ⟨g, 2, none⟩ v2).setCell ⟨g, 3, none⟩ v3).setCell ⟨g, 4, none⟩ v4).setCell ⟨g, 5, none⟩ v5).cell? ⟨b, o, none⟩ = some x :=
  keepS hne (keepS hne (keepS hne h))
/-- Behind the six stores of a row all else is as it was. -/
theorem row_below {w wr : World} {g : Nat} {v0 v1 v2 v3 v4 v5 : Value} (hb : Below w.heap.size w wr) (hg : w.heap.size ≤ g) :
    Below w.heap.size w ((((((wr.setCell ⟨g, 0, none⟩ v0).setCell ⟨g, 1, none⟩ v1).setCell ⟨g, 2, none⟩ v2).setCell ⟨g, 3, none⟩ v3).setCell ⟨g, 4, none⟩ v4).setCell ⟨g, 5, none⟩ v5) :=
  (((((hb.setCell (p := ⟨g, 0, none⟩) hg _).setCell (p := ⟨g, 1, none⟩) hg _).setCell (p := ⟨g, 2, none⟩) hg _).setCell (p := ⟨g, 3, none⟩) hg _).setCell (p := ⟨g, 4, none⟩) hg _).setCell (p := ⟨g, 5, none⟩) hg _
/-- A number in a row of the call's own that lies elsewhere. -/
def Away (w : World) (g : Nat) (v : Value) (z : Int) : Prop := ∃ neg m xs, v = .agg #[.bool neg, m] ∧ Own (g + 1) 39 w m xs ∧ xs.length ≤ 1000000 ∧ zv neg (val xs) = z
theorem Away.num {w : World} {g : Nat} {v : Value} {z : Int} (h : Away w g v z) : INum w v z := by
  obtain ⟨neg, m, xs, rfl, ho, hl, hz⟩ := h
  obtain ⟨ao, n, cap, rfl⟩ := ho.sl
  exact ⟨_, _, _, _, _, rfl, ho.num, hl, hz⟩
theorem Away.mono {w : World} {g g2 : Nat} {v : Value} {z : Int} (h : Away w g v z) (hg : g2 ≤ g) : Away w g2 v z := by
  obtain ⟨neg, m, xs, e, ho, hl, hz⟩ := h
  exact ⟨neg, m, xs, e, ho.mono (by omega), hl, hz⟩
theorem Away.below {w w' : World} {g : Nat} {v : Value} {z : Int} (h : Away w g v z) (hb : Below w.heap.size w w') : Away w' g v z := by
  obtain ⟨neg, m, xs, e, ho, hl, hz⟩ := h
  exact ⟨neg, m, xs, e, ho.below hb, hl, hz⟩
theorem Away.set {w : World} {g g2 : Nat} {v : Value} {z : Int} (h : Away w g v z) (hg : g2 ≤ g) (k : Nat) (u : Value) : Away (w.setCell ⟨g2, k, none⟩ u) g v z := by
  obtain ⟨neg, m, xs, e, ho, hl, hz⟩ := h
  refine ⟨neg, m, xs, e, ho.other u ?_, hl, hz⟩
  cases hm : m.ownBlock with
  | none => exact Or.inl rfl
  | some j =>
    right
    intro e
    rw [Option.some.injEq] at e
    have := (ho.block j hm).1
    omega
theorem Away.set6 {w : World} {g g2 : Nat} {v : Value} {z : Int} (h : Away w g v z) (hg : g2 ≤ g) {v0 v1 v2 v3 v4 v5 : Value} :
    Away ((((((w.setCell ⟨g2, 0, none⟩ v0).setCell ⟨g2, 1, none⟩ v1).setCell ⟨g2, 2, none⟩ v2).setCell ⟨g2, 3, none⟩ v3).setCell ⟨g2, 4, none⟩ v4).setCell ⟨g2, 5, none⟩ v5) g v z :=
  (((((h.set hg 0 _).set hg 1 _).set hg 2 _).set hg 3 _).set hg 4 _).set hg 5 _
theorem IOwn.away {B g : Nat} {w : World} {v : Value} {z : Int} (h : IOwn B w v z) (hg : g < B) {L : Nat} (hs : Sz z L) (hL : L ≤ 1000000) : Away w g v z := by
  obtain ⟨m, rfl, ho⟩ := h
  exact ⟨_, m, _, rfl, ho.mono (by omega), Nat.le_trans hs.len hL, by rw [val_lim, zv_self]⟩
/-- A row of three numbers, each away from a block. -/
def Row3 (w : World) (g : Nat) (n0 : Bool) (m0 : Value) (n1 : Bool) (m1 : Value) (n2 : Bool) (m2 : Value) (r s t : Int) : Prop := Away w g (.agg #[.bool n0, m0]) r ∧ Away w g (.agg #[.bool n1, m1]) s ∧ Away w g (.agg #[.bool n2, m2]) t
theorem Row3.below {w w' : World} {g : Nat} {n0 : Bool} {m0 : Value} {n1 : Bool} {m1 : Value} {n2 : Bool} {m2 : Value} {r s t : Int} (h : Row3 w g n0 m0 n1 m1 n2 m2 r s t) (hb : Below w.heap.size w w') : Row3 w' g n0 m0 n1 m1 n2 m2 r s t := ⟨h.1.below hb, h.2.1.below hb, h.2.2.below hb⟩
/-- What a step leaves. -/
def StepEnd (w : World) (g : Nat) (r s t : Int) (e : Ending) (w' : World) : Prop := ∃ n0 m0 n1 m1 n2 m2, e = .returned (.agg #[.bool n0, m0, .bool n1, m1, .bool n2, m2]) ∧ Row3 w' g n0 m0 n1 m1 n2 m2 r s t ∧ Below w.heap.size w w'
theorem Away.sl {w : World} {g : Nat} {n : Bool} {m : Value} {z : Int} (h : Away w g (.agg #[.bool n, m]) z) : ∃ ao k cap, m = .slice ao k cap := by
  obtain ⟨neg, m', xs, e, ho, _, _⟩ := h
  simp only [Value.agg.injEq, Array.mk.injEq, List.cons.injEq, Value.bool.injEq, and_true] at e
  obtain ⟨_, rfl⟩ := e
  exact ho.sl

end Go.Proofs.Ytaekaikkldnikaa

namespace Go.Proofs.Ytaekaikkldnikaa
open Go.RowKit
attribute [local go_sem ↓] Go.wp_at_zero Go.wp_at_succ

/-- A number's limbs lie in no block ahead of B. -/
def Fr (v : Value) (B : Nat) : Prop := ∀ n b off s l c, v = .agg #[.bool n, .slice (some ⟨b, off, s⟩) l c] → B ≤ b
theorem Fr.of_own {B C : Nat} {w : World} {n : Bool} {m : Value} {xs : List Nat} (h : Own C 39 w m xs) (hB : B ≤ C) : Fr (.agg #[.bool n, m]) B := by
  intro n' b off s l c e
  simp only [Value.agg.injEq, Array.mk.injEq, List.cons.injEq, Value.bool.injEq, and_true] at e
  have hk : m.ownBlock = some b := by rw [e.2]; rfl
  have := (h.block b hk).1
  omega
theorem iend2 {w wr : World} {g : Nat} {v0 v1 : Value} (hb : Below w.heap.size w wr) (hg : w.heap.size ≤ g) : Below w.heap.size w ((wr.setCell ⟨g, 0, none⟩ v0).setCell ⟨g, 1, none⟩ v1) := (hb.setCell (p := ⟨g, 0, none⟩) hg _).setCell (p := ⟨g, 1, none⟩) hg _
theorem rz_lt {x y : Int} (h : y ≠ 0) : (rz x y).natAbs < y.natAbs := by
  unfold rz; rw [if_neg h, Int.natAbs_tmod]; exact Nat.mod_lt _ (by omega)
/-- Euclid's rows: the last that does not begin with 0. -/
def bz (r0 s0 t0 r1 s1 t1 : Int) : Int × Int × Int :=
  if _h : r1 = 0 then (r0, s0, t0) else bz r1 s1 t1 (rz r0 r1) (s0 - r0.tdiv r1 * s1) (t0 - r0.tdiv r1 * t1)
termination_by r1.natAbs
decreasing_by exact rz_lt (by assumption)
theorem bz_stop {r0 s0 t0 r1 s1 t1 : Int} (h : r1 = 0) : bz r0 s0 t0 r1 s1 t1 = (r0, s0, t0) := by rw [bz]; rw [dif_pos h]
theorem bz_go {r0 s0 t0 r1 s1 t1 : Int} (h : r1 ≠ 0) : bz r0 s0 t0 r1 s1 t1 = bz r1 s1 t1 (rz r0 r1) (s0 - r0.tdiv r1 * s1) (t0 - r0.tdiv r1 * t1) := by rw [bz]; rw [dif_neg h]
/-- A number's limbs lie in neither of two blocks. -/
def OffR (m : Value) (p q : Nat) : Prop := ∀ b off s l c, m = .slice (some ⟨b, off, s⟩) l c → b ≠ p ∧ b ≠ q
theorem Num.off {w : World} {m : Value} {xs : List Nat} {p q g k : Nat} {v : Value} (h : Num w m xs) (ho : OffR m p q) (hg : g = p ∨ g = q) : Num (w.setCell ⟨g, k, none⟩ v) m xs := by
  obtain ⟨h0, ao, cap, rfl, h1, h2, h3, h4⟩ := h
  refine ⟨h0, ao, cap, rfl, h1, h2, h3, fun j hj => ?_⟩
  obtain ⟨b, off, e, hc⟩ := h4 j hj
  subst e
  have hn := ho b off none _ _ rfl
  refine ⟨b, off, rfl, ?_⟩
  rw [← hc]
  apply World.cell?_of_block
  rw [heap_setCell_other]
  show b ≠ g
  rcases hg with e | e <;> rw [e]
  · exact hn.1
  · exact hn.2
theorem INum.off {w : World} {n : Bool} {m : Value} {z : Int} {p q g k : Nat} {v : Value} (h : INum w (.agg #[.bool n, m]) z) (ho : OffR m p q) (hg : g = p ∨ g = q) : INum (w.setCell ⟨g, k, none⟩ v) (.agg #[.bool n, m]) z := by
  obtain ⟨neg, ao, l, cap, xs, e, h1, h2, h3⟩ := h
  simp only [Value.agg.injEq, Array.mk.injEq, List.cons.injEq, Value.bool.injEq, and_true] at e
  obtain ⟨rfl, rfl⟩ := e
  exact ⟨_, _, _, _, _, rfl, h1.off ho hg, h2, h3⟩
theorem OffR.gen {B p q : Nat} {w : World} {m : Value} {xs : List Nat} (h : Own B 39 w m xs) (hp : p < B ∨ w.heap.size ≤ p) (hq : q < B ∨ w.heap.size ≤ q) : OffR m p q := by
  intro b off s l c e
  have hk : m.ownBlock = some b := by rw [e]; rfl
  have := h.block b hk
  omega
theorem INum.fr {w : World} {n : Bool} {m : Value} {z : Int} {B g k : Nat} {v : Value} (h : INum w (.agg #[.bool n, m]) z) (hF : Fr (.agg #[.bool n, m]) B) (hg : g < B) : INum (w.setCell ⟨g, k, none⟩ v) (.agg #[.bool n, m]) z := by
  refine h.off (p := g) (q := g) ?_ (Or.inl rfl)
  intro b off s l c e
  have := hF n b off s l c (by rw [e])
  omega
theorem OffR.later {B p q : Nat} {w : World} {m : Value} {xs : List Nat} (h : Own B 39 w m xs) (hp : p < B) (hq : q < B) : OffR m p q := by
  intro b off s l c e
  have hk : m.ownBlock = some b := by rw [e]; rfl
  have := (h.block b hk).1
  omega
theorem OffR.sooner {B p q : Nat} {w : World} {m : Value} {xs : List Nat} (h : Own B 39 w m xs) (hp : w.heap.size ≤ p) (hq : w.heap.size ≤ q) : OffR m p q := by
  intro b off s l c e
  have hk : m.ownBlock = some b := by rw [e]; rfl
  have := (h.block b hk).2
  omega
end Go.Proofs.Ytaekaikkldnikaa

namespace Go.Proofs.Ytaekaikkldnikaa
open Go.RowKit
attribute [local go_sem ↓] Go.wp_at_zero Go.wp_at_succ

theorem results_tcc {P : Program} {fn : Func} {p q u : Tmp} {ty : TypeId} (h : fn.results = #[.tmp u, .cell p ty, .cell q ty]) (tmps : Array Value) (w : World) (g g2 : Nat) (t t2 : TypeId) (cs cs2 : Array Value) (fr fr2 : Nat × Nat) (d : TypeDesc)
    (hp : tmps.getD p undef = .pointer (some ⟨g, 0, none⟩)) (hq : tmps.getD q undef = .pointer (some ⟨g2, 0, none⟩)) (hg : w.heap[g]? = some (.cells cs t fr)) (hg2 : w.heap[g2]? = some (.cells cs2 t2 fr2))
    (hu : P.underlying ty = some d) (hd : (match d with | .struct _ | .array _ _ => true | _ => false) = true) (hi : (P.info? ty).map (·.size) = some cs.size) (hi2 : (P.info? ty).map (·.size) = some cs2.size) :
    (results fn tmps).run P w = .ok (.tuple #[tmps.getD u undef, .agg cs, .agg cs2]) w := by
  have hp' : tmps[p]?.getD undef = .pointer (some ⟨g, 0, none⟩) := by simpa using hp
  have hq' : tmps[q]?.getD undef = .pointer (some ⟨g2, 0, none⟩) := by simpa using hq
  simp [results, h, hp', hq', asAddr, run_loadVar_row w g t ty cs fr d hg hu hd hi, run_loadVar_row w g2 t2 ty cs2 fr2 d hg2 hu hd hi2]
section
variable {w : World} {p q : Nat} {v0 v1 v2 v3 v4 v5 u0 u1 u2 u3 u4 u5 : Value}

theorem INum.off12 {n : Bool} {m : Value} {z : Int} (h : INum w (.agg #[.bool n, m]) z) (ho : OffR m p q) : INum ((((((((((((w.setCell ⟨p, 0, none⟩ v0).setCell ⟨p, 1, none⟩ v1).setCell ⟨p, 2, none⟩ v2).setCell ⟨p, 3, none⟩ v3).setCell ⟨p, 4, none⟩ v4).setCell ⟨p, 5, none⟩ v5).setCell ⟨q, 0, none⟩ u0).setCell ⟨q, 1, none⟩ u1).setCell ⟨q, 2, none⟩ u2).setCell ⟨q, 3, none⟩ u3).setCell ⟨q, 4, none⟩ u4).setCell ⟨q, 5, none⟩ u5) (.agg #[.bool n, m]) z :=
  ((((((((((((h.off ho (Or.inl rfl)).off ho (Or.inl rfl)).off ho (Or.inl rfl)).off ho (Or.inl rfl)).off ho (Or.inl rfl)).off ho (Or.inl rfl)).off ho (Or.inr rfl)).off ho (Or.inr rfl)).off ho (Or.inr rfl)).off ho (Or.inr rfl)).off ho (Or.inr rfl)).off ho (Or.inr rfl))
theorem ICell.off12 {g : Nat} {n : Bool} {m : Value} (h : ICell w g n m) (hp : g ≠ p) (hq : g ≠ q) : ICell ((((((((((((w.setCell ⟨p, 0, none⟩ v0).setCell ⟨p, 1, none⟩ v1).setCell ⟨p, 2, none⟩ v2).setCell ⟨p, 3, none⟩ v3).setCell ⟨p, 4, none⟩ v4).setCell ⟨p, 5, none⟩ v5).setCell ⟨q, 0, none⟩ u0).setCell ⟨q, 1, none⟩ u1).setCell ⟨q, 2, none⟩ u2).setCell ⟨q, 3, none⟩ u3).setCell ⟨q, 4, none⟩ u4).setCell ⟨q, 5, none⟩ u5) g n m :=
  (((((((((((h.other hp _ _).other hp _ _).other hp _ _).other hp _ _).other hp _ _).other hp _ _).other hq _ _).other hq _ _).other hq _ _).other hq _ _).other hq _ _).other hq _ _
theorem below12 {w0 : World} (hb : Below w0.heap.size w0 w) (hp : w0.heap.size ≤ p) (hq : w0.heap.size ≤ q) : Below w0.heap.size w0 ((((((((((((w.setCell ⟨p, 0, none⟩ v0).setCell ⟨p, 1, none⟩ v1).setCell ⟨p, 2, none⟩ v2).setCell ⟨p, 3, none⟩ v3).setCell ⟨p, 4, none⟩ v4).setCell ⟨p, 5, none⟩ v5).setCell ⟨q, 0, none⟩ u0).setCell ⟨q, 1, none⟩ u1).setCell ⟨q, 2, none⟩ u2).setCell ⟨q, 3, none⟩ u3).setCell ⟨q, 4, none⟩ u4).setCell ⟨q, 5, none⟩ u5) := row_below (row_below hb hp) hq
end
/-- A number that may lie in a row: it can be read, and lies away. -/
def NumR (w : World) (B p q : Nat) (n : Bool) (m : Value) (z : Int) : Prop := INum w (.agg #[.bool n, m]) z ∧ OffR m p q ∧ Fr (.agg #[.bool n, m]) B
theorem NumR.below {w w' : World} {B p q : Nat} {n : Bool} {m : Value} {z : Int} (h : NumR w B p q n m z) (hb : Below w.heap.size w w') : NumR w' B p q n m z := ⟨h.1.below hb, h.2⟩
theorem IOwn.numR {C B p q : Nat} {w : World} {v : Value} {z : Int} (h : IOwn C w v z) (hB : B ≤ C) (hp : p < C ∨ w.heap.size ≤ p) (hq : q < C ∨ w.heap.size ≤ q) {L : Nat} (hs : Sz z L) (hL : L ≤ 1000000) : ∃ n ao l c, v = .agg #[.bool n, .slice ao l c] ∧ NumR w B p q n (.slice ao l c) z := by
  have hi := h.num hs hL
  obtain ⟨m, rfl, ho⟩ := h
  obtain ⟨ao, l, c, rfl⟩ := ho.sl
  exact ⟨_, ao, l, c, rfl, hi, OffR.gen ho hp hq, Fr.of_own ho hB⟩
theorem Away.numR {B p q : Nat} {w : World} {n : Bool} {m : Value} {z : Int} (h : Away w q (.agg #[.bool n, m]) z) (hB : B ≤ q) (hp : p ≤ q) : NumR w B p q n m z := by
  have hi := h.num
  obtain ⟨n', m', xs, e, ho, _, _⟩ := h
  simp only [Value.agg.injEq, Array.mk.injEq, List.cons.injEq, Value.bool.injEq, and_true] at e
  obtain ⟨rfl, rfl⟩ := e
  exact ⟨hi, OffR.gen ho (by omega) (by omega), Fr.of_own ho (by omega)⟩
open Classical in
/-- The size of a row's first number. -/
noncomputable def rowV (w : World) (g : Nat) : Nat := match w.cell? ⟨g, 1, none⟩ with | some m => valAt w m | none => 0
/-- What Bezout leaves. -/
def BEnd (w : World) (x y : Int) (b : Int × Int × Int) (e : Ending) (w' : World) : Prop := ∃ mg vx vy gs, e = .returned (.tuple #[mg, vx, vy]) ∧ Num w' mg gs ∧ gs.length ≤ 1000000 ∧ val gs = b.1.natAbs ∧ INum w' vx (if x < 0 then -b.2.1 else b.2.1) ∧ INum w' vy (if y < 0 then -b.2.2 else b.2.2) ∧ Below w.heap.size w w'
theorem cmpZ_zero (z : Int) : cmpZ z 0 = 0 ↔ z = 0 := by
  unfold cmpZ
  repeat' split
  all_goals omega

end Go.Proofs.Ytaekaikkldnikaa

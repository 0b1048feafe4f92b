/-
  Proved here: how fractions lie in memory, and a move for a region of which two operations may come first.
  Proved here: what Single and Around of package near answer.
  Proved here: what Around of package near and the document's Around answer: one and the same.
  Proved here: what math's IsNaN, Abs, IsInf answer of floats by their bits.
-/
import Derived.Test.YtaekaikkldnikaaWinMathAll
import Derived.Test.YtaekaikkldnikaaGcd
import Derived.Test.YtaekaikkldnikaaNearRNAll
import Derived.Deep.QuietTactic
namespace Go.Proofs.Ytaekaikkldnikaa
open Go.RowKit

/-- The three cells of a fraction. -/
def QCell (w : World) (g : Nat) (neg : Bool) (m d : Value) : Prop := w.heap[g]? = some (.cells #[.bool neg, m, d] 29 (0, 0))
theorem QCell.cells {w : World} {g : Nat} {neg : Bool} {m d : Value} (h : QCell w g neg m d) : w.cell? ⟨g, 0, none⟩ = some (.bool neg) ∧ w.cell? ⟨g, 1, none⟩ = some m ∧ w.cell? ⟨g, 2, none⟩ = some d := by
  refine ⟨?_, ?_, ?_⟩ <;> (rw [cell_of_row w g _ _ _ _ h]; rfl)
theorem QCell.thaw {w : World} {g : Nat} {neg : Bool} {m d : Value} (h : QCell w g neg m d) (k : Nat) : w.frozen? ⟨g, k, none⟩ = false := frozen_of_row w g k _ _ h
theorem QCell.below {w w' : World} {g : Nat} {neg : Bool} {m d : Value} (h : QCell w g neg m d) (hb : Below w.heap.size w w') : QCell w' g neg m d := by
  unfold QCell; rw [hb.block _ (Array.getElem?_eq_some_iff.1 h).1]; exact h
theorem qcell_step {w : World} {o : Obj} {g : Nat} {neg : Bool} {m d : Value} (h : QCell w g neg m d) : QCell (w.alloc o) g neg m d := h.below (belowA _ _)
theorem qcell_new (w : World) {neg : Bool} {m d : Value} {k : Nat} (hk : w.heap.size = k) : QCell (w.alloc (.cells #[.bool neg, m, d] 29)) k neg m d := by subst hk; exact heap_alloc_new w _
theorem QCell.write {w : World} {g : Nat} {neg : Bool} {m d : Value} (h : QCell w g neg m d) (n2 : Bool) (m2 d2 : Value) : QCell (((w.setCell ⟨g, 0, none⟩ (.bool n2)).setCell ⟨g, 1, none⟩ m2).setCell ⟨g, 2, none⟩ d2) g n2 m2 d2 := by
  unfold QCell
  have h1 := heap_setCell_same w g 0 _ _ (.bool n2) h
  have h2 := heap_setCell_same _ g 1 _ _ m2 h1
  have h3 := heap_setCell_same _ g 2 _ _ d2 h2
  rw [h3]
  rfl
theorem QCell.other {w : World} {g : Nat} {neg : Bool} {m d : Value} (h : QCell w g neg m d) {g' : Nat} (hne : g ≠ g') (k : Nat) (v : Value) : QCell (w.setCell ⟨g', k, none⟩ v) g neg m d := by
  unfold QCell
  rw [heap_setCell_other]
  · exact h
  · exact hne
/-- A fraction that can be read: the number above the line, the one below it as it stands. -/
def RRaw (w : World) (v : Value) (p : Int) (q : Nat) : Prop := ∃ n ao al ac bo bl bc ys, v = .agg #[.bool n, .slice ao al ac, .slice bo bl bc] ∧ INum w (.agg #[.bool n, .slice ao al ac]) p ∧ Num w (.slice bo bl bc) ys ∧ ys.length ≤ 1000000 ∧ val ys = q
theorem RRaw.below {w w' : World} {v : Value} {p : Int} {q : Nat} (h : RRaw w v p q) (hb : Below w.heap.size w w') : RRaw w' v p q := by
  obtain ⟨n, ao, al, ac, bo, bl, bc, ys, e, h1, h2, h3, h4⟩ := h
  exact ⟨n, ao, al, ac, bo, bl, bc, ys, e, h1.below hb, h2.below (Nat.le_refl _) hb, h3, h4⟩
/-- A fraction that can be read, of so many limbs. -/
def RNum (w : World) (v : Value) (x : Rat) (L : Nat) : Prop := ∃ p q, RRaw w v p q ∧ x = rq p q ∧ Sz p L ∧ Sz (und q) L
theorem RNum.below {w w' : World} {v : Value} {x : Rat} {L : Nat} (h : RNum w v x L) (hb : Below w.heap.size w w') : RNum w' v x L := by
  obtain ⟨p, q, h1, h2⟩ := h
  exact ⟨p, q, h1.below hb, h2⟩
/-- A fraction as it should be, in rows of the call's own. -/
def ROwn (B : Nat) (w : World) (v : Value) (r : Rat) : Prop := ∃ m d, v = .agg #[.bool (decide (r.num < 0)), m, d] ∧ Own B 39 w m (lim r.num.natAbs) ∧ Own B 39 w d (lim r.den) ∧ (m.ownBlock = none ∨ m.ownBlock ≠ d.ownBlock)
theorem ROwn.below {B : Nat} {w w' : World} {v : Value} {r : Rat} (h : ROwn B w v r) (hb : Below w.heap.size w w') : ROwn B w' v r := by
  obtain ⟨m, d, e, h1, h2, h3⟩ := h
  exact ⟨m, d, e, h1.below hb, h2.below hb, h3⟩
/-- A fraction as it should stand. -/
def RStd (w : World) (v : Value) (r : Rat) : Prop := ∃ n ao al ac bo bl bc, v = .agg #[.bool n, .slice ao al ac, .slice bo bl bc] ∧ n = decide (r.num < 0) ∧ Num w (.slice ao al ac) (lim r.num.natAbs) ∧ Num w (.slice bo bl bc) (lim r.den)
theorem RStd.below {w w' : World} {v : Value} {r : Rat} (h : RStd w v r) (hb : Below w.heap.size w w') : RStd w' v r := by
  obtain ⟨n, ao, al, ac, bo, bl, bc, e, e2, h1, h2⟩ := h
  exact ⟨n, ao, al, ac, bo, bl, bc, e, e2, h1.below (Nat.le_refl _) hb, h2.below (Nat.le_refl _) hb⟩
theorem ROwn.std {B : Nat} {w : World} {v : Value} {r : Rat} (h : ROwn B w v r) : RStd w v r := by
  obtain ⟨m, d, rfl, h1, h2, _⟩ := h
  obtain ⟨ao, al, ac, rfl⟩ := h1.sl
  obtain ⟨bo, bl, bc, rfl⟩ := h2.sl
  exact ⟨_, ao, al, ac, bo, bl, bc, rfl, rfl, h1.num, h2.num⟩
theorem RStd.num {w : World} {v : Value} {r : Rat} {L : Nat} (h : RStd w v r) (hs : RSz r L) (hL : L ≤ 1000000) : RNum w v r L := by
  obtain ⟨n, ao, al, ac, bo, bl, bc, rfl, rfl, h1, h2⟩ := h
  refine ⟨r.num, r.den, ⟨_, ao, al, ac, bo, bl, bc, _, rfl, ⟨_, _, _, _, _, rfl, h1, Nat.le_trans hs.num.len hL, ?_⟩, h2, ?_, val_lim _⟩, (rq_std r).symm, hs.num, ?_⟩
  · rw [val_lim]; exact zv_self _
  · have := hs.den.len
    rw [Int.natAbs_natCast] at this
    omega
  · unfold und
    rw [if_neg r.den_nz]
    exact hs.den
/-- What a maker of a fraction leaves. -/
def REnd (w : World) (r : Rat) (e : Ending) (w' : World) : Prop := ∃ v, e = .returned v ∧ ROwn w.heap.size w' v r ∧ Below w.heap.size w w'
theorem rat_done {w w3 : World} {g B : Nat} {r : Rat} {b : Bool} {m d : Value} (hb : b = decide (r.num < 0)) (hg : w.heap.size ≤ g) (hm : Own B 39 w3 m (lim r.num.natAbs)) (hd : Own B 39 w3 d (lim r.den)) (hap : m.ownBlock = none ∨ m.ownBlock ≠ d.ownBlock) (hgB : g < B) (hbel : Below w.heap.size w w3) :
    REnd w r (.returned (.agg #[.bool b, m, d])) (((w3.setCell ⟨g, 0, none⟩ (.bool b)).setCell ⟨g, 1, none⟩ m).setCell ⟨g, 2, none⟩ d) := by
  have hne : ∀ {v : Value} {xs : List Nat}, Own B 39 w3 v xs → v.ownBlock = none ∨ v.ownBlock ≠ some g := by
    intro v xs ho
    cases hm : v.ownBlock with
    | none => exact Or.inl rfl
    | some k =>
      right
      intro e
      rw [Option.some.injEq] at e
      have := (ho.block k hm).1
      omega
  exact ⟨_, rfl, ⟨m, d, by rw [hb], (((hm.other _ (hne hm)).other _ (hne hm)).other _ (hne hm)).mono (by omega), (((hd.other _ (hne hd)).other _ (hne hd)).other _ (hne hd)).mono (by omega), hap⟩, ((hbel.setCell (p := ⟨g, 0, none⟩) hg _).setCell (p := ⟨g, 1, none⟩) hg _).setCell (p := ⟨g, 2, none⟩) hg _⟩
theorem ROwn.rehome {B B' : Nat} {w : World} {v : Value} {r : Rat} (h : ROwn B w v r) (hB : B' ≤ B) : ROwn B' w v r := by
  obtain ⟨m, d, e, h1, h2, h3⟩ := h
  exact ⟨m, d, e, h1.mono hB, h2.mono hB, h3⟩

section
variable {P : Program} {l : List Oper} {Q : Exit → Act → World → Prop} {md : Region.Mode} {L : List (Nat × (World → Prop))}
/-- Number j or number k may come up. -/
theorem late_two (j k : Nat) {o o2 : Oper} {n : Nat} {done : Array Bool} {a : Act} {w : World} (hr : Region.ready md l.toArray done = [j, k]) (ho : l[j]? = some o) (ho2 : l[k]? = some o2)
    (h : ∀ K' : Act → World → Prop, Shut (∀ b u, Kept md l.toArray (done.setIfInBounds j true) u L → wpLate P md l.toArray Q L n (done.setIfInBounds j true) b u → K' b u) → if Region.wanted o (yielded l.toArray a.tmps) = true then Oper.wp P o a w K' Q else K' (a.put o.dst undef) w)
    (h2 : ∀ K' : Act → World → Prop, Shut (∀ b u, Kept md l.toArray (done.setIfInBounds k true) u L → wpLate P md l.toArray Q L n (done.setIfInBounds k true) b u → K' b u) → if Region.wanted o2 (yielded l.toArray a.tmps) = true then Oper.wp P o2 a w K' Q else K' (a.put o2.dst undef) w) :
    wpLate P md l.toArray Q L (n + 1) done a w := by
  constructor
  · intro h0; rw [h0] at hr; cases hr
  · intro i hi
    rw [hr] at hi
    rcases List.mem_cons.1 hi with e | hi
    · subst e
      exact wpOp_step (by rw [List.getElem?_toArray]; exact ho) (fun K' hK => h K' (fun b u h1 h2 => hK b u ⟨h1, h2⟩))
    · rw [List.mem_singleton] at hi
      subst hi
      exact wpOp_step (by rw [List.getElem?_toArray]; exact ho2) (fun K' hK => h2 K' (fun b u h1 h2 => hK b u ⟨h1, h2⟩))
end
end Go.Proofs.Ytaekaikkldnikaa

namespace Go.Proofs.Ytaekaikkldnikaa
open Go.RowKit

@[local go_sem] theorem run_f64from3 (b : Nat) (w : World) : (callFunc 31 #[.int .u64 (b : Int)]).run Try.prog w = .ok (.value (.float .f64 b)) w := run_f64from2 b w
theorem find_lt2 (N D : Nat) : (findF 24 (-149) 128 N D).1 < 2139095040 := by
  unfold findF
  have hi : infF 24 (-149) 128 = 2139095040 := by decide
  split
  · decide
  · split
    · rw [hi]; decide
    · split
      · decide
      · unfold divideF
        rw [hi]
        split
        · decide
        · show belowF _ _ _ _ < _
          omega
theorem nearestF_lt2 {p : Nat × Int} (h : p.1 < 2139095040) : nearestF p ≤ 2139095040 := by unfold nearestF; split <;> omega

def aboveF (p : Nat × Int) : Nat := if p.2 = 0 then p.1 else p.1 + 1
end Go.Proofs.Ytaekaikkldnikaa

namespace Go.Proofs.Ytaekaikkldnikaa
open Go.RowKit

@[local go_sem] theorem run_f64from4 (b : Nat) (w : World) : (callFunc 31 #[.int .u64 (b : Int)]).run Try.prog w = .ok (.value (.float .f64 b)) w := run_f64from2 b w

section
variable {P : Program} {ts : Array TypeId} {ty : TypeId} {w : World} {x y : Nat}
theorem min_lt' (h : FloatKind.f64.format.order x y = some .lt) : (Builtin.min_ ts ty #[.float .f64 x, .float .f64 y]).run P w = .ok (.float .f64 x) w := by simp [Builtin.min_, Builtin.min2, h]
theorem min_gt' (h : FloatKind.f64.format.order x y = some .gt) : (Builtin.min_ ts ty #[.float .f64 x, .float .f64 y]).run P w = .ok (.float .f64 y) w := by simp [Builtin.min_, Builtin.min2, h]
theorem min_eq' (h : FloatKind.f64.format.order x x = some .eq) : (Builtin.min_ ts ty #[.float .f64 x, .float .f64 x]).run P w = .ok (.float .f64 x) w := by simp [Builtin.min_, Builtin.min2, h]
theorem max_lt' (h : FloatKind.f64.format.order x y = some .lt) : (Builtin.max_ ts ty #[.float .f64 x, .float .f64 y]).run P w = .ok (.float .f64 y) w := by simp [Builtin.max_, Builtin.max2, h]
theorem max_gt' (h : FloatKind.f64.format.order x y = some .gt) : (Builtin.max_ ts ty #[.float .f64 x, .float .f64 y]).run P w = .ok (.float .f64 x) w := by simp [Builtin.max_, Builtin.max2, h]
theorem max_eq' (h : FloatKind.f64.format.order x x = some .eq) : (Builtin.max_ ts ty #[.float .f64 x, .float .f64 x]).run P w = .ok (.float .f64 x) w := by simp [Builtin.max_, Builtin.max2, h]
end

def arLo (s : Bool) (b c : Nat) : Nat := if s then 2 ^ 63 + c else b
def arHi (s : Bool) (b c : Nat) : Nat := if s then (if b = 0 then 0 else 2 ^ 63 + b) else c

theorem word_true (b : Nat) : Ieee.double.word true b = 2 ^ 63 + b := rfl
theorem word_false (b : Nat) : Ieee.double.word false b = b := rfl

theorem minmax {s : Bool} {b c : Nat} (hbc : c = b ∨ c = b + 1) (hc : c ≤ 9218868437227405312) (hs : s = true → c ≠ 0) (P : Program) (ts : Array TypeId) (ty : TypeId) (w : World) :
    (Builtin.min_ ts ty #[.float .f64 (sidedF s b), .float .f64 (sidedF s c)]).run P w = .ok (.float .f64 (arLo s b c)) w ∧ (Builtin.max_ ts ty #[.float .f64 (sidedF s b), .float .f64 (sidedF s c)]).run P w = .ok (.float .f64 (arHi s b c)) w := by
  cases s with
  | false =>
    have e1 : ∀ z, sidedF false z = z := fun z => if_neg (by simp)
    rw [e1, e1]
    show _ = Result.ok (Value.float .f64 b) w ∧ _ = Result.ok (Value.float .f64 c) w
    rcases hbc with h | h
    · subst h
      have ho : FloatKind.f64.format.order c c = some .eq := order_same false (by omega)
      exact ⟨min_eq' ho, max_eq' ho⟩
    · have ho : FloatKind.f64.format.order b c = some .lt := order_rise false (b := b) (c := c) (by omega) hc
      exact ⟨min_lt' ho, max_lt' ho⟩
  | true =>
    have hc0 := hs rfl
    have e2 : sidedF true c = 2 ^ 63 + c := if_pos ⟨rfl, hc0⟩
    rw [e2]
    by_cases hb : b = 0
    · have e1 : sidedF true b = 0 := by rw [hb]; exact if_neg (by simp)
      have ho : FloatKind.f64.format.order 0 (2 ^ 63 + c) = some .gt := (order_below (c := c) (by omega) hc).2
      rw [e1, show arLo true b c = 2 ^ 63 + c from rfl, show arHi true b c = 0 by unfold arHi; rw [if_pos rfl, if_pos hb]]
      exact ⟨min_gt' ho, max_gt' ho⟩
    · have e1 : sidedF true b = 2 ^ 63 + b := if_pos ⟨rfl, hb⟩
      rw [e1, show arLo true b c = 2 ^ 63 + c from rfl, show arHi true b c = 2 ^ 63 + b by unfold arHi; rw [if_pos rfl, if_neg hb]]
      rcases hbc with h | h
      · subst h
        have ho : FloatKind.f64.format.order (2 ^ 63 + c) (2 ^ 63 + c) = some .eq := order_same true (by omega)
        exact ⟨min_eq' ho, max_eq' ho⟩
      · have ho : FloatKind.f64.format.order (2 ^ 63 + b) (2 ^ 63 + c) = some .gt := order_rise true (b := b) (c := c) (by omega) hc
        exact ⟨min_gt' ho, max_gt' ho⟩

theorem floor_two {p INF n D b q : Nat} {past : Int} (hD : 0 < D) (h : PlaceOk p INF n D q past) (hf : FloorOk p INF n D b) : (fval p INF * D ≤ n → b = INF) ∧ (¬ fval p INF * D ≤ n → b = q) := by
  have h0 := floor_one hD h hf
  exact ⟨fun hc => by rw [if_pos hc] at h0; exact h0, fun hc => by rw [if_neg hc] at h0; exact h0⟩
/-- What is known of a place. -/
theorem place_facts {z : Int} (hz : z = -1074) {N D fa : Nat} {fb : Int} (hD : 0 < D) (hf : (fa, fb) = findF 53 (-1074) 1024 N D) : PlaceOk 52 9218868437227405312 (N * 2 ^ (-z).toNat) D fa fb := by
  have hi : infF 53 z 1024 = 9218868437227405312 := by rw [hz]; decide
  have hf2 : findF 53 z 1024 N D = (fa, fb) := by rw [hz, hf]
  have ho := find_ok (N := N) (D := D) (d := 53) (l := z) (t := 1024) (by omega) (by decide) (by omega) (by omega) (by decide)
  rw [hi, hf2] at ho
  exact ho
theorem above_pos {z : Int} (hz : z = -1074) {N D fa : Nat} {fb : Int} (hD : 0 < D) (hN : N ≠ 0) (hf : (fa, fb) = findF 53 (-1074) 1024 N D) : aboveF (fa, fb) ≠ 0 := by
  have ho := place_facts hz hD hf
  unfold aboveF
  by_cases hb : fb = 0
  · rw [if_pos hb]
    intro h0
    have h0' : fa = 0 := h0
    have hn : 0 < N * 2 ^ (-z).toNat := Nat.mul_pos (by omega) (Nat.two_pow_pos _)
    by_cases hc : fval 52 9218868437227405312 * D ≤ N * 2 ^ (-z).toNat
    · have := (ho.far hc).2; omega
    · have := (ho.just (by omega)).1 hb
      rw [h0', show fval 52 0 = 0 from rfl, Nat.zero_mul] at this
      omega
  · rw [if_neg hb]; omega
theorem above_le (p : Nat × Int) : aboveF p = p.1 ∨ aboveF p = p.1 + 1 := by unfold aboveF; split; exact Or.inl rfl; exact Or.inr rfl

end Go.Proofs.Ytaekaikkldnikaa

namespace Go.Proofs.Ytaekaikkldnikaa
open Go.RowKit

@[local go_sem] theorem run_f64from5 (b : Nat) (w : World) : (callFunc 31 #[.int .u64 (b : Int)]).run Try.prog w = .ok (.value (.float .f64 b)) w := run_f64from2 b w
@[local go_sem] theorem run_f64bits3 (b : Nat) (w : World) : (callFunc 14 #[.float .f64 b]).run Try.prog w = .ok (.value (.int .u64 (b : Int))) w := by
  rw [run_callFunc_extern Try.func14 (by kernel_rfl) (by kernel_rfl) (by kernel_rfl) (e := Extern.MathFloatBits.float64bits) (by kernel_rfl)]
  rfl

theorem isNaN64 (b : Nat) (w : World) :
    Calls Try.prog 16 #[.float .f64 b] w fun e w' => e = .returned (.bool (Ieee.double.read b).isNaN) ∧ w' = w := by
  have hz : (FloatKind.f64.format.order b b != some .eq) = (Ieee.double.read b).isNaN := order_self _
  go_enter Try.func16, Try.ntmps16
  go_wp2
  go_ret
  exact ⟨rfl, rfl⟩

theorem andNot_top {b : Nat} (hb : b < 18446744073709551616) : bits .andNot .u64 (b : Int) 9223372036854775808 = ((b % 2 ^ 63 : Nat) : Int) := by
  have h1 : (~~~ (BitVec.ofInt 64 9223372036854775808)).toNat = 2 ^ 63 - 1 := by decide
  have h2 : (BitVec.ofInt 64 (b : Int)).toNat = b := by
    rw [BitVec.toNat_ofInt]
    omega
  show IntKind.u64.wrap ((((BitVec.ofInt 64 (b : Int)) &&& ~~~ (BitVec.ofInt 64 9223372036854775808)).toNat : Nat) : Int) = _
  rw [BitVec.toNat_and, h1, h2, Nat.and_two_pow_sub_one_eq_mod, IntKind.wrap_u64]
  omega

set_option maxRecDepth 100000 in
theorem abs64 (b : Nat) (w : World) (hb : b < 18446744073709551616) :
    Calls Try.prog 20 #[.float .f64 b] w fun e w' => e = .returned (.float .f64 (b % 2 ^ 63)) ∧ w' = w := by
  have hbits := andNot_top hb
  obtain ⟨r, hr⟩ : ∃ r, r = b % 2 ^ 63 := ⟨_, rfl⟩
  rw [← hr] at hbits ⊢
  clear hr
  go_enter Try.func20, Try.ntmps20
  go_wp2
  go_ret
  exact ⟨rfl, rfl⟩

/-- A float's word is its sign and its size. -/
theorem word_split {b : Nat} (hb : b < 18446744073709551616) : b = Ieee.double.word (sgnb b) (b % 2 ^ 63) := by
  unfold Ieee.Format.word sgnb
  rw [dsw]
  by_cases h : 2 ^ 63 ≤ b
  · rw [decide_eq_true h, if_pos rfl]; omega
  · rw [decide_eq_false h, if_neg (by simp)]; omega

theorem nan_word {b : Nat} : (Ieee.double.read b).isNaN = decide (9218868437227405312 < b % 2 ^ 63) := by
  unfold Ieee.Format.read
  rw [dsw, dbin, dinf]
  dsimp only
  obtain ⟨r, hr⟩ : ∃ r, r = b % 2 ^ 63 := ⟨_, rfl⟩
  rw [← hr]
  split
  · rw [decide_eq_false (by omega)]; rfl
  · split
    · rw [decide_eq_false (by omega)]; rfl
    · split
      · rw [decide_eq_false (by omega)]; rfl
      · rw [decide_eq_true (by omega)]; rfl

set_option maxRecDepth 100000 in
set_option maxHeartbeats 1600000 in
theorem isInf64 (b : Nat) (w : World) (hb : b < 18446744073709551616) (hn : b % 2 ^ 63 ≤ 9218868437227405312) :
    Calls Try.prog 17 #[.float .f64 b, .int .i64 0] w fun e w' => e = .returned (.bool (decide (b % 2 ^ 63 = 9218868437227405312))) ∧ w' = w := by
  have ha := fun w => abs64 b w hb
  obtain ⟨r, hr⟩ : ∃ r, r = b % 2 ^ 63 := ⟨_, rfl⟩
  rw [← hr] at ha hn ⊢
  have ho : (FloatKind.f64.format.order r 9218868437227405311 == some .gt) = decide (r = 9218868437227405312) := by
    by_cases h : r = 9218868437227405312
    · rw [decide_eq_true h, h]; decide
    · rw [decide_eq_false h]
      rcases Nat.lt_or_ge r 9218868437227405311 with h2 | h2
      · have h3 : FloatKind.f64.format.order r 9218868437227405311 = some .lt := order_rise false (b := r) (c := 9218868437227405311) h2 (by decide)
        rw [h3]; rfl
      · rw [show r = 9218868437227405311 by omega]; decide
  obtain ⟨d, hd⟩ : ∃ d, d = decide (r = 9218868437227405312) := ⟨_, rfl⟩
  rw [← hd] at ho ⊢
  clear hr hn hd
  go_enter Try.func17, Try.ntmps17
  go_wp2_with fail
  refine (ha _).mono ?_
  rintro e w1 ⟨rfl, rfl⟩
  clear ha
  go_wp2
  go_ret
  exact ⟨rfl, rfl⟩

set_option maxRecDepth 100000 in
set_option maxHeartbeats 1600000 in
theorem partsD (u k : Nat) (w : World) (h1 : u < 2 ^ 53) (h2 : k = 0 ∨ 2 ^ 52 ≤ u) (hk : k ≤ 2046) :
    Calls Try.prog 19 #[.agg #[.int .i64 53, .int .i64 (-1074), .int .i64 1024], .int .u64 ((u + k * 2 ^ 52 : Nat) : Int)] w fun e w' => e = .returned (.tuple #[.int .u64 (u : Int), .int .i64 (-1074 + (k : Int))]) ∧ Below w.heap.size w w' := by
  obtain ⟨r, hr⟩ : ∃ r, r = u + k * 2 ^ 52 := ⟨_, rfl⟩
  rw [← hr]
  obtain ⟨q, hq⟩ : ∃ q : Nat, (r : Int) / 4503599627370496 = (q : Int) := ⟨r / 4503599627370496, by omega⟩
  have hq2 : (r : Int) / 2 ^ 52 = (q : Int) := hq
  have hqk : q = k + 1 ∨ (q = 0 ∧ k = 0) := by omega
  obtain ⟨KK, hKK⟩ : ∃ z : Nat, (k : Int) * 4503599627370496 = (z : Int) := ⟨k * 4503599627370496, by omega⟩
  have hKK2 : (k : Int) * 2 ^ 52 = (KK : Int) := hKK
  have hKw : IntKind.u64.wrap (KK : Int) = (KK : Int) := by rw [IntKind.wrap_u64]; omega
  have hsub : (r : Int) - (KK : Int) = (u : Int) := by omega
  have huw : IntKind.u64.wrap (u : Int) = (u : Int) := by rw [IntKind.wrap_u64]; omega
  have hkw : IntKind.u64.wrap (k : Int) = (k : Int) := by rw [IntKind.wrap_u64]; omega
  have hki : IntKind.i64.wrap (k : Int) = (k : Int) := by rw [IntKind.wrap_i64]; omega
  clear hr h1 h2
  have hc : KCell (w.alloc (.cells #[.int .i64 53, .int .i64 (-1074), .int .i64 1024] 54)) w.heap.size (.int .i64 53) (.int .i64 (-1074)) (.int .i64 1024) := kcell_new _ rfl
  obtain ⟨c0, c1, c2⟩ := hc.cells
  clear hc
  rcases hqk with h | ⟨h, h'⟩
  · have hlt : ¬ (q : Int) < 1 := by omega
    have hq1 : (q : Int) - 1 = (k : Int) := by omega
    clear h
    go_enter Try.func19, Try.ntmps19
    go_wp2
    go_quiet (first | fail)
    go_wp2
    go_ret2
    exact ⟨rfl, below_drewN (belowA _ _) _⟩
  · subst h
    subst h'
    obtain rfl : r = u := by omega
    clear hsub hKK hKK2 hKw
    go_enter Try.func19, Try.ntmps19
    go_wp2
    go_quiet (first | fail)
    go_wp2
    go_ret2
    exact ⟨rfl, below_drewN (belowA _ _) _⟩
end Go.Proofs.Ytaekaikkldnikaa

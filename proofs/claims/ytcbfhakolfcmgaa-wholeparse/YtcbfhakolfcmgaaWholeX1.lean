/-
  Proved here: what Norm, Neg and Mul of package whole answer. Proved here: what Mul of package whole answers. Proved here: what Cmp, Sign and Neg of package whole answer. Proved here: what Sign, Neg, size, onSideOf and less of package whole answer. Proved here: what Quo of package whole answers.
-/
import Derived.Test.YtcbfhakolfcmgaaWholeD
import Derived.Test.YtcbfhakolfcmgaaMul
import Derived.Deep.RegionHeld3
import Derived.Deep.DrawnRows
import Derived.Test.YtcbfhakolfcmgaaCmp
import Derived.Test.YtcbfhakolfcmgaaDivMod
namespace Go.Proofs.Ytcbfhakolfcmgaa
open Go.RowKit
attribute [local go_sem ↓] Go.wp_at_zero Go.wp_at_succ

theorem keepB {w w' : World} {p : Addr} {v : Value} (hb : Below w.heap.size w w') (h : w.cell? p = some v) : w'.cell? p = some v := by
  rw [hb.cell (block_lt_of_cell h), h]
theorem keepB2 {w w' : World} {p q : Addr} {v u : Value} (hb : Below w.heap.size w w') (h : w.cell? p = some v ∧ w.cell? q = some u) : w'.cell? p = some v ∧ w'.cell? q = some u :=
  ⟨keepB hb h.1, keepB hb h.2⟩
theorem keepB4 {w w' : World} {p q r s : Addr} {v u x y : Value} (hb : Below w.heap.size w w') (h : w.cell? p = some v ∧ w.cell? q = some u ∧ w.cell? r = some x ∧ w.cell? s = some y) : w'.cell? p = some v ∧ w'.cell? q = some u ∧ w'.cell? r = some x ∧ w'.cell? s = some y :=
  ⟨keepB hb h.1, keepB hb h.2.1, keepB hb h.2.2.1, keepB hb h.2.2.2⟩
theorem keepS {w : World} {g b o k k2 : Nat} {v v2 x : Value} (hne : b ≠ g) (h : w.cell? ⟨b, o, none⟩ = some x) : ((w.setCell ⟨g, k, none⟩ v).setCell ⟨g, k2, none⟩ v2).cell? ⟨b, o, none⟩ = some x := by
  rw [← h]
  apply World.cell?_of_block
  rw [heap_setCell_other, heap_setCell_other]
  · exact hne
  · exact hne
theorem zv_mul (na nb : Bool) (x y : Nat) : zv na x * zv nb y = zv (na != nb) (x * y) := by
  cases na <;> cases nb <;> simp [zv, Int.neg_mul, Int.mul_neg]
/-- One box and the result's. -/
def Box1 (w : World) (g : Nat) (na : Bool) (ma : Value) : Prop := ICell w g na ma ∧ ICell w (g + 1) false (.slice none 0 0)
theorem Box1.below {w w' : World} {g : Nat} {na : Bool} {ma : Value} (h : Box1 w g na ma) (hb : Below w.heap.size w w') : Box1 w' g na ma := ⟨h.1.below hb, h.2.below hb⟩
theorem Box1.new (w : World) (na : Bool) (ma : Value) : Box1 ((w.alloc (.cells #[.bool na, ma] 25)).alloc (.cells #[.bool false, .slice none 0 0] 25)) w.heap.size na ma := by
  have h2 := ICell.new (w.alloc (.cells #[.bool na, ma] 25)) false (.slice none 0 0)
  have h1 := (ICell.new w na ma).below (belowA _ (.cells #[.bool false, .slice none 0 0] 25))
  rw [World.size_alloc] at h2
  exact ⟨h1, h2⟩

end Go.Proofs.Ytcbfhakolfcmgaa

namespace Go.Proofs.Ytcbfhakolfcmgaa
open Go.RowKit
attribute [local go_sem ↓] Go.wp_at_zero Go.wp_at_succ

end Go.Proofs.Ytcbfhakolfcmgaa

namespace Go.Proofs.Ytcbfhakolfcmgaa
open Go.RowKit

/-- How two whole numbers compare. -/
def cmpZ (x y : Int) : Int := if x < y then -1 else if x = y then 0 else 1
theorem below_zv (neg : Bool) (n : Nat) : (neg && decide (0 < bl n)) = decide (zv neg n < 0) := by
  cases neg
  · simp [zv]
  · by_cases h : n = 0
    · subst h; simp [zv, bl_zero]
    · rw [decide_eq_true (bl_pos.2 h), decide_eq_true (show zv true n < 0 by unfold zv; simp; omega)]; rfl
theorem cmp_neg {na nb : Bool} {x y : Nat} (ha : zv na x < 0) (hb : zv nb y < 0) : cmpN y x = cmpZ (zv na x) (zv nb y) := by
  cases na <;> cases nb <;> simp [zv] at ha hb ⊢ <;> try omega
  unfold cmpN cmpZ
  repeat' split
  all_goals omega
theorem cmp_pos {na nb : Bool} {x y : Nat} (ha : ¬ zv na x < 0) (hb : ¬ zv nb y < 0) : cmpN x y = cmpZ (zv na x) (zv nb y) := by
  have ea : zv na x = x := by cases na <;> simp [zv] at ha ⊢; omega
  have eb : zv nb y = y := by cases nb <;> simp [zv] at hb ⊢; omega
  rw [ea, eb]
  unfold cmpN cmpZ
  repeat' split
  all_goals omega
/-- Two boxes. -/
def Box2 (w : World) (g : Nat) (na nb : Bool) (ma mb : Value) : Prop := ICell w g na ma ∧ ICell w (g + 1) nb mb
theorem Box2.below {w w' : World} {g : Nat} {na nb : Bool} {ma mb : Value} (h : Box2 w g na nb ma mb) (hb : Below w.heap.size w w') : Box2 w' g na nb ma mb := ⟨h.1.below hb, h.2.below hb⟩
theorem Box2.new (w : World) (na nb : Bool) (ma mb : Value) : Box2 ((w.alloc (.cells #[.bool na, ma] 25)).alloc (.cells #[.bool nb, mb] 25)) w.heap.size na nb ma mb := by
  have h2 := ICell.new (w.alloc (.cells #[.bool na, ma] 25)) nb mb
  have h1 := (ICell.new w na ma).below (belowA _ (.cells #[.bool nb, mb] 25))
  rw [World.size_alloc] at h2
  exact ⟨h1, h2⟩

/-- A whole number that can be read. -/
def INum (w : World) (v : Value) (z : Int) : Prop := ∃ neg ao n cap xs, v = .agg #[.bool neg, .slice ao n cap] ∧ Num w (.slice ao n cap) xs ∧ xs.length ≤ 1000000 ∧ zv neg (val xs) = z
/-- A whole number, normal, in a row of the call's own. -/
def IOwn (B : Nat) (w : World) (v : Value) (z : Int) : Prop := ∃ m, v = .agg #[.bool (decide (z < 0)), m] ∧ Own B 30 w m (lim z.natAbs)
/-- So many limbs hold the number. -/
structure Sz (z : Int) (L : Nat) : Prop where
  lt : z.natAbs < 4294967296 ^ L
theorem Sz.mono {z : Int} {L M : Nat} (h : Sz z L) (hm : L ≤ M) : Sz z M := ⟨Nat.lt_of_lt_of_le h.lt (Nat.pow_le_pow_right (Nat.succ_pos _) hm)⟩
theorem Sz.len {z : Int} {L : Nat} (h : Sz z L) : (lim z.natAbs).length ≤ L := lim_len_le h.lt
theorem Sz.neg {z : Int} {L : Nat} (h : Sz z L) : Sz (-z) L := ⟨by rw [Int.natAbs_neg]; exact h.lt⟩
theorem Sz.mul {x y : Int} {L M : Nat} (hx : Sz x L) (hy : Sz y M) : Sz (x * y) (L + M) :=
  ⟨by rw [Int.natAbs_mul, Nat.pow_add]; exact Nat.mul_lt_mul'' hx.lt hy.lt⟩
theorem Sz.add {x y : Int} {L : Nat} (hx : Sz x L) (hy : Sz y L) : Sz (x + y) (L + 1) := ⟨by
  have h1 := hx.lt
  have h2 := hy.lt
  rw [Nat.pow_succ]
  have := Int.natAbs_add_le x y
  omega⟩
theorem Sz.sub {x y : Int} {L : Nat} (hx : Sz x L) (hy : Sz y L) : Sz (x - y) (L + 1) := by
  rw [Int.sub_eq_add_neg]; exact hx.add hy.neg
theorem Sz.le {x y : Int} {L : Nat} (hx : Sz x L) (h : y.natAbs ≤ x.natAbs) : Sz y L := ⟨Nat.lt_of_le_of_lt h hx.lt⟩
theorem Sz.one : Sz 1 1 := ⟨by decide⟩
theorem Sz.zero : Sz 0 1 := ⟨by decide⟩
theorem Sz.of_num {w : World} {v : Value} {xs : List Nat} {neg : Bool} {L : Nat} (h : Num w v xs) (hl : xs.length ≤ L) : Sz (zv neg (val xs)) L := ⟨by
  rw [zv_abs]
  exact Nat.lt_of_lt_of_le (val_lt h.1) (Nat.pow_le_pow_right (Nat.succ_pos _) hl)⟩
theorem zv_self (z : Int) : zv (decide (z < 0)) z.natAbs = z := by
  unfold zv
  by_cases h : z < 0
  · simp [h]; omega
  · simp [h]; omega
theorem INum.below {w w' : World} {v : Value} {z : Int} (h : INum w v z) (hb : Below w.heap.size w w') : INum w' v z := by
  obtain ⟨neg, ao, n, cap, xs, e, hn, hl, hz⟩ := h
  exact ⟨neg, ao, n, cap, xs, e, hn.below (Nat.le_refl _) hb, hl, hz⟩
theorem IOwn.num {B : Nat} {w : World} {v : Value} {z : Int} (h : IOwn B w v z) {L : Nat} (hs : Sz z L) (hL : L ≤ 1000000) : INum w v z := by
  obtain ⟨m, rfl, ho⟩ := h
  obtain ⟨ao, n, cap, rfl⟩ := ho.sl
  exact ⟨_, ao, n, cap, _, rfl, ho.num, Nat.le_trans hs.len hL, by rw [val_lim, zv_self]⟩
theorem IOwn.below {B : Nat} {w w' : World} {v : Value} {z : Int} (h : IOwn B w v z) (hb : Below w.heap.size w w') : IOwn B w' v z := by
  obtain ⟨m, e, ho⟩ := h
  exact ⟨m, e, ho.below hb⟩
/-- What a maker of a whole number leaves. -/
def IEnd (w : World) (z : Int) (e : Ending) (w' : World) : Prop := ∃ v, e = .returned v ∧ IOwn w.heap.size w' v z ∧ Below w.heap.size w w'
theorem IntEnd.i {w w' : World} {z : Int} {e : Ending} (h : IntEnd w z e w') : IEnd w z e w' := by
  obtain ⟨m, he, ho, hb⟩ := h
  exact ⟨_, he, ⟨m, rfl, ho⟩, hb⟩
theorem INum.nil (w : World) : INum w (.agg #[.bool false, .slice none 0 0]) 0 := ⟨false, none, 0, 0, [], rfl, Num.of_nil w, by simp, rfl⟩
end Go.Proofs.Ytcbfhakolfcmgaa

namespace Go.Proofs.Ytcbfhakolfcmgaa
open Go.RowKit
attribute [local go_sem ↓] Go.wp_at_zero Go.wp_at_succ

theorem icell_step {w : World} {o : Obj} {g : Nat} {neg : Bool} {m : Value} (h : ICell w g neg m) : ICell (w.alloc o) g neg m := h.below (belowA _ _)
theorem icell_new (w : World) {neg : Bool} {m : Value} {k : Nat} (hk : w.heap.size = k) : ICell (w.alloc (.cells #[.bool neg, m] 25)) k neg m := by subst hk; exact ICell.new w neg m
theorem INum.opp {w : World} {na : Bool} {m : Value} {x : Int} (h : INum w (.agg #[.bool na, m]) x) : INum w (.agg #[.bool (!na), m]) (-x) := by
  obtain ⟨neg, ao, n, cap, xs, e, h1, h2, rfl⟩ := h
  simp only [Value.agg.injEq, Array.mk.injEq, List.cons.injEq, Value.bool.injEq, and_true] at e
  obtain ⟨rfl, rfl⟩ := e
  exact ⟨_, _, _, _, _, rfl, h1, h2, by rw [zv_neg]⟩
theorem INum.abs {w : World} {na : Bool} {ao : Option Addr} {al ac : Nat} {x : Int} (h : INum w (.agg #[.bool na, .slice ao al ac]) x) : ∃ xs, Num w (.slice ao al ac) xs ∧ xs.length ≤ 1000000 ∧ val xs = x.natAbs ∧ zv na (val xs) = x := by
  obtain ⟨neg, ao', n, cap, xs, e, h1, h2, rfl⟩ := h
  simp only [Value.agg.injEq, Array.mk.injEq, List.cons.injEq, Value.bool.injEq, and_true, Value.slice.injEq] at e
  obtain ⟨rfl, rfl, rfl, rfl⟩ := e
  exact ⟨xs, h1, h2, (zv_abs _ _).symm, rfl⟩

theorem below_drew' (w : World) : Below w.heap.size w w.drew := (Below.refl _ _).drew
theorem IOwn.mono {B B' : Nat} {w : World} {v : Value} {z : Int} (h : IOwn B w v z) (hB : B' ≤ B) : IOwn B' w v z := by
  obtain ⟨m, e, ho⟩ := h
  exact ⟨m, e, ho.mono hB⟩
end Go.Proofs.Ytcbfhakolfcmgaa

namespace Go.Proofs.Ytcbfhakolfcmgaa
open Go.RowKit
attribute [local go_sem ↓] Go.wp_at_zero Go.wp_at_succ

theorem results_cct {P : Program} {fn : Func} {p q u : Tmp} {ty : TypeId} (h : fn.results = #[.cell p ty, .cell q ty, .tmp u]) (tmps : Array Value) (w : World) (g g2 : Nat) (t t2 : TypeId) (cs cs2 : Array Value) (fr fr2 : Nat × Nat) (d : TypeDesc)
    (hp : tmps.getD p undef = .pointer (some ⟨g, 0, none⟩)) (hq : tmps.getD q undef = .pointer (some ⟨g2, 0, none⟩)) (hg : w.heap[g]? = some (.cells cs t fr)) (hg2 : w.heap[g2]? = some (.cells cs2 t2 fr2))
    (hu : P.underlying ty = some d) (hd : (match d with | .struct _ | .array _ _ => true | _ => false) = true) (hi : (P.info? ty).map (·.size) = some cs.size) (hi2 : (P.info? ty).map (·.size) = some cs2.size) :
    (results fn tmps).run P w = .ok (.tuple #[.agg cs, .agg cs2, tmps.getD u undef]) w := by
  have hp' : tmps[p]?.getD undef = .pointer (some ⟨g, 0, none⟩) := by simpa using hp
  have hq' : tmps[q]?.getD undef = .pointer (some ⟨g2, 0, none⟩) := by simpa using hq
  simp [results, h, hp', hq', asAddr, run_loadVar_row w g t ty cs fr d hg hu hd hi, run_loadVar_row w g2 t2 ty cs2 fr2 d hg2 hu hd hi2]

/-- What is left of a division; 0 where by 0 is divided. -/
def rz (x y : Int) : Int := if y = 0 then 0 else x.tmod y
theorem zv_div (na nb : Bool) (x y : Nat) : zv (na != nb) (x / y) = (zv na x).tdiv (zv nb y) := by
  cases na <;> cases nb <;> simp [zv, Int.neg_tdiv, Int.tdiv_neg]
theorem zv_mod (na nb : Bool) (x y : Nat) (h : y ≠ 0) : zv na (modZ x y) = rz (zv na x) (zv nb y) := by
  unfold rz modZ
  have h2 : zv nb y ≠ 0 := by cases nb <;> simp [zv] <;> omega
  rw [if_neg h2]
  simp only [h, if_false]
  cases na <;> cases nb <;> simp [zv, Int.neg_tmod, Int.tmod_neg] <;> exact (Int.tmod_eq_emod_of_nonneg (by omega)).symm
/-- What Quo and Floor leave. -/
def QEnd (w : World) (q r : Int) (er : Int) (e : Ending) (w' : World) : Prop :=
  ∃ mq mr, e = .returned (.tuple #[.agg #[.bool (decide (q < 0)), mq], .agg #[.bool (decide (r < 0)), mr], .int .i64 er]) ∧ Own w.heap.size 30 w' mq (lim q.natAbs) ∧ Own w.heap.size 30 w' mr (lim r.natAbs) ∧
    (mq.ownBlock = none ∨ mq.ownBlock ≠ mr.ownBlock) ∧ Below w.heap.size w w'
/-- Two rows of the call's own behind the stores into two result cells. -/
theorem own_far {B g g2 : Nat} {w : World} {m v0 v1 u0 u1 : Value} {xs : List Nat} (ho : Own B 30 w m xs) (hg : g < B) (hg2 : g2 < B) :
    Own B 30 ((((w.setCell ⟨g, 0, none⟩ v0).setCell ⟨g, 1, none⟩ v1).setCell ⟨g2, 0, none⟩ u0).setCell ⟨g2, 1, none⟩ u1) m xs := by
  have hne : ∀ k, k < B → m.ownBlock = none ∨ m.ownBlock ≠ some k := by
    intro k hk
    cases hm : m.ownBlock with
    | none => exact Or.inl rfl
    | some j =>
      right
      intro e
      rw [Option.some.injEq] at e
      have := (ho.block j hm).1
      omega
  exact (((ho.other v0 (hne g hg)).other v1 (hne g hg)).other u0 (hne g2 hg2)).other u1 (hne g2 hg2)
theorem below_far {w wr : World} {g g2 : Nat} {v0 v1 u0 u1 : Value} (hb : Below w.heap.size w wr) (hg : w.heap.size ≤ g) (hg2 : w.heap.size ≤ g2) :
    Below w.heap.size w ((((wr.setCell ⟨g, 0, none⟩ v0).setCell ⟨g, 1, none⟩ v1).setCell ⟨g2, 0, none⟩ u0).setCell ⟨g2, 1, none⟩ u1) :=
  (((hb.setCell (p := ⟨g, 0, none⟩) hg _).setCell (p := ⟨g, 1, none⟩) hg _).setCell (p := ⟨g2, 0, none⟩) hg2 _).setCell (p := ⟨g2, 1, none⟩) hg2 _
theorem quo_done {w wr : World} {B g g2 : Nat} {q r er : Int} {mq mr : Value} (hq : Own B 30 wr mq (lim q.natAbs)) (hr : Own B 30 wr mr (lim r.natAbs)) (hqr : mq.ownBlock = none ∨ mq.ownBlock ≠ mr.ownBlock)
    (hg : w.heap.size ≤ g) (hg2 : w.heap.size ≤ g2) (hgB : g < B) (hgB2 : g2 < B) (hb : Below w.heap.size w wr) {v0 v1 u0 u1 : Value} :
    QEnd w q r er (.returned (.tuple #[.agg #[.bool (decide (q < 0)), mq], .agg #[.bool (decide (r < 0)), mr], .int .i64 er])) ((((wr.setCell ⟨g, 0, none⟩ v0).setCell ⟨g, 1, none⟩ v1).setCell ⟨g2, 0, none⟩ u0).setCell ⟨g2, 1, none⟩ u1) :=
  ⟨mq, mr, rfl, (own_far hq hgB hgB2).mono (by omega), (own_far hr hgB hgB2).mono (by omega), hqr, below_far hb hg hg2⟩
/-- Both result cells behind the stores. -/
theorem icell_two {w : World} {g g2 : Nat} {n1 n2 k1 k2 : Bool} {m1 m2 v1 v2 : Value} (h1 : ICell w g n1 m1) (h2 : ICell w g2 n2 m2) (hne : g ≠ g2) :
    ICell ((((w.setCell ⟨g, 0, none⟩ (.bool k1)).setCell ⟨g, 1, none⟩ v1).setCell ⟨g2, 0, none⟩ (.bool k2)).setCell ⟨g2, 1, none⟩ v2) g k1 v1 ∧
    ICell ((((w.setCell ⟨g, 0, none⟩ (.bool k1)).setCell ⟨g, 1, none⟩ v1).setCell ⟨g2, 0, none⟩ (.bool k2)).setCell ⟨g2, 1, none⟩ v2) g2 k2 v2 :=
  ⟨((h1.write k1 v1).other hne 0 _).other hne 1 _, ((h2.other (Ne.symm hne) 0 _).other (Ne.symm hne) 1 _).write k2 v2⟩

end Go.Proofs.Ytcbfhakolfcmgaa

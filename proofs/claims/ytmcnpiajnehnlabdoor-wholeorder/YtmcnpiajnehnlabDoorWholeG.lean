/-
  Proved here: what Cmp, Sign and Neg of package whole answer.
-/
import Derived.Test.YtmcnpiajnehnlabDoorWholeF
import Derived.Test.YtmcnpiajnehnlabDoorCmp
namespace Go.Proofs.YtmcnpiajnehnlabDoor
open Go.RowKit

/-- How two whole numbers compare. -/
def cmpZ (x y : Int) : Int := if x < y then -1 else if x = y then 0 else 1
theorem below_zv (neg : Bool) (n : Nat) : (neg && decide (0 < bl n)) = decide (zv neg n < 0) := by
  cases neg
  · simp [zv]
  · by_cases h : n = 0
    · subst h; simp [zv, bl_zero]
    · rw [decide_eq_true (bl_pos.2 h), decide_eq_true (show zv true n < 0 by unfold zv; simp; omega)]; rfl
theorem cmp_neg {na nb : Bool} {x y : Nat} (ha : zv na x < 0) (hb : zv nb y < 0) : cmpN y x = cmpZ (zv na x) (zv nb y) := by
  cases na <;> cases nb <;> simp [zv] at ha hb ⊢ <;> try omega
  unfold cmpN cmpZ
  repeat' split
  all_goals omega
theorem cmp_pos {na nb : Bool} {x y : Nat} (ha : ¬ zv na x < 0) (hb : ¬ zv nb y < 0) : cmpN x y = cmpZ (zv na x) (zv nb y) := by
  have ea : zv na x = x := by cases na <;> simp [zv] at ha ⊢; omega
  have eb : zv nb y = y := by cases nb <;> simp [zv] at hb ⊢; omega
  rw [ea, eb]
  unfold cmpN cmpZ
  repeat' split
  all_goals omega
/-- Two boxes. -/
def Box2 (w : World) (g : Nat) (na nb : Bool) (ma mb : Value) : Prop := ICell w g na ma ∧ ICell w (g + 1) nb mb
theorem Box2.below {w w' : World} {g : Nat} {na nb : Bool} {ma mb : Value} (h : Box2 w g na nb ma mb) (hb : Below w.heap.size w w') : Box2 w' g na nb ma mb := ⟨h.1.below hb, h.2.below hb⟩
theorem Box2.new (w : World) (na nb : Bool) (ma mb : Value) : Box2 ((w.alloc (.cells #[.bool na, ma] 25)).alloc (.cells #[.bool nb, mb] 25)) w.heap.size na nb ma mb := by
  have h2 := ICell.new (w.alloc (.cells #[.bool na, ma] 25)) nb mb
  have h1 := (ICell.new w na ma).below (belowA _ (.cells #[.bool nb, mb] 25))
  rw [World.size_alloc] at h2
  exact ⟨h1, h2⟩

set_option maxRecDepth 100000 in
set_option maxHeartbeats 3200000 in
theorem wcmp_any (na nb : Bool) (ao bo : Option Addr) (al ac bl_ bc : Nat) (xs ys : List Nat) (w : World) (ha : Num w (.slice ao al ac) xs) (hb : Num w (.slice bo bl_ bc) ys) (hlx : xs.length ≤ 1000000) (hly : ys.length ≤ 1000000) :
    Calls Tryd.prog 10 #[.agg #[.bool na, .slice ao al ac], .agg #[.bool nb, .slice bo bl_ bc]] w fun e w' => e = .returned (.int .i64 (cmpZ (zv na (val xs)) (zv nb (val ys)))) ∧ Below w.heap.size w w' := by
  obtain ⟨W1, hW1⟩ : ∃ W1, W1 = (w.alloc (.cells #[.bool na, .slice ao al ac] 25)).alloc (.cells #[.bool nb, .slice bo bl_ bc] 25) := ⟨_, rfl⟩
  have hx : Box2 W1 w.heap.size na nb (.slice ao al ac) (.slice bo bl_ bc) := by rw [hW1]; exact Box2.new _ _ _ _ _
  have hb1 : Below w.heap.size w W1 := by rw [hW1]; exact bstep (belowA w _) (belowA _ _)
  have na1 := ha.below (Nat.le_refl _) hb1
  have nb1 := hb.below (Nat.le_refl _) hb1
  have HW1 : Hid (W1 = (w.alloc (.cells #[.bool na, .slice ao al ac] 25)).alloc (.cells #[.bool nb, .slice bo bl_ bc] 25)) := hW1
  clear hW1 ha hb
  obtain ⟨g, hg⟩ : ∃ g, g = w.heap.size := ⟨_, rfl⟩
  rw [← hg] at hx
  obtain ⟨Z, hZ⟩ : ∃ Z, Z = cmpZ (zv na (val xs)) (zv nb (val ys)) := ⟨_, rfl⟩
  have HZ : Hid (Z = cmpZ (zv na (val xs)) (zv nb (val ys))) := hZ
  rw [← hZ]
  clear hZ
  go_enter Tryd.func10, Tryd.ntmps10
  go_wp2_with fail
  rw [← HW1.out]
  rw [← hg]
  have HG : Hid (g = w.heap.size) := hg
  clear HW1 hg
  refine (below_any _ _ _ _ _ _ na1 hlx).mono ?_
  rintro e w2 ⟨rfl, hb2⟩
  rw [below_zv]
  replace hx := hx.below hb2
  replace na1 := na1.below (Nat.le_refl _) hb2
  replace nb1 := nb1.below (Nat.le_refl _) hb2
  replace hb1 := bstep hb1 hb2
  rw [← HG.out] at hb1
  clear hb2
  by_cases hA : zv na (val xs) < 0
  · rw [decide_eq_true hA]
    obtain ⟨c0, c1⟩ := hx.1.cells
    obtain ⟨d0, d1⟩ := hx.2.cells
    go_wp2_with fail
    refine (below_any _ _ _ _ _ _ nb1 hly).mono ?_
    rintro e w3 ⟨rfl, hb2⟩
    rw [below_zv]
    replace hx := hx.below hb2
    replace na1 := na1.below (Nat.le_refl _) hb2
    replace nb1 := nb1.below (Nat.le_refl _) hb2
    have hb3 : Below g w w3 := by rw [HG.out] at hb1 ⊢; exact bstep hb1 hb2
    clear hb2 hb1 c0 c1 d0 d1
    obtain ⟨c0, c1⟩ := hx.1.cells
    obtain ⟨d0, d1⟩ := hx.2.cells
    by_cases hB : zv nb (val ys) < 0
    · rw [decide_eq_true hB]
      have HC : Hid (cmpN (val ys) (val xs) = Z) := by show _ = _; rw [HZ.out, cmp_neg hA hB]
      go_wp2_with fail
      refine (cmp_any _ _ _ _ _ nb1 na1).mono ?_
      rintro e w4 ⟨rfl, kk, hk⟩
      rw [HC.out]
      have HE : Hid (Below w.heap.size w w4) := by rw [HG.out] at hb3; exact bstep hb3 (belowK hk)
      clear hk hb3 na1 nb1 hx c0 c1 d0 d1 hA hB
      go_wp2_with fail
      go_ret
      exact ⟨rfl, HE.out⟩
    · rw [decide_eq_false hB]
      have HC : Hid (Z = -1) := by show _ = _; rw [HZ.out]; unfold cmpZ; rw [if_pos (by omega)]
      go_wp2_with fail
      refine (below_any _ _ _ _ _ _ na1 hlx).mono ?_
      rintro e w4 ⟨rfl, hb2⟩
      rw [below_zv, decide_eq_true (show zv na (val xs) < 0 by omega)]
      have HE : Hid (Below w.heap.size w w4) := by rw [HG.out] at hb3; exact bstep hb3 hb2
      clear hb2 hb3 na1 nb1 hx c0 c1 d0 d1 hA hB
      go_wp2_with fail
      go_ret
      exact ⟨by first | (rw [HC.out]; done) | (rw [HC.out]; rfl), HE.out⟩
  · rw [decide_eq_false hA]
    obtain ⟨c0, c1⟩ := hx.1.cells
    obtain ⟨d0, d1⟩ := hx.2.cells
    go_wp2_with fail
    refine (below_any _ _ _ _ _ _ na1 hlx).mono ?_
    rintro e w3 ⟨rfl, hb2⟩
    rw [below_zv, decide_eq_false (show ¬ zv na (val xs) < 0 by omega)]
    replace hx := hx.below hb2
    replace na1 := na1.below (Nat.le_refl _) hb2
    replace nb1 := nb1.below (Nat.le_refl _) hb2
    have hb3 : Below g w w3 := by rw [HG.out] at hb1 ⊢; exact bstep hb1 hb2
    clear hb2 hb1 c0 c1 d0 d1
    obtain ⟨c0, c1⟩ := hx.1.cells
    obtain ⟨d0, d1⟩ := hx.2.cells
    go_wp2_with fail
    refine (below_any _ _ _ _ _ _ nb1 hly).mono ?_
    rintro e w4 ⟨rfl, hb2⟩
    rw [below_zv]
    replace hx := hx.below hb2
    replace na1 := na1.below (Nat.le_refl _) hb2
    replace nb1 := nb1.below (Nat.le_refl _) hb2
    have hb4 : Below g w w4 := by rw [HG.out] at hb3 ⊢; exact bstep hb3 hb2
    clear hb2 hb3 c0 c1 d0 d1
    obtain ⟨c0, c1⟩ := hx.1.cells
    obtain ⟨d0, d1⟩ := hx.2.cells
    by_cases hB : zv nb (val ys) < 0
    · rw [decide_eq_true hB]
      have HC : Hid (Z = 1) := by show _ = _; rw [HZ.out]; unfold cmpZ; rw [if_neg (by omega), if_neg (by omega)]
      have HE : Hid (Below w.heap.size w w4) := by rw [HG.out] at hb4; exact hb4
      clear hb4 na1 nb1 hx c0 c1 d0 d1 hA hB
      go_wp2_with fail
      go_ret
      exact ⟨by first | (rw [HC.out]; done) | (rw [HC.out]; rfl), HE.out⟩
    · rw [decide_eq_false hB]
      have HC : Hid (cmpN (val xs) (val ys) = Z) := by show _ = _; rw [HZ.out, cmp_pos (show ¬ zv na (val xs) < 0 by omega) (show ¬ zv nb (val ys) < 0 by omega)]
      go_wp2_with fail
      refine (cmp_any _ _ _ _ _ na1 nb1).mono ?_
      rintro e w5 ⟨rfl, kk, hk⟩
      rw [HC.out]
      have HE : Hid (Below w.heap.size w w5) := by rw [HG.out] at hb4; exact bstep hb4 (belowK hk)
      clear hk hb4 na1 nb1 hx c0 c1 d0 d1 hA hB
      go_wp2_with fail
      go_ret
      exact ⟨rfl, HE.out⟩

/-- A whole number that can be read. -/
def INum (w : World) (v : Value) (z : Int) : Prop := ∃ neg ao n cap xs, v = .agg #[.bool neg, .slice ao n cap] ∧ Num w (.slice ao n cap) xs ∧ xs.length ≤ 1000000 ∧ zv neg (val xs) = z
/-- A whole number, normal, in a row of the call's own. -/
def IOwn (B : Nat) (w : World) (v : Value) (z : Int) : Prop := ∃ m, v = .agg #[.bool (decide (z < 0)), m] ∧ Own B 68 w m (lim z.natAbs)
/-- So many limbs hold the number. -/
structure Sz (z : Int) (L : Nat) : Prop where
  lt : z.natAbs < 4294967296 ^ L
theorem Sz.mono {z : Int} {L M : Nat} (h : Sz z L) (hm : L ≤ M) : Sz z M := ⟨Nat.lt_of_lt_of_le h.lt (Nat.pow_le_pow_right (Nat.succ_pos _) hm)⟩
theorem Sz.len {z : Int} {L : Nat} (h : Sz z L) : (lim z.natAbs).length ≤ L := lim_len_le h.lt
theorem Sz.neg {z : Int} {L : Nat} (h : Sz z L) : Sz (-z) L := ⟨by rw [Int.natAbs_neg]; exact h.lt⟩
theorem Sz.mul {x y : Int} {L M : Nat} (hx : Sz x L) (hy : Sz y M) : Sz (x * y) (L + M) :=
  ⟨by rw [Int.natAbs_mul, Nat.pow_add]; exact Nat.mul_lt_mul'' hx.lt hy.lt⟩
theorem Sz.add {x y : Int} {L : Nat} (hx : Sz x L) (hy : Sz y L) : Sz (x + y) (L + 1) := ⟨by
  have h1 := hx.lt
  have h2 := hy.lt
  rw [Nat.pow_succ]
  have := Int.natAbs_add_le x y
  omega⟩
theorem Sz.sub {x y : Int} {L : Nat} (hx : Sz x L) (hy : Sz y L) : Sz (x - y) (L + 1) := by
  rw [Int.sub_eq_add_neg]; exact hx.add hy.neg
theorem Sz.le {x y : Int} {L : Nat} (hx : Sz x L) (h : y.natAbs ≤ x.natAbs) : Sz y L := ⟨Nat.lt_of_le_of_lt h hx.lt⟩
theorem Sz.one : Sz 1 1 := ⟨by decide⟩
theorem Sz.zero : Sz 0 1 := ⟨by decide⟩
theorem Sz.of_num {w : World} {v : Value} {xs : List Nat} {neg : Bool} {L : Nat} (h : Num w v xs) (hl : xs.length ≤ L) : Sz (zv neg (val xs)) L := ⟨by
  rw [zv_abs]
  exact Nat.lt_of_lt_of_le (val_lt h.1) (Nat.pow_le_pow_right (Nat.succ_pos _) hl)⟩
theorem zv_self (z : Int) : zv (decide (z < 0)) z.natAbs = z := by
  unfold zv
  by_cases h : z < 0
  · simp [h]; omega
  · simp [h]; omega
theorem INum.below {w w' : World} {v : Value} {z : Int} (h : INum w v z) (hb : Below w.heap.size w w') : INum w' v z := by
  obtain ⟨neg, ao, n, cap, xs, e, hn, hl, hz⟩ := h
  exact ⟨neg, ao, n, cap, xs, e, hn.below (Nat.le_refl _) hb, hl, hz⟩
theorem IOwn.num {B : Nat} {w : World} {v : Value} {z : Int} (h : IOwn B w v z) {L : Nat} (hs : Sz z L) (hL : L ≤ 1000000) : INum w v z := by
  obtain ⟨m, rfl, ho⟩ := h
  obtain ⟨ao, n, cap, rfl⟩ := ho.sl
  exact ⟨_, ao, n, cap, _, rfl, ho.num, Nat.le_trans hs.len hL, by rw [val_lim, zv_self]⟩
theorem IOwn.below {B : Nat} {w w' : World} {v : Value} {z : Int} (h : IOwn B w v z) (hb : Below w.heap.size w w') : IOwn B w' v z := by
  obtain ⟨m, e, ho⟩ := h
  exact ⟨m, e, ho.below hb⟩
/-- What a maker of a whole number leaves. -/
def IEnd (w : World) (z : Int) (e : Ending) (w' : World) : Prop := ∃ v, e = .returned v ∧ IOwn w.heap.size w' v z ∧ Below w.heap.size w w'
theorem IntEnd.i {w w' : World} {z : Int} {e : Ending} (h : IntEnd w z e w') : IEnd w z e w' := by
  obtain ⟨m, he, ho, hb⟩ := h
  exact ⟨_, he, ⟨m, rfl, ho⟩, hb⟩
theorem c_add {a b : Value} {x y : Int} {w : World} (ha : INum w a x) (hb : INum w b y) : Calls Tryd.prog 13 #[a, b] w fun e w' => IEnd w (x + y) e w' := by
  obtain ⟨na, ao, al, ac, xs, rfl, h1, h2, rfl⟩ := ha
  obtain ⟨nb, bo, bl_, bc, ys, rfl, k1, k2, rfl⟩ := hb
  exact (wadd_any _ _ _ _ _ _ _ _ _ _ _ h1 k1 h2 k2).mono fun _ _ h => h.i
theorem c_sub {a b : Value} {x y : Int} {w : World} (ha : INum w a x) (hb : INum w b y) : Calls Tryd.prog 12 #[a, b] w fun e w' => IEnd w (x - y) e w' := by
  obtain ⟨na, ao, al, ac, xs, rfl, h1, h2, rfl⟩ := ha
  obtain ⟨nb, bo, bl_, bc, ys, rfl, k1, k2, rfl⟩ := hb
  exact (wsub_any _ _ _ _ _ _ _ _ _ _ _ h1 k1 h2 k2).mono fun _ _ h => h.i
theorem c_mul {a b : Value} {x y : Int} {w : World} (ha : INum w a x) (hb : INum w b y) : Calls Tryd.prog 14 #[a, b] w fun e w' => IEnd w (x * y) e w' := by
  obtain ⟨na, ao, al, ac, xs, rfl, h1, h2, rfl⟩ := ha
  obtain ⟨nb, bo, bl_, bc, ys, rfl, k1, k2, rfl⟩ := hb
  exact (wmul_any _ _ _ _ _ _ _ _ _ _ _ h1 k1 h2 k2).mono fun _ _ h => h.i
theorem c_cmp {a b : Value} {x y : Int} {w : World} (ha : INum w a x) (hb : INum w b y) : Calls Tryd.prog 10 #[a, b] w fun e w' => e = .returned (.int .i64 (cmpZ x y)) ∧ Below w.heap.size w w' := by
  obtain ⟨na, ao, al, ac, xs, rfl, h1, h2, rfl⟩ := ha
  obtain ⟨nb, bo, bl_, bc, ys, rfl, k1, k2, rfl⟩ := hb
  exact wcmp_any _ _ _ _ _ _ _ _ _ _ _ h1 k1 h2 k2
theorem c_norm {a : Value} {x : Int} {w : World} (ha : INum w a x) : Calls Tryd.prog 68 #[a] w fun e w' => IEnd w x e w' := by
  obtain ⟨na, ao, al, ac, xs, rfl, h1, h2, rfl⟩ := ha
  exact (wnorm_any _ _ _ _ _ _ h1 h2).mono fun _ _ h => h.i
theorem c_of {n : Int} {w : World} (h1 : -9223372036854775808 ≤ n) (h2 : n ≤ 9223372036854775807) : Calls Tryd.prog 20 #[.int .i64 n] w fun e w' => IEnd w n e w' :=
  (wof_any n w h1 h2).mono fun _ _ h => h.i
theorem INum.nil (w : World) : INum w (.agg #[.bool false, .slice none 0 0]) 0 := ⟨false, none, 0, 0, [], rfl, Num.of_nil w, by simp, rfl⟩
end Go.Proofs.YtmcnpiajnehnlabDoor

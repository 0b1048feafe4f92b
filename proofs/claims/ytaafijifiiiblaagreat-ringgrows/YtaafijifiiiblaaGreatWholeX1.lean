/-
  Proved here: what Norm, Neg and Mul of package whole answer. Proved here: what Mul of package whole answers. Proved here: what Cmp, Sign and Neg of package whole answer. Proved here: what Sign, Neg, size, onSideOf and less of package whole answer. Proved here: what Quo of package whole answers.
-/
import Derived.Test.YtaafijifiiiblaaGreatWholeDAll
import Derived.Test.YtaafijifiiiblaaGreatMul
import Derived.Deep.RegionHeld3
import Derived.Deep.DrawnRows
import Derived.Test.YtaafijifiiiblaaGreatCmpAll
import Derived.Test.YtaafijifiiiblaaGreatAlive0All
namespace Go.Proofs.YtaafijifiiiblaaGreat
open Go.RowKit
attribute [local go_sem ↓] Go.wp_at_zero Go.wp_at_succ

theorem keepB {w w' : World} {p : Addr} {v : Value} (hb : Below w.heap.size w w') (h : w.cell? p = some v) : w'.cell? p = some v := by
  rw [hb.cell (block_lt_of_cell h), h]
theorem keepS {w : World} {g b o k k2 : Nat} {v v2 x : Value} (hne : b ≠ g) (h : w.cell? ⟨b, o, none⟩ = some x) : ((w.setCell ⟨g, k, none⟩ v).setCell ⟨g, k2, none⟩ v2).cell? ⟨b, o, none⟩ = some x := by
  rw [← h]
  apply World.cell?_of_block
  rw [heap_setCell_other, heap_setCell_other]
  · exact hne
  · exact hne
theorem zv_mul (na nb : Bool) (x y : Nat) : zv na x * zv nb y = zv (na != nb) (x * y) := by
  cases na <;> cases nb <;> simp [zv, Int.neg_mul, Int.mul_neg]
end Go.Proofs.YtaafijifiiiblaaGreat

namespace Go.Proofs.YtaafijifiiiblaaGreat
open Go.RowKit
attribute [local go_sem ↓] Go.wp_at_zero Go.wp_at_succ

set_option maxRecDepth 100000 in
set_option maxHeartbeats 3200000 in
theorem wmul_any (na nb : Bool) (ao bo : Option Addr) (al ac bl_ bc : Nat) (xs ys : List Nat) (w : World) (ha : Num w (.slice ao al ac) xs) (hb : Num w (.slice bo bl_ bc) ys) (hlx : xs.length ≤ 1000000) (hly : ys.length ≤ 1000000) :
    Calls Tryz.prog 95 #[.agg #[.bool na, .slice ao al ac], .agg #[.bool nb, .slice bo bl_ bc]] w fun e w' => IntEnd w (zv na (val xs) * zv nb (val ys)) e w' := by
  obtain ⟨W1, hW1⟩ : ∃ W1, W1 = ((w.alloc (.cells #[.bool na, .slice ao al ac] 25)).alloc (.cells #[.bool nb, .slice bo bl_ bc] 25)).alloc (.cells #[.bool false, .slice none 0 0] 25) := ⟨_, rfl⟩
  have hx : Boxes W1 w.heap.size na nb (.slice ao al ac) (.slice bo bl_ bc) := by rw [hW1]; exact Boxes.new _ _ _ _ _
  have hb1 : Below w.heap.size w W1 := by rw [hW1]; exact bstep (bstep (belowA w _) (belowA _ _)) (belowA _ _)
  have hsz : w.heap.size + 1 + 1 < W1.heap.size := by rw [hW1]; simp
  have na1 := ha.below (Nat.le_refl _) hb1
  have nb1 := hb.below (Nat.le_refl _) hb1
  have HW1 : Hid (W1 = ((w.alloc (.cells #[.bool na, .slice ao al ac] 25)).alloc (.cells #[.bool nb, .slice bo bl_ bc] 25)).alloc (.cells #[.bool false, .slice none 0 0] 25)) := hW1
  clear hW1 ha hb
  obtain ⟨Z, hZ⟩ : ∃ Z, Z = zv na (val xs) * zv nb (val ys) := ⟨_, rfl⟩
  have HZ : Hid (zv (na != nb) (val xs * val ys) = Z) := by show _ = _; rw [hZ, zv_mul]
  rw [← hZ]
  clear hZ
  go_enter Tryz.func95, Tryz.ntmps95
  go_wp2_with fail
  rw [← HW1.out]
  obtain ⟨g, hg⟩ : ∃ g, g = w.heap.size := ⟨_, rfl⟩
  rw [← hg] at hx hsz ⊢
  have HG : Hid (g = w.heap.size) := hg
  obtain ⟨c0, c1⟩ := hx.1.cells
  obtain ⟨d0, d1⟩ := hx.2.1.cells
  have HX : Hid (Boxes W1 g na nb (.slice ao al ac) (.slice bo bl_ bc)) := hx
  obtain ⟨nn, hnn⟩ : ∃ nn, (!na == nb) = nn := ⟨_, rfl⟩
  have HN : Hid ((na != nb) = nn) := by show _ = _; rw [← hnn]; rfl
  clear hx hg
  have hne : ¬ g = g + 1 + 1 := by omega
  go_region_held3 (fun w' => w'.cell? ⟨g, 0, none⟩ = some (.bool na) ∧ w'.cell? ⟨g, 1, none⟩ = some (.slice ao al ac) ∧ w'.cell? ⟨g + 1, 0, none⟩ = some (.bool nb) ∧ w'.cell? ⟨g + 1, 1, none⟩ = some (.slice bo bl_ bc)) (((try dsimp only); go_split_ands; refine ⟨?_, ?_, ?_, ?_⟩ <;> first | exact keepB (by with_reducible assumption) (by with_reducible assumption) | exact keepS (by omega) (by with_reducible assumption) | go_keep)) (first
    | (go_at_call 118; refine (mul_any _ _ _ _ _ (na1.same (w' := W1.drew) rfl) (nb1.same (w' := W1.drew) rfl) (by omega) (by omega)).mono ?_; rintro e w2 ⟨m, rfl, hm, hb2⟩; obtain ⟨mo, ml, mc, rfl⟩ := hm.sl)
    | (go_at_call 112; refine (signed_any _ _ _ _ hm.num).mono ?_; rintro e w3 ⟨rfl, hb3⟩; rw [sign_eq]; have hx3 := ((show Boxes W1.drew g na nb (.slice ao al ac) (.slice bo bl_ bc) from HX.out).below hb2).below hb3; have x0 := hx3.2.2.cells.1; have x1 := hx3.2.2.cells.2; have f0 := hx3.2.2.thaw 0; have f1 := hx3.2.2.thaw 1))
  all_goals
    have HS : Hid (zv nn (val xs * val ys) = Z) := by show _ = _; rw [← HN.out]; exact HZ.out
    rw [HS.out]
    have HE : Hid (IntEnd w Z (.returned (.agg #[.bool (decide (Z < 0)), .slice mo ml mc])) ((w3.setCell ⟨g + 1 + 1, 0, none⟩ (.bool (decide (Z < 0)))).setCell ⟨g + 1 + 1, 1, none⟩ (.slice mo ml mc))) :=
      int_done (B := W1.drew.heap.size) rfl (by rw [HG.out]; omega) (by rw [← HS.out, zv_abs]; exact hm.below hb3) hsz (bstep (bstep (bstep hb1 (Below.refl _ _).drew) hb2) hb3)
    have HW : Hid (ICell ((w3.setCell ⟨g + 1 + 1, 0, none⟩ (.bool (decide (Z < 0)))).setCell ⟨g + 1 + 1, 1, none⟩ (.slice mo ml mc)) (g + 1 + 1) (decide (Z < 0)) (.slice mo ml mc)) := hx3.2.2.write _ _
    clear hm hb2 hb3 hx3 x0 x1 f0 f1 c0 c1 d0 d1 HX na1 nb1 hb1 hsz
    go_wp2_with fail
    (try simp only [Exit.inBlock, Exit.then])
    exact bodyPost_ret (results_cell_row rfl _ _ (g + 1 + 1) 25 _ (0, 0) _ rfl HW.out Tryz.underlying25 rfl (by kernel_rfl)) rfl HE.out
end Go.Proofs.YtaafijifiiiblaaGreat

namespace Go.Proofs.YtaafijifiiiblaaGreat
open Go.RowKit

/-- How two whole numbers compare. -/
def cmpZ (x y : Int) : Int := if x < y then -1 else if x = y then 0 else 1
theorem below_zv (neg : Bool) (n : Nat) : (neg && decide (0 < bl n)) = decide (zv neg n < 0) := by
  cases neg
  · simp [zv]
  · by_cases h : n = 0
    · subst h; simp [zv, bl_zero]
    · rw [decide_eq_true (bl_pos.2 h), decide_eq_true (show zv true n < 0 by unfold zv; simp; omega)]; rfl
theorem cmp_neg {na nb : Bool} {x y : Nat} (ha : zv na x < 0) (hb : zv nb y < 0) : cmpN y x = cmpZ (zv na x) (zv nb y) := by
  cases na <;> cases nb <;> simp [zv] at ha hb ⊢ <;> try omega
  unfold cmpN cmpZ
  repeat' split
  all_goals omega
theorem cmp_pos {na nb : Bool} {x y : Nat} (ha : ¬ zv na x < 0) (hb : ¬ zv nb y < 0) : cmpN x y = cmpZ (zv na x) (zv nb y) := by
  have ea : zv na x = x := by cases na <;> simp [zv] at ha ⊢; omega
  have eb : zv nb y = y := by cases nb <;> simp [zv] at hb ⊢; omega
  rw [ea, eb]
  unfold cmpN cmpZ
  repeat' split
  all_goals omega
/-- Two boxes. -/
def Box2 (w : World) (g : Nat) (na nb : Bool) (ma mb : Value) : Prop := ICell w g na ma ∧ ICell w (g + 1) nb mb
theorem Box2.below {w w' : World} {g : Nat} {na nb : Bool} {ma mb : Value} (h : Box2 w g na nb ma mb) (hb : Below w.heap.size w w') : Box2 w' g na nb ma mb := ⟨h.1.below hb, h.2.below hb⟩
theorem Box2.new (w : World) (na nb : Bool) (ma mb : Value) : Box2 ((w.alloc (.cells #[.bool na, ma] 25)).alloc (.cells #[.bool nb, mb] 25)) w.heap.size na nb ma mb := by
  have h2 := ICell.new (w.alloc (.cells #[.bool na, ma] 25)) nb mb
  have h1 := (ICell.new w na ma).below (belowA _ (.cells #[.bool nb, mb] 25))
  rw [World.size_alloc] at h2
  exact ⟨h1, h2⟩

set_option maxRecDepth 100000 in
set_option maxHeartbeats 3200000 in
theorem wcmp_any (na nb : Bool) (ao bo : Option Addr) (al ac bl_ bc : Nat) (xs ys : List Nat) (w : World) (ha : Num w (.slice ao al ac) xs) (hb : Num w (.slice bo bl_ bc) ys) (hlx : xs.length ≤ 1000000) (hly : ys.length ≤ 1000000) :
    Calls Tryz.prog 97 #[.agg #[.bool na, .slice ao al ac], .agg #[.bool nb, .slice bo bl_ bc]] w fun e w' => e = .returned (.int .i64 (cmpZ (zv na (val xs)) (zv nb (val ys)))) ∧ Below w.heap.size w w' := by
  obtain ⟨W1, hW1⟩ : ∃ W1, W1 = (w.alloc (.cells #[.bool na, .slice ao al ac] 25)).alloc (.cells #[.bool nb, .slice bo bl_ bc] 25) := ⟨_, rfl⟩
  have hx : Box2 W1 w.heap.size na nb (.slice ao al ac) (.slice bo bl_ bc) := by rw [hW1]; exact Box2.new _ _ _ _ _
  have hb1 : Below w.heap.size w W1 := by rw [hW1]; exact bstep (belowA w _) (belowA _ _)
  have na1 := ha.below (Nat.le_refl _) hb1
  have nb1 := hb.below (Nat.le_refl _) hb1
  have HW1 : Hid (W1 = (w.alloc (.cells #[.bool na, .slice ao al ac] 25)).alloc (.cells #[.bool nb, .slice bo bl_ bc] 25)) := hW1
  clear hW1 ha hb
  obtain ⟨g, hg⟩ : ∃ g, g = w.heap.size := ⟨_, rfl⟩
  rw [← hg] at hx
  obtain ⟨Z, hZ⟩ : ∃ Z, Z = cmpZ (zv na (val xs)) (zv nb (val ys)) := ⟨_, rfl⟩
  have HZ : Hid (Z = cmpZ (zv na (val xs)) (zv nb (val ys))) := hZ
  rw [← hZ]
  clear hZ
  go_enter Tryz.func97, Tryz.ntmps97
  go_wp2_with fail
  rw [← HW1.out]
  rw [← hg]
  have HG : Hid (g = w.heap.size) := hg
  clear HW1 hg
  refine (below_any _ _ _ _ _ _ na1 hlx).mono ?_
  rintro e w2 ⟨rfl, hb2⟩
  rw [below_zv]
  replace hx := hx.below hb2
  replace na1 := na1.below (Nat.le_refl _) hb2
  replace nb1 := nb1.below (Nat.le_refl _) hb2
  replace hb1 := bstep hb1 hb2
  rw [← HG.out] at hb1
  clear hb2
  by_cases hA : zv na (val xs) < 0
  · rw [decide_eq_true hA]
    obtain ⟨c0, c1⟩ := hx.1.cells
    obtain ⟨d0, d1⟩ := hx.2.cells
    go_wp2_with fail
    refine (below_any _ _ _ _ _ _ nb1 hly).mono ?_
    rintro e w3 ⟨rfl, hb2⟩
    rw [below_zv]
    replace hx := hx.below hb2
    replace na1 := na1.below (Nat.le_refl _) hb2
    replace nb1 := nb1.below (Nat.le_refl _) hb2
    have hb3 : Below g w w3 := by rw [HG.out] at hb1 ⊢; exact bstep hb1 hb2
    clear hb2 hb1 c0 c1 d0 d1
    obtain ⟨c0, c1⟩ := hx.1.cells
    obtain ⟨d0, d1⟩ := hx.2.cells
    by_cases hB : zv nb (val ys) < 0
    · rw [decide_eq_true hB]
      have HC : Hid (cmpN (val ys) (val xs) = Z) := by show _ = _; rw [HZ.out, cmp_neg hA hB]
      go_wp2_with fail
      refine (cmp_any _ _ _ _ _ nb1 na1).mono ?_
      rintro e w4 ⟨rfl, kk, hk⟩
      rw [HC.out]
      have HE : Hid (Below w.heap.size w w4) := by rw [HG.out] at hb3; exact bstep hb3 (belowK hk)
      clear hk hb3 na1 nb1 hx c0 c1 d0 d1 hA hB
      go_wp2_with fail
      go_ret
      exact ⟨rfl, HE.out⟩
    · rw [decide_eq_false hB]
      have HC : Hid (Z = -1) := by show _ = _; rw [HZ.out]; unfold cmpZ; rw [if_pos (by omega)]
      go_wp2_with fail
      refine (below_any _ _ _ _ _ _ na1 hlx).mono ?_
      rintro e w4 ⟨rfl, hb2⟩
      rw [below_zv, decide_eq_true (show zv na (val xs) < 0 by omega)]
      have HE : Hid (Below w.heap.size w w4) := by rw [HG.out] at hb3; exact bstep hb3 hb2
      clear hb2 hb3 na1 nb1 hx c0 c1 d0 d1 hA hB
      go_wp2_with fail
      go_ret
      exact ⟨by first | (rw [HC.out]; done) | (rw [HC.out]; rfl), HE.out⟩
  · rw [decide_eq_false hA]
    obtain ⟨c0, c1⟩ := hx.1.cells
    obtain ⟨d0, d1⟩ := hx.2.cells
    go_wp2_with fail
    refine (below_any _ _ _ _ _ _ na1 hlx).mono ?_
    rintro e w3 ⟨rfl, hb2⟩
    rw [below_zv, decide_eq_false (show ¬ zv na (val xs) < 0 by omega)]
    replace hx := hx.below hb2
    replace na1 := na1.below (Nat.le_refl _) hb2
    replace nb1 := nb1.below (Nat.le_refl _) hb2
    have hb3 : Below g w w3 := by rw [HG.out] at hb1 ⊢; exact bstep hb1 hb2
    clear hb2 hb1 c0 c1 d0 d1
    obtain ⟨c0, c1⟩ := hx.1.cells
    obtain ⟨d0, d1⟩ := hx.2.cells
    go_wp2_with fail
    refine (below_any _ _ _ _ _ _ nb1 hly).mono ?_
    rintro e w4 ⟨rfl, hb2⟩
    rw [below_zv]
    replace hx := hx.below hb2
    replace na1 := na1.below (Nat.le_refl _) hb2
    replace nb1 := nb1.below (Nat.le_refl _) hb2
    have hb4 : Below g w w4 := by rw [HG.out] at hb3 ⊢; exact bstep hb3 hb2
    clear hb2 hb3 c0 c1 d0 d1
    obtain ⟨c0, c1⟩ := hx.1.cells
    obtain ⟨d0, d1⟩ := hx.2.cells
    by_cases hB : zv nb (val ys) < 0
    · rw [decide_eq_true hB]
      have HC : Hid (Z = 1) := by show _ = _; rw [HZ.out]; unfold cmpZ; rw [if_neg (by omega), if_neg (by omega)]
      have HE : Hid (Below w.heap.size w w4) := by rw [HG.out] at hb4; exact hb4
      clear hb4 na1 nb1 hx c0 c1 d0 d1 hA hB
      go_wp2_with fail
      go_ret
      exact ⟨by first | (rw [HC.out]; done) | (rw [HC.out]; rfl), HE.out⟩
    · rw [decide_eq_false hB]
      have HC : Hid (cmpN (val xs) (val ys) = Z) := by show _ = _; rw [HZ.out, cmp_pos (show ¬ zv na (val xs) < 0 by omega) (show ¬ zv nb (val ys) < 0 by omega)]
      go_wp2_with fail
      refine (cmp_any _ _ _ _ _ na1 nb1).mono ?_
      rintro e w5 ⟨rfl, kk, hk⟩
      rw [HC.out]
      have HE : Hid (Below w.heap.size w w5) := by rw [HG.out] at hb4; exact bstep hb4 (belowK hk)
      clear hk hb4 na1 nb1 hx c0 c1 d0 d1 hA hB
      go_wp2_with fail
      go_ret
      exact ⟨rfl, HE.out⟩

/-- A whole number that can be read. -/
def INum (w : World) (v : Value) (z : Int) : Prop := ∃ neg ao n cap xs, v = .agg #[.bool neg, .slice ao n cap] ∧ Num w (.slice ao n cap) xs ∧ xs.length ≤ 1000000 ∧ zv neg (val xs) = z
/-- A whole number, normal, in a row of the call's own. -/
def IOwn (B : Nat) (w : World) (v : Value) (z : Int) : Prop := ∃ m, v = .agg #[.bool (decide (z < 0)), m] ∧ Own B 100 w m (lim z.natAbs)
/-- So many limbs hold the number. -/
structure Sz (z : Int) (L : Nat) : Prop where
  lt : z.natAbs < 4294967296 ^ L
theorem Sz.mono {z : Int} {L M : Nat} (h : Sz z L) (hm : L ≤ M) : Sz z M := ⟨Nat.lt_of_lt_of_le h.lt (Nat.pow_le_pow_right (Nat.succ_pos _) hm)⟩
theorem Sz.len {z : Int} {L : Nat} (h : Sz z L) : (lim z.natAbs).length ≤ L := lim_len_le h.lt
theorem Sz.neg {z : Int} {L : Nat} (h : Sz z L) : Sz (-z) L := ⟨by rw [Int.natAbs_neg]; exact h.lt⟩
theorem Sz.mul {x y : Int} {L M : Nat} (hx : Sz x L) (hy : Sz y M) : Sz (x * y) (L + M) :=
  ⟨by rw [Int.natAbs_mul, Nat.pow_add]; exact Nat.mul_lt_mul'' hx.lt hy.lt⟩
theorem Sz.add {x y : Int} {L : Nat} (hx : Sz x L) (hy : Sz y L) : Sz (x + y) (L + 1) := ⟨by
  have h1 := hx.lt
  have h2 := hy.lt
  rw [Nat.pow_succ]
  have := Int.natAbs_add_le x y
  omega⟩
theorem Sz.sub {x y : Int} {L : Nat} (hx : Sz x L) (hy : Sz y L) : Sz (x - y) (L + 1) := by
  rw [Int.sub_eq_add_neg]; exact hx.add hy.neg
theorem Sz.le {x y : Int} {L : Nat} (hx : Sz x L) (h : y.natAbs ≤ x.natAbs) : Sz y L := ⟨Nat.lt_of_le_of_lt h hx.lt⟩
theorem Sz.one : Sz 1 1 := ⟨by decide⟩
theorem Sz.zero : Sz 0 1 := ⟨by decide⟩
theorem Sz.of_num {w : World} {v : Value} {xs : List Nat} {neg : Bool} {L : Nat} (h : Num w v xs) (hl : xs.length ≤ L) : Sz (zv neg (val xs)) L := ⟨by
  rw [zv_abs]
  exact Nat.lt_of_lt_of_le (val_lt h.1) (Nat.pow_le_pow_right (Nat.succ_pos _) hl)⟩
theorem zv_self (z : Int) : zv (decide (z < 0)) z.natAbs = z := by
  unfold zv
  by_cases h : z < 0
  · simp [h]; omega
  · simp [h]; omega
theorem INum.below {w w' : World} {v : Value} {z : Int} (h : INum w v z) (hb : Below w.heap.size w w') : INum w' v z := by
  obtain ⟨neg, ao, n, cap, xs, e, hn, hl, hz⟩ := h
  exact ⟨neg, ao, n, cap, xs, e, hn.below (Nat.le_refl _) hb, hl, hz⟩
theorem IOwn.num {B : Nat} {w : World} {v : Value} {z : Int} (h : IOwn B w v z) {L : Nat} (hs : Sz z L) (hL : L ≤ 1000000) : INum w v z := by
  obtain ⟨m, rfl, ho⟩ := h
  obtain ⟨ao, n, cap, rfl⟩ := ho.sl
  exact ⟨_, ao, n, cap, _, rfl, ho.num, Nat.le_trans hs.len hL, by rw [val_lim, zv_self]⟩
/-- What a maker of a whole number leaves. -/
def IEnd (w : World) (z : Int) (e : Ending) (w' : World) : Prop := ∃ v, e = .returned v ∧ IOwn w.heap.size w' v z ∧ Below w.heap.size w w'
theorem IntEnd.i {w w' : World} {z : Int} {e : Ending} (h : IntEnd w z e w') : IEnd w z e w' := by
  obtain ⟨m, he, ho, hb⟩ := h
  exact ⟨_, he, ⟨m, rfl, ho⟩, hb⟩
theorem c_add {a b : Value} {x y : Int} {w : World} (ha : INum w a x) (hb : INum w b y) : Calls Tryz.prog 93 #[a, b] w fun e w' => IEnd w (x + y) e w' := by
  obtain ⟨na, ao, al, ac, xs, rfl, h1, h2, rfl⟩ := ha
  obtain ⟨nb, bo, bl_, bc, ys, rfl, k1, k2, rfl⟩ := hb
  exact (wadd_any _ _ _ _ _ _ _ _ _ _ _ h1 k1 h2 k2).mono fun _ _ h => h.i
theorem c_mul {a b : Value} {x y : Int} {w : World} (ha : INum w a x) (hb : INum w b y) : Calls Tryz.prog 95 #[a, b] w fun e w' => IEnd w (x * y) e w' := by
  obtain ⟨na, ao, al, ac, xs, rfl, h1, h2, rfl⟩ := ha
  obtain ⟨nb, bo, bl_, bc, ys, rfl, k1, k2, rfl⟩ := hb
  exact (wmul_any _ _ _ _ _ _ _ _ _ _ _ h1 k1 h2 k2).mono fun _ _ h => h.i
theorem c_cmp {a b : Value} {x y : Int} {w : World} (ha : INum w a x) (hb : INum w b y) : Calls Tryz.prog 97 #[a, b] w fun e w' => e = .returned (.int .i64 (cmpZ x y)) ∧ Below w.heap.size w w' := by
  obtain ⟨na, ao, al, ac, xs, rfl, h1, h2, rfl⟩ := ha
  obtain ⟨nb, bo, bl_, bc, ys, rfl, k1, k2, rfl⟩ := hb
  exact wcmp_any _ _ _ _ _ _ _ _ _ _ _ h1 k1 h2 k2
theorem c_of {n : Int} {w : World} (h1 : -9223372036854775808 ≤ n) (h2 : n ≤ 9223372036854775807) : Calls Tryz.prog 91 #[.int .i64 n] w fun e w' => IEnd w n e w' :=
  (wof_any n w h1 h2).mono fun _ _ h => h.i
theorem INum.nil (w : World) : INum w (.agg #[.bool false, .slice none 0 0]) 0 := ⟨false, none, 0, 0, [], rfl, Num.of_nil w, by simp, rfl⟩
end Go.Proofs.YtaafijifiiiblaaGreat

namespace Go.Proofs.YtaafijifiiiblaaGreat
open Go.RowKit
attribute [local go_sem ↓] Go.wp_at_zero Go.wp_at_succ

theorem icell_step {w : World} {o : Obj} {g : Nat} {neg : Bool} {m : Value} (h : ICell w g neg m) : ICell (w.alloc o) g neg m := h.below (belowA _ _)
theorem icell_new (w : World) {neg : Bool} {m : Value} {k : Nat} (hk : w.heap.size = k) : ICell (w.alloc (.cells #[.bool neg, m] 25)) k neg m := by subst hk; exact ICell.new w neg m
theorem INum.abs {w : World} {na : Bool} {ao : Option Addr} {al ac : Nat} {x : Int} (h : INum w (.agg #[.bool na, .slice ao al ac]) x) : ∃ xs, Num w (.slice ao al ac) xs ∧ xs.length ≤ 1000000 ∧ val xs = x.natAbs ∧ zv na (val xs) = x := by
  obtain ⟨neg, ao', n, cap, xs, e, h1, h2, rfl⟩ := h
  simp only [Value.agg.injEq, Array.mk.injEq, List.cons.injEq, Value.bool.injEq, and_true, Value.slice.injEq] at e
  obtain ⟨rfl, rfl, rfl, rfl⟩ := e
  exact ⟨xs, h1, h2, (zv_abs _ _).symm, rfl⟩

theorem below_drew' (w : World) : Below w.heap.size w w.drew := (Below.refl _ _).drew
set_option maxRecDepth 100000 in
set_option maxHeartbeats 3200000 in
theorem c_sign {a : Value} {x : Int} {w : World} (ha : INum w a x) : Calls Tryz.prog 122 #[a] w fun e w' => e = .returned (.int .i64 (cmpZ x 0)) ∧ Below w.heap.size w w' := by
  obtain ⟨c, hc⟩ : ∃ c, c = cmpZ x 0 := ⟨_, rfl⟩
  have HC : Hid (c = cmpZ x 0) := hc
  rw [← hc]
  clear hc
  obtain ⟨na, ao, al, ac, xa, rfl, ua, la, za⟩ := ha
  have ha : INum w (.agg #[.bool na, .slice ao al ac]) x := ⟨_, _, _, _, _, rfl, ua, la, za⟩
  clear ua la za
  obtain ⟨W1, hW1⟩ : ∃ W1, W1 = w.alloc (.cells #[.bool na, .slice ao al ac] 25) := ⟨_, rfl⟩
  have q0 : ICell W1 (w.heap.size) na (.slice ao al ac) := by rw [hW1]; exact (icell_new _ (by simp))
  have hb : Below w.heap.size w W1 := by rw [hW1]; exact belowA w _
  have hsz : w.heap.size < W1.heap.size := by rw [hW1]; simp
  replace ha := ha.below hb
  have HW1 : Hid (W1 = w.alloc (.cells #[.bool na, .slice ao al ac] 25)) := hW1
  clear hW1
  go_enter Tryz.func122, Tryz.ntmps122
  go_wp2_with fail
  rw [← HW1.out]
  clear HW1
  obtain ⟨g, hg⟩ : ∃ g, g = w.heap.size := ⟨_, rfl⟩
  rw [← hg] at q0 hsz ⊢
  have HG : Hid (g = w.heap.size) := hg
  clear hg
  refine (c_cmp ha (INum.nil _)).mono ?_
  rintro e w2 ⟨rfl, hb2⟩
  have HE : Hid (Below w.heap.size w w2) := bstep hb hb2
  clear hb2 hb
  rw [← HC.out]
  go_wp2_with fail
  go_ret
  exact ⟨rfl, HE.out⟩
end Go.Proofs.YtaafijifiiiblaaGreat

namespace Go.Proofs.YtaafijifiiiblaaGreat
open Go.RowKit
attribute [local go_sem ↓] Go.wp_at_zero Go.wp_at_succ

theorem results_cct {P : Program} {fn : Func} {p q u : Tmp} {ty : TypeId} (h : fn.results = #[.cell p ty, .cell q ty, .tmp u]) (tmps : Array Value) (w : World) (g g2 : Nat) (t t2 : TypeId) (cs cs2 : Array Value) (fr fr2 : Nat × Nat) (d : TypeDesc)
    (hp : tmps.getD p undef = .pointer (some ⟨g, 0, none⟩)) (hq : tmps.getD q undef = .pointer (some ⟨g2, 0, none⟩)) (hg : w.heap[g]? = some (.cells cs t fr)) (hg2 : w.heap[g2]? = some (.cells cs2 t2 fr2))
    (hu : P.underlying ty = some d) (hd : (match d with | .struct _ | .array _ _ => true | _ => false) = true) (hi : (P.info? ty).map (·.size) = some cs.size) (hi2 : (P.info? ty).map (·.size) = some cs2.size) :
    (results fn tmps).run P w = .ok (.tuple #[.agg cs, .agg cs2, tmps.getD u undef]) w := by
  have hp' : tmps[p]?.getD undef = .pointer (some ⟨g, 0, none⟩) := by simpa using hp
  have hq' : tmps[q]?.getD undef = .pointer (some ⟨g2, 0, none⟩) := by simpa using hq
  simp [results, h, hp', hq', asAddr, run_loadVar_row w g t ty cs fr d hg hu hd hi, run_loadVar_row w g2 t2 ty cs2 fr2 d hg2 hu hd hi2]

/-- What is left of a division; 0 where by 0 is divided. -/
def rz (x y : Int) : Int := if y = 0 then 0 else x.tmod y
theorem zv_div (na nb : Bool) (x y : Nat) : zv (na != nb) (x / y) = (zv na x).tdiv (zv nb y) := by
  cases na <;> cases nb <;> simp [zv, Int.neg_tdiv, Int.tdiv_neg]
theorem zv_mod (na nb : Bool) (x y : Nat) (h : y ≠ 0) : zv na (modZ x y) = rz (zv na x) (zv nb y) := by
  unfold rz modZ
  have h2 : zv nb y ≠ 0 := by cases nb <;> simp [zv] <;> omega
  rw [if_neg h2]
  simp only [h, if_false]
  cases na <;> cases nb <;> simp [zv, Int.neg_tmod, Int.tmod_neg] <;> exact (Int.tmod_eq_emod_of_nonneg (by omega)).symm
/-- What Quo and Floor leave. -/
def QEnd (w : World) (q r : Int) (er : Int) (e : Ending) (w' : World) : Prop :=
  ∃ mq mr, e = .returned (.tuple #[.agg #[.bool (decide (q < 0)), mq], .agg #[.bool (decide (r < 0)), mr], .int .i64 er]) ∧ Own w.heap.size 100 w' mq (lim q.natAbs) ∧ Own w.heap.size 100 w' mr (lim r.natAbs) ∧
    (mq.ownBlock = none ∨ mq.ownBlock ≠ mr.ownBlock) ∧ Below w.heap.size w w'
/-- Two rows of the call's own behind the stores into two result cells. -/
theorem own_far {B g g2 : Nat} {w : World} {m v0 v1 u0 u1 : Value} {xs : List Nat} (ho : Own B 100 w m xs) (hg : g < B) (hg2 : g2 < B) :
    Own B 100 ((((w.setCell ⟨g, 0, none⟩ v0).setCell ⟨g, 1, none⟩ v1).setCell ⟨g2, 0, none⟩ u0).setCell ⟨g2, 1, none⟩ u1) m xs := by
  have hne : ∀ k, k < B → m.ownBlock = none ∨ m.ownBlock ≠ some k := by
    intro k hk
    cases hm : m.ownBlock with
    | none => exact Or.inl rfl
    | some j =>
      right
      intro e
      rw [Option.some.injEq] at e
      have := (ho.block j hm).1
      omega
  exact (((ho.other v0 (hne g hg)).other v1 (hne g hg)).other u0 (hne g2 hg2)).other u1 (hne g2 hg2)
theorem below_far {w wr : World} {g g2 : Nat} {v0 v1 u0 u1 : Value} (hb : Below w.heap.size w wr) (hg : w.heap.size ≤ g) (hg2 : w.heap.size ≤ g2) :
    Below w.heap.size w ((((wr.setCell ⟨g, 0, none⟩ v0).setCell ⟨g, 1, none⟩ v1).setCell ⟨g2, 0, none⟩ u0).setCell ⟨g2, 1, none⟩ u1) :=
  (((hb.setCell (p := ⟨g, 0, none⟩) hg _).setCell (p := ⟨g, 1, none⟩) hg _).setCell (p := ⟨g2, 0, none⟩) hg2 _).setCell (p := ⟨g2, 1, none⟩) hg2 _
theorem quo_done {w wr : World} {B g g2 : Nat} {q r er : Int} {mq mr : Value} (hq : Own B 100 wr mq (lim q.natAbs)) (hr : Own B 100 wr mr (lim r.natAbs)) (hqr : mq.ownBlock = none ∨ mq.ownBlock ≠ mr.ownBlock)
    (hg : w.heap.size ≤ g) (hg2 : w.heap.size ≤ g2) (hgB : g < B) (hgB2 : g2 < B) (hb : Below w.heap.size w wr) {v0 v1 u0 u1 : Value} :
    QEnd w q r er (.returned (.tuple #[.agg #[.bool (decide (q < 0)), mq], .agg #[.bool (decide (r < 0)), mr], .int .i64 er])) ((((wr.setCell ⟨g, 0, none⟩ v0).setCell ⟨g, 1, none⟩ v1).setCell ⟨g2, 0, none⟩ u0).setCell ⟨g2, 1, none⟩ u1) :=
  ⟨mq, mr, rfl, (own_far hq hgB hgB2).mono (by omega), (own_far hr hgB hgB2).mono (by omega), hqr, below_far hb hg hg2⟩
/-- Both result cells behind the stores. -/
theorem icell_two {w : World} {g g2 : Nat} {n1 n2 k1 k2 : Bool} {m1 m2 v1 v2 : Value} (h1 : ICell w g n1 m1) (h2 : ICell w g2 n2 m2) (hne : g ≠ g2) :
    ICell ((((w.setCell ⟨g, 0, none⟩ (.bool k1)).setCell ⟨g, 1, none⟩ v1).setCell ⟨g2, 0, none⟩ (.bool k2)).setCell ⟨g2, 1, none⟩ v2) g k1 v1 ∧
    ICell ((((w.setCell ⟨g, 0, none⟩ (.bool k1)).setCell ⟨g, 1, none⟩ v1).setCell ⟨g2, 0, none⟩ (.bool k2)).setCell ⟨g2, 1, none⟩ v2) g2 k2 v2 :=
  ⟨((h1.write k1 v1).other hne 0 _).other hne 1 _, ((h2.other (Ne.symm hne) 0 _).other (Ne.symm hne) 1 _).write k2 v2⟩

set_option maxRecDepth 100000 in
set_option maxHeartbeats 3200000 in
theorem c_quo {a b : Value} {x y : Int} {w : World} (ha : INum w a x) (hb' : INum w b y) : Calls Tryz.prog 111 #[a, b] w fun e w' => QEnd w (x.tdiv y) (rz x y) (errZ y.natAbs) e w' := by
  obtain ⟨na, ao, al, ac, xa, rfl, ua, la, za⟩ := ha
  have ha : INum w (.agg #[.bool na, .slice ao al ac]) x := ⟨_, _, _, _, _, rfl, ua, la, za⟩
  clear ua la za
  obtain ⟨nb, bo, bl, bc, xb, rfl, ub, lb, zb⟩ := hb'
  have hb' : INum w (.agg #[.bool nb, .slice bo bl bc]) y := ⟨_, _, _, _, _, rfl, ub, lb, zb⟩
  clear ub lb zb
  obtain ⟨W1, hW1⟩ : ∃ W1, W1 = (((w.alloc (.cells #[.bool na, .slice ao al ac] 25)).alloc (.cells #[.bool nb, .slice bo bl bc] 25)).alloc (.cells #[.bool false, .slice none 0 0] 25)).alloc (.cells #[.bool false, .slice none 0 0] 25) := ⟨_, rfl⟩
  have q0 : ICell W1 (w.heap.size) na (.slice ao al ac) := by rw [hW1]; exact (icell_step (icell_step (icell_step (icell_new _ (by simp)))))
  have q1 : ICell W1 (w.heap.size + 1) nb (.slice bo bl bc) := by rw [hW1]; exact (icell_step (icell_step (icell_new _ (by simp))))
  have q2 : ICell W1 (w.heap.size + 1 + 1) false (.slice none 0 0) := by rw [hW1]; exact (icell_step (icell_new _ (by simp)))
  have q3 : ICell W1 (w.heap.size + 1 + 1 + 1) false (.slice none 0 0) := by rw [hW1]; exact (icell_new _ (by simp))
  have hb : Below w.heap.size w W1 := by rw [hW1]; exact bstep (bstep (bstep (belowA w _) (belowA _ _)) (belowA _ _)) (belowA _ _)
  have hsz : w.heap.size + 1 + 1 + 1 < W1.heap.size := by rw [hW1]; simp
  replace ha := ha.below hb
  replace hb' := hb'.below hb
  have HW1 : Hid (W1 = (((w.alloc (.cells #[.bool na, .slice ao al ac] 25)).alloc (.cells #[.bool nb, .slice bo bl bc] 25)).alloc (.cells #[.bool false, .slice none 0 0] 25)).alloc (.cells #[.bool false, .slice none 0 0] 25)) := hW1
  clear hW1
  obtain ⟨xs, ux, lx, _, zx⟩ := ha.abs
  obtain ⟨ys, uy, ly, vy, zy⟩ := hb'.abs
  obtain ⟨c0, d0⟩ := q0.cells
  obtain ⟨c1, d1⟩ := q1.cells
  obtain ⟨Q, hQ⟩ : ∃ Q, Q = x.tdiv y := ⟨_, rfl⟩
  obtain ⟨R, hR⟩ : ∃ R, R = rz x y := ⟨_, rfl⟩
  have HQ : Hid (Q = x.tdiv y) := hQ
  have HR : Hid (R = rz x y) := hR
  rw [← hQ, ← hR]
  clear hQ hR
  obtain ⟨E, hE⟩ : ∃ E, E = errZ y.natAbs := ⟨_, rfl⟩
  have HEE : Hid (E = errZ y.natAbs) := hE
  rw [← hE]
  clear hE
  have HY : Hid (val ys = y.natAbs) := vy
  have HZX : Hid (zv na (val xs) = x) := zx
  have HZY : Hid (zv nb (val ys) = y) := zy
  clear vy zx zy
  go_enter Tryz.func111, Tryz.ntmps111
  go_wp2_with fail
  rw [← HW1.out]
  clear HW1
  obtain ⟨g, hg⟩ : ∃ g, g = w.heap.size := ⟨_, rfl⟩
  rw [← hg] at q0 q1 q2 q3 hsz ⊢
  have HG : Hid (g = w.heap.size) := hg
  clear hg
  refine (divMod_any _ _ _ _ _ ux uy (by omega)).mono ?_
  rintro e w2 ⟨q, r, rfl, hq, hr, hqr, hb2⟩
  obtain ⟨qo, ql, qc, rfl⟩ := hq.sl
  obtain ⟨ro, rl, rc, rfl⟩ := hr.sl
  rw [HY.out, ← HEE.out]
  replace q0 := q0.below hb2
  replace q1 := q1.below hb2
  replace q2 := q2.below hb2
  replace q3 := q3.below hb2
  replace hb := bstep hb hb2
  have HSZ : Hid (g + 1 + 1 + 1 < W1.heap.size) := hsz
  clear c0 d0 c1 d1 ux uy ha hb' hsz hb2
  obtain ⟨c0, d0⟩ := q0.cells
  obtain ⟨c1, d1⟩ := q1.cells
  obtain ⟨c2, d2⟩ := q2.cells
  obtain ⟨c3, d3⟩ := q3.cells
  have f20 := q2.thaw 0
  have f21 := q2.thaw 1
  have f30 := q3.thaw 0
  have f31 := q3.thaw 1
  by_cases hy : y.natAbs = 0
  · have HZ0 : Hid (Q = 0 ∧ R = 0 ∧ E = 11) := by
      have h0 : y = 0 := by omega
      refine ⟨by rw [HQ.out, h0]; exact Int.tdiv_zero _, by rw [HR.out]; unfold rz; rw [if_pos h0], by rw [HEE.out, hy]; rfl⟩
    obtain ⟨hQ0, hR0, hE0⟩ := HZ0.out
    subst hQ0
    subst hR0
    subst hE0
    have HW := icell_two (k1 := false) (k2 := false) (v1 := .slice none 0 0) (v2 := .slice none 0 0) q2 q3 (by omega)
    have HW2 : Hid _ := HW
    have HE0 := quo_done (w := w) (q := 0) (r := 0) (er := 11) (B := W1.heap.size) (mq := .slice none 0 0) (mr := .slice none 0 0) (g := g + 1 + 1) (g2 := g + 1 + 1 + 1) (v0 := .bool false) (v1 := .slice none 0 0) (u0 := .bool false) (u1 := .slice none 0 0) (Own.of_nil _ _ _) (Own.of_nil _ _ _) (Or.inl rfl) (by rw [HG.out]; omega) (by rw [HG.out]; omega) (by have := HSZ.out; omega) HSZ.out hb
    rw [show decide ((0 : Int) < 0) = false from rfl] at HE0
    have HE : Hid _ := HE0
    clear HE0
    clear HW q0 q1 q2 q3 hb hq hr hqr hy c0 d0 c1 d1 HZ0
    go_wp2_with fail
    (try simp only [Exit.inBlock, Exit.then])
    exact bodyPost_ret (results_cct (p := 4) (q := 5) (u := 6) rfl _ _ (g + 1 + 1) (g + 1 + 1 + 1) 25 25 _ _ (0, 0) (0, 0) _ rfl rfl HW2.out.1 HW2.out.2 Tryz.underlying25 rfl (by kernel_rfl) (by kernel_rfl)) rfl HE.out
  · have HZ1 : Hid (E = 0 ∧ zv (!na == nb) (x.natAbs / y.natAbs) = Q ∧ zv na (modZ x.natAbs y.natAbs) = R) := by
      have hxa : val xs = x.natAbs := by rw [← HZX.out, zv_abs]
      refine ⟨by rw [HEE.out]; unfold errZ; rw [if_neg hy], ?_, ?_⟩
      · rw [HQ.out, ← hxa, ← HY.out, ← HZX.out, ← HZY.out]; exact zv_div na nb _ _
      · rw [HR.out, ← hxa, ← HY.out, zv_mod na nb _ _ (by rw [HY.out]; exact hy), HZX.out, HZY.out]
    have hxa : val xs = x.natAbs := by rw [← HZX.out, zv_abs]
    rw [hxa, HY.out] at hq hr
    clear hxa
    obtain ⟨hE0, hQ1, hR1⟩ := HZ1.out
    subst hE0
    have HQ1 : Hid (zv (!na == nb) (x.natAbs / y.natAbs) = Q) := hQ1
    have HR1 : Hid (zv na (modZ x.natAbs y.natAbs) = R) := hR1
    clear hQ1 hR1 hy HZ1
    obtain ⟨nn, hnn⟩ : ∃ nn, (!na == nb) = nn := ⟨_, rfl⟩
    rw [hnn] at HQ1
    go_wp2_with fail
    have hne1 : ¬ g = g + 1 + 1 := by omega
    have hne2 : ¬ g = g + 1 + 1 + 1 := by omega
    have hne3 : ¬ g + 1 = g + 1 + 1 + 1 := by omega
    have HQR : Hid (ICell w2.drew (g + 1 + 1) false (.slice none 0 0) ∧ ICell w2.drew (g + 1 + 1 + 1) false (.slice none 0 0)) := ⟨q2, q3⟩
    clear q0 q1 q2 q3 c2 d2 c3 d3 f20 f21 f30 f31
    go_region_held3 (fun w' => w'.cell? ⟨g, 0, none⟩ = some (.bool na) ∧ w'.cell? ⟨g + 1, 0, none⟩ = some (.bool nb)) (((try dsimp only); go_split_ands; refine ⟨?_, ?_⟩ <;> first | exact keepB (by with_reducible assumption) (by with_reducible assumption) | exact keepS (by omega) (by with_reducible assumption) | go_keep)) (first
      | (go_at_call_of 112 qo; refine (signed_any _ _ _ _ (hq.num.same (w' := w2.drew) rfl)).mono ?_; rintro e w3 ⟨rfl, hb3⟩; rw [sign_eq, HQ1.out])
      | (go_at_call_of 112 ro; refine (signed_any _ _ _ _ ((hr.num.same (w' := w2.drew) rfl).below (Nat.le_refl _) hb3)).mono ?_; rintro e w4 ⟨rfl, hb4⟩; rw [sign_eq, HR1.out]; have q2' := (HQR.out.1.below hb3).below hb4; have q3' := (HQR.out.2.below hb3).below hb4; have y20 := q2'.cells.1; have y21 := q2'.cells.2; have y30 := q3'.cells.1; have y31 := q3'.cells.2; have f20 := q2'.thaw 0; have f21 := q2'.thaw 1; have f30 := q3'.thaw 0; have f31 := q3'.thaw 1))
    have HW := icell_two (k1 := decide (Q < 0)) (k2 := decide (R < 0)) (v1 := .slice qo ql qc) (v2 := .slice ro rl rc) q2' q3' (by omega)
    have HW2 : Hid _ := HW
    have HE : Hid (QEnd w Q R 0 _ _) := quo_done (w := w) (B := W1.heap.size) (q := Q) (r := R) (er := 0) (g := g + 1 + 1) (g2 := g + 1 + 1 + 1) (v0 := .bool (decide (Q < 0))) (v1 := .slice qo ql qc) (u0 := .bool (decide (R < 0))) (u1 := .slice ro rl rc) (((show Own W1.heap.size 100 w2.drew (.slice qo ql qc) (lim Q.natAbs) by rw [← HQ1.out, zv_abs]; exact hq.same rfl).below hb3).below hb4) (((show Own W1.heap.size 100 w2.drew (.slice ro rl rc) (lim R.natAbs) by rw [← HR1.out, zv_abs]; exact hr.same rfl).below hb3).below hb4) hqr (by rw [HG.out]; omega) (by rw [HG.out]; omega) (by have := HSZ.out; omega) HSZ.out (bstep (bstep (bstep hb (below_drew' _)) hb3) hb4)
    generalize decide (Q < 0) = bQ at *
    generalize decide (R < 0) = bR at *
    clear hq hr hqr hb3 hb4 hb HW q2' q3' y20 y21 y30 y31 f20 f21 f30 f31 c0 c1 d0 d1
    go_wp2_with fail
    (try simp only [Exit.inBlock, Exit.then])
    exact bodyPost_ret (results_cct (p := 4) (q := 5) (u := 6) rfl _ _ (g + 1 + 1) (g + 1 + 1 + 1) 25 25 _ _ (0, 0) (0, 0) _ rfl rfl HW2.out.1 HW2.out.2 Tryz.underlying25 rfl (by kernel_rfl) (by kernel_rfl)) rfl HE.out
end Go.Proofs.YtaafijifiiiblaaGreat

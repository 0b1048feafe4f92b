/-
  Proved here: what the small functions of package whole answer.
  Proved here: what Uint answers.
  Proved here: what Uint and Sub answer of any numbers.
  Proved here: what Of, Add, Sub and Text of package whole answer.
  Proved here: what Add of package whole answers.
  Proved here: how long a number's text is.
  Proved here: what Sub and Text of package whole answer.
-/
import Derived.Test.YtfnafgjnimfmjaaGreatDoorTextAll
import Derived.Test.YtfnafgjnimfmjaaGreatDoorSubAll
import Derived.Test.YtfnafgjnimfmjaaGreatDoorMulMathAll
import Derived.Test.YtfnafgjnimfmjaaGreatDoorAlive0All
import Derived.RegionTactic
namespace Go.Proofs.YtfnafgjnimfmjaaGreatDoor
open Go.RowKit

/-- The two cells of a whole number. -/
def ICell (w : World) (g : Nat) (neg : Bool) (m : Value) : Prop := w.heap[g]? = some (.cells #[.bool neg, m] 25 (0, 0))
theorem ICell.cells {w : World} {g : Nat} {neg : Bool} {m : Value} (h : ICell w g neg m) : w.cell? ⟨g, 0, none⟩ = some (.bool neg) ∧ w.cell? ⟨g, 1, none⟩ = some m := by
  refine ⟨?_, ?_⟩ <;> (rw [cell_of_row w g _ _ _ _ h]; rfl)
theorem ICell.thaw {w : World} {g : Nat} {neg : Bool} {m : Value} (h : ICell w g neg m) (k : Nat) : w.frozen? ⟨g, k, none⟩ = false := frozen_of_row w g k _ _ h
theorem ICell.below {w w' : World} {g : Nat} {neg : Bool} {m : Value} (h : ICell w g neg m) (hb : Below w.heap.size w w') : ICell w' g neg m := by
  unfold ICell; rw [hb.block _ (Array.getElem?_eq_some_iff.1 h).1]; exact h
theorem ICell.new (w : World) (neg : Bool) (m : Value) : ICell (w.alloc (.cells #[.bool neg, m] 25)) w.heap.size neg m := heap_alloc_new w _
theorem ICell.write {w : World} {g : Nat} {neg : Bool} {m : Value} (h : ICell w g neg m) (n2 : Bool) (m2 : Value) : ICell ((w.setCell ⟨g, 0, none⟩ (.bool n2)).setCell ⟨g, 1, none⟩ m2) g n2 m2 := by
  unfold ICell
  have h1 := heap_setCell_same w g 0 _ _ (.bool n2) h
  have h2 := heap_setCell_same _ g 1 _ _ m2 h1
  rw [h2]
  rfl
theorem ICell.other {w : World} {g : Nat} {neg : Bool} {m : Value} (h : ICell w g neg m) {g' : Nat} (hne : g ≠ g') (k : Nat) (v : Value) : ICell (w.setCell ⟨g', k, none⟩ v) g neg m := by
  unfold ICell
  rw [heap_setCell_other]
  · exact h
  · exact hne

/-- What signed leaves. -/
def SignEnd (w : World) (neg : Bool) (m : Value) (e : Ending) (w' : World) : Prop := e = .returned (.agg #[.bool neg, m]) ∧ Below w.heap.size w w'

set_option maxRecDepth 100000 in
set_option maxHeartbeats 1600000 in
theorem signed_any (neg : Bool) (m : Value) (xs : List Nat) (w : World) (h : Num w m xs) :
    Calls Tryz.prog 68 #[.bool neg, m] w fun e w' => SignEnd w (neg && decide (0 < xs.length)) m e w' := by
  obtain ⟨ao, cap, rfl, hac, ham⟩ := h.ao
  obtain ⟨n, hn⟩ : ∃ n, n = xs.length := ⟨_, rfl⟩
  rw [← hn] at hac ⊢
  clear hn h
  cases neg
  · go_enter Tryz.func68, Tryz.ntmps68
    go_wp2
    (try simp only [Exit.inBlock, Exit.then])
    exact bodyPost_ret (v := .agg #[.bool false, .slice ao n cap]) (results_cell_row rfl _ _ w.heap.size 25 _ (0, 0) _ rfl (ICell.new w _ _) Tryz.underlying25 rfl (by kernel_rfl)) rfl ⟨rfl, (Below.refl _ _).alloc (Nat.le_refl _) _⟩
  · go_enter Tryz.func68, Tryz.ntmps68
    go_wp2
    (try simp only [Exit.inBlock, Exit.then])
    exact bodyPost_ret (v := .agg #[.bool (decide (0 < n)), .slice ao n cap]) (results_cell_row rfl _ _ w.heap.size 25 _ (0, 0) _ rfl (ICell.new w _ _) Tryz.underlying25 rfl (by kernel_rfl)) rfl ⟨rfl, (Below.refl _ _).alloc (Nat.le_refl _) _⟩

set_option maxRecDepth 100000 in
set_option maxHeartbeats 1600000 in
theorem opposite_any (neg : Bool) (ao : Option Addr) (n cap : Nat) (w : World) :
    Calls Tryz.prog 107 #[.agg #[.bool neg, .slice ao n cap]] w fun e w' => SignEnd w (!neg) (.slice ao n cap) e w' := by
  go_enter Tryz.func107, Tryz.ntmps107
  go_wp2
  (try simp only [Exit.inBlock, Exit.then])
  exact bodyPost_ret (v := .agg #[.bool (!neg), .slice ao n cap]) (results_cell_row rfl _ _ (w.heap.size + 1) 25 _ (0, 0) _ rfl (heap_alloc2_new w _ _) Tryz.underlying25 rfl (by kernel_rfl)) rfl ⟨rfl, ((Below.refl _ _).alloc (Nat.le_refl _) _).alloc (by simp) _⟩

set_option maxRecDepth 100000 in
set_option maxHeartbeats 1600000 in
theorem below_any (neg : Bool) (ao : Option Addr) (n cap : Nat) (xs : List Nat) (w : World) (h : Num w (.slice ao n cap) xs) (hl : xs.length ≤ 1000000) :
    Calls Tryz.prog 88 #[.agg #[.bool neg, .slice ao n cap]] w fun e w' => e = .returned (.bool (neg && decide (0 < bl (val xs)))) ∧ Below w.heap.size w w' := by
  cases neg
  · go_enter Tryz.func88, Tryz.ntmps88
    go_wp2_with fail
    go_ret
    exact ⟨rfl, (Below.refl _ _).alloc (Nat.le_refl _) _⟩
  · go_enter Tryz.func88, Tryz.ntmps88
    go_wp2_with fail
    refine (bits_any _ _ _ (h.alloc _) (by omega)).mono ?_
    rintro e w2 ⟨rfl, rfl⟩
    obtain ⟨b, hb⟩ : ∃ b, b = bl (val xs) := ⟨_, rfl⟩
    rw [← hb]
    have HB : Hid (b = bl (val xs)) := hb
    clear hb h
    go_wp2_with fail
    go_ret
    exact ⟨by rw [← HB.out]; rfl, (Below.refl _ _).alloc (Nat.le_refl _) _⟩
end Go.Proofs.YtfnafgjnimfmjaaGreatDoor

namespace Go.Proofs.YtfnafgjnimfmjaaGreatDoor
open Go.RowKit

set_option maxHeartbeats 400000 in
theorem uint_yes (v : Value) (xs : List Nat) (w : World) (h : Num w v xs) (hsm : val xs < 18446744073709551616) :
    Calls Tryz.prog 113 #[v] w fun e w' => e = .returned (.tuple #[.int .u64 (val xs : Nat), .bool true]) ∧ w' = w := by
  obtain ⟨ao, cap, hv⟩ : ∃ ao cap, v = .slice ao xs.length cap := by obtain ⟨_, ao, cap, hv, _⟩ := h; exact ⟨ao, cap, hv⟩
  subst hv
  have hl2 : (lim (val xs)).length ≤ 2 := lim_len_le hsm
  have hg := getD_lim_two (val xs) hsm
  go_enter Tryz.func113, Tryz.ntmps113
  go_wp2_with fail
  refine (trim_any _ _ _ h).mono ?_
  rintro e w' ⟨⟨k, hk, hk2, rfl⟩, rfl⟩
  have h2 := h.cut hk
  rw [hk2] at h2
  simp only [cutTo] at h2 ⊢
  have hkl : k ≤ 2 := by rw [← hk2, List.length_take, Nat.min_eq_left hk] at hl2; exact hl2
  have hkk : ¬ (2 : Int) < (k : Int) := by omega
  generalize hV : val xs = V at *
  have HV : Hid (val xs = V) := hV
  have Hg1 : Hid ((lim V).getD 0 0 = V % 4294967296) := hg.1
  have Hg2 : Hid ((lim V).getD 1 0 = V / 4294967296) := hg.2
  clear hV h hk2 hl2 hg
  go_wp2_with fail
  refine (limb_any _ _ _ _ h2 (by decide)).mono ?_
  rintro e w' ⟨rfl, rfl⟩
  rw [show (Int.toNat 0) = 0 from rfl, Hg1.out]
  go_wp2_with fail
  refine (limb_any _ _ _ _ h2 (by decide)).mono ?_
  rintro e w' ⟨rfl, rfl⟩
  rw [show (Int.toNat 1) = 1 from rfl, Hg2.out]
  have HO : Hid (bits BinOp.or IntKind.u64 ((V : Int) % 4294967296) ((V : Int) / 4294967296 * 4294967296) = (V : Int)) := or_halves V hsm
  go_wp2
  go_ret2
  refine ⟨?_, rfl⟩
  rw [HO.out, HV.out]; rfl
end Go.Proofs.YtfnafgjnimfmjaaGreatDoor

namespace Go.Proofs.YtfnafgjnimfmjaaGreatDoor
open Go.RowKit

def leB (a b : Nat) : Bool := decide (a ≤ b)

/-- What Sub leaves, either way. -/
def SubTold (B : Nat) (w : World) (a b : Nat) (en : Ending) (w' : World) : Prop := ∃ v, en = .returned (.tuple #[v, .bool (leB b a)]) ∧ Own B 37 w' v (lim (a - b)) ∧ Below B w w'
theorem sub_all (u v : Value) (xs ys : List Nat) (w : World) (hu : Num w u xs) (hv : Num w v ys) (hbx : xs.length ≤ 1099511627776) (hby : ys.length ≤ 1099511627776) :
    Calls Tryz.prog 86 #[u, v] w fun e w' => SubTold w.heap.size w (val xs) (val ys) e w' := by
  unfold SubTold
  by_cases hs : val ys ≤ val xs
  · rw [show leB (val ys) (val xs) = true by simp [leB, hs]]
    exact sub_yes u v xs ys w hu hv hbx hby hs
  · rw [show leB (val ys) (val xs) = false by simp [leB, hs], show val xs - val ys = 0 by omega]
    refine (sub_no u v xs ys w hu hv (by omega)).mono ?_
    rintro e w' ⟨rfl, q, rfl⟩
    exact ⟨_, rfl, Own.of_nil _ _ _, below_drewN (Below.refl _ _) q⟩
end Go.Proofs.YtfnafgjnimfmjaaGreatDoor

namespace Go.Proofs.YtfnafgjnimfmjaaGreatDoor
open Go.RowKit

/-- The whole number of a side and a size. -/
def zv (neg : Bool) (n : Nat) : Int := if neg then -(n : Int) else n
/-- What a function leaves that answers a whole number. -/
def IntEnd (w : World) (z : Int) (e : Ending) (w' : World) : Prop :=
  ∃ m, e = .returned (.agg #[.bool (decide (z < 0)), m]) ∧ Own w.heap.size 37 w' m (lim z.natAbs) ∧ Below w.heap.size w w'
theorem lim_pos_len {n : Nat} : 0 < (lim n).length ↔ n ≠ 0 := by
  constructor
  · intro h h0; subst h0; simp [lim_zero] at h
  · intro h
    rcases Nat.eq_zero_or_pos (lim n).length with h0 | h0
    · exfalso; apply h; rw [← val_lim n, List.length_eq_zero_iff.1 h0]; rfl
    · exact h0
theorem sign_eq (neg : Bool) (n : Nat) : (neg && decide (0 < (lim n).length)) = decide (zv neg n < 0) := by
  cases neg
  · simp [zv]
  · by_cases h : n = 0
    · subst h; rfl
    · rw [decide_eq_true (lim_pos_len.2 h), decide_eq_true (show zv true n < 0 by unfold zv; simp; omega)]; rfl
theorem zv_abs (neg : Bool) (n : Nat) : (zv neg n).natAbs = n := by cases neg <;> simp [zv]

theorem int_done {w w3 : World} {g B : Nat} {z : Int} {b : Bool} {m : Value} (hb : b = decide (z < 0)) (hg : w.heap.size ≤ g) (ho : Own B 37 w3 m (lim z.natAbs)) (hgB : g < B) (hbel : Below w.heap.size w w3) :
    IntEnd w z (.returned (.agg #[.bool b, m])) ((w3.setCell ⟨g, 0, none⟩ (.bool b)).setCell ⟨g, 1, none⟩ m) := by
  have hne : m.ownBlock = none ∨ m.ownBlock ≠ some g := by
    cases hm : m.ownBlock with
    | none => exact Or.inl rfl
    | some k =>
      right
      intro e
      rw [Option.some.injEq] at e
      have := (ho.block k hm).1
      omega
  exact ⟨m, by rw [hb], ((ho.other (.bool b) hne).other m hne).mono (by omega), (hbel.setCell (p := ⟨g, 0, none⟩) hg _).setCell (p := ⟨g, 1, none⟩) hg _⟩

set_option maxRecDepth 100000 in
set_option maxHeartbeats 3200000 in
theorem wof_any (n : Int) (w : World) (h1 : -9223372036854775808 ≤ n) (h2 : n ≤ 9223372036854775807) :
    Calls Tryz.prog 46 #[.int .i64 n] w fun e w' => IntEnd w n e w' := by
  obtain ⟨W1, hW1⟩ : ∃ W1, W1 = w.alloc (.cells #[.bool false, .slice none 0 0] 25) := ⟨_, rfl⟩
  have hi : ICell W1 w.heap.size false (.slice none 0 0) := by rw [hW1]; exact ICell.new w _ _
  have hb1 : Below w.heap.size w W1 := by rw [hW1]; exact (Below.refl _ _).alloc (Nat.le_refl _) _
  have hsz : w.heap.size < W1.heap.size := by rw [hW1]; simp
  have HW1 : Hid (W1 = w.alloc (.cells #[.bool false, .slice none 0 0] 25)) := hW1
  clear hW1
  by_cases hn : n < 0
  · obtain ⟨k, hk⟩ : ∃ k : Nat, n = -(k : Int) := ⟨n.natAbs, by omega⟩
    have hk0 : k ≠ 0 := by omega
    have hk1 : k ≤ 9223372036854775808 := by omega
    subst hk
    have e1 : IntKind.u64.wrap (-(k : Int)) = 18446744073709551616 - (k : Int) := by rw [IntKind.wrap_u64]; omega
    have e2 : IntKind.u64.wrap (-(18446744073709551616 - (k : Int))) = (k : Int) := by rw [IntKind.wrap_u64]; omega
    go_enter Tryz.func46, Tryz.ntmps46
    go_wp2_with fail
    rw [← HW1.out]
    refine (of_any k W1 (by omega)).mono ?_
    rintro e w2 ⟨m, rfl, hm, hb2⟩
    obtain ⟨ao, nl, cap, rfl⟩ := hm.sl
    go_wp2_with fail
    refine (signed_any _ _ _ _ hm.num).mono ?_
    rintro e w3 ⟨rfl, hb3⟩
    rw [sign_eq]
    have hi3 := (hi.below hb2).below hb3
    have hm3 := hm.below hb3
    have hbel3 := bstep (bstep hb1 hb2) hb3
    obtain ⟨b, hb⟩ : ∃ b, b = decide (zv true k < 0) := ⟨_, rfl⟩
    rw [← hb]
    have HE : Hid (IntEnd w (-(k : Int)) (.returned (.agg #[.bool b, .slice ao nl cap])) ((w3.setCell ⟨w.heap.size, 0, none⟩ (.bool b)).setCell ⟨w.heap.size, 1, none⟩ (.slice ao nl cap))) :=
      int_done (by rw [hb]; rfl) (Nat.le_refl _) (by rw [Int.natAbs_neg, Int.natAbs_natCast]; exact hm3) hsz hbel3
    obtain ⟨c0, c1⟩ := hi3.cells
    have f0 := hi3.thaw 0
    have f1 := hi3.thaw 1
    have HW : Hid (ICell ((w3.setCell ⟨w.heap.size, 0, none⟩ (.bool b)).setCell ⟨w.heap.size, 1, none⟩ (.slice ao nl cap)) w.heap.size b (.slice ao nl cap)) := hi3.write _ _
    clear hb hi hi3 hm hm3 hb1 hb2 hb3 hbel3 hsz
    go_wp2_with fail
    (try simp only [Exit.inBlock, Exit.then])
    exact bodyPost_ret (results_cell_row rfl _ _ w.heap.size 25 _ (0, 0) _ rfl HW.out Tryz.underlying25 rfl (by kernel_rfl)) rfl HE.out
  · obtain ⟨k, hk⟩ : ∃ k : Nat, n = (k : Int) := ⟨n.natAbs, by omega⟩
    have hk1 : k ≤ 9223372036854775807 := by omega
    subst hk
    have hn' : ¬ (k : Int) < 0 := hn
    go_enter Tryz.func46, Tryz.ntmps46
    go_wp2_with fail
    rw [← HW1.out]
    refine (of_any k W1 (by omega)).mono ?_
    rintro e w2 ⟨m, rfl, hm, hb2⟩
    obtain ⟨ao, nl, cap, rfl⟩ := hm.sl
    go_wp2_with fail
    refine (signed_any _ _ _ _ hm.num).mono ?_
    rintro e w3 ⟨rfl, hb3⟩
    rw [sign_eq]
    have hi3 := (hi.below hb2).below hb3
    have hm3 := hm.below hb3
    have hbel3 := bstep (bstep hb1 hb2) hb3
    obtain ⟨b, hb⟩ : ∃ b, b = decide (zv false k < 0) := ⟨_, rfl⟩
    rw [← hb]
    have HE : Hid (IntEnd w (k : Int) (.returned (.agg #[.bool b, .slice ao nl cap])) ((w3.setCell ⟨w.heap.size, 0, none⟩ (.bool b)).setCell ⟨w.heap.size, 1, none⟩ (.slice ao nl cap))) :=
      int_done (by rw [hb]; rfl) (Nat.le_refl _) (by rw [Int.natAbs_natCast]; exact hm3) hsz hbel3
    obtain ⟨c0, c1⟩ := hi3.cells
    have f0 := hi3.thaw 0
    have f1 := hi3.thaw 1
    have HW : Hid (ICell ((w3.setCell ⟨w.heap.size, 0, none⟩ (.bool b)).setCell ⟨w.heap.size, 1, none⟩ (.slice ao nl cap)) w.heap.size b (.slice ao nl cap)) := hi3.write _ _
    clear hb hi hi3 hm hm3 hb1 hb2 hb3 hbel3 hsz
    go_wp2_with fail
    (try simp only [Exit.inBlock, Exit.then])
    exact bodyPost_ret (results_cell_row rfl _ _ w.heap.size 25 _ (0, 0) _ rfl HW.out Tryz.underlying25 rfl (by kernel_rfl)) rfl HE.out
end Go.Proofs.YtfnafgjnimfmjaaGreatDoor

namespace Go.Proofs.YtfnafgjnimfmjaaGreatDoor
open Go.RowKit

theorem zv_add (n : Bool) (x y : Nat) : zv n x + zv n y = zv n (x + y) := by cases n <;> simp [zv] <;> omega
theorem zv_sub {n k : Bool} {x y : Nat} (h : n ≠ k) (hle : y ≤ x) : zv n x + zv k y = zv n (x - y) := by
  cases n <;> cases k <;> simp [zv] at h ⊢ <;> omega
theorem zv_sub' {n k : Bool} {x y : Nat} (h : n ≠ k) (hle : x ≤ y) : zv n x + zv k y = zv k (y - x) := by
  cases n <;> cases k <;> simp [zv] at h ⊢ <;> omega
/-- The two boxes and the result's. -/
def Boxes (w : World) (g : Nat) (na nb : Bool) (ma mb : Value) : Prop := ICell w g na ma ∧ ICell w (g + 1) nb mb ∧ ICell w (g + 1 + 1) false (.slice none 0 0)
theorem Boxes.below {w w' : World} {g : Nat} {na nb : Bool} {ma mb : Value} (h : Boxes w g na nb ma mb) (hb : Below w.heap.size w w') : Boxes w' g na nb ma mb := ⟨h.1.below hb, h.2.1.below hb, h.2.2.below hb⟩
theorem Boxes.new (w : World) (na nb : Bool) (ma mb : Value) : Boxes (((w.alloc (.cells #[.bool na, ma] 25)).alloc (.cells #[.bool nb, mb] 25)).alloc (.cells #[.bool false, .slice none 0 0] 25)) w.heap.size na nb ma mb := by
  have h3 := ICell.new ((w.alloc (.cells #[.bool na, ma] 25)).alloc (.cells #[.bool nb, mb] 25)) false (.slice none 0 0)
  have h2 := (ICell.new (w.alloc (.cells #[.bool na, ma] 25)) nb mb).below (belowA _ (.cells #[.bool false, .slice none 0 0] 25))
  have h1 := ((ICell.new w na ma).below (belowA _ (.cells #[.bool nb, mb] 25))).below (belowA _ (.cells #[.bool false, .slice none 0 0] 25))
  rw [World.size_alloc] at h2
  rw [World.size_alloc, World.size_alloc] at h3
  exact ⟨h1, h2, h3⟩

set_option maxRecDepth 100000 in
set_option maxHeartbeats 3200000 in
theorem wadd_any (na nb : Bool) (ao bo : Option Addr) (al ac bl_ bc : Nat) (xs ys : List Nat) (w : World) (ha : Num w (.slice ao al ac) xs) (hb : Num w (.slice bo bl_ bc) ys) (hlx : xs.length ≤ 1000000) (hly : ys.length ≤ 1000000) :
    Calls Tryz.prog 51 #[.agg #[.bool na, .slice ao al ac], .agg #[.bool nb, .slice bo bl_ bc]] w fun e w' => IntEnd w (zv na (val xs) + zv nb (val ys)) e w' := by
  obtain ⟨W1, hW1⟩ : ∃ W1, W1 = ((w.alloc (.cells #[.bool na, .slice ao al ac] 25)).alloc (.cells #[.bool nb, .slice bo bl_ bc] 25)).alloc (.cells #[.bool false, .slice none 0 0] 25) := ⟨_, rfl⟩
  have hx : Boxes W1 w.heap.size na nb (.slice ao al ac) (.slice bo bl_ bc) := by rw [hW1]; exact Boxes.new _ _ _ _ _
  have hb1 : Below w.heap.size w W1 := by rw [hW1]; exact bstep (bstep (belowA w _) (belowA _ _)) (belowA _ _)
  have hsz : w.heap.size + 1 + 1 < W1.heap.size := by rw [hW1]; simp
  have na1 := ha.below (Nat.le_refl _) hb1
  have nb1 := hb.below (Nat.le_refl _) hb1
  have HW1 : Hid (W1 = ((w.alloc (.cells #[.bool na, .slice ao al ac] 25)).alloc (.cells #[.bool nb, .slice bo bl_ bc] 25)).alloc (.cells #[.bool false, .slice none 0 0] 25)) := hW1
  clear hW1 ha hb
  go_enter Tryz.func51, Tryz.ntmps51
  by_cases hs : na = nb
  · subst hs
    have hbq : (na == na) = true := by simp
    go_wp2_with fail
    rw [← HW1.out]
    obtain ⟨g, hg⟩ : ∃ g, g = w.heap.size := ⟨_, rfl⟩
    rw [← hg] at hx hsz ⊢
    have HG : Hid (g = w.heap.size) := hg
    obtain ⟨c0, c1⟩ := hx.1.cells
    obtain ⟨d0, d1⟩ := hx.2.1.cells
    have HX : Hid (Boxes W1 g na na (.slice ao al ac) (.slice bo bl_ bc)) := hx
    clear hx hg
    go_region_with (first
      | (go_at_call 85; refine (add_any _ _ _ _ _ (na1.same (w' := W1.drew) rfl) (nb1.same (w' := W1.drew) rfl) (by omega) (by omega)).mono ?_; rintro e w2 ⟨m, rfl, hm, hb2⟩; obtain ⟨mo, ml, mc, rfl⟩ := hm.sl; have e0 := ((show Boxes W1.drew g na na (.slice ao al ac) (.slice bo bl_ bc) from HX.out).below hb2).1.cells.1)
      | (go_at_call 68; refine (signed_any _ _ _ _ hm.num).mono ?_; rintro e w3 ⟨rfl, hb3⟩; rw [sign_eq]; have hx3 := ((show Boxes W1.drew g na na (.slice ao al ac) (.slice bo bl_ bc) from HX.out).below hb2).below hb3; have x0 := hx3.2.2.cells.1; have x1 := hx3.2.2.cells.2; have f0 := hx3.2.2.thaw 0; have f1 := hx3.2.2.thaw 1))
    all_goals
      have HE : Hid (IntEnd w (zv na (val xs) + zv na (val ys)) (.returned (.agg #[.bool (decide (zv na (val xs + val ys) < 0)), .slice mo ml mc])) ((w3.setCell ⟨g + 1 + 1, 0, none⟩ (.bool (decide (zv na (val xs + val ys) < 0)))).setCell ⟨g + 1 + 1, 1, none⟩ (.slice mo ml mc))) :=
        int_done (B := W1.drew.heap.size) (by rw [zv_add]) (by rw [HG.out]; omega) (by rw [zv_add, zv_abs]; exact hm.below hb3) hsz (bstep (bstep (bstep hb1 (Below.refl _ _).drew) hb2) hb3)
      have HW : Hid (ICell ((w3.setCell ⟨g + 1 + 1, 0, none⟩ (.bool (decide (zv na (val xs + val ys) < 0)))).setCell ⟨g + 1 + 1, 1, none⟩ (.slice mo ml mc)) (g + 1 + 1) (decide (zv na (val xs + val ys) < 0)) (.slice mo ml mc)) := hx3.2.2.write _ _
      clear hm hb2 hb3 hx3 x0 x1 f0 f1 e0 c0 c1 d0 d1 HX na1 nb1 hb1 hsz
      go_wp2_with fail
      (try simp only [Exit.inBlock, Exit.then])
      exact bodyPost_ret (results_cell_row rfl _ _ (g + 1 + 1) 25 _ (0, 0) _ rfl HW.out Tryz.underlying25 rfl (by kernel_rfl)) rfl HE.out
  · have hbq : (na == nb) = false := by cases na <;> cases nb <;> simp at hs ⊢
    obtain ⟨g, hg⟩ : ∃ g, g = w.heap.size := ⟨_, rfl⟩
    rw [← hg] at hx hsz
    have HG : Hid (g = w.heap.size) := hg
    have HX : Hid (Boxes W1 g na nb (.slice ao al ac) (.slice bo bl_ bc)) := hx
    obtain ⟨c0, c1⟩ := hx.1.cells
    obtain ⟨d0, d1⟩ := hx.2.1.cells
    go_wp2_with fail
    rw [← HW1.out, ← hg]
    clear hx hg
    refine (sub_all _ _ _ _ _ na1 nb1 (by omega) (by omega)).mono ?_
    rintro e w2 ⟨m, rfl, hm, hb2⟩
    obtain ⟨mo, ml, mc, rfl⟩ := hm.sl
    have HX2 : Hid (Boxes w2 g na nb (.slice ao al ac) (.slice bo bl_ bc)) := HX.out.below hb2
    have hb12 := bstep hb1 hb2
    have hsz2 : g + 1 + 1 < w2.heap.size := Nat.lt_of_lt_of_le hsz hb2.size
    have na2 := na1.below (Nat.le_refl _) hb2
    have nb2 := nb1.below (Nat.le_refl _) hb2
    obtain ⟨p0, p1⟩ := HX2.out.1.cells
    obtain ⟨q0, q1⟩ := HX2.out.2.1.cells
    clear c0 c1 d0 d1
    by_cases hle : val ys ≤ val xs
    · rw [show leB (val ys) (val xs) = true from decide_eq_true hle]
      go_wp2_with fail
      refine (signed_any _ _ _ _ hm.num).mono ?_
      rintro e w3 ⟨rfl, hb3⟩
      rw [sign_eq]
      have hx3 := HX2.out.below hb3
      have HE : Hid (IntEnd w (zv na (val xs) + zv nb (val ys)) (.returned (.agg #[.bool (decide (zv na (val xs - val ys) < 0)), .slice mo ml mc])) ((w3.setCell ⟨g + 1 + 1, 0, none⟩ (.bool (decide (zv na (val xs - val ys) < 0)))).setCell ⟨g + 1 + 1, 1, none⟩ (.slice mo ml mc))) :=
        int_done (B := W1.heap.size) (by rw [zv_sub hs hle]) (by rw [HG.out]; omega) (by rw [zv_sub hs hle, zv_abs]; exact hm.below hb3) hsz (bstep hb12 hb3)
      have HW : Hid (ICell ((w3.setCell ⟨g + 1 + 1, 0, none⟩ (.bool (decide (zv na (val xs - val ys) < 0)))).setCell ⟨g + 1 + 1, 1, none⟩ (.slice mo ml mc)) (g + 1 + 1) (decide (zv na (val xs - val ys) < 0)) (.slice mo ml mc)) := hx3.2.2.write _ _
      obtain ⟨x0, x1⟩ := hx3.2.2.cells
      have f0 := hx3.2.2.thaw 0
      have f1 := hx3.2.2.thaw 1
      generalize decide (zv na (val xs - val ys) < 0) = bb at *
      clear hm hb2 hb3 hx3 HX HX2 na1 nb1 na2 nb2 hb1 hb12 hsz hsz2 p0 p1 q0 q1
      go_wp2_with fail
      (try simp only [Exit.inBlock, Exit.then])
      exact bodyPost_ret (results_cell_row rfl _ _ (g + 1 + 1) 25 _ (0, 0) _ rfl HW.out Tryz.underlying25 rfl (by kernel_rfl)) rfl HE.out
    · rw [show leB (val ys) (val xs) = false from decide_eq_false hle]
      go_wp2_with fail
      refine (sub_all _ _ _ _ _ nb2 na2 (by omega) (by omega)).mono ?_
      rintro e w3 ⟨m2, rfl, hm2, hb3⟩
      rw [show leB (val xs) (val ys) = true from decide_eq_true (by omega)]
      obtain ⟨ko, kl, kc, rfl⟩ := hm2.sl
      have HX3 : Hid (Boxes w3 g na nb (.slice ao al ac) (.slice bo bl_ bc)) := HX2.out.below hb3
      have hb13 := bstep hb12 hb3
      obtain ⟨r0, r1⟩ := HX3.out.2.1.cells
      clear p0 p1 q0 q1 hm na2 nb2
      go_wp2_with fail
      refine (signed_any _ _ _ _ hm2.num).mono ?_
      rintro e w4 ⟨rfl, hb4⟩
      rw [sign_eq]
      have hx4 := HX3.out.below hb4
      have HE : Hid (IntEnd w (zv na (val xs) + zv nb (val ys)) (.returned (.agg #[.bool (decide (zv nb (val ys - val xs) < 0)), .slice ko kl kc])) ((w4.setCell ⟨g + 1 + 1, 0, none⟩ (.bool (decide (zv nb (val ys - val xs) < 0)))).setCell ⟨g + 1 + 1, 1, none⟩ (.slice ko kl kc))) :=
        int_done (B := w2.heap.size) (by rw [zv_sub' hs (by omega)]) (by rw [HG.out]; omega) (by rw [zv_sub' hs (by omega), zv_abs]; exact hm2.below hb4) hsz2 (bstep hb13 hb4)
      have HW : Hid (ICell ((w4.setCell ⟨g + 1 + 1, 0, none⟩ (.bool (decide (zv nb (val ys - val xs) < 0)))).setCell ⟨g + 1 + 1, 1, none⟩ (.slice ko kl kc)) (g + 1 + 1) (decide (zv nb (val ys - val xs) < 0)) (.slice ko kl kc)) := hx4.2.2.write _ _
      obtain ⟨x0, x1⟩ := hx4.2.2.cells
      have f0 := hx4.2.2.thaw 0
      have f1 := hx4.2.2.thaw 1
      generalize decide (zv nb (val ys - val xs) < 0) = bb at *
      clear hm2 hb2 hb3 hb4 hx4 HX HX2 HX3 na1 nb1 hb1 hb12 hb13 hsz hsz2 r0 r1
      go_wp2_with fail
      (try simp only [Exit.inBlock, Exit.then])
      exact bodyPost_ret (results_cell_row rfl _ _ (g + 1 + 1) 25 _ (0, 0) _ rfl HW.out Tryz.underlying25 rfl (by kernel_rfl)) rfl HE.out
end Go.Proofs.YtfnafgjnimfmjaaGreatDoor

namespace Go.Proofs.YtfnafgjnimfmjaaGreatDoor

theorem txt_size (n : Nat) : (txt n).size = (wri n).length := by unfold txt; rw [strOfNums_size, List.length_map, chars_len]
theorem wri_len {n L : Nat} (h : (lim n).length ≤ L) : (wri n).length ≤ 32 * L + 1 := by
  unfold wri
  split
  · simp
  · rename_i h0
    rw [List.length_reverse]
    rcases Nat.lt_or_ge (32 * L + 1) (dec n).length with h1 | h1
    · exfalso
      obtain ⟨ds, d, hd⟩ : ∃ ds d, dec n = ds ++ [d] := ⟨(dec n).dropLast, (dec n).getLast (dec_ne h0), (List.dropLast_concat_getLast (dec_ne h0)).symm⟩
      have hw := wri_head h0 (wri_ne n)
      have hw2 : wri n = d :: ds.reverse := by unfold wri; rw [if_neg h0, hd, List.reverse_append]; rfl
      simp only [hw2, List.head_cons] at hw
      have h2 := dval_dec n
      rw [hd, dval_append] at h2
      simp only [dval, Nat.mul_zero, Nat.add_zero] at h2
      have h3 := dig_lt h2 hw (lim_lt_of_len h)
      rw [hd, List.length_append] at h1
      simp at h1
      omega
    · exact h1
theorem txt_short {n L : Nat} (h : (lim n).length ≤ L) : (txt n).size ≤ 32 * L + 1 := by rw [txt_size]; exact wri_len h
end Go.Proofs.YtfnafgjnimfmjaaGreatDoor

namespace Go.Proofs.YtfnafgjnimfmjaaGreatDoor
open Go.RowKit

theorem zv_neg (n : Bool) (x : Nat) : -(zv n x) = zv (!n) x := by cases n <;> simp [zv]

set_option maxRecDepth 100000 in
set_option maxHeartbeats 3200000 in
theorem wsub_any (na nb : Bool) (ao bo : Option Addr) (al ac bl_ bc : Nat) (xs ys : List Nat) (w : World) (ha : Num w (.slice ao al ac) xs) (hb : Num w (.slice bo bl_ bc) ys) (hlx : xs.length ≤ 1000000) (hly : ys.length ≤ 1000000) :
    Calls Tryz.prog 106 #[.agg #[.bool na, .slice ao al ac], .agg #[.bool nb, .slice bo bl_ bc]] w fun e w' => IntEnd w (zv na (val xs) - zv nb (val ys)) e w' := by
  obtain ⟨W1, hW1⟩ : ∃ W1, W1 = ((w.alloc (.cells #[.bool na, .slice ao al ac] 25)).alloc (.cells #[.bool nb, .slice bo bl_ bc] 25)).alloc (.cells #[.bool false, .slice none 0 0] 25) := ⟨_, rfl⟩
  have hx : Boxes W1 w.heap.size na nb (.slice ao al ac) (.slice bo bl_ bc) := by rw [hW1]; exact Boxes.new _ _ _ _ _
  have hb1 : Below w.heap.size w W1 := by rw [hW1]; exact bstep (bstep (belowA w _) (belowA _ _)) (belowA _ _)
  have hsz : w.heap.size + 1 + 1 < W1.heap.size := by rw [hW1]; simp
  have na1 := ha.below (Nat.le_refl _) hb1
  have nb1 := hb.below (Nat.le_refl _) hb1
  have HW1 : Hid (W1 = ((w.alloc (.cells #[.bool na, .slice ao al ac] 25)).alloc (.cells #[.bool nb, .slice bo bl_ bc] 25)).alloc (.cells #[.bool false, .slice none 0 0] 25)) := hW1
  clear hW1 ha hb
  obtain ⟨Z, hZ⟩ : ∃ Z, Z = zv na (val xs) - zv nb (val ys) := ⟨_, rfl⟩
  have HZ : Hid (zv na (val xs) + zv (!nb) (val ys) = Z) := by show _ = _; rw [← zv_neg, hZ]; omega
  rw [← hZ]
  clear hZ
  go_enter Tryz.func106, Tryz.ntmps106
  go_wp2_with fail
  rw [← HW1.out]
  obtain ⟨g, hg⟩ : ∃ g, g = w.heap.size := ⟨_, rfl⟩
  rw [← hg] at hx hsz ⊢
  have HG : Hid (g = w.heap.size) := hg
  obtain ⟨c0, c1⟩ := hx.1.cells
  obtain ⟨d0, d1⟩ := hx.2.1.cells
  have HX : Hid (Boxes W1 g na nb (.slice ao al ac) (.slice bo bl_ bc)) := hx
  clear hx hg
  go_region_with (first
    | (go_at_call 107; refine (opposite_any _ _ _ _ _).mono ?_; rintro e w2 ⟨rfl, hb2⟩; have x2 := ((show Boxes W1.drew g na nb (.slice ao al ac) (.slice bo bl_ bc) from HX.out).below hb2); have e0 := x2.1.cells.1; have e1 := x2.1.cells.2)
    | (go_at_call 51; refine (wadd_any _ _ _ _ _ _ _ _ _ _ _ ((na1.same (w' := W1.drew) rfl).below (Nat.le_refl _) hb2) ((nb1.same (w' := W1.drew) rfl).below (Nat.le_refl _) hb2) hlx hly).mono ?_; rw [HZ.out]; rintro e w3 ⟨m, rfl, hm, hb3⟩; obtain ⟨mo, ml, mc, rfl⟩ := hm.sl; have hx3 := x2.below hb3; have y0 := hx3.2.2.cells.1; have y1 := hx3.2.2.cells.2; have f0 := hx3.2.2.thaw 0; have f1 := hx3.2.2.thaw 1))
  all_goals
    have HE : Hid (IntEnd w Z (.returned (.agg #[.bool (decide (Z < 0)), .slice mo ml mc])) ((w3.setCell ⟨g + 1 + 1, 0, none⟩ (.bool (decide (Z < 0)))).setCell ⟨g + 1 + 1, 1, none⟩ (.slice mo ml mc))) :=
      int_done (B := w2.heap.size) rfl (by rw [HG.out]; omega) hm (Nat.lt_of_lt_of_le hsz hb2.size) (bstep (bstep (bstep hb1 (Below.refl _ _).drew) hb2) hb3)
    have HW : Hid (ICell ((w3.setCell ⟨g + 1 + 1, 0, none⟩ (.bool (decide (Z < 0)))).setCell ⟨g + 1 + 1, 1, none⟩ (.slice mo ml mc)) (g + 1 + 1) (decide (Z < 0)) (.slice mo ml mc)) := hx3.2.2.write _ _
    clear hm hb2 hb3 hx3 x2 y0 y1 f0 f1 e0 e1 c0 c1 d0 d1 HX na1 nb1 hb1 hsz
    go_wp2_with fail
    (try simp only [Exit.inBlock, Exit.then])
    exact bodyPost_ret (results_cell_row rfl _ _ (g + 1 + 1) 25 _ (0, 0) _ rfl HW.out Tryz.underlying25 rfl (by kernel_rfl)) rfl HE.out

/-- How a whole number is written. -/
def ztxt (neg : Bool) (n : Nat) : ByteArray := if neg = true ∧ n ≠ 0 then ⟨#[45]⟩ ++ txt n else txt n
theorem bl_pos {n : Nat} : 0 < bl n ↔ n ≠ 0 := by
  constructor
  · intro h h0; subst h0; simp [bl_zero] at h
  · intro h
    obtain ⟨m, e, _⟩ := bl_bounds h
    omega

set_option maxRecDepth 100000 in
set_option maxHeartbeats 3200000 in
theorem wtext_any (neg : Bool) (ao : Option Addr) (n cap : Nat) (xs : List Nat) (w : World) (h : Num w (.slice ao n cap) xs) (hl : xs.length ≤ 1000000) :
    Calls Tryz.prog 54 #[.agg #[.bool neg, .slice ao n cap]] w fun e w' => e = .returned (.string (ztxt neg (val xs))) ∧ Below w.heap.size w w' := by
  obtain ⟨W1, hW1⟩ : ∃ W1, W1 = w.alloc (.cells #[.bool neg, .slice ao n cap] 25) := ⟨_, rfl⟩
  have hi : ICell W1 w.heap.size neg (.slice ao n cap) := by rw [hW1]; exact ICell.new w _ _
  have hb1 : Below w.heap.size w W1 := by rw [hW1]; exact belowA _ _
  have n1 := h.below (Nat.le_refl _) hb1
  have HW1 : Hid (W1 = w.alloc (.cells #[.bool neg, .slice ao n cap] 25)) := hW1
  clear hW1 h
  obtain ⟨T, hT⟩ : ∃ T, T = txt (val xs) := ⟨_, rfl⟩
  have HT : Hid (T = txt (val xs)) := hT
  have hTs : T.size ≤ 32000001 := by
    rw [hT]
    have h1 := txt_short (n := val xs) (L := xs.length) (lim_len_le (val_lt n1.1))
    omega
  clear hT
  go_enter Tryz.func54, Tryz.ntmps54
  go_wp2_with fail
  rw [← HW1.out]
  refine (text_any _ _ _ n1 hl).mono ?_
  rintro e w2 ⟨rfl, hb2⟩
  rw [← HT.out]
  have hi2 := hi.below hb2
  have n2 := n1.below (Nat.le_refl _) hb2
  obtain ⟨c0, c1⟩ := hi2.cells
  have hb12 := bstep hb1 hb2
  clear hi hb1 hb2 n1
  go_wp2_with fail
  refine (below_any _ _ _ _ _ _ n2 hl).mono ?_
  rintro e w3 ⟨rfl, hb3⟩
  have HB : Hid (Below w.heap.size w w3) := bstep hb12 hb3
  clear hb12 hb3 hi2 n2 c0 c1
  by_cases hc : neg = true ∧ val xs ≠ 0
  · rw [show (neg && decide (0 < bl (val xs))) = true by rw [hc.1, decide_eq_true (bl_pos.2 hc.2)]; rfl]
    have HE : Hid ((.returned (.string (⟨#[45]⟩ ++ T)) : Ending) = .returned (.string (ztxt neg (val xs)))) := by show _ = _; unfold ztxt; rw [if_pos hc, HT.out]
    clear hc
    go_wp2_with fail
    go_ret
    exact ⟨HE.out, HB.out⟩
  · rw [show (neg && decide (0 < bl (val xs))) = false by
      cases neg
      · rfl
      · rw [decide_eq_false (fun h => hc ⟨rfl, bl_pos.1 h⟩)]; rfl]
    have HE : Hid ((.returned (.string T) : Ending) = .returned (.string (ztxt neg (val xs)))) := by show _ = _; unfold ztxt; rw [if_neg hc, HT.out]
    clear hc
    go_wp2_with fail
    go_ret
    exact ⟨HE.out, HB.out⟩
end Go.Proofs.YtfnafgjnimfmjaaGreatDoor

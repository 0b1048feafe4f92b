/-
  Proved here: plain facts on numbers written with digits. No condition.
  Proved here: what digitsAlone answers.
  Proved here: what appendDigits answers.
  Proved here: what Parse answers.
  Proved here: what strings.TrimLeft answers at the cutset 0.
  Proved here: facts on rows of bytes of the call's own; what slices.Reverse does to one.
  Proved here: what Text answers.
  Proved here: what the small functions of package whole answer.
  Proved here: what Uint answers.
  Proved here: what Uint and Sub answer of any numbers.
  Proved here: what Of, Add, Sub and Text of package whole answer.
-/
import Derived.Test.YtaafijifiiiblaaGreatCmpAll
import Derived.Test.YtaafijifiiiblaaGreatTrimAll
import Derived.Test.YtaafijifiiiblaaGreatBitsAll
import Derived.Test.YtaafijifiiiblaaGreatRefDoubleAll
import Derived.Test.YtaafijifiiiblaaGreatMul
import Derived.Test.YtaafijifiiiblaaGreatDivMathAll
import Derived.RegionTactic
import Derived.BigRegion
import Derived.Test.YtaafijifiiiblaaGreatSubAll
import Derived.Test.YtaafijifiiiblaaGreatValAtAll
import Derived.Laws.BytesArg
import Derived.Test.YtaafijifiiiblaaGreatSmallAll
import Derived.Test.YtaafijifiiiblaaGreatAlive0All
namespace Go.Proofs.YtaafijifiiiblaaGreat

end Go.Proofs.YtaafijifiiiblaaGreat

namespace Go.Proofs.YtaafijifiiiblaaGreat
open Go.RowKit

end Go.Proofs.YtaafijifiiiblaaGreat

namespace Go.Proofs.YtaafijifiiiblaaGreat
open Go.RowKit

end Go.Proofs.YtaafijifiiiblaaGreat

namespace Go.Proofs.YtaafijifiiiblaaGreat
open Go.RowKit

end Go.Proofs.YtaafijifiiiblaaGreat

namespace Go.Proofs.YtaafijifiiiblaaGreat
open Go.RowKit

end Go.Proofs.YtaafijifiiiblaaGreat

namespace Go.Proofs.YtaafijifiiiblaaGreat
open Go.RowKit

end Go.Proofs.YtaafijifiiiblaaGreat

namespace Go.Proofs.YtaafijifiiiblaaGreat
open Go.RowKit

end Go.Proofs.YtaafijifiiiblaaGreat

namespace Go.Proofs.YtaafijifiiiblaaGreat
open Go.RowKit

/-- The two cells of a whole number. -/
def ICell (w : World) (g : Nat) (neg : Bool) (m : Value) : Prop := w.heap[g]? = some (.cells #[.bool neg, m] 25 (0, 0))
theorem ICell.cells {w : World} {g : Nat} {neg : Bool} {m : Value} (h : ICell w g neg m) : w.cell? ⟨g, 0, none⟩ = some (.bool neg) ∧ w.cell? ⟨g, 1, none⟩ = some m := by
  refine ⟨?_, ?_⟩ <;> (rw [cell_of_row w g _ _ _ _ h]; rfl)
theorem ICell.thaw {w : World} {g : Nat} {neg : Bool} {m : Value} (h : ICell w g neg m) (k : Nat) : w.frozen? ⟨g, k, none⟩ = false := frozen_of_row w g k _ _ h
theorem ICell.below {w w' : World} {g : Nat} {neg : Bool} {m : Value} (h : ICell w g neg m) (hb : Below w.heap.size w w') : ICell w' g neg m := by
  unfold ICell; rw [hb.block _ (Array.getElem?_eq_some_iff.1 h).1]; exact h
theorem ICell.new (w : World) (neg : Bool) (m : Value) : ICell (w.alloc (.cells #[.bool neg, m] 25)) w.heap.size neg m := heap_alloc_new w _
theorem ICell.write {w : World} {g : Nat} {neg : Bool} {m : Value} (h : ICell w g neg m) (n2 : Bool) (m2 : Value) : ICell ((w.setCell ⟨g, 0, none⟩ (.bool n2)).setCell ⟨g, 1, none⟩ m2) g n2 m2 := by
  unfold ICell
  have h1 := heap_setCell_same w g 0 _ _ (.bool n2) h
  have h2 := heap_setCell_same _ g 1 _ _ m2 h1
  rw [h2]
  rfl
theorem ICell.other {w : World} {g : Nat} {neg : Bool} {m : Value} (h : ICell w g neg m) {g' : Nat} (hne : g ≠ g') (k : Nat) (v : Value) : ICell (w.setCell ⟨g', k, none⟩ v) g neg m := by
  unfold ICell
  rw [heap_setCell_other]
  · exact h
  · exact hne

/-- What signed leaves. -/
def SignEnd (w : World) (neg : Bool) (m : Value) (e : Ending) (w' : World) : Prop := e = .returned (.agg #[.bool neg, m]) ∧ Below w.heap.size w w'

set_option maxRecDepth 100000 in
set_option maxHeartbeats 1600000 in
theorem signed_any (neg : Bool) (m : Value) (xs : List Nat) (w : World) (h : Num w m xs) :
    Calls Tryz.prog 112 #[.bool neg, m] w fun e w' => SignEnd w (neg && decide (0 < xs.length)) m e w' := by
  obtain ⟨ao, cap, rfl, hac, ham⟩ := h.ao
  obtain ⟨n, hn⟩ : ∃ n, n = xs.length := ⟨_, rfl⟩
  rw [← hn] at hac ⊢
  clear hn h
  cases neg
  · go_enter Tryz.func112, Tryz.ntmps112
    go_wp2
    (try simp only [Exit.inBlock, Exit.then])
    exact bodyPost_ret (v := .agg #[.bool false, .slice ao n cap]) (results_cell_row rfl _ _ w.heap.size 25 _ (0, 0) _ rfl (ICell.new w _ _) Tryz.underlying25 rfl (by kernel_rfl)) rfl ⟨rfl, (Below.refl _ _).alloc (Nat.le_refl _) _⟩
  · go_enter Tryz.func112, Tryz.ntmps112
    go_wp2
    (try simp only [Exit.inBlock, Exit.then])
    exact bodyPost_ret (v := .agg #[.bool (decide (0 < n)), .slice ao n cap]) (results_cell_row rfl _ _ w.heap.size 25 _ (0, 0) _ rfl (ICell.new w _ _) Tryz.underlying25 rfl (by kernel_rfl)) rfl ⟨rfl, (Below.refl _ _).alloc (Nat.le_refl _) _⟩

set_option maxRecDepth 100000 in
set_option maxHeartbeats 1600000 in
theorem below_any (neg : Bool) (ao : Option Addr) (n cap : Nat) (xs : List Nat) (w : World) (h : Num w (.slice ao n cap) xs) (hl : xs.length ≤ 1000000) :
    Calls Tryz.prog 120 #[.agg #[.bool neg, .slice ao n cap]] w fun e w' => e = .returned (.bool (neg && decide (0 < bl (val xs)))) ∧ Below w.heap.size w w' := by
  cases neg
  · go_enter Tryz.func120, Tryz.ntmps120
    go_wp2_with fail
    go_ret
    exact ⟨rfl, (Below.refl _ _).alloc (Nat.le_refl _) _⟩
  · go_enter Tryz.func120, Tryz.ntmps120
    go_wp2_with fail
    refine (bits_any _ _ _ (h.alloc _) (by omega)).mono ?_
    rintro e w2 ⟨rfl, rfl⟩
    obtain ⟨b, hb⟩ : ∃ b, b = bl (val xs) := ⟨_, rfl⟩
    rw [← hb]
    have HB : Hid (b = bl (val xs)) := hb
    clear hb h
    go_wp2_with fail
    go_ret
    exact ⟨by rw [← HB.out]; rfl, (Below.refl _ _).alloc (Nat.le_refl _) _⟩
end Go.Proofs.YtaafijifiiiblaaGreat

namespace Go.Proofs.YtaafijifiiiblaaGreat
open Go.RowKit

set_option maxHeartbeats 400000 in
theorem uint_yes (v : Value) (xs : List Nat) (w : World) (h : Num w v xs) (hsm : val xs < 18446744073709551616) :
    Calls Tryz.prog 135 #[v] w fun e w' => e = .returned (.tuple #[.int .u64 (val xs : Nat), .bool true]) ∧ w' = w := by
  obtain ⟨ao, cap, hv⟩ : ∃ ao cap, v = .slice ao xs.length cap := by obtain ⟨_, ao, cap, hv, _⟩ := h; exact ⟨ao, cap, hv⟩
  subst hv
  have hl2 : (lim (val xs)).length ≤ 2 := lim_len_le hsm
  have hg := getD_lim_two (val xs) hsm
  go_enter Tryz.func135, Tryz.ntmps135
  go_wp2_with fail
  refine (trim_any _ _ _ h).mono ?_
  rintro e w' ⟨⟨k, hk, hk2, rfl⟩, rfl⟩
  have h2 := h.cut hk
  rw [hk2] at h2
  simp only [cutTo] at h2 ⊢
  have hkl : k ≤ 2 := by rw [← hk2, List.length_take, Nat.min_eq_left hk] at hl2; exact hl2
  have hkk : ¬ (2 : Int) < (k : Int) := by omega
  generalize hV : val xs = V at *
  have HV : Hid (val xs = V) := hV
  have Hg1 : Hid ((lim V).getD 0 0 = V % 4294967296) := hg.1
  have Hg2 : Hid ((lim V).getD 1 0 = V / 4294967296) := hg.2
  clear hV h hk2 hl2 hg
  go_wp2_with fail
  refine (limb_any _ _ _ _ h2 (by decide)).mono ?_
  rintro e w' ⟨rfl, rfl⟩
  rw [show (Int.toNat 0) = 0 from rfl, Hg1.out]
  go_wp2_with fail
  refine (limb_any _ _ _ _ h2 (by decide)).mono ?_
  rintro e w' ⟨rfl, rfl⟩
  rw [show (Int.toNat 1) = 1 from rfl, Hg2.out]
  have HO : Hid (bits BinOp.or IntKind.u64 ((V : Int) % 4294967296) ((V : Int) / 4294967296 * 4294967296) = (V : Int)) := or_halves V hsm
  go_wp2
  go_ret2
  refine ⟨?_, rfl⟩
  rw [HO.out, HV.out]; rfl
end Go.Proofs.YtaafijifiiiblaaGreat

namespace Go.Proofs.YtaafijifiiiblaaGreat
open Go.RowKit

def leB (a b : Nat) : Bool := decide (a ≤ b)

/-- What Sub leaves, either way. -/
def SubTold (B : Nat) (w : World) (a b : Nat) (en : Ending) (w' : World) : Prop := ∃ v, en = .returned (.tuple #[v, .bool (leB b a)]) ∧ Own B 100 w' v (lim (a - b)) ∧ Below B w w'
theorem sub_all (u v : Value) (xs ys : List Nat) (w : World) (hu : Num w u xs) (hv : Num w v ys) (hbx : xs.length ≤ 1099511627776) (hby : ys.length ≤ 1099511627776) :
    Calls Tryz.prog 117 #[u, v] w fun e w' => SubTold w.heap.size w (val xs) (val ys) e w' := by
  unfold SubTold
  by_cases hs : val ys ≤ val xs
  · rw [show leB (val ys) (val xs) = true by simp [leB, hs]]
    exact sub_yes u v xs ys w hu hv hbx hby hs
  · rw [show leB (val ys) (val xs) = false by simp [leB, hs], show val xs - val ys = 0 by omega]
    refine (sub_no u v xs ys w hu hv (by omega)).mono ?_
    rintro e w' ⟨rfl, q, rfl⟩
    exact ⟨_, rfl, Own.of_nil _ _ _, below_drewN (Below.refl _ _) q⟩
end Go.Proofs.YtaafijifiiiblaaGreat

namespace Go.Proofs.YtaafijifiiiblaaGreat
open Go.RowKit

/-- The whole number of a side and a size. -/
def zv (neg : Bool) (n : Nat) : Int := if neg then -(n : Int) else n
/-- What a function leaves that answers a whole number. -/
def IntEnd (w : World) (z : Int) (e : Ending) (w' : World) : Prop :=
  ∃ m, e = .returned (.agg #[.bool (decide (z < 0)), m]) ∧ Own w.heap.size 100 w' m (lim z.natAbs) ∧ Below w.heap.size w w'
theorem lim_pos_len {n : Nat} : 0 < (lim n).length ↔ n ≠ 0 := by
  constructor
  · intro h h0; subst h0; simp [lim_zero] at h
  · intro h
    rcases Nat.eq_zero_or_pos (lim n).length with h0 | h0
    · exfalso; apply h; rw [← val_lim n, List.length_eq_zero_iff.1 h0]; rfl
    · exact h0
theorem sign_eq (neg : Bool) (n : Nat) : (neg && decide (0 < (lim n).length)) = decide (zv neg n < 0) := by
  cases neg
  · simp [zv]
  · by_cases h : n = 0
    · subst h; rfl
    · rw [decide_eq_true (lim_pos_len.2 h), decide_eq_true (show zv true n < 0 by unfold zv; simp; omega)]; rfl
theorem zv_abs (neg : Bool) (n : Nat) : (zv neg n).natAbs = n := by cases neg <;> simp [zv]

theorem int_done {w w3 : World} {g B : Nat} {z : Int} {b : Bool} {m : Value} (hb : b = decide (z < 0)) (hg : w.heap.size ≤ g) (ho : Own B 100 w3 m (lim z.natAbs)) (hgB : g < B) (hbel : Below w.heap.size w w3) :
    IntEnd w z (.returned (.agg #[.bool b, m])) ((w3.setCell ⟨g, 0, none⟩ (.bool b)).setCell ⟨g, 1, none⟩ m) := by
  have hne : m.ownBlock = none ∨ m.ownBlock ≠ some g := by
    cases hm : m.ownBlock with
    | none => exact Or.inl rfl
    | some k =>
      right
      intro e
      rw [Option.some.injEq] at e
      have := (ho.block k hm).1
      omega
  exact ⟨m, by rw [hb], ((ho.other (.bool b) hne).other m hne).mono (by omega), (hbel.setCell (p := ⟨g, 0, none⟩) hg _).setCell (p := ⟨g, 1, none⟩) hg _⟩

set_option maxRecDepth 100000 in
set_option maxHeartbeats 3200000 in
theorem wof_any (n : Int) (w : World) (h1 : -9223372036854775808 ≤ n) (h2 : n ≤ 9223372036854775807) :
    Calls Tryz.prog 91 #[.int .i64 n] w fun e w' => IntEnd w n e w' := by
  obtain ⟨W1, hW1⟩ : ∃ W1, W1 = w.alloc (.cells #[.bool false, .slice none 0 0] 25) := ⟨_, rfl⟩
  have hi : ICell W1 w.heap.size false (.slice none 0 0) := by rw [hW1]; exact ICell.new w _ _
  have hb1 : Below w.heap.size w W1 := by rw [hW1]; exact (Below.refl _ _).alloc (Nat.le_refl _) _
  have hsz : w.heap.size < W1.heap.size := by rw [hW1]; simp
  have HW1 : Hid (W1 = w.alloc (.cells #[.bool false, .slice none 0 0] 25)) := hW1
  clear hW1
  by_cases hn : n < 0
  · obtain ⟨k, hk⟩ : ∃ k : Nat, n = -(k : Int) := ⟨n.natAbs, by omega⟩
    have hk0 : k ≠ 0 := by omega
    have hk1 : k ≤ 9223372036854775808 := by omega
    subst hk
    have e1 : IntKind.u64.wrap (-(k : Int)) = 18446744073709551616 - (k : Int) := by rw [IntKind.wrap_u64]; omega
    have e2 : IntKind.u64.wrap (-(18446744073709551616 - (k : Int))) = (k : Int) := by rw [IntKind.wrap_u64]; omega
    go_enter Tryz.func91, Tryz.ntmps91
    go_wp2_with fail
    rw [← HW1.out]
    refine (of_any k W1 (by omega)).mono ?_
    rintro e w2 ⟨m, rfl, hm, hb2⟩
    obtain ⟨ao, nl, cap, rfl⟩ := hm.sl
    go_wp2_with fail
    refine (signed_any _ _ _ _ hm.num).mono ?_
    rintro e w3 ⟨rfl, hb3⟩
    rw [sign_eq]
    have hi3 := (hi.below hb2).below hb3
    have hm3 := hm.below hb3
    have hbel3 := bstep (bstep hb1 hb2) hb3
    obtain ⟨b, hb⟩ : ∃ b, b = decide (zv true k < 0) := ⟨_, rfl⟩
    rw [← hb]
    have HE : Hid (IntEnd w (-(k : Int)) (.returned (.agg #[.bool b, .slice ao nl cap])) ((w3.setCell ⟨w.heap.size, 0, none⟩ (.bool b)).setCell ⟨w.heap.size, 1, none⟩ (.slice ao nl cap))) :=
      int_done (by rw [hb]; rfl) (Nat.le_refl _) (by rw [Int.natAbs_neg, Int.natAbs_natCast]; exact hm3) hsz hbel3
    obtain ⟨c0, c1⟩ := hi3.cells
    have f0 := hi3.thaw 0
    have f1 := hi3.thaw 1
    have HW : Hid (ICell ((w3.setCell ⟨w.heap.size, 0, none⟩ (.bool b)).setCell ⟨w.heap.size, 1, none⟩ (.slice ao nl cap)) w.heap.size b (.slice ao nl cap)) := hi3.write _ _
    clear hb hi hi3 hm hm3 hb1 hb2 hb3 hbel3 hsz
    go_wp2_with fail
    (try simp only [Exit.inBlock, Exit.then])
    exact bodyPost_ret (results_cell_row rfl _ _ w.heap.size 25 _ (0, 0) _ rfl HW.out Tryz.underlying25 rfl (by kernel_rfl)) rfl HE.out
  · obtain ⟨k, hk⟩ : ∃ k : Nat, n = (k : Int) := ⟨n.natAbs, by omega⟩
    have hk1 : k ≤ 9223372036854775807 := by omega
    subst hk
    have hn' : ¬ (k : Int) < 0 := hn
    go_enter Tryz.func91, Tryz.ntmps91
    go_wp2_with fail
    rw [← HW1.out]
    refine (of_any k W1 (by omega)).mono ?_
    rintro e w2 ⟨m, rfl, hm, hb2⟩
    obtain ⟨ao, nl, cap, rfl⟩ := hm.sl
    go_wp2_with fail
    refine (signed_any _ _ _ _ hm.num).mono ?_
    rintro e w3 ⟨rfl, hb3⟩
    rw [sign_eq]
    have hi3 := (hi.below hb2).below hb3
    have hm3 := hm.below hb3
    have hbel3 := bstep (bstep hb1 hb2) hb3
    obtain ⟨b, hb⟩ : ∃ b, b = decide (zv false k < 0) := ⟨_, rfl⟩
    rw [← hb]
    have HE : Hid (IntEnd w (k : Int) (.returned (.agg #[.bool b, .slice ao nl cap])) ((w3.setCell ⟨w.heap.size, 0, none⟩ (.bool b)).setCell ⟨w.heap.size, 1, none⟩ (.slice ao nl cap))) :=
      int_done (by rw [hb]; rfl) (Nat.le_refl _) (by rw [Int.natAbs_natCast]; exact hm3) hsz hbel3
    obtain ⟨c0, c1⟩ := hi3.cells
    have f0 := hi3.thaw 0
    have f1 := hi3.thaw 1
    have HW : Hid (ICell ((w3.setCell ⟨w.heap.size, 0, none⟩ (.bool b)).setCell ⟨w.heap.size, 1, none⟩ (.slice ao nl cap)) w.heap.size b (.slice ao nl cap)) := hi3.write _ _
    clear hb hi hi3 hm hm3 hb1 hb2 hb3 hbel3 hsz
    go_wp2_with fail
    (try simp only [Exit.inBlock, Exit.then])
    exact bodyPost_ret (results_cell_row rfl _ _ w.heap.size 25 _ (0, 0) _ rfl HW.out Tryz.underlying25 rfl (by kernel_rfl)) rfl HE.out
end Go.Proofs.YtaafijifiiiblaaGreat

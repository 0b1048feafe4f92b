/-
  Proved here: what Floor of package whole answers. Proved here: what a step of Bezout in package whole answers. Proved here: what onSideOf of package whole answers; plain facts on Euclid's rows. Proved here: what Bezout of package whole answers.
  Proved here: what Parse of package whole answers. Proved here: alive of credencelaw02 answers yes. Proved here: what the small functions of credencelaw02 answer.
  Proved here: plain facts on texts with a stroke ahead, and on noughts ahead of digits. No condition.
  Proved here: what Same answers of two numbers that are one.
  Proved here: what the plain way's Parse answers.
  Proved here: what Make, Same and Parse of the plain way over whole numbers answer.
  Proved here: what Int of package whole answers of a number that is an int.
  Proved here: what the plain way's ten answers.
  Proved here: what the plain way's Text answers.
  Proved here: what the plain way's Of answers.
-/
import Derived.Test.YtaafijifiiiblaaGreatWholeX1
import Derived.Test.YtaafijifiiiblaaGreatLate
import Derived.Test.YtaafijifiiiblaaGreatValAtAll
import Derived.Test.YtaafijifiiiblaaGreatWholeBAll
import Derived.Test.YtaafijifiiiblaaGreatWholeDAll
import Derived.Laws.Strings
import Derived.Test.YtaafijifiiiblaaGreatTrimAll
import Derived.Test.YtaafijifiiiblaaGreatSubAll
import Derived.Test.YtaafijifiiiblaaGreatDivMathAll
import Derived.Test.YtaafijifiiiblaaGreatLiftAll
namespace Go.Proofs.YtaafijifiiiblaaGreat
open Go.RowKit
attribute [local go_sem ↓] Go.wp_at_zero Go.wp_at_succ

theorem INum.sz {w : World} {v : Value} {z : Int} (h : INum w v z) : Sz z 1000000 := by
  obtain ⟨neg, ao, n, cap, xs, rfl, h1, h2, rfl⟩ := h
  exact Sz.of_num h1 h2
end Go.Proofs.YtaafijifiiiblaaGreat

namespace Go.Proofs.YtaafijifiiiblaaGreat
open Go.RowKit
attribute [local go_sem ↓] Go.wp_at_zero Go.wp_at_succ

section
variable {w w' : World} {g : Nat} {n0 n1 n2 : Bool} {m0 m1 m2 : Value}
end
/-- A number in a row of the call's own that lies elsewhere. -/
def Away (w : World) (g : Nat) (v : Value) (z : Int) : Prop := ∃ neg m xs, v = .agg #[.bool neg, m] ∧ Own (g + 1) 100 w m xs ∧ xs.length ≤ 1000000 ∧ zv neg (val xs) = z
theorem Away.num {w : World} {g : Nat} {v : Value} {z : Int} (h : Away w g v z) : INum w v z := by
  obtain ⟨neg, m, xs, rfl, ho, hl, hz⟩ := h
  obtain ⟨ao, n, cap, rfl⟩ := ho.sl
  exact ⟨_, _, _, _, _, rfl, ho.num, hl, hz⟩
theorem Away.sl {w : World} {g : Nat} {n : Bool} {m : Value} {z : Int} (h : Away w g (.agg #[.bool n, m]) z) : ∃ ao k cap, m = .slice ao k cap := by
  obtain ⟨neg, m', xs, e, ho, _, _⟩ := h
  simp only [Value.agg.injEq, Array.mk.injEq, List.cons.injEq, Value.bool.injEq, and_true] at e
  obtain ⟨_, rfl⟩ := e
  exact ho.sl

end Go.Proofs.YtaafijifiiiblaaGreat

namespace Go.Proofs.YtaafijifiiiblaaGreat
open Go.RowKit
attribute [local go_sem ↓] Go.wp_at_zero Go.wp_at_succ

theorem iend2 {w wr : World} {g : Nat} {v0 v1 : Value} (hb : Below w.heap.size w wr) (hg : w.heap.size ≤ g) : Below w.heap.size w ((wr.setCell ⟨g, 0, none⟩ v0).setCell ⟨g, 1, none⟩ v1) := (hb.setCell (p := ⟨g, 0, none⟩) hg _).setCell (p := ⟨g, 1, none⟩) hg _
end Go.Proofs.YtaafijifiiiblaaGreat

namespace Go.Proofs.YtaafijifiiiblaaGreat
open Go.RowKit
attribute [local go_sem ↓] Go.wp_at_zero Go.wp_at_succ

section
variable {w : World} {p q : Nat} {v0 v1 v2 v3 v4 v5 u0 u1 u2 u3 u4 u5 : Value}

end
end Go.Proofs.YtaafijifiiiblaaGreat

namespace Go.Proofs.YtaafijifiiiblaaGreat
open Go.RowKit

/-- A stroke ahead. -/
def strk (s : ByteArray) : Bool := decide (0 < s.size) && ((s.extract 0 1).toList == [45])

theorem results_ct {P : Program} {fn : Func} {p u : Tmp} {ty : TypeId} (h : fn.results = #[.cell p ty, .tmp u]) (tmps : Array Value) (w : World) (g : Nat) (t : TypeId) (cs : Array Value) (fr : Nat × Nat) (d : TypeDesc)
    (hp : tmps.getD p undef = .pointer (some ⟨g, 0, none⟩)) (hg : w.heap[g]? = some (.cells cs t fr))
    (hu : P.underlying ty = some d) (hd : (match d with | .struct _ | .array _ _ => true | _ => false) = true) (hi : (P.info? ty).map (·.size) = some cs.size) :
    (results fn tmps).run P w = .ok (.tuple #[.agg cs, tmps.getD u undef]) w := by
  have hp' : tmps[p]?.getD undef = .pointer (some ⟨g, 0, none⟩) := by simpa using hp
  simp [results, h, hp', asAddr, run_loadVar_row w g t ty cs fr d hg hu hd hi]
/-- The digits behind a stroke. -/
def tail (s : ByteArray) : ByteArray := if strk s then s.extract 1 s.size else s
end Go.Proofs.YtaafijifiiiblaaGreat

namespace Go.Proofs.YtaafijifiiiblaaGreat
open Go.RowKit

theorem IOwn.see {B : Nat} {w : World} {v : Value} {z : Int} (h : IOwn B w v z) {L : Nat} (hs : Sz z L) (hL : L ≤ 1000000) : ∃ n o l c, v = .agg #[.bool n, .slice o l c] ∧ INum w (.agg #[.bool n, .slice o l c]) z := by
  have hi := h.num hs hL
  obtain ⟨m, rfl, ho⟩ := h
  obtain ⟨o, l, c, rfl⟩ := ho.sl
  exact ⟨_, o, l, c, rfl, hi⟩
theorem INum.see {w : World} {v : Value} {z : Int} (h : INum w v z) : ∃ n o l c, v = .agg #[.bool n, .slice o l c] ∧ INum w (.agg #[.bool n, .slice o l c]) z := by
  obtain ⟨n, o, l, c, xs, rfl, h1, h2, h3⟩ := h
  exact ⟨n, o, l, c, rfl, n, o, l, c, xs, rfl, h1, h2, h3⟩
theorem Sz.of {z : Int} (h : z.natAbs < 4294967296 ^ 8) : Sz z 8 := ⟨h⟩
end Go.Proofs.YtaafijifiiiblaaGreat

namespace Go.Proofs.YtaafijifiiiblaaGreat
open Go.RowKit

theorem cmpZ_eq (x y : Int) : (cmpZ x y == 0) = decide (x = y) := by
  unfold cmpZ
  by_cases h1 : x < y
  · rw [if_pos h1, decide_eq_false (by omega)]; rfl
  · rw [if_neg h1]
    by_cases h2 : x = y
    · rw [if_pos h2, decide_eq_true h2]; rfl
    · rw [if_neg h2, decide_eq_false h2]; rfl

theorem cmpZ_sub (x y : Int) : cmpZ (x - y) 0 = cmpZ x y := by unfold cmpZ; repeat' split; all_goals omega
theorem cmpZ_lt {x y : Int} (h : x < y) : cmpZ x y = -1 := by unfold cmpZ; rw [if_pos h]
theorem cmpZ_gt {x y : Int} (h : y < x) : cmpZ x y = 1 := by unfold cmpZ; rw [if_neg (by omega), if_neg (by omega)]
end Go.Proofs.YtaafijifiiiblaaGreat

namespace Go.Proofs.YtaafijifiiiblaaGreat
open Go.RowKit

end Go.Proofs.YtaafijifiiiblaaGreat

namespace Go.Proofs.YtaafijifiiiblaaGreat
open Go.RowKit

end Go.Proofs.YtaafijifiiiblaaGreat

namespace Go.Proofs.YtaafijifiiiblaaGreat
open Go.RowKit

end Go.Proofs.YtaafijifiiiblaaGreat

namespace Go.Proofs.YtaafijifiiiblaaGreat
open Go.RowKit

set_option maxRecDepth 100000 in
set_option maxHeartbeats 3200000 in
theorem make_ref (neg : Bool) (m : Value) (xs : List Nat) (w : World) (h : Num w m xs) (hl : xs.length ≤ 1000000000) :
    Calls Tryz.prog 99 #[.bool neg, m] w fun e w' => IEnd w (zv neg (val xs)) e w' := by
  obtain ⟨ao, cap, rfl, _, _⟩ := h.ao
  obtain ⟨al, hal⟩ : ∃ l, l = xs.length := ⟨_, rfl⟩
  rw [← hal] at h ⊢
  clear hal
  obtain ⟨W1, hW1⟩ : ∃ W1, W1 = w.alloc (.cells #[.bool false, .slice none 0 0] 25) := ⟨_, rfl⟩
  have q0 : ICell W1 w.heap.size false (.slice none 0 0) := by rw [hW1]; exact icell_new _ rfl
  have hb : Below w.heap.size w W1 := by rw [hW1]; exact belowA _ _
  have hsz : w.heap.size < W1.heap.size := by rw [hW1]; simp
  have HW1 : Hid (W1 = w.alloc (.cells #[.bool false, .slice none 0 0] 25)) := hW1
  clear hW1
  replace h := h.below (Nat.le_refl _) hb
  obtain ⟨g, hg⟩ : ∃ g, g = w.heap.size := ⟨_, rfl⟩
  rw [← hg] at q0 hsz
  have HG : Hid (g = w.heap.size) := hg
  obtain ⟨z, hz⟩ : ∃ z, z = zv neg (val xs) := ⟨_, rfl⟩
  have HZ : Hid (z = zv neg (val xs)) := hz
  rw [← hz]
  clear hz
  go_enter Tryz.func99, Tryz.ntmps99
  go_wp2_with fail
  rw [← HW1.out, ← hg]
  clear HW1 hg
  refine (norm_ref _ _ _ h (by omega)).mono ?_
  rintro e w2 ⟨u, rfl, hu, hb2⟩
  obtain ⟨uo, uc, rfl, _, _⟩ := hu.num.ao
  obtain ⟨ul, hul⟩ : ∃ l, l = (lim (val xs)).length := ⟨_, rfl⟩
  rw [← hul] at hu ⊢
  have hbz : (neg && decide (0 < ul)) = decide (z < 0) := by rw [hul, HZ.out]; exact sign_eq _ _
  replace q0 := q0.below hb2
  replace hb := bstep hb hb2
  have hu' : Own W1.heap.size 100 w2 (.slice uo ul uc) (lim z.natAbs) := by rw [HZ.out, zv_abs]; exact hu
  cases neg
  · have HE : Hid (IEnd w z (.returned (.agg #[.bool false, .slice uo ul uc])) ((w2.setCell ⟨g, 0, none⟩ (.bool false)).setCell ⟨g, 1, none⟩ (.slice uo ul uc))) := (int_done (by rw [← hbz]; rfl) (by rw [HG.out]; omega) hu' hsz hb).i
    have HW : Hid (ICell ((w2.setCell ⟨g, 0, none⟩ (.bool false)).setCell ⟨g, 1, none⟩ (.slice uo ul uc)) g false (.slice uo ul uc)) := q0.write _ _
    obtain ⟨y0, y1⟩ := q0.cells
    have f0 := q0.thaw 0
    have f1 := q0.thaw 1
    clear q0 hb hu hu' hb2 hsz hbz hul h hl
    go_wp2_with fail
    (try simp only [Exit.inBlock, Exit.then])
    exact bodyPost_ret (results_cell_row rfl _ _ g 25 _ (0, 0) _ rfl HW.out Tryz.underlying25 rfl (by kernel_rfl)) rfl HE.out
  · obtain ⟨b, hbb⟩ : ∃ b, b = decide (0 < ul) := ⟨_, rfl⟩
    have HE : Hid (IEnd w z (.returned (.agg #[.bool b, .slice uo ul uc])) ((w2.setCell ⟨g, 0, none⟩ (.bool b)).setCell ⟨g, 1, none⟩ (.slice uo ul uc))) := (int_done (by rw [← hbz, hbb]; rfl) (by rw [HG.out]; omega) hu' hsz hb).i
    have HW : Hid (ICell ((w2.setCell ⟨g, 0, none⟩ (.bool b)).setCell ⟨g, 1, none⟩ (.slice uo ul uc)) g b (.slice uo ul uc)) := q0.write _ _
    obtain ⟨y0, y1⟩ := q0.cells
    have f0 := q0.thaw 0
    have f1 := q0.thaw 1
    have hb1 : decide (0 < ul) = b := hbb.symm
    clear q0 hb hu hu' hb2 hsz hbz hul h hl hbb
    go_wp2_with fail
    (try simp only [Exit.inBlock, Exit.then])
    exact bodyPost_ret (results_cell_row rfl _ _ g 25 _ (0, 0) _ rfl HW.out Tryz.underlying25 rfl (by kernel_rfl)) rfl HE.out

end Go.Proofs.YtaafijifiiiblaaGreat

namespace Go.Proofs.YtaafijifiiiblaaGreat
open Go.RowKit

end Go.Proofs.YtaafijifiiiblaaGreat

namespace Go.Proofs.YtaafijifiiiblaaGreat
open Go.RowKit

end Go.Proofs.YtaafijifiiiblaaGreat

namespace Go.Proofs.YtaafijifiiiblaaGreat
open Go.RowKit

end Go.Proofs.YtaafijifiiiblaaGreat

namespace Go.Proofs.YtaafijifiiiblaaGreat
open Go.RowKit

set_option maxHeartbeats 400000 in
theorem of_ref (u : Nat) (w : World) (hu : u < 18446744073709551616) :
    Calls Tryz.prog 138 #[.int .u64 (u : Int)] w fun e w' => Made w.heap.size 100 w (lim u) e w' := by
  have hb : limbs [u % 4294967296, u / 4294967296] := by
    intro x hx
    simp at hx
    omega
  have how := Own.lit (B := w.heap.size) 100 w #[.int .u32 ((u : Int) % 4294967296), .int .u32 ((u : Int) / 4294967296)] [u % 4294967296, u / 4294967296] hb (Nat.le_refl _) (by simp [maxLen]) (by simp [U])
  have hbel : Below w.heap.size w (w.alloc (.cells #[.int .u32 ((u : Int) % 4294967296), .int .u32 ((u : Int) / 4294967296)] 100)) := (Below.refl _ _).alloc (Nat.le_refl _) _
  go_enter Tryz.func138, Tryz.ntmps138
  go_wp2_with fail
  refine (norm_ref _ _ _ how.num (by simp)).mono ?_
  rintro e w' ⟨v, rfl, how2, hbel2⟩
  rw [val_two] at how2
  have hw : w.heap.size ≤ (w.alloc (.cells #[.int .u32 ((u : Int) % 4294967296), .int .u32 ((u : Int) / 4294967296)] 100)).heap.size := by simp
  have hm := how2.mono hw
  have hbb := hbel.trans (hbel2.mono hw)
  clear how hb how2 hbel hbel2 hw
  go_wp2
  go_ret
  exact ⟨_, rfl, hm, hbb⟩

end Go.Proofs.YtaafijifiiiblaaGreat

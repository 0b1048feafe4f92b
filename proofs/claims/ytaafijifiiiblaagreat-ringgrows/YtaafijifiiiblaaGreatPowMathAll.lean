/-
  Proved here: what foresee answers.
  Proved here: plain facts on how many bits powers have. No condition.
-/
import Derived.Test.YtaafijifiiiblaaGreatGcdMath
import Derived.Test.YtaafijifiiiblaaGreatTrimAll
import Derived.Test.YtaafijifiiiblaaGreatSmallAll
import Derived.Test.YtaafijifiiiblaaGreatBitsAll
namespace Go.Proofs.YtaafijifiiiblaaGreat
open Go.RowKit

/-- The five cells of a steps. -/
def Steps (w : World) (g u0 v0 u1 v1 : Nat) (ev : Bool) : Prop :=
  w.heap[g]? = some (.cells #[.int .u64 (u0 : Int), .int .u64 (v0 : Int), .int .u64 (u1 : Int), .int .u64 (v1 : Int), .bool ev] 146 (0, 0))
theorem Steps.cells {w : World} {g u0 v0 u1 v1 : Nat} {ev : Bool} (h : Steps w g u0 v0 u1 v1 ev) :
    w.cell? ⟨g, 0, none⟩ = some (.int .u64 (u0 : Int)) ∧ w.cell? ⟨g, 1, none⟩ = some (.int .u64 (v0 : Int)) ∧ w.cell? ⟨g, 2, none⟩ = some (.int .u64 (u1 : Int)) ∧ w.cell? ⟨g, 3, none⟩ = some (.int .u64 (v1 : Int)) ∧ w.cell? ⟨g, 4, none⟩ = some (.bool ev) := by
  refine ⟨?_, ?_, ?_, ?_, ?_⟩ <;> (rw [cell_of_row w g _ _ _ _ h]; rfl)
theorem Steps.thaw {w : World} {g u0 v0 u1 v1 : Nat} {ev : Bool} (h : Steps w g u0 v0 u1 v1 ev) (k : Nat) : w.frozen? ⟨g, k, none⟩ = false := frozen_of_row w g k _ _ h
theorem Steps.other {w : World} {g u0 v0 u1 v1 : Nat} {ev : Bool} (h : Steps w g u0 v0 u1 v1 ev) {g' : Nat} (hne : g ≠ g') (k : Nat) (v : Value) : Steps (w.setCell ⟨g', k, none⟩ v) g u0 v0 u1 v1 ev := by
  unfold Steps
  rw [heap_setCell_other]
  · exact h
  · exact hne
theorem Steps.step {w : World} {g u0 v0 u1 v1 : Nat} {ev : Bool} (h : Steps w g u0 v0 u1 v1 ev) (a b c d : Nat) (f : Bool) :
    Steps (((((w.setCell ⟨g, 0, none⟩ (.int .u64 (a : Int))).setCell ⟨g, 2, none⟩ (.int .u64 (c : Int))).setCell ⟨g, 1, none⟩ (.int .u64 (b : Int))).setCell ⟨g, 3, none⟩ (.int .u64 (d : Int))).setCell ⟨g, 4, none⟩ (.bool f)) g a b c d f := by
  unfold Steps
  have h1 := heap_setCell_same w g 0 _ _ (.int .u64 (a : Int)) h
  have h2 := heap_setCell_same _ g 2 _ _ (.int .u64 (c : Int)) h1
  have h3 := heap_setCell_same _ g 1 _ _ (.int .u64 (b : Int)) h2
  have h4 := heap_setCell_same _ g 3 _ _ (.int .u64 (d : Int)) h3
  have h5 := heap_setCell_same _ g 4 _ _ (.bool f) h4
  rw [h5]
  rfl
theorem Steps.write {w : World} {g u0 v0 u1 v1 : Nat} {ev : Bool} (h : Steps w g u0 v0 u1 v1 ev) (a b c d : Nat) (f : Bool) :
    Steps (((((w.setCell ⟨g, 0, none⟩ (.int .u64 (a : Int))).setCell ⟨g, 1, none⟩ (.int .u64 (b : Int))).setCell ⟨g, 2, none⟩ (.int .u64 (c : Int))).setCell ⟨g, 3, none⟩ (.int .u64 (d : Int))).setCell ⟨g, 4, none⟩ (.bool f)) g a b c d f := by
  unfold Steps
  have h1 := heap_setCell_same w g 0 _ _ (.int .u64 (a : Int)) h
  have h2 := heap_setCell_same _ g 1 _ _ (.int .u64 (b : Int)) h1
  have h3 := heap_setCell_same _ g 2 _ _ (.int .u64 (c : Int)) h2
  have h4 := heap_setCell_same _ g 3 _ _ (.int .u64 (d : Int)) h3
  have h5 := heap_setCell_same _ g 4 _ _ (.bool f) h4
  rw [h5]
  rfl
/-- What foresee leaves. -/
def ForeEnd (X Y : Nat) (w : World) (e : Ending) (w' : World) : Prop :=
  ∃ (u0 v0 u1 v1 : Nat) (ev : Bool), e = .returned (.agg #[.int .u64 (u0 : Int), .int .u64 (v0 : Int), .int .u64 (u1 : Int), .int .u64 (v1 : Int), .bool ev]) ∧ (v0 = 0 ∨ ∃ z x, Done X Y u0 v0 u1 v1 ev z x) ∧ Below w.heap.size w w'

set_option maxRecDepth 100000 in
set_option maxHeartbeats 6400000 in
theorem foresee_any (X Y : Nat) (w : World) (hX : X < 18446744073709551616) (hYX : Y ≤ X) :
    Calls Tryz.prog 146 #[.int .u64 (X : Int), .int .u64 (Y : Int)] w fun e w' => ForeEnd X Y w e w' := by
  go_enter Tryz.func146, Tryz.ntmps146
  go_wp2
  have hS1 : Steps ((w.alloc (.cells #[.int .u64 0, .int .u64 0, .int .u64 0, .int .u64 0, .bool false] 146)).alloc (.cells #[.int .u64 0, .int .u64 0, .int .u64 1, .int .u64 0, .bool false] 146)) (w.heap.size + 1) 0 0 1 0 false := heap_alloc2_new w _ _
  have hS0 : Steps ((w.alloc (.cells #[.int .u64 0, .int .u64 0, .int .u64 0, .int .u64 0, .bool false] 146)).alloc (.cells #[.int .u64 0, .int .u64 0, .int .u64 1, .int .u64 0, .bool false] 146)) w.heap.size 0 0 0 0 false := heap_alloc2_old w _ _
  have hbl : Below w.heap.size w ((w.alloc (.cells #[.int .u64 0, .int .u64 0, .int .u64 0, .int .u64 0, .bool false] 146)).alloc (.cells #[.int .u64 0, .int .u64 0, .int .u64 1, .int .u64 0, .bool false] 146)) := ((Below.refl w.heap.size w).alloc (Nat.le_refl _) _).alloc (by simp) _
  generalize (w.alloc (.cells #[.int .u64 0, .int .u64 0, .int .u64 0, .int .u64 0, .bool false] 146)).alloc (.cells #[.int .u64 0, .int .u64 0, .int .u64 1, .int .u64 0, .bool false] 146) = w2 at *
  obtain ⟨g, hg⟩ : ∃ g, g = w.heap.size := ⟨_, rfl⟩
  obtain ⟨gs, hgs⟩ : ∃ gs, gs = w.heap.size + 1 := ⟨_, rfl⟩
  rw [← hgs] at hS1
  rw [← hg] at hS0
  rw [← hg, ← show gs = g + 1 by omega]
  have hne : g ≠ gs := by omega
  have HG : Hid (w.heap.size ≤ g) := by show _ ≤ _; omega
  have HGS : Hid (w.heap.size ≤ gs) := by show _ ≤ _; omega
  have HST : Hid (Steps w2 gs 0 0 1 0 false ∧ Steps w2 g 0 0 0 0 false ∧ Below w.heap.size w w2) := ⟨hS1, hS0, hbl⟩
  clear hS1 hS0 hbl hg hgs
  go_loopw [0, 1, 6, 7] (fun xv yv uv vv wr => ∃ (x y u0 v0 u1 v1 u2 v2 : Nat) (ev : Bool), xv = .int .u64 x ∧ yv = .int .u64 y ∧ uv = .int .u64 u2 ∧ vv = .int .u64 v2 ∧ Fore X Y x y u0 v0 u1 v1 u2 v2 ev ∧ Steps wr gs u0 v0 u1 v1 ev ∧ Steps wr g 0 0 0 0 false ∧ Below w.heap.size w wr) (fun _ yv _ _ _ => (intOf yv).toNat)
  case atStart => exact ⟨X, Y, 0, 0, 1, 0, 0, 1, false, rfl, rfl, rfl, rfl, Fore.start hYX, HST.out.1, HST.out.2.1, HST.out.2.2⟩
  case round =>
    clear HST
    obtain ⟨x, y, u0, v0, u1, v1, u2, v2, ev, rfl, rfl, rfl, rfl, hF, hS, hS0, hbel⟩ := hrel
    have HF : Hid (Fore X Y x y u0 v0 u1 v1 u2 v2 ev) := hF
    have hyx := hF.le
    have hv2 := hF.pos
    have hxX : x ≤ X := by
      have h1 := hF.sx
      have h2 := Nat.le_mul_of_pos_right x (show 0 < v2 by omega)
      omega
    have hsm := hF.small
    obtain ⟨hu1s, hv1s⟩ := hsm
    clear hF
    obtain ⟨c0, c1, c2, c3, c4⟩ := hS.cells
    by_cases h1 : v2 ≤ y
    · have h1' : (v2 : Int) ≤ (y : Int) := by omega
      have hv2X : v2 ≤ X := by omega
      have hvs : v1 + v2 ≤ X := by
        have k1 := HF.out.sx
        have k2 := Nat.le_mul_of_pos_left v1 (show 0 < y by omega)
        have k3 := Nat.le_mul_of_pos_left v2 (show 0 < x by omega)
        omega
      by_cases h2 : y + v1 + v2 ≤ x
      · have h2' : (v1 : Int) + (v2 : Int) ≤ (x : Int) - (y : Int) := by omega
        obtain ⟨q, hq⟩ : ∃ q, q = x / y := ⟨_, rfl⟩
        obtain ⟨hF2, hqy, hmy, hv2', hu2', hy1⟩ := HF.out.step hX h1 h2 hq
        have eq : (x : Int) / (y : Int) = (q : Int) := by rw [hq]; exact (Int.natCast_ediv x y).symm
        have hyz : ((y : Int) == 0) = false := by simp; omega
        obtain ⟨p, hp⟩ : ∃ p, p = q * y := ⟨_, rfl⟩
        have ep : (q : Int) * (y : Int) = (p : Int) := by rw [hp]; exact (Int.natCast_mul q y).symm
        obtain ⟨a, ha⟩ : ∃ a, a = q * u2 := ⟨_, rfl⟩
        have ea : (q : Int) * (u2 : Int) = (a : Int) := by rw [ha]; exact (Int.natCast_mul q u2).symm
        obtain ⟨b, hb⟩ : ∃ b, b = q * v2 := ⟨_, rfl⟩
        have eb : (q : Int) * (v2 : Int) = (b : Int) := by rw [hb]; exact (Int.natCast_mul q v2).symm
        rw [← hp] at hF2 hqy hmy
        rw [← ha] at hF2 hu2'
        rw [← hb] at hF2 hv2'
        have HF2 : Hid (Fore X Y y (x - p) u1 v1 u2 v2 (u1 + a) (v1 + b) (!ev)) := hF2
        have hst := hS.step u1 v1 u2 v2 (!ev)
        have hst0 := ((((hS0.other hne 0 (.int .u64 (u1 : Int))).other hne 2 (.int .u64 (u2 : Int))).other hne 1 (.int .u64 (v1 : Int))).other hne 3 (.int .u64 (v2 : Int))).other hne 4 (.bool (!ev))
        have hbel2 := ((((hbel.setCell (p := ⟨gs, 0, none⟩) HGS.out (.int .u64 (u1 : Int))).setCell (p := ⟨gs, 2, none⟩) HGS.out (.int .u64 (u2 : Int))).setCell (p := ⟨gs, 1, none⟩) HGS.out (.int .u64 (v1 : Int))).setCell (p := ⟨gs, 3, none⟩) HGS.out (.int .u64 (v2 : Int))).setCell (p := ⟨gs, 4, none⟩) HGS.out (.bool (!ev))
        have f0 := hS.thaw 0
        have f1 := hS.thaw 1
        have f2 := hS.thaw 2
        have f3 := hS.thaw 3
        have f4 := hS.thaw 4
        have hqX : q ≤ X := by rw [hq]; exact Nat.le_trans (Nat.div_le_self _ _) hxX
        clear hF2 hS hS0 hbel hq hp ha hb
        go_wp2
        go_roundw
        case rel => exact ⟨y, x - p, u1, v1, u2, v2, u1 + a, v1 + b, !ev, rfl, congrArg _ (Int.ofNat_sub hqy).symm, by go_num, by go_num, HF2.out, hst, hst0, hbel2⟩
        case measure =>
          show ((x : Int) - (p : Int)).toNat < ((y : Nat) : Int).toNat
          rw [← Int.ofNat_sub hqy, Int.toNat_natCast, Int.toNat_natCast]
          exact hmy
      · have h2' : ¬ (v1 : Int) + (v2 : Int) ≤ (x : Int) - (y : Int) := by omega
        have HE : Hid (v0 = 0 ∨ ∃ z x, Done X Y u0 v0 u1 v1 ev z x) := HF.out.done
        obtain ⟨d0, d1, d2, d3, d4⟩ := hS0.cells
        have f0 := hS0.thaw 0
        have f1 := hS0.thaw 1
        have f2 := hS0.thaw 2
        have f3 := hS0.thaw 3
        have f4 := hS0.thaw 4
        have hbel2 := ((((hbel.setCell (p := ⟨g, 0, none⟩) HG.out (.int .u64 (u0 : Int))).setCell (p := ⟨g, 1, none⟩) HG.out (.int .u64 (v0 : Int))).setCell (p := ⟨g, 2, none⟩) HG.out (.int .u64 (u1 : Int))).setCell (p := ⟨g, 3, none⟩) HG.out (.int .u64 (v1 : Int))).setCell (p := ⟨g, 4, none⟩) HG.out (.bool ev)
        have HW : Hid (Steps (((((wr.setCell ⟨g, 0, none⟩ (.int .u64 (u0 : Int))).setCell ⟨g, 1, none⟩ (.int .u64 (v0 : Int))).setCell ⟨g, 2, none⟩ (.int .u64 (u1 : Int))).setCell ⟨g, 3, none⟩ (.int .u64 (v1 : Int))).setCell ⟨g, 4, none⟩ (.bool ev)) g u0 v0 u1 v1 ev) := hS0.write u0 v0 u1 v1 ev
        clear hS hS0 hbel
        go_wp2
        (try simp only [Exit.inBlock, Exit.then])
        refine bodyPost_ret (v := .agg #[.int .u64 (u0 : Int), .int .u64 (v0 : Int), .int .u64 (u1 : Int), .int .u64 (v1 : Int), .bool ev]) ?_ rfl ⟨u0, v0, u1, v1, ev, rfl, HE.out, hbel2⟩
        exact results_cell_row rfl _ _ g 146 _ (0, 0) _ rfl HW.out Tryz.underlying146 rfl (by kernel_rfl)
    · have h1' : ¬ (v2 : Int) ≤ (y : Int) := by omega
      have HE : Hid (v0 = 0 ∨ ∃ z x, Done X Y u0 v0 u1 v1 ev z x) := HF.out.done
      obtain ⟨d0, d1, d2, d3, d4⟩ := hS0.cells
      have f0 := hS0.thaw 0
      have f1 := hS0.thaw 1
      have f2 := hS0.thaw 2
      have f3 := hS0.thaw 3
      have f4 := hS0.thaw 4
      have hbel2 := ((((hbel.setCell (p := ⟨g, 0, none⟩) HG.out (.int .u64 (u0 : Int))).setCell (p := ⟨g, 1, none⟩) HG.out (.int .u64 (v0 : Int))).setCell (p := ⟨g, 2, none⟩) HG.out (.int .u64 (u1 : Int))).setCell (p := ⟨g, 3, none⟩) HG.out (.int .u64 (v1 : Int))).setCell (p := ⟨g, 4, none⟩) HG.out (.bool ev)
      have HW : Hid (Steps (((((wr.setCell ⟨g, 0, none⟩ (.int .u64 (u0 : Int))).setCell ⟨g, 1, none⟩ (.int .u64 (v0 : Int))).setCell ⟨g, 2, none⟩ (.int .u64 (u1 : Int))).setCell ⟨g, 3, none⟩ (.int .u64 (v1 : Int))).setCell ⟨g, 4, none⟩ (.bool ev)) g u0 v0 u1 v1 ev) := hS0.write u0 v0 u1 v1 ev
      clear hS hS0 hbel
      go_wp2
      (try simp only [Exit.inBlock, Exit.then])
      refine bodyPost_ret (v := .agg #[.int .u64 (u0 : Int), .int .u64 (v0 : Int), .int .u64 (u1 : Int), .int .u64 (v1 : Int), .bool ev]) ?_ rfl ⟨u0, v0, u1, v1, ev, rfl, HE.out, hbel2⟩
      exact results_cell_row rfl _ _ g 146 _ (0, 0) _ rfl HW.out Tryz.underlying146 rfl (by kernel_rfl)
end Go.Proofs.YtaafijifiiiblaaGreat

namespace Go.Proofs.YtaafijifiiiblaaGreat

theorem bl_le_iff {v m : Nat} : bl v ≤ m ↔ v < 2 ^ m := by
  by_cases h : v = 0
  · subst h; simp [bl_zero, Nat.two_pow_pos]
  · obtain ⟨k, e, h1, h2⟩ := bl_bounds h
    rw [e]
    constructor
    · intro hm
      exact Nat.lt_of_lt_of_le h2 (Nat.pow_le_pow_right (by decide) hm)
    · intro hm
      have := (Nat.pow_lt_pow_iff_right (by decide : 1 < 2)).1 (Nat.lt_of_le_of_lt h1 hm)
      omega
theorem bl_lt' (v : Nat) : v < 2 ^ bl v := bl_le_iff.1 (Nat.le_refl _)
theorem bl_gt_iff {v m : Nat} : m < bl v ↔ 2 ^ m ≤ v := by
  constructor
  · intro h
    rcases Nat.lt_or_ge v (2 ^ m) with h1 | h1
    · have := bl_le_iff.2 h1; omega
    · exact h1
  · intro h
    rcases Nat.lt_or_ge m (bl v) with h1 | h1
    · exact h1
    · have := bl_le_iff.1 h1; omega
theorem bl_len {xs : List Nat} (h : limbs xs) : bl (val xs) ≤ 32 * xs.length := by
  rw [bl_le_iff, ← pow_limb]
  exact val_lt h
theorem bl_lim_len {p : Nat} : bl p ≤ 32 * (lim p).length := by
  have := bl_len (limbs_lim p)
  rwa [val_lim] at this
end Go.Proofs.YtaafijifiiiblaaGreat

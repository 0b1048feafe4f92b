/-
  Proved here: package set at int: Len, List, Has, Of, Same, Within.
  Proved here: plain facts on numbers and their limbs to the base 2^32. No condition.
  Proved here: plain facts on numbers that lie in memory, limb by limb, and on rows that a call made for itself. No condition.
-/
import Derived.Test.YtjlmignafhhjhaaSetCI
import Derived.Test.YtjlmignafhhjhaaSetCell
import Derived.WalkKit
import Derived.Below
import Derived.BigQuiet
namespace Go.Proofs.Ytjlmignafhhjhaa
open Go.Shelf Go.RowKit Go.Lib Go.Sort
theorem smI_lt (y x : Int) : smI y x = (!ltOf cfI y x && !ltOf cfI x y) := by
  unfold smI
  rw [cfI_zero, ltI, ltI]
  by_cases h : y = x
  · subst h; simp
  · by_cases h2 : y < x
    · simp [h, h2]
    · have h3 : x < y := by omega
      simp [h, h3]
theorem smI_eq (x y : Int) (h : smI x y = true) : x = y := by
  unfold smI at h
  rw [cfI_zero] at h
  exact of_decide_eq_true h
def hasI (L : List Int) (x : Int) : Bool := L.any fun y => smI y x
theorem fndI_has {L : List Int} (hR : Rs (ltOf cfI) L) {x : Int} {k : Nat} (hP : Pos (ltOf cfI) L x k) : fndI L x k = hasI L x := by
  have := has_pos ordI hR hP smI smI_lt
  unfold hasI fndI
  rw [this]
  cases L[k]? <;> rfl
def ofI (l : List Int) : List Int := cpt smI (sortS (leOf (ltOf cfI)) l)
theorem ofI_rs (l : List Int) : Rs (ltOf cfI) (ofI l) := cpt_rs ordI smI_lt (srt_sortS ordI l)
theorem ofI_len (l : List Int) : (ofI l).length ≤ l.length := by have := len_cpt (sm := smI) (sortS (leOf (ltOf cfI)) l); rw [len_sortS] at this; exact this
set_option maxHeartbeats 4000000 in
set_option maxRecDepth 1000000 in
theorem setListI (v : Value) (L : List Int) (w : World) (hv : RG (Value.int .i64) w v L) (hz : L.length ≤ 1048576) : Calls Try.prog 65 #[.agg #[v]] w fun e w' => ∃ u, e = .returned u ∧ OG (Value.int .i64) w.heap.size 3 w' u L ∧ Below w.heap.size w w' := by
  have C : Hid (∀ o, Calls Try.prog 53 #[v] (w.alloc o) fun e w' => ∃ u, e = .returned u ∧ OG (Value.int .i64) w.heap.size 3 w' u L ∧ Below w.heap.size w w') := fun o => (cloneI v L (w.alloc o) (hv.alloc o) hz).mono fun _ _ ⟨u, h1, h2, h3⟩ => ⟨u, h1, h2.mono (by simp), ((Below.refl w.heap.size w).alloc (Nat.le_refl _) o).trans (h3.mono (by simp))⟩
  clear hv
  go_enter Try.func65, Try.ntmps65
  go_wp2_with (go_at_call 53; refine Calls.mono (C.out _) ?_; rintro e w' ⟨u, rfl, h1, h2⟩)
  go_ret
  exact ⟨_, rfl, h1, h2⟩
set_option maxHeartbeats 4000000 in
set_option maxRecDepth 1000000 in
theorem setHasI (v : Value) (L : List Int) (x : Int) (w : World) (hv : RG (Value.int .i64) w v L) (hR : Rs (ltOf cfI) L) (hz : L.length ≤ 1048576) : Calls Try.prog 71 #[.agg #[v], (Value.int .i64) x] w fun e w' => e = .returned (.bool (hasI L x)) ∧ Below w.heap.size w w' := by
  have C : Hid (∀ o, Calls Try.prog 84 #[v, (Value.int .i64) x] (w.alloc o) fun e w' => ∃ k : Nat, e = .returned (.tuple #[.int .i64 k, .bool (hasI L x)]) ∧ Below w.heap.size w w') := fun o => (searchI v L x (w.alloc o) (hv.alloc o) (hR.srt ordI) (by omega)).mono fun _ _ ⟨k, h1, h2, q, h3⟩ => ⟨k, by rw [h1, fndI_has hR h2], by rw [h3]; exact below_drewN ((Below.refl w.heap.size w).alloc (Nat.le_refl _) o) q⟩
  generalize hasI L x = b at *
  clear hv
  go_enter Try.func71, Try.ntmps71
  go_wp2_with (go_at_call 84; refine Calls.mono (C.out _) ?_; rintro e w' ⟨k, rfl, h2⟩)
  go_ret
  exact ⟨rfl, h2⟩
set_option maxHeartbeats 4000000 in
set_option maxRecDepth 1000000 in
theorem setOfI (v : Value) (L : List Int) (w : World) (hv : RG (Value.int .i64) w v L) (hz : L.length ≤ 1048576) : Calls Try.prog 63 #[v] w fun e w' => ∃ u, e = .returned (.agg #[u]) ∧ OG (Value.int .i64) w.heap.size 3 w' u (ofI L) ∧ Below w.heap.size w w' := by
  obtain ⟨W1, hW1⟩ : ∃ W1, W1 = w.alloc (.cells #[.slice none 0 0] 126) := ⟨_, rfl⟩
  have s0 : SCell 126 W1 w.heap.size (.slice none 0 0) := by rw [hW1]; exact SCell.new w rfl
  have b0 : Below w.heap.size w W1 := by rw [hW1]; exact (Below.refl _ _).alloc (Nat.le_refl _) _
  have z0 : W1.heap.size = w.heap.size + 1 := by rw [hW1]; simp
  have C := cloneI v L W1 (hv.below (Nat.le_refl _) b0) hz
  have HW1 : Hid (W1 = w.alloc (.cells #[.slice none 0 0] 126)) := hW1
  obtain ⟨g, hg⟩ : ∃ g, g = w.heap.size := ⟨_, rfl⟩
  rw [← hg] at s0 b0 z0 ⊢
  have HG : Hid (g = w.heap.size) := hg
  clear hW1 hv
  go_enter Try.func63, Try.ntmps63
  go_wp2_with fail
  rw [← HW1.out, ← HG.out]
  clear HW1 hg
  refine C.mono ?_
  rintro e w2 ⟨u, rfl, ho, hb⟩
  have s1 := s0.below hb
  have b1 := b0.trans (hb.mono (by omega))
  have z1 : g + 1 ≤ w2.heap.size := by have := hb.size; omega
  clear C s0 b0 hb
  have C2 := sortedI _ u L w2 ho (by omega)
  go_wp2_with fail
  refine C2.mono ?_
  rintro e w3 ⟨rfl, ho3, hg3⟩
  have hbelow3 : Below (g + 1) w2 w3 := (Below.refl (g + 1) w2).grown hg3 z1 (fun j hj => by have := (ho.lt j hj).1; omega)
  have s2 : SCell 126 w3 g (.slice none 0 0) := by unfold SCell; rw [hbelow3.block g (by omega)]; exact s1
  have b2 := b1.trans (hbelow3.mono (by omega))
  have z2 : g + 1 ≤ w3.heap.size := by have := hbelow3.size; omega
  clear C2 s1 b1 hbelow3 hg3 ho
  have C3 := compactI _ u _ w3 ho3
  go_wp2_with fail
  refine C3.mono ?_
  rintro e w4 ⟨u4, rfl, ho4, hg4⟩
  have hbelow4 : Below (g + 1) w3 w4 := (Below.refl (g + 1) w3).grown hg4 z2 (fun j hj => by have := (ho3.lt j hj).1; omega)
  have s3 : SCell 126 w4 g (.slice none 0 0) := by unfold SCell; rw [hbelow4.block g (by omega)]; exact s2
  have b3 := b2.trans (hbelow4.mono (by omega))
  have hne : ∀ j, u4.ownBlock = some j → j ≠ g := fun j hj => by have := (ho4.lt j hj).1; omega
  have HO : Hid (OG (Value.int .i64) g 3 (w4.setCell ⟨g, 0, none⟩ u4) u4 (ofI L)) := (OG.of_blocks ho4 fun j hj => Below.heap_setCell _ _ _ _ (hne j hj)).mono (by omega)
  have HB : Hid (Below g w (w4.setCell ⟨g, 0, none⟩ u4)) := b3.setCell (p := ⟨g, 0, none⟩) (Nat.le_refl _) u4
  have HW : Hid (SCell 126 (w4.setCell ⟨g, 0, none⟩ u4) g u4) := s3.write u4
  have c0 := s3.cell
  have f0 := s3.thaw
  obtain ⟨uo, uc, rfl, -⟩ := ho4.sl
  clear C3 s2 b2 hbelow4 hg4 ho3 s3 ho4 b3 hne z0 z1 z2
  go_wp2_with fail
  (try simp only [Exit.inBlock, Exit.then])
  exact bodyPost_ret (results_cell_row rfl _ _ (g) 126 _ (0, 0) _ rfl HW.out Try.underlying126 rfl (by kernel_rfl)) rfl ⟨_, rfl, HO.out, HB.out⟩
end Go.Proofs.Ytjlmignafhhjhaa

namespace Go.Proofs.Ytjlmignafhhjhaa
/-- The number of some limbs, the lowest first. -/
def val : List Nat → Nat
  | [] => 0
  | x :: r => x + 4294967296 * val r
/-- Each limb is one. -/
def limbs (xs : List Nat) : Prop := ∀ x ∈ xs, x < 4294967296
end Go.Proofs.Ytjlmignafhhjhaa

namespace Go.Proofs.Ytjlmignafhhjhaa
open Go.RowKit

/-- A limb as a cell. -/
def U (x : Nat) : Value := .int .u32 (x : Int)
/-- A number that can be read: its limbs are xs. -/
def Num (w : World) (v : Value) (xs : List Nat) : Prop :=
  limbs xs ∧ ∃ ao cap, v = .slice ao xs.length cap ∧ xs.length ≤ cap ∧ cap ≤ maxLen ∧ (ao = none → cap = 0) ∧
    ∀ j, j < xs.length → ∃ b off, ao = some ⟨b, off, none⟩ ∧ w.cell? ⟨b, off + j, none⟩ = some (U (xs.getD j 0))
/-- A number in a row of the call's own. -/
def Own (B e : Nat) (w : World) (v : Value) (xs : List Nat) : Prop := limbs xs ∧ w.ownsRow B e 1 v xs.length (xs.map U)

theorem Num.lt {w : World} {v : Value} {xs : List Nat} (h : Num w v xs) : limbs xs := h.1
theorem Own.lt {B e : Nat} {w : World} {v : Value} {xs : List Nat} (h : Own B e w v xs) : limbs xs := h.1

theorem Own.block {B e : Nat} {w : World} {v : Value} {xs : List Nat} (h : Own B e w v xs) : ∀ k, v.ownBlock = some k → B ≤ k ∧ k < w.heap.size := World.ownsRow.lt h.2

end Go.Proofs.Ytjlmignafhhjhaa

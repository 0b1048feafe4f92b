/-
  Proved here: what the kinds of floats of package near answer: infinity, beyond, doubles.
-/
import Derived.Test.YtaekaikkldnikaaDoorNearLAll
import Derived.Deep.RegionHeld3
namespace Go.Proofs.YtaekaikkldnikaaDoor
open Go.RowKit

/-- The three cells of a kind. -/
def KCell (w : World) (g : Nat) (a b c : Value) : Prop := w.heap[g]? = some (.cells #[a, b, c] 53 (0, 0))
theorem KCell.cells {w : World} {g : Nat} {a b c : Value} (h : KCell w g a b c) : w.cell? ⟨g, 0, none⟩ = some a ∧ w.cell? ⟨g, 1, none⟩ = some b ∧ w.cell? ⟨g, 2, none⟩ = some c := by
  simp only [World.cell?, KCell] at h ⊢
  rw [h]
  simp
theorem KCell.thaw {w : World} {g : Nat} {a b c : Value} (h : KCell w g a b c) (k : Nat) : w.frozen? ⟨g, k, none⟩ = false := frozen_of_row w g k _ _ h
theorem KCell.below {w w' : World} {g : Nat} {a b c : Value} (h : KCell w g a b c) (hb : Below w.heap.size w w') : KCell w' g a b c := by
  unfold KCell; rw [hb.block _ (Array.getElem?_eq_some_iff.1 h).1]; exact h
theorem kcell_new (w : World) {a b c : Value} {k : Nat} (hk : w.heap.size = k) : KCell (w.alloc (.cells #[a, b, c] 53)) k a b c := by subst hk; exact heap_alloc_new w _
/-- The two cells of a place. -/
def PCell (w : World) (g : Nat) (a b : Value) : Prop := w.heap[g]? = some (.cells #[a, b] 62 (0, 0))
theorem PCell.cells {w : World} {g : Nat} {a b : Value} (h : PCell w g a b) : w.cell? ⟨g, 0, none⟩ = some a ∧ w.cell? ⟨g, 1, none⟩ = some b := by
  simp only [World.cell?, PCell] at h ⊢
  rw [h]
  simp
theorem PCell.thaw {w : World} {g : Nat} {a b : Value} (h : PCell w g a b) (k : Nat) : w.frozen? ⟨g, k, none⟩ = false := frozen_of_row w g k _ _ h
theorem PCell.below {w w' : World} {g : Nat} {a b : Value} (h : PCell w g a b) (hb : Below w.heap.size w w') : PCell w' g a b := by
  unfold PCell; rw [hb.block _ (Array.getElem?_eq_some_iff.1 h).1]; exact h
theorem pcell_new (w : World) {a b : Value} {k : Nat} (hk : w.heap.size = k) : PCell (w.alloc (.cells #[a, b] 62)) k a b := by subst hk; exact heap_alloc_new w _
theorem PCell.write {w : World} {g : Nat} {a b : Value} (h : PCell w g a b) (a2 b2 : Value) : PCell ((w.setCell ⟨g, 0, none⟩ a2).setCell ⟨g, 1, none⟩ b2) g a2 b2 := by
  unfold PCell
  have h1 := heap_setCell_same w g 0 _ _ a2 h
  have h2 := heap_setCell_same _ g 1 _ _ b2 h1
  rw [h2]
  rfl
theorem keepB1 {w w' : World} {p : Addr} {v : Value} (hb : Below w.heap.size w w') (h : w.cell? p = some v) : w'.cell? p = some v := by
  rw [hb.cell (p := p) (block_lt_of_cell h)]; exact h
/-- What is left of a place that is told in a cell of the call's own. -/
theorem pend {w w' : World} {g : Nat} (a b : Value) (h : Below w.heap.size w w') (hg : w.heap.size ≤ g) : Below w.heap.size w ((w'.setCell ⟨g, 0, none⟩ a).setCell ⟨g, 1, none⟩ b) := (h.setCell (p := ⟨g, 0, none⟩) hg a).setCell (p := ⟨g, 1, none⟩) hg b
/-- What a call that tells a place leaves. -/
def PlEnd (w : World) (p : Nat × Int) (e : Ending) (w' : World) : Prop := e = .returned (.agg #[.int .u64 (p.1 : Int), .int .i64 p.2]) ∧ Below w.heap.size w w'

set_option maxRecDepth 100000 in
set_option maxHeartbeats 1600000 in
theorem infD (w : World) :
    Calls Tryd.prog 73 #[.agg #[.int .i64 53, .int .i64 (-1074), .int .i64 1024]] w fun e w' => e = .returned (.int .u64 9218868437227405312) ∧ Below w.heap.size w w' := by
  have hq : ∀ w, Calls Tryd.prog 77 #[.agg #[.int .i64 53, .int .i64 (-1074), .int .i64 1024], .int .u64 9007199254740992, .int .i64 971] w fun e w' => e = .returned (.int .u64 9218868437227405312) ∧ Below w.heap.size w w' := fun w => number_any 53 2045 9007199254740992 (-1074) 1024 w (by decide) (by decide) (by decide) (by decide) (by decide) (by decide)
  obtain ⟨W1, hW1⟩ : ∃ W1, W1 = w.alloc (.cells #[.int .i64 53, .int .i64 (-1074), .int .i64 1024] 53) := ⟨_, rfl⟩
  have hk : KCell W1 w.heap.size (.int .i64 53) (.int .i64 (-1074)) (.int .i64 1024) := by rw [hW1]; exact kcell_new _ rfl
  have hb1 : Below w.heap.size w W1 := by rw [hW1]; exact belowA w _
  have HW1 : Hid (W1 = w.alloc (.cells #[.int .i64 53, .int .i64 (-1074), .int .i64 1024] 53)) := hW1
  clear hW1
  go_enter Tryd.func73, Tryd.ntmps73
  go_wp2_with fail
  rw [← HW1.out]
  obtain ⟨g, hg⟩ : ∃ g, g = w.heap.size := ⟨_, rfl⟩
  rw [← hg] at hk ⊢
  have HG : Hid (g = w.heap.size) := hg
  obtain ⟨c0, c1, c2⟩ := hk.cells
  clear hk hg HW1
  go_region_held3 (fun w' => w'.cell? ⟨g, 0, none⟩ = some (.int .i64 53) ∧ w'.cell? ⟨g, 1, none⟩ = some (.int .i64 (-1074)) ∧ w'.cell? ⟨g, 2, none⟩ = some (.int .i64 1024)) (((try dsimp only); go_split_ands; refine ⟨?_, ?_, ?_⟩ <;> first | exact keepB1 (by with_reducible assumption) (by with_reducible assumption) | go_keep)) (first
    | (go_at_call 77; refine (hq _).mono ?_; rintro e w3 ⟨rfl, hb3⟩))
  all_goals
    have HE : Hid (Below w.heap.size w w3) := bstep (bstep hb1 (Below.refl _ _).drew) hb3
    clear hb1 hb3 c0 c1 c2
    go_wp2
    go_ret
    exact ⟨rfl, HE.out⟩

set_option maxRecDepth 100000 in
set_option maxHeartbeats 1600000 in
theorem beyondD (w : World) :
    Calls Tryd.prog 54 #[.agg #[.int .i64 53, .int .i64 (-1074), .int .i64 1024]] w fun e w' => PlEnd w (9218868437227405311, 3) e w' := by
  obtain ⟨W1, hW1⟩ : ∃ W1, W1 = (w.alloc (.cells #[.int .i64 53, .int .i64 (-1074), .int .i64 1024] 53)).alloc (.cells #[.int .u64 0, .int .i64 0] 62) := ⟨_, rfl⟩
  have hk : KCell W1 w.heap.size (.int .i64 53) (.int .i64 (-1074)) (.int .i64 1024) := by rw [hW1]; exact (kcell_new _ rfl).below (belowA _ _)
  have hp : PCell W1 (w.heap.size + 1) (.int .u64 0) (.int .i64 0) := by rw [hW1]; exact pcell_new _ (by simp)
  have hb1 : Below w.heap.size w W1 := by rw [hW1]; exact bstep (belowA w _) (belowA _ _)
  have HW1 : Hid (W1 = (w.alloc (.cells #[.int .i64 53, .int .i64 (-1074), .int .i64 1024] 53)).alloc (.cells #[.int .u64 0, .int .i64 0] 62)) := hW1
  clear hW1
  go_enter Tryd.func54, Tryd.ntmps54
  go_wp2_with fail
  rw [← HW1.out]
  obtain ⟨g, hg⟩ : ∃ g, g = w.heap.size := ⟨_, rfl⟩
  rw [← hg] at hk hp ⊢
  have HG : Hid (g = w.heap.size) := hg
  obtain ⟨c0, c1, c2⟩ := hk.cells
  clear hk hg HW1
  refine (infD _).mono ?_
  rintro e w2 ⟨rfl, hb2⟩
  replace hp := hp.below hb2
  have HE : Hid (PlEnd w (9218868437227405311, 3) (.returned (.agg #[.int .u64 9218868437227405311, .int .i64 3])) ((w2.setCell ⟨g + 1, 0, none⟩ (.int .u64 9218868437227405311)).setCell ⟨g + 1, 1, none⟩ (.int .i64 3))) := ⟨rfl, pend _ _ (bstep hb1 hb2) (by rw [HG.out]; omega)⟩
  have HW : Hid (PCell ((w2.setCell ⟨g + 1, 0, none⟩ (.int .u64 9218868437227405311)).setCell ⟨g + 1, 1, none⟩ (.int .i64 3)) (g + 1) (.int .u64 9218868437227405311) (.int .i64 3)) := hp.write _ _
  obtain ⟨y0, y1⟩ := hp.cells
  have f0 := hp.thaw 0
  have f1 := hp.thaw 1
  clear hp hb1 hb2 c0 c1 c2
  go_wp2_with fail
  (try simp only [Exit.inBlock, Exit.then])
  exact bodyPost_ret (results_cell_row rfl _ _ (g + 1) 62 _ (0, 0) _ rfl HW.out Tryd.underlying62 rfl (by kernel_rfl)) rfl HE.out

set_option maxRecDepth 100000 in
set_option maxHeartbeats 1600000 in
theorem kindD (w : World) :
    Calls Tryd.prog 21 #[] w fun e w' => e = .returned (.agg #[.int .i64 53, .int .i64 (-1074), .int .i64 1024]) ∧ Below w.heap.size w w' := by
  have HW : Hid (KCell (w.alloc (.cells #[.int .i64 53, .int .i64 (-1074), .int .i64 1024] 53)) w.heap.size (.int .i64 53) (.int .i64 (-1074)) (.int .i64 1024)) := kcell_new _ rfl
  go_enter Tryd.func21, Tryd.ntmps21
  go_wp2
  exact bodyPost_ret (results_cell_row rfl _ _ w.heap.size 53 _ (0, 0) _ rfl HW.out Tryd.underlying53 rfl (by kernel_rfl)) rfl ⟨rfl, belowA _ _⟩

set_option maxRecDepth 100000 in
set_option maxHeartbeats 1600000 in
theorem infS (w : World) :
    Calls Tryd.prog 73 #[.agg #[.int .i64 24, .int .i64 (-149), .int .i64 128]] w fun e w' => e = .returned (.int .u64 2139095040) ∧ Below w.heap.size w w' := by
  have hq : ∀ w, Calls Tryd.prog 77 #[.agg #[.int .i64 24, .int .i64 (-149), .int .i64 128], .int .u64 16777216, .int .i64 104] w fun e w' => e = .returned (.int .u64 2139095040) ∧ Below w.heap.size w w' := fun w => number_any 24 253 16777216 (-149) 128 w (by decide) (by decide) (by decide) (by decide) (by decide) (by decide)
  obtain ⟨W1, hW1⟩ : ∃ W1, W1 = w.alloc (.cells #[.int .i64 24, .int .i64 (-149), .int .i64 128] 53) := ⟨_, rfl⟩
  have hk : KCell W1 w.heap.size (.int .i64 24) (.int .i64 (-149)) (.int .i64 128) := by rw [hW1]; exact kcell_new _ rfl
  have hb1 : Below w.heap.size w W1 := by rw [hW1]; exact belowA w _
  have HW1 : Hid (W1 = w.alloc (.cells #[.int .i64 24, .int .i64 (-149), .int .i64 128] 53)) := hW1
  clear hW1
  go_enter Tryd.func73, Tryd.ntmps73
  go_wp2_with fail
  rw [← HW1.out]
  obtain ⟨g, hg⟩ : ∃ g, g = w.heap.size := ⟨_, rfl⟩
  rw [← hg] at hk ⊢
  have HG : Hid (g = w.heap.size) := hg
  obtain ⟨c0, c1, c2⟩ := hk.cells
  clear hk hg HW1
  go_region_held3 (fun w' => w'.cell? ⟨g, 0, none⟩ = some (.int .i64 24) ∧ w'.cell? ⟨g, 1, none⟩ = some (.int .i64 (-149)) ∧ w'.cell? ⟨g, 2, none⟩ = some (.int .i64 128)) (((try dsimp only); go_split_ands; refine ⟨?_, ?_, ?_⟩ <;> first | exact keepB1 (by with_reducible assumption) (by with_reducible assumption) | go_keep)) (first
    | (go_at_call 77; refine (hq _).mono ?_; rintro e w3 ⟨rfl, hb3⟩))
  all_goals
    have HE : Hid (Below w.heap.size w w3) := bstep (bstep hb1 (Below.refl _ _).drew) hb3
    clear hb1 hb3 c0 c1 c2
    go_wp2
    go_ret
    exact ⟨rfl, HE.out⟩

set_option maxRecDepth 100000 in
set_option maxHeartbeats 1600000 in
theorem beyondS (w : World) :
    Calls Tryd.prog 54 #[.agg #[.int .i64 24, .int .i64 (-149), .int .i64 128]] w fun e w' => PlEnd w (2139095039, 3) e w' := by
  obtain ⟨W1, hW1⟩ : ∃ W1, W1 = (w.alloc (.cells #[.int .i64 24, .int .i64 (-149), .int .i64 128] 53)).alloc (.cells #[.int .u64 0, .int .i64 0] 62) := ⟨_, rfl⟩
  have hk : KCell W1 w.heap.size (.int .i64 24) (.int .i64 (-149)) (.int .i64 128) := by rw [hW1]; exact (kcell_new _ rfl).below (belowA _ _)
  have hp : PCell W1 (w.heap.size + 1) (.int .u64 0) (.int .i64 0) := by rw [hW1]; exact pcell_new _ (by simp)
  have hb1 : Below w.heap.size w W1 := by rw [hW1]; exact bstep (belowA w _) (belowA _ _)
  have HW1 : Hid (W1 = (w.alloc (.cells #[.int .i64 24, .int .i64 (-149), .int .i64 128] 53)).alloc (.cells #[.int .u64 0, .int .i64 0] 62)) := hW1
  clear hW1
  go_enter Tryd.func54, Tryd.ntmps54
  go_wp2_with fail
  rw [← HW1.out]
  obtain ⟨g, hg⟩ : ∃ g, g = w.heap.size := ⟨_, rfl⟩
  rw [← hg] at hk hp ⊢
  have HG : Hid (g = w.heap.size) := hg
  obtain ⟨c0, c1, c2⟩ := hk.cells
  clear hk hg HW1
  refine (infS _).mono ?_
  rintro e w2 ⟨rfl, hb2⟩
  replace hp := hp.below hb2
  have HE : Hid (PlEnd w (2139095039, 3) (.returned (.agg #[.int .u64 2139095039, .int .i64 3])) ((w2.setCell ⟨g + 1, 0, none⟩ (.int .u64 2139095039)).setCell ⟨g + 1, 1, none⟩ (.int .i64 3))) := ⟨rfl, pend _ _ (bstep hb1 hb2) (by rw [HG.out]; omega)⟩
  have HW : Hid (PCell ((w2.setCell ⟨g + 1, 0, none⟩ (.int .u64 2139095039)).setCell ⟨g + 1, 1, none⟩ (.int .i64 3)) (g + 1) (.int .u64 2139095039) (.int .i64 3)) := hp.write _ _
  obtain ⟨y0, y1⟩ := hp.cells
  have f0 := hp.thaw 0
  have f1 := hp.thaw 1
  clear hp hb1 hb2 c0 c1 c2
  go_wp2_with fail
  (try simp only [Exit.inBlock, Exit.then])
  exact bodyPost_ret (results_cell_row rfl _ _ (g + 1) 62 _ (0, 0) _ rfl HW.out Tryd.underlying62 rfl (by kernel_rfl)) rfl HE.out

set_option maxRecDepth 100000 in
set_option maxHeartbeats 1600000 in
theorem kindS (w : World) :
    Calls Tryd.prog 36 #[] w fun e w' => e = .returned (.agg #[.int .i64 24, .int .i64 (-149), .int .i64 128]) ∧ Below w.heap.size w w' := by
  have HW : Hid (KCell (w.alloc (.cells #[.int .i64 24, .int .i64 (-149), .int .i64 128] 53)) w.heap.size (.int .i64 24) (.int .i64 (-149)) (.int .i64 128)) := kcell_new _ rfl
  go_enter Tryd.func36, Tryd.ntmps36
  go_wp2
  exact bodyPost_ret (results_cell_row rfl _ _ w.heap.size 53 _ (0, 0) _ rfl HW.out Tryd.underlying53 rfl (by kernel_rfl)) rfl ⟨rfl, belowA _ _⟩
end Go.Proofs.YtaekaikkldnikaaDoor

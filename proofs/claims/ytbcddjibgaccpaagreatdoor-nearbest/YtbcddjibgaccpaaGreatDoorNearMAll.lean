/-
  Proved here: what Order of package near and the plain way's Order answer, of floats of every kind.
  Proved here: what lead, share, under, sided and the nearest of package near answer.
  Proved here: what the kinds of floats of package near answer: infinity, beyond, doubles.
-/
import Derived.Test.YtbcddjibgaccpaaGreatDoorFloatMath
import Derived.Test.YtbcddjibgaccpaaGreatDoorChecked
import Derived.WalkLawsBesides
import Derived.WalkKit
import Derived.Laws.Externs
import Derived.Test.YtbcddjibgaccpaaGreatDoorNearKAll
import Derived.Test.YtbcddjibgaccpaaGreatDoorLate
import Derived.Deep.RegionHeld3
namespace Go.Proofs.YtbcddjibgaccpaaGreatDoor
open Go.RowKit

/-- A fact that the walk does not see. -/
structure HidF (p : Prop) : Prop where
  out : p

/-- How two data stand to each other, noughts alike. -/
def cmpD (d e : Ieee.Datum) : Int :=
  if d.isNaN then (if e.isNaN then 0 else -1) else if e.isNaN then 1 else
  match d.order e with
  | some .lt => -1
  | some .gt => 1
  | _ => 0

theorem ordD_eq {d e : Ieee.Datum} (h : ¬ (d.isZero = true ∧ e.isZero = true)) : cmpD d e = ordD d e := by
  unfold cmpD ordD
  by_cases h1 : d.isNaN = true
  · simp [h1]
  · by_cases h2 : e.isNaN = true
    · simp [h1, h2]
    · simp only [h1, h2]
      cases ho : d.order e with
      | none => cases d <;> cases e <;> simp_all [Ieee.Datum.order, Ieee.Datum.isNaN]
      | some o => cases o with
        | lt => rfl
        | gt => rfl
        | eq => simp [order_eq_neg ho h]

theorem ordD_zero {d e : Ieee.Datum} (h1 : d.isZero = true) (h2 : e.isZero = true) : ordD d e = if d.neg = e.neg then 0 else if d.neg then -1 else 1 := by
  unfold ordD
  have n1 : d.isNaN = false := by cases d <;> simp_all [Ieee.Datum.isZero, Ieee.Datum.isNaN]
  have n2 : e.isNaN = false := by cases e <;> simp_all [Ieee.Datum.isZero, Ieee.Datum.isNaN]
  rw [n1, n2]
  have ho : d.order e = some .eq := by
    cases d with
    | number s m i =>
      have hm : m = 0 := by unfold Ieee.Datum.isZero at h1; split at h1 <;> simp_all
      cases e with
      | number t n j =>
        have hn : n = 0 := by unfold Ieee.Datum.isZero at h2; split at h2 <;> simp_all
        subst hm; subst hn
        show some (compare (Ieee.signed s 0 _) (Ieee.signed t 0 _)) = some .eq
        rw [signed_val, signed_val]
        cases s <;> cases t <;> simp
      | infinity t => simp [Ieee.Datum.isZero] at h2
      | nan t u => simp [Ieee.Datum.isZero] at h2
    | infinity t => simp [Ieee.Datum.isZero] at h1
    | nan t u => simp [Ieee.Datum.isZero] at h1
  rw [ho]
  rfl

def ordI : Ordering → Int
  | .lt => -1
  | .eq => 0
  | .gt => 1
theorem cmpD_of {d e : Ieee.Datum} {q : Ordering} (h1 : d.isNaN = false) (h2 : e.isNaN = false) (h3 : d.order e = some q) : cmpD d e = ordI q := by
  unfold cmpD
  rw [h1, h2, h3]
  cases q <;> rfl

/-- The sign bit of a word. -/
def sgnb (b : Nat) : Bool := decide (2 ^ 63 ≤ b)

@[local go_sem] theorem run_f64bits (b : Nat) (w : World) : (callFunc 10 #[.float .f64 b]).run Tryz.prog w = .ok (.value (.int .u64 (b : Int))) w := by
  rw [run_callFunc_extern Tryz.func10 (by kernel_rfl) (by kernel_rfl) (by kernel_rfl) (e := Extern.MathFloatBits.float64bits) (by kernel_rfl)]
  rfl

end Go.Proofs.YtbcddjibgaccpaaGreatDoor

namespace Go.Proofs.YtbcddjibgaccpaaGreatDoor
open Go.RowKit

theorem bl_k {xs : List Nat} {k : Nat} (h : limbs xs) (hk : xs.length ≤ k) : bl (val xs) ≤ 32 * k := by
  by_cases h0 : val xs = 0
  · rw [h0, show bl 0 = 0 by decide]; omega
  · obtain ⟨m, e, h3, h4⟩ := bl_bounds h0
    have h5 := val_lt h
    have h6 : (4294967296 : Nat) ^ xs.length = 2 ^ (32 * xs.length) := by rw [Nat.pow_mul]
    rw [h6] at h5
    have := (Nat.pow_lt_pow_iff_right (by decide : 1 < 2)).1 (Nat.lt_of_le_of_lt h3 h5)
    omega

set_option maxRecDepth 100000 in
set_option maxHeartbeats 1600000 in
theorem lead_any (u v : Value) (xs ys : List Nat) (w : World) (hu : Num w u xs) (hv : Num w v ys) (lx : xs.length ≤ 8000) (ly : ys.length ≤ 8000) :
    Calls Tryz.prog 64 #[u, v] w fun e w' => e = .returned (.int .i64 (leadF (val xs) (val ys))) ∧ Below w.heap.size w w' := by
  have h1 := bl_k hu.1 lx
  have h2 := bl_k hv.1 ly
  have hle : ∀ g : Int, g = (bl (val xs) : Int) - (bl (val ys) : Int) → leadF (val xs) (val ys) = if up (val xs) (-g) < up (val ys) g then g - 1 else g := fun g e => by unfold leadF; rw [e]
  obtain ⟨g, hg⟩ : ∃ g : Int, g = (bl (val xs) : Int) - (bl (val ys) : Int) := ⟨_, rfl⟩
  have HLE : Hid (leadF (val xs) (val ys) = if up (val xs) (-g) < up (val ys) g then g - 1 else g) := hle g hg
  have b1 := fun w h => bits_any u xs w h (by omega)
  have b2 := fun w h => bits_any v ys w h (by omega)
  obtain ⟨p, hp⟩ : ∃ p, p = bl (val xs) := ⟨_, rfl⟩
  obtain ⟨q, hq⟩ : ∃ p, p = bl (val ys) := ⟨_, rfl⟩
  rw [← hp] at b1 hg h1
  rw [← hq] at b2 hg h2
  have hg' : (p : Int) - (q : Int) = g := hg.symm
  have hgb : -262144 ≤ g ∧ g ≤ 262144 := by omega
  clear hle hp hq hg
  go_enter Tryz.func64, Tryz.ntmps64
  go_wp2_with fail
  refine (b1 _ hu).mono ?_
  rintro e w1 ⟨rfl, rfl⟩
  go_wp2_with fail
  refine (b2 _ hv).mono ?_
  rintro e w1 ⟨rfl, rfl⟩
  clear b1 b2
  go_wp2_with fail
  refine (raised_any _ xs (-g) _ hu (by omega) (by omega) (by omega)).mono ?_
  rintro e w2 ⟨ao, al, ac, zs, rfl, na, va, _, b2⟩
  replace hv := hv.below (Nat.le_refl _) b2
  go_wp2_with fail
  refine (raised_any _ ys g _ hv (by omega) (by omega) (by omega)).mono ?_
  rintro e w3 ⟨bo, bl_, bc, ts, rfl, nb, vb, _, b3⟩
  replace na := na.below (Nat.le_refl _) b3
  have hbw := bstep b2 b3
  go_wp2_with fail
  refine (cmp_any _ _ _ _ _ na nb).mono ?_
  rw [va, vb]
  rintro e w4 ⟨rfl, k4, h4⟩
  replace hbw := bstep hbw (belowK h4)
  clear h4 na nb va vb b2 b3 hv hu
  by_cases hc : up (val xs) (-g) < up (val ys) g
  · rw [cmpN_lt hc]
    have HE : Hid (leadF (val xs) (val ys) = g - 1) := by show _ = _; rw [HLE.out, if_pos hc]
    have HB : Hid (Below w1.heap.size w1 w4) := hbw
    clear hc hbw HLE
    go_wp2
    go_ret
    exact ⟨by rw [HE.out]; rfl, HB.out⟩
  · have hcm : ¬ cmpN (up (val xs) (-g)) (up (val ys) g) < 0 := by
      rcases cmpN_cases (up (val xs) (-g)) (up (val ys) g) with ⟨h, e⟩ | ⟨h, e⟩ | ⟨h, e⟩ <;> rw [e] <;> omega
    have HE : Hid (leadF (val xs) (val ys) = g) := by show _ = _; rw [HLE.out, if_neg hc]
    generalize cmpN (up (val xs) (-g)) (up (val ys) g) = cm at *
    have HB : Hid (Below w1.heap.size w1 w4) := hbw
    clear hc hbw HLE
    go_wp2
    go_ret
    exact ⟨by rw [HE.out]; rfl, HB.out⟩

set_option maxRecDepth 100000 in
set_option maxHeartbeats 1600000 in
theorem share_any (u v : Value) (xs ys : List Nat) (w : World) (hu : Num w u xs) (hv : Num w v ys) (lx : xs.length ≤ 100000) :
    Calls Tryz.prog 68 #[u, v] w fun e w' => e = .returned (.int .i64 (shareF (val xs) (val ys))) ∧ Below w.heap.size w w' := by
  have b1 := fun w h => bits_any u xs w h (by omega)
  by_cases h0 : val xs = 0
  · have HE : Hid (shareF (val xs) (val ys) = 0) := if_pos h0
    rw [h0, show bl 0 = 0 from rfl] at b1
    rw [HE.out]
    clear h0 HE
    go_enter Tryz.func68, Tryz.ntmps68
    go_wp2_with fail
    refine (b1 _ hu).mono ?_
    rintro e w1 ⟨rfl, rfl⟩
    clear b1
    go_wp2
    go_ret
    exact ⟨rfl, Below.refl _ _⟩
  · have HE : Hid (shareF (val xs) (val ys) = 2 + cmpN (up (val xs) 1) (val ys)) := if_neg h0
    rw [HE.out]
    obtain ⟨p, hp⟩ : ∃ p, p = bl (val xs) := ⟨_, rfl⟩
    have hp0 : ((p : Int) == 0) = false := by
      obtain ⟨m, e, _, _⟩ := bl_bounds h0
      rw [hp, e]
      simp
      omega
    rw [← hp] at b1
    have hcr : -1 ≤ cmpN (up (val xs) 1) (val ys) ∧ cmpN (up (val xs) 1) (val ys) ≤ 1 := by
      rcases cmpN_cases (up (val xs) 1) (val ys) with ⟨h, e⟩ | ⟨h, e⟩ | ⟨h, e⟩ <;> rw [e] <;> omega
    obtain ⟨cm, hcm⟩ : ∃ c, cmpN (up (val xs) 1) (val ys) = c := ⟨_, rfl⟩
    rw [hcm] at hcr ⊢
    have HCM : Hid (cmpN (up (val xs) 1) (val ys) = cm) := hcm
    clear h0 HE hp hcm
    go_enter Tryz.func68, Tryz.ntmps68
    go_wp2_with fail
    refine (b1 _ hu).mono ?_
    rintro e w1 ⟨rfl, rfl⟩
    clear b1
    go_wp2_with fail
    refine (raised_any _ xs 1 _ hu (by omega) (by omega) (by omega)).mono ?_
    rintro e w2 ⟨ao, al, ac, zs, rfl, na, va, _, b2⟩
    replace hv := hv.below (Nat.le_refl _) b2
    go_wp2_with fail
    refine (cmp_any _ _ _ _ _ na hv).mono ?_
    rw [va, HCM.out]
    rintro e w4 ⟨rfl, k4, h4⟩
    have HB : Hid (Below w1.heap.size w1 w4) := bstep b2 (belowK h4)
    clear h4 na va b2 hv hu
    go_wp2
    go_ret
    exact ⟨rfl, HB.out⟩

set_option maxRecDepth 100000 in
set_option maxHeartbeats 1600000 in
theorem placeNearest_any (p : Nat) (q : Int) (w : World) (hp : p < 18446744073709551615) :
    Calls Tryz.prog 21 #[.agg #[.int .u64 (p : Int), .int .i64 q]] w fun e w' => e = .returned (.int .u64 (nearestF (p, q) : Nat)) ∧ Below w.heap.size w w' := by
  by_cases h3 : q = 3
  · have HE : Hid (nearestF (p, q) = p + 1) := if_pos (Or.inl h3)
    rw [HE.out]
    subst h3
    clear HE
    go_enter Tryz.func21, Tryz.ntmps21
    go_wp2
    go_ret
    exact ⟨rfl, belowA _ _⟩
  · have h3' : (q == 3) = false := by simpa using h3
    by_cases h2 : q = 2
    · by_cases h1 : p % 2 = 1
      · have HE : Hid (nearestF (p, q) = p + 1) := if_pos (Or.inr ⟨h2, h1⟩)
        rw [HE.out]
        have e1 : (p : Int) % 2 = 1 := by omega
        have e2 : (p : Int).tmod 2 = 1 := by rw [Int.tmod_eq_emod_of_nonneg (by omega)]; exact e1
        subst h2
        clear HE h1 h3 h3'
        go_enter Tryz.func21, Tryz.ntmps21
        go_wp2
        go_ret
        exact ⟨rfl, belowA _ _⟩
      · have HE : Hid (nearestF (p, q) = p) := if_neg (by rintro (h | h); exact h3 h; exact h1 h.2)
        rw [HE.out]
        have e1 : (p : Int) % 2 = 0 := by omega
        have e2 : (p : Int).tmod 2 = 0 := by rw [Int.tmod_eq_emod_of_nonneg (by omega)]; exact e1
        subst h2
        clear HE h1 h3 h3'
        go_enter Tryz.func21, Tryz.ntmps21
        go_wp2
        go_ret
        exact ⟨rfl, belowA _ _⟩
    · have h2' : (q == 2) = false := by simpa using h2
      have HE : Hid (nearestF (p, q) = p) := if_neg (by rintro (h | h); exact h3 h; exact h2 h.1)
      rw [HE.out]
      clear HE h3 h2
      go_enter Tryz.func21, Tryz.ntmps21
      go_wp2
      go_ret
      exact ⟨rfl, belowA _ _⟩
end Go.Proofs.YtbcddjibgaccpaaGreatDoor

namespace Go.Proofs.YtbcddjibgaccpaaGreatDoor
open Go.RowKit

/-- The three cells of a kind. -/
def KCell (w : World) (g : Nat) (a b c : Value) : Prop := w.heap[g]? = some (.cells #[a, b, c] 55 (0, 0))
theorem KCell.cells {w : World} {g : Nat} {a b c : Value} (h : KCell w g a b c) : w.cell? ⟨g, 0, none⟩ = some a ∧ w.cell? ⟨g, 1, none⟩ = some b ∧ w.cell? ⟨g, 2, none⟩ = some c := by
  simp only [World.cell?, KCell] at h ⊢
  rw [h]
  simp
theorem KCell.thaw {w : World} {g : Nat} {a b c : Value} (h : KCell w g a b c) (k : Nat) : w.frozen? ⟨g, k, none⟩ = false := frozen_of_row w g k _ _ h
theorem KCell.below {w w' : World} {g : Nat} {a b c : Value} (h : KCell w g a b c) (hb : Below w.heap.size w w') : KCell w' g a b c := by
  unfold KCell; rw [hb.block _ (Array.getElem?_eq_some_iff.1 h).1]; exact h
theorem kcell_new (w : World) {a b c : Value} {k : Nat} (hk : w.heap.size = k) : KCell (w.alloc (.cells #[a, b, c] 55)) k a b c := by subst hk; exact heap_alloc_new w _
/-- The two cells of a place. -/
def PCell (w : World) (g : Nat) (a b : Value) : Prop := w.heap[g]? = some (.cells #[a, b] 53 (0, 0))
theorem PCell.cells {w : World} {g : Nat} {a b : Value} (h : PCell w g a b) : w.cell? ⟨g, 0, none⟩ = some a ∧ w.cell? ⟨g, 1, none⟩ = some b := by
  simp only [World.cell?, PCell] at h ⊢
  rw [h]
  simp
theorem PCell.thaw {w : World} {g : Nat} {a b : Value} (h : PCell w g a b) (k : Nat) : w.frozen? ⟨g, k, none⟩ = false := frozen_of_row w g k _ _ h
theorem PCell.below {w w' : World} {g : Nat} {a b : Value} (h : PCell w g a b) (hb : Below w.heap.size w w') : PCell w' g a b := by
  unfold PCell; rw [hb.block _ (Array.getElem?_eq_some_iff.1 h).1]; exact h
theorem pcell_new (w : World) {a b : Value} {k : Nat} (hk : w.heap.size = k) : PCell (w.alloc (.cells #[a, b] 53)) k a b := by subst hk; exact heap_alloc_new w _
theorem PCell.write {w : World} {g : Nat} {a b : Value} (h : PCell w g a b) (a2 b2 : Value) : PCell ((w.setCell ⟨g, 0, none⟩ a2).setCell ⟨g, 1, none⟩ b2) g a2 b2 := by
  unfold PCell
  have h1 := heap_setCell_same w g 0 _ _ a2 h
  have h2 := heap_setCell_same _ g 1 _ _ b2 h1
  rw [h2]
  rfl
theorem keepB1 {w w' : World} {p : Addr} {v : Value} (hb : Below w.heap.size w w') (h : w.cell? p = some v) : w'.cell? p = some v := by
  rw [hb.cell (p := p) (block_lt_of_cell h)]; exact h
/-- What is left of a place that is told in a cell of the call's own. -/
theorem pend {w w' : World} {g : Nat} (a b : Value) (h : Below w.heap.size w w') (hg : w.heap.size ≤ g) : Below w.heap.size w ((w'.setCell ⟨g, 0, none⟩ a).setCell ⟨g, 1, none⟩ b) := (h.setCell (p := ⟨g, 0, none⟩) hg a).setCell (p := ⟨g, 1, none⟩) hg b
/-- What a call that tells a place leaves. -/
def PlEnd (w : World) (p : Nat × Int) (e : Ending) (w' : World) : Prop := e = .returned (.agg #[.int .u64 (p.1 : Int), .int .i64 p.2]) ∧ Below w.heap.size w w'

set_option maxRecDepth 100000 in
set_option maxHeartbeats 1600000 in
theorem infD (w : World) :
    Calls Tryz.prog 63 #[.agg #[.int .i64 53, .int .i64 (-1074), .int .i64 1024]] w fun e w' => e = .returned (.int .u64 9218868437227405312) ∧ Below w.heap.size w w' := by
  have hq : ∀ w, Calls Tryz.prog 67 #[.agg #[.int .i64 53, .int .i64 (-1074), .int .i64 1024], .int .u64 9007199254740992, .int .i64 971] w fun e w' => e = .returned (.int .u64 9218868437227405312) ∧ Below w.heap.size w w' := fun w => number_any 53 2045 9007199254740992 (-1074) 1024 w (by decide) (by decide) (by decide) (by decide) (by decide) (by decide)
  obtain ⟨W1, hW1⟩ : ∃ W1, W1 = w.alloc (.cells #[.int .i64 53, .int .i64 (-1074), .int .i64 1024] 55) := ⟨_, rfl⟩
  have hk : KCell W1 w.heap.size (.int .i64 53) (.int .i64 (-1074)) (.int .i64 1024) := by rw [hW1]; exact kcell_new _ rfl
  have hb1 : Below w.heap.size w W1 := by rw [hW1]; exact belowA w _
  have HW1 : Hid (W1 = w.alloc (.cells #[.int .i64 53, .int .i64 (-1074), .int .i64 1024] 55)) := hW1
  clear hW1
  go_enter Tryz.func63, Tryz.ntmps63
  go_wp2_with fail
  rw [← HW1.out]
  obtain ⟨g, hg⟩ : ∃ g, g = w.heap.size := ⟨_, rfl⟩
  rw [← hg] at hk ⊢
  have HG : Hid (g = w.heap.size) := hg
  obtain ⟨c0, c1, c2⟩ := hk.cells
  clear hk hg HW1
  go_region_held3 (fun w' => w'.cell? ⟨g, 0, none⟩ = some (.int .i64 53) ∧ w'.cell? ⟨g, 1, none⟩ = some (.int .i64 (-1074)) ∧ w'.cell? ⟨g, 2, none⟩ = some (.int .i64 1024)) (((try dsimp only); go_split_ands; refine ⟨?_, ?_, ?_⟩ <;> first | exact keepB1 (by with_reducible assumption) (by with_reducible assumption) | go_keep)) (first
    | (go_at_call 67; refine (hq _).mono ?_; rintro e w3 ⟨rfl, hb3⟩))
  all_goals
    have HE : Hid (Below w.heap.size w w3) := bstep (bstep hb1 (Below.refl _ _).drew) hb3
    clear hb1 hb3 c0 c1 c2
    go_wp2
    go_ret
    exact ⟨rfl, HE.out⟩

set_option maxRecDepth 100000 in
set_option maxHeartbeats 1600000 in
theorem beyondD (w : World) :
    Calls Tryz.prog 46 #[.agg #[.int .i64 53, .int .i64 (-1074), .int .i64 1024]] w fun e w' => PlEnd w (9218868437227405311, 3) e w' := by
  obtain ⟨W1, hW1⟩ : ∃ W1, W1 = (w.alloc (.cells #[.int .i64 53, .int .i64 (-1074), .int .i64 1024] 55)).alloc (.cells #[.int .u64 0, .int .i64 0] 53) := ⟨_, rfl⟩
  have hk : KCell W1 w.heap.size (.int .i64 53) (.int .i64 (-1074)) (.int .i64 1024) := by rw [hW1]; exact (kcell_new _ rfl).below (belowA _ _)
  have hp : PCell W1 (w.heap.size + 1) (.int .u64 0) (.int .i64 0) := by rw [hW1]; exact pcell_new _ (by simp)
  have hb1 : Below w.heap.size w W1 := by rw [hW1]; exact bstep (belowA w _) (belowA _ _)
  have HW1 : Hid (W1 = (w.alloc (.cells #[.int .i64 53, .int .i64 (-1074), .int .i64 1024] 55)).alloc (.cells #[.int .u64 0, .int .i64 0] 53)) := hW1
  clear hW1
  go_enter Tryz.func46, Tryz.ntmps46
  go_wp2_with fail
  rw [← HW1.out]
  obtain ⟨g, hg⟩ : ∃ g, g = w.heap.size := ⟨_, rfl⟩
  rw [← hg] at hk hp ⊢
  have HG : Hid (g = w.heap.size) := hg
  obtain ⟨c0, c1, c2⟩ := hk.cells
  clear hk hg HW1
  refine (infD _).mono ?_
  rintro e w2 ⟨rfl, hb2⟩
  replace hp := hp.below hb2
  have HE : Hid (PlEnd w (9218868437227405311, 3) (.returned (.agg #[.int .u64 9218868437227405311, .int .i64 3])) ((w2.setCell ⟨g + 1, 0, none⟩ (.int .u64 9218868437227405311)).setCell ⟨g + 1, 1, none⟩ (.int .i64 3))) := ⟨rfl, pend _ _ (bstep hb1 hb2) (by rw [HG.out]; omega)⟩
  have HW : Hid (PCell ((w2.setCell ⟨g + 1, 0, none⟩ (.int .u64 9218868437227405311)).setCell ⟨g + 1, 1, none⟩ (.int .i64 3)) (g + 1) (.int .u64 9218868437227405311) (.int .i64 3)) := hp.write _ _
  obtain ⟨y0, y1⟩ := hp.cells
  have f0 := hp.thaw 0
  have f1 := hp.thaw 1
  clear hp hb1 hb2 c0 c1 c2
  go_wp2_with fail
  (try simp only [Exit.inBlock, Exit.then])
  exact bodyPost_ret (results_cell_row rfl _ _ (g + 1) 53 _ (0, 0) _ rfl HW.out Tryz.underlying53 rfl (by kernel_rfl)) rfl HE.out

set_option maxRecDepth 100000 in
set_option maxHeartbeats 1600000 in
theorem kindD (w : World) :
    Calls Tryz.prog 19 #[] w fun e w' => e = .returned (.agg #[.int .i64 53, .int .i64 (-1074), .int .i64 1024]) ∧ Below w.heap.size w w' := by
  have HW : Hid (KCell (w.alloc (.cells #[.int .i64 53, .int .i64 (-1074), .int .i64 1024] 55)) w.heap.size (.int .i64 53) (.int .i64 (-1074)) (.int .i64 1024)) := kcell_new _ rfl
  go_enter Tryz.func19, Tryz.ntmps19
  go_wp2
  exact bodyPost_ret (results_cell_row rfl _ _ w.heap.size 55 _ (0, 0) _ rfl HW.out Tryz.underlying55 rfl (by kernel_rfl)) rfl ⟨rfl, belowA _ _⟩

set_option maxRecDepth 100000 in
set_option maxHeartbeats 1600000 in
theorem infS (w : World) :
    Calls Tryz.prog 63 #[.agg #[.int .i64 24, .int .i64 (-149), .int .i64 128]] w fun e w' => e = .returned (.int .u64 2139095040) ∧ Below w.heap.size w w' := by
  have hq : ∀ w, Calls Tryz.prog 67 #[.agg #[.int .i64 24, .int .i64 (-149), .int .i64 128], .int .u64 16777216, .int .i64 104] w fun e w' => e = .returned (.int .u64 2139095040) ∧ Below w.heap.size w w' := fun w => number_any 24 253 16777216 (-149) 128 w (by decide) (by decide) (by decide) (by decide) (by decide) (by decide)
  obtain ⟨W1, hW1⟩ : ∃ W1, W1 = w.alloc (.cells #[.int .i64 24, .int .i64 (-149), .int .i64 128] 55) := ⟨_, rfl⟩
  have hk : KCell W1 w.heap.size (.int .i64 24) (.int .i64 (-149)) (.int .i64 128) := by rw [hW1]; exact kcell_new _ rfl
  have hb1 : Below w.heap.size w W1 := by rw [hW1]; exact belowA w _
  have HW1 : Hid (W1 = w.alloc (.cells #[.int .i64 24, .int .i64 (-149), .int .i64 128] 55)) := hW1
  clear hW1
  go_enter Tryz.func63, Tryz.ntmps63
  go_wp2_with fail
  rw [← HW1.out]
  obtain ⟨g, hg⟩ : ∃ g, g = w.heap.size := ⟨_, rfl⟩
  rw [← hg] at hk ⊢
  have HG : Hid (g = w.heap.size) := hg
  obtain ⟨c0, c1, c2⟩ := hk.cells
  clear hk hg HW1
  go_region_held3 (fun w' => w'.cell? ⟨g, 0, none⟩ = some (.int .i64 24) ∧ w'.cell? ⟨g, 1, none⟩ = some (.int .i64 (-149)) ∧ w'.cell? ⟨g, 2, none⟩ = some (.int .i64 128)) (((try dsimp only); go_split_ands; refine ⟨?_, ?_, ?_⟩ <;> first | exact keepB1 (by with_reducible assumption) (by with_reducible assumption) | go_keep)) (first
    | (go_at_call 67; refine (hq _).mono ?_; rintro e w3 ⟨rfl, hb3⟩))
  all_goals
    have HE : Hid (Below w.heap.size w w3) := bstep (bstep hb1 (Below.refl _ _).drew) hb3
    clear hb1 hb3 c0 c1 c2
    go_wp2
    go_ret
    exact ⟨rfl, HE.out⟩

set_option maxRecDepth 100000 in
set_option maxHeartbeats 1600000 in
theorem beyondS (w : World) :
    Calls Tryz.prog 46 #[.agg #[.int .i64 24, .int .i64 (-149), .int .i64 128]] w fun e w' => PlEnd w (2139095039, 3) e w' := by
  obtain ⟨W1, hW1⟩ : ∃ W1, W1 = (w.alloc (.cells #[.int .i64 24, .int .i64 (-149), .int .i64 128] 55)).alloc (.cells #[.int .u64 0, .int .i64 0] 53) := ⟨_, rfl⟩
  have hk : KCell W1 w.heap.size (.int .i64 24) (.int .i64 (-149)) (.int .i64 128) := by rw [hW1]; exact (kcell_new _ rfl).below (belowA _ _)
  have hp : PCell W1 (w.heap.size + 1) (.int .u64 0) (.int .i64 0) := by rw [hW1]; exact pcell_new _ (by simp)
  have hb1 : Below w.heap.size w W1 := by rw [hW1]; exact bstep (belowA w _) (belowA _ _)
  have HW1 : Hid (W1 = (w.alloc (.cells #[.int .i64 24, .int .i64 (-149), .int .i64 128] 55)).alloc (.cells #[.int .u64 0, .int .i64 0] 53)) := hW1
  clear hW1
  go_enter Tryz.func46, Tryz.ntmps46
  go_wp2_with fail
  rw [← HW1.out]
  obtain ⟨g, hg⟩ : ∃ g, g = w.heap.size := ⟨_, rfl⟩
  rw [← hg] at hk hp ⊢
  have HG : Hid (g = w.heap.size) := hg
  obtain ⟨c0, c1, c2⟩ := hk.cells
  clear hk hg HW1
  refine (infS _).mono ?_
  rintro e w2 ⟨rfl, hb2⟩
  replace hp := hp.below hb2
  have HE : Hid (PlEnd w (2139095039, 3) (.returned (.agg #[.int .u64 2139095039, .int .i64 3])) ((w2.setCell ⟨g + 1, 0, none⟩ (.int .u64 2139095039)).setCell ⟨g + 1, 1, none⟩ (.int .i64 3))) := ⟨rfl, pend _ _ (bstep hb1 hb2) (by rw [HG.out]; omega)⟩
  have HW : Hid (PCell ((w2.setCell ⟨g + 1, 0, none⟩ (.int .u64 2139095039)).setCell ⟨g + 1, 1, none⟩ (.int .i64 3)) (g + 1) (.int .u64 2139095039) (.int .i64 3)) := hp.write _ _
  obtain ⟨y0, y1⟩ := hp.cells
  have f0 := hp.thaw 0
  have f1 := hp.thaw 1
  clear hp hb1 hb2 c0 c1 c2
  go_wp2_with fail
  (try simp only [Exit.inBlock, Exit.then])
  exact bodyPost_ret (results_cell_row rfl _ _ (g + 1) 53 _ (0, 0) _ rfl HW.out Tryz.underlying53 rfl (by kernel_rfl)) rfl HE.out

set_option maxRecDepth 100000 in
set_option maxHeartbeats 1600000 in
theorem kindS (w : World) :
    Calls Tryz.prog 24 #[] w fun e w' => e = .returned (.agg #[.int .i64 24, .int .i64 (-149), .int .i64 128]) ∧ Below w.heap.size w w' := by
  have HW : Hid (KCell (w.alloc (.cells #[.int .i64 24, .int .i64 (-149), .int .i64 128] 55)) w.heap.size (.int .i64 24) (.int .i64 (-149)) (.int .i64 128)) := kcell_new _ rfl
  go_enter Tryz.func24, Tryz.ntmps24
  go_wp2
  exact bodyPost_ret (results_cell_row rfl _ _ w.heap.size 55 _ (0, 0) _ rfl HW.out Tryz.underlying55 rfl (by kernel_rfl)) rfl ⟨rfl, belowA _ _⟩
end Go.Proofs.YtbcddjibgaccpaaGreatDoor

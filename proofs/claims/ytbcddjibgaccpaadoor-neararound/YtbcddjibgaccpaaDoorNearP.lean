/-
  Proved here: what Nearest of package near answers: the nearest float's bits.
-/
import Derived.Test.YtbcddjibgaccpaaDoorNearO
import Derived.Test.YtbcddjibgaccpaaDoorWholeX1
namespace Go.Proofs.YtbcddjibgaccpaaDoor
open Go.RowKit

/-- A float on the side of 0 that is told. -/
def sidedF (s : Bool) (b : Nat) : Nat := if s = true ∧ b ≠ 0 then 2 ^ 63 + b else b
theorem find_lt (N D : Nat) : (findF 53 (-1074) 1024 N D).1 < 9218868437227405312 := by
  unfold findF
  have hi : infF 53 (-1074) 1024 = 9218868437227405312 := by decide
  split
  · decide
  · split
    · rw [hi]; decide
    · split
      · decide
      · unfold divideF
        rw [hi]
        split
        · decide
        · show belowF _ _ _ _ < _
          omega
theorem nearestF_lt {p : Nat × Int} (h : p.1 < 9218868437227405312) : nearestF p ≤ 9218868437227405312 := by unfold nearestF; split <;> omega

theorem xor_top {b : Nat} (h : b < 2 ^ 63) : b ^^^ 2 ^ 63 = 2 ^ 63 + b := by
  apply Nat.eq_of_testBit_eq
  intro i
  rw [Nat.testBit_xor, Nat.testBit_two_pow]
  rcases Nat.lt_trichotomy i 63 with hi | hi | hi
  · rw [Nat.testBit_two_pow_add_gt hi, decide_eq_false (by omega), Bool.xor_false]
  · subst hi
    rw [Nat.testBit_two_pow_add_eq]
    simp
  · have h1 : b < 2 ^ i := Nat.lt_of_lt_of_le h (Nat.pow_le_pow_right (by decide) (by omega))
    have h2 : 2 ^ 63 + b < 2 ^ i := Nat.lt_of_lt_of_le (show 2 ^ 63 + b < 2 ^ 64 by omega) (Nat.pow_le_pow_right (by decide) (by omega))
    rw [Nat.testBit_lt_two_pow h1, Nat.testBit_lt_two_pow h2, decide_eq_false (by omega)]
    rfl

set_option maxRecDepth 100000 in
set_option maxHeartbeats 1600000 in
theorem sidedD (s : Int) (b : Nat) (w : World) (hb : b ≤ 9218868437227405312) :
    Calls Tryd.prog 17 #[.int .i64 s, .float .f64 b] w fun e w' => e = .returned (.float .f64 (sidedF (decide (s < 0)) b)) ∧ w' = w := by
  have hz : (FloatKind.f64.format.order b 0 != some .eq) = decide (b ≠ 0) := by
    have h1 : (FloatKind.f64.format.order b 0 == some .eq) = (Ieee.double.read b).isZero := order_nought _ _
    have h2 : (Ieee.double.read b).isZero = decide (b = 0) := by
      by_cases h0 : b = 0
      · subst h0; decide
      · rw [decide_eq_false h0]
        unfold Ieee.Format.read
        rw [dsw, dbin, dinf]
        have e1 : b % 2 ^ 63 = b := by omega
        dsimp only
        rw [e1]
        split
        · unfold Ieee.Datum.isZero
          split
          · rename_i h; injection h with _ h3 _; exact absurd h3 h0
          · rfl
        · split
          · unfold Ieee.Datum.isZero
            split
            · rename_i h; injection h with _ h3 _; omega
            · rfl
          · split <;> rfl
    show (!(FloatKind.f64.format.order b 0 == some .eq)) = _
    rw [h1, h2]
    by_cases h0 : b = 0 <;> simp [h0]
  by_cases hs : s < 0
  · by_cases h0 : b = 0
    · subst h0
      have HE : Hid (sidedF (decide (s < 0)) 0 = 0) := if_neg (by simp)
      have hz' : (FloatKind.f64.format.order 0 0 != some .eq) = false := hz
      clear hz
      rw [HE.out]
      clear HE
      go_enter Tryd.func17, Tryd.ntmps17
      go_wp2
      go_ret
      exact ⟨rfl, rfl⟩
    · have HE : Hid (sidedF (decide (s < 0)) b = 2 ^ 63 + b) := if_pos ⟨by simpa using hs, h0⟩
      rw [decide_eq_true h0] at hz
      rw [HE.out]
      have hneg : ∀ w, (Op.unary .neg (.float .f64 b)).run Tryd.prog w = .ok (.float .f64 (2 ^ 63 + b)) w := fun w => by
        rw [← xor_top (b := b) (by omega)]
        rfl
      clear HE
      go_enter Tryd.func17, Tryd.ntmps17
      go_wp2
      go_ret
      exact ⟨rfl, rfl⟩
  · have HE : Hid (sidedF (decide (s < 0)) b = b) := if_neg (by rintro ⟨h, _⟩; exact hs (by simpa using h))
    rw [HE.out]
    clear HE hz
    go_enter Tryd.func17, Tryd.ntmps17
    go_wp2
    go_ret
    exact ⟨rfl, rfl⟩

@[local go_sem] theorem run_f64from (b : Nat) (w : World) : (callFunc 19 #[.int .u64 (b : Int)]).run Tryd.prog w = .ok (.value (.float .f64 b)) w := by
  rw [run_callFunc_extern Tryd.func19 (by kernel_rfl) (by kernel_rfl) (by kernel_rfl) (e := Extern.MathFloatBits.float64frombits) (by kernel_rfl)]
  rfl

set_option maxRecDepth 100000 in
set_option maxHeartbeats 1600000 in
theorem sign_near (na : Bool) (po : Option Addr) (pl pc : Nat) (q : Value) (xs : List Nat) (w : World) (hu : Num w (.slice po pl pc) xs) (lx : xs.length ≤ 1000) :
    Calls Tryd.prog 18 #[.agg #[.bool na, .slice po pl pc, q]] w fun e w' => e = .returned (.int .i64 (cmpZ (zv na (val xs)) 0)) ∧ Below w.heap.size w w' := by
  obtain ⟨W1, hW1⟩ : ∃ W1, W1 = w.alloc (.cells #[.bool na, .slice po pl pc, q] 27) := ⟨_, rfl⟩
  have hb1 : Below w.heap.size w W1 := by rw [hW1]; exact belowA w _
  have hi : INum W1 (.agg #[.bool na, .slice po pl pc]) (zv na (val xs)) := ⟨na, po, pl, pc, xs, rfl, hu.below (Nat.le_refl _) hb1, by omega, rfl⟩
  have HW1 : Hid (W1 = w.alloc (.cells #[.bool na, .slice po pl pc, q] 27)) := hW1
  have hk : TCell W1 w.heap.size (.bool na) (.slice po pl pc) q := by rw [hW1]; exact tcell_new _ rfl
  have r0 : (w.alloc (.cells #[.bool na, .slice po pl pc, q] 27)).cell? ⟨w.heap.size, 0, none⟩ = some (.bool na) := by rw [← hW1]; exact hk.cells.1
  have r1 : (w.alloc (.cells #[.bool na, .slice po pl pc, q] 27)).cell? ⟨w.heap.size, 1, none⟩ = some (.slice po pl pc) := by rw [← hW1]; exact hk.cells.2.1
  clear hW1 hu hk
  have hq := c_sign hi
  obtain ⟨sg, hsg⟩ : ∃ s, s = cmpZ (zv na (val xs)) 0 := ⟨_, rfl⟩
  rw [← hsg] at hq ⊢
  clear hsg hi
  go_enter Tryd.func18, Tryd.ntmps18
  go_wp2_with fail
  rw [← HW1.out]
  refine hq.mono ?_
  rintro e w2 ⟨rfl, b⟩
  have HE : Hid (Below w.heap.size w w2) := bstep hb1 b
  clear hq b hb1 r0 r1 HW1
  go_wp2
  go_ret
  exact ⟨rfl, HE.out⟩

set_option maxRecDepth 100000 in
set_option maxHeartbeats 3200000 in
theorem nearest_any (na : Bool) (po qo : Option Addr) (pl pc ql qc : Nat) (xs ys : List Nat) (w : World) (hu : Num w (.slice po pl pc) xs) (hv : Num w (.slice qo ql qc) ys) (lx : xs.length ≤ 1000) (ly : ys.length ≤ 1000) :
    Calls Tryd.prog 7 #[.agg #[.bool na, .slice po pl pc, .slice qo ql qc]] w fun e w' => e = .returned (.float .f64 (sidedF (decide (cmpZ (zv na (val xs)) 0 < 0)) (nearestF (findF 53 (-1074) 1024 (val xs) (undN (val ys)))))) ∧ Below w.heap.size w w' := by
  have hfl := find_lt (val xs) (undN (val ys))
  have hfi := fun w h1 h2 => findD na po qo pl pc ql qc xs ys _ _ w h1 h2 lx ly rfl rfl
  have hsg := fun w h1 => sign_near na po pl pc (.slice qo ql qc) xs w h1 lx
  obtain ⟨sg, hs0⟩ : ∃ s, s = cmpZ (zv na (val xs)) 0 := ⟨_, rfl⟩
  obtain ⟨⟨fa, fb⟩, hf0⟩ : ∃ z, z = findF 53 (-1074) 1024 (val xs) (undN (val ys)) := ⟨_, rfl⟩
  rw [← hs0] at hsg ⊢
  rw [← hf0] at hfi hfl ⊢
  have hfl2 : fa < 9218868437227405312 := hfl
  have hnl := nearestF_lt (p := (fa, fb)) hfl
  have hnr := fun w => placeNearest_any fa fb w (by omega)
  obtain ⟨nr, hn0⟩ : ∃ n, n = nearestF (fa, fb) := ⟨_, rfl⟩
  rw [← hn0] at hnl hnr ⊢
  have hsd := fun w => sidedD sg nr w hnl
  obtain ⟨rs, hr0⟩ : ∃ r, r = sidedF (decide (sg < 0)) nr := ⟨_, rfl⟩
  rw [← hr0] at hsd ⊢
  clear hs0 hf0 hn0 hr0 hfl hnl
  obtain ⟨W1, hW1⟩ : ∃ W1, W1 = w.alloc (.cells #[.bool na, .slice po pl pc, .slice qo ql qc] 27) := ⟨_, rfl⟩
  have hk : TCell W1 w.heap.size (.bool na) (.slice po pl pc) (.slice qo ql qc) := by rw [hW1]; exact tcell_new _ rfl
  have hb1 : Below w.heap.size w W1 := by rw [hW1]; exact belowA w _
  have HW1 : Hid (W1 = w.alloc (.cells #[.bool na, .slice po pl pc, .slice qo ql qc] 27)) := hW1
  replace hu := hu.below (Nat.le_refl _) hb1
  replace hv := hv.below (Nat.le_refl _) hb1
  clear hW1
  go_enter Tryd.func7, Tryd.ntmps7
  go_wp2_with fail
  rw [← HW1.out]
  obtain ⟨g, hg⟩ : ∃ g, g = w.heap.size := ⟨_, rfl⟩
  rw [← hg] at hk ⊢
  obtain ⟨c0, c1, c2⟩ := hk.cells
  clear hg HW1 hk
  go_region_held3 (fun w' => w'.cell? ⟨g, 0, none⟩ = some (.bool na) ∧ w'.cell? ⟨g, 1, none⟩ = some (.slice po pl pc) ∧ w'.cell? ⟨g, 2, none⟩ = some (.slice qo ql qc)) (((try dsimp only); go_split_ands; refine ⟨?_, ?_, ?_⟩ <;> first | exact keepB1 (by with_reducible assumption) (by with_reducible assumption) | go_keep)) (first
    | (go_at_call 18; refine (hsg _ (hu.same (w' := W1.drew) rfl)).mono ?_; rintro e w2 ⟨rfl, hb2⟩)
    | (go_at_call 15; refine (kindD _).mono ?_; rintro e w3 ⟨rfl, hb3⟩)
    | (go_at_call 16; refine (hfi _ (((hu.same (w' := W1.drew) rfl).below (Nat.le_refl _) hb2).below (Nat.le_refl _) hb3) (((hv.same (w' := W1.drew) rfl).below (Nat.le_refl _) hb2).below (Nat.le_refl _) hb3)).mono ?_; rintro e w4 ⟨rfl, hb4⟩)
    | (go_at_call 21; refine (hnr _).mono ?_; rintro e w5 ⟨rfl, hb5⟩)
    | (go_at_call 17; refine (hsd _).mono ?_; rintro e w6 ⟨rfl, h6⟩; rw [h6]))
  all_goals
    have HE : Hid (Below w.heap.size w w5) := bstep (bstep (bstep (bstep (bstep hb1 (Below.refl _ _).drew) hb2) hb3) hb4) hb5
    clear hb1 hb2 hb3 hb4 hb5 c0 c1 c2 hu hv hsd hnr hfi hsg
    go_wp2
    go_ret
    exact ⟨rfl, HE.out⟩
end Go.Proofs.YtbcddjibgaccpaaDoor

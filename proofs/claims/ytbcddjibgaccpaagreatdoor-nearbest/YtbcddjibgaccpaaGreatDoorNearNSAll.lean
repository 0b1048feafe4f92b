/-
  Proved here: what Nearest of package near answers: the nearest float's bits.
  Proved here: what divide and find of package near answer: the place of a fraction's size among floats.
-/
import Derived.Test.YtbcddjibgaccpaaGreatDoorNearO
import Derived.Test.YtbcddjibgaccpaaGreatDoorWholeX1
import Derived.Test.YtbcddjibgaccpaaGreatDoorNearN
import Derived.Test.YtbcddjibgaccpaaGreatDoorUintAll
namespace Go.Proofs.YtbcddjibgaccpaaGreatDoor
open Go.RowKit

/-- A float on the side of 0 that is told. -/
def sidedF (s : Bool) (b : Nat) : Nat := if s = true ∧ b ≠ 0 then 2 ^ 63 + b else b
theorem find_lt (N D : Nat) : (findF 53 (-1074) 1024 N D).1 < 9218868437227405312 := by
  unfold findF
  have hi : infF 53 (-1074) 1024 = 9218868437227405312 := by decide
  split
  · decide
  · split
    · rw [hi]; decide
    · split
      · decide
      · unfold divideF
        rw [hi]
        split
        · decide
        · show belowF _ _ _ _ < _
          omega
theorem nearestF_lt {p : Nat × Int} (h : p.1 < 9218868437227405312) : nearestF p ≤ 9218868437227405312 := by unfold nearestF; split <;> omega

theorem xor_top {b : Nat} (h : b < 2 ^ 63) : b ^^^ 2 ^ 63 = 2 ^ 63 + b := by
  apply Nat.eq_of_testBit_eq
  intro i
  rw [Nat.testBit_xor, Nat.testBit_two_pow]
  rcases Nat.lt_trichotomy i 63 with hi | hi | hi
  · rw [Nat.testBit_two_pow_add_gt hi, decide_eq_false (by omega), Bool.xor_false]
  · subst hi
    rw [Nat.testBit_two_pow_add_eq]
    simp
  · have h1 : b < 2 ^ i := Nat.lt_of_lt_of_le h (Nat.pow_le_pow_right (by decide) (by omega))
    have h2 : 2 ^ 63 + b < 2 ^ i := Nat.lt_of_lt_of_le (show 2 ^ 63 + b < 2 ^ 64 by omega) (Nat.pow_le_pow_right (by decide) (by omega))
    rw [Nat.testBit_lt_two_pow h1, Nat.testBit_lt_two_pow h2, decide_eq_false (by omega)]
    rfl

set_option maxRecDepth 100000 in
set_option maxHeartbeats 1600000 in
theorem sidedD (s : Int) (b : Nat) (w : World) (hb : b ≤ 9218868437227405312) :
    Calls Tryz.prog 16 #[.int .i64 s, .float .f64 b] w fun e w' => e = .returned (.float .f64 (sidedF (decide (s < 0)) b)) ∧ w' = w := by
  have hz : (FloatKind.f64.format.order b 0 != some .eq) = decide (b ≠ 0) := by
    have h1 : (FloatKind.f64.format.order b 0 == some .eq) = (Ieee.double.read b).isZero := order_nought _ _
    have h2 : (Ieee.double.read b).isZero = decide (b = 0) := by
      by_cases h0 : b = 0
      · subst h0; decide
      · rw [decide_eq_false h0]
        unfold Ieee.Format.read
        rw [dsw, dbin, dinf]
        have e1 : b % 2 ^ 63 = b := by omega
        dsimp only
        rw [e1]
        split
        · unfold Ieee.Datum.isZero
          split
          · rename_i h; injection h with _ h3 _; exact absurd h3 h0
          · rfl
        · split
          · unfold Ieee.Datum.isZero
            split
            · rename_i h; injection h with _ h3 _; omega
            · rfl
          · split <;> rfl
    show (!(FloatKind.f64.format.order b 0 == some .eq)) = _
    rw [h1, h2]
    by_cases h0 : b = 0 <;> simp [h0]
  by_cases hs : s < 0
  · by_cases h0 : b = 0
    · subst h0
      have HE : Hid (sidedF (decide (s < 0)) 0 = 0) := if_neg (by simp)
      have hz' : (FloatKind.f64.format.order 0 0 != some .eq) = false := hz
      clear hz
      rw [HE.out]
      clear HE
      go_enter Tryz.func16, Tryz.ntmps16
      go_wp2
      go_ret
      exact ⟨rfl, rfl⟩
    · have HE : Hid (sidedF (decide (s < 0)) b = 2 ^ 63 + b) := if_pos ⟨by simpa using hs, h0⟩
      rw [decide_eq_true h0] at hz
      rw [HE.out]
      have hneg : ∀ w, (Op.unary .neg (.float .f64 b)).run Tryz.prog w = .ok (.float .f64 (2 ^ 63 + b)) w := fun w => by
        rw [← xor_top (b := b) (by omega)]
        rfl
      clear HE
      go_enter Tryz.func16, Tryz.ntmps16
      go_wp2
      go_ret
      exact ⟨rfl, rfl⟩
  · have HE : Hid (sidedF (decide (s < 0)) b = b) := if_neg (by rintro ⟨h, _⟩; exact hs (by simpa using h))
    rw [HE.out]
    clear HE hz
    go_enter Tryz.func16, Tryz.ntmps16
    go_wp2
    go_ret
    exact ⟨rfl, rfl⟩

@[local go_sem] theorem run_f64from (b : Nat) (w : World) : (callFunc 18 #[.int .u64 (b : Int)]).run Tryz.prog w = .ok (.value (.float .f64 b)) w := by
  rw [run_callFunc_extern Tryz.func18 (by kernel_rfl) (by kernel_rfl) (by kernel_rfl) (e := Extern.MathFloatBits.float64frombits) (by kernel_rfl)]
  rfl

set_option maxRecDepth 100000 in
set_option maxHeartbeats 1600000 in
theorem sign_near (na : Bool) (po : Option Addr) (pl pc : Nat) (q : Value) (xs : List Nat) (w : World) (hu : Num w (.slice po pl pc) xs) (lx : xs.length ≤ 1000) :
    Calls Tryz.prog 17 #[.agg #[.bool na, .slice po pl pc, q]] w fun e w' => e = .returned (.int .i64 (cmpZ (zv na (val xs)) 0)) ∧ Below w.heap.size w w' := by
  obtain ⟨W1, hW1⟩ : ∃ W1, W1 = w.alloc (.cells #[.bool na, .slice po pl pc, q] 27) := ⟨_, rfl⟩
  have hb1 : Below w.heap.size w W1 := by rw [hW1]; exact belowA w _
  have hi : INum W1 (.agg #[.bool na, .slice po pl pc]) (zv na (val xs)) := ⟨na, po, pl, pc, xs, rfl, hu.below (Nat.le_refl _) hb1, by omega, rfl⟩
  have HW1 : Hid (W1 = w.alloc (.cells #[.bool na, .slice po pl pc, q] 27)) := hW1
  have hk : TCell W1 w.heap.size (.bool na) (.slice po pl pc) q := by rw [hW1]; exact tcell_new _ rfl
  have r0 : (w.alloc (.cells #[.bool na, .slice po pl pc, q] 27)).cell? ⟨w.heap.size, 0, none⟩ = some (.bool na) := by rw [← hW1]; exact hk.cells.1
  have r1 : (w.alloc (.cells #[.bool na, .slice po pl pc, q] 27)).cell? ⟨w.heap.size, 1, none⟩ = some (.slice po pl pc) := by rw [← hW1]; exact hk.cells.2.1
  clear hW1 hu hk
  have hq := c_sign hi
  obtain ⟨sg, hsg⟩ : ∃ s, s = cmpZ (zv na (val xs)) 0 := ⟨_, rfl⟩
  rw [← hsg] at hq ⊢
  clear hsg hi
  go_enter Tryz.func17, Tryz.ntmps17
  go_wp2_with fail
  rw [← HW1.out]
  refine hq.mono ?_
  rintro e w2 ⟨rfl, b⟩
  have HE : Hid (Below w.heap.size w w2) := bstep hb1 b
  clear hq b hb1 r0 r1 HW1
  go_wp2
  go_ret
  exact ⟨rfl, HE.out⟩

set_option maxRecDepth 100000 in
set_option maxHeartbeats 3200000 in
theorem nearest_any (na : Bool) (po qo : Option Addr) (pl pc ql qc : Nat) (xs ys : List Nat) (w : World) (hu : Num w (.slice po pl pc) xs) (hv : Num w (.slice qo ql qc) ys) (lx : xs.length ≤ 1000) (ly : ys.length ≤ 1000) :
    Calls Tryz.prog 6 #[.agg #[.bool na, .slice po pl pc, .slice qo ql qc]] w fun e w' => e = .returned (.float .f64 (sidedF (decide (cmpZ (zv na (val xs)) 0 < 0)) (nearestF (findF 53 (-1074) 1024 (val xs) (undN (val ys)))))) ∧ Below w.heap.size w w' := by
  have hfl := find_lt (val xs) (undN (val ys))
  have hfi := fun w h1 h2 => findD na po qo pl pc ql qc xs ys _ _ w h1 h2 lx ly rfl rfl
  have hsg := fun w h1 => sign_near na po pl pc (.slice qo ql qc) xs w h1 lx
  obtain ⟨sg, hs0⟩ : ∃ s, s = cmpZ (zv na (val xs)) 0 := ⟨_, rfl⟩
  obtain ⟨⟨fa, fb⟩, hf0⟩ : ∃ z, z = findF 53 (-1074) 1024 (val xs) (undN (val ys)) := ⟨_, rfl⟩
  rw [← hs0] at hsg ⊢
  rw [← hf0] at hfi hfl ⊢
  have hfl2 : fa < 9218868437227405312 := hfl
  have hnl := nearestF_lt (p := (fa, fb)) hfl
  have hnr := fun w => placeNearest_any fa fb w (by omega)
  obtain ⟨nr, hn0⟩ : ∃ n, n = nearestF (fa, fb) := ⟨_, rfl⟩
  rw [← hn0] at hnl hnr ⊢
  have hsd := fun w => sidedD sg nr w hnl
  obtain ⟨rs, hr0⟩ : ∃ r, r = sidedF (decide (sg < 0)) nr := ⟨_, rfl⟩
  rw [← hr0] at hsd ⊢
  clear hs0 hf0 hn0 hr0 hfl hnl
  obtain ⟨W1, hW1⟩ : ∃ W1, W1 = w.alloc (.cells #[.bool na, .slice po pl pc, .slice qo ql qc] 27) := ⟨_, rfl⟩
  have hk : TCell W1 w.heap.size (.bool na) (.slice po pl pc) (.slice qo ql qc) := by rw [hW1]; exact tcell_new _ rfl
  have hb1 : Below w.heap.size w W1 := by rw [hW1]; exact belowA w _
  have HW1 : Hid (W1 = w.alloc (.cells #[.bool na, .slice po pl pc, .slice qo ql qc] 27)) := hW1
  replace hu := hu.below (Nat.le_refl _) hb1
  replace hv := hv.below (Nat.le_refl _) hb1
  clear hW1
  go_enter Tryz.func6, Tryz.ntmps6
  go_wp2_with fail
  rw [← HW1.out]
  obtain ⟨g, hg⟩ : ∃ g, g = w.heap.size := ⟨_, rfl⟩
  rw [← hg] at hk ⊢
  obtain ⟨c0, c1, c2⟩ := hk.cells
  clear hg HW1 hk
  go_region_held3 (fun w' => w'.cell? ⟨g, 0, none⟩ = some (.bool na) ∧ w'.cell? ⟨g, 1, none⟩ = some (.slice po pl pc) ∧ w'.cell? ⟨g, 2, none⟩ = some (.slice qo ql qc)) (((try dsimp only); go_split_ands; refine ⟨?_, ?_, ?_⟩ <;> first | exact keepB1 (by with_reducible assumption) (by with_reducible assumption) | go_keep)) (first
    | (go_at_call 17; refine (hsg _ (hu.same (w' := W1.drew) rfl)).mono ?_; rintro e w2 ⟨rfl, hb2⟩)
    | (go_at_call 19; refine (kindD _).mono ?_; rintro e w3 ⟨rfl, hb3⟩)
    | (go_at_call 20; refine (hfi _ (((hu.same (w' := W1.drew) rfl).below (Nat.le_refl _) hb2).below (Nat.le_refl _) hb3) (((hv.same (w' := W1.drew) rfl).below (Nat.le_refl _) hb2).below (Nat.le_refl _) hb3)).mono ?_; rintro e w4 ⟨rfl, hb4⟩)
    | (go_at_call 21; refine (hnr _).mono ?_; rintro e w5 ⟨rfl, hb5⟩)
    | (go_at_call 16; refine (hsd _).mono ?_; rintro e w6 ⟨rfl, h6⟩; rw [h6]))
  all_goals
    have HE : Hid (Below w.heap.size w w5) := bstep (bstep (bstep (bstep (bstep hb1 (Below.refl _ _).drew) hb2) hb3) hb4) hb5
    clear hb1 hb2 hb3 hb4 hb5 c0 c1 c2 hu hv hsd hnr hfi hsg
    go_wp2
    go_ret
    exact ⟨rfl, HE.out⟩
end Go.Proofs.YtbcddjibgaccpaaGreatDoor

namespace Go.Proofs.YtbcddjibgaccpaaGreatDoor
open Go.RowKit


set_option maxRecDepth 100000 in
set_option maxHeartbeats 3200000 in
theorem divideS (u v : Value) (xs ys : List Nat) (N D : Nat) (w : World) (hu : Num w u xs) (hv : Num w v ys) (hxv : val xs = N) (hyv : val ys = D) (lx : xs.length ≤ 1000) (ly : ys.length ≤ 1000) (hN : N ≠ 0) (hD : D ≠ 0) (hg1 : (bl N : Int) - bl D ≤ 128) (hg2 : (-149) - 1 ≤ (bl N : Int) - bl D) :
    Calls Tryz.prog 47 #[.agg #[.int .i64 24, .int .i64 (-149), .int .i64 128], u, v] w fun e w' => PlEnd w (divideF 24 (-149) 128 N D) e w' := by
  have hL1 := lead_le N D
  have hL2 := lead_ge N D
  have hle := fun w h1 h2 => lead_any u v xs ys w h1 h2 (by omega) (by omega)
  rw [hxv, hyv] at hle
  obtain ⟨L, hL⟩ : ∃ L, L = leadF N D := ⟨_, rfl⟩
  rw [← hL] at hle hL1 hL2
  obtain ⟨E, hE⟩ : ∃ E : Int, max (L + 1 - 24) (-149) = E := ⟨_, rfl⟩
  obtain ⟨L1, hL3⟩ : ∃ z : Int, L + 1 = z := ⟨_, rfl⟩
  obtain ⟨M, hM0⟩ : ∃ z : Int, L1 - 24 = z := ⟨_, rfl⟩
  obtain ⟨F0, hF⟩ : ∃ z : Int, -E = z := ⟨_, rfl⟩
  have HEX : Hid (expF 24 (-149) N D = E) := by show _ = _; unfold expF; rw [← hL, ← hE]; rfl
  obtain ⟨n, hn⟩ : ∃ n : Nat, E = (-149) + (n : Int) := ⟨(E - (-149)).toNat, by omega⟩
  have hnb : n ≤ 254 := by omega
  have HU : Hid (unitsF 24 (-149) N D < 16777216) := units_lt hN hD
  obtain ⟨U, hU⟩ : ∃ U, U = unitsF 24 (-149) N D := ⟨_, rfl⟩
  have hUb : U < 16777216 := by rw [hU]; exact HU.out
  have HUB : Hid (U < 16777216) := hUb
  have HUD : Hid (up N F0 / up D E = U) := by show _ = _; rw [hU]; unfold unitsF; rw [HEX.out, hF]
  have HRD : Hid (restF 24 (-149) N D = up N F0 % up D E) := by show _ = _; unfold restF; rw [HEX.out, hF]
  have HBE : Hid (belowF 24 (-149) N D = U + n * 2 ^ (24 - 1)) := by show _ = _; unfold belowF; rw [HEX.out, ← hU, hn, show ((-149) + (n : Int) - (-149)).toNat = n by omega]
  have hdz : up D E ≠ 0 := by have := up_pos hD E; omega
  have HDZ : Hid (up D E ≠ 0) := hdz
  have hnum : ∀ w, Calls Tryz.prog 67 #[.agg #[.int .i64 24, .int .i64 (-149), .int .i64 128], .int .u64 (U : Int), .int .i64 E] w fun e w' => e = .returned (.int .u64 ((U + n * 2 ^ (24 - 1) : Nat) : Int)) ∧ Below w.heap.size w w' := fun w => by rw [hn]; exact number_any 24 n U (-149) 128 w (by decide) (by decide) (by decide) (by decide) (by omega) (by omega)
  obtain ⟨B, hB⟩ : ∃ B, B = U + n * 2 ^ (24 - 1) := ⟨_, rfl⟩
  have hBb : B < 18446744073709551615 := by omega
  rw [← hB] at hnum HBE
  have HDV : Hid (divideF 24 (-149) 128 N D = if 2139095040 ≤ B then (2139095039, 3) else (B, shareF (up N F0 % up D E) (up D E))) := by
    show _ = _
    unfold divideF
    rw [HBE.out, HEX.out, HRD.out, show infF 24 (-149) 128 = 2139095040 by decide]
  have HEB : Hid (-262144 ≤ E ∧ E ≤ 262144 ∧ -262144 ≤ F0 ∧ F0 ≤ 262144) := by refine ⟨?_, ?_, ?_, ?_⟩ <;> omega
  have HXV : Hid (val xs = N) := hxv
  have HYV : Hid (val ys = D) := hyv
  have hLb : -100000 ≤ L ∧ L ≤ 100000 := by omega
  have hL4 : IntKind.i64.wrap L1 = L1 := by rw [IntKind.wrap_i64]; omega
  have hM1 : IntKind.i64.wrap M = M := by rw [IntKind.wrap_i64]; omega
  replace hE : E = max M (-149) := by omega
  clear hL hU hB hn hnb HBE HRD HEX HU hdz hN hD hg1 hg2 hL1 hL2 hxv hyv hUb
  by_cases hM : M < (-149)
  · obtain rfl : E = (-149) := by omega
    obtain rfl : F0 = 149 := by omega
    clear hE hF
    obtain ⟨W1, hW1⟩ : ∃ W1, W1 = (w.alloc (.cells #[.int .i64 24, .int .i64 (-149), .int .i64 128] 55)).alloc (.cells #[.int .u64 0, .int .i64 0] 53) := ⟨_, rfl⟩
    have hk : KCell W1 w.heap.size (.int .i64 24) (.int .i64 (-149)) (.int .i64 128) := by rw [hW1]; exact (kcell_new _ rfl).below (belowA _ _)
    have hp : PCell W1 (w.heap.size + 1) (.int .u64 0) (.int .i64 0) := by rw [hW1]; exact pcell_new _ (by simp)
    have hb1 : Below w.heap.size w W1 := by rw [hW1]; exact bstep (belowA w _) (belowA _ _)
    have HW1 : Hid (W1 = (w.alloc (.cells #[.int .i64 24, .int .i64 (-149), .int .i64 128] 55)).alloc (.cells #[.int .u64 0, .int .i64 0] 53)) := hW1
    replace hu := hu.below (Nat.le_refl _) hb1
    replace hv := hv.below (Nat.le_refl _) hb1
    clear hW1
    go_enter Tryz.func47, Tryz.ntmps47
    go_wp2_with fail
    rw [← HW1.out]
    obtain ⟨g, hg⟩ : ∃ g, g = w.heap.size := ⟨_, rfl⟩
    rw [← hg] at hk hp ⊢
    have HG : Hid (g = w.heap.size) := hg
    obtain ⟨c0, c1, c2⟩ := hk.cells
    clear hg HW1
    have HK : Hid (KCell W1 g (.int .i64 24) (.int .i64 (-149)) (.int .i64 128) ∧ PCell W1 (g + 1) (.int .u64 0) (.int .i64 0)) := ⟨hk, hp⟩
    clear hk hp
    go_region_held3 (fun w' => w'.cell? ⟨g, 0, none⟩ = some (.int .i64 24) ∧ w'.cell? ⟨g, 1, none⟩ = some (.int .i64 (-149))) (((try dsimp only); go_split_ands; refine ⟨?_, ?_⟩ <;> first | exact keepB1 (by with_reducible assumption) (by with_reducible assumption) | go_keep)) (first
      | (go_at_call 64; refine (hle _ (hu.same (w' := W1.drew) rfl) (hv.same (w' := W1.drew) rfl)).mono ?_; rintro e w3 ⟨rfl, hb3⟩))
    all_goals
      have b0 : Below W1.heap.size W1 w3 := bstep (Below.refl _ _).drew hb3
      have hk := HK.out.1.below b0
      have hp := HK.out.2.below b0
      replace hu := hu.below (Nat.le_refl _) b0
      replace hv := hv.below (Nat.le_refl _) b0
      have hbw := bstep hb1 b0
      clear b0 hb3 hb1 c0 c1 c2 HK hle
      go_wp2_with fail
      refine (raised_any _ ys (-149) _ hv (by omega) HEB.out.2.1 HEB.out.1).mono ?_
      rw [HYV.out]
      rintro e w4 ⟨do_, dl, dc, ds, rfl, nd, vd, ld, b⟩
      replace hu := hu.below (Nat.le_refl _) b
      replace hk := hk.below b
      replace hp := hp.below b
      replace hbw := bstep hbw b
      clear b hv
      go_wp2_with fail
      refine (raised_any _ xs 149 _ hu (by omega) HEB.out.2.2.2 HEB.out.2.2.1).mono ?_
      rw [HXV.out]
      rintro e w5 ⟨no, nl, nc, ns, rfl, nn, vn, ln, b⟩
      replace nd := nd.below (Nat.le_refl _) b
      replace hk := hk.below b
      replace hp := hp.below b
      replace hbw := bstep hbw b
      clear b hu
      go_wp2_with fail
      have hq := divMod_any _ _ _ _ w5 nn nd (by omega)
      rw [vn, vd] at hq
      refine hq.mono ?_
      rintro e w6 ⟨q, r, rfl, oq, or_, _, b⟩
      rw [HUD.out] at oq
      have hmz : modZ (up N 149) (up D (-149)) = up N 149 % up D (-149) := by unfold modZ; rw [if_neg HDZ.out]
      rw [hmz] at or_
      have hez : errZ (up D (-149)) = 0 := by unfold errZ; rw [if_neg HDZ.out]
      rw [hez]
      replace nd := nd.below (Nat.le_refl _) b
      replace hk := hk.below b
      replace hp := hp.below b
      replace hbw := bstep hbw b
      obtain ⟨qo, ql, qc, rfl⟩ := oq.sl
      obtain ⟨ro, rl, rc, rfl⟩ := or_.sl
      clear b hq hmz hez nn vn ln
      go_wp2_with fail
      refine (uint_yes _ _ _ oq.num (by rw [val_lim]; have := HUB.out; omega)).mono ?_
      rw [val_lim]
      rintro e w6 ⟨rfl, rfl⟩
      obtain ⟨c0, c1, c2⟩ := hk.cells
      clear oq
      go_wp2_with fail
      refine (hnum _).mono ?_
      rintro e w7 ⟨rfl, b⟩
      have nr := (or_.below b).num
      replace nd := nd.below (Nat.le_refl _) b
      replace hk := hk.below b
      replace hp := hp.below b
      replace hbw := bstep hbw b
      clear b or_ c0 c1 c2 hnum
      obtain ⟨c0, c1, c2⟩ := hk.cells
      go_wp2_with fail
      refine (infS _).mono ?_
      rintro e w8 ⟨rfl, b⟩
      replace nr := nr.below (Nat.le_refl _) b
      replace nd := nd.below (Nat.le_refl _) b
      replace hk := hk.below b
      replace hp := hp.below b
      replace hbw := bstep hbw b
      clear b c0 c1 c2
      obtain ⟨c0, c1, c2⟩ := hk.cells
      by_cases hc : 2139095040 ≤ B
      · have hc' : (2139095040 : Int) ≤ (B : Int) := by omega
        have HDV2 := HDV.out
        rw [if_pos hc] at HDV2
        clear HDV
        have HDV : Hid (divideF 24 (-149) 128 N D = (2139095039, 3)) := HDV2
        clear HDV2 hc nr nd
        go_wp2_with fail
        refine (beyondS _).mono ?_
        rintro e wz ⟨rfl, b⟩
        replace hp := hp.below b
        replace hbw := bstep hbw b
        clear b c0 c1 c2
        have HE : Hid (PlEnd w (divideF 24 (-149) 128 N D) (.returned (.agg #[.int .u64 2139095039, .int .i64 3])) ((wz.setCell ⟨g + 1, 0, none⟩ (.int .u64 2139095039)).setCell ⟨g + 1, 1, none⟩ (.int .i64 3))) := ⟨by rw [HDV.out]; (try rfl), pend _ _ hbw (by rw [HG.out]; omega)⟩
        have HW : Hid (PCell ((wz.setCell ⟨g + 1, 0, none⟩ (.int .u64 2139095039)).setCell ⟨g + 1, 1, none⟩ (.int .i64 3)) (g + 1) (.int .u64 2139095039) (.int .i64 3)) := hp.write _ _
        obtain ⟨y0, y1⟩ := hp.cells
        have f0 := hp.thaw 0
        have f1 := hp.thaw 1
        clear hp hk hbw
        go_wp2_with fail
        (try simp only [Exit.inBlock, Exit.then])
        exact bodyPost_ret (results_cell_row rfl _ _ (g + 1) 53 _ (0, 0) _ rfl HW.out Tryz.underlying53 rfl (by kernel_rfl)) rfl HE.out
      · have hc' : decide ((2139095040 : Int) ≤ (B : Int)) = false := decide_eq_false (by omega)
        have hc3 : decide (2139095040 ≤ B) = false := decide_eq_false hc
        have HDV2 := HDV.out
        rw [if_neg hc] at HDV2
        obtain ⟨S, hS⟩ : ∃ S, S = shareF (up N 149 % up D (-149)) (up D (-149)) := ⟨_, rfl⟩
        rw [← hS] at HDV2
        clear HDV
        have HDV : Hid (divideF 24 (-149) 128 N D = (B, S)) := HDV2
        have hsh := share_any _ _ _ _ w8 nr nd (Nat.le_trans (lim_le_len9 (Nat.le_of_lt (Nat.mod_lt _ (Nat.pos_of_ne_zero HDZ.out))) nd.1 vd ld) (by omega))
        rw [val_lim, vd, ← hS] at hsh
        clear HDV2 hS c0 c1 c2 hc
        go_wp2_with fail
        refine hsh.mono ?_
        rintro e wz ⟨rfl, b⟩
        replace hp := hp.below b
        replace hbw := bstep hbw b
        clear b hsh nr nd
        have HE : Hid (PlEnd w (divideF 24 (-149) 128 N D) (.returned (.agg #[.int .u64 (B : Int), .int .i64 S])) ((wz.setCell ⟨g + 1, 0, none⟩ (.int .u64 (B : Int))).setCell ⟨g + 1, 1, none⟩ (.int .i64 S))) := ⟨by rw [HDV.out]; (try rfl), pend _ _ hbw (by rw [HG.out]; omega)⟩
        have HW : Hid (PCell ((wz.setCell ⟨g + 1, 0, none⟩ (.int .u64 (B : Int))).setCell ⟨g + 1, 1, none⟩ (.int .i64 S)) (g + 1) (.int .u64 (B : Int)) (.int .i64 S)) := hp.write _ _
        obtain ⟨y0, y1⟩ := hp.cells
        have f0 := hp.thaw 0
        have f1 := hp.thaw 1
        clear hp hk hbw
        go_wp2_with fail
        (try simp only [Exit.inBlock, Exit.then])
        exact bodyPost_ret (results_cell_row rfl _ _ (g + 1) 53 _ (0, 0) _ rfl HW.out Tryz.underlying53 rfl (by kernel_rfl)) rfl HE.out
  · have hM2 : (-149) ≤ M := by omega
    obtain rfl : E = M := by omega
    clear hE
    obtain ⟨W1, hW1⟩ : ∃ W1, W1 = (w.alloc (.cells #[.int .i64 24, .int .i64 (-149), .int .i64 128] 55)).alloc (.cells #[.int .u64 0, .int .i64 0] 53) := ⟨_, rfl⟩
    have hk : KCell W1 w.heap.size (.int .i64 24) (.int .i64 (-149)) (.int .i64 128) := by rw [hW1]; exact (kcell_new _ rfl).below (belowA _ _)
    have hp : PCell W1 (w.heap.size + 1) (.int .u64 0) (.int .i64 0) := by rw [hW1]; exact pcell_new _ (by simp)
    have hb1 : Below w.heap.size w W1 := by rw [hW1]; exact bstep (belowA w _) (belowA _ _)
    have HW1 : Hid (W1 = (w.alloc (.cells #[.int .i64 24, .int .i64 (-149), .int .i64 128] 55)).alloc (.cells #[.int .u64 0, .int .i64 0] 53)) := hW1
    replace hu := hu.below (Nat.le_refl _) hb1
    replace hv := hv.below (Nat.le_refl _) hb1
    clear hW1
    go_enter Tryz.func47, Tryz.ntmps47
    go_wp2_with fail
    rw [← HW1.out]
    obtain ⟨g, hg⟩ : ∃ g, g = w.heap.size := ⟨_, rfl⟩
    rw [← hg] at hk hp ⊢
    have HG : Hid (g = w.heap.size) := hg
    obtain ⟨c0, c1, c2⟩ := hk.cells
    clear hg HW1
    have HK : Hid (KCell W1 g (.int .i64 24) (.int .i64 (-149)) (.int .i64 128) ∧ PCell W1 (g + 1) (.int .u64 0) (.int .i64 0)) := ⟨hk, hp⟩
    clear hk hp
    go_region_held3 (fun w' => w'.cell? ⟨g, 0, none⟩ = some (.int .i64 24) ∧ w'.cell? ⟨g, 1, none⟩ = some (.int .i64 (-149))) (((try dsimp only); go_split_ands; refine ⟨?_, ?_⟩ <;> first | exact keepB1 (by with_reducible assumption) (by with_reducible assumption) | go_keep)) (first
      | (go_at_call 64; refine (hle _ (hu.same (w' := W1.drew) rfl) (hv.same (w' := W1.drew) rfl)).mono ?_; rintro e w3 ⟨rfl, hb3⟩))
    all_goals
      have b0 : Below W1.heap.size W1 w3 := bstep (Below.refl _ _).drew hb3
      have hk := HK.out.1.below b0
      have hp := HK.out.2.below b0
      replace hu := hu.below (Nat.le_refl _) b0
      replace hv := hv.below (Nat.le_refl _) b0
      have hbw := bstep hb1 b0
      clear b0 hb3 hb1 c0 c1 c2 HK hle
      go_wp2_with fail
      refine (raised_any _ ys E _ hv (by omega) HEB.out.2.1 HEB.out.1).mono ?_
      rw [HYV.out]
      rintro e w4 ⟨do_, dl, dc, ds, rfl, nd, vd, ld, b⟩
      replace hu := hu.below (Nat.le_refl _) b
      replace hk := hk.below b
      replace hp := hp.below b
      replace hbw := bstep hbw b
      clear b hv
      go_wp2_with fail
      refine (raised_any _ xs F0 _ hu (by omega) HEB.out.2.2.2 HEB.out.2.2.1).mono ?_
      rw [HXV.out]
      rintro e w5 ⟨no, nl, nc, ns, rfl, nn, vn, ln, b⟩
      replace nd := nd.below (Nat.le_refl _) b
      replace hk := hk.below b
      replace hp := hp.below b
      replace hbw := bstep hbw b
      clear b hu
      go_wp2_with fail
      have hq := divMod_any _ _ _ _ w5 nn nd (by omega)
      rw [vn, vd] at hq
      refine hq.mono ?_
      rintro e w6 ⟨q, r, rfl, oq, or_, _, b⟩
      rw [HUD.out] at oq
      have hmz : modZ (up N F0) (up D E) = up N F0 % up D E := by unfold modZ; rw [if_neg HDZ.out]
      rw [hmz] at or_
      have hez : errZ (up D E) = 0 := by unfold errZ; rw [if_neg HDZ.out]
      rw [hez]
      replace nd := nd.below (Nat.le_refl _) b
      replace hk := hk.below b
      replace hp := hp.below b
      replace hbw := bstep hbw b
      obtain ⟨qo, ql, qc, rfl⟩ := oq.sl
      obtain ⟨ro, rl, rc, rfl⟩ := or_.sl
      clear b hq hmz hez nn vn ln
      go_wp2_with fail
      refine (uint_yes _ _ _ oq.num (by rw [val_lim]; have := HUB.out; omega)).mono ?_
      rw [val_lim]
      rintro e w6 ⟨rfl, rfl⟩
      obtain ⟨c0, c1, c2⟩ := hk.cells
      clear oq
      go_wp2_with fail
      refine (hnum _).mono ?_
      rintro e w7 ⟨rfl, b⟩
      have nr := (or_.below b).num
      replace nd := nd.below (Nat.le_refl _) b
      replace hk := hk.below b
      replace hp := hp.below b
      replace hbw := bstep hbw b
      clear b or_ c0 c1 c2 hnum
      obtain ⟨c0, c1, c2⟩ := hk.cells
      go_wp2_with fail
      refine (infS _).mono ?_
      rintro e w8 ⟨rfl, b⟩
      replace nr := nr.below (Nat.le_refl _) b
      replace nd := nd.below (Nat.le_refl _) b
      replace hk := hk.below b
      replace hp := hp.below b
      replace hbw := bstep hbw b
      clear b c0 c1 c2
      obtain ⟨c0, c1, c2⟩ := hk.cells
      by_cases hc : 2139095040 ≤ B
      · have hc' : (2139095040 : Int) ≤ (B : Int) := by omega
        have HDV2 := HDV.out
        rw [if_pos hc] at HDV2
        clear HDV
        have HDV : Hid (divideF 24 (-149) 128 N D = (2139095039, 3)) := HDV2
        clear HDV2 hc nr nd
        go_wp2_with fail
        refine (beyondS _).mono ?_
        rintro e wz ⟨rfl, b⟩
        replace hp := hp.below b
        replace hbw := bstep hbw b
        clear b c0 c1 c2
        have HE : Hid (PlEnd w (divideF 24 (-149) 128 N D) (.returned (.agg #[.int .u64 2139095039, .int .i64 3])) ((wz.setCell ⟨g + 1, 0, none⟩ (.int .u64 2139095039)).setCell ⟨g + 1, 1, none⟩ (.int .i64 3))) := ⟨by rw [HDV.out]; (try rfl), pend _ _ hbw (by rw [HG.out]; omega)⟩
        have HW : Hid (PCell ((wz.setCell ⟨g + 1, 0, none⟩ (.int .u64 2139095039)).setCell ⟨g + 1, 1, none⟩ (.int .i64 3)) (g + 1) (.int .u64 2139095039) (.int .i64 3)) := hp.write _ _
        obtain ⟨y0, y1⟩ := hp.cells
        have f0 := hp.thaw 0
        have f1 := hp.thaw 1
        clear hp hk hbw
        go_wp2_with fail
        (try simp only [Exit.inBlock, Exit.then])
        exact bodyPost_ret (results_cell_row rfl _ _ (g + 1) 53 _ (0, 0) _ rfl HW.out Tryz.underlying53 rfl (by kernel_rfl)) rfl HE.out
      · have hc' : decide ((2139095040 : Int) ≤ (B : Int)) = false := decide_eq_false (by omega)
        have hc3 : decide (2139095040 ≤ B) = false := decide_eq_false hc
        have HDV2 := HDV.out
        rw [if_neg hc] at HDV2
        obtain ⟨S, hS⟩ : ∃ S, S = shareF (up N F0 % up D E) (up D E) := ⟨_, rfl⟩
        rw [← hS] at HDV2
        clear HDV
        have HDV : Hid (divideF 24 (-149) 128 N D = (B, S)) := HDV2
        have hsh := share_any _ _ _ _ w8 nr nd (Nat.le_trans (lim_le_len9 (Nat.le_of_lt (Nat.mod_lt _ (Nat.pos_of_ne_zero HDZ.out))) nd.1 vd ld) (by omega))
        rw [val_lim, vd, ← hS] at hsh
        clear HDV2 hS c0 c1 c2 hc
        go_wp2_with fail
        refine hsh.mono ?_
        rintro e wz ⟨rfl, b⟩
        replace hp := hp.below b
        replace hbw := bstep hbw b
        clear b hsh nr nd
        have HE : Hid (PlEnd w (divideF 24 (-149) 128 N D) (.returned (.agg #[.int .u64 (B : Int), .int .i64 S])) ((wz.setCell ⟨g + 1, 0, none⟩ (.int .u64 (B : Int))).setCell ⟨g + 1, 1, none⟩ (.int .i64 S))) := ⟨by rw [HDV.out]; (try rfl), pend _ _ hbw (by rw [HG.out]; omega)⟩
        have HW : Hid (PCell ((wz.setCell ⟨g + 1, 0, none⟩ (.int .u64 (B : Int))).setCell ⟨g + 1, 1, none⟩ (.int .i64 S)) (g + 1) (.int .u64 (B : Int)) (.int .i64 S)) := hp.write _ _
        obtain ⟨y0, y1⟩ := hp.cells
        have f0 := hp.thaw 0
        have f1 := hp.thaw 1
        clear hp hk hbw
        go_wp2_with fail
        (try simp only [Exit.inBlock, Exit.then])
        exact bodyPost_ret (results_cell_row rfl _ _ (g + 1) 53 _ (0, 0) _ rfl HW.out Tryz.underlying53 rfl (by kernel_rfl)) rfl HE.out
end Go.Proofs.YtbcddjibgaccpaaGreatDoor

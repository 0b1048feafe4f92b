/-
  Proved here: what the document's own at, blank and digits of layer 6 answer.
  Proved here: what number of package lex answers.
-/
import Derived.Test.YtlemnbegblpllaaDoorLexO
import Derived.Test.YtlemnbegblpllaaDoorLexH
namespace Go.Proofs.YtlemnbegblpllaaDoor
open Go.RowKit

set_option maxRecDepth 100000 in
set_option maxHeartbeats 1600000 in
theorem atR_any (s : ByteArray) (i : Nat) (w : World) :
    Calls Tryd.prog 47 #[.string s, .int .i64 (i : Int)] w fun e w' => e = .returned (.int .u8 (atB s i : Nat)) ∧ w' = w := by
  have g0 : ¬ (i : Int) < 0 := by omega
  by_cases h : i < s.size
  · have g1 : ¬ (s.size : Int) ≤ (i : Int) := by omega
    have g2 : (i : Int) < (s.size : Int) := by omega
    have HE : Hid (s[i].toNat = atB s i) := by show _ = _; unfold atB; rw [dif_pos h]; rfl
    go_enter Tryd.func47, Tryd.ntmps47
    go_wp2
    go_ret
    exact ⟨by rw [← HE.out]; rfl, rfl⟩
  · have g1 : (s.size : Int) ≤ (i : Int) := by omega
    rw [atB_out h]
    clear h
    go_enter Tryd.func47, Tryd.ntmps47
    go_wp2
    go_ret
    exact ⟨rfl, rfl⟩
set_option maxRecDepth 100000 in
set_option maxHeartbeats 1600000 in
theorem blankR_any (b : Nat) (w : World) :
    Calls Tryd.prog 64 #[.int .u8 (b : Int)] w fun e w' => e = .returned (.bool (kd b == 1)) ∧ w' = w := by
  by_cases h : b = 32 ∨ b = 9 ∨ b = 10 ∨ b = 13
  · have HE : Hid ((kd b == 1) = true) := by show _ = _; unfold kd; rw [if_pos h]; rfl
    rw [HE.out]
    clear HE
    rcases h with rfl | rfl | rfl | rfl
    all_goals
      go_enter Tryd.func64, Tryd.ntmps64
      go_wp2
      go_ret
      exact ⟨rfl, rfl⟩
  · have HE : Hid ((kd b == 1) = false) := by
      show _ = _
      unfold kd
      rw [if_neg h]
      repeat' split
      all_goals rfl
    have x1 : ((b : Int) == 32) = false := ne_beq (by omega)
    have x2 : ((b : Int) == 9) = false := ne_beq (by omega)
    have x3 : ((b : Int) == 10) = false := ne_beq (by omega)
    have x4 : ((b : Int) == 13) = false := ne_beq (by omega)
    rw [HE.out]
    clear h
    go_enter Tryd.func64, Tryd.ntmps64
    go_wp2
    go_ret
    exact ⟨rfl, rfl⟩
set_option maxRecDepth 100000 in
set_option maxHeartbeats 1600000 in
theorem digitsR_any (s : ByteArray) (i : Nat) (w : World) (hs : s.size < 4611686018427387904) (hi : i ≤ s.size) :
    Calls Tryd.prog 65 #[.string s, .int .i64 (i : Int)] w fun e w' => e = .returned (.int .i64 (runEnd isD s i - i : Nat)) ∧ w' = w := by
  obtain ⟨r, hr⟩ : ∃ r, r = runEnd isD s i := ⟨_, rfl⟩
  rw [← hr]
  go_enter Tryd.func65, Tryd.ntmps65
  go_wp2_with fail
  go_loopw [5] (fun t wr => ∃ k : Nat, i + k ≤ s.size ∧ t = .int .i64 k ∧ runEnd isD s (i + k) = r ∧ wr = w) (fun t _ => s.size - (intOf t).toNat)
  case atStart => exact ⟨0, hi, rfl, hr.symm, rfl⟩
  case round =>
    clear hr hi
    obtain ⟨k, hk, rfl, hkr, hw⟩ := hrel
    obtain rfl : w = wr := hw.symm
    by_cases hlt : i + k < s.size
    · have hge : (i : Int) + (k : Int) < (s.size : Int) := by omega
      have hb : s[i + k].toNat = atB s (i + k) := by unfold atB; rw [dif_pos hlt]; rfl
      have hdi := fun w => digit_any (s[i + k].toNat) w
      have hyes : isD (atB s (i + k)) = true → runEnd isD s (i + k + 1) = r := fun h => by rw [← runEnd_yes hlt h]; exact hkr
      have hno : isD (atB s (i + k)) = false → i + k = r := fun h => by rw [← hkr, runEnd_no (by rw [h]; simp)]
      rw [← hb] at hyes hno
      clear hb hkr
      generalize isD s[i + k].toNat = di at *
      go_wp2_with fail
      refine (hdi _).mono ?_
      rintro e w2 ⟨rfl, rfl⟩
      clear hdi
      cases di with
      | true =>
        have HR : Hid (runEnd isD s (i + k + 1) = r) := hyes rfl
        clear hyes hno
        go_wp2
        go_roundw
        case rel => exact ⟨k + 1, by omega, by go_num, HR.out, by first | trivial | rfl⟩
        case measure => simp [intOf]; omega
      | false =>
        have HR : Hid (i + k = r) := hno rfl
        clear hyes hno
        go_wp2
        go_ret
        exact ⟨by rw [← HR.out, Nat.add_sub_cancel_left]; rfl, by first | trivial | rfl⟩
    · have hge : ¬ (i : Int) + (k : Int) < (s.size : Int) := by omega
      have HR : Hid (i + k = r) := by
        show _ = _
        rw [← hkr, runEnd_no (by omega)]
      clear hkr hlt
      go_wp2
      go_ret
      exact ⟨by rw [← HR.out, Nat.add_sub_cancel_left]; rfl, by first | trivial | rfl⟩
end Go.Proofs.YtlemnbegblpllaaDoor

namespace Go.Proofs.YtlemnbegblpllaaDoor
open Go.RowKit

set_option maxRecDepth 100000 in
set_option maxHeartbeats 3200000 in
theorem number_any (g : Nat) (s : ByteArray) (i : Nat) (w : World) (h : RdC w g s i) (hi : i ≤ s.size) (hz : s.size ≤ 281474976710656) :
    Calls Tryd.prog 41 #[.pointer (some ⟨g, 0, none⟩)] w fun e w' => ∃ v, e = .returned v ∧ NxEnd w g s (numOut s i) v w' := by
  obtain ⟨o, ho⟩ : ∃ o, o = numOut s i := ⟨_, rfl⟩
  rw [← ho]
  unfold numOut at ho
  obtain ⟨q1, q2, q3, q4, q5⟩ := num_facts s i hi
  have hle := le_runEnd isW s (numEnd s i).2
  have hsz := runEnd_size isW s q3
  have hdg := fun w => digitsEnd_any s i w (by omega) hi
  have hpt := fun w => pointEnd_any s (runEnd isD s i) w (by omega)
  have hex := fun w => exponent_any s (ptEnd s (runEnd isD s i)) w (by omega)
  have hex2 : xpo s (ptEnd s (runEnd isD s i)) = numEnd s i := rfl
  rw [hex2] at hex
  have hwd := fun w => wordEnd_any s (numEnd s i).2 w (by omega) q3
  have hsl := slice_str s (numEnd s i).1 (numEnd s i).2 ((numEnd s i).1 : Int) ((numEnd s i).2 : Int) rfl rfl q2 q3
  have hfa := fun w => isFar_any (s.extract (numEnd s i).1 (numEnd s i).2) w (by rw [ByteArray.size_extract]; omega) (by
    intro k hk
    rw [ByteArray.size_extract] at hk
    obtain ⟨c, hc⟩ := Nat.exists_eq_add_of_le q2
    rw [hc, atB_extract (by omega) (by omega)]
    exact q5 _ (by omega) (by omega))
  obtain ⟨t1, t2⟩ := q4.stays (by omega)
  have hbad : numBad s i = (decide ((numEnd s i).2 < runEnd isW s (numEnd s i).2) || isFarF (s.extract (numEnd s i).1 (numEnd s i).2)) := rfl
  have hfl := fun w h => fault_any g s i (runEnd isW s (numEnd s i).2) 22 (lineOf s i) (colOf s i) w h (by omega) hsz hz rfl rfl
  have htk := fun w h => taken_any g s i (numEnd s i).2 2 (lineOf s i) (colOf s i) w h (by omega) q3 hz t1 t2 rfl rfl
  generalize runEnd isD s i = n1 at *
  generalize ptEnd s n1 = n2 at *
  generalize runEnd isW s (numEnd s i).2 = n4 at *
  generalize isFarF (s.extract (numEnd s i).1 (numEnd s i).2) = fa at *
  generalize s.extract (numEnd s i).1 (numEnd s i).2 = xs at *
  generalize numBad s i = nb at *
  generalize numEnd s i = ne at *
  obtain ⟨n3, n5⟩ := ne
  dsimp only at *
  clear t1 t2 q4 q5 hex2
  obtain ⟨W1, hW1⟩ : ∃ W1, W1 = w.alloc (.cells #[.int .i8 0, .string ⟨#[]⟩, .int .i64 0, .int .i64 0] 38) := ⟨_, rfl⟩
  have hk : RdC W1 g s i := by rw [hW1]; exact h.below (belowA1 w _)
  have hr : TkC W1 w.heap.size (.int .i8 0) (.string ⟨#[]⟩) (.int .i64 0) (.int .i64 0) := by rw [hW1]; exact tkc_new _ rfl
  have hb1 : Off g w W1 := by rw [hW1]; exact Off.of (belowA1 w _)
  have hgr : g < w.heap.size := h.lt
  have HW1 : Hid (W1 = w.alloc (.cells #[.int .i8 0, .string ⟨#[]⟩, .int .i64 0, .int .i64 0] 38)) := hW1
  clear hW1 h
  go_enter Tryd.func41, Tryd.ntmps41
  go_wp2_with fail
  rw [← HW1.out]
  obtain ⟨r, hr0⟩ : ∃ r, r = w.heap.size := ⟨_, rfl⟩
  rw [← hr0] at hr hgr ⊢
  have HR : Hid (w.heap.size ≤ r) := Nat.le_of_eq hr0.symm
  have hrg : r ≠ g := by omega
  clear HW1 hr0 hgr
  obtain ⟨c0, c1, c2, c3⟩ := hk.cells
  go_quiet ((go_at_call 60; exact Calls.quiet_of_same (hdg _)))
  have D0 : Below W1.heap.size W1 (W1.drewN nq) := below_drewN (Below.refl _ _) nq
  replace hk := hk.below D0
  replace hr := hr.below D0
  replace hb1 := hb1.trans (Off.of D0)
  generalize W1.drewN nq = w2 at *
  replace c0 := hk.cells.1
  clear c1 c2 c3 D0 hdg
  go_wp2_with fail
  refine (hpt _).mono ?_
  rintro e w3 ⟨rfl, rfl⟩
  clear hpt
  go_wp2_with fail
  refine (hex _).mono ?_
  rintro e w3 ⟨rfl, rfl⟩
  clear hex
  go_wp2_with fail
  refine (hwd _).mono ?_
  rintro e w3 ⟨rfl, rfl⟩
  clear hwd
  by_cases hgt : n5 < n4
  · rw [decide_eq_true hgt, Bool.true_or] at hbad
    subst hbad
    rw [if_pos rfl] at ho
    have hge : (n5 : Int) < (n4 : Int) := by omega
    clear hgt
    go_wp2_with fail
    clear hge q1 q2 q3 hle hsz hz hi
    refine (hfl _ hk).mono ?_
    rintro e w4 ⟨v, rfl, hN⟩
    rw [← ho] at hN
    obtain ⟨o4, va, vb, vc, vd, ve, rfl⟩ := hN.see
    have hr4 := hr.off o4 hrg
    have HE : Hid (NxEnd w g s o _ ((((w4.setCell ⟨r, 0, none⟩ (.int .i8 va)).setCell ⟨r, 1, none⟩ (.string vb)).setCell ⟨r, 2, none⟩ (.int .i64 vc)).setCell ⟨r, 3, none⟩ (.int .i64 vd))) := hN.wrap hb1 HR.out hr.lt hrg.symm _ _ _ _
    have HW : Hid (TkC ((((w4.setCell ⟨r, 0, none⟩ (.int .i8 va)).setCell ⟨r, 1, none⟩ (.string vb)).setCell ⟨r, 2, none⟩ (.int .i64 vc)).setCell ⟨r, 3, none⟩ (.int .i64 vd)) r (.int .i8 va) (.string vb) (.int .i64 vc) (.int .i64 vd)) := hr4.write _ _ _ _
    obtain ⟨z0, z1, z2, z3⟩ := hr4.cells
    have f0 := hr4.thaw 0
    have f1 := hr4.thaw 1
    have f2 := hr4.thaw 2
    have f3 := hr4.thaw 3
    clear hN o4 hr4 hr hb1 hk hrg hfl htk c0 ho hfa hsl
    go_wp2_with fail
    (try simp only [Exit.inBlock, Exit.then])
    exact bodyPost_ret (results_ctx (p := 2) (u := 3) rfl _ _ r 38 _ (0, 0) _ rfl HW.out Tryd.underlying38 rfl (by kernel_rfl)) rfl ⟨_, rfl, HE.out⟩
  · rw [decide_eq_false hgt, Bool.false_or] at hbad
    have hge : ¬ (n5 : Int) < (n4 : Int) := by omega
    clear hgt
    go_wp2_with fail
    refine (hfa _).mono ?_
    rintro e w3 ⟨rfl, rfl⟩
    subst hbad
    clear hge q1 q2 q3 hle hsz hz hi
    cases nb with
    | true =>
      rw [if_pos rfl] at ho
      go_wp2_with fail
      refine (hfl _ hk).mono ?_
      rintro e w4 ⟨v, rfl, hN⟩
      rw [← ho] at hN
      obtain ⟨o4, va, vb, vc, vd, ve, rfl⟩ := hN.see
      have hr4 := hr.off o4 hrg
      have HE : Hid (NxEnd w g s o _ ((((w4.setCell ⟨r, 0, none⟩ (.int .i8 va)).setCell ⟨r, 1, none⟩ (.string vb)).setCell ⟨r, 2, none⟩ (.int .i64 vc)).setCell ⟨r, 3, none⟩ (.int .i64 vd))) := hN.wrap hb1 HR.out hr.lt hrg.symm _ _ _ _
      have HW : Hid (TkC ((((w4.setCell ⟨r, 0, none⟩ (.int .i8 va)).setCell ⟨r, 1, none⟩ (.string vb)).setCell ⟨r, 2, none⟩ (.int .i64 vc)).setCell ⟨r, 3, none⟩ (.int .i64 vd)) r (.int .i8 va) (.string vb) (.int .i64 vc) (.int .i64 vd)) := hr4.write _ _ _ _
      obtain ⟨z0, z1, z2, z3⟩ := hr4.cells
      have f0 := hr4.thaw 0
      have f1 := hr4.thaw 1
      have f2 := hr4.thaw 2
      have f3 := hr4.thaw 3
      clear hN o4 hr4 hr hb1 hk hrg hfl htk c0 ho hfa hsl
      go_wp2_with fail
      (try simp only [Exit.inBlock, Exit.then])
      exact bodyPost_ret (results_ctx (p := 2) (u := 3) rfl _ _ r 38 _ (0, 0) _ rfl HW.out Tryd.underlying38 rfl (by kernel_rfl)) rfl ⟨_, rfl, HE.out⟩
    | false =>
      rw [if_neg (by decide)] at ho
      go_wp2_with fail
      refine (htk _ hk).mono ?_
      rintro e w4 ⟨v, rfl, hN⟩
      rw [← ho] at hN
      obtain ⟨o4, va, vb, vc, vd, ve, rfl⟩ := hN.see
      have hr4 := hr.off o4 hrg
      have HE : Hid (NxEnd w g s o _ ((((w4.setCell ⟨r, 0, none⟩ (.int .i8 va)).setCell ⟨r, 1, none⟩ (.string vb)).setCell ⟨r, 2, none⟩ (.int .i64 vc)).setCell ⟨r, 3, none⟩ (.int .i64 vd))) := hN.wrap hb1 HR.out hr.lt hrg.symm _ _ _ _
      have HW : Hid (TkC ((((w4.setCell ⟨r, 0, none⟩ (.int .i8 va)).setCell ⟨r, 1, none⟩ (.string vb)).setCell ⟨r, 2, none⟩ (.int .i64 vc)).setCell ⟨r, 3, none⟩ (.int .i64 vd)) r (.int .i8 va) (.string vb) (.int .i64 vc) (.int .i64 vd)) := hr4.write _ _ _ _
      obtain ⟨z0, z1, z2, z3⟩ := hr4.cells
      have f0 := hr4.thaw 0
      have f1 := hr4.thaw 1
      have f2 := hr4.thaw 2
      have f3 := hr4.thaw 3
      clear hN o4 hr4 hr hb1 hk hrg hfl htk c0 ho hfa hsl
      go_wp2_with fail
      (try simp only [Exit.inBlock, Exit.then])
      exact bodyPost_ret (results_ctx (p := 2) (u := 3) rfl _ _ r 38 _ (0, 0) _ rfl HW.out Tryd.underlying38 rfl (by kernel_rfl)) rfl ⟨_, rfl, HE.out⟩
end Go.Proofs.YtlemnbegblpllaaDoor

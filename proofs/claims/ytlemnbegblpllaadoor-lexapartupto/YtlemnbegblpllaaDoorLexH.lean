/-
  Proved here: what name and number of package lex answer.
-/
import Derived.Test.YtlemnbegblpllaaDoorLexG
namespace Go.Proofs.YtlemnbegblpllaaDoor
open Go.RowKit

/-- A place's column. -/
def colOf (s : ByteArray) (i : Nat) : Nat := i - startOf s i + 1
/-- No line ends from i on, up to j. -/
def NoNl (s : ByteArray) (i j : Nat) : Prop := ∀ k, i ≤ k → k < j → atB s k ≠ 10
theorem NoNl.nil (s : ByteArray) (i : Nat) : NoNl s i i := fun k h1 h2 => by omega
theorem NoNl.app {s : ByteArray} {i j k : Nat} (h : NoNl s i j) (h2 : NoNl s j k) : NoNl s i k := fun q h3 h4 => by
  rcases Nat.lt_or_ge q j with h5 | h5
  · exact h q h3 h5
  · exact h2 q h5 h4
theorem NoNl.one {s : ByteArray} {i : Nat} (h : atB s i ≠ 10) : NoNl s i (i + 1) := fun q h3 h4 => by
  obtain rfl : q = i := by omega
  exact h
theorem nonl_stays {s : ByteArray} {i : Nat} : ∀ n, NoNl s i (i + n) → lineOf s (i + n) = lineOf s i ∧ startOf s (i + n) = startOf s i
  | 0, _ => ⟨rfl, rfl⟩
  | n + 1, h => by
    have h1 := nonl_stays n (fun k h2 h3 => h k h2 (by omega))
    have h2 := h (i + n) (by omega) (by omega)
    refine ⟨?_, ?_⟩
    · show lineOf s (i + n) + (if atB s (i + n) = 10 then 1 else 0) = _
      rw [if_neg h2, h1.1]; rfl
    · show (if atB s (i + n) = 10 then i + n + 1 else startOf s (i + n)) = _
      rw [if_neg h2, h1.2]
theorem NoNl.stays {s : ByteArray} {i j : Nat} (h : NoNl s i j) (hij : i ≤ j) : lineOf s j = lineOf s i ∧ startOf s j = startOf s i := by
  obtain ⟨n, rfl⟩ := Nat.exists_eq_add_of_le hij
  exact nonl_stays n h
theorem runEnd_all (p : Nat → Bool) (s : ByteArray) : ∀ n i, s.size - i = n → ∀ k, i ≤ k → k < runEnd p s i → p (atB s k) = true
  | 0, i, hn, k, h1, h2 => by rw [runEnd_no (by omega)] at h2; omega
  | n + 1, i, hn, k, h1, h2 => by
    by_cases h : i < s.size ∧ p (atB s i) = true
    · rw [runEnd_yes h.1 h.2] at h2
      rcases Nat.eq_or_lt_of_le h1 with e | h3
      · rw [← e]; exact h.2
      · exact runEnd_all p s n (i + 1) (by omega) k h3 h2
    · rw [runEnd_no h] at h2; omega
theorem run_nonl {p : Nat → Bool} (hp : p 10 = false) (s : ByteArray) (i : Nat) : NoNl s i (runEnd p s i) := fun k h1 h2 h3 => by
  have h4 := runEnd_all p s _ i rfl k h1 h2
  rw [h3, hp] at h4
  cases h4
theorem pt_facts (s : ByteArray) (i : Nat) (hi : i ≤ s.size) : i ≤ ptEnd s i ∧ ptEnd s i ≤ s.size ∧ NoNl s i (ptEnd s i) := by
  unfold ptEnd
  split
  · rename_i h
    have h1 : i < s.size := atB_in (by rw [h.1]; decide)
    exact ⟨by omega, runEnd_size _ _ (by omega), (NoNl.one (by rw [h.1]; decide)).app (run_nonl rfl s (i + 1))⟩
  · exact ⟨Nat.le_refl _, hi, NoNl.nil _ _⟩
theorem xfirst_nonl {s : ByteArray} {i : Nat} (h : atB s i = 101 ∨ atB s i = 69) : NoNl s i (xFirst s i) := by
  have h0 : atB s i ≠ 10 := by rcases h with h | h <;> rw [h] <;> decide
  unfold xFirst
  split
  · rename_i h1
    exact (NoNl.one h0).app (NoNl.one (by rcases h1 with h | h <;> rw [h] <;> decide))
  · exact NoNl.one h0
theorem xfirst_gt (s : ByteArray) (i : Nat) : i < xFirst s i := by unfold xFirst; split <;> omega
theorem xpo_facts (s : ByteArray) (i : Nat) (hi : i ≤ s.size) : i ≤ (xpo s i).1 ∧ (xpo s i).1 ≤ (xpo s i).2 ∧ (xpo s i).2 ≤ s.size ∧ NoNl s i (xpo s i).2 ∧ ∀ k, (xpo s i).1 ≤ k → k < (xpo s i).2 → isD (atB s k) = true := by
  unfold xpo
  split
  · rename_i h
    have := xfirst_gt s i
    exact ⟨by show i ≤ xFirst s i; omega, le_runEnd _ _ _, runEnd_size _ _ (xFirst_le h.1), (xfirst_nonl h.1).app (run_nonl rfl s _), runEnd_all _ s _ _ rfl⟩
  · exact ⟨Nat.le_refl _, Nat.le_refl _, hi, NoNl.nil _ _, fun k h1 h2 => by have h3 : k < i := h2; have h4 : i ≤ k := h1; omega⟩

/-- What name tells. -/
def nameOut (s : ByteArray) (i : Nat) : Out :=
  if 64 < runEnd isW s i - i then .flt 20 (lineOf s i) (colOf s i) (s.extract i (runEnd isW s i)) else .tok 1 (s.extract i (runEnd isW s i)) (lineOf s i) (colOf s i) (runEnd isW s i)
/-- What number tells. -/
def numEnd (s : ByteArray) (i : Nat) : Nat × Nat := xpo s (ptEnd s (runEnd isD s i))
def numBad (s : ByteArray) (i : Nat) : Bool := decide ((numEnd s i).2 < runEnd isW s (numEnd s i).2) || isFarF (s.extract (numEnd s i).1 (numEnd s i).2)
def numOut (s : ByteArray) (i : Nat) : Out :=
  if numBad s i = true then .flt 22 (lineOf s i) (colOf s i) (s.extract i (runEnd isW s (numEnd s i).2)) else .tok 2 (s.extract i (numEnd s i).2) (lineOf s i) (colOf s i) (numEnd s i).2
theorem num_facts (s : ByteArray) (i : Nat) (hi : i ≤ s.size) : i ≤ (numEnd s i).1 ∧ (numEnd s i).1 ≤ (numEnd s i).2 ∧ (numEnd s i).2 ≤ s.size ∧ NoNl s i (numEnd s i).2 ∧ ∀ k, (numEnd s i).1 ≤ k → k < (numEnd s i).2 → isD (atB s k) = true := by
  have h1 := le_runEnd isD s i
  have h2 := runEnd_size isD s hi
  obtain ⟨h3, h4, h5⟩ := pt_facts s (runEnd isD s i) h2
  obtain ⟨h6, h7, h8, h9, ha⟩ := xpo_facts s (ptEnd s (runEnd isD s i)) h4
  unfold numEnd
  exact ⟨by omega, h7, h8, ((run_nonl rfl s i).app h5).app h9, ha⟩

set_option maxRecDepth 100000 in
set_option maxHeartbeats 3200000 in
theorem name_any (g : Nat) (s : ByteArray) (i : Nat) (w : World) (h : RdC w g s i) (hi : i ≤ s.size) (hz : s.size ≤ 281474976710656) :
    Calls Tryd.prog 40 #[.pointer (some ⟨g, 0, none⟩)] w fun e w' => ∃ v, e = .returned v ∧ NxEnd w g s (nameOut s i) v w' := by
  obtain ⟨o, ho⟩ : ∃ o, o = nameOut s i := ⟨_, rfl⟩
  rw [← ho]
  unfold nameOut at ho
  have hle := le_runEnd isW s i
  have hsz := runEnd_size isW s hi
  have hwd := fun w => wordEnd_any s i w (by omega) hi
  obtain ⟨t1, t2⟩ := (run_nonl (p := isW) rfl s i).stays hle
  generalize runEnd isW s i = j at *
  have hfl := fun w h => fault_any g s i j 20 (lineOf s i) (colOf s i) w h hle hsz hz rfl rfl
  have htk := fun w h => taken_any g s i j 1 (lineOf s i) (colOf s i) w h hle hsz hz t1 t2 rfl rfl
  clear t1 t2
  obtain ⟨W1, hW1⟩ : ∃ W1, W1 = w.alloc (.cells #[.int .i8 0, .string ⟨#[]⟩, .int .i64 0, .int .i64 0] 38) := ⟨_, rfl⟩
  have hk : RdC W1 g s i := by rw [hW1]; exact h.below (belowA1 w _)
  have hr : TkC W1 w.heap.size (.int .i8 0) (.string ⟨#[]⟩) (.int .i64 0) (.int .i64 0) := by rw [hW1]; exact tkc_new _ rfl
  have hb1 : Off g w W1 := by rw [hW1]; exact Off.of (belowA1 w _)
  have hgr : g < w.heap.size := h.lt
  have HW1 : Hid (W1 = w.alloc (.cells #[.int .i8 0, .string ⟨#[]⟩, .int .i64 0, .int .i64 0] 38)) := hW1
  clear hW1 h
  go_enter Tryd.func40, Tryd.ntmps40
  go_wp2_with fail
  rw [← HW1.out]
  obtain ⟨r, hr0⟩ : ∃ r, r = w.heap.size := ⟨_, rfl⟩
  rw [← hr0] at hr hgr ⊢
  have HR : Hid (w.heap.size ≤ r) := Nat.le_of_eq hr0.symm
  have hrg : r ≠ g := by omega
  clear HW1 hr0 hgr
  obtain ⟨c0, c1, c2, c3⟩ := hk.cells
  go_quiet ((go_at_call 29; exact Calls.quiet_of_same (hwd _)))
  have D0 : Below W1.heap.size W1 (W1.drewN nq) := below_drewN (Below.refl _ _) nq
  replace hk := hk.below D0
  replace hr := hr.below D0
  replace hb1 := hb1.trans (Off.of D0)
  generalize W1.drewN nq = w2 at *
  replace c0 := hk.cells.1
  replace c1 := hk.cells.2.1
  clear c2 c3 D0 hwd
  by_cases h64 : 64 < j - i
  · rw [if_pos h64] at ho
    have hge : (64 : Int) < (j : Int) - (i : Int) := by omega
    clear h64
    go_wp2_with fail
    clear hge hi hsz hle hz
    refine (hfl _ hk).mono ?_
    rintro e w4 ⟨v, rfl, hN⟩
    rw [← ho] at hN
    obtain ⟨o4, va, vb, vc, vd, ve, rfl⟩ := hN.see
    have hr4 := hr.off o4 hrg
    have HE : Hid (NxEnd w g s o _ ((((w4.setCell ⟨r, 0, none⟩ (.int .i8 va)).setCell ⟨r, 1, none⟩ (.string vb)).setCell ⟨r, 2, none⟩ (.int .i64 vc)).setCell ⟨r, 3, none⟩ (.int .i64 vd))) := hN.wrap hb1 HR.out hr.lt hrg.symm _ _ _ _
    have HW : Hid (TkC ((((w4.setCell ⟨r, 0, none⟩ (.int .i8 va)).setCell ⟨r, 1, none⟩ (.string vb)).setCell ⟨r, 2, none⟩ (.int .i64 vc)).setCell ⟨r, 3, none⟩ (.int .i64 vd)) r (.int .i8 va) (.string vb) (.int .i64 vc) (.int .i64 vd)) := hr4.write _ _ _ _
    obtain ⟨z0, z1, z2, z3⟩ := hr4.cells
    have f0 := hr4.thaw 0
    have f1 := hr4.thaw 1
    have f2 := hr4.thaw 2
    have f3 := hr4.thaw 3
    clear hN o4 hr4 hr hb1 hk hrg hfl htk c0 c1 ho
    go_wp2_with fail
    (try simp only [Exit.inBlock, Exit.then])
    exact bodyPost_ret (results_ctx (p := 2) (u := 3) rfl _ _ r 38 _ (0, 0) _ rfl HW.out Tryd.underlying38 rfl (by kernel_rfl)) rfl ⟨_, rfl, HE.out⟩
  · rw [if_neg h64] at ho
    have hge : ¬ (64 : Int) < (j : Int) - (i : Int) := by omega
    clear h64
    go_wp2_with fail
    clear hge hi hsz hle hz
    refine (htk _ hk).mono ?_
    rintro e w4 ⟨v, rfl, hN⟩
    rw [← ho] at hN
    obtain ⟨o4, va, vb, vc, vd, ve, rfl⟩ := hN.see
    have hr4 := hr.off o4 hrg
    have HE : Hid (NxEnd w g s o _ ((((w4.setCell ⟨r, 0, none⟩ (.int .i8 va)).setCell ⟨r, 1, none⟩ (.string vb)).setCell ⟨r, 2, none⟩ (.int .i64 vc)).setCell ⟨r, 3, none⟩ (.int .i64 vd))) := hN.wrap hb1 HR.out hr.lt hrg.symm _ _ _ _
    have HW : Hid (TkC ((((w4.setCell ⟨r, 0, none⟩ (.int .i8 va)).setCell ⟨r, 1, none⟩ (.string vb)).setCell ⟨r, 2, none⟩ (.int .i64 vc)).setCell ⟨r, 3, none⟩ (.int .i64 vd)) r (.int .i8 va) (.string vb) (.int .i64 vc) (.int .i64 vd)) := hr4.write _ _ _ _
    obtain ⟨z0, z1, z2, z3⟩ := hr4.cells
    have f0 := hr4.thaw 0
    have f1 := hr4.thaw 1
    have f2 := hr4.thaw 2
    have f3 := hr4.thaw 3
    clear hN o4 hr4 hr hb1 hk hrg hfl htk c0 c1 ho
    go_wp2_with fail
    (try simp only [Exit.inBlock, Exit.then])
    exact bodyPost_ret (results_ctx (p := 2) (u := 3) rfl _ _ r 38 _ (0, 0) _ rfl HW.out Tryd.underlying38 rfl (by kernel_rfl)) rfl ⟨_, rfl, HE.out⟩
end Go.Proofs.YtlemnbegblpllaaDoor

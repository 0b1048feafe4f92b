/-
  Proved here: a number's digits, as the law writes them.
-/
import Derived.Test.YtphbbkckigdgoaaFacO1
import Derived.Test.YtphbbkckigdgoaaRadBackMAll
namespace Go.Proofs.Ytphbbkckigdgoaa
set_option linter.unusedVariables false
open Go.RowKit Go.Shelf Go.Lib Go.Sort
def tenS : ByteArray := ⟨#[48, 49, 50, 51, 52, 53, 54, 55, 56, 57]⟩
def dgD (n : Nat) : ByteArray := ⟨#[(48 + n).toUInt8]⟩
def dgT (n : Nat) : ByteArray := if n < 10 then dgD n else dgT (n / 10) ++ dgD (n % 10)
termination_by n
decreasing_by omega
theorem dgD_size (n : Nat) : (dgD n).size = 1 := rfl
theorem dgT_size (n : Nat) : (dgT n).size ≤ n + 1 := by
  induction n using Nat.strongRecOn with
  | _ n ih =>
    rw [dgT]
    split
    · rw [dgD_size]; omega
    · rw [ByteArray.size_append, dgD_size]
      have := ih (n / 10) (by omega)
      omega
theorem ten_cut (n : Nat) (h : n < 10) : tenS.extract n (n + 1) = dgD n := by
  match n, h with
  | 0, _ | 1, _ | 2, _ | 3, _ | 4, _ | 5, _ | 6, _ | 7, _ | 8, _ | 9, _ => rfl
set_option maxRecDepth 100000 in
set_option maxHeartbeats 3200000 in
theorem digits_small (n : Nat) (hn : n < 10) (w : World) :
    Calls Try.prog 9 #[.int .i64 n] w fun e w' => e = .returned (.string (dgT n)) ∧ Below w.heap.size w w' := by
  have hlt : (n : Int) < 10 := by omega
  have HD : Hid (dgT n = dgD n) := by show _ = _; rw [dgT, if_pos hn]
  rw [HD.out]
  have HT : Hid (tenS.extract n (n + 1) = dgD n) := ten_cut n hn
  go_enter Try.func9, Try.ntmps9
  go_wp2
  go_ret
  exact ⟨by rw [← HT.out]; rfl, Below.refl _ _⟩
set_option maxRecDepth 100000 in
set_option maxHeartbeats 3200000 in
theorem digits_big (n : Nat) (hn : ¬ n < 10) (hb : n ≤ 2147483648) (ih : ∀ w, Calls Try.prog 9 #[.int .i64 (n / 10 : Nat)] w fun e w' => e = .returned (.string (dgT (n / 10))) ∧ Below w.heap.size w w') (w : World) :
    Calls Try.prog 9 #[.int .i64 n] w fun e w' => e = .returned (.string (dgT n)) ∧ Below w.heap.size w w' := by
  have hlt : ¬ (n : Int) < 10 := by omega
  have HD : Hid (dgT n = dgT (n / 10) ++ dgD (n % 10)) := by show _ = _; rw [dgT, if_neg hn]
  rw [HD.out]
  have HS : Hid ((dgT (n / 10)).size ≤ 2147483648) := Nat.le_trans (dgT_size _) (by omega)
  generalize dgT (n / 10) = D at *
  obtain ⟨q, hq⟩ : ∃ q, q = n / 10 := ⟨_, rfl⟩
  obtain ⟨r, hr⟩ : ∃ r, r = n % 10 := ⟨_, rfl⟩
  have hr10 : r < 10 := by omega
  have HT : Hid (tenS.extract r (r + 1) = dgD r) := ten_cut r hr10
  have HQ : Hid ((n : Int).tdiv 10 = (q : Int)) := by show _ = _; rw [Int.tdiv_eq_ediv_of_nonneg (by omega)]; omega
  have HR : Hid ((n : Int).tmod 10 = (r : Int)) := by show _ = _; rw [Int.tmod_eq_emod_of_nonneg (by omega)]; omega
  rw [← hq] at ih
  rw [← hr]
  clear hq hr HD
  have hwq : IntKind.i64.wrap (q : Int) = (q : Int) := by rw [IntKind.wrap_i64]; have := HQ.out; have : (q : Int) ≤ n := by rw [← HQ.out, Int.tdiv_eq_ediv_of_nonneg (by omega)]; omega
                                                          omega
  have hwr : IntKind.i64.wrap (r : Int) = (r : Int) := by rw [IntKind.wrap_i64]; omega
  have hwr1 : IntKind.i64.wrap ((r : Int) + 1) = (r : Int) + 1 := by rw [IntKind.wrap_i64]; omega
  have HIH : Hid (∀ w, Calls Try.prog 9 #[.int .i64 (q : Nat)] w fun e w' => e = .returned (.string D) ∧ Below w.heap.size w w') := ih
  clear ih
  go_enter Try.func9, Try.ntmps9
  go_upto_region 3 with fail
  have hqq := HQ.out
  have hrr := HR.out
  have hs1 : (0 : Int) ≤ (r : Int) + 1 ∧ (r : Int) + 1 ≤ 10 := by omega
  have hs2 : (r : Int) ≤ (r : Int) + 1 := by omega
  have hs3 : D.size + (min (r + 1) tenS.size - r) ≤ 9223372036854775807 := by have := HS.out; omega
  have KEEP : ∀ u, Below w.heap.size w u → L4.AllL u [] := fun u hu => trivial
  refine L4.region_late [] (by kernel_rfl) ?_
  have B : Below w.heap.size w w.drew := (Below.refl _ _).drew
  obtain ⟨w1, hw1⟩ : ∃ u, u = w.drew := ⟨_, rfl⟩
  rw [← hw1] at B ⊢
  clear hw1
  have hHeld := KEEP _ B
  refine L4.late_free 0 (v := .int .i64 ((n : Nat) : Int)) rfl (by kernel_rfl) (by kernel_rfl) (by kernel_rfl) (by kernel_rfl) (by kernel_rfl) (by kernel_rfl) (fun _ _ _ h => h) (Or.inl ⟨by rfl, ?_⟩) hHeld ?_
  · (intro u _; go_simp)
  (try simp only [Act.put, List.setIfInBounds_toArray, List.set_cons_zero, List.set_cons_succ])
  refine L4.late_free 1 (v := .int .i64 (q : Int)) rfl (by kernel_rfl) (by kernel_rfl) (by kernel_rfl) (by kernel_rfl) (by kernel_rfl) (by kernel_rfl) (fun _ _ _ h => h) (Or.inl ⟨by rfl, ?_⟩) hHeld ?_
  · (intro u _; go_simp)
  (try simp only [Act.put, List.setIfInBounds_toArray, List.set_cons_zero, List.set_cons_succ])
  refine L4.late_free 3 (v := .int .i64 ((n : Nat) : Int)) rfl (by kernel_rfl) (by kernel_rfl) (by kernel_rfl) (by kernel_rfl) (by kernel_rfl) (by kernel_rfl) (fun _ _ _ h => h) (Or.inl ⟨by rfl, ?_⟩) hHeld ?_
  · (intro u _; go_simp)
  (try simp only [Act.put, List.setIfInBounds_toArray, List.set_cons_zero, List.set_cons_succ])
  refine L4.late_free 4 (v := .int .i64 (r : Int)) rfl (by kernel_rfl) (by kernel_rfl) (by kernel_rfl) (by kernel_rfl) (by kernel_rfl) (by kernel_rfl) (fun _ _ _ h => h) (Or.inl ⟨by rfl, ?_⟩) hHeld ?_
  · (intro u _; go_simp)
  (try simp only [Act.put, List.setIfInBounds_toArray, List.set_cons_zero, List.set_cons_succ])
  refine L4.late_free 5 (v := .int .i64 ((n : Nat) : Int)) rfl (by kernel_rfl) (by kernel_rfl) (by kernel_rfl) (by kernel_rfl) (by kernel_rfl) (by kernel_rfl) (fun _ _ _ h => h) (Or.inl ⟨by rfl, ?_⟩) hHeld ?_
  · (intro u _; go_simp)
  (try simp only [Act.put, List.setIfInBounds_toArray, List.set_cons_zero, List.set_cons_succ])
  refine L4.late_free 6 (v := .int .i64 (r : Int)) rfl (by kernel_rfl) (by kernel_rfl) (by kernel_rfl) (by kernel_rfl) (by kernel_rfl) (by kernel_rfl) (fun _ _ _ h => h) (Or.inl ⟨by rfl, ?_⟩) hHeld ?_
  · (intro u _; go_simp)
  (try simp only [Act.put, List.setIfInBounds_toArray, List.set_cons_zero, List.set_cons_succ])
  refine L4.late_free 7 (v := .int .i64 ((r : Int) + 1)) rfl (by kernel_rfl) (by kernel_rfl) (by kernel_rfl) (by kernel_rfl) (by kernel_rfl) (by kernel_rfl) (fun _ _ _ h => h) (Or.inl ⟨by rfl, ?_⟩) hHeld ?_
  · (intro u _; go_simp)
  (try simp only [Act.put, List.setIfInBounds_toArray, List.set_cons_zero, List.set_cons_succ])
  refine L4.late_free 8 (v := .string (tenS.extract r (r + 1))) rfl (by kernel_rfl) (by kernel_rfl) (by kernel_rfl) (by kernel_rfl) (by kernel_rfl) (by kernel_rfl) (fun _ _ _ h => h) (Or.inl ⟨by rfl, ?_⟩) hHeld ?_
  · (intro u _; go_simp; rfl)
  (try simp only [Act.put, List.setIfInBounds_toArray, List.set_cons_zero, List.set_cons_succ])
  refine L4.late_step 2 (by kernel_rfl) rfl (fun K hK => ?_)
  go_simp
  refine (HIH.out _).mono ?_
  rintro e y2 ⟨rfl, c2⟩
  have B := B.trans (c2.mono B.size)
  clear c2 hHeld
  have hHeld := KEEP _ B
  go_wp2_with fail
  refine hK.out _ _ (L4.AllL.kept hHeld) ?_
  clear hK K
  (try simp only [Act.put, List.setIfInBounds_toArray, List.set_cons_zero, List.set_cons_succ])
  refine L4.late_free 9 (v := .string (D ++ tenS.extract r (r + 1))) rfl (by kernel_rfl) (by kernel_rfl) (by kernel_rfl) (by kernel_rfl) (by kernel_rfl) (by kernel_rfl) (fun _ _ _ h => h) (Or.inl ⟨by rfl, ?_⟩) hHeld ?_
  · (intro u _; go_simp)
  (try simp only [Act.put, List.setIfInBounds_toArray, List.set_cons_zero, List.set_cons_succ])
  refine L4.late_step 10 (by kernel_rfl) rfl (fun K hK => ?_)
  go_simp
  refine hK.out _ _ (L4.AllL.kept hHeld) ?_
  clear hK K
  (try simp only [Act.put, List.setIfInBounds_toArray, List.set_cons_zero, List.set_cons_succ])
  refine L4.late_done (by kernel_rfl) ?_ _
  clear hHeld KEEP
  clear hqq hrr
  go_wp2
  go_ret
  exact ⟨by rw [← HT.out]; rfl, B⟩
theorem digits_any (n : Nat) (hb : n ≤ 2147483648) : ∀ w, Calls Try.prog 9 #[.int .i64 n] w fun e w' => e = .returned (.string (dgT n)) ∧ Below w.heap.size w w' := by
  induction n using Nat.strongRecOn with
  | _ n ih =>
    intro w
    by_cases hn : n < 10
    · exact digits_small n hn w
    · exact digits_big n hn hb (ih (n / 10) (by omega) (by omega)) w
end Go.Proofs.Ytphbbkckigdgoaa

/-
  Proved here: the reader of package lex in memory; what its col and move answer.
-/
import Derived.Test.YtlemnbegblpllaaDoorLexD
import Derived.Test.YtlemnbegblpllaaDoorLate
namespace Go.Proofs.YtlemnbegblpllaaDoor
open Go.RowKit

/-- The four cells of a reader of the text s that is at place i. -/
def RdC (w : World) (g : Nat) (s : ByteArray) (i : Nat) : Prop :=
  w.heap[g]? = some (.cells #[.string s, .int .i64 (i : Int), .int .i64 (lineOf s i : Int), .int .i64 (startOf s i : Int)] 55 (0, 0))
theorem RdC.cells {w : World} {g : Nat} {s : ByteArray} {i : Nat} (h : RdC w g s i) : w.cell? ⟨g, 0, none⟩ = some (.string s) ∧ w.cell? ⟨g, 1, none⟩ = some (.int .i64 (i : Int)) ∧ w.cell? ⟨g, 2, none⟩ = some (.int .i64 (lineOf s i : Int)) ∧ w.cell? ⟨g, 3, none⟩ = some (.int .i64 (startOf s i : Int)) := by
  simp only [World.cell?, RdC] at h ⊢
  rw [h]
  simp
theorem RdC.thaw {w : World} {g : Nat} {s : ByteArray} {i : Nat} (h : RdC w g s i) (k : Nat) : w.frozen? ⟨g, k, none⟩ = false := frozen_of_row w g k _ _ h
theorem RdC.lt {w : World} {g : Nat} {s : ByteArray} {i : Nat} (h : RdC w g s i) : g < w.heap.size := (Array.getElem?_eq_some_iff.1 h).1
theorem RdC.below {w w' : World} {g : Nat} {s : ByteArray} {i : Nat} (h : RdC w g s i) (hb : Below w.heap.size w w') : RdC w' g s i := by
  unfold RdC; rw [hb.block _ h.lt]; exact h
theorem RdC.drewN {w : World} {g : Nat} {s : ByteArray} {i : Nat} (h : RdC w g s i) (n : Nat) : RdC (w.drewN n) g s i := by
  unfold RdC at *; rw [World.heap_drewN]; exact h
theorem rdc_new (w : World) (s : ByteArray) {k : Nat} (hk : w.heap.size = k) : RdC (w.alloc (.cells #[.string s, .int .i64 0, .int .i64 1, .int .i64 0] 55)) k s 0 := by subst hk; exact heap_alloc_new w _
/-- All but the reader is kept. -/
abbrev Off (g : Nat) (w w' : World) : Prop := w.grownBy w' (some g)
theorem Off.refl (g : Nat) (w : World) : Off g w w := ⟨rfl, rfl, rfl, Nat.le_refl _, fun _ _ _ => rfl⟩
theorem Off.trans {g : Nat} {a b c : World} (h : Off g a b) (k : Off g b c) : Off g a c :=
  ⟨k.os.trans h.os, k.tape.trans h.tape, k.output.trans h.output, Nat.le_trans h.size k.size, fun i hi hn => (k.block i (Nat.lt_of_lt_of_le hi h.size) hn).trans (h.block i hi hn)⟩
theorem Off.of {g : Nat} {a b : World} (h : Below a.heap.size a b) : Off g a b := ⟨h.os, h.tape, h.output, h.size, fun i hi _ => h.block i hi⟩
theorem Off.set {g k : Nat} {a b : World} (h : Off g a b) (v : Value) : Off g a (b.setCell ⟨g, k, none⟩ v) :=
  h.trans ⟨rfl, rfl, rfl, by simp [World.setCell], fun i _ hn => Below.heap_setCell _ _ _ _ (fun e => hn (by rw [e]))⟩
theorem Off.drewN {g : Nat} {a b : World} (h : Off g a b) (n : Nat) : Off g a (b.drewN n) := h.trans (Off.of (by induction n with | zero => exact Below.refl _ _ | succ n ih => exact ih.drew))

set_option maxRecDepth 100000 in
set_option maxHeartbeats 1600000 in
theorem col_any (g : Nat) (s : ByteArray) (i : Nat) (w : World) (h : RdC w g s i) (hi : i < 4611686018427387904) :
    Calls Tryd.prog 59 #[.pointer (some ⟨g, 0, none⟩)] w fun e w' => e = .returned (.int .i64 (i - startOf s i + 1 : Nat)) ∧ ∃ m, w' = w.drewN m := by
  obtain ⟨c0, c1, c2, c3⟩ := h.cells
  have hs := start_le s i
  have HE : Hid ((i : Int) - (startOf s i : Int) + 1 = ((i - startOf s i + 1 : Nat) : Int)) := by show _ = _; omega
  clear h
  generalize startOf s i = st at *
  go_enter Tryd.func59, Tryd.ntmps59
  go_wp2_with fail
  go_quiet (fail)
  go_wp2
  go_ret
  exact ⟨congrArg (fun z => Ending.returned (.int .i64 z)) HE.out, _, rfl⟩

theorem RdC.moved {w : World} {g : Nat} {s : ByteArray} {i : Nat} (h : RdC w g s i) {j : Nat} (h1 : lineOf s j = lineOf s i) (h2 : startOf s j = startOf s i) : RdC (w.setCell ⟨g, 1, none⟩ (.int .i64 (j : Int))) g s j := by
  unfold RdC
  rw [heap_setCell_same w g 1 _ _ _ h, h1, h2]
  rfl
theorem RdC.moved3 {w : World} {g : Nat} {s : ByteArray} {i : Nat} (h : RdC w g s i) {j : Nat} : RdC (((w.setCell ⟨g, 2, none⟩ (.int .i64 (lineOf s j : Int))).setCell ⟨g, 3, none⟩ (.int .i64 (startOf s j : Int))).setCell ⟨g, 1, none⟩ (.int .i64 (j : Int))) g s j := by
  unfold RdC
  have h1 := heap_setCell_same w g 2 _ _ (.int .i64 (lineOf s j : Int)) h
  have h2 := heap_setCell_same _ g 3 _ _ (.int .i64 (startOf s j : Int)) h1
  rw [heap_setCell_same _ g 1 _ _ _ h2]
  rfl
theorem lines_no (s : ByteArray) (c : Nat) : ∀ n, lastTo s c n < 0 → countTo s c n = 0
  | 0, _ => rfl
  | n + 1, h => by
    have h' : (if atB s n = c then (n : Int) else lastTo s c n) < 0 := h
    show countTo s c n + (if atB s n = c then 1 else 0) = 0
    by_cases hc : atB s n = c
    · rw [if_pos hc] at h'; omega
    · rw [if_neg hc] at h' ⊢; rw [lines_no s c n h']
theorem slice_str (s : ByteArray) (i j : Nat) (a b : Int) (ha : a = (i : Int)) (hb : b = (j : Int)) (h1 : i ≤ j) (h2 : j ≤ s.size) (w : World) :
    (Instr.slice 9 (.string s) (some (.int .i64 a)) (some (.int .i64 b)) none).run Tryd.prog w = .ok (.string (s.extract i j)) w := by
  subst ha hb
  go_simp
/-- What a move leaves. -/
def MvEnd (w : World) (g : Nat) (s : ByteArray) (j : Nat) (e : Ending) (w' : World) : Prop := e = .returned (.tuple #[]) ∧ RdC w' g s j ∧ Off g w w'

set_option maxRecDepth 100000 in
set_option maxHeartbeats 3200000 in
theorem move_any (g : Nat) (s : ByteArray) (i c : Nat) (w : World) (h : RdC w g s i) (hc : i + c ≤ s.size) (hz : s.size < 4611686018427387904) :
    Calls Tryd.prog 55 #[.pointer (some ⟨g, 0, none⟩), .int .i64 (c : Int)] w (MvEnd w g s (i + c)) := by
  have hpz : (s.extract i (i + c)).size = c := by rw [ByteArray.size_extract]; omega
  have hl := line_add hc c (Nat.le_refl _)
  have hst := start_add hc c (Nat.le_refl _)
  have hlast := fun w => lastIndexByte_any (s.extract i (i + c)) w (by omega)
  have hcnt := fun w => count_any (s.extract i (i + c)) w
  have hbd := last_bd (s.extract i (i + c)) 10 c
  have hno := lines_no (s.extract i (i + c)) 10 c
  rw [hpz] at hlast hcnt
  have hle := line_le s (i + c)
  obtain ⟨c0, c1, c2, c3⟩ := h.cells
  have f1 := h.thaw 1
  have f2 := h.thaw 2
  have f3 := h.thaw 3
  have HH : Hid (RdC w g s i) := h
  have hw1 : IntKind.i64.wrap ((i : Int) + (c : Int)) = ((i + c : Nat) : Int) := by rw [IntKind.wrap_i64]; omega
  have hsl := slice_str s i (i + c) (i : Int) ((i : Int) + (c : Int)) rfl (by omega) (by omega) hc
  generalize s.extract i (i + c) = ps at *
  clear h
  go_enter Tryd.func55, Tryd.ntmps55
  go_wp2_with fail
  go_quiet (fail)
  go_wp2_with fail
  refine (hlast _).mono ?_
  rintro e w1 ⟨rfl, rfl⟩
  generalize lastTo ps 10 c = la at *
  generalize countTo ps 10 c = ct at *
  by_cases h0 : la < 0
  · rw [if_pos h0] at hst
    have HE : Hid (MvEnd w g s (i + c) (.returned (.tuple #[])) ((w.drewN nq).setCell ⟨g, 1, none⟩ (.int .i64 ((i : Int) + (c : Int))))) := by
      refine ⟨rfl, ?_, ((Off.refl g w).drewN _).set _⟩
      rw [show ((i : Int) + (c : Int)) = ((i + c : Nat) : Int) by omega]
      exact (HH.out.drewN nq).moved (by rw [hl, hno h0]; rfl) (by omega)
    have hge : ¬ (0 : Int) ≤ la := by omega
    clear hst hno hl hbd hcnt hlast hle HH hpz h0
    go_wp2
    go_end0
    exact HE.out
  · rw [if_neg h0] at hst
    have HE : Hid (∀ n, MvEnd w g s (i + c) (.returned (.tuple #[])) ((((w.drewN n).setCell ⟨g, 2, none⟩ (.int .i64 ((lineOf s i : Int) + (ct : Int)))).setCell ⟨g, 3, none⟩ (.int .i64 ((i : Int) + la + 1))).setCell ⟨g, 1, none⟩ (.int .i64 ((i : Int) + (c : Int))))) := by
      intro n
      refine ⟨rfl, ?_, ((((Off.refl g w).drewN _).set _).set _).set _⟩
      rw [show ((i : Int) + (c : Int)) = ((i + c : Nat) : Int) by omega, show (lineOf s i : Int) + (ct : Int) = (lineOf s (i + c) : Int) by omega, ← hst]
      exact (HH.out.drewN n).moved3
    have hge : (0 : Int) ≤ la := by omega
    have hw2 : IntKind.i64.wrap ((lineOf s i : Int) + (ct : Int)) = (lineOf s i : Int) + (ct : Int) := by rw [IntKind.wrap_i64]; omega
    have hw3 : IntKind.i64.wrap ((i : Int) + la) = (i : Int) + la := by rw [IntKind.wrap_i64]; omega
    have hw4 : IntKind.i64.wrap ((i : Int) + la + 1) = (i : Int) + la + 1 := by rw [IntKind.wrap_i64]; omega
    clear hst hno hl hlast hle HH hpz h0
    generalize lineOf s i = li at *
    go_wp2_with fail
    refine region_late [(3, fun w' => w'.cell? ⟨g, 2, none⟩ = some (.int .i64 (li : Int)))] (by kernel_rfl) ?_
    have hHeld : AllL (w.drewN nq).drew [(3, fun w' => w'.cell? ⟨g, 2, none⟩ = some (.int .i64 (li : Int)))] := ⟨c2, trivial⟩
    refine late_free 0 (v := .pointer (some ⟨g, 0, none⟩)) rfl (by kernel_rfl) (by kernel_rfl) (by kernel_rfl) (by kernel_rfl) (by kernel_rfl) (by kernel_rfl) (fun _ _ _ h => h) (Or.inl ⟨by rfl, ?_⟩) hHeld ?_
    · (intro u _; go_simp)
    (try simp only [Act.put, List.setIfInBounds_toArray, List.set_cons_zero, List.set_cons_succ])
    refine late_free 1 (v := .pointer (some ⟨g, 0, none⟩)) rfl (by kernel_rfl) (by kernel_rfl) (by kernel_rfl) (by kernel_rfl) (by kernel_rfl) (by kernel_rfl) (fun _ _ _ h => h) (Or.inl ⟨by rfl, ?_⟩) hHeld ?_
    · (intro u _; go_simp)
    (try simp only [Act.put, List.setIfInBounds_toArray, List.set_cons_zero, List.set_cons_succ])
    refine late_free 2 (v := .pointer (some ⟨g, 2, none⟩)) rfl (by kernel_rfl) (by kernel_rfl) (by kernel_rfl) (by kernel_rfl) (by kernel_rfl) (by kernel_rfl) (fun _ _ _ h => h) (Or.inl ⟨by rfl, ?_⟩) hHeld ?_
    · (intro u _; go_simp)
    (try simp only [Act.put, List.setIfInBounds_toArray, List.set_cons_zero, List.set_cons_succ])
    refine late_take 3 (v := .int .i64 (li : Int)) rfl (by kernel_rfl) (List.Mem.head _) (by kernel_rfl) (by kernel_rfl) (by kernel_rfl) (by kernel_rfl) (fun _ _ _ h => h) (Or.inl ⟨by rfl, ?_⟩) hHeld ?_
    · (intro u hu; (try dsimp only at hu); go_simp)
    (try simp only [Act.put, List.setIfInBounds_toArray, List.set_cons_zero, List.set_cons_succ])
    refine late_free 4 (v := .string ps) rfl (by kernel_rfl) (by kernel_rfl) (by kernel_rfl) (by kernel_rfl) (by kernel_rfl) (by kernel_rfl) (fun _ _ _ h => h) (Or.inl ⟨by rfl, ?_⟩) hHeld ?_
    · (intro u _; go_simp)
    (try simp only [Act.put, List.setIfInBounds_toArray, List.set_cons_zero, List.set_cons_succ])
    refine late_step 5 (by kernel_rfl) rfl (fun K hK => ?_)
    go_simp
    refine (hcnt _).mono ?_
    rintro e w2 ⟨rfl, rfl⟩
    go_wp2_with fail
    refine hK.out _ _ (AllL.kept hHeld) ?_
    clear hK K
    (try simp only [Act.put, List.setIfInBounds_toArray, List.set_cons_zero, List.set_cons_succ])
    refine late_step 6 (by kernel_rfl) rfl (fun K hK => ?_)
    go_simp
    refine hK.out _ _ (AllL.kept hHeld) ?_
    clear hK K
    (try simp only [Act.put, List.setIfInBounds_toArray, List.set_cons_zero, List.set_cons_succ])
    refine late_step 7 (by kernel_rfl) rfl (fun K hK => ?_)
    go_simp
    refine hK.out _ _ (AllL.kept hHeld) ?_
    clear hK K
    (try simp only [Act.put, List.setIfInBounds_toArray, List.set_cons_zero, List.set_cons_succ])
    refine late_step 8 (by kernel_rfl) rfl (fun K hK => ?_)
    go_simp
    refine hK.out _ _ (AllL.kept hHeld) ?_
    clear hK K
    (try simp only [Act.put, List.setIfInBounds_toArray, List.set_cons_zero, List.set_cons_succ])
    refine late_step 9 (by kernel_rfl) rfl (fun K hK => ?_)
    go_simp
    refine hK.out _ _ ⟨Or.inl ⟨7, by kernel_rfl, by kernel_rfl⟩, trivial⟩ ?_
    clear hK K
    (try simp only [Act.put, List.setIfInBounds_toArray, List.set_cons_zero, List.set_cons_succ])
    refine late_done (by kernel_rfl) ?_ _
    clear hHeld
    clear hcnt
    go_wp2
    go_end0
    exact HE.out (nq + 1)
end Go.Proofs.YtlemnbegblpllaaDoor

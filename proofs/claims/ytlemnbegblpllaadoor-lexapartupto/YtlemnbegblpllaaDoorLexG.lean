/-
  Proved here: what taken and fault of package lex answer.
-/
import Derived.Test.YtlemnbegblpllaaDoorLexF
namespace Go.Proofs.YtlemnbegblpllaaDoor
open Go.RowKit

/-- The four cells of a fault. -/
def FtC (w : World) (g : Nat) (a b c d : Value) : Prop := w.heap[g]? = some (.cells #[a, b, c, d] 26 (0, 0))
theorem FtC.cells {w : World} {g : Nat} {a b c d : Value} (h : FtC w g a b c d) : w.cell? ⟨g, 0, none⟩ = some a ∧ w.cell? ⟨g, 1, none⟩ = some b ∧ w.cell? ⟨g, 2, none⟩ = some c ∧ w.cell? ⟨g, 3, none⟩ = some d := by
  simp only [World.cell?, FtC] at h ⊢
  rw [h]
  simp
theorem FtC.lt {w : World} {g : Nat} {a b c d : Value} (h : FtC w g a b c d) : g < w.heap.size := (Array.getElem?_eq_some_iff.1 h).1
theorem FtC.below {w w' : World} {g : Nat} {a b c d : Value} (h : FtC w g a b c d) (hb : Below w.heap.size w w') : FtC w' g a b c d := by
  unfold FtC; rw [hb.block _ h.lt]; exact h
theorem FtC.set {w : World} {r : Nat} {a b c d : Value} (h : FtC w r a b c d) {p : Addr} (hne : r ≠ p.block) (v : Value) : FtC (w.setCell p v) r a b c d := by
  unfold FtC; rw [Below.heap_setCell _ _ _ _ hne]; exact h
theorem ftc_new (w : World) {a b c d : Value} {k : Nat} (hk : w.heap.size = k) : FtC (w.alloc (.cells #[a, b, c, d] 26)) k a b c d := by subst hk; exact heap_alloc_new w _

theorem keepB2 {w w' : World} {p : Addr} {v : Value} (hb : Below w.heap.size w w') (h : w.cell? p = some v) : w'.cell? p = some v := by
  rw [hb.cell (p := p) (block_lt_of_cell h)]; exact h
/-- What is told of a place: a word, behind which the reader goes on, or a fault. -/
inductive Out where
  | tok (k : Int) (ms : ByteArray) (li co : Nat) (j : Nat)
  | flt (c : Int) (li co : Nat) (wd : ByteArray)
/-- What a call that tells it leaves. -/
def NxEnd (w : World) (g : Nat) (s : ByteArray) : Out → Value → World → Prop
  | .tok k ms li co j, v, w' => v = .tuple #[.agg #[.int .i8 k, .string ms, .int .i64 (li : Int), .int .i64 (co : Int)], .nilIface] ∧ RdC w' g s j ∧ Off g w w'
  | .flt c li co wd, v, w' => ∃ b, w.heap.size ≤ b ∧ v = .tuple #[.agg #[.int .i8 0, .string ⟨#[]⟩, .int .i64 0, .int .i64 0], .iface 50 (.pointer (some ⟨b, 0, none⟩))] ∧ FtC w' b (.int .i64 c) (.int .i64 (li : Int)) (.int .i64 (co : Int)) (.string wd) ∧ Off g w w'
theorem NxEnd.see {w : World} {g : Nat} {s : ByteArray} {o : Out} {v : Value} {w' : World} (h : NxEnd w g s o v w') : Off g w w' ∧ ∃ (a : Int) (b : ByteArray) (c d : Int) (ev : Value), v = .tuple #[.agg #[.int .i8 a, .string b, .int .i64 c, .int .i64 d], ev] := by
  cases o with
  | tok k ms li co j => exact ⟨h.2.2, _, _, _, _, _, h.1⟩
  | flt c li co wd => obtain ⟨b, _, h1, _, h2⟩ := h; exact ⟨h2, _, _, _, _, _, h1⟩
/-- What a callee told is handed on by way of a cell of the call's own. -/
theorem NxEnd.wrap {w w2 w3 : World} {g r : Nat} {s : ByteArray} {o : Out} {v : Value} (h : NxEnd w2 g s o v w3) (h2 : Off g w w2) (hr : w.heap.size ≤ r) (hr2 : r < w2.heap.size) (hg : g ≠ r) (a b c d : Value) :
    NxEnd w g s o v ((((w3.setCell ⟨r, 0, none⟩ a).setCell ⟨r, 1, none⟩ b).setCell ⟨r, 2, none⟩ c).setCell ⟨r, 3, none⟩ d) := by
  cases o with
  | tok k ms li co j =>
    obtain ⟨h1, h4, h5⟩ := h
    exact ⟨h1, ((((h4.set (p := ⟨r, 0, none⟩) hg _).set (p := ⟨r, 1, none⟩) hg _).set (p := ⟨r, 2, none⟩) hg _).set (p := ⟨r, 3, none⟩) hg _), (((((h2.trans h5).own (p := ⟨r, 0, none⟩) hr _).own (p := ⟨r, 1, none⟩) hr _).own (p := ⟨r, 2, none⟩) hr _).own (p := ⟨r, 3, none⟩) hr _)⟩
  | flt c li co wd =>
    obtain ⟨b, hb, h1, h4, h5⟩ := h
    exact ⟨b, Nat.le_trans h2.size hb, h1, ((((h4.set (p := ⟨r, 0, none⟩) (show b ≠ r by omega) _).set (p := ⟨r, 1, none⟩) (show b ≠ r by omega) _).set (p := ⟨r, 2, none⟩) (show b ≠ r by omega) _).set (p := ⟨r, 3, none⟩) (show b ≠ r by omega) _), (((((h2.trans h5).own (p := ⟨r, 0, none⟩) hr _).own (p := ⟨r, 1, none⟩) hr _).own (p := ⟨r, 2, none⟩) hr _).own (p := ⟨r, 3, none⟩) hr _)⟩

set_option maxRecDepth 100000 in
set_option maxHeartbeats 3200000 in
theorem taken_any (g : Nat) (s : ByteArray) (i j : Nat) (k : Int) (li co : Nat) (w : World) (h : RdC w g s i) (hij : i ≤ j) (hj : j ≤ s.size) (hz : s.size ≤ 281474976710656) (hl : lineOf s j = lineOf s i) (hst : startOf s j = startOf s i) (eli : lineOf s i = li) (eco : i - startOf s i + 1 = co) :
    Calls Tryd.prog 43 #[.pointer (some ⟨g, 0, none⟩), .int .i8 k, .int .i64 (j : Int)] w fun e w' => ∃ v, e = .returned v ∧ NxEnd w g s (.tok k (s.extract i j) li co j) v w' := by
  have hsl := slice_str s i j (i : Int) (j : Int) rfl rfl hij hj
  have hcl := fun w => clone_any (s.extract i j) w (by rw [ByteArray.size_extract]; omega)
  have htk := fun w h => token_any g s i j k (s.extract i j) li co w h (by omega) hl hst eli eco
  generalize s.extract i j = ms at *
  obtain ⟨W1, hW1⟩ : ∃ W1, W1 = w.alloc (.cells #[.int .i8 0, .string ⟨#[]⟩, .int .i64 0, .int .i64 0] 38) := ⟨_, rfl⟩
  have hk : RdC W1 g s i := by rw [hW1]; exact h.below (belowA1 w _)
  have hr : TkC W1 w.heap.size (.int .i8 0) (.string ⟨#[]⟩) (.int .i64 0) (.int .i64 0) := by rw [hW1]; exact tkc_new _ rfl
  have hb1 : Off g w W1 := by rw [hW1]; exact Off.of (belowA1 w _)
  have hgr : g < w.heap.size := h.lt
  have HW1 : Hid (W1 = w.alloc (.cells #[.int .i8 0, .string ⟨#[]⟩, .int .i64 0, .int .i64 0] 38)) := hW1
  clear hW1 h
  go_enter Tryd.func43, Tryd.ntmps43
  go_wp2_with fail
  rw [← HW1.out]
  obtain ⟨r, hr0⟩ : ∃ r, r = w.heap.size := ⟨_, rfl⟩
  rw [← hr0] at hr hgr ⊢
  have HR : Hid (w.heap.size ≤ r) := Nat.le_of_eq hr0.symm
  have hrg : r ≠ g := by omega
  clear HW1 hr0 hgr
  refine region_late [(6, fun w' => w'.cell? ⟨g, 0, none⟩ = some (.string s)), (10, fun w' => w'.cell? ⟨g, 1, none⟩ = some (.int .i64 (i : Int)))] (by kernel_rfl) ?_
  have D0 : Below W1.heap.size W1 W1.drew := (Below.refl _ _).drew
  have hHeld : AllL W1.drew [(6, fun w' => w'.cell? ⟨g, 0, none⟩ = some (.string s)), (10, fun w' => w'.cell? ⟨g, 1, none⟩ = some (.int .i64 (i : Int)))] := ⟨(hk.below D0).cells.1, (hk.below D0).cells.2.1, trivial⟩
  refine late_free 0 (v := .pointer (some ⟨g, 0, none⟩)) rfl (by kernel_rfl) (by kernel_rfl) (by kernel_rfl) (by kernel_rfl) (by kernel_rfl) (by kernel_rfl) (fun _ _ _ h => h) (Or.inl ⟨by rfl, ?_⟩) hHeld ?_
  · (intro u _; go_simp)
  (try simp only [Act.put, List.setIfInBounds_toArray, List.set_cons_zero, List.set_cons_succ])
  refine late_free 1 (v := .int .i8 k) rfl (by kernel_rfl) (by kernel_rfl) (by kernel_rfl) (by kernel_rfl) (by kernel_rfl) (by kernel_rfl) (fun _ _ _ h => h) (Or.inl ⟨by rfl, ?_⟩) hHeld ?_
  · (intro u _; go_simp)
  (try simp only [Act.put, List.setIfInBounds_toArray, List.set_cons_zero, List.set_cons_succ])
  refine late_free 2 (v := .int .i64 (j : Int)) rfl (by kernel_rfl) (by kernel_rfl) (by kernel_rfl) (by kernel_rfl) (by kernel_rfl) (by kernel_rfl) (fun _ _ _ h => h) (Or.inl ⟨by rfl, ?_⟩) hHeld ?_
  · (intro u _; go_simp)
  (try simp only [Act.put, List.setIfInBounds_toArray, List.set_cons_zero, List.set_cons_succ])
  refine late_free 3 (v := .pointer (some ⟨g, 0, none⟩)) rfl (by kernel_rfl) (by kernel_rfl) (by kernel_rfl) (by kernel_rfl) (by kernel_rfl) (by kernel_rfl) (fun _ _ _ h => h) (Or.inl ⟨by rfl, ?_⟩) hHeld ?_
  · (intro u _; go_simp)
  (try simp only [Act.put, List.setIfInBounds_toArray, List.set_cons_zero, List.set_cons_succ])
  refine late_free 4 (v := .pointer (some ⟨g, 0, none⟩)) rfl (by kernel_rfl) (by kernel_rfl) (by kernel_rfl) (by kernel_rfl) (by kernel_rfl) (by kernel_rfl) (fun _ _ _ h => h) (Or.inl ⟨by rfl, ?_⟩) hHeld ?_
  · (intro u _; go_simp)
  (try simp only [Act.put, List.setIfInBounds_toArray, List.set_cons_zero, List.set_cons_succ])
  refine late_free 5 (v := .pointer (some ⟨g, 0, none⟩)) rfl (by kernel_rfl) (by kernel_rfl) (by kernel_rfl) (by kernel_rfl) (by kernel_rfl) (by kernel_rfl) (fun _ _ _ h => h) (Or.inl ⟨by rfl, ?_⟩) hHeld ?_
  · (intro u _; go_simp)
  (try simp only [Act.put, List.setIfInBounds_toArray, List.set_cons_zero, List.set_cons_succ])
  refine late_take 6 (v := .string s) rfl (by kernel_rfl) (List.Mem.head _) (by kernel_rfl) (by kernel_rfl) (by kernel_rfl) (by kernel_rfl) (fun _ _ _ h => h) (Or.inl ⟨by rfl, ?_⟩) hHeld ?_
  · (intro u hu; (try dsimp only at hu); go_simp)
  (try simp only [Act.put, List.setIfInBounds_toArray, List.set_cons_zero, List.set_cons_succ])
  refine late_free 7 (v := .pointer (some ⟨g, 0, none⟩)) rfl (by kernel_rfl) (by kernel_rfl) (by kernel_rfl) (by kernel_rfl) (by kernel_rfl) (by kernel_rfl) (fun _ _ _ h => h) (Or.inl ⟨by rfl, ?_⟩) hHeld ?_
  · (intro u _; go_simp)
  (try simp only [Act.put, List.setIfInBounds_toArray, List.set_cons_zero, List.set_cons_succ])
  refine late_free 8 (v := .pointer (some ⟨g, 0, none⟩)) rfl (by kernel_rfl) (by kernel_rfl) (by kernel_rfl) (by kernel_rfl) (by kernel_rfl) (by kernel_rfl) (fun _ _ _ h => h) (Or.inl ⟨by rfl, ?_⟩) hHeld ?_
  · (intro u _; go_simp)
  (try simp only [Act.put, List.setIfInBounds_toArray, List.set_cons_zero, List.set_cons_succ])
  refine late_free 9 (v := .pointer (some ⟨g, 1, none⟩)) rfl (by kernel_rfl) (by kernel_rfl) (by kernel_rfl) (by kernel_rfl) (by kernel_rfl) (by kernel_rfl) (fun _ _ _ h => h) (Or.inl ⟨by rfl, ?_⟩) hHeld ?_
  · (intro u _; go_simp)
  (try simp only [Act.put, List.setIfInBounds_toArray, List.set_cons_zero, List.set_cons_succ])
  refine late_take 10 (v := .int .i64 (i : Int)) rfl (by kernel_rfl) (List.Mem.tail _ (List.Mem.head _)) (by kernel_rfl) (by kernel_rfl) (by kernel_rfl) (by kernel_rfl) (fun _ _ _ h => h) (Or.inl ⟨by rfl, ?_⟩) hHeld ?_
  · (intro u hu; (try dsimp only at hu); go_simp)
  (try simp only [Act.put, List.setIfInBounds_toArray, List.set_cons_zero, List.set_cons_succ])
  refine late_free 11 (v := .int .i64 (j : Int)) rfl (by kernel_rfl) (by kernel_rfl) (by kernel_rfl) (by kernel_rfl) (by kernel_rfl) (by kernel_rfl) (fun _ _ _ h => h) (Or.inl ⟨by rfl, ?_⟩) hHeld ?_
  · (intro u _; go_simp)
  (try simp only [Act.put, List.setIfInBounds_toArray, List.set_cons_zero, List.set_cons_succ])
  refine late_step 12 (by kernel_rfl) rfl (fun K hK => ?_)
  go_simp
  refine hK.out _ _ (AllL.kept hHeld) ?_
  clear hK K
  (try simp only [Act.put, List.setIfInBounds_toArray, List.set_cons_zero, List.set_cons_succ])
  refine late_step 13 (by kernel_rfl) rfl (fun K hK => ?_)
  go_simp
  refine (hcl _).mono ?_
  rintro e w3 ⟨rfl, b3⟩
  have B3 : Below W1.heap.size W1 w3 := bstep1 D0 b3
  clear hHeld
  have hHeld : AllL w3 [(6, fun w' => w'.cell? ⟨g, 0, none⟩ = some (.string s)), (10, fun w' => w'.cell? ⟨g, 1, none⟩ = some (.int .i64 (i : Int)))] := ⟨(hk.below B3).cells.1, (hk.below B3).cells.2.1, trivial⟩
  go_wp2_with fail
  refine hK.out _ _ (AllL.kept hHeld) ?_
  clear hK K
  (try simp only [Act.put, List.setIfInBounds_toArray, List.set_cons_zero, List.set_cons_succ])
  refine late_step 14 (by kernel_rfl) rfl (fun K hK => ?_)
  go_simp
  refine (htk _ (hk.below B3)).mono ?_
  rintro e w4 ⟨rfl, hk4, o4⟩
  have hr4 := (hr.below B3).off o4 hrg
  have hb4 := (hb1.trans (Off.of B3)).trans o4
  clear hHeld hk hr hb1 B3 D0 b3 o4 hcl htk hsl
  go_wp2_with fail
  refine hK.out _ _ ⟨Or.inl ⟨12, by kernel_rfl, by kernel_rfl⟩, Or.inl ⟨12, by kernel_rfl, by kernel_rfl⟩, trivial⟩ ?_
  clear hK K
  (try simp only [Act.put, List.setIfInBounds_toArray, List.set_cons_zero, List.set_cons_succ])
  have HW : Hid (TkC ((((w4.setCell ⟨r, 0, none⟩ (.int .i8 k)).setCell ⟨r, 1, none⟩ (.string ms)).setCell ⟨r, 2, none⟩ (.int .i64 (li : Int))).setCell ⟨r, 3, none⟩ (.int .i64 (co : Int))) r (.int .i8 k) (.string ms) (.int .i64 (li : Int)) (.int .i64 (co : Int))) := hr4.write _ _ _ _
  have HE : Hid (NxEnd w g s (.tok k ms li co j) (.tuple #[.agg #[.int .i8 k, .string ms, .int .i64 (li : Int), .int .i64 (co : Int)], .nilIface]) ((((w4.setCell ⟨r, 0, none⟩ (.int .i8 k)).setCell ⟨r, 1, none⟩ (.string ms)).setCell ⟨r, 2, none⟩ (.int .i64 (li : Int))).setCell ⟨r, 3, none⟩ (.int .i64 (co : Int)))) := ⟨rfl, ((((hk4.set (p := ⟨r, 0, none⟩) hrg.symm _).set (p := ⟨r, 1, none⟩) hrg.symm _).set (p := ⟨r, 2, none⟩) hrg.symm _).set (p := ⟨r, 3, none⟩) hrg.symm _), ((((hb4.own (p := ⟨r, 0, none⟩) HR.out _).own (p := ⟨r, 1, none⟩) HR.out _).own (p := ⟨r, 2, none⟩) HR.out _).own (p := ⟨r, 3, none⟩) HR.out _)⟩
  obtain ⟨z0, z1, z2, z3⟩ := hr4.cells
  have f0 := hr4.thaw 0
  have f1 := hr4.thaw 1
  have f2 := hr4.thaw 2
  have f3 := hr4.thaw 3
  clear hk4 hb4 hr4 hrg hl hst eli eco hij hj hz
  refine late_2 15 16 (by kernel_rfl) rfl rfl (fun K hK => ?_) (fun K hK => ?_)
  · go_simp
    refine hK.out _ _ ⟨Or.inl ⟨12, by kernel_rfl, by kernel_rfl⟩, Or.inl ⟨12, by kernel_rfl, by kernel_rfl⟩, trivial⟩ ?_
    clear hK K
    (try simp only [Act.put, List.setIfInBounds_toArray, List.set_cons_zero, List.set_cons_succ])
    refine late_step 16 (by kernel_rfl) rfl (fun K hK => ?_)
    go_simp
    refine hK.out _ _ ⟨Or.inl ⟨12, by kernel_rfl, by kernel_rfl⟩, Or.inl ⟨12, by kernel_rfl, by kernel_rfl⟩, trivial⟩ ?_
    clear hK K
    (try simp only [Act.put, List.setIfInBounds_toArray, List.set_cons_zero, List.set_cons_succ])
    refine late_step 17 (by kernel_rfl) rfl (fun K hK => ?_)
    go_simp
    refine hK.out _ _ ⟨Or.inl ⟨12, by kernel_rfl, by kernel_rfl⟩, Or.inl ⟨12, by kernel_rfl, by kernel_rfl⟩, trivial⟩ ?_
    clear hK K
    (try simp only [Act.put, List.setIfInBounds_toArray, List.set_cons_zero, List.set_cons_succ])
    refine late_step 18 (by kernel_rfl) rfl (fun K hK => ?_)
    go_simp
    refine hK.out _ _ ⟨Or.inl ⟨12, by kernel_rfl, by kernel_rfl⟩, Or.inl ⟨12, by kernel_rfl, by kernel_rfl⟩, trivial⟩ ?_
    clear hK K
    (try simp only [Act.put, List.setIfInBounds_toArray, List.set_cons_zero, List.set_cons_succ])
    refine late_done (by kernel_rfl) ?_ _
    go_wp2_with fail
    (try simp only [Exit.inBlock, Exit.then])
    exact bodyPost_ret (results_ctx (p := 6) (u := 7) rfl _ _ r 38 _ (0, 0) _ rfl HW.out Tryd.underlying38 rfl (by kernel_rfl)) rfl ⟨_, rfl, HE.out⟩
  · go_simp
    refine hK.out _ _ ⟨Or.inl ⟨12, by kernel_rfl, by kernel_rfl⟩, Or.inl ⟨12, by kernel_rfl, by kernel_rfl⟩, trivial⟩ ?_
    clear hK K
    (try simp only [Act.put, List.setIfInBounds_toArray, List.set_cons_zero, List.set_cons_succ])
    refine late_step 15 (by kernel_rfl) rfl (fun K hK => ?_)
    go_simp
    refine hK.out _ _ ⟨Or.inl ⟨12, by kernel_rfl, by kernel_rfl⟩, Or.inl ⟨12, by kernel_rfl, by kernel_rfl⟩, trivial⟩ ?_
    clear hK K
    (try simp only [Act.put, List.setIfInBounds_toArray, List.set_cons_zero, List.set_cons_succ])
    refine late_step 17 (by kernel_rfl) rfl (fun K hK => ?_)
    go_simp
    refine hK.out _ _ ⟨Or.inl ⟨12, by kernel_rfl, by kernel_rfl⟩, Or.inl ⟨12, by kernel_rfl, by kernel_rfl⟩, trivial⟩ ?_
    clear hK K
    (try simp only [Act.put, List.setIfInBounds_toArray, List.set_cons_zero, List.set_cons_succ])
    refine late_step 18 (by kernel_rfl) rfl (fun K hK => ?_)
    go_simp
    refine hK.out _ _ ⟨Or.inl ⟨12, by kernel_rfl, by kernel_rfl⟩, Or.inl ⟨12, by kernel_rfl, by kernel_rfl⟩, trivial⟩ ?_
    clear hK K
    (try simp only [Act.put, List.setIfInBounds_toArray, List.set_cons_zero, List.set_cons_succ])
    refine late_done (by kernel_rfl) ?_ _
    go_wp2_with fail
    (try simp only [Exit.inBlock, Exit.then])
    exact bodyPost_ret (results_ctx (p := 6) (u := 7) rfl _ _ r 38 _ (0, 0) _ rfl HW.out Tryd.underlying38 rfl (by kernel_rfl)) rfl ⟨_, rfl, HE.out⟩

set_option maxRecDepth 100000 in
set_option maxHeartbeats 3200000 in
theorem fault_any (g : Nat) (s : ByteArray) (i j : Nat) (c : Int) (li co : Nat) (w : World) (h : RdC w g s i) (hij : i ≤ j) (hj : j ≤ s.size) (hz : s.size ≤ 281474976710656) (eli : lineOf s i = li) (eco : i - startOf s i + 1 = co) :
    Calls Tryd.prog 38 #[.pointer (some ⟨g, 0, none⟩), .int .i64 c, .int .i64 (j : Int)] w fun e w' => ∃ v, e = .returned v ∧ NxEnd w g s (.flt c li co (s.extract i j)) v w' := by
  have hsl := slice_str s i j (i : Int) (j : Int) rfl rfl hij hj
  have hcl := fun w => clone_any (s.extract i j) w (by rw [ByteArray.size_extract]; omega)
  have hcol := fun w h => col_below g s i w h (by omega)
  rw [eco] at hcol
  generalize s.extract i j = ms at *
  obtain ⟨W1, hW1⟩ : ∃ W1, W1 = w.alloc (.cells #[.int .i8 0, .string ⟨#[]⟩, .int .i64 0, .int .i64 0] 38) := ⟨_, rfl⟩
  have hk : RdC W1 g s i := by rw [hW1]; exact h.below (belowA1 w _)
  have hr : TkC W1 w.heap.size (.int .i8 0) (.string ⟨#[]⟩) (.int .i64 0) (.int .i64 0) := by rw [hW1]; exact tkc_new _ rfl
  have hb1 : Off g w W1 := by rw [hW1]; exact Off.of (belowA1 w _)
  have hgr : g < w.heap.size := h.lt
  have HW1 : Hid (W1 = w.alloc (.cells #[.int .i8 0, .string ⟨#[]⟩, .int .i64 0, .int .i64 0] 38)) := hW1
  clear hW1 h
  go_enter Tryd.func38, Tryd.ntmps38
  go_wp2_with fail
  rw [← HW1.out]
  obtain ⟨r, hr0⟩ : ∃ r, r = w.heap.size := ⟨_, rfl⟩
  rw [← hr0] at hr hgr ⊢
  have HR : Hid (w.heap.size ≤ r) := Nat.le_of_eq hr0.symm
  have hrg : r ≠ g := by omega
  clear HW1 hr0 hgr
  obtain ⟨c0, c1, c2, c3⟩ := hk.cells
  go_region_held3 (fun w' => w'.cell? ⟨g, 0, none⟩ = some (.string s) ∧ w'.cell? ⟨g, 1, none⟩ = some (.int .i64 (i : Int))) (((try dsimp only); go_split_ands; refine ⟨?_, ?_⟩ <;> first | exact keepB2 (by with_reducible assumption) (by with_reducible assumption) | go_keep)) (first
    | (go_at_call 58; refine (hcl _).mono ?_; rintro e w2 ⟨rfl, b2⟩))
  have B2 : Below W1.heap.size W1 w2 := bstep1 (Below.refl _ _).drew b2
  replace hk := hk.below B2
  replace hr := hr.below B2
  replace hb1 := hb1.trans (Off.of B2)
  clear c0 c1 c2 c3 b2 B2 hcl hsl
  go_wp2_with fail
  refine region_late [(5, fun w' => w'.cell? ⟨g, 2, none⟩ = some (.int .i64 (li : Int)))] (by kernel_rfl) ?_
  have D0 : Below w2.heap.size w2 w2.drew := (Below.refl _ _).drew
  replace hk := hk.below D0
  replace hr := hr.below D0
  replace hb1 := hb1.trans (Off.of D0)
  clear D0
  have hHeld : AllL w2.drew [(5, fun w' => w'.cell? ⟨g, 2, none⟩ = some (.int .i64 (li : Int)))] := ⟨by rw [← eli]; exact hk.cells.2.2.1, trivial⟩
  refine late_free 0 (v := .agg #[.int .i8 0, .string ⟨#[]⟩, .int .i64 0, .int .i64 0]) rfl (by kernel_rfl) (by kernel_rfl) (by kernel_rfl) (by kernel_rfl) (by kernel_rfl) (by kernel_rfl) (fun _ _ _ h => h) (Or.inl ⟨by rfl, ?_⟩) hHeld ?_
  · (intro u _; go_simp)
  (try simp only [Act.put, List.setIfInBounds_toArray, List.set_cons_zero, List.set_cons_succ])
  refine late_free 1 (v := .int .i64 c) rfl (by kernel_rfl) (by kernel_rfl) (by kernel_rfl) (by kernel_rfl) (by kernel_rfl) (by kernel_rfl) (fun _ _ _ h => h) (Or.inl ⟨by rfl, ?_⟩) hHeld ?_
  · (intro u _; go_simp)
  (try simp only [Act.put, List.setIfInBounds_toArray, List.set_cons_zero, List.set_cons_succ])
  refine late_free 2 (v := .pointer (some ⟨g, 0, none⟩)) rfl (by kernel_rfl) (by kernel_rfl) (by kernel_rfl) (by kernel_rfl) (by kernel_rfl) (by kernel_rfl) (fun _ _ _ h => h) (Or.inl ⟨by rfl, ?_⟩) hHeld ?_
  · (intro u _; go_simp)
  (try simp only [Act.put, List.setIfInBounds_toArray, List.set_cons_zero, List.set_cons_succ])
  refine late_free 3 (v := .pointer (some ⟨g, 0, none⟩)) rfl (by kernel_rfl) (by kernel_rfl) (by kernel_rfl) (by kernel_rfl) (by kernel_rfl) (by kernel_rfl) (fun _ _ _ h => h) (Or.inl ⟨by rfl, ?_⟩) hHeld ?_
  · (intro u _; go_simp)
  (try simp only [Act.put, List.setIfInBounds_toArray, List.set_cons_zero, List.set_cons_succ])
  refine late_free 4 (v := .pointer (some ⟨g, 2, none⟩)) rfl (by kernel_rfl) (by kernel_rfl) (by kernel_rfl) (by kernel_rfl) (by kernel_rfl) (by kernel_rfl) (fun _ _ _ h => h) (Or.inl ⟨by rfl, ?_⟩) hHeld ?_
  · (intro u _; go_simp)
  (try simp only [Act.put, List.setIfInBounds_toArray, List.set_cons_zero, List.set_cons_succ])
  refine late_take 5 (v := .int .i64 (li : Int)) rfl (by kernel_rfl) (List.Mem.head _) (by kernel_rfl) (by kernel_rfl) (by kernel_rfl) (by kernel_rfl) (fun _ _ _ h => h) (Or.inl ⟨by rfl, ?_⟩) hHeld ?_
  · (intro u hu; (try dsimp only at hu); go_simp)
  (try simp only [Act.put, List.setIfInBounds_toArray, List.set_cons_zero, List.set_cons_succ])
  refine late_free 6 (v := .pointer (some ⟨g, 0, none⟩)) rfl (by kernel_rfl) (by kernel_rfl) (by kernel_rfl) (by kernel_rfl) (by kernel_rfl) (by kernel_rfl) (fun _ _ _ h => h) (Or.inl ⟨by rfl, ?_⟩) hHeld ?_
  · (intro u _; go_simp)
  (try simp only [Act.put, List.setIfInBounds_toArray, List.set_cons_zero, List.set_cons_succ])
  refine late_free 8 (v := .string ms) rfl (by kernel_rfl) (by kernel_rfl) (by kernel_rfl) (by kernel_rfl) (by kernel_rfl) (by kernel_rfl) (fun _ _ _ h => h) (Or.inl ⟨by rfl, ?_⟩) hHeld ?_
  · (intro u _; go_simp)
  (try simp only [Act.put, List.setIfInBounds_toArray, List.set_cons_zero, List.set_cons_succ])
  refine late_step 7 (by kernel_rfl) rfl (fun K hK => ?_)
  go_simp
  refine (hcol _ hk).mono ?_
  rintro e w3 ⟨rfl, b3⟩
  replace hk := hk.below b3
  replace hr := hr.below b3
  replace hb1 := hb1.trans (Off.of b3)
  clear hHeld b3 hcol
  have hHeld : AllL w3 [(5, fun w' => w'.cell? ⟨g, 2, none⟩ = some (.int .i64 (li : Int)))] := ⟨by rw [← eli]; exact hk.cells.2.2.1, trivial⟩
  go_wp2_with fail
  refine hK.out _ _ (AllL.kept hHeld) ?_
  clear hK K
  (try simp only [Act.put, List.setIfInBounds_toArray, List.set_cons_zero, List.set_cons_succ])
  refine late_2 9 12 (by kernel_rfl) rfl rfl (fun K hK => ?_) (fun K hK => ?_)
  · go_simp
    refine hK.out _ _ (AllL.kept hHeld) ?_
    clear hK K
    (try simp only [Act.put, List.setIfInBounds_toArray, List.set_cons_zero, List.set_cons_succ])
    refine late_2 10 12 (by kernel_rfl) rfl rfl (fun K hK => ?_) (fun K hK => ?_)
    · go_simp
      obtain ⟨u6, hw⟩ : ∃ u, u = w3.alloc (.cells #[.int .i64 c, .int .i64 (li : Int), .int .i64 (co : Int), .string ms] 26) := ⟨_, rfl⟩
      have hf : FtC u6 w3.heap.size (.int .i64 c) (.int .i64 (li : Int)) (.int .i64 (co : Int)) (.string ms) := by rw [hw]; exact ftc_new _ rfl
      have HB : Hid (w.heap.size ≤ w3.heap.size ∧ w3.heap.size ≠ r) := ⟨hb1.size, by have := hr.lt; omega⟩
      have b5 : Below w3.heap.size w3 u6 := by rw [hw]; exact belowA1 _ _
      rw [← hw]
      obtain ⟨pv, hpv⟩ : ∃ v, v = w3.heap.size := ⟨_, rfl⟩
      rw [← hpv] at hf HB ⊢
      replace hk := hk.below b5
      replace hr := hr.below b5
      replace hb1 := hb1.trans (Off.of b5)
      clear hHeld hw hpv b5
      have hHeld : AllL u6 [(5, fun w' => w'.cell? ⟨g, 2, none⟩ = some (.int .i64 (li : Int)))] := ⟨by rw [← eli]; exact hk.cells.2.2.1, trivial⟩
      refine hK.out _ _ (AllL.kept hHeld) ?_
      clear hK K
      (try simp only [Act.put, List.setIfInBounds_toArray, List.set_cons_zero, List.set_cons_succ])
      refine late_2 11 12 (by kernel_rfl) rfl rfl (fun K hK => ?_) (fun K hK => ?_)
      · go_simp
        refine hK.out _ _ (AllL.kept hHeld) ?_
        clear hK K
        (try simp only [Act.put, List.setIfInBounds_toArray, List.set_cons_zero, List.set_cons_succ])
        refine late_step 12 (by kernel_rfl) rfl (fun K hK => ?_)
        obtain ⟨z0, z1, z2, z3⟩ := hr.cells
        have f0 := hr.thaw 0
        have f1 := hr.thaw 1
        have f2 := hr.thaw 2
        have f3 := hr.thaw 3
        go_simp
        obtain ⟨u8, hw⟩ : ∃ u, u = ((((u6.setCell ⟨r, 0, none⟩ (.int .i8 0)).setCell ⟨r, 1, none⟩ (.string ⟨#[]⟩)).setCell ⟨r, 2, none⟩ (.int .i64 0)).setCell ⟨r, 3, none⟩ (.int .i64 0)) := ⟨_, rfl⟩
        replace hk : RdC u8 g s i := by rw [hw]; exact ((((hk.set (p := ⟨r, 0, none⟩) hrg.symm _).set (p := ⟨r, 1, none⟩) hrg.symm _).set (p := ⟨r, 2, none⟩) hrg.symm _).set (p := ⟨r, 3, none⟩) hrg.symm _)
        replace hr : TkC u8 r (.int .i8 0) (.string ⟨#[]⟩) (.int .i64 0) (.int .i64 0) := by rw [hw]; exact hr.write _ _ _ _
        replace hb1 : Off g w u8 := by rw [hw]; exact ((((hb1.own (p := ⟨r, 0, none⟩) HR.out _).own (p := ⟨r, 1, none⟩) HR.out _).own (p := ⟨r, 2, none⟩) HR.out _).own (p := ⟨r, 3, none⟩) HR.out _)
        replace hf : FtC u8 pv (.int .i64 c) (.int .i64 (li : Int)) (.int .i64 (co : Int)) (.string ms) := by rw [hw]; exact ((((hf.set (p := ⟨r, 0, none⟩) HB.out.2 _).set (p := ⟨r, 1, none⟩) HB.out.2 _).set (p := ⟨r, 2, none⟩) HB.out.2 _).set (p := ⟨r, 3, none⟩) HB.out.2 _)
        rw [← hw]
        clear hHeld hw z0 z1 z2 z3 f0 f1 f2 f3
        have hHeld : AllL u8 [(5, fun w' => w'.cell? ⟨g, 2, none⟩ = some (.int .i64 (li : Int)))] := ⟨by rw [← eli]; exact hk.cells.2.2.1, trivial⟩
        refine hK.out _ _ (AllL.kept hHeld) ?_
        clear hK K
        (try simp only [Act.put, List.setIfInBounds_toArray, List.set_cons_zero, List.set_cons_succ])
        refine late_step 13 (by kernel_rfl) rfl (fun K hK => ?_)
        go_simp
        refine hK.out _ _ (AllL.kept hHeld) ?_
        clear hK K
        (try simp only [Act.put, List.setIfInBounds_toArray, List.set_cons_zero, List.set_cons_succ])
        refine late_done (by kernel_rfl) ?_ _
        have HE : Hid (NxEnd w g s (.flt c li co ms) (.tuple #[.agg #[.int .i8 0, .string ⟨#[]⟩, .int .i64 0, .int .i64 0], .iface 50 (.pointer (some ⟨pv, 0, none⟩))]) u8) := ⟨pv, HB.out.1, rfl, hf, hb1⟩
        have HW : Hid (TkC u8 r (.int .i8 0) (.string ⟨#[]⟩) (.int .i64 0) (.int .i64 0)) := hr
        clear hHeld hk hr hb1 hf HB
        go_wp2_with fail
        (try simp only [Exit.inBlock, Exit.then])
        exact bodyPost_ret (results_ctx (p := 6) (u := 7) rfl _ _ r 38 _ (0, 0) _ rfl HW.out Tryd.underlying38 rfl (by kernel_rfl)) rfl ⟨_, rfl, HE.out⟩
      · obtain ⟨z0, z1, z2, z3⟩ := hr.cells
        have f0 := hr.thaw 0
        have f1 := hr.thaw 1
        have f2 := hr.thaw 2
        have f3 := hr.thaw 3
        go_simp
        obtain ⟨u7, hw⟩ : ∃ u, u = ((((u6.setCell ⟨r, 0, none⟩ (.int .i8 0)).setCell ⟨r, 1, none⟩ (.string ⟨#[]⟩)).setCell ⟨r, 2, none⟩ (.int .i64 0)).setCell ⟨r, 3, none⟩ (.int .i64 0)) := ⟨_, rfl⟩
        replace hk : RdC u7 g s i := by rw [hw]; exact ((((hk.set (p := ⟨r, 0, none⟩) hrg.symm _).set (p := ⟨r, 1, none⟩) hrg.symm _).set (p := ⟨r, 2, none⟩) hrg.symm _).set (p := ⟨r, 3, none⟩) hrg.symm _)
        replace hr : TkC u7 r (.int .i8 0) (.string ⟨#[]⟩) (.int .i64 0) (.int .i64 0) := by rw [hw]; exact hr.write _ _ _ _
        replace hb1 : Off g w u7 := by rw [hw]; exact ((((hb1.own (p := ⟨r, 0, none⟩) HR.out _).own (p := ⟨r, 1, none⟩) HR.out _).own (p := ⟨r, 2, none⟩) HR.out _).own (p := ⟨r, 3, none⟩) HR.out _)
        replace hf : FtC u7 pv (.int .i64 c) (.int .i64 (li : Int)) (.int .i64 (co : Int)) (.string ms) := by rw [hw]; exact ((((hf.set (p := ⟨r, 0, none⟩) HB.out.2 _).set (p := ⟨r, 1, none⟩) HB.out.2 _).set (p := ⟨r, 2, none⟩) HB.out.2 _).set (p := ⟨r, 3, none⟩) HB.out.2 _)
        rw [← hw]
        clear hHeld hw z0 z1 z2 z3 f0 f1 f2 f3
        have hHeld : AllL u7 [(5, fun w' => w'.cell? ⟨g, 2, none⟩ = some (.int .i64 (li : Int)))] := ⟨by rw [← eli]; exact hk.cells.2.2.1, trivial⟩
        refine hK.out _ _ (AllL.kept hHeld) ?_
        clear hK K
        (try simp only [Act.put, List.setIfInBounds_toArray, List.set_cons_zero, List.set_cons_succ])
        refine late_step 11 (by kernel_rfl) rfl (fun K hK => ?_)
        go_simp
        refine hK.out _ _ (AllL.kept hHeld) ?_
        clear hK K
        (try simp only [Act.put, List.setIfInBounds_toArray, List.set_cons_zero, List.set_cons_succ])
        refine late_step 13 (by kernel_rfl) rfl (fun K hK => ?_)
        go_simp
        refine hK.out _ _ (AllL.kept hHeld) ?_
        clear hK K
        (try simp only [Act.put, List.setIfInBounds_toArray, List.set_cons_zero, List.set_cons_succ])
        refine late_done (by kernel_rfl) ?_ _
        have HE : Hid (NxEnd w g s (.flt c li co ms) (.tuple #[.agg #[.int .i8 0, .string ⟨#[]⟩, .int .i64 0, .int .i64 0], .iface 50 (.pointer (some ⟨pv, 0, none⟩))]) u7) := ⟨pv, HB.out.1, rfl, hf, hb1⟩
        have HW : Hid (TkC u7 r (.int .i8 0) (.string ⟨#[]⟩) (.int .i64 0) (.int .i64 0)) := hr
        clear hHeld hk hr hb1 hf HB
        go_wp2_with fail
        (try simp only [Exit.inBlock, Exit.then])
        exact bodyPost_ret (results_ctx (p := 6) (u := 7) rfl _ _ r 38 _ (0, 0) _ rfl HW.out Tryd.underlying38 rfl (by kernel_rfl)) rfl ⟨_, rfl, HE.out⟩
    · obtain ⟨z0, z1, z2, z3⟩ := hr.cells
      have f0 := hr.thaw 0
      have f1 := hr.thaw 1
      have f2 := hr.thaw 2
      have f3 := hr.thaw 3
      go_simp
      obtain ⟨u6, hw⟩ : ∃ u, u = ((((w3.setCell ⟨r, 0, none⟩ (.int .i8 0)).setCell ⟨r, 1, none⟩ (.string ⟨#[]⟩)).setCell ⟨r, 2, none⟩ (.int .i64 0)).setCell ⟨r, 3, none⟩ (.int .i64 0)) := ⟨_, rfl⟩
      replace hk : RdC u6 g s i := by rw [hw]; exact ((((hk.set (p := ⟨r, 0, none⟩) hrg.symm _).set (p := ⟨r, 1, none⟩) hrg.symm _).set (p := ⟨r, 2, none⟩) hrg.symm _).set (p := ⟨r, 3, none⟩) hrg.symm _)
      replace hr : TkC u6 r (.int .i8 0) (.string ⟨#[]⟩) (.int .i64 0) (.int .i64 0) := by rw [hw]; exact hr.write _ _ _ _
      replace hb1 : Off g w u6 := by rw [hw]; exact ((((hb1.own (p := ⟨r, 0, none⟩) HR.out _).own (p := ⟨r, 1, none⟩) HR.out _).own (p := ⟨r, 2, none⟩) HR.out _).own (p := ⟨r, 3, none⟩) HR.out _)
      rw [← hw]
      clear hHeld hw z0 z1 z2 z3 f0 f1 f2 f3
      have hHeld : AllL u6 [(5, fun w' => w'.cell? ⟨g, 2, none⟩ = some (.int .i64 (li : Int)))] := ⟨by rw [← eli]; exact hk.cells.2.2.1, trivial⟩
      refine hK.out _ _ (AllL.kept hHeld) ?_
      clear hK K
      (try simp only [Act.put, List.setIfInBounds_toArray, List.set_cons_zero, List.set_cons_succ])
      refine late_step 10 (by kernel_rfl) rfl (fun K hK => ?_)
      go_simp
      obtain ⟨u7, hw⟩ : ∃ u, u = u6.alloc (.cells #[.int .i64 c, .int .i64 (li : Int), .int .i64 (co : Int), .string ms] 26) := ⟨_, rfl⟩
      have hf : FtC u7 u6.heap.size (.int .i64 c) (.int .i64 (li : Int)) (.int .i64 (co : Int)) (.string ms) := by rw [hw]; exact ftc_new _ rfl
      have HB : Hid (w.heap.size ≤ u6.heap.size ∧ u6.heap.size ≠ r) := ⟨hb1.size, by have := hr.lt; omega⟩
      have b5 : Below u6.heap.size u6 u7 := by rw [hw]; exact belowA1 _ _
      rw [← hw]
      obtain ⟨pv, hpv⟩ : ∃ v, v = u6.heap.size := ⟨_, rfl⟩
      rw [← hpv] at hf HB ⊢
      replace hk := hk.below b5
      replace hr := hr.below b5
      replace hb1 := hb1.trans (Off.of b5)
      clear hHeld hw hpv b5
      have hHeld : AllL u7 [(5, fun w' => w'.cell? ⟨g, 2, none⟩ = some (.int .i64 (li : Int)))] := ⟨by rw [← eli]; exact hk.cells.2.2.1, trivial⟩
      refine hK.out _ _ (AllL.kept hHeld) ?_
      clear hK K
      (try simp only [Act.put, List.setIfInBounds_toArray, List.set_cons_zero, List.set_cons_succ])
      refine late_step 11 (by kernel_rfl) rfl (fun K hK => ?_)
      go_simp
      refine hK.out _ _ (AllL.kept hHeld) ?_
      clear hK K
      (try simp only [Act.put, List.setIfInBounds_toArray, List.set_cons_zero, List.set_cons_succ])
      refine late_step 13 (by kernel_rfl) rfl (fun K hK => ?_)
      go_simp
      refine hK.out _ _ (AllL.kept hHeld) ?_
      clear hK K
      (try simp only [Act.put, List.setIfInBounds_toArray, List.set_cons_zero, List.set_cons_succ])
      refine late_done (by kernel_rfl) ?_ _
      have HE : Hid (NxEnd w g s (.flt c li co ms) (.tuple #[.agg #[.int .i8 0, .string ⟨#[]⟩, .int .i64 0, .int .i64 0], .iface 50 (.pointer (some ⟨pv, 0, none⟩))]) u7) := ⟨pv, HB.out.1, rfl, hf, hb1⟩
      have HW : Hid (TkC u7 r (.int .i8 0) (.string ⟨#[]⟩) (.int .i64 0) (.int .i64 0)) := hr
      clear hHeld hk hr hb1 hf HB
      go_wp2_with fail
      (try simp only [Exit.inBlock, Exit.then])
      exact bodyPost_ret (results_ctx (p := 6) (u := 7) rfl _ _ r 38 _ (0, 0) _ rfl HW.out Tryd.underlying38 rfl (by kernel_rfl)) rfl ⟨_, rfl, HE.out⟩
  · obtain ⟨z0, z1, z2, z3⟩ := hr.cells
    have f0 := hr.thaw 0
    have f1 := hr.thaw 1
    have f2 := hr.thaw 2
    have f3 := hr.thaw 3
    go_simp
    obtain ⟨u5, hw⟩ : ∃ u, u = ((((w3.setCell ⟨r, 0, none⟩ (.int .i8 0)).setCell ⟨r, 1, none⟩ (.string ⟨#[]⟩)).setCell ⟨r, 2, none⟩ (.int .i64 0)).setCell ⟨r, 3, none⟩ (.int .i64 0)) := ⟨_, rfl⟩
    replace hk : RdC u5 g s i := by rw [hw]; exact ((((hk.set (p := ⟨r, 0, none⟩) hrg.symm _).set (p := ⟨r, 1, none⟩) hrg.symm _).set (p := ⟨r, 2, none⟩) hrg.symm _).set (p := ⟨r, 3, none⟩) hrg.symm _)
    replace hr : TkC u5 r (.int .i8 0) (.string ⟨#[]⟩) (.int .i64 0) (.int .i64 0) := by rw [hw]; exact hr.write _ _ _ _
    replace hb1 : Off g w u5 := by rw [hw]; exact ((((hb1.own (p := ⟨r, 0, none⟩) HR.out _).own (p := ⟨r, 1, none⟩) HR.out _).own (p := ⟨r, 2, none⟩) HR.out _).own (p := ⟨r, 3, none⟩) HR.out _)
    rw [← hw]
    clear hHeld hw z0 z1 z2 z3 f0 f1 f2 f3
    have hHeld : AllL u5 [(5, fun w' => w'.cell? ⟨g, 2, none⟩ = some (.int .i64 (li : Int)))] := ⟨by rw [← eli]; exact hk.cells.2.2.1, trivial⟩
    refine hK.out _ _ (AllL.kept hHeld) ?_
    clear hK K
    (try simp only [Act.put, List.setIfInBounds_toArray, List.set_cons_zero, List.set_cons_succ])
    refine late_step 9 (by kernel_rfl) rfl (fun K hK => ?_)
    go_simp
    refine hK.out _ _ (AllL.kept hHeld) ?_
    clear hK K
    (try simp only [Act.put, List.setIfInBounds_toArray, List.set_cons_zero, List.set_cons_succ])
    refine late_step 10 (by kernel_rfl) rfl (fun K hK => ?_)
    go_simp
    obtain ⟨u7, hw⟩ : ∃ u, u = u5.alloc (.cells #[.int .i64 c, .int .i64 (li : Int), .int .i64 (co : Int), .string ms] 26) := ⟨_, rfl⟩
    have hf : FtC u7 u5.heap.size (.int .i64 c) (.int .i64 (li : Int)) (.int .i64 (co : Int)) (.string ms) := by rw [hw]; exact ftc_new _ rfl
    have HB : Hid (w.heap.size ≤ u5.heap.size ∧ u5.heap.size ≠ r) := ⟨hb1.size, by have := hr.lt; omega⟩
    have b5 : Below u5.heap.size u5 u7 := by rw [hw]; exact belowA1 _ _
    rw [← hw]
    obtain ⟨pv, hpv⟩ : ∃ v, v = u5.heap.size := ⟨_, rfl⟩
    rw [← hpv] at hf HB ⊢
    replace hk := hk.below b5
    replace hr := hr.below b5
    replace hb1 := hb1.trans (Off.of b5)
    clear hHeld hw hpv b5
    have hHeld : AllL u7 [(5, fun w' => w'.cell? ⟨g, 2, none⟩ = some (.int .i64 (li : Int)))] := ⟨by rw [← eli]; exact hk.cells.2.2.1, trivial⟩
    refine hK.out _ _ (AllL.kept hHeld) ?_
    clear hK K
    (try simp only [Act.put, List.setIfInBounds_toArray, List.set_cons_zero, List.set_cons_succ])
    refine late_step 11 (by kernel_rfl) rfl (fun K hK => ?_)
    go_simp
    refine hK.out _ _ (AllL.kept hHeld) ?_
    clear hK K
    (try simp only [Act.put, List.setIfInBounds_toArray, List.set_cons_zero, List.set_cons_succ])
    refine late_step 13 (by kernel_rfl) rfl (fun K hK => ?_)
    go_simp
    refine hK.out _ _ (AllL.kept hHeld) ?_
    clear hK K
    (try simp only [Act.put, List.setIfInBounds_toArray, List.set_cons_zero, List.set_cons_succ])
    refine late_done (by kernel_rfl) ?_ _
    have HE : Hid (NxEnd w g s (.flt c li co ms) (.tuple #[.agg #[.int .i8 0, .string ⟨#[]⟩, .int .i64 0, .int .i64 0], .iface 50 (.pointer (some ⟨pv, 0, none⟩))]) u7) := ⟨pv, HB.out.1, rfl, hf, hb1⟩
    have HW : Hid (TkC u7 r (.int .i8 0) (.string ⟨#[]⟩) (.int .i64 0) (.int .i64 0)) := hr
    clear hHeld hk hr hb1 hf HB
    go_wp2_with fail
    (try simp only [Exit.inBlock, Exit.then])
    exact bodyPost_ret (results_ctx (p := 6) (u := 7) rfl _ _ r 38 _ (0, 0) _ rfl HW.out Tryd.underlying38 rfl (by kernel_rfl)) rfl ⟨_, rfl, HE.out⟩
end Go.Proofs.YtlemnbegblpllaaDoor

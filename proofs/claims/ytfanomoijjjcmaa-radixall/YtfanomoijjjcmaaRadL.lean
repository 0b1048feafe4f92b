/-
  Proved here: slices.Clone at the three types; what package radix's step stands on.
-/
import Derived.Test.YtfanomoijjjcmaaRadK
namespace Go.Proofs.Ytfanomoijjjcmaa
open Go.RowKit Go.Shelf

theorem OwnK.lit0 (k : IntKind) (e : Nat) (w : World) : OwnK k w.heap.size e (w.alloc (.cells #[] e)) (.slice (some ⟨w.heap.size, 0, none⟩) 0 0) [] :=
  ⟨rfl, .inr ⟨w.heap.size, 0, #[], rfl, Nat.le_refl _, heap_alloc_new w _, Nat.le_refl _, Nat.zero_le _, rfl, rfl⟩⟩
/-- The digits while the next ones are made: those from j on are. -/
def stR (ss : List Int) (a : Int) (j : Nat) : List Int := (List.range ss.length).map fun i => if i < j then digAt ss a i else digAt ss (a + 1) i
theorem stR_len (ss : List Int) (a : Int) (j : Nat) : (stR ss a j).length = ss.length := by simp [stR]
theorem stR_all (ss : List Int) (a : Int) : stR ss a ss.length = dgs ss a := by
  apply List.ext_getElem
  · simp [stR, dgs]
  · intro i h1 h2
    have : i < ss.length := by simp [stR] at h1; omega
    simp [stR, dgs, this]
theorem stR_none (ss : List Int) (a : Int) : stR ss a 0 = dgs ss (a + 1) := by simp [stR, dgs]
theorem stR_get (ss : List Int) (a : Int) (j : Nat) (hj : j < ss.length) : (stR ss a (j + 1)).getD j 0 = digAt ss a j := by
  rw [List.getD_eq_getElem?_getD]; simp [stR, hj]
theorem stR_nine {ss : List Int} {a : Int} (h1 : ∀ z ∈ ss, 1 ≤ z) {j : Nat} (hj : j < ss.length) (hd : pr (ss.drop (j + 1)) ∣ a + 1) (h9 : digAt ss a j = ss.getD j 0 - 1) : (stR ss a (j + 1)).set j 0 = stR ss a j := by
  have h0 := (next_nine h1 hj hd h9).2
  apply List.ext_getElem
  · simp [stR]
  · intro i g1 g2
    have hi : i < ss.length := by simp [stR] at g2; omega
    rw [List.getElem_set]
    by_cases hij : j = i
    · subst hij; simp [stR, h0]
    · have : (i < j + 1) ↔ (i < j) := by omega
      simp [stR, hij, this]
theorem stR_more {ss : List Int} {a : Int} (h1 : ∀ z ∈ ss, 1 ≤ z) {j : Nat} (hj : j < ss.length) (hd : pr (ss.drop (j + 1)) ∣ a + 1) (h9 : digAt ss a j ≠ ss.getD j 0 - 1) : (stR ss a (j + 1)).set j (digAt ss a j + 1) = dgs ss (a + 1) := by
  obtain ⟨hn, h0⟩ := next_more h1 hj hd h9
  apply List.ext_getElem
  · simp [stR, dgs]
  · intro i g1 g2
    have hi : i < ss.length := by simp [dgs] at g2; omega
    rw [List.getElem_set]
    by_cases hij : j = i
    · subst hij; simp [dgs, h0]
    · by_cases hlt : i < j
      · have h2 := next_same (a := a) h1 hlt hn
        have : i < j + 1 := by omega
        simp [stR, dgs, hij, this, h2]
      · have : ¬ i < j + 1 := by omega
        simp [stR, dgs, hij, this]
theorem callsIn_rec {F : Fence} {n : Nat} {P : Program} {f : Nat} {args : Array Value} {W : World} {fn : FuncId} {tmps : Array Value} {ps : Array Tmp} {ca cb : Code} {d l : Nat} {Dn : World → Prop} {St : Code → World → Prop}
    (h : ∀ lo, lo = recOf fn tmps ps ca cb d .ready none → CallsIn F n P f args (W.alloc (.loop lo)) fun e W2 => (∃ v, e = .returned v) ∧ ∃ pe : Option Code, W2.heap[l]? = some (.loop { lo with state := (if pe.isNone then .ready else .done), pending := pe }) ∧ W2.heap[d]? = some (.deferred (some [])) ∧ lastly Dn St pe W2) :
    CallsIn F n P f args (W.alloc (.loop (recOf fn tmps ps ca cb d .ready none))) fun e W2 => (∃ v, e = .returned v) ∧ ∃ pe : Option Code, W2.heap[l]? = some (.loop (recOf fn tmps ps ca cb d (if pe.isNone then .ready else .done) pe)) ∧ W2.heap[d]? = some (.deferred (some [])) ∧ lastly Dn St pe W2 := h _ rfl
/-- How memory stands while step goes: the digits from j on are made. -/
structure StC (K : IntKind) (e t : Nat) (w : World) (v : Value) (ss : List Int) (L : List Int) (g s : Nat) (lo : Loop) (W : World) : Prop where
  row : W.heap[g]? = some (.cells (L.map (Value.int K)).toArray e (0, 0))
  box : W.heap[s]? = some (.cells #[.slice (some ⟨g, 0, none⟩) ss.length ss.length] t (0, 0))
  src : W.heap[s + 1]? = some (.cells #[v] t (0, 0))
  dfr : W.heap[s + 2]? = some (.deferred (some []))
  rcd : W.heap[s + 3]? = some (.loop lo)
  grn : w.grownBy W (some g)
section
variable {K : IntKind} {e t : Nat} {w : World} {v : Value} {ss L : List Int} {g s : Nat} {lo : Loop} {W : World}
theorem StC.put (h : StC K e t w v ss L g s lo W) (hg : g < s) (hs : w.heap.size ≤ s) (lo' : Loop) : StC K e t w v ss L g s lo' (W.putObj (s + 3) (.loop lo')) := by
  have hl : s + 3 < W.heap.size := (Array.getElem?_eq_some_iff.1 h.rcd).1
  refine ⟨?_, ?_, ?_, ?_, World.putObj_heap_same hl, ⟨h.grn.os, h.grn.tape, h.grn.output, by simpa using h.grn.size, fun q hq hr => ?_⟩⟩
  · rw [World.putObj_heap_other (by omega)]; exact h.row
  · rw [World.putObj_heap_other (by omega)]; exact h.box
  · rw [World.putObj_heap_other (by omega)]; exact h.src
  · rw [World.putObj_heap_other (by omega)]; exact h.dfr
  · rw [World.putObj_heap_other (by omega)]; exact h.grn.block q hq hr
theorem StC.set (h : StC K e t w v ss L g s lo W) (hg : g < s) (j : Nat) (z : Int) : StC K e t w v ss (L.set j z) g s lo (W.setCell ⟨g, j, none⟩ (.int K z)) := by
  refine ⟨?_, ?_, ?_, ?_, ?_, ⟨h.grn.os, h.grn.tape, h.grn.output, by simpa [World.setCell] using h.grn.size, fun q hq hr => ?_⟩⟩
  · rw [heap_setCell_same W g j _ _ _ h.row, List.setIfInBounds_toArray, List.map_set]
  · rw [Below.heap_setCell _ _ _ _ (show s ≠ g by omega)]; exact h.box
  · rw [Below.heap_setCell _ _ _ _ (show s + 1 ≠ g by omega)]; exact h.src
  · rw [Below.heap_setCell _ _ _ _ (show s + 2 ≠ g by omega)]; exact h.dfr
  · rw [Below.heap_setCell _ _ _ _ (show s + 3 ≠ g by omega)]; exact h.rcd
  · rw [Below.heap_setCell _ _ _ _ (show q ≠ g from fun e => hr (by rw [e]))]; exact h.grn.block q hq hr
theorem StC.cells (h : StC K e t w v ss L g s lo W) {j : Nat} (hj : j < L.length) : W.cell? ⟨s, 0, none⟩ = some (.slice (some ⟨g, 0, none⟩) ss.length ss.length) ∧ W.cell? ⟨g, j, none⟩ = some (.int K (L.getD j 0)) ∧ W.frozen? ⟨g, j, none⟩ = false :=
  ⟨by simp [World.cell?, h.box], cell_row h.row hj, frozen_of_row W _ _ _ _ h.row⟩
end

set_option maxRecDepth 100000 in
set_option maxHeartbeats 1600000 in
theorem cloneI (v : Value) (zs : List Int) (w : World) (hv : RK .i64 w v zs) (hz : zs.length ≤ 17592186043904) :
    Calls Try.prog 61 #[v] w fun e w' => ∃ u, e = .returned u ∧ OwnK .i64 w.heap.size 3 w' u zs ∧ Below w.heap.size w w' := by
  have hv0 := hv
  obtain ⟨ao, cap, rfl, hc, hm, hnil, -, -⟩ := hv
  obtain ⟨i0, hi, hz0, hz1, hz2⟩ := info_parts Try.infoI
  unfold maxLen at hm
  rcases ao with _ | ad
  · have := hnil rfl
    subst this
    have hz : zs = [] := List.eq_nil_of_length_eq_zero (by omega)
    subst hz
    clear hv0 hnil
    have heq : ∀ w, (binOp .eql 25 (.slice none 0 0) (.slice none 0 0)).run Try.prog w = .ok (.bool true) w := fun _ => by kernel_rfl
    go_enter Try.func61, Try.ntmps61
    go_wp2
    go_ret
    exact ⟨_, rfl, OwnK.of_nil _ _ _ _, Below.refl _ _⟩
  · clear hnil
    obtain ⟨n, hn⟩ : ∃ n, zs.length = n := ⟨_, rfl⟩
    rw [hn] at hc hz hv0 ⊢
    have HN : Hid (zs.length = n) := hn
    clear hn
    have H0 : Hid (OwnK .i64 w.heap.size 3 (w.alloc (.cells #[] 3)) (.slice (some ⟨w.heap.size, 0, none⟩) 0 0) []) := OwnK.lit0 _ _ _
    have hR : RK .i64 (w.alloc (.cells #[] 3)) (.slice (some ad) n cap) zs := hv0.alloc _
    have hB3 : ∀ o, w.heap.size ≤ (w.alloc o).heap.size := fun o => by simp
    clear hv0
    have heq : ∀ w, (binOp .eql 25 (.slice (some ad) n cap) (.slice none 0 0)).run Try.prog w = .ok (.bool false) w := fun _ => by kernel_rfl
    go_enter Try.func61, Try.ntmps61
    go_wp2_with (at_builtin; refine wpList_appK _ rfl _ _ 25 rfl .i64 w.heap.size 3 i0 8 Try.underlying25 hi hz0 hz1 hz2 _ _ [] zs rfl H0.out rfl hR (by unfold maxLen; rw [HN.out]; simp; omega) (by rw [HN.out]; simp; omega) (hB3 _) ?_)
    intro v1 w1 ho1 hg1
    have HB : Hid (Below w.heap.size w w1) := H0.out.grown ((Below.refl _ _).alloc (Nat.le_refl _) _) (hB3 _) hg1
    have HO : Hid (OwnK .i64 w.heap.size 3 w1 v1 zs) := by have := ho1; simpa [Hid] using this
    clear ho1 hg1 hR
    go_wp2
    go_ret
    exact ⟨_, rfl, HO.out, HB.out⟩

set_option maxRecDepth 100000 in
set_option maxHeartbeats 1600000 in
theorem cloneJ (v : Value) (zs : List Int) (w : World) (hv : RK .i32 w v zs) (hz : zs.length ≤ 17592186043904) :
    Calls Try.prog 64 #[v] w fun e w' => ∃ u, e = .returned u ∧ OwnK .i32 w.heap.size 21 w' u zs ∧ Below w.heap.size w w' := by
  have hv0 := hv
  obtain ⟨ao, cap, rfl, hc, hm, hnil, -, -⟩ := hv
  obtain ⟨i0, hi, hz0, hz1, hz2⟩ := info_parts Try.infoJ
  unfold maxLen at hm
  rcases ao with _ | ad
  · have := hnil rfl
    subst this
    have hz : zs = [] := List.eq_nil_of_length_eq_zero (by omega)
    subst hz
    clear hv0 hnil
    have heq : ∀ w, (binOp .eql 32 (.slice none 0 0) (.slice none 0 0)).run Try.prog w = .ok (.bool true) w := fun _ => by kernel_rfl
    go_enter Try.func64, Try.ntmps64
    go_wp2
    go_ret
    exact ⟨_, rfl, OwnK.of_nil _ _ _ _, Below.refl _ _⟩
  · clear hnil
    obtain ⟨n, hn⟩ : ∃ n, zs.length = n := ⟨_, rfl⟩
    rw [hn] at hc hz hv0 ⊢
    have HN : Hid (zs.length = n) := hn
    clear hn
    have H0 : Hid (OwnK .i32 w.heap.size 21 (w.alloc (.cells #[] 21)) (.slice (some ⟨w.heap.size, 0, none⟩) 0 0) []) := OwnK.lit0 _ _ _
    have hR : RK .i32 (w.alloc (.cells #[] 21)) (.slice (some ad) n cap) zs := hv0.alloc _
    have hB3 : ∀ o, w.heap.size ≤ (w.alloc o).heap.size := fun o => by simp
    clear hv0
    have heq : ∀ w, (binOp .eql 32 (.slice (some ad) n cap) (.slice none 0 0)).run Try.prog w = .ok (.bool false) w := fun _ => by kernel_rfl
    go_enter Try.func64, Try.ntmps64
    go_wp2_with (at_builtin; refine wpList_appK _ rfl _ _ 32 rfl .i32 w.heap.size 21 i0 4 Try.underlying32 hi hz0 hz1 hz2 _ _ [] zs rfl H0.out rfl hR (by unfold maxLen; rw [HN.out]; simp; omega) (by rw [HN.out]; simp; omega) (hB3 _) ?_)
    intro v1 w1 ho1 hg1
    have HB : Hid (Below w.heap.size w w1) := H0.out.grown ((Below.refl _ _).alloc (Nat.le_refl _) _) (hB3 _) hg1
    have HO : Hid (OwnK .i32 w.heap.size 21 w1 v1 zs) := by have := ho1; simpa [Hid] using this
    clear ho1 hg1 hR
    go_wp2
    go_ret
    exact ⟨_, rfl, HO.out, HB.out⟩

set_option maxRecDepth 100000 in
set_option maxHeartbeats 1600000 in
theorem cloneS (v : Value) (zs : List Int) (w : World) (hv : RK .u16 w v zs) (hz : zs.length ≤ 17592186043904) :
    Calls Try.prog 67 #[v] w fun e w' => ∃ u, e = .returned u ∧ OwnK .u16 w.heap.size 36 w' u zs ∧ Below w.heap.size w w' := by
  have hv0 := hv
  obtain ⟨ao, cap, rfl, hc, hm, hnil, -, -⟩ := hv
  obtain ⟨i0, hi, hz0, hz1, hz2⟩ := info_parts Try.infoS
  unfold maxLen at hm
  rcases ao with _ | ad
  · have := hnil rfl
    subst this
    have hz : zs = [] := List.eq_nil_of_length_eq_zero (by omega)
    subst hz
    clear hv0 hnil
    have heq : ∀ w, (binOp .eql 37 (.slice none 0 0) (.slice none 0 0)).run Try.prog w = .ok (.bool true) w := fun _ => by kernel_rfl
    go_enter Try.func67, Try.ntmps67
    go_wp2
    go_ret
    exact ⟨_, rfl, OwnK.of_nil _ _ _ _, Below.refl _ _⟩
  · clear hnil
    obtain ⟨n, hn⟩ : ∃ n, zs.length = n := ⟨_, rfl⟩
    rw [hn] at hc hz hv0 ⊢
    have HN : Hid (zs.length = n) := hn
    clear hn
    have H0 : Hid (OwnK .u16 w.heap.size 36 (w.alloc (.cells #[] 36)) (.slice (some ⟨w.heap.size, 0, none⟩) 0 0) []) := OwnK.lit0 _ _ _
    have hR : RK .u16 (w.alloc (.cells #[] 36)) (.slice (some ad) n cap) zs := hv0.alloc _
    have hB3 : ∀ o, w.heap.size ≤ (w.alloc o).heap.size := fun o => by simp
    clear hv0
    have heq : ∀ w, (binOp .eql 37 (.slice (some ad) n cap) (.slice none 0 0)).run Try.prog w = .ok (.bool false) w := fun _ => by kernel_rfl
    go_enter Try.func67, Try.ntmps67
    go_wp2_with (at_builtin; refine wpList_appK _ rfl _ _ 37 rfl .u16 w.heap.size 36 i0 2 Try.underlying37 hi hz0 hz1 hz2 _ _ [] zs rfl H0.out rfl hR (by unfold maxLen; rw [HN.out]; simp; omega) (by rw [HN.out]; simp; omega) (hB3 _) ?_)
    intro v1 w1 ho1 hg1
    have HB : Hid (Below w.heap.size w w1) := H0.out.grown ((Below.refl _ _).alloc (Nat.le_refl _) _) (hB3 _) hg1
    have HO : Hid (OwnK .u16 w.heap.size 36 w1 v1 zs) := by have := ho1; simpa [Hid] using this
    clear ho1 hg1 hR
    go_wp2
    go_ret
    exact ⟨_, rfl, HO.out, HB.out⟩
end Go.Proofs.Ytfanomoijjjcmaa

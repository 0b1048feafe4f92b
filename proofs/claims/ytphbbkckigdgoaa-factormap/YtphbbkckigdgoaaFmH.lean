/-
  Proved here: package factor's Map of a table that may not be, and without a function; the law's is at texts.
-/
import Derived.Test.YtphbbkckigdgoaaFmF
import Derived.Test.YtphbbkckigdgoaaFacAI
namespace Go.Proofs.Ytphbbkckigdgoaa
set_option linter.unusedVariables false
open Go.RowKit Go.Shelf Go.Lib Go.Sort
set_option maxRecDepth 100000 in
set_option maxHeartbeats 6400000 in
theorem mapNone (s z c : Value) (w : World) :
    Calls Try.prog 10 #[.agg #[s, z, c], .nilFunc] w fun e w' => e = .returned (.tuple #[.agg #[.slice none 0 0, .slice none 0 0, .slice none 0 0], .int .i64 2]) ∧ Below w.heap.size w w' := by
  have HB : Hid (BCell 24 ((w.alloc (.cells #[s, z, c] 24)).alloc (.cells #[.slice none 0 0, .slice none 0 0, .slice none 0 0] 24)) (w.heap.size + 1) (.slice none 0 0) (.slice none 0 0) (.slice none 0 0)) := BCell.new _ (by simp)
  have hfn : ∀ w, (binOp .eql 52 .nilFunc .nilFunc).run Try.prog w = .ok (.bool true) w := fun _ => by kernel_rfl
  go_enter Try.func10, Try.ntmps10
  go_wp2
  exact bodyPost_ret (results_ctB (p := 4) (u := 5) rfl _ _ (w.heap.size + 1) 24 _ (0, 0) _ rfl HB.out Try.underlying24 rfl (by kernel_rfl)) rfl ⟨rfl, bstepB (belowB w _) (belowB _ _)⟩
set_option maxRecDepth 100000 in
set_option maxHeartbeats 6400000 in
theorem mapBad (s z : Value) (cO : Option Addr) (m cC : Nat) (xs zs : List Int) (sb : Nat) (r : Int) (w : World) (hs : RK .i64 w s xs) (hz : RK .i64 w z zs) (hm : m ≤ 9223372036854775807) (hr : r = chkE xs zs m) (hr0 : r ≠ 0) :
    Calls Try.prog 7 #[.agg #[s, z, .slice cO m cC], .func (.func 8) #[] #[.pointer (some ⟨sb, 0, none⟩)]] w fun e w' => e = .returned (.tuple #[.agg #[.slice none 0 0, .slice none 0 0, .slice none 0 0], .int .i64 r]) ∧ Below w.heap.size w w' := by
  obtain ⟨W1, hW1⟩ : ∃ W1, W1 = (w.alloc (.cells #[s, z, .slice cO m cC] 24)).alloc (.cells #[.slice none 0 0, .slice none 0 0, .slice none 0 0] 33) := ⟨_, rfl⟩
  obtain ⟨g, hg⟩ : ∃ g, g = w.heap.size := ⟨_, rfl⟩
  have HQA : Hid (BCell 24 W1 g s z (.slice cO m cC)) := by show BCell _ _ _ _ _ _; rw [hW1]; exact (BCell.new w hg.symm).step _
  have HQR : Hid (BCell 33 W1 (g + 1) (.slice none 0 0) (.slice none 0 0) (.slice none 0 0)) := by show BCell _ _ _ _ _ _; rw [hW1]; exact BCell.new _ (by simp [hg])
  have HB0 : Hid (Below w.heap.size w W1) := by show Below _ _ _; rw [hW1]; exact bstepB (belowB w _) (belowB _ _)
  have CK := checkI s z xs zs cO m cC W1 (hs.below (Nat.le_refl _) HB0.out) (hz.below (Nat.le_refl _) HB0.out) hm
  rw [← hr] at CK
  have HCK : Hid _ := CK
  have HG : Hid (g = w.heap.size) := hg
  have HW1 : Hid (W1 = (w.alloc (.cells #[s, z, .slice cO m cC] 24)).alloc (.cells #[.slice none 0 0, .slice none 0 0, .slice none 0 0] 33)) := hW1
  have hne : (r != 0) = true := by simpa using hr0
  have hfn : ∀ w, (binOp .eql 36 (.func (.func 8) #[] #[.pointer (some ⟨sb, 0, none⟩)]) .nilFunc).run Try.prog w = .ok (.bool false) w := fun _ => by kernel_rfl
  clear hW1 hg CK hr hr0 hs hz
  go_enter Try.func7, Try.ntmps7
  go_upto_region 1 with fail
  rw [← HW1.out, ← HG.out]
  clear HW1
  obtain ⟨ca0, ca1, ca2⟩ := HQA.out.cells
  go_wp2_with fail
  clear hfn
  refine Calls.mono HCK.out ?_
  rintro e W3 ⟨rfl, b3⟩
  have qr := HQR.out.below b3
  obtain ⟨r0, r1, r2⟩ := qr.cells
  have f0 := qr.thaw 0
  have f1 := qr.thaw 1
  have f2 := qr.thaw 2
  have hlt := qr.lt
  obtain ⟨WF, hWF⟩ : ∃ u, u = ((W3.setCell ⟨g + 1, 0, none⟩ (.slice none 0 0)).setCell ⟨g + 1, 1, none⟩ (.slice none 0 0)).setCell ⟨g + 1, 2, none⟩ (.slice none 0 0) := ⟨_, rfl⟩
  have HWF : Hid (BCell 33 WF (g + 1) (.slice none 0 0) (.slice none 0 0) (.slice none 0 0)) := by show BCell _ _ _ _ _ _; rw [hWF]; exact qr.write _ _ _
  have HEQ : Hid (WF = ((W3.setCell ⟨g + 1, 0, none⟩ (.slice none 0 0)).setCell ⟨g + 1, 1, none⟩ (.slice none 0 0)).setCell ⟨g + 1, 2, none⟩ (.slice none 0 0)) := hWF
  have HRES : Hid (Below w.heap.size w WF) := by
    have hb := bstepB HB0.out b3
    have := HG.out
    show Below _ _ _
    rw [hWF]
    exact ((hb.setCell (p := ⟨g + 1, 0, none⟩) (by show w.heap.size ≤ g + 1; omega) _).setCell (p := ⟨g + 1, 1, none⟩) (by show w.heap.size ≤ g + 1; omega) _).setCell (p := ⟨g + 1, 2, none⟩) (by show w.heap.size ≤ g + 1; omega) _
  clear hWF qr hlt b3 ca0 ca1 ca2 HCK
  go_wp2_with fail
  (try simp only [Exit.inBlock, Exit.then])
  rw [← HEQ.out]
  exact bodyPost_ret (results_ctB (p := 4) (u := 5) rfl _ _ (g + 1) 33 _ (0, 0) _ rfl HWF.out Try.underlying33 rfl (by kernel_rfl)) rfl ⟨rfl, HRES.out⟩
set_option maxRecDepth 100000 in
set_option maxHeartbeats 6400000 in
theorem isS (b1 b2 b3 s z cv : Value) (xs zs : List Int) (ts : List ByteArray) (m : Nat) (w : World) (h1 : RK .i64 w b1 xs) (h2 : RK .i64 w b2 zs) (h3 : RG Value.string w b3 ts) (hs : RK .i64 w s xs) (hz : RK .i64 w z zs) (hc : RG Value.string w cv ts) :
    Calls Try.prog 14 #[.iface 45 (.agg #[]), .agg #[b1, b2, b3], .agg #[s, z, .int .i64 m], cv] w fun e w' => e = .returned (.bool true) ∧ Below w.heap.size w w' := by
  obtain ⟨W1, hW1⟩ : ∃ W1, W1 = (w.alloc (.cells #[b1, b2, b3] 33)).alloc (.cells #[s, z, .int .i64 m] 29) := ⟨_, rfl⟩
  obtain ⟨g, hg⟩ : ∃ g, g = w.heap.size := ⟨_, rfl⟩
  have HQA : Hid (BCell 33 W1 g b1 b2 b3) := by show BCell _ _ _ _ _ _; rw [hW1]; exact (BCell.new w hg.symm).step _
  have HQB : Hid (BCell 29 W1 (g + 1) s z (.int .i64 m)) := by show BCell _ _ _ _ _ _; rw [hW1]; exact BCell.new _ (by simp [hg])
  have HB0 : Hid (Below w.heap.size w W1) := by show Below _ _ _; rw [hW1]; exact bstepB (belowB w _) (belowB _ _)
  have HG : Hid (g = w.heap.size) := hg
  have HW1 : Hid (W1 = (w.alloc (.cells #[b1, b2, b3] 33)).alloc (.cells #[s, z, .int .i64 m] 29)) := hW1
  have HI1 : Hid (∀ W, Below w.heap.size w W → Calls Try.prog 13 #[b1, s] W fun e w' => e = .returned (.bool true) ∧ Below W.heap.size W w') := fun W b => ints13 _ _ xs W (h1.below (Nat.le_refl _) b) (hs.below (Nat.le_refl _) b)
  have HI2 : Hid (∀ W, Below w.heap.size w W → Calls Try.prog 13 #[b2, z] W fun e w' => e = .returned (.bool true) ∧ Below W.heap.size W w') := fun W b => ints13 _ _ zs W (h2.below (Nat.le_refl _) b) (hz.below (Nat.le_refl _) b)
  have HI3 : Hid (∀ W, Below w.heap.size w W → Calls Try.prog 20 #[.iface 45 (.agg #[]), b3, cv] W fun e w' => e = .returned (.bool true) ∧ Below W.heap.size W w') := fun W b => cellsAreS _ _ ts W (h3.below (Nat.le_refl _) b) (hc.below (Nat.le_refl _) b)
  obtain ⟨p1, p2, p3, rfl⟩ : ∃ o n k, b1 = .slice o n k := by obtain ⟨ao, cap, e⟩ := h1.rg.sl; exact ⟨_, _, _, e⟩
  obtain ⟨q1, q2, q3, rfl⟩ : ∃ o n k, b2 = .slice o n k := by obtain ⟨ao, cap, e⟩ := h2.rg.sl; exact ⟨_, _, _, e⟩
  obtain ⟨r1, r2, r3, rfl⟩ : ∃ o n k, b3 = .slice o n k := by obtain ⟨ao, cap, e⟩ := h3.sl; exact ⟨_, _, _, e⟩
  obtain ⟨s1, s2, s3, rfl⟩ : ∃ o n k, s = .slice o n k := by obtain ⟨ao, cap, e⟩ := hs.rg.sl; exact ⟨_, _, _, e⟩
  obtain ⟨z1, z2, z3, rfl⟩ : ∃ o n k, z = .slice o n k := by obtain ⟨ao, cap, e⟩ := hz.rg.sl; exact ⟨_, _, _, e⟩
  clear hW1 hg h1 h2 h3 hs hz hc
  go_enter Try.func14, Try.ntmps14
  go_upto_region 1 with fail
  rw [← HW1.out, ← HG.out]
  clear HW1
  obtain ⟨ca0, ca1, ca2⟩ := HQA.out.cells
  obtain ⟨cb0, cb1, cb2⟩ := HQB.out.cells
  have C1 : Hid _ := HI1.out W1 HB0.out
  go_wp2_with fail
  refine Calls.mono C1.out ?_
  rintro e y1 ⟨rfl, b1⟩
  have HB1 : Hid (Below W1.heap.size W1 y1) := b1
  clear C1 b1 ca0 ca1 ca2 cb0 cb1 cb2
  obtain ⟨ca0, ca1, ca2⟩ := (HQA.out.below HB1.out).cells
  obtain ⟨cb0, cb1, cb2⟩ := (HQB.out.below HB1.out).cells
  have C2 : Hid _ := HI2.out y1 (bstepB HB0.out HB1.out)
  go_wp2_with fail
  refine Calls.mono C2.out ?_
  rintro e y2 ⟨rfl, b2⟩
  have HB2 : Hid (Below W1.heap.size W1 y2) := bstepB HB1.out b2
  clear C2 b2 ca0 ca1 ca2 cb0 cb1 cb2
  obtain ⟨ca0, ca1, ca2⟩ := (HQA.out.below HB2.out).cells
  obtain ⟨cb0, cb1, cb2⟩ := (HQB.out.below HB2.out).cells
  have C3 : Hid _ := HI3.out y2 (bstepB HB0.out HB2.out)
  go_wp2_with fail
  refine Calls.mono C3.out ?_
  rintro e y3 ⟨rfl, b3⟩
  clear C3
  go_wp2
  go_ret
  exact ⟨rfl, bstepB (bstepB HB0.out HB2.out) b3⟩
end Go.Proofs.Ytphbbkckigdgoaa

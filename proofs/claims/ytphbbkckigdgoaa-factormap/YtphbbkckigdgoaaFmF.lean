/-
  Proved here: the closure that the law hands to Map: it notes each cell, and answers how many there were.
-/
import Derived.Test.YtphbbkckigdgoaaFmB
import Derived.Test.YtphbbkckigdgoaaFmC
namespace Go.Proofs.Ytphbbkckigdgoaa
set_option linter.unusedVariables false
open Go.RowKit Go.Shelf Go.Lib Go.Sort
/-- What was noted: a box, and a row of the call's own. -/
structure SnC (B : Nat) (w : World) (sb : Nat) (sv : Value) (L : List Int) : Prop where
  box : w.heap[sb]? = some (.cells #[sv] 22 (0, 0))
  row : OG (Value.int .i64) B 3 w sv L
  lt : sb < B
/-- All is as it was but for a box and a row. -/
structure FrC (w w' : World) (sb : Nat) (r : Option Nat) : Prop where
  os : w'.os = w.os
  tape : w'.tape = w.tape
  output : w'.output = w.output
  size : w.heap.size ≤ w'.heap.size
  block : ∀ q, q < w.heap.size → q ≠ sb → r ≠ some q → w'.heap[q]? = w.heap[q]?
set_option maxRecDepth 100000 in
set_option maxHeartbeats 3200000 in
theorem noted (B sb : Nat) (sv : Value) (L : List Int) (x : Int) (w : World) (h : SnC B w sb sv L) (hl : L.length < 2147483648) (hB : B ≤ w.heap.size) :
    Calls Try.prog 8 #[.int .i64 x, .pointer (some ⟨sb, 0, none⟩)] w fun e w' => e = .returned (.string (dgT (L.length + 1))) ∧ ∃ sv', SnC B w' sb sv' (L ++ [x]) ∧ FrC w w' sb sv.ownBlock ∧ (sv'.ownBlock = sv.ownBlock ∨ ∀ q, sv'.ownBlock = some q → w.heap.size ≤ q) := by
  obtain ⟨i0, hi, hz0, hz1, hz2⟩ := info_parts Try.infoI
  obtain ⟨oO, oN, oC, rfl⟩ : ∃ o n k, sv = .slice o n k := by obtain ⟨ao, cap, e⟩ := h.row.rg.sl; exact ⟨_, _, _, e⟩
  obtain ⟨m, hm⟩ : ∃ m, m = L.length := ⟨_, rfl⟩
  have HM : Hid (L.length = m) := hm.symm
  rw [← hm] at hl ⊢
  clear hm
  obtain ⟨W1, hW1⟩ : ∃ u, u = w.alloc (.cells #[.int .i64 x] 3) := ⟨_, rfl⟩
  obtain ⟨gb, hgb⟩ : ∃ u, u = w.heap.size := ⟨_, rfl⟩
  have b1 : Below w.heap.size w W1 := by rw [hW1]; exact belowB _ _
  have lsb : sb < w.heap.size := Nat.lt_of_lt_of_le h.lt hB
  have HX : Hid (W1.heap[sb]? = some (.cells #[.slice oO oN oC] 22 (0, 0))) := (b1.block sb lsb).trans h.box
  have HR : Hid (OG (Value.int .i64) B 3 W1 (.slice oO oN oC) L) := h.row.below b1
  have HCB : Hid (W1.cell? ⟨gb, 0, none⟩ = some (.int .i64 x)) := by show _ = _; rw [hW1, hgb, World.cell?_alloc_at _ _ _ _ rfl]; rfl
  have HW1 : Hid (W1 = w.alloc (.cells #[.int .i64 x] 3)) := hW1
  have HGB : Hid (gb = w.heap.size) := hgb
  have HLT : Hid (sb < B ∧ B ≤ w.heap.size) := ⟨h.lt, hB⟩
  have HB1 : Hid (Below w.heap.size w W1) := b1
  have c0 : w.cell? ⟨sb, 0, none⟩ = some (.slice oO oN oC) := by rw [cell_of_row w sb _ _ _ _ h.box]; rfl
  have hsz : B ≤ W1.heap.size := Nat.le_trans hB b1.size
  clear h hB hW1 hgb b1 lsb
  go_enter Try.func8, Try.ntmps8
  go_wp2_with (at_builtin; rw [← HW1.out, ← HGB.out]; refine wpList_push1L _ (fun _ => rfl) rfl _ _ 22 rfl B 3 i0 (.int .i64 0) 8 Try.underlying22 hi hz0 hz1 hz2 rfl _ L rfl HR.out gb x rfl HCB.out (by rw [HM.out]; unfold maxLen; omega) (by rw [HM.out]; omega) hsz ?_)
  intro ng nk nc WB ho hg hgg hlt9
  have hnk : nk = m + 1 := by have := ho.rg.len; rw [List.length_append, HM.out] at this; exact this.symm
  subst hnk
  have hne : (Value.slice oO oN oC).ownBlock ≠ some sb := fun e => by have := (HR.out.lt sb e).1; have := HLT.out; omega
  have xB : WB.heap[sb]? = some (.cells #[.slice oO oN oC] 22 (0, 0)) := (hg.block sb (Array.getElem?_eq_some_iff.1 HX.out).1 (fun e => hne e.symm)).trans HX.out
  have kb : WB.cell? ⟨sb, 0, none⟩ = some (.slice oO oN oC) := by rw [cell_of_row WB sb _ _ _ _ xB]; rfl
  have kf : WB.frozen? ⟨sb, 0, none⟩ = false := frozen_of_row _ _ _ _ _ xB
  obtain ⟨W2, hW2⟩ : ∃ u, u = WB.setCell ⟨sb, 0, none⟩ (.slice (some ⟨ng, 0, none⟩) (m + 1) nc) := ⟨_, rfl⟩
  have xC : W2.heap[sb]? = some (.cells #[.slice (some ⟨ng, 0, none⟩) (m + 1) nc] 22 (0, 0)) := by rw [hW2, heap_setCell_same WB sb 0 _ _ _ xB]; rfl
  have HE : Hid (W2 = WB.setCell ⟨sb, 0, none⟩ (.slice (some ⟨ng, 0, none⟩) (m + 1) nc)) := hW2
  have HSN : Hid (SnC B W2 sb (.slice (some ⟨ng, 0, none⟩) (m + 1) nc) (L ++ [x])) := ⟨xC, ho.of_blocks fun q hq => by rw [hW2]; exact Below.heap_setCell _ _ _ _ (by have := (ho.lt q hq).1; have := HLT.out; show q ≠ sb; omega), HLT.out.1⟩
  have HFR : Hid (FrC w W2 sb (Value.slice oO oN oC).ownBlock) := by
    have hb := (Below.refl sb WB).setCell (p := ⟨sb, 0, none⟩) (Nat.le_refl _) (.slice (some ⟨ng, 0, none⟩) (m + 1) nc)
    rw [← hW2] at hb
    exact ⟨hb.os.trans (hg.os.trans HB1.out.os), hb.tape.trans (hg.tape.trans HB1.out.tape), hb.output.trans (hg.output.trans HB1.out.output), Nat.le_trans HB1.out.size (Nat.le_trans hg.size hb.size), fun q h1 h2 h3 => by
      rw [hW2, Below.heap_setCell _ _ _ _ h2, hg.block q (Nat.lt_of_lt_of_le h1 HB1.out.size) (fun e => h3 e.symm), HB1.out.block q h1]⟩
  have HGG : Hid ((Value.slice (some ⟨ng, 0, none⟩) (m + 1) nc).ownBlock = (Value.slice oO oN oC).ownBlock ∨ ∀ q, (Value.slice (some ⟨ng, 0, none⟩) (m + 1) nc).ownBlock = some q → w.heap.size ≤ q) := by
    rcases hgg with e | e
    · left; rw [e]; rfl
    · right; intro q hq
      have : ng = q := by simpa [Value.ownBlock] using hq
      have := HB1.out.size
      omega
  have HCX : Hid (W2.cell? ⟨sb, 0, none⟩ = some (.slice (some ⟨ng, 0, none⟩) (m + 1) nc)) := by show _ = _; rw [cell_of_row W2 sb _ _ _ _ xC]; rfl
  have hm63 : (m : Int) + 1 ≤ 2147483648 := by omega
  have HD : Hid _ := digits_any (m + 1) (by omega) W2
  clear ho hg hgg hlt9 hne xB hW2 xC c0 HX HR HCB HW1 HGB
  go_upto_region 2 with fail
  rw [← HE.out]
  clear HE kb kf
  have c1 := HCX.out
  go_wp2_with fail
  refine Calls.mono HD.out ?_
  rintro e w3 ⟨rfl, b3⟩
  go_wp2
  go_ret
  have lsb2 : sb < W2.heap.size := (Array.getElem?_eq_some_iff.1 HSN.out.box).1
  refine ⟨rfl, _, ⟨(b3.block sb lsb2).trans HSN.out.box, HSN.out.row.below b3, HSN.out.lt⟩, ?_, HGG.out⟩
  exact ⟨b3.os.trans HFR.out.os, b3.tape.trans HFR.out.tape, b3.output.trans HFR.out.output, Nat.le_trans HFR.out.size b3.size, fun q h1 h2 h3 => (b3.block q (Nat.lt_of_lt_of_le h1 HFR.out.size)).trans (HFR.out.block q h1 h2 h3)⟩
end Go.Proofs.Ytphbbkckigdgoaa

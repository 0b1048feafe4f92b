/-
  Proved here: how memory stands while a table is mended: a box of three rows that are appended to.
-/
import Derived.Test.YtphbbkckigdgoaaFacAlAll
namespace Go.Proofs.Ytphbbkckigdgoaa
set_option linter.unusedVariables false
open Go.RowKit Go.Shelf Go.Lib Go.Sort
/-- The box and its three rows. -/
structure MdC (W0 : World) (go : Nat) (u1 u2 u3 : Value) (V Z C : List Int) (W : World) : Prop where
  grs : GrS W0 W [go]
  box : BCell 24 W go u1 u2 u3
  r1 : OG (Value.int .i64) W0.heap.size 3 W u1 V
  r2 : OG (Value.int .i64) W0.heap.size 3 W u2 Z
  r3 : OG (Value.int .i64) W0.heap.size 3 W u3 C
  d12 : ∀ q, u1.ownBlock = some q → u2.ownBlock ≠ some q
  d13 : ∀ q, u1.ownBlock = some q → u3.ownBlock ≠ some q
  d23 : ∀ q, u2.ownBlock = some q → u3.ownBlock ≠ some q
section
variable {W0 : World} {go : Nat} {u1 u2 u3 : Value} {V Z C : List Int} {W : World}
theorem MdC.below {W' : World} (h : MdC W0 go u1 u2 u3 V Z C W) (b : Below W.heap.size W W') : MdC W0 go u1 u2 u3 V Z C W' :=
  ⟨h.grs.then b, h.box.below b, h.r1.below b, h.r2.below b, h.r3.below b, h.d12, h.d13, h.d23⟩
theorem MdC.push1 (h : MdC W0 go u1 u2 u3 V Z C W) (hgo : go < W0.heap.size) {W' : World} {sv : Int} {ng n ncap : Nat} (ho : OG (Value.int .i64) W0.heap.size 3 W' (.slice (some ⟨ng, 0, none⟩) n ncap) (V ++ [sv])) (hg : W.grownBy W' u1.ownBlock) (hgg : u1.ownBlock = some ng ∨ ng = W.heap.size) :
    MdC W0 go (.slice (some ⟨ng, 0, none⟩) n ncap) u2 u3 (V ++ [sv]) Z C (W'.setCell ⟨go, 0, none⟩ (.slice (some ⟨ng, 0, none⟩) n ncap)) := by
  have hb : ∀ q, q < W.heap.size → u1.ownBlock ≠ some q → (W'.setCell ⟨go, 0, none⟩ (.slice (some ⟨ng, 0, none⟩) n ncap)).heap[q]? = if q = go then (W'.setCell ⟨go, 0, none⟩ (.slice (some ⟨ng, 0, none⟩) n ncap)).heap[q]? else W.heap[q]? := fun q h1 h2 => by
    split
    · rfl
    · rename_i hne
      rw [Below.heap_setCell _ _ _ _ hne]; exact hg.block q h1 (fun e => h2 e.symm)
  have hkeep : ∀ q, W0.heap.size ≤ q → q < W.heap.size → u1.ownBlock ≠ some q → (W'.setCell ⟨go, 0, none⟩ (.slice (some ⟨ng, 0, none⟩) n ncap)).heap[q]? = W.heap[q]? := fun q h0 h1 h2 => by
    rw [hb q h1 h2, if_neg (by omega)]
  have hgo1 : u1.ownBlock ≠ some go := fun e => by have := (h.r1.lt go e).1; omega
  have hgW : go < W.heap.size := h.box.lt
  have hng : W0.heap.size ≤ ng := by rcases hgg with e | e; exact (h.r1.lt ng e).1; rw [e]; exact h.grs.size
  refine ⟨?_, ?_, ?_, ?_, ?_, ?_, ?_, ?_⟩
  · have hG : GrS W0 W' [go] := ⟨hg.os.trans h.grs.os, hg.tape.trans h.grs.tape, hg.output.trans h.grs.output, Nat.le_trans h.grs.size hg.size, fun q h1 h2 => by rw [hg.block q (Nat.lt_of_lt_of_le h1 h.grs.size) (fun e => by have := (h.r1.lt q e.symm).1; omega)]; exact h.grs.block q h1 h2⟩
    exact hG.set (by simp) _ _
  · unfold BCell
    rw [heap_setCell_same W' go 0 _ _ _ ((hg.block go hgW (fun e => hgo1 e.symm)).trans h.box)]; rfl
  · refine ho.of_blocks fun q hq => Below.heap_setCell _ _ _ _ ?_
    have e : ng = q := by simpa [Value.ownBlock] using hq
    show q ≠ go
    omega
  · exact h.r2.of_blocks fun q hq => hkeep q (h.r2.lt q hq).1 (h.r2.lt q hq).2 (fun e => h.d12 q e hq)
  · exact h.r3.of_blocks fun q hq => hkeep q (h.r3.lt q hq).1 (h.r3.lt q hq).2 (fun e => h.d13 q e hq)
  · intro q hq e
    have e1 : ng = q := by simpa [Value.ownBlock] using hq
    subst e1
    rcases hgg with e2 | e2
    · exact h.d12 ng e2 e
    · have := (h.r2.lt ng e).2; omega
  · intro q hq e
    have e1 : ng = q := by simpa [Value.ownBlock] using hq
    subst e1
    rcases hgg with e2 | e2
    · exact h.d13 ng e2 e
    · have := (h.r3.lt ng e).2; omega
  · exact h.d23
theorem MdC.push2 (h : MdC W0 go u1 u2 u3 V Z C W) (hgo : go < W0.heap.size) {W' : World} {sv : Int} {ng n ncap : Nat} (ho : OG (Value.int .i64) W0.heap.size 3 W' (.slice (some ⟨ng, 0, none⟩) n ncap) (Z ++ [sv])) (hg : W.grownBy W' u2.ownBlock) (hgg : u2.ownBlock = some ng ∨ ng = W.heap.size) :
    MdC W0 go u1 (.slice (some ⟨ng, 0, none⟩) n ncap) u3 V (Z ++ [sv]) C (W'.setCell ⟨go, 1, none⟩ (.slice (some ⟨ng, 0, none⟩) n ncap)) := by
  have hb : ∀ q, q < W.heap.size → u2.ownBlock ≠ some q → (W'.setCell ⟨go, 1, none⟩ (.slice (some ⟨ng, 0, none⟩) n ncap)).heap[q]? = if q = go then (W'.setCell ⟨go, 1, none⟩ (.slice (some ⟨ng, 0, none⟩) n ncap)).heap[q]? else W.heap[q]? := fun q h1 h2 => by
    split
    · rfl
    · rename_i hne
      rw [Below.heap_setCell _ _ _ _ hne]; exact hg.block q h1 (fun e => h2 e.symm)
  have hkeep : ∀ q, W0.heap.size ≤ q → q < W.heap.size → u2.ownBlock ≠ some q → (W'.setCell ⟨go, 1, none⟩ (.slice (some ⟨ng, 0, none⟩) n ncap)).heap[q]? = W.heap[q]? := fun q h0 h1 h2 => by
    rw [hb q h1 h2, if_neg (by omega)]
  have hgo1 : u2.ownBlock ≠ some go := fun e => by have := (h.r2.lt go e).1; omega
  have hgW : go < W.heap.size := h.box.lt
  have hng : W0.heap.size ≤ ng := by rcases hgg with e | e; exact (h.r2.lt ng e).1; rw [e]; exact h.grs.size
  refine ⟨?_, ?_, ?_, ?_, ?_, ?_, ?_, ?_⟩
  · have hG : GrS W0 W' [go] := ⟨hg.os.trans h.grs.os, hg.tape.trans h.grs.tape, hg.output.trans h.grs.output, Nat.le_trans h.grs.size hg.size, fun q h1 h2 => by rw [hg.block q (Nat.lt_of_lt_of_le h1 h.grs.size) (fun e => by have := (h.r2.lt q e.symm).1; omega)]; exact h.grs.block q h1 h2⟩
    exact hG.set (by simp) _ _
  · unfold BCell
    rw [heap_setCell_same W' go 1 _ _ _ ((hg.block go hgW (fun e => hgo1 e.symm)).trans h.box)]; rfl
  · exact h.r1.of_blocks fun q hq => hkeep q (h.r1.lt q hq).1 (h.r1.lt q hq).2 (h.d12 q hq)
  · refine ho.of_blocks fun q hq => Below.heap_setCell _ _ _ _ ?_
    have e : ng = q := by simpa [Value.ownBlock] using hq
    show q ≠ go
    omega
  · exact h.r3.of_blocks fun q hq => hkeep q (h.r3.lt q hq).1 (h.r3.lt q hq).2 (fun e => h.d23 q e hq)
  · intro q hq e
    have e1 : ng = q := by simpa [Value.ownBlock] using e
    subst e1
    rcases hgg with e2 | e2
    · exact h.d12 ng hq e2
    · have := (h.r1.lt ng hq).2; omega
  · exact h.d13
  · intro q hq e
    have e1 : ng = q := by simpa [Value.ownBlock] using hq
    subst e1
    rcases hgg with e2 | e2
    · exact h.d23 ng e2 e
    · have := (h.r3.lt ng e).2; omega
theorem MdC.push3 (h : MdC W0 go u1 u2 u3 V Z C W) (hgo : go < W0.heap.size) {W' : World} {sv : Int} {ng n ncap : Nat} (ho : OG (Value.int .i64) W0.heap.size 3 W' (.slice (some ⟨ng, 0, none⟩) n ncap) (C ++ [sv])) (hg : W.grownBy W' u3.ownBlock) (hgg : u3.ownBlock = some ng ∨ ng = W.heap.size) :
    MdC W0 go u1 u2 (.slice (some ⟨ng, 0, none⟩) n ncap) V Z (C ++ [sv]) (W'.setCell ⟨go, 2, none⟩ (.slice (some ⟨ng, 0, none⟩) n ncap)) := by
  have hb : ∀ q, q < W.heap.size → u3.ownBlock ≠ some q → (W'.setCell ⟨go, 2, none⟩ (.slice (some ⟨ng, 0, none⟩) n ncap)).heap[q]? = if q = go then (W'.setCell ⟨go, 2, none⟩ (.slice (some ⟨ng, 0, none⟩) n ncap)).heap[q]? else W.heap[q]? := fun q h1 h2 => by
    split
    · rfl
    · rename_i hne
      rw [Below.heap_setCell _ _ _ _ hne]; exact hg.block q h1 (fun e => h2 e.symm)
  have hkeep : ∀ q, W0.heap.size ≤ q → q < W.heap.size → u3.ownBlock ≠ some q → (W'.setCell ⟨go, 2, none⟩ (.slice (some ⟨ng, 0, none⟩) n ncap)).heap[q]? = W.heap[q]? := fun q h0 h1 h2 => by
    rw [hb q h1 h2, if_neg (by omega)]
  have hgo1 : u3.ownBlock ≠ some go := fun e => by have := (h.r3.lt go e).1; omega
  have hgW : go < W.heap.size := h.box.lt
  have hng : W0.heap.size ≤ ng := by rcases hgg with e | e; exact (h.r3.lt ng e).1; rw [e]; exact h.grs.size
  refine ⟨?_, ?_, ?_, ?_, ?_, ?_, ?_, ?_⟩
  · have hG : GrS W0 W' [go] := ⟨hg.os.trans h.grs.os, hg.tape.trans h.grs.tape, hg.output.trans h.grs.output, Nat.le_trans h.grs.size hg.size, fun q h1 h2 => by rw [hg.block q (Nat.lt_of_lt_of_le h1 h.grs.size) (fun e => by have := (h.r3.lt q e.symm).1; omega)]; exact h.grs.block q h1 h2⟩
    exact hG.set (by simp) _ _
  · unfold BCell
    rw [heap_setCell_same W' go 2 _ _ _ ((hg.block go hgW (fun e => hgo1 e.symm)).trans h.box)]; rfl
  · exact h.r1.of_blocks fun q hq => hkeep q (h.r1.lt q hq).1 (h.r1.lt q hq).2 (h.d13 q hq)
  · exact h.r2.of_blocks fun q hq => hkeep q (h.r2.lt q hq).1 (h.r2.lt q hq).2 (h.d23 q hq)
  · refine ho.of_blocks fun q hq => Below.heap_setCell _ _ _ _ ?_
    have e : ng = q := by simpa [Value.ownBlock] using hq
    show q ≠ go
    omega
  · exact h.d12
  · intro q hq e
    have e1 : ng = q := by simpa [Value.ownBlock] using e
    subst e1
    rcases hgg with e2 | e2
    · exact h.d13 ng hq e2
    · have := (h.r1.lt ng hq).2; omega
  · intro q hq e
    have e1 : ng = q := by simpa [Value.ownBlock] using e
    subst e1
    rcases hgg with e2 | e2
    · exact h.d23 ng hq e2
    · have := (h.r2.lt ng hq).2; omega
end
end Go.Proofs.Ytphbbkckigdgoaa

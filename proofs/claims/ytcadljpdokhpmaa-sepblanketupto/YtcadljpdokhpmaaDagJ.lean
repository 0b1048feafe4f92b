/-
  Proved here: what is left of the points, and package dag's take.
-/
import Derived.Test.YtcadljpdokhpmaaDagI
namespace Go.Proofs.Ytcadljpdokhpmaa
set_option linter.unusedVariables false
open Go.RowKit
/-- What is left, in memory: five cells; the children (blocks S, read alone), who is out, who waits for how many, the line. -/
structure RtC (B : Nat) (S : Nat → Prop) (w : World) (rb : Nat) (a v : Value) (g go gw n : Nat) (cvs : List Value) (C : Nat → List Int) (Ob : List Bool) (Wt L : List Int) : Prop where
  ln : LnC B w rb a (.slice (some ⟨g, 0, none⟩) n n) (.slice (some ⟨go, 0, none⟩) n n) (.slice (some ⟨gw, 0, none⟩) n n) v L
  row : RG id w (.slice (some ⟨g, 0, none⟩) n n) cvs
  inn : ∀ (j : Nat) (u : Value), cvs[j]? = some u → RG (Value.int .i64) w u (C j)
  own : ∀ (j : Nat) (u : Value), cvs[j]? = some u → ∀ q, u.ownBlock = some q → S q
  gS : S g
  sS : ∀ q, S q → q < w.heap.size
  out : OG Value.bool B 4 w (.slice (some ⟨go, 0, none⟩) n n) Ob
  wts : OG (Value.int .i64) B 3 w (.slice (some ⟨gw, 0, none⟩) n n) Wt
  nS : ¬ S rb ∧ ¬ S go ∧ ¬ S gw ∧ ∀ q, v.ownBlock = some q → ¬ S q
  vw : v.ownBlock ≠ some gw
  hB : B ≤ rb
/-- What may be written. -/
def RtS (rb go gw : Nat) (v : Value) (q : Nat) : Prop := q = rb ∨ q = go ∨ q = gw ∨ v.ownBlock = some q
theorem RsC.cells {w : World} {rb : Nat} {a b c d v : Value} (h : RsC w rb a b c d v) : w.cell? ⟨rb, 0, none⟩ = some a ∧ w.cell? ⟨rb, 1, none⟩ = some b ∧ w.cell? ⟨rb, 2, none⟩ = some c ∧ w.cell? ⟨rb, 3, none⟩ = some d := by
  refine ⟨?_, ?_, ?_, ?_⟩ <;> rw [cell_of_row w rb _ _ _ _ h] <;> rfl
section
variable {B : Nat} {S : Nat → Prop} {w w' : World} {rb : Nat} {a v : Value} {g go gw n : Nat} {cvs : List Value} {C : Nat → List Int} {Ob : List Bool} {Wt L : List Int}
/-- All but the line stands, the line is another one. -/
theorem RtC.line (h : RtC B S w rb a v g go gw n cvs C Ob Wt L) {v' : Value} {L' : List Int} (hl : LnC B w' rb a (.slice (some ⟨g, 0, none⟩) n n) (.slice (some ⟨go, 0, none⟩) n n) (.slice (some ⟨gw, 0, none⟩) n n) v' L') (hv : ∀ q, v'.ownBlock = some q → v.ownBlock = some q ∨ w.heap.size ≤ q) (hf : FrP (LnS rb v) w w') : RtC B S w' rb a v' g go gw n cvs C Ob Wt L' := by
  have hn : ∀ q, S q → w'.heap[q]? = w.heap[q]? := fun q hq => hf.block q (h.sS q hq) (fun e => by
    rcases e with e | e
    · subst e; exact h.nS.1 hq
    · exact h.nS.2.2.2 q e hq)
  have hgo := h.out.lt go rfl
  have hgw := h.wts.lt gw rfl
  have hne1 : go ≠ rb := fun e => h.out.neT h.ln.box (by decide) (by rw [e]; rfl)
  have hne2 : gw ≠ rb := fun e => h.wts.neT h.ln.box (by decide) (by rw [e]; rfl)
  refine ⟨hl, h.row.of_blocks fun q hq => hn q ?_, fun j u hu => (h.inn j u hu).of_blocks fun q hq => hn q (h.own j u hu q hq), h.own, h.gS, fun q hq => Nat.lt_of_lt_of_le (h.sS q hq) hf.size, h.out.of_blocks fun q hq => ?_, h.wts.of_blocks fun q hq => ?_, ⟨h.nS.1, h.nS.2.1, h.nS.2.2.1, fun q hq hs => ?_⟩, fun e => ?_, h.hB⟩
  · have e1 : g = q := by simpa [Value.ownBlock] using hq
    rw [← e1]; exact h.gS
  · have e1 : go = q := by simpa [Value.ownBlock] using hq
    subst e1
    exact hf.block _ hgo.2 (fun e => by
      rcases e with e | e
      · exact hne1 e
      · exact h.ln.row.neO h.out (by decide) e rfl)
  · have e1 : gw = q := by simpa [Value.ownBlock] using hq
    subst e1
    exact hf.block _ hgw.2 (fun e => by
      rcases e with e | e
      · exact hne2 e
      · exact h.vw e)
  · rcases hv q hq with e | e
    · exact h.nS.2.2.2 q e hs
    · have := h.sS q hs; omega
  · rcases hv gw e with e2 | e2
    · exact h.vw e2
    · omega
theorem RtC.setW (h : RtC B S w rb a v g go gw n cvs C Ob Wt L) (i : Nat) (z : Int) : RtC B S (w.setCell ⟨gw, i, none⟩ (.int .i64 z)) rb a v g go gw n cvs C Ob (Wt.set i z) L ∧ FrP (fun q => q = gw) w (w.setCell ⟨gw, i, none⟩ (.int .i64 z)) := by
  have hne2 : gw ≠ rb := fun e => h.wts.neT h.ln.box (by decide) (by rw [e]; rfl)
  have ho : ∀ q, q ≠ gw → (w.setCell ⟨gw, i, none⟩ (.int .i64 z)).heap[q]? = w.heap[q]? := fun q hq => Below.heap_setCell _ _ _ _ hq
  have hs : ∀ q, S q → q ≠ gw := fun q hq e => h.nS.2.2.1 (e ▸ hq)
  refine ⟨⟨⟨by unfold RsC; rw [ho rb (fun e => hne2 e.symm)]; exact h.ln.box, h.ln.row.of_blocks fun q hq => ho q (fun e => h.vw (e ▸ hq))⟩, h.row.of_blocks fun q hq => ho q (hs q ?_), fun j u hu => (h.inn j u hu).of_blocks fun q hq => ho q (hs q (h.own j u hu q hq)), h.own, h.gS, fun q hq => by rw [World.size_setCell]; exact h.sS q hq, h.out.of_blocks fun q hq => ho q (fun e => ?_), (h.wts.set h.wts.rg.len i z).1, h.nS, h.vw, h.hB⟩, (FrP.refl _ _).put _ _ (fun _ => rfl)⟩
  · have e1 : g = q := by simpa [Value.ownBlock] using hq
    rw [← e1]; exact h.gS
  · exact h.out.neO h.wts (by decide) hq (by rw [e]; rfl)
theorem RtC.setO (h : RtC B S w rb a v g go gw n cvs C Ob Wt L) (i : Nat) (z : Bool) : RtC B S (w.setCell ⟨go, i, none⟩ (.bool z)) rb a v g go gw n cvs C (Ob.set i z) Wt L ∧ FrP (fun q => q = go) w (w.setCell ⟨go, i, none⟩ (.bool z)) := by
  have hne2 : go ≠ rb := fun e => h.out.neT h.ln.box (by decide) (by rw [e]; rfl)
  have ho : ∀ q, q ≠ go → (w.setCell ⟨go, i, none⟩ (.bool z)).heap[q]? = w.heap[q]? := fun q hq => Below.heap_setCell _ _ _ _ hq
  have hs : ∀ q, S q → q ≠ go := fun q hq e => h.nS.2.1 (e ▸ hq)
  refine ⟨⟨⟨by unfold RsC; rw [ho rb (fun e => hne2 e.symm)]; exact h.ln.box, h.ln.row.of_blocks fun q hq => ho q (fun e => h.ln.row.neO h.out (by decide) hq (by rw [e]; rfl))⟩, h.row.of_blocks fun q hq => ho q (hs q ?_), fun j u hu => (h.inn j u hu).of_blocks fun q hq => ho q (hs q (h.own j u hu q hq)), h.own, h.gS, fun q hq => by rw [World.size_setCell]; exact h.sS q hq, (h.out.set h.out.rg.len i z).1, h.wts.of_blocks fun q hq => ho q (fun e => ?_), h.nS, h.vw, h.hB⟩, (FrP.refl _ _).put _ _ (fun _ => rfl)⟩
  · have e1 : g = q := by simpa [Value.ownBlock] using hq
    rw [← e1]; exact h.gS
  · exact h.wts.neO h.out (by decide) hq (by rw [e]; rfl)
theorem RtC.frw (h : RtC B S w rb a v g go gw n cvs C Ob Wt L) : B ≤ go ∧ B ≤ gw ∧ (∀ q, v.ownBlock = some q → B ≤ q) := ⟨(h.out.lt go rfl).1, (h.wts.lt gw rfl).1, fun q hq => (h.ln.row.lt q hq).1⟩
end
end Go.Proofs.Ytcadljpdokhpmaa

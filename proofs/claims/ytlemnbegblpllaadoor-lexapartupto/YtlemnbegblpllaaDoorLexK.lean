/-
  Proved here: plain facts on a word and a fault in memory.
-/
import Derived.Test.YtlemnbegblpllaaDoorLexE
import Derived.WalkSmall
namespace Go.Proofs.YtlemnbegblpllaaDoor
open Go.RowKit
theorem belowA1 (w : World) (o : Obj) : Below w.heap.size w (w.alloc o) := (Below.refl _ _).alloc (Nat.le_refl _) o
theorem bstep1 {w wr w' : World} (h : Below w.heap.size w wr) (hb : Below wr.heap.size wr w') : Below w.heap.size w w' := h.trans (hb.mono h.size)
/-- The four cells of a word. -/
def TkC (w : World) (g : Nat) (a b c d : Value) : Prop := w.heap[g]? = some (.cells #[a, b, c, d] 38 (0, 0))
theorem TkC.cells {w : World} {g : Nat} {a b c d : Value} (h : TkC w g a b c d) : w.cell? ⟨g, 0, none⟩ = some a ∧ w.cell? ⟨g, 1, none⟩ = some b ∧ w.cell? ⟨g, 2, none⟩ = some c ∧ w.cell? ⟨g, 3, none⟩ = some d := by
  simp only [World.cell?, TkC] at h ⊢
  rw [h]
  simp
theorem TkC.thaw {w : World} {g : Nat} {a b c d : Value} (h : TkC w g a b c d) (k : Nat) : w.frozen? ⟨g, k, none⟩ = false := frozen_of_row w g k _ _ h
theorem TkC.lt {w : World} {g : Nat} {a b c d : Value} (h : TkC w g a b c d) : g < w.heap.size := (Array.getElem?_eq_some_iff.1 h).1
theorem TkC.below {w w' : World} {g : Nat} {a b c d : Value} (h : TkC w g a b c d) (hb : Below w.heap.size w w') : TkC w' g a b c d := by
  unfold TkC; rw [hb.block _ h.lt]; exact h
theorem TkC.off {w w' : World} {g r : Nat} {a b c d : Value} (h : TkC w r a b c d) (hb : Off g w w') (hne : r ≠ g) : TkC w' r a b c d := by
  unfold TkC; rw [hb.block _ h.lt (fun e => hne (Option.some.inj e))]; exact h
theorem TkC.set {w : World} {r : Nat} {a b c d : Value} (h : TkC w r a b c d) {p : Addr} (hne : r ≠ p.block) (v : Value) : TkC (w.setCell p v) r a b c d := by
  unfold TkC; rw [Below.heap_setCell _ _ _ _ hne]; exact h
theorem RdC.set {w : World} {g : Nat} {s : ByteArray} {i : Nat} (h : RdC w g s i) {p : Addr} (hne : g ≠ p.block) (v : Value) : RdC (w.setCell p v) g s i := by
  unfold RdC; rw [Below.heap_setCell _ _ _ _ hne]; exact h
theorem tkc_new (w : World) {a b c d : Value} {k : Nat} (hk : w.heap.size = k) : TkC (w.alloc (.cells #[a, b, c, d] 38)) k a b c d := by subst hk; exact heap_alloc_new w _
theorem TkC.write {w : World} {g : Nat} {a b c d : Value} (h : TkC w g a b c d) (a2 b2 c2 d2 : Value) : TkC ((((w.setCell ⟨g, 0, none⟩ a2).setCell ⟨g, 1, none⟩ b2).setCell ⟨g, 2, none⟩ c2).setCell ⟨g, 3, none⟩ d2) g a2 b2 c2 d2 := by
  unfold TkC
  have h1 := heap_setCell_same w g 0 _ _ a2 h
  have h2 := heap_setCell_same _ g 1 _ _ b2 h1
  have h3 := heap_setCell_same _ g 2 _ _ c2 h2
  have h4 := heap_setCell_same _ g 3 _ _ d2 h3
  rw [h4]
  rfl
/-- A store into a block of the call's own. -/
theorem Off.own {g : Nat} {a b : World} (h : Off g a b) {p : Addr} (hp : a.heap.size ≤ p.block) (v : Value) : Off g a (b.setCell p v) :=
  ⟨h.os, h.tape, h.output, by simpa [World.setCell] using h.size, fun i hi hn => by rw [Below.heap_setCell _ _ _ _ (by omega)]; exact h.block i hi hn⟩
/-- Results of a cell and a slot. -/
theorem results_ctx {P : Program} {fn : Func} {p u : Tmp} {ty : TypeId} (h : fn.results = #[.cell p ty, .tmp u]) (tmps : Array Value) (w : World) (g : Nat) (t : TypeId) (cs : Array Value) (fr : Nat × Nat) (d : TypeDesc)
    (hp : tmps.getD p undef = .pointer (some ⟨g, 0, none⟩)) (hg : w.heap[g]? = some (.cells cs t fr))
    (hu : P.underlying ty = some d) (hd : (match d with | .struct _ | .array _ _ => true | _ => false) = true) (hi : (P.info? ty).map (·.size) = some cs.size) :
    (results fn tmps).run P w = .ok (.tuple #[.agg cs, tmps.getD u undef]) w := by
  have hp' : tmps[p]?.getD undef = .pointer (some ⟨g, 0, none⟩) := by simpa using hp
  simp [results, h, hp', asAddr, run_loadVar_row w g t ty cs fr d hg hu hd hi]
section
variable {P : Program} {l : List Oper} {Q : Exit → Act → World → Prop} {md : Region.Mode} {L : List (Nat × (World → Prop))}
/-- Number j or number k may come up. -/
theorem late_2 (j k : Nat) {o o2 : Oper} {n : Nat} {done : Array Bool} {a : Act} {w : World} (hr : Region.ready md l.toArray done = [j, k]) (ho : l[j]? = some o) (ho2 : l[k]? = some o2)
    (h : ∀ K' : Act → World → Prop, Shut (∀ b u, Kept md l.toArray (done.setIfInBounds j true) u L → wpLate P md l.toArray Q L n (done.setIfInBounds j true) b u → K' b u) → if Region.wanted o (yielded l.toArray a.tmps) = true then Oper.wp P o a w K' Q else K' (a.put o.dst undef) w)
    (h2 : ∀ K' : Act → World → Prop, Shut (∀ b u, Kept md l.toArray (done.setIfInBounds k true) u L → wpLate P md l.toArray Q L n (done.setIfInBounds k true) b u → K' b u) → if Region.wanted o2 (yielded l.toArray a.tmps) = true then Oper.wp P o2 a w K' Q else K' (a.put o2.dst undef) w) :
    wpLate P md l.toArray Q L (n + 1) done a w := by
  constructor
  · intro h0; rw [h0] at hr; cases hr
  · intro i hi
    rw [hr] at hi
    rcases List.mem_cons.1 hi with e | hi
    · subst e
      exact wpOp_step (by rw [List.getElem?_toArray]; exact ho) (fun K' hK => h K' (fun b u h1 h2 => hK b u ⟨h1, h2⟩))
    · rw [List.mem_singleton] at hi
      subst hi
      exact wpOp_step (by rw [List.getElem?_toArray]; exact ho2) (fun K' hK => h2 K' (fun b u h1 h2 => hK b u ⟨h1, h2⟩))
end
end Go.Proofs.YtlemnbegblpllaaDoor

/-
  Proved here: how Scan of package lex stands between two rounds of its loop.
-/
import Derived.Test.YtlemnbegblpllaaDoorLexNamedMAll
import Derived.RangeFuncBox
namespace Go.Proofs.YtlemnbegblpllaaDoor
open Go.RowKit

/-- Scan between two rounds: its results, its words, its loop's record. -/
structure ScC (w : World) (b : Nat) (lo : Loop) (outs : List Out) (W : World) : Prop where
  row : ∃ v, W.heap[b + 2]? = some (.cells #[v] 23 (0, 0)) ∧ W.ownsRow (b + 7) 38 4 v outs.length (outs.flatMap tokCells)
  r0 : W.heap[b]? = some (.cells #[.slice none 0 0] 23 (0, 0))
  r1 : W.heap[b + 1]? = some (.cells #[.nilIface] 30 (0, 0))
  rcd : W.heap[b + 5]? = some (.loop lo)
  dfr : W.heap[b + 4]? = some (.deferred (some []))
  bel : Below b w W
theorem heap_lt {W : World} {k : Nat} {o : Obj} (h : W.heap[k]? = some o) : k < W.heap.size := (Array.getElem?_eq_some_iff.1 h).1
theorem ScC.lt {w : World} {b : Nat} {lo : Loop} {outs : List Out} {W : World} (h : ScC w b lo outs W) : b + 5 < W.heap.size := heap_lt h.rcd
theorem ScC.off {w : World} {b : Nat} {lo : Loop} {outs : List Out} {W W' : World} (h : ScC w b lo outs W) (ho : Off (b + 6) W W') : ScC w b lo outs W' := by
  have hl := h.lt
  have hk : ∀ k, k < b + 6 → W'.heap[k]? = W.heap[k]? := fun k hk => ho.block k (by omega) (fun e => by have := Option.some.inj e; omega)
  obtain ⟨v, h1, h2⟩ := h.row
  refine ⟨⟨v, by rw [hk _ (by omega)]; exact h1, h2.kept ho (.inr fun e => ?_)⟩, by rw [hk _ (by omega)]; exact h.r0, by rw [hk _ (by omega)]; exact h.r1, by rw [hk _ (by omega)]; exact h.rcd, by rw [hk _ (by omega)]; exact h.dfr, h.bel.trans ⟨ho.os, ho.tape, ho.output, ho.size, fun k hkb => hk k (by omega)⟩⟩
  have := (h2.lt _ e).1
  omega
theorem ScC.below {w : World} {b : Nat} {lo : Loop} {outs : List Out} {W W' : World} (h : ScC w b lo outs W) (ho : Below W.heap.size W W') : ScC w b lo outs W' := h.off (Off.of ho)
theorem below_put {b : Nat} {W : World} {l : Nat} (o : Obj) (h : b ≤ l) : Below b W (W.putObj l o) :=
  ⟨rfl, rfl, rfl, by simp, fun k hk => World.putObj_heap_other (by omega)⟩
theorem ScC.put {w : World} {b : Nat} {lo : Loop} {outs : List Out} {W : World} (h : ScC w b lo outs W) (lo' : Loop) : ScC w b lo' outs (W.putObj (b + 5) (.loop lo')) := by
  obtain ⟨v, h1, h2⟩ := h.row
  refine ⟨⟨v, by rw [World.putObj_heap_other (by omega)]; exact h1, ownsRow_putObj h2 _ h.rcd rfl⟩, by rw [World.putObj_heap_other (by omega)]; exact h.r0, by rw [World.putObj_heap_other (by omega)]; exact h.r1, World.putObj_heap_same h.lt, by rw [World.putObj_heap_other (by omega)]; exact h.dfr, h.bel.trans (below_put _ (by omega))⟩
/-- Behind an append. -/
theorem ScC.grown {w : World} {b : Nat} {lo : Loop} {outs : List Out} {W W' : World} {v v' : Value} {o : Out} (h : ScC w b lo outs W) (hv : W.heap[b + 2]? = some (.cells #[v] 23 (0, 0)))
    (hr : W.ownsRow (b + 7) 38 4 v outs.length (outs.flatMap tokCells)) (hg : W.grownBy W' v.ownBlock) (hn : W'.ownsRow (b + 7) 38 4 v' (outs.length + 1) (outs.flatMap tokCells ++ tokCells o)) :
    ScC w b lo (outs ++ [o]) (W'.setCell ⟨b + 2, 0, none⟩ v') := by
  have hl := h.lt
  have hne : ∀ k, k < b + 7 → some k ≠ v.ownBlock := fun k hk e => by have := (hr.lt k e.symm).1; omega
  have hk : ∀ k, k < b + 6 → W'.heap[k]? = W.heap[k]? := fun k hk => hg.block k (by omega) (hne k (by omega))
  have hs : ∀ k, k ≠ b + 2 → (W'.setCell ⟨b + 2, 0, none⟩ v').heap[k]? = W'.heap[k]? := fun k hk => Below.heap_setCell _ _ _ _ hk
  have h2 : W'.heap[b + 2]? = some (.cells #[v] 23 (0, 0)) := by rw [hk _ (by omega)]; exact hv
  refine ⟨⟨v', ?_, ?_⟩, by rw [hs _ (by omega), hk _ (by omega)]; exact h.r0, by rw [hs _ (by omega), hk _ (by omega)]; exact h.r1, by rw [hs _ (by omega), hk _ (by omega)]; exact h.rcd, by rw [hs _ (by omega), hk _ (by omega)]; exact h.dfr, ?_⟩
  · rw [heap_setCell_same W' (b + 2) 0 _ _ v' h2]; rfl
  · have := ownsRow_setCell_below hn (a := ⟨b + 2, 0, none⟩) (by show b + 2 < b + 7; omega) v'
    simpa [List.flatMap_append] using this
  · exact h.bel.trans (Below.setCell (p := ⟨b + 2, 0, none⟩) ⟨hg.os, hg.tape, hg.output, hg.size, fun k hkb => hk k (by omega)⟩ (by show b ≤ b + 2; omega) _)
/-- What Scan leaves. -/
def ScEnd (w : World) (al : List Out) (e : Ending) (w' : World) : Prop :=
  Below w.heap.size w w' ∧
  ((fltOf al = none ∧ ∃ v, e = .returned (.tuple #[v, .nilIface]) ∧ w'.ownsRow w.heap.size 38 4 v al.length (al.flatMap tokCells)) ∨
   (∃ c li co wd fb, fltOf al = some (c, li, co, wd) ∧ w.heap.size ≤ fb ∧ e = .returned (.tuple #[.slice none 0 0, .iface 50 (.pointer (some ⟨fb, 0, none⟩))]) ∧ FtC w' fb (.int .i64 c) (.int .i64 (li : Int)) (.int .i64 (co : Int)) (.string wd)))
/-- Scan, left by a fault. -/
structure ScX (w : World) (b : Nat) (s : ByteArray) (lo : Loop) (W : World) : Prop where
  flt : ∃ outs i c li co wd fb, Pre s i outs ∧ nextOut s i = .flt c li co wd ∧ b ≤ fb ∧ FtC W fb (.int .i64 c) (.int .i64 (li : Int)) (.int .i64 (co : Int)) (.string wd) ∧ W.heap[b + 1]? = some (.cells #[.iface 50 (.pointer (some ⟨fb, 0, none⟩))] 30 (0, 0))
  r0 : W.heap[b]? = some (.cells #[.slice none 0 0] 23 (0, 0))
  rcd : W.heap[b + 5]? = some (.loop lo)
  dfr : W.heap[b + 4]? = some (.deferred (some []))
  bel : Below b w W
theorem FtC.putLoop {W : World} {g l : Nat} {a b c d : Value} (h : FtC W g a b c d) {lo : Loop} (hl : W.heap[l]? = some (.loop lo)) (o : Obj) : FtC (W.putObj l o) g a b c d := by
  unfold FtC at *
  rw [World.putObj_heap_other]
  · exact h
  · intro e
    rw [e, hl] at h
    cases h
theorem ScX.put {w : World} {b : Nat} {s : ByteArray} {lo : Loop} {W : World} (h : ScX w b s lo W) (lo' : Loop) : ScX w b s lo' (W.putObj (b + 5) (.loop lo')) := by
  obtain ⟨outs, i, c, li, co, wd, fb, h1, h2, h3, h4, h5⟩ := h.flt
  exact ⟨⟨outs, i, c, li, co, wd, fb, h1, h2, h3, h4.putLoop h.rcd _, by rw [World.putObj_heap_other (by omega)]; exact h5⟩, by rw [World.putObj_heap_other (by omega)]; exact h.r0, World.putObj_heap_same (heap_lt h.rcd), by rw [World.putObj_heap_other (by omega)]; exact h.dfr, h.bel.trans (below_put _ (by omega))⟩
theorem sc_start {w W0 : World} {s : ByteArray} (hW0 : (((w.alloc (.cells #[.slice none 0 0] 23)).alloc (.cells #[.nilIface] 30)).alloc (.cells #[.slice none 0 0] 23)).alloc (.cells #[.string s] 9) = W0) (lo : Loop) :
    ScC w w.heap.size lo [] ((W0.alloc (.deferred (some []))).alloc (.loop lo)) := by
  have hz0 : W0.heap.size = w.heap.size + 4 := by rw [← hW0]; simp
  have bb : Below W0.heap.size W0 ((W0.alloc (.deferred (some []))).alloc (.loop lo)) := bstep1 (belowA1 _ _) (belowA1 _ _)
  have q1 := heap_alloc_new w (.cells #[.slice none 0 0] 23)
  have q2 := heap_alloc_new (w.alloc (.cells #[.slice none 0 0] 23)) (.cells #[.nilIface] 30)
  have q3 := heap_alloc_new ((w.alloc (.cells #[.slice none 0 0] 23)).alloc (.cells #[.nilIface] 30)) (.cells #[.slice none 0 0] 23)
  have b0 : Below w.heap.size w W0 := by rw [← hW0]; exact bstep1 (bstep1 (bstep1 (belowA1 _ _) (belowA1 _ _)) (belowA1 _ _)) (belowA1 _ _)
  rw [World.size_alloc] at q2
  rw [World.size_alloc, World.size_alloc] at q3
  refine ⟨⟨.slice none 0 0, ?_, World.ownsRow_nil _ _ _ _⟩, ?_, ?_, ?_, ?_, b0.trans (bb.mono (by omega))⟩
  · rw [bb.block _ (by omega), ← hW0, Below.heap_alloc _ _ _ (by simp)]; exact q3
  · rw [bb.block _ (by omega), ← hW0, Below.heap_alloc _ _ _ (by simp <;> omega), Below.heap_alloc _ _ _ (by simp <;> omega), Below.heap_alloc _ _ _ (by simp <;> omega)]; exact q1
  · rw [bb.block _ (by omega), ← hW0, Below.heap_alloc _ _ _ (by simp <;> omega), Below.heap_alloc _ _ _ (by simp <;> omega)]; exact q2
  · have := heap_alloc_new (W0.alloc (.deferred (some []))) (.loop lo)
    rw [World.size_alloc, hz0] at this
    exact this
  · rw [Below.heap_alloc _ _ _ (by simp [hz0])]
    have := heap_alloc_new W0 (.deferred (some []))
    rw [hz0] at this
    exact this
end Go.Proofs.YtlemnbegblpllaaDoor

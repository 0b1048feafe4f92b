/-
  Proved here: the words ahead of a fault, and what the document's All answers, as one.
-/
import Derived.Test.YtlemnbegblpllaaDoorLexLoopAll
import Derived.Test.YtlemnbegblpllaaDoorLexPushAll
namespace Go.Proofs.YtlemnbegblpllaaDoor
open Go.RowKit Go.Shelf
/-- The words. -/
def wO (al : List Out) : List Out := al.filter Out.isTok
theorem wO_toks (al : List Out) : ∀ o ∈ wO al, o.isTok = true := fun _ ho => (List.mem_filter.1 ho).2
theorem wO_all {l : List Out} (h : ∀ o ∈ l, o.isTok = true) : wO l = l := List.filter_eq_self.2 h
theorem wO_len (al : List Out) : (wO al).length ≤ al.length := List.length_filter_le _ _
theorem allR_both (s : ByteArray) (w : World) (hs : s.size < 4294967281) :
    Calls Tryd.prog 16 #[.string s] w fun e w' => ∃ v, e = .returned (.tuple #[v, fV (fzOf (allF s 0))]) ∧ w'.ownsRow w.heap.size 38 4 v (wO (allF s 0)).length ((wO (allF s 0)).flatMap tokCells) ∧ Below w.heap.size w w' ∧
      (allF s 0).length = (if (fzOf (allF s 0)).1 = 0 then (wO (allF s 0)).length else (wO (allF s 0)).length + 1) := by
  refine (allR_any s w hs).mono ?_
  rintro e w' ⟨hb, ⟨hf, v, rfl, hr⟩ | ⟨outs, c, li, co, wd, v, hc0, hal, ht, rfl, hr⟩⟩
  · have e1 : wO (allF s 0) = allF s 0 := wO_all (fltOf_none _ hf)
    have e2 : fzOf (allF s 0) = (0, 0, 0, ⟨#[]⟩) := by unfold fzOf; rw [hf]
    rw [e1, e2]
    exact ⟨v, rfl, hr, hb, by rw [if_pos rfl]⟩
  · have e0 : fltOf (allF s 0) = some (c, li, co, wd) := by rw [hal, fltOf_toks _ _ ht]; rfl
    have e1 : wO (allF s 0) = outs := by
      rw [hal]; unfold wO
      rw [List.filter_append, List.filter_eq_self.2 ht]
      show outs ++ [] = outs
      rw [List.append_nil]
    have e2 : fzOf (allF s 0) = (c, (li : Int), (co : Int), wd) := by unfold fzOf; rw [e0]
    have e3 : (allF s 0).length = outs.length + 1 := by rw [hal, List.length_append]; rfl
    rw [e1, e2, e3]
    exact ⟨v, rfl, hr, hb, by rw [if_neg hc0]⟩
theorem pre_lt {s : ByteArray} {i : Nat} {outs : List Out} (h : Pre s i outs) : outs.length < (allF s 0).length := by
  rw [h.all, allF_eq h.le, List.length_append, List.length_cons]
  omega
theorem pre_tok {s : ByteArray} {i : Nat} {outs : List Out} (h : Pre s i outs) (ht : (nextOut s i).isTok = true) : (wO (allF s 0))[outs.length]? = some (nextOut s i) := by
  rw [h.all, allF_eq h.le]
  unfold wO
  rw [List.filter_append, List.filter_eq_self.2 h.toks, List.getElem?_append_right (Nat.le_refl _), Nat.sub_self, List.filter_cons, if_pos ht]
  rfl
theorem pre_flt {s : ByteArray} {i : Nat} {outs : List Out} (h : Pre s i outs) {c : Int} {li co : Nat} {wd : ByteArray} (hn : nextOut s i = .flt c li co wd) : wO (allF s 0) = outs ∧ fzOf (allF s 0) = (c, (li : Int), (co : Int), wd) ∧ c ≠ 0 := by
  have hl : (nextOut s i).last = true := by rw [hn]; rfl
  have e := h.last hl
  rw [hn] at e
  have e0 : fltOf (allF s 0) = some (c, li, co, wd) := by rw [e, fltOf_toks _ _ h.toks]; rfl
  refine ⟨?_, by unfold fzOf; rw [e0], next_flt hn⟩
  rw [e]; unfold wO
  rw [List.filter_append, List.filter_eq_self.2 h.toks]
  show outs ++ [] = outs
  rw [List.append_nil]
/-- walk between two rounds. -/
structure WkC (w : World) (q : Nat) (most : Int) (vw : Value) (z : Int × Int × Int × ByteArray) (wo : List Out) (N k : Nat) (lo : Loop) (W : World) : Prop where
  ms : W.heap[w.heap.size]? = some (.cells #[.int .i64 most] 3 (0, 0))
  rs : W.heap[w.heap.size + 1]? = some (.cells #[.bool false] 4 (0, 0))
  wt : W.heap[q]? = some (.cells #[vw] 23 (0, 0))
  ft : FtC W (q + 1) (.int .i64 z.1) (.int .i64 z.2.1) (.int .i64 z.2.2.1) (.string z.2.2.2)
  al : W.heap[q + 3]? = some (.cells #[.int .i64 (N : Int)] 3 (0, 0))
  nn : W.heap[q + 4]? = some (.cells #[.int .i64 (k : Int)] 3 (0, 0))
  df : W.heap[q + 5]? = some (.deferred (some []))
  rc : W.heap[q + 6]? = some (.loop lo)
  tr : TR W vw wo
  tl : ∀ g, vw.ownBlock = some g → g < q
  bq : w.heap.size + 1 < q
  bel : Below w.heap.size w W
  er : ErrT W
theorem TR.off {R : Nat} {w w' : World} {v : Value} {outs : List Out} (h : TR w v outs) (ho : Off R w w') (hl : ∀ g, v.ownBlock = some g → g < R) : TR w' v outs := by
  refine h.grown ho ?_
  rcases hv : v.ownBlock with _ | g
  · exact .inl rfl
  · exact .inr fun e => by have := hl g hv; have := Option.some.inj e; omega
theorem WkC.off {w : World} {q : Nat} {most : Int} {vw : Value} {z : Int × Int × Int × ByteArray} {wo : List Out} {N k : Nat} {lo : Loop} {W W' : World} (h : WkC w q most vw z wo N k lo W) (_ : 0 < w.heap.size) (ho : Off (q + 7) W W') : WkC w q most vw z wo N k lo W' := by
  have hl := heap_lt h.rc
  have hbq := h.bq
  have hk : ∀ k, k < q + 7 → W'.heap[k]? = W.heap[k]? := fun k hk => ho.block k (by omega) (fun e => by have := Option.some.inj e; omega)
  exact ⟨by rw [hk _ (by omega)]; exact h.ms, by rw [hk _ (by omega)]; exact h.rs, by rw [hk _ (by omega)]; exact h.wt, by unfold FtC; rw [hk _ (by omega)]; exact h.ft, by rw [hk _ (by omega)]; exact h.al, by rw [hk _ (by omega)]; exact h.nn, by rw [hk _ (by omega)]; exact h.df, by rw [hk _ (by omega)]; exact h.rc, h.tr.off ho (fun g hg => by have := h.tl g hg; omega), h.tl, h.bq, h.bel.trans ⟨ho.os, ho.tape, ho.output, ho.size, fun k hkb => hk k (by omega)⟩, by unfold ErrT; rw [World.cell?_of_block (hk 0 (by omega))]; exact h.er⟩
theorem TR.putLoop {w : World} {v : Value} {outs : List Out} (h : TR w v outs) {l : Nat} (hl : ∀ g, v.ownBlock = some g → g ≠ l) (o : Obj) : TR (w.putObj l o) v outs := by
  refine ⟨h.toks, ?_⟩
  rcases h.form with h1 | ⟨g, cap, h1, h2, h3⟩
  · exact .inl h1
  · refine .inr ⟨g, cap, h1, by simpa using h2, ?_⟩
    intro i k ms li co j hi
    have hk : ∀ r, (w.putObj l o).cell? ⟨g, r, none⟩ = w.cell? ⟨g, r, none⟩ := fun r => World.cell?_of_block (World.putObj_heap_other (hl g (by rw [h1]; rfl)))
    rw [hk, hk, hk, hk]
    exact h3 i k ms li co j hi
theorem WkC.put {w : World} {q : Nat} {most : Int} {vw : Value} {z : Int × Int × Int × ByteArray} {wo : List Out} {N k : Nat} {lo : Loop} {W : World} (h : WkC w q most vw z wo N k lo W) (_ : 0 < w.heap.size) (lo' : Loop) : WkC w q most vw z wo N k lo' (W.putObj (q + 6) (.loop lo')) := by
  have hbq := h.bq
  have hk : ∀ k, k ≠ q + 6 → (W.putObj (q + 6) (.loop lo')).heap[k]? = W.heap[k]? := fun k hk => World.putObj_heap_other hk
  exact ⟨by rw [hk _ (by omega)]; exact h.ms, by rw [hk _ (by omega)]; exact h.rs, by rw [hk _ (by omega)]; exact h.wt, by unfold FtC; rw [hk _ (by omega)]; exact h.ft, by rw [hk _ (by omega)]; exact h.al, by rw [hk _ (by omega)]; exact h.nn, by rw [hk _ (by omega)]; exact h.df, World.putObj_heap_same (heap_lt h.rc), h.tr.putLoop (fun g hg => by have := h.tl g hg; omega) _, h.tl, h.bq, h.bel.trans (below_put _ (by omega)), by unfold ErrT; rw [World.cell?_of_block (hk 0 (by omega))]; exact h.er⟩
/-- One more was told. -/
theorem WkC.next {w : World} {q : Nat} {most : Int} {vw : Value} {z : Int × Int × Int × ByteArray} {wo : List Out} {N k : Nat} {lo : Loop} {W : World} (h : WkC w q most vw z wo N k lo W) (_ : 0 < w.heap.size) : WkC w q most vw z wo N (k + 1) lo (W.setCell ⟨q + 4, 0, none⟩ (.int .i64 ((k + 1 : Nat) : Int))) := by
  have hbq := h.bq
  have hk : ∀ k', k' ≠ q + 4 → (W.setCell ⟨q + 4, 0, none⟩ (.int .i64 ((k + 1 : Nat) : Int))).heap[k']? = W.heap[k']? := fun k' hk => Below.heap_setCell _ _ _ _ hk
  exact ⟨by rw [hk _ (by omega)]; exact h.ms, by rw [hk _ (by omega)]; exact h.rs, by rw [hk _ (by omega)]; exact h.wt, by unfold FtC; rw [hk _ (by omega)]; exact h.ft, by rw [hk _ (by omega)]; exact h.al, by rw [heap_setCell_same W (q + 4) 0 _ _ _ h.nn]; rfl, by rw [hk _ (by omega)]; exact h.df, by rw [hk _ (by omega)]; exact h.rc, h.tr.set (p := ⟨q + 4, 0, none⟩) (fun e => by have h1 : q + 4 < q := h.tl _ e; omega) _, h.tl, h.bq, h.bel.setCell (p := ⟨q + 4, 0, none⟩) (by show w.heap.size ≤ q + 4; omega) _, by unfold ErrT; rw [World.cell?_of_block (hk 0 (by omega))]; exact h.er⟩
end Go.Proofs.YtlemnbegblpllaaDoor

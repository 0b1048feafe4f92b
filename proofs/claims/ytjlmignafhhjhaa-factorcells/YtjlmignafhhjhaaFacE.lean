/-
  Proved here: how a walk through a product's values stands in memory.
-/
import Derived.Test.YtjlmignafhhjhaaFacC
namespace Go.Proofs.Ytjlmignafhhjhaa
set_option linter.unusedVariables false
open Go.RowKit Go.Shelf Go.Lib Go.Sort
theorem callsIn_recF {F : Fence} {n : Nat} {P : Program} {f : Nat} {args : Array Value} {W : World} {fn : FuncId} {tmps : Array Value} {ps : Array Tmp} {ca cb : Code} {d l : Nat} {Dn : World → Prop} {St : Code → World → Prop}
    (h : ∀ lo, lo = recOf fn tmps ps ca cb d .ready none → CallsIn F n P f args (W.alloc (.loop lo)) fun e W2 => (∃ v, e = .returned v) ∧ ∃ pe : Option Code, W2.heap[l]? = some (.loop { lo with state := (if pe.isNone then .ready else .done), pending := pe }) ∧ W2.heap[d]? = some (.deferred (some [])) ∧ lastly Dn St pe W2) :
    CallsIn F n P f args (W.alloc (.loop (recOf fn tmps ps ca cb d .ready none))) fun e W2 => (∃ v, e = .returned v) ∧ ∃ pe : Option Code, W2.heap[l]? = some (.loop (recOf fn tmps ps ca cb d (if pe.isNone then .ready else .done) pe)) ∧ W2.heap[d]? = some (.deferred (some [])) ∧ lastly Dn St pe W2 := h _ rfl
/-- All blocks but two are as they were. -/
structure Gr2 (w w' : World) (a b : Nat) : Prop where
  os : w'.os = w.os
  tape : w'.tape = w.tape
  output : w'.output = w.output
  size : w.heap.size ≤ w'.heap.size
  block : ∀ k, k < w.heap.size → k ≠ a → k ≠ b → w'.heap[k]? = w.heap[k]?
section
variable {w W W' : World} {a b : Nat}
theorem Gr2.refl (w : World) (a b : Nat) : Gr2 w w a b := ⟨rfl, rfl, rfl, Nat.le_refl _, fun _ _ _ _ => rfl⟩
theorem Gr2.alloc (h : Gr2 w W a b) (o : Obj) : Gr2 w (W.alloc o) a b := ⟨h.os, h.tape, h.output, by have := h.size; simp; omega, fun k hk h1 h2 => by rw [Below.heap_alloc _ _ _ (Nat.lt_of_lt_of_le hk h.size)]; exact h.block k hk h1 h2⟩
theorem Gr2.drew (h : Gr2 w W a b) : Gr2 w W.drew a b := ⟨h.os, h.tape, h.output, h.size, h.block⟩
theorem Gr2.setA (h : Gr2 w W a b) (k : Nat) (v : Value) : Gr2 w (W.setCell ⟨a, k, none⟩ v) a b := by
  have hb := (Below.refl a W).setCell (p := ⟨a, k, none⟩) (Nat.le_refl _) v
  exact ⟨hb.os.trans h.os, hb.tape.trans h.tape, hb.output.trans h.output, Nat.le_trans h.size hb.size, fun q hq h1 h2 => by rw [Below.heap_setCell _ _ _ _ h1]; exact h.block q hq h1 h2⟩
theorem Gr2.setB (h : Gr2 w W a b) (k : Nat) (v : Value) : Gr2 w (W.setCell ⟨b, k, none⟩ v) a b := by
  have hb := (Below.refl b W).setCell (p := ⟨b, k, none⟩) (Nat.le_refl _) v
  exact ⟨hb.os.trans h.os, hb.tape.trans h.tape, hb.output.trans h.output, Nat.le_trans h.size hb.size, fun q hq h1 h2 => by rw [Below.heap_setCell _ _ _ _ h2]; exact h.block q hq h1 h2⟩
theorem Gr2.put (h : Gr2 w W a b) {k : Nat} (hk : w.heap.size ≤ k) (o : Obj) : Gr2 w (W.putObj k o) a b := ⟨h.os, h.tape, h.output, by simpa [World.putObj] using h.size, fun q hq h1 h2 => by rw [World.putObj_heap_other (by omega)]; exact h.block q hq h1 h2⟩
end
/-- A walk that stands at place i: the struct, its values, its strides. -/
structure WkS (w : World) (gw gv gs : Nat) (zv : Value) (S : List Int) (B : List Bool) (i : Int) : Prop where
  str : w.heap[gw]? = some (.cells #[zv, .slice (some ⟨gv, 0, none⟩) S.length S.length, .slice (some ⟨gs, 0, none⟩) S.length S.length, .int .i64 (dot (dgs S i) (strd S B))] 81 (0, 0))
  val : w.heap[gv]? = some (.cells ((dgs S i).map (Value.int .i64)).toArray 3 (0, 0))
  srd : w.heap[gs]? = some (.cells ((strd S B).map (Value.int .i64)).toArray 3 (0, 0))
/-- How memory stands while step goes. -/
structure FsC (w : World) (zv : Value) (n : Nat) (L : List Int) (p : Int) (gw gv gs s : Nat) (lo : Loop) (W : World) : Prop where
  str : W.heap[gw]? = some (.cells #[zv, .slice (some ⟨gv, 0, none⟩) n n, .slice (some ⟨gs, 0, none⟩) n n, .int .i64 p] 81 (0, 0))
  val : W.heap[gv]? = some (.cells (L.map (Value.int .i64)).toArray 3 (0, 0))
  box : W.heap[s]? = some (.cells #[.pointer (some ⟨gw, 0, none⟩)] 77 (0, 0))
  src : W.heap[s + 1]? = some (.cells #[zv] 22 (0, 0))
  dfr : W.heap[s + 2]? = some (.deferred (some []))
  rcd : W.heap[s + 3]? = some (.loop lo)
  oth : Gr2 w W gw gv
section
variable {w : World} {zv : Value} {n : Nat} {L : List Int} {p : Int} {gw gv gs s : Nat} {lo : Loop} {W : World}
theorem FsC.drew (h : FsC w zv n L p gw gv gs s lo W) : FsC w zv n L p gw gv gs s lo W.drew := ⟨h.str, h.val, h.box, h.src, h.dfr, h.rcd, h.oth.drew⟩
theorem FsC.put (h : FsC w zv n L p gw gv gs s lo W) (hw : gw < s) (hv : gv < s) (hs : w.heap.size ≤ s) (lo' : Loop) : FsC w zv n L p gw gv gs s lo' (W.putObj (s + 3) (.loop lo')) := by
  have hl : s + 3 < W.heap.size := (Array.getElem?_eq_some_iff.1 h.rcd).1
  refine ⟨?_, ?_, ?_, ?_, ?_, World.putObj_heap_same hl, h.oth.put (by omega) _⟩
  · rw [World.putObj_heap_other (by omega)]; exact h.str
  · rw [World.putObj_heap_other (by omega)]; exact h.val
  · rw [World.putObj_heap_other (by omega)]; exact h.box
  · rw [World.putObj_heap_other (by omega)]; exact h.src
  · rw [World.putObj_heap_other (by omega)]; exact h.dfr
theorem FsC.setV (h : FsC w zv n L p gw gv gs s lo W) (hw : gw < s) (hv : gv < s) (hne : gw ≠ gv) (j : Nat) (x : Int) : FsC w zv n (L.set j x) p gw gv gs s lo (W.setCell ⟨gv, j, none⟩ (.int .i64 x)) := by
  refine ⟨?_, row_set h.val x, ?_, ?_, ?_, ?_, h.oth.setB _ _⟩
  · rw [Below.heap_setCell _ _ _ _ hne]; exact h.str
  · rw [Below.heap_setCell _ _ _ _ (show s ≠ gv by omega)]; exact h.box
  · rw [Below.heap_setCell _ _ _ _ (show s + 1 ≠ gv by omega)]; exact h.src
  · rw [Below.heap_setCell _ _ _ _ (show s + 2 ≠ gv by omega)]; exact h.dfr
  · rw [Below.heap_setCell _ _ _ _ (show s + 3 ≠ gv by omega)]; exact h.rcd
theorem FsC.setA (h : FsC w zv n L p gw gv gs s lo W) (hw : gw < s) (hv : gv < s) (hne : gw ≠ gv) (x : Int) : FsC w zv n L x gw gv gs s lo (W.setCell ⟨gw, 3, none⟩ (.int .i64 x)) := by
  refine ⟨?_, ?_, ?_, ?_, ?_, ?_, h.oth.setA _ _⟩
  · rw [heap_setCell_same W gw 3 _ _ _ h.str]; rfl
  · rw [Below.heap_setCell _ _ _ _ (Ne.symm hne)]; exact h.val
  · rw [Below.heap_setCell _ _ _ _ (show s ≠ gw by omega)]; exact h.box
  · rw [Below.heap_setCell _ _ _ _ (show s + 1 ≠ gw by omega)]; exact h.src
  · rw [Below.heap_setCell _ _ _ _ (show s + 2 ≠ gw by omega)]; exact h.dfr
  · rw [Below.heap_setCell _ _ _ _ (show s + 3 ≠ gw by omega)]; exact h.rcd
theorem FsC.cells (h : FsC w zv n L p gw gv gs s lo W) {j : Nat} (hj : j < L.length) :
    W.cell? ⟨s, 0, none⟩ = some (.pointer (some ⟨gw, 0, none⟩)) ∧ W.cell? ⟨gw, 1, none⟩ = some (.slice (some ⟨gv, 0, none⟩) n n) ∧ W.cell? ⟨gw, 2, none⟩ = some (.slice (some ⟨gs, 0, none⟩) n n) ∧ W.cell? ⟨gw, 3, none⟩ = some (.int .i64 p) ∧
      W.cell? ⟨gv, j, none⟩ = some (.int .i64 (L.getD j 0)) ∧ W.frozen? ⟨gv, j, none⟩ = false ∧ W.frozen? ⟨gw, 3, none⟩ = false :=
  ⟨by simp [World.cell?, h.box], by simp [World.cell?, h.str], by simp [World.cell?, h.str], by simp [World.cell?, h.str], row_cell h.val hj, frozen_of_row W _ _ _ _ h.val, frozen_of_row W _ _ _ _ h.str⟩
theorem FsC.srd (h : FsC w zv n L p gw gv gs s lo W) {T : List Int} (hT : w.heap[gs]? = some (.cells (T.map (Value.int .i64)).toArray 3 (0, 0))) (h1 : gs ≠ gw) (h2 : gs ≠ gv) {j : Nat} (hj : j < T.length) : W.cell? ⟨gs, j, none⟩ = some (.int .i64 (T.getD j 0)) := by
  have hl : gs < w.heap.size := (Array.getElem?_eq_some_iff.1 hT).1
  exact row_cell ((h.oth.block gs hl h1 h2).trans hT) hj
end
theorem wp_zeros {P : Program} (w : World) {o : Oper} {a : Act} {K : Act → World → Prop} {Q : Exit → Act → World → Prop} (l c : Operand) (t : TypeId) (hop : o.op = Op.makeSlice t l c)
    (e : TypeId) (i : TypeInfo) (k : IntKind) (h1 : P.underlying t = some (.slice e)) (h2 : P.info? e = some i) (h3 : i.zero = some (.int k 0)) (h4 : i.size = 1)
    (kl kc : IntKind) (m : Nat) (hl : a.eval l = .int kl (m : Int)) (hc : a.eval c = .int kc (m : Int)) (b2 : i.bytes * m ≤ 281474976710656) (b3 : m ≤ 9223372036854775807)
    (hK : K (a.put o.dst (.slice (some ⟨w.heap.size, 0, none⟩) m m)) (w.alloc (.cells (Array.replicate m (.int k 0)) e))) : o.wp P a w K Q := by
  have hb' : (i.bytes : Int) * (m : Int) ≤ 281474976710656 := by
    have h : ((i.bytes * m : Nat) : Int) ≤ 281474976710656 := by omega
    rwa [Int.natCast_mul] at h
  have hrun := run_make (P := P) w t e i (.int k 0) h1 h2 h3 kl kc m m (by omega) (Int.le_refl _) hb' (by omega)
  simp only [Int.toNat_natCast, h4, Nat.mul_one, Value.cells] at hrun
  rw [made_row] at hrun
  unfold Oper.wp
  simp [execOp, hop, hl, hc, hrun, Result.andThen]
  exact hK
theorem want_yes {o : Oper} {ys : Nat → Option Bool} {A B : Prop} (hg : o.guard = none) (h : A) : if Region.wanted o ys = true then A else B := by
  rw [if_pos (by simp [Region.wanted, hg])]; exact h
theorem results_t1F {P : Program} {fn : Func} {p : Tmp} (h : fn.results = #[.tmp p]) (tmps : Array Value) (w : World) (v : Value) (hp : tmps.getD p undef = v) : (results fn tmps).run P w = .ok v w := by
  have hp' : tmps[p]?.getD undef = v := by simpa using hp
  simp [results, h, hp']
/-- How memory stands while walkOf goes. -/
structure WoC (W2 : World) (hv uv : Value) (n : Nat) (T : List Int) (p : Int) (h : Nat) (lo : Loop) (W : World) : Prop where
  hsb : W.heap[h]? = some (.cells #[hv] 126 (0, 0))
  row : W.heap[h + 1]? = some (.cells (T.map (Value.int .i64)).toArray 3 (0, 0))
  box : W.heap[h + 2]? = some (.cells #[.slice (some ⟨h + 1, 0, none⟩) n n] 22 (0, 0))
  apt : W.heap[h + 3]? = some (.cells #[.int .i64 p] 3 (0, 0))
  src : W.heap[h + 4]? = some (.cells #[uv] 22 (0, 0))
  dfr : W.heap[h + 5]? = some (.deferred (some []))
  rcd : W.heap[h + 6]? = some (.loop lo)
  bel : Below h W2 W
section
variable {W2 : World} {hv uv : Value} {n : Nat} {T : List Int} {p : Int} {h : Nat} {lo : Loop} {W W' : World}
theorem WoC.drew (k : WoC W2 hv uv n T p h lo W) : WoC W2 hv uv n T p h lo W.drew := ⟨k.hsb, k.row, k.box, k.apt, k.src, k.dfr, k.rcd, k.bel.drew⟩
theorem WoC.below (k : WoC W2 hv uv n T p h lo W) (b : Below W.heap.size W W') : WoC W2 hv uv n T p h lo W' := by
  have hl : h + 6 < W.heap.size := (Array.getElem?_eq_some_iff.1 k.rcd).1
  refine ⟨?_, ?_, ?_, ?_, ?_, ?_, ?_, k.bel.trans (b.mono (by omega))⟩
  · rw [b.block _ (by omega)]; exact k.hsb
  · rw [b.block _ (by omega)]; exact k.row
  · rw [b.block _ (by omega)]; exact k.box
  · rw [b.block _ (by omega)]; exact k.apt
  · rw [b.block _ (by omega)]; exact k.src
  · rw [b.block _ (by omega)]; exact k.dfr
  · rw [b.block _ (by omega)]; exact k.rcd
theorem WoC.put (k : WoC W2 hv uv n T p h lo W) (lo' : Loop) : WoC W2 hv uv n T p h lo' (W.putObj (h + 6) (.loop lo')) := by
  have hl : h + 6 < W.heap.size := (Array.getElem?_eq_some_iff.1 k.rcd).1
  refine ⟨?_, ?_, ?_, ?_, ?_, ?_, World.putObj_heap_same hl, ?_⟩
  · rw [World.putObj_heap_other (by omega)]; exact k.hsb
  · rw [World.putObj_heap_other (by omega)]; exact k.row
  · rw [World.putObj_heap_other (by omega)]; exact k.box
  · rw [World.putObj_heap_other (by omega)]; exact k.apt
  · rw [World.putObj_heap_other (by omega)]; exact k.src
  · rw [World.putObj_heap_other (by omega)]; exact k.dfr
  · exact k.bel.trans ⟨rfl, rfl, rfl, by simp [World.putObj], fun q hq => World.putObj_heap_other (by omega)⟩
theorem WoC.setR (k : WoC W2 hv uv n T p h lo W) (j : Nat) (x : Int) : WoC W2 hv uv n (T.set j x) p h lo (W.setCell ⟨h + 1, j, none⟩ (.int .i64 x)) := by
  refine ⟨?_, row_set k.row x, ?_, ?_, ?_, ?_, ?_, k.bel.setCell (p := ⟨h + 1, j, none⟩) (by show h ≤ h + 1; omega) _⟩
  · rw [Below.heap_setCell _ _ _ _ (show h ≠ h + 1 by omega)]; exact k.hsb
  · rw [Below.heap_setCell _ _ _ _ (show h + 2 ≠ h + 1 by omega)]; exact k.box
  · rw [Below.heap_setCell _ _ _ _ (show h + 3 ≠ h + 1 by omega)]; exact k.apt
  · rw [Below.heap_setCell _ _ _ _ (show h + 4 ≠ h + 1 by omega)]; exact k.src
  · rw [Below.heap_setCell _ _ _ _ (show h + 5 ≠ h + 1 by omega)]; exact k.dfr
  · rw [Below.heap_setCell _ _ _ _ (show h + 6 ≠ h + 1 by omega)]; exact k.rcd
theorem WoC.setP (k : WoC W2 hv uv n T p h lo W) (x : Int) : WoC W2 hv uv n T x h lo (W.setCell ⟨h + 3, 0, none⟩ (.int .i64 x)) := by
  refine ⟨?_, ?_, ?_, ?_, ?_, ?_, ?_, k.bel.setCell (p := ⟨h + 3, 0, none⟩) (by show h ≤ h + 3; omega) _⟩
  · rw [Below.heap_setCell _ _ _ _ (show h ≠ h + 3 by omega)]; exact k.hsb
  · rw [Below.heap_setCell _ _ _ _ (show h + 1 ≠ h + 3 by omega)]; exact k.row
  · rw [Below.heap_setCell _ _ _ _ (show h + 2 ≠ h + 3 by omega)]; exact k.box
  · rw [heap_setCell_same W (h + 3) 0 _ _ _ k.apt]; rfl
  · rw [Below.heap_setCell _ _ _ _ (show h + 4 ≠ h + 3 by omega)]; exact k.src
  · rw [Below.heap_setCell _ _ _ _ (show h + 5 ≠ h + 3 by omega)]; exact k.dfr
  · rw [Below.heap_setCell _ _ _ _ (show h + 6 ≠ h + 3 by omega)]; exact k.rcd
theorem WoC.cells (k : WoC W2 hv uv n T p h lo W) {j : Nat} (hj : j < T.length) :
    W.cell? ⟨h, 0, none⟩ = some hv ∧ W.cell? ⟨h + 2, 0, none⟩ = some (.slice (some ⟨h + 1, 0, none⟩) n n) ∧ W.cell? ⟨h + 3, 0, none⟩ = some (.int .i64 p) ∧
      W.cell? ⟨h + 1, j, none⟩ = some (.int .i64 (T.getD j 0)) ∧ W.frozen? ⟨h + 1, j, none⟩ = false ∧ W.frozen? ⟨h + 3, 0, none⟩ = false :=
  ⟨by simp [World.cell?, k.hsb], by simp [World.cell?, k.box], by simp [World.cell?, k.apt], row_cell k.row hj, frozen_of_row W _ _ _ _ k.row, frozen_of_row W _ _ _ _ k.apt⟩
end
/-- Which variables of a scope a table has. -/
def mask (U P : List Int) : List Bool := U.map fun v => decide (v ∈ P)
theorem mask_len (U P : List Int) : (mask U P).length = U.length := by simp [mask]
theorem mask_get (U P : List Int) (j : Nat) (hj : j < U.length) : (mask U P).getD j false = decide (U.getD j 0 ∈ P) := by
  simp [mask, List.getD_eq_getElem?_getD, hj]
theorem dgs_zero (S : List Int) : dgs S 0 = List.replicate S.length 0 := by
  apply List.ext_getElem
  · simp [dgs]
  · intro i h1 h2
    simp [dgs, digAt]
theorem dot_zero : ∀ (n : Nat) (T : List Int), dot (List.replicate n 0) T = 0
  | 0, T => by cases T <;> rfl
  | n + 1, [] => rfl
  | n + 1, t :: T => by rw [List.replicate_succ, dot, dot_zero n T]; simp
/-- A row that can be read, where two blocks are written that it does not lie in. -/
theorem RK.gr2 {w W : World} {a b : Nat} {v : Value} {zs : List Int} (h : RK .i64 w v zs) (hg : Gr2 w W a b) (hne : ∀ q, v.ownBlock = some q → q ≠ a ∧ q ≠ b) : RK .i64 W v zs := by
  obtain ⟨ao, cap, rfl, h1, h2, h3, h4, h5⟩ := h
  refine ⟨ao, cap, rfl, h1, h2, h3, h4, fun j hj => ?_⟩
  obtain ⟨q, off, rfl, hc⟩ := h5 j hj
  obtain ⟨n1, n2⟩ := hne q rfl
  exact ⟨q, off, rfl, by rw [← hc]; exact World.cell?_of_block (hg.block q (block_lt_of_cell hc) n1 n2)⟩
end Go.Proofs.Ytjlmignafhhjhaa

/-
  Proved here: a loop that counts what Each tells, between two rounds.
-/
import Derived.Test.YtlemnbegblpllaaDoorLexEachM
import Derived.ChangeShapes
namespace Go.Proofs.YtlemnbegblpllaaDoor
open Go.RowKit Go.Shelf
structure CtC (w : World) (bx c d1 : Nat) (most : Int) (s : ByteArray) (k : Nat) (lo : Loop) (W : World) : Prop where
  ms : W.heap[w.heap.size]? = some (.cells #[.int .i64 most] 3 (0, 0))
  tb : W.heap[bx]? = some (.cells #[.string s] 9 (0, 0))
  nn : W.heap[c]? = some (.cells #[.int .i64 (k : Int)] 3 (0, 0))
  df : W.heap[c + 1]? = some (.deferred (some []))
  rc : W.heap[c + 2]? = some (.loop lo)
  dd : W.heap[d1]? = some (.deferred (some []))
  b1 : w.heap.size < bx
  b2 : bx < c
  b3 : w.heap.size < d1
  b4 : d1 ≠ c ∧ d1 ≠ c + 2 ∧ d1 < c + 3
  bel : Below w.heap.size w W
theorem CtC.off {w : World} {bx c d1 : Nat} {most : Int} {s : ByteArray} {k : Nat} {lo : Loop} {W W' : World} (h : CtC w bx c d1 most s k lo W) (ho : Off (c + 3) W W') : CtC w bx c d1 most s k lo W' := by
  have hl := heap_lt h.rc
  have h1 := h.b1
  have h2 := h.b2
  have h4 := h.b4
  have hk : ∀ k, k < c + 3 → W'.heap[k]? = W.heap[k]? := fun k hk => ho.block k (by omega) (fun e => by have := Option.some.inj e; omega)
  exact ⟨by rw [hk _ (by omega)]; exact h.ms, by rw [hk _ (by omega)]; exact h.tb, by rw [hk _ (by omega)]; exact h.nn, by rw [hk _ (by omega)]; exact h.df, by rw [hk _ (by omega)]; exact h.rc, by rw [hk _ (by omega)]; exact h.dd, h.b1, h.b2, h.b3, h.b4,
    h.bel.trans ⟨ho.os, ho.tape, ho.output, ho.size, fun k hkb => hk k (by omega)⟩⟩
theorem CtC.put {w : World} {bx c d1 : Nat} {most : Int} {s : ByteArray} {k : Nat} {lo : Loop} {W : World} (h : CtC w bx c d1 most s k lo W) (lo' : Loop) : CtC w bx c d1 most s k lo' (W.putObj (c + 2) (.loop lo')) := by
  have h1 := h.b1
  have h2 := h.b2
  have h4 := h.b4
  have hk : ∀ k, k ≠ c + 2 → (W.putObj (c + 2) (.loop lo')).heap[k]? = W.heap[k]? := fun k hk => World.putObj_heap_other hk
  exact ⟨by rw [hk _ (by omega)]; exact h.ms, by rw [hk _ (by omega)]; exact h.tb, by rw [hk _ (by omega)]; exact h.nn, by rw [hk _ (by omega)]; exact h.df, World.putObj_heap_same (heap_lt h.rc), by rw [hk _ (by omega)]; exact h.dd, h.b1, h.b2, h.b3, h.b4, h.bel.trans (below_put _ (by omega))⟩
theorem CtC.next {w : World} {bx c d1 : Nat} {most : Int} {s : ByteArray} {k : Nat} {lo : Loop} {W : World} (h : CtC w bx c d1 most s k lo W) : CtC w bx c d1 most s (k + 1) lo (W.setCell ⟨c, 0, none⟩ (.int .i64 ((k + 1 : Nat) : Int))) := by
  have h1 := h.b1
  have h2 := h.b2
  have h4 := h.b4
  have hk : ∀ k', k' ≠ c → (W.setCell ⟨c, 0, none⟩ (.int .i64 ((k + 1 : Nat) : Int))).heap[k']? = W.heap[k']? := fun k' hk => Below.heap_setCell _ _ _ _ hk
  exact ⟨by rw [hk _ (by omega)]; exact h.ms, by rw [hk _ (by omega)]; exact h.tb, by rw [heap_setCell_same W c 0 _ _ _ h.nn]; rfl, by rw [hk _ (by omega)]; exact h.df, by rw [hk _ (by omega)]; exact h.rc, by rw [hk _ (by omega)]; exact h.dd, h.b1, h.b2, h.b3, h.b4, h.bel.setCell (p := ⟨c, 0, none⟩) (by show w.heap.size ≤ c; omega) _⟩
theorem CtC.start {w W : World} {bx d1 : Nat} {most : Int} {s : ByteArray} (hms : W.heap[w.heap.size]? = some (.cells #[.int .i64 most] 3 (0, 0))) (htb : W.heap[bx]? = some (.cells #[.string s] 9 (0, 0)))
    (hdd : d1 = W.heap.size + 1 ∨ (d1 < W.heap.size ∧ W.heap[d1]? = some (.deferred (some [])))) (b1 : w.heap.size < bx) (b2 : bx < W.heap.size) (b3 : w.heap.size < d1) (bel : Below w.heap.size w W) (lo : Loop) :
    CtC w bx W.heap.size d1 most s 0 lo (((W.alloc (.cells #[.int .i64 0] 3)).alloc (.deferred (some []))).alloc (.loop lo)) := by
  have b7 : Below W.heap.size W (((W.alloc (.cells #[.int .i64 0] 3)).alloc (.deferred (some []))).alloc (.loop lo)) := bstep1 (bstep1 (belowA1 _ _) (belowA1 _ _)) (belowA1 _ _)
  have q1 := heap_alloc_new W (.cells #[.int .i64 0] 3)
  have q2 := heap_alloc_new (W.alloc (.cells #[.int .i64 0] 3)) (.deferred (some []))
  have q3 := heap_alloc_new ((W.alloc (.cells #[.int .i64 0] 3)).alloc (.deferred (some []))) (.loop lo)
  rw [World.size_alloc] at q2
  rw [World.size_alloc, World.size_alloc] at q3
  have hdf : (((W.alloc (.cells #[.int .i64 0] 3)).alloc (.deferred (some []))).alloc (.loop lo)).heap[W.heap.size + 1]? = some (.deferred (some [])) := by
    rw [Below.heap_alloc _ _ _ (by simp)]; exact q2
  refine ⟨by rw [b7.block _ (by omega)]; exact hms, by rw [b7.block _ b2]; exact htb, ?_, hdf, q3, ?_, b1, b2, b3, by omega, bel.trans (b7.mono (by omega))⟩
  · rw [Below.heap_alloc _ _ _ (by simp <;> omega), Below.heap_alloc _ _ _ (by simp)]; exact q1
  · rcases hdd with h | ⟨h, h2⟩
    · rw [h]; exact hdf
    · rw [b7.block _ h]; exact h2
set_option maxHeartbeats 1600000 in
theorem count_each (s : ByteArray) (m : Int) (hz : s.size < 4294967281) (w : World) (bx c d1 : Nat) (most : Int) (lo : Loop) (id : Nat)
    (hrd : ∀ lo', lo' = lo → ∀ i outs W1 tv ev, Pre s i outs → CtC w bx c d1 most s outs.length lo' W1 → c + 3 < W1.heap.size →
      YieldAt Fence.wide 2 Tryd.prog (c + 2) #[tv, ev] W1 fun e W' => (e = .returned (.bool true) ∧ CtC w bx c d1 most s (outs.length + 1) lo' W' ∧ W1.heap.size ≤ W'.heap.size ∧ ∀ k, (k = 1 ∨ c + 3 ≤ k) → k < W1.heap.size → W'.heap[k]? = W1.heap[k]?) ∨
        (e = .returned (.bool false) ∧ CtC w bx c d1 most s (outs.length + 1) { lo' with state := .done, pending := some (.exit id) } W'))
    (W : World) (hW : W.heap.size = c + 3) (hm : W.cell? ⟨1, 0, none⟩ = some (.int .i64 m)) (h0 : CtC w bx c d1 most s 0 lo W) :
    CallsIn Fence.wide 3 Tryd.prog 24 #[.func (.yield (c + 2)) #[] #[], .pointer (some ⟨bx, 0, none⟩)] W fun e W2 => (∃ v, e = .returned v) ∧
      (CtC w bx c d1 most s (allF s 0).length lo W2 ∨ ∃ k, CtC w bx c d1 most s k { lo with state := .done, pending := some (.exit id) } W2) := by
  have q1 := h0.b1
  have q2 := h0.b2
  refine CallsIn.mono (each_loop 3 (by decide) (c + 2) bx (c + 3) s m hz (fun outs W => CtC w bx c d1 most s outs.length lo W)
    (fun W => ∃ k, CtC w bx c d1 most s k { lo with state := .done, pending := some (.exit id) } W) ?_ ?_ W hW (by omega) (by simp [World.cell?, h0.tb]) hm h0) (fun e W2 h => h)
  · intro outs A B h ho
    exact h.off ho
  · intro i outs W1 tv ev hp ht h1 hs
    refine (hrd lo rfl i outs W1 tv ev hp h1 hs).mono ?_
    rintro e W' (⟨rfl, h3, h5, h6⟩ | ⟨rfl, h3⟩)
    · exact .inl ⟨rfl, by rw [List.length_append, List.length_singleton]; exact h3, h5, h6⟩
    · exact .inr ⟨rfl, _, h3⟩
theorem count_all (s : ByteArray) (m : Int) (hz : s.size < 4294967281) (w : World) (bx c d1 : Nat) (most : Int) (lo : Loop)
    (hrd : ∀ lo', lo' = lo → ∀ i outs W1 tv ev, Pre s i outs → CtC w bx c d1 most s outs.length lo' W1 → c + 3 < W1.heap.size →
      YieldAt Fence.wide 2 Tryd.prog (c + 2) #[tv, ev] W1 fun e W' => e = .returned (.bool true) ∧ CtC w bx c d1 most s (outs.length + 1) lo' W' ∧ W1.heap.size ≤ W'.heap.size ∧ ∀ k, (k = 1 ∨ c + 3 ≤ k) → k < W1.heap.size → W'.heap[k]? = W1.heap[k]?)
    (W : World) (hW : W.heap.size = c + 3) (hm : W.cell? ⟨1, 0, none⟩ = some (.int .i64 m)) (h0 : CtC w bx c d1 most s 0 lo W) :
    CallsIn Fence.wide 3 Tryd.prog 24 #[.func (.yield (c + 2)) #[] #[], .pointer (some ⟨bx, 0, none⟩)] W fun e W2 => (∃ v, e = .returned v) ∧ CtC w bx c d1 most s (allF s 0).length lo W2 := by
  have q1 := h0.b1
  have q2 := h0.b2
  refine CallsIn.mono (each_loop 3 (by decide) (c + 2) bx (c + 3) s m hz (fun outs W => CtC w bx c d1 most s outs.length lo W) (fun _ => False) ?_ ?_ W hW (by omega) (by simp [World.cell?, h0.tb]) hm h0) (fun e W2 h => ⟨h.1, h.2.elim id False.elim⟩)
  · intro outs A B h ho
    exact h.off ho
  · intro i outs W1 tv ev hp ht h1 hs
    refine (hrd lo rfl i outs W1 tv ev hp h1 hs).mono ?_
    rintro e W' ⟨rfl, h3, h5, h6⟩
    exact .inl ⟨rfl, by rw [List.length_append, List.length_singleton]; exact h3, h5, h6⟩
theorem results_t1 {P : Program} {fn : Func} {p : Tmp} (h : fn.results = #[.tmp p]) (tmps : Array Value) (w : World) (v : Value) (hp : tmps.getD p undef = v) : (results fn tmps).run P w = .ok v w := by
  have hp' : tmps[p]?.getD undef = v := by simpa using hp
  simp [results, h, hp']
theorem i64_in {n : Int} (h : (Lit.int .i64 n).wf = true) : -9223372036854775808 ≤ n ∧ n ≤ 9223372036854775807 := by
  have h1 : IntKind.i64.min ≤ n ∧ n ≤ IntKind.i64.max := by simpa [Lit.wf] using h
  have e1 : IntKind.i64.min = -9223372036854775808 := by decide
  have e2 : IntKind.i64.max = 9223372036854775807 := by decide
  rw [e1, e2] at h1
  exact h1
end Go.Proofs.YtlemnbegblpllaaDoor

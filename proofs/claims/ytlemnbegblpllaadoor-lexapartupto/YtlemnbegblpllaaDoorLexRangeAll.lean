/-
  Proved here: a word of package lex goes on in the text, and how a list of words ends.
  Proved here: a range over a function, in two steps: the call of the iterator, and one round. No condition on what the iterator keeps.
-/
import Derived.Test.YtlemnbegblpllaaDoorLexN
import Derived.RangeFuncKeeps
namespace Go.Proofs.YtlemnbegblpllaaDoor
open Go.RowKit

theorem qF_end (s : ByteArray) : ∀ n a acc l j, qF s n a acc = some (l, j) → a < j ∧ j ≤ s.size
  | 0, a, acc, l, j, h => by cases h
  | n + 1, a, acc, l, j, h => by
    unfold qF at h
    split at h
    · rename_i h0
      split at h
      · simp only [Option.some.injEq, Prod.mk.injEq] at h; omega
      · split at h
        · cases h
        · split at h
          · split at h
            · have := qF_end s n (a + 2) _ l j h; omega
            · cases h
          · have := qF_end s n (a + 1) _ l j h; omega
    · cases h
theorem run_adv {p : Nat → Bool} {s : ByteArray} {i : Nat} (hi : i < s.size) (hp : p (atB s i) = true) : i < runEnd p s i := by
  rw [runEnd_yes hi hp]
  exact Nat.lt_of_lt_of_le (Nat.lt_succ_self i) (le_runEnd p s (i + 1))
theorem word_adv {s : ByteArray} {i : Nat} (hi : i ≤ s.size) {k : Int} {ms : ByteArray} {li co j : Nat} (h : wordOut s i = .tok k ms li co j) (hk : k ≠ 0) : i < j ∧ j ≤ s.size := by
  unfold wordOut at h
  split at h
  · cases h; exact absurd rfl hk
  · rename_i hne
    have hlt : i < s.size := by omega
    split at h
    · rename_i h2
      unfold nameOut at h
      split at h
      · cases h
      · cases h
        exact ⟨run_adv hlt (by unfold isW; rw [h2]; rfl), runEnd_size _ _ hi⟩
    · split at h
      · rename_i h3
        unfold numOut at h
        split at h
        · cases h
        · cases h
          have h4 := run_adv (p := isD) hlt (by unfold isD; rw [h3]; rfl)
          have h5 := pt_facts s (runEnd isD s i) (runEnd_size _ _ hi)
          have h6 := xpo_facts s (ptEnd s (runEnd isD s i)) h5.2.1
          unfold numEnd
          omega
      · split at h
        · unfold quoteOut at h
          cases hq : qF s (s.size + 1) (i + 1) [] with
          | none => rw [hq] at h; cases h
          | some p =>
            obtain ⟨l, j'⟩ := p
            rw [hq] at h
            cases h
            have := qF_end s _ _ _ _ _ hq
            omega
        · split at h
          · cases h; omega
          · cases h
theorem next_adv {s : ByteArray} {i : Nat} (hi : i ≤ s.size) {k : Int} {ms : ByteArray} {li co j : Nat} (h : nextOut s i = .tok k ms li co j) (hk : k ≠ 0) : i < j ∧ j ≤ s.size := by
  unfold nextOut nextTold at h
  have h1 := sk_le s (s.size + 1) i hi
  split at h
  · have := word_adv h1.2 h hk; omega
  · cases h
/-- Is this the last that is told? -/
def Out.last : Out → Bool
  | .tok k _ _ _ _ => k == 0
  | .flt _ _ _ _ => true
/-- Where the reader goes on. -/
def Out.goes : Out → Nat
  | .tok _ _ _ _ j => j
  | .flt _ _ _ _ => 0
theorem Out.adv {s : ByteArray} {i : Nat} (hi : i ≤ s.size) (h : (nextOut s i).last = false) : i < (nextOut s i).goes ∧ (nextOut s i).goes ≤ s.size := by
  cases ho : nextOut s i with
  | tok k ms li co j =>
    rw [ho] at h
    exact next_adv hi ho (fun e => by have h2 : (k == 0) = false := h; rw [e] at h2; cases h2)
  | flt c li co wd => rw [ho] at h; cases h
/-- All that is told from a place on. -/
def tolds (s : ByteArray) : Nat → Nat → List Out
  | 0, _ => []
  | n + 1, i => nextOut s i :: (if (nextOut s i).last = true then [] else tolds s n (nextOut s i).goes)
end Go.Proofs.YtlemnbegblpllaaDoor

namespace Go.Proofs.YtlemnbegblpllaaDoor
open Go.RowKit
section
variable {F : Fence} {n : Nat} {P : Program}

/-- The record of a loop. -/
def recOf (fn : FuncId) (tmps : Array Value) (ps : Array Tmp) (assign body : Code) (d : Nat) (st : LoopState) (pe : Option Code) : Loop :=
  { state := st, pending := pe, fn := fn, tmps := tmps, params := ps, assign := assign, body := body, defers := d }
/-- How a loop stands behind its iterator. -/
def lastly (Dn : World → Prop) (St : Code → World → Prop) : Option Code → World → Prop
  | none, W => Dn W
  | some c, W => St c W
theorem range_call {g : Operand} {ps : Array Tmp} {assign body : Code} {Q : Exit → Act → World → Prop} {a : Act} {w : World}
    (hro : F.round = none) (h1 : 1 ≤ n) {gf : Nat} {lb : Array Value} (hg : a.eval g = .func (.func gf) #[] lb) (hFg : F.fn gf) (eg : ∀ args w, (callFunc gf args).run P w = .ok (.enter gf args) w)
    (Dn : World → Prop) (St : Code → World → Prop)
    (hcall : ∀ fn, F.fn fn → CallsIn F (n - 1) P gf (#[.func (.yield (w.heap.size + 1)) #[] #[]] ++ lb) ((w.alloc (.deferred (some []))).alloc (.loop (recOf fn a.tmps ps assign body w.heap.size .ready none))) fun e W2 =>
      (∃ v, e = .returned v) ∧ ∃ pe : Option Code, W2.heap[w.heap.size + 1]? = some (.loop (recOf fn a.tmps ps assign body w.heap.size (if pe.isNone then .ready else .done) pe)) ∧ W2.heap[w.heap.size]? = some (.deferred (some [])) ∧ lastly Dn St pe W2)
    (hdone : ∀ (W2 : World) (lo : Loop), Dn W2 → W2.heap[w.heap.size]? = some (.deferred (some [])) → w.heap.size + 1 < W2.heap.size → Q .normal { a with defers := { target := .collected w.heap.size, args := #[] } :: a.defers } (W2.putObj (w.heap.size + 1) (.loop lo)))
    (hstop : ∀ (W2 : World) (lo : Loop) (c : Code), St c W2 → W2.heap[w.heap.size]? = some (.deferred (some [])) → w.heap.size + 1 < W2.heap.size → c.wpIn F n P Q { a with defers := { target := .collected w.heap.size, args := #[] } :: a.defers } (W2.putObj (w.heap.size + 1) (.loop lo))) :
    (Code.rangeFunc g ps assign body).wpIn F n P Q a w := by
  refine wpIn_rangeFunc ?_
  intro fn hfn
  rw [hro]
  have hc := hcall fn hfn
  obtain ⟨W1, hW1⟩ : ∃ W1, W1 = (w.alloc (.deferred (some []))).alloc (.loop (recOf fn a.tmps ps assign body w.heap.size .ready none)) := ⟨_, rfl⟩
  rw [← hW1] at hc
  refine ⟨w.heap.size + 1, [{ target := .collected w.heap.size, args := #[] }], W1, { target := .fn (.func gf) lb, args := #[.func (.yield (w.heap.size + 1)) #[] #[]] }, W1, gf,
    #[.func (.yield (w.heap.size + 1)) #[] #[]] ++ lb, W1, ?_, ?_, ?_, ?_, fun _ => h1, ?_⟩
  · rw [hW1]; exact run_enterLoop_outer _ _ _ _ _
  · simp only [resolve, hg]
    simp [go_sem]
  · intro f' hf'
    simp [Target.leads] at hf'
    subst hf'
    exact hFg
  · simp [invoke, go_sem, eg]
  · refine hc.mono ?_
    rintro e W2 ⟨⟨v, rfl⟩, pe, hl, hk, hp⟩
    have hlt : w.heap.size + 1 < W2.heap.size := (Array.getElem?_eq_some_iff.1 hl).1
    cases pe with
    | none => exact ⟨none, _, run_endLoop (P := P) hl (by simp [recOf]), hdone _ _ hp hk hlt⟩
    | some c => exact ⟨some c, _, run_endLoop (P := P) hl (by simp [recOf]), hstop _ _ c hp hk hlt⟩

/-- How a round may be left. -/
def leftBy (Go_ : World → Prop) (Lv : Code → World → Prop) (l : Nat) (lo : Loop) : Exit → Act → World → Prop
  | .normal, _, W' => W'.heap[l]? = some (.loop { lo with state := .busy }) ∧ Go_ (W'.putObj l (.loop lo))
  | .ret, _, W' => W'.heap[l]? = some (.loop { lo with state := .busy }) ∧ Lv .ret (W'.putObj l (.loop { lo with state := .done, pending := some .ret }))
  | .exit id, _, W' => W'.heap[l]? = some (.loop { lo with state := .busy }) ∧ Lv (.exit id) (W'.putObj l (.loop { lo with state := .done, pending := some (.exit id) }))
  | .goto t, _, W' => W'.heap[l]? = some (.loop { lo with state := .busy }) ∧ Lv (.goto t) (W'.putObj l (.loop { lo with state := .done, pending := some (.goto t) }))
  | .panic _, _, _ => False
  | .outgrown, _, _ => False
theorem yield_round {l : Nat} {lo : Loop} {args : Array Value} {W : World} {Go_ : World → Prop} {Lv : Code → World → Prop} (hfn : F.fn lo.fn) (hl : W.heap[l]? = some (.loop lo)) (hst : lo.state = .ready) (hpe : lo.pending = none) (hps : args.size = lo.params.size)
    (h : lo.assign.wpIn (F.inRound l) n P (Exit.then (fun a₁ W1 => W1.heap[l]? = some (.loop lo) ∧ lo.body.wpIn (F.inRound l) n P (leftBy Go_ Lv l lo) a₁ (W1.putObj l (.loop { lo with state := .busy }))) (fun _ _ _ => False))
      { tmps := (lo.params.zip args).foldl (fun t (p, v) => t.setIfInBounds p v) lo.tmps, defers := [] } W) :
    YieldAt F n P l args W fun e W' => (e = .returned (.bool true) ∧ Go_ W') ∨ (e = .returned (.bool false) ∧ ∃ c, Lv c W') := by
  refine ⟨lo.fn, _, lo.assign, lo.body, run_yield (P := P) hl hps, roundIn_of_wpIn hfn (wpIn_mono h ?_)⟩
  intro e a₁ W1 hp
  cases e with
  | normal =>
    obtain ⟨hl1, hb⟩ := hp
    refine ⟨_, run_beginRound hl1 hst, wpIn_mono hb ?_⟩
    intro e2 a2 W2 hq
    cases e2 with
    | normal =>
      have hr := run_endRound (P := P) none hq.1
      refine ⟨_, _, hr, .inl ⟨rfl, ?_⟩⟩
      have : ({ lo with state := .ready, pending := none } : Loop) = lo := by cases lo; simp_all
      simpa [this] using hq.2
    | ret => exact ⟨_, _, run_endRound (P := P) (some .ret) hq.1, .inr ⟨rfl, _, hq.2⟩⟩
    | exit id => exact ⟨_, _, run_endRound (P := P) (some (.exit id)) hq.1, .inr ⟨rfl, _, hq.2⟩⟩
    | goto t => exact ⟨_, _, run_endRound (P := P) (some (.goto t)) hq.1, .inr ⟨rfl, _, hq.2⟩⟩
    | panic ch => exact hq.elim
    | outgrown => exact hq.elim
  | ret => exact hp.elim
  | exit id => exact hp.elim
  | goto t => exact hp.elim
  | panic ch => exact hp.elim
  | outgrown => exact hp.elim
end
end Go.Proofs.YtlemnbegblpllaaDoor

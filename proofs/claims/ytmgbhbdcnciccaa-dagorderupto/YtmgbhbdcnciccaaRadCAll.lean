/-
  Proved here: a range over a function, in two steps: the call of the iterator, and one round. No condition on what the iterator keeps.
  Proved here: slices.Backward at the three types: its iterator, the rounds given.
-/
import Derived.RangeFuncKeeps
import Derived.Test.YtmgbhbdcnciccaaRadBAll
import Derived.RangeFuncNested
import Derived.RangeFuncBound
import Derived.RangeFuncCalls
import Derived.RangeFuncLeaves
import Derived.RangeFuncBox
import Derived.Shelf.Abstract
import Derived.Shelf.RegionOpen
import Derived.OwnWalkIn
import Derived.TacticsInMore
import Derived.LoopNIn
import Derived.LoopIn
namespace Go.Proofs.Ytmgbhbdcnciccaa
open Go.RowKit
section
variable {F : Fence} {n : Nat} {P : Program}

/-- The record of a loop. -/
def recOf (fn : FuncId) (tmps : Array Value) (ps : Array Tmp) (assign body : Code) (d : Nat) (st : LoopState) (pe : Option Code) : Loop :=
  { state := st, pending := pe, fn := fn, tmps := tmps, params := ps, assign := assign, body := body, defers := d }
/-- How a loop stands behind its iterator. -/
def lastly (Dn : World → Prop) (St : Code → World → Prop) : Option Code → World → Prop
  | none, W => Dn W
  | some c, W => St c W
theorem range_call {g : Operand} {ps : Array Tmp} {assign body : Code} {Q : Exit → Act → World → Prop} {a : Act} {w : World}
    (hro : F.round = none) (h1 : 1 ≤ n) {gf : Nat} {lb : Array Value} (hg : a.eval g = .func (.func gf) #[] lb) (hFg : F.fn gf) (eg : ∀ args w, (callFunc gf args).run P w = .ok (.enter gf args) w)
    (Dn : World → Prop) (St : Code → World → Prop)
    (hcall : ∀ fn, F.fn fn → CallsIn F (n - 1) P gf (#[.func (.yield (w.heap.size + 1)) #[] #[]] ++ lb) ((w.alloc (.deferred (some []))).alloc (.loop (recOf fn a.tmps ps assign body w.heap.size .ready none))) fun e W2 =>
      (∃ v, e = .returned v) ∧ ∃ pe : Option Code, W2.heap[w.heap.size + 1]? = some (.loop (recOf fn a.tmps ps assign body w.heap.size (if pe.isNone then .ready else .done) pe)) ∧ W2.heap[w.heap.size]? = some (.deferred (some [])) ∧ lastly Dn St pe W2)
    (hdone : ∀ (W2 : World) (lo : Loop), Dn W2 → W2.heap[w.heap.size]? = some (.deferred (some [])) → w.heap.size + 1 < W2.heap.size → Q .normal { a with defers := { target := .collected w.heap.size, args := #[] } :: a.defers } (W2.putObj (w.heap.size + 1) (.loop lo)))
    (hstop : ∀ (W2 : World) (lo : Loop) (c : Code), St c W2 → W2.heap[w.heap.size]? = some (.deferred (some [])) → w.heap.size + 1 < W2.heap.size → c.wpIn F n P Q { a with defers := { target := .collected w.heap.size, args := #[] } :: a.defers } (W2.putObj (w.heap.size + 1) (.loop lo))) :
    (Code.rangeFunc g ps assign body).wpIn F n P Q a w := by
  refine wpIn_rangeFunc ?_
  intro fn hfn
  rw [hro]
  have hc := hcall fn hfn
  obtain ⟨W1, hW1⟩ : ∃ W1, W1 = (w.alloc (.deferred (some []))).alloc (.loop (recOf fn a.tmps ps assign body w.heap.size .ready none)) := ⟨_, rfl⟩
  rw [← hW1] at hc
  refine ⟨w.heap.size + 1, [{ target := .collected w.heap.size, args := #[] }], W1, { target := .fn (.func gf) lb, args := #[.func (.yield (w.heap.size + 1)) #[] #[]] }, W1, gf,
    #[.func (.yield (w.heap.size + 1)) #[] #[]] ++ lb, W1, ?_, ?_, ?_, ?_, fun _ => h1, ?_⟩
  · rw [hW1]; exact run_enterLoop_outer _ _ _ _ _
  · simp only [resolve, hg]
    simp [go_sem]
  · intro f' hf'
    simp [Target.leads] at hf'
    subst hf'
    exact hFg
  · simp [invoke, go_sem, eg]
  · refine hc.mono ?_
    rintro e W2 ⟨⟨v, rfl⟩, pe, hl, hk, hp⟩
    have hlt : w.heap.size + 1 < W2.heap.size := (Array.getElem?_eq_some_iff.1 hl).1
    cases pe with
    | none => exact ⟨none, _, run_endLoop (P := P) hl (by simp [recOf]), hdone _ _ hp hk hlt⟩
    | some c => exact ⟨some c, _, run_endLoop (P := P) hl (by simp [recOf]), hstop _ _ c hp hk hlt⟩

/-- How a round may be left. -/
def leftBy (Go_ : World → Prop) (Lv : Code → World → Prop) (l : Nat) (lo : Loop) : Exit → Act → World → Prop
  | .normal, _, W' => W'.heap[l]? = some (.loop { lo with state := .busy }) ∧ Go_ (W'.putObj l (.loop lo))
  | .ret, _, W' => W'.heap[l]? = some (.loop { lo with state := .busy }) ∧ Lv .ret (W'.putObj l (.loop { lo with state := .done, pending := some .ret }))
  | .exit id, _, W' => W'.heap[l]? = some (.loop { lo with state := .busy }) ∧ Lv (.exit id) (W'.putObj l (.loop { lo with state := .done, pending := some (.exit id) }))
  | .goto t, _, W' => W'.heap[l]? = some (.loop { lo with state := .busy }) ∧ Lv (.goto t) (W'.putObj l (.loop { lo with state := .done, pending := some (.goto t) }))
  | .panic _, _, _ => False
  | .outgrown, _, _ => False
theorem yield_round {l : Nat} {lo : Loop} {args : Array Value} {W : World} {Go_ : World → Prop} {Lv : Code → World → Prop} (hfn : F.fn lo.fn) (hl : W.heap[l]? = some (.loop lo)) (hst : lo.state = .ready) (hpe : lo.pending = none) (hps : args.size = lo.params.size)
    (h : lo.assign.wpIn (F.inRound l) n P (Exit.then (fun a₁ W1 => W1.heap[l]? = some (.loop lo) ∧ lo.body.wpIn (F.inRound l) n P (leftBy Go_ Lv l lo) a₁ (W1.putObj l (.loop { lo with state := .busy }))) (fun _ _ _ => False))
      { tmps := (lo.params.zip args).foldl (fun t (p, v) => t.setIfInBounds p v) lo.tmps, defers := [] } W) :
    YieldAt F n P l args W fun e W' => (e = .returned (.bool true) ∧ Go_ W') ∨ (e = .returned (.bool false) ∧ ∃ c, Lv c W') := by
  refine ⟨lo.fn, _, lo.assign, lo.body, run_yield (P := P) hl hps, roundIn_of_wpIn hfn (wpIn_mono h ?_)⟩
  intro e a₁ W1 hp
  cases e with
  | normal =>
    obtain ⟨hl1, hb⟩ := hp
    refine ⟨_, run_beginRound hl1 hst, wpIn_mono hb ?_⟩
    intro e2 a2 W2 hq
    cases e2 with
    | normal =>
      have hr := run_endRound (P := P) none hq.1
      refine ⟨_, _, hr, .inl ⟨rfl, ?_⟩⟩
      have : ({ lo with state := .ready, pending := none } : Loop) = lo := by cases lo; simp_all
      simpa [this] using hq.2
    | ret => exact ⟨_, _, run_endRound (P := P) (some .ret) hq.1, .inr ⟨rfl, _, hq.2⟩⟩
    | exit id => exact ⟨_, _, run_endRound (P := P) (some (.exit id)) hq.1, .inr ⟨rfl, _, hq.2⟩⟩
    | goto t => exact ⟨_, _, run_endRound (P := P) (some (.goto t)) hq.1, .inr ⟨rfl, _, hq.2⟩⟩
    | panic ch => exact hq.elim
    | outgrown => exact hq.elim
  | ret => exact hp.elim
  | exit id => exact hp.elim
  | goto t => exact hp.elim
  | panic ch => exact hp.elim
  | outgrown => exact hp.elim
end
end Go.Proofs.Ytmgbhbdcnciccaa

namespace Go.Proofs.Ytmgbhbdcnciccaa
open Go.RowKit Go.Shelf
attribute [local go_sem] Oper.semAt_some

end Go.Proofs.Ytmgbhbdcnciccaa

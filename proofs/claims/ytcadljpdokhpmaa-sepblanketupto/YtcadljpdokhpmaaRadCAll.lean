/-
  Proved here: package radix's Count, and what it asks of package slices, at the three types.
  Proved here: package radix's At at the three types.
  Proved here: a range over a function, in two steps: the call of the iterator, and one round. No condition on what the iterator keeps.
  Proved here: slices.Backward at the three types: its iterator, the rounds given.
-/
import Derived.Test.YtcadljpdokhpmaaRows
import Derived.Test.YtcadljpdokhpmaaRadMathAll
import Derived.WalkKit
import Derived.WalkSpells
import Derived.WalkLawsBesides
import Derived.Below
import Derived.BigQuiet
import Derived.RangeFuncKeeps
import Derived.RangeFuncNested
import Derived.RangeFuncBound
import Derived.RangeFuncCalls
import Derived.RangeFuncLeaves
import Derived.RangeFuncBox
import Derived.Shelf.Abstract
import Derived.Shelf.RegionOpen
import Derived.OwnWalkIn
import Derived.TacticsInMore
import Derived.LoopNIn
import Derived.LoopIn
namespace Go.Proofs.Ytcadljpdokhpmaa
open Go.RowKit

/-- A row of numbers of a kind that can be read. -/
def RK (k : IntKind) (w : World) (v : Value) (zs : List Int) : Prop :=
  ∃ ao cap, v = .slice ao zs.length cap ∧ zs.length ≤ cap ∧ cap ≤ maxLen ∧ (ao = none → cap = 0) ∧ (∀ i, i < zs.length → k.min ≤ zs.getD i 0 ∧ zs.getD i 0 ≤ k.max) ∧
    ∀ i, i < zs.length → ∃ g o, ao = some ⟨g, o, none⟩ ∧ w.cell? ⟨g, o + i, none⟩ = some (.int k (zs.getD i 0))
theorem RK.nil (k : IntKind) (w : World) : RK k w (.slice none 0 0) [] := ⟨none, 0, rfl, Nat.le_refl _, Nat.zero_le _, fun _ => rfl, fun _ h => absurd h (Nat.not_lt_zero _), fun _ h => absurd h (Nat.not_lt_zero _)⟩
theorem heap_drewR (w : World) (n : Nat) : (w.drewN n).heap = w.heap := by
  induction n generalizing w with
  | zero => rfl
  | succ n ih => exact ih w.drew
theorem RK.below {k : IntKind} {B : Nat} {w w' : World} {v : Value} {zs : List Int} (h : RK k w v zs) (hB : w.heap.size ≤ B) (hb : Below B w w') : RK k w' v zs := by
  obtain ⟨ao, cap, rfl, h1, h2, h3, h4, h5⟩ := h
  refine ⟨ao, cap, rfl, h1, h2, h3, h4, fun j hj => ?_⟩
  obtain ⟨b, off, e, hc⟩ := h5 j hj
  exact ⟨b, off, e, by rw [hb.cell (p := ⟨b, off + j, none⟩) (Nat.lt_of_lt_of_le (block_lt_of_cell hc) hB), hc]⟩
theorem RK.same {k : IntKind} {w w' : World} {v : Value} {zs : List Int} (h : RK k w v zs) (e : w'.heap = w.heap) : RK k w' v zs := by
  obtain ⟨ao, cap, rfl, h1, h2, h3, h4, h5⟩ := h
  refine ⟨ao, cap, rfl, h1, h2, h3, h4, fun j hj => ?_⟩
  obtain ⟨b, off, e', hc⟩ := h5 j hj
  exact ⟨b, off, e', by rw [← hc]; exact World.cell?_of_block (by rw [e])⟩
theorem RK.drewN {k : IntKind} {w : World} {v : Value} {zs : List Int} (h : RK k w v zs) (n : Nat) : RK k (w.drewN n) v zs := h.same (heap_drewR w n)
theorem min_i64 : IntKind.i64.min = -9223372036854775808 := by decide
theorem max_i64 : IntKind.i64.max = 9223372036854775807 := by decide
theorem min_i32 : IntKind.i32.min = -2147483648 := by decide
theorem max_i32 : IntKind.i32.max = 2147483647 := by decide
theorem min_u16 : IntKind.u16.min = 0 := by decide
theorem max_u16 : IntKind.u16.max = 65535 := by decide
theorem drewR_add (w : World) (q : Nat) : ∀ r, (w.drewN q).drewN r = w.drewN (q + r)
  | 0 => rfl
  | r + 1 => by
    show ((w.drewN q).drewN r).drew = (w.drewN (q + r)).drew
    rw [drewR_add w q r]
/-- What lies at a place. -/
theorem any_take {p : Int → Bool} {zs : List Int} {k : Nat} (hk : k < zs.length) : (zs.take (k + 1)).any p = ((zs.take k).any p || p (zs.getD k 0)) := by
  rw [List.take_succ_eq_append_getElem hk, List.any_append, List.getD_eq_getElem?_getD, List.getElem?_eq_getElem hk]
  simp
theorem any_at {p : Int → Bool} {zs : List Int} {k : Nat} (hk : k < zs.length) (h : p (zs.getD k 0) = true) : zs.any p = true := by
  rw [List.getD_eq_getElem?_getD, List.getElem?_eq_getElem hk] at h
  exact List.any_eq_true.2 ⟨_, List.getElem_mem hk, h⟩
/-- What a search answers. -/
def Found (r : Int) (b : Bool) : Prop := (b = true → 0 ≤ r ∧ r ≤ 9223372036854775807) ∧ (b = false → r = -1)
theorem Found.dec {r : Int} {b : Bool} (h : Found r b) : decide (0 ≤ r) = b := by
  cases b with
  | true => simpa using (h.1 rfl).1
  | false => rw [h.2 rfl]; rfl

end Go.Proofs.Ytcadljpdokhpmaa

namespace Go.Proofs.Ytcadljpdokhpmaa
open Go.RowKit

theorem at_err {ss ds : List Int} (h : cntE ss ≠ 0) : atE ss ds = cntE ss ∧ atN ss ds = 0 := by simp [atE, atN, h]
theorem at_shape {ss ds : List Int} (h : cntE ss = 0) (h2 : ds.length ≠ ss.length) : atE ss ds = 60 ∧ atN ss ds = 0 := by simp [atE, atN, h, h2]
theorem at_bad {ss ds : List Int} (h : cntE ss = 0) (h2 : ds.length = ss.length) (h3 : bad ss ds = true) : atE ss ds = 3 ∧ atN ss ds = 0 := by simp [atE, atN, h, h2, h3]
theorem at_ok {ss ds : List Int} (h : cntE ss = 0) (h2 : ds.length = ss.length) (h3 : bad ss ds = false) : atE ss ds = 0 ∧ atN ss ds = pl ss ds ss.length := by simp [atE, atN, h, h2, h3]
theorem bad_not {ss ds : List Int} (h : ∀ i, i < ss.length → badAt ss ds i = false) : bad ss ds = false := by
  unfold bad
  rw [List.any_eq_false]
  intro i hi
  rw [h i (List.mem_range.1 hi)]
  exact Bool.false_ne_true
theorem badAt_eq (ss ds : List Int) (i : Nat) : badAt ss ds i = (isNeg (ds.getD i 0) || decide (ss.getD i 0 ≤ ds.getD i 0)) := rfl
theorem fits_place (ss ds : List Int) (h3 : bad ss ds = false) (hp : pr ss ≤ 2147483647) (k : Nat) (hk : k < ss.length) :
    0 ≤ pl ss ds k ∧ 0 ≤ pl ss ds k * ss.getD k 0 ∧ pl ss ds k * ss.getD k 0 + ds.getD k 0 ≤ 2147483647 ∧ pl ss ds k * ss.getD k 0 ≤ 2147483647 ∧ pl ss ds k ≤ 2147483647 := by
  have h := bad_no h3
  have h1 := ss_ones h
  have a := pl_bd ss ds h k (by omega)
  have b := pl_bd ss ds h (k + 1) (by omega)
  have c := pr_take_le ss h1 k
  have d := pr_take_le ss h1 (k + 1)
  have e := h k hk
  rw [pl] at b
  have f : 0 ≤ pl ss ds k * ss.getD k 0 := Int.mul_nonneg a.1 (by omega)
  omega

end Go.Proofs.Ytcadljpdokhpmaa

namespace Go.Proofs.Ytcadljpdokhpmaa
open Go.RowKit
section
variable {F : Fence} {n : Nat} {P : Program}

/-- The record of a loop. -/
def recOf (fn : FuncId) (tmps : Array Value) (ps : Array Tmp) (assign body : Code) (d : Nat) (st : LoopState) (pe : Option Code) : Loop :=
  { state := st, pending := pe, fn := fn, tmps := tmps, params := ps, assign := assign, body := body, defers := d }
/-- How a loop stands behind its iterator. -/
def lastly (Dn : World → Prop) (St : Code → World → Prop) : Option Code → World → Prop
  | none, W => Dn W
  | some c, W => St c W
theorem range_call {g : Operand} {ps : Array Tmp} {assign body : Code} {Q : Exit → Act → World → Prop} {a : Act} {w : World}
    (hro : F.round = none) (h1 : 1 ≤ n) {gf : Nat} {lb : Array Value} (hg : a.eval g = .func (.func gf) #[] lb) (hFg : F.fn gf) (eg : ∀ args w, (callFunc gf args).run P w = .ok (.enter gf args) w)
    (Dn : World → Prop) (St : Code → World → Prop)
    (hcall : ∀ fn, F.fn fn → CallsIn F (n - 1) P gf (#[.func (.yield (w.heap.size + 1)) #[] #[]] ++ lb) ((w.alloc (.deferred (some []))).alloc (.loop (recOf fn a.tmps ps assign body w.heap.size .ready none))) fun e W2 =>
      (∃ v, e = .returned v) ∧ ∃ pe : Option Code, W2.heap[w.heap.size + 1]? = some (.loop (recOf fn a.tmps ps assign body w.heap.size (if pe.isNone then .ready else .done) pe)) ∧ W2.heap[w.heap.size]? = some (.deferred (some [])) ∧ lastly Dn St pe W2)
    (hdone : ∀ (W2 : World) (lo : Loop), Dn W2 → W2.heap[w.heap.size]? = some (.deferred (some [])) → w.heap.size + 1 < W2.heap.size → Q .normal { a with defers := { target := .collected w.heap.size, args := #[] } :: a.defers } (W2.putObj (w.heap.size + 1) (.loop lo)))
    (hstop : ∀ (W2 : World) (lo : Loop) (c : Code), St c W2 → W2.heap[w.heap.size]? = some (.deferred (some [])) → w.heap.size + 1 < W2.heap.size → c.wpIn F n P Q { a with defers := { target := .collected w.heap.size, args := #[] } :: a.defers } (W2.putObj (w.heap.size + 1) (.loop lo))) :
    (Code.rangeFunc g ps assign body).wpIn F n P Q a w := by
  refine wpIn_rangeFunc ?_
  intro fn hfn
  rw [hro]
  have hc := hcall fn hfn
  obtain ⟨W1, hW1⟩ : ∃ W1, W1 = (w.alloc (.deferred (some []))).alloc (.loop (recOf fn a.tmps ps assign body w.heap.size .ready none)) := ⟨_, rfl⟩
  rw [← hW1] at hc
  refine ⟨w.heap.size + 1, [{ target := .collected w.heap.size, args := #[] }], W1, { target := .fn (.func gf) lb, args := #[.func (.yield (w.heap.size + 1)) #[] #[]] }, W1, gf,
    #[.func (.yield (w.heap.size + 1)) #[] #[]] ++ lb, W1, ?_, ?_, ?_, ?_, fun _ => h1, ?_⟩
  · rw [hW1]; exact run_enterLoop_outer _ _ _ _ _
  · simp only [resolve, hg]
    simp [go_sem]
  · intro f' hf'
    simp [Target.leads] at hf'
    subst hf'
    exact hFg
  · simp [invoke, go_sem, eg]
  · refine hc.mono ?_
    rintro e W2 ⟨⟨v, rfl⟩, pe, hl, hk, hp⟩
    have hlt : w.heap.size + 1 < W2.heap.size := (Array.getElem?_eq_some_iff.1 hl).1
    cases pe with
    | none => exact ⟨none, _, run_endLoop (P := P) hl (by simp [recOf]), hdone _ _ hp hk hlt⟩
    | some c => exact ⟨some c, _, run_endLoop (P := P) hl (by simp [recOf]), hstop _ _ c hp hk hlt⟩

/-- How a round may be left. -/
def leftBy (Go_ : World → Prop) (Lv : Code → World → Prop) (l : Nat) (lo : Loop) : Exit → Act → World → Prop
  | .normal, _, W' => W'.heap[l]? = some (.loop { lo with state := .busy }) ∧ Go_ (W'.putObj l (.loop lo))
  | .ret, _, W' => W'.heap[l]? = some (.loop { lo with state := .busy }) ∧ Lv .ret (W'.putObj l (.loop { lo with state := .done, pending := some .ret }))
  | .exit id, _, W' => W'.heap[l]? = some (.loop { lo with state := .busy }) ∧ Lv (.exit id) (W'.putObj l (.loop { lo with state := .done, pending := some (.exit id) }))
  | .goto t, _, W' => W'.heap[l]? = some (.loop { lo with state := .busy }) ∧ Lv (.goto t) (W'.putObj l (.loop { lo with state := .done, pending := some (.goto t) }))
  | .panic _, _, _ => False
  | .outgrown, _, _ => False
theorem yield_round {l : Nat} {lo : Loop} {args : Array Value} {W : World} {Go_ : World → Prop} {Lv : Code → World → Prop} (hfn : F.fn lo.fn) (hl : W.heap[l]? = some (.loop lo)) (hst : lo.state = .ready) (hpe : lo.pending = none) (hps : args.size = lo.params.size)
    (h : lo.assign.wpIn (F.inRound l) n P (Exit.then (fun a₁ W1 => W1.heap[l]? = some (.loop lo) ∧ lo.body.wpIn (F.inRound l) n P (leftBy Go_ Lv l lo) a₁ (W1.putObj l (.loop { lo with state := .busy }))) (fun _ _ _ => False))
      { tmps := (lo.params.zip args).foldl (fun t (p, v) => t.setIfInBounds p v) lo.tmps, defers := [] } W) :
    YieldAt F n P l args W fun e W' => (e = .returned (.bool true) ∧ Go_ W') ∨ (e = .returned (.bool false) ∧ ∃ c, Lv c W') := by
  refine ⟨lo.fn, _, lo.assign, lo.body, run_yield (P := P) hl hps, roundIn_of_wpIn hfn (wpIn_mono h ?_)⟩
  intro e a₁ W1 hp
  cases e with
  | normal =>
    obtain ⟨hl1, hb⟩ := hp
    refine ⟨_, run_beginRound hl1 hst, wpIn_mono hb ?_⟩
    intro e2 a2 W2 hq
    cases e2 with
    | normal =>
      have hr := run_endRound (P := P) none hq.1
      refine ⟨_, _, hr, .inl ⟨rfl, ?_⟩⟩
      have : ({ lo with state := .ready, pending := none } : Loop) = lo := by cases lo; simp_all
      simpa [this] using hq.2
    | ret => exact ⟨_, _, run_endRound (P := P) (some .ret) hq.1, .inr ⟨rfl, _, hq.2⟩⟩
    | exit id => exact ⟨_, _, run_endRound (P := P) (some (.exit id)) hq.1, .inr ⟨rfl, _, hq.2⟩⟩
    | goto t => exact ⟨_, _, run_endRound (P := P) (some (.goto t)) hq.1, .inr ⟨rfl, _, hq.2⟩⟩
    | panic ch => exact hq.elim
    | outgrown => exact hq.elim
  | ret => exact hp.elim
  | exit id => exact hp.elim
  | goto t => exact hp.elim
  | panic ch => exact hp.elim
  | outgrown => exact hp.elim
end
end Go.Proofs.Ytcadljpdokhpmaa

namespace Go.Proofs.Ytcadljpdokhpmaa
open Go.RowKit Go.Shelf
attribute [local go_sem] Oper.semAt_some

end Go.Proofs.Ytcadljpdokhpmaa

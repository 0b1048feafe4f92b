/-
  Proved here: package radix's Count, and what it asks of package slices, at the three types.
  Proved here: package radix's At at the three types.
  Proved here: a range over a function, in two steps: the call of the iterator, and one round. No condition on what the iterator keeps.
  Proved here: slices.Backward at the three types: its iterator, the rounds given.
  Proved here: package radix's Digits at the three types.
  Proved here: package radix's Digits at one type.
  Proved here: package radix's Digits at one type.
  Proved here: package radix's Digits at one type.
  Proved here: rows that were just laid, or are a call's own, can be read; the law's alive.
  Proved here: plain facts on numbers and their limbs to the base 2^32. No condition.
  Proved here: plain facts on numbers that lie in memory, limb by limb, and on rows that a call made for itself. No condition.
-/
import Derived.Test.YthdpomgpcblpeaaGreatRows
import Derived.Test.YthdpomgpcblpeaaGreatRadMathAll
import Derived.WalkKit
import Derived.WalkSpells
import Derived.WalkLawsBesides
import Derived.Below
import Derived.BigQuiet
import Derived.RangeFuncKeeps
import Derived.RangeFuncNested
import Derived.RangeFuncBound
import Derived.RangeFuncCalls
import Derived.RangeFuncLeaves
import Derived.RangeFuncBox
import Derived.Shelf.Abstract
import Derived.Shelf.RegionOpen
import Derived.OwnWalkIn
import Derived.TacticsInMore
import Derived.LoopNIn
import Derived.LoopIn
import Derived.Laws.MakeOwn
import Derived.Laws.OwnMore
namespace Go.Proofs.YthdpomgpcblpeaaGreat
open Go.RowKit

/-- A row of numbers of a kind that can be read. -/
def RK (k : IntKind) (w : World) (v : Value) (zs : List Int) : Prop :=
  ∃ ao cap, v = .slice ao zs.length cap ∧ zs.length ≤ cap ∧ cap ≤ maxLen ∧ (ao = none → cap = 0) ∧ (∀ i, i < zs.length → k.min ≤ zs.getD i 0 ∧ zs.getD i 0 ≤ k.max) ∧
    ∀ i, i < zs.length → ∃ g o, ao = some ⟨g, o, none⟩ ∧ w.cell? ⟨g, o + i, none⟩ = some (.int k (zs.getD i 0))
theorem RK.nil (k : IntKind) (w : World) : RK k w (.slice none 0 0) [] := ⟨none, 0, rfl, Nat.le_refl _, Nat.zero_le _, fun _ => rfl, fun _ h => absurd h (Nat.not_lt_zero _), fun _ h => absurd h (Nat.not_lt_zero _)⟩
theorem heap_drewR (w : World) (n : Nat) : (w.drewN n).heap = w.heap := by
  induction n generalizing w with
  | zero => rfl
  | succ n ih => exact ih w.drew
theorem RK.below {k : IntKind} {B : Nat} {w w' : World} {v : Value} {zs : List Int} (h : RK k w v zs) (hB : w.heap.size ≤ B) (hb : Below B w w') : RK k w' v zs := by
  obtain ⟨ao, cap, rfl, h1, h2, h3, h4, h5⟩ := h
  refine ⟨ao, cap, rfl, h1, h2, h3, h4, fun j hj => ?_⟩
  obtain ⟨b, off, e, hc⟩ := h5 j hj
  exact ⟨b, off, e, by rw [hb.cell (p := ⟨b, off + j, none⟩) (Nat.lt_of_lt_of_le (block_lt_of_cell hc) hB), hc]⟩
theorem RK.same {k : IntKind} {w w' : World} {v : Value} {zs : List Int} (h : RK k w v zs) (e : w'.heap = w.heap) : RK k w' v zs := by
  obtain ⟨ao, cap, rfl, h1, h2, h3, h4, h5⟩ := h
  refine ⟨ao, cap, rfl, h1, h2, h3, h4, fun j hj => ?_⟩
  obtain ⟨b, off, e', hc⟩ := h5 j hj
  exact ⟨b, off, e', by rw [← hc]; exact World.cell?_of_block (by rw [e])⟩
theorem RK.drewN {k : IntKind} {w : World} {v : Value} {zs : List Int} (h : RK k w v zs) (n : Nat) : RK k (w.drewN n) v zs := h.same (heap_drewR w n)
theorem min_i64 : IntKind.i64.min = -9223372036854775808 := by decide
theorem max_i64 : IntKind.i64.max = 9223372036854775807 := by decide
theorem min_i32 : IntKind.i32.min = -2147483648 := by decide
theorem max_i32 : IntKind.i32.max = 2147483647 := by decide
theorem min_u16 : IntKind.u16.min = 0 := by decide
theorem max_u16 : IntKind.u16.max = 65535 := by decide
theorem drewR_add (w : World) (q : Nat) : ∀ r, (w.drewN q).drewN r = w.drewN (q + r)
  | 0 => rfl
  | r + 1 => by
    show ((w.drewN q).drewN r).drew = (w.drewN (q + r)).drew
    rw [drewR_add w q r]
/-- What lies at a place. -/
theorem any_take {p : Int → Bool} {zs : List Int} {k : Nat} (hk : k < zs.length) : (zs.take (k + 1)).any p = ((zs.take k).any p || p (zs.getD k 0)) := by
  rw [List.take_succ_eq_append_getElem hk, List.any_append, List.getD_eq_getElem?_getD, List.getElem?_eq_getElem hk]
  simp
theorem any_at {p : Int → Bool} {zs : List Int} {k : Nat} (hk : k < zs.length) (h : p (zs.getD k 0) = true) : zs.any p = true := by
  rw [List.getD_eq_getElem?_getD, List.getElem?_eq_getElem hk] at h
  exact List.any_eq_true.2 ⟨_, List.getElem_mem hk, h⟩
/-- What a search answers. -/
def Found (r : Int) (b : Bool) : Prop := (b = true → 0 ≤ r ∧ r ≤ 9223372036854775807) ∧ (b = false → r = -1)
theorem Found.dec {r : Int} {b : Bool} (h : Found r b) : decide (0 ≤ r) = b := by
  cases b with
  | true => simpa using (h.1 rfl).1
  | false => rw [h.2 rfl]; rfl

end Go.Proofs.YthdpomgpcblpeaaGreat

namespace Go.Proofs.YthdpomgpcblpeaaGreat
open Go.RowKit

theorem at_err {ss ds : List Int} (h : cntE ss ≠ 0) : atE ss ds = cntE ss ∧ atN ss ds = 0 := by simp [atE, atN, h]
theorem at_shape {ss ds : List Int} (h : cntE ss = 0) (h2 : ds.length ≠ ss.length) : atE ss ds = 60 ∧ atN ss ds = 0 := by simp [atE, atN, h, h2]
theorem at_bad {ss ds : List Int} (h : cntE ss = 0) (h2 : ds.length = ss.length) (h3 : bad ss ds = true) : atE ss ds = 3 ∧ atN ss ds = 0 := by simp [atE, atN, h, h2, h3]
theorem at_ok {ss ds : List Int} (h : cntE ss = 0) (h2 : ds.length = ss.length) (h3 : bad ss ds = false) : atE ss ds = 0 ∧ atN ss ds = pl ss ds ss.length := by simp [atE, atN, h, h2, h3]
theorem bad_not {ss ds : List Int} (h : ∀ i, i < ss.length → badAt ss ds i = false) : bad ss ds = false := by
  unfold bad
  rw [List.any_eq_false]
  intro i hi
  rw [h i (List.mem_range.1 hi)]
  exact Bool.false_ne_true
theorem badAt_eq (ss ds : List Int) (i : Nat) : badAt ss ds i = (isNeg (ds.getD i 0) || decide (ss.getD i 0 ≤ ds.getD i 0)) := rfl
theorem fits_place (ss ds : List Int) (h3 : bad ss ds = false) (hp : pr ss ≤ 2147483647) (k : Nat) (hk : k < ss.length) :
    0 ≤ pl ss ds k ∧ 0 ≤ pl ss ds k * ss.getD k 0 ∧ pl ss ds k * ss.getD k 0 + ds.getD k 0 ≤ 2147483647 ∧ pl ss ds k * ss.getD k 0 ≤ 2147483647 ∧ pl ss ds k ≤ 2147483647 := by
  have h := bad_no h3
  have h1 := ss_ones h
  have a := pl_bd ss ds h k (by omega)
  have b := pl_bd ss ds h (k + 1) (by omega)
  have c := pr_take_le ss h1 k
  have d := pr_take_le ss h1 (k + 1)
  have e := h k hk
  rw [pl] at b
  have f : 0 ≤ pl ss ds k * ss.getD k 0 := Int.mul_nonneg a.1 (by omega)
  omega

end Go.Proofs.YthdpomgpcblpeaaGreat

namespace Go.Proofs.YthdpomgpcblpeaaGreat
open Go.RowKit
section
variable {F : Fence} {n : Nat} {P : Program}

/-- The record of a loop. -/
def recOf (fn : FuncId) (tmps : Array Value) (ps : Array Tmp) (assign body : Code) (d : Nat) (st : LoopState) (pe : Option Code) : Loop :=
  { state := st, pending := pe, fn := fn, tmps := tmps, params := ps, assign := assign, body := body, defers := d }
/-- How a loop stands behind its iterator. -/
def lastly (Dn : World → Prop) (St : Code → World → Prop) : Option Code → World → Prop
  | none, W => Dn W
  | some c, W => St c W
theorem range_call {g : Operand} {ps : Array Tmp} {assign body : Code} {Q : Exit → Act → World → Prop} {a : Act} {w : World}
    (hro : F.round = none) (h1 : 1 ≤ n) {gf : Nat} {lb : Array Value} (hg : a.eval g = .func (.func gf) #[] lb) (hFg : F.fn gf) (eg : ∀ args w, (callFunc gf args).run P w = .ok (.enter gf args) w)
    (Dn : World → Prop) (St : Code → World → Prop)
    (hcall : ∀ fn, F.fn fn → CallsIn F (n - 1) P gf (#[.func (.yield (w.heap.size + 1)) #[] #[]] ++ lb) ((w.alloc (.deferred (some []))).alloc (.loop (recOf fn a.tmps ps assign body w.heap.size .ready none))) fun e W2 =>
      (∃ v, e = .returned v) ∧ ∃ pe : Option Code, W2.heap[w.heap.size + 1]? = some (.loop (recOf fn a.tmps ps assign body w.heap.size (if pe.isNone then .ready else .done) pe)) ∧ W2.heap[w.heap.size]? = some (.deferred (some [])) ∧ lastly Dn St pe W2)
    (hdone : ∀ (W2 : World) (lo : Loop), Dn W2 → W2.heap[w.heap.size]? = some (.deferred (some [])) → w.heap.size + 1 < W2.heap.size → Q .normal { a with defers := { target := .collected w.heap.size, args := #[] } :: a.defers } (W2.putObj (w.heap.size + 1) (.loop lo)))
    (hstop : ∀ (W2 : World) (lo : Loop) (c : Code), St c W2 → W2.heap[w.heap.size]? = some (.deferred (some [])) → w.heap.size + 1 < W2.heap.size → c.wpIn F n P Q { a with defers := { target := .collected w.heap.size, args := #[] } :: a.defers } (W2.putObj (w.heap.size + 1) (.loop lo))) :
    (Code.rangeFunc g ps assign body).wpIn F n P Q a w := by
  refine wpIn_rangeFunc ?_
  intro fn hfn
  rw [hro]
  have hc := hcall fn hfn
  obtain ⟨W1, hW1⟩ : ∃ W1, W1 = (w.alloc (.deferred (some []))).alloc (.loop (recOf fn a.tmps ps assign body w.heap.size .ready none)) := ⟨_, rfl⟩
  rw [← hW1] at hc
  refine ⟨w.heap.size + 1, [{ target := .collected w.heap.size, args := #[] }], W1, { target := .fn (.func gf) lb, args := #[.func (.yield (w.heap.size + 1)) #[] #[]] }, W1, gf,
    #[.func (.yield (w.heap.size + 1)) #[] #[]] ++ lb, W1, ?_, ?_, ?_, ?_, fun _ => h1, ?_⟩
  · rw [hW1]; exact run_enterLoop_outer _ _ _ _ _
  · simp only [resolve, hg]
    simp [go_sem]
  · intro f' hf'
    simp [Target.leads] at hf'
    subst hf'
    exact hFg
  · simp [invoke, go_sem, eg]
  · refine hc.mono ?_
    rintro e W2 ⟨⟨v, rfl⟩, pe, hl, hk, hp⟩
    have hlt : w.heap.size + 1 < W2.heap.size := (Array.getElem?_eq_some_iff.1 hl).1
    cases pe with
    | none => exact ⟨none, _, run_endLoop (P := P) hl (by simp [recOf]), hdone _ _ hp hk hlt⟩
    | some c => exact ⟨some c, _, run_endLoop (P := P) hl (by simp [recOf]), hstop _ _ c hp hk hlt⟩

/-- How a round may be left. -/
def leftBy (Go_ : World → Prop) (Lv : Code → World → Prop) (l : Nat) (lo : Loop) : Exit → Act → World → Prop
  | .normal, _, W' => W'.heap[l]? = some (.loop { lo with state := .busy }) ∧ Go_ (W'.putObj l (.loop lo))
  | .ret, _, W' => W'.heap[l]? = some (.loop { lo with state := .busy }) ∧ Lv .ret (W'.putObj l (.loop { lo with state := .done, pending := some .ret }))
  | .exit id, _, W' => W'.heap[l]? = some (.loop { lo with state := .busy }) ∧ Lv (.exit id) (W'.putObj l (.loop { lo with state := .done, pending := some (.exit id) }))
  | .goto t, _, W' => W'.heap[l]? = some (.loop { lo with state := .busy }) ∧ Lv (.goto t) (W'.putObj l (.loop { lo with state := .done, pending := some (.goto t) }))
  | .panic _, _, _ => False
  | .outgrown, _, _ => False
theorem yield_round {l : Nat} {lo : Loop} {args : Array Value} {W : World} {Go_ : World → Prop} {Lv : Code → World → Prop} (hfn : F.fn lo.fn) (hl : W.heap[l]? = some (.loop lo)) (hst : lo.state = .ready) (hpe : lo.pending = none) (hps : args.size = lo.params.size)
    (h : lo.assign.wpIn (F.inRound l) n P (Exit.then (fun a₁ W1 => W1.heap[l]? = some (.loop lo) ∧ lo.body.wpIn (F.inRound l) n P (leftBy Go_ Lv l lo) a₁ (W1.putObj l (.loop { lo with state := .busy }))) (fun _ _ _ => False))
      { tmps := (lo.params.zip args).foldl (fun t (p, v) => t.setIfInBounds p v) lo.tmps, defers := [] } W) :
    YieldAt F n P l args W fun e W' => (e = .returned (.bool true) ∧ Go_ W') ∨ (e = .returned (.bool false) ∧ ∃ c, Lv c W') := by
  refine ⟨lo.fn, _, lo.assign, lo.body, run_yield (P := P) hl hps, roundIn_of_wpIn hfn (wpIn_mono h ?_)⟩
  intro e a₁ W1 hp
  cases e with
  | normal =>
    obtain ⟨hl1, hb⟩ := hp
    refine ⟨_, run_beginRound hl1 hst, wpIn_mono hb ?_⟩
    intro e2 a2 W2 hq
    cases e2 with
    | normal =>
      have hr := run_endRound (P := P) none hq.1
      refine ⟨_, _, hr, .inl ⟨rfl, ?_⟩⟩
      have : ({ lo with state := .ready, pending := none } : Loop) = lo := by cases lo; simp_all
      simpa [this] using hq.2
    | ret => exact ⟨_, _, run_endRound (P := P) (some .ret) hq.1, .inr ⟨rfl, _, hq.2⟩⟩
    | exit id => exact ⟨_, _, run_endRound (P := P) (some (.exit id)) hq.1, .inr ⟨rfl, _, hq.2⟩⟩
    | goto t => exact ⟨_, _, run_endRound (P := P) (some (.goto t)) hq.1, .inr ⟨rfl, _, hq.2⟩⟩
    | panic ch => exact hq.elim
    | outgrown => exact hq.elim
  | ret => exact hp.elim
  | exit id => exact hp.elim
  | goto t => exact hp.elim
  | panic ch => exact hp.elim
  | outgrown => exact hp.elim
end
end Go.Proofs.YthdpomgpcblpeaaGreat

namespace Go.Proofs.YthdpomgpcblpeaaGreat
open Go.RowKit Go.Shelf
attribute [local go_sem] Oper.semAt_some

end Go.Proofs.YthdpomgpcblpeaaGreat

namespace Go.Proofs.YthdpomgpcblpeaaGreat
open Go.RowKit Go.Shelf
attribute [local go_sem] Oper.semAt_some

theorem made_row (z : Value) (m : Nat) : madeCells #[z] m = Array.replicate m z := by
  apply Array.ext'
  apply List.ext_getElem
  · simp [madeCells]
  · intro i h1 h2
    simp [madeCells, Nat.mod_one]
theorem wpListIn_zeros {F : Fence} {n : Nat} {P : Program} (w : World) {ops : Array Oper} {rest : List Oper} {o : Oper} {a : Act} {Q : Exit → Act → World → Prop}
    (hg : o.guard = none) (l c : Operand) (t : TypeId) (hop : o.op = Op.makeSlice t l c)
    (e : TypeId) (i : TypeInfo) (k : IntKind) (h1 : P.underlying t = some (.slice e)) (h2 : P.info? e = some i) (h3 : i.zero = some (.int k 0)) (h4 : i.size = 1)
    (kl kc : IntKind) (m : Nat) (hl : a.eval l = .int kl (m : Int)) (hc : a.eval c = .int kc (m : Int)) (b2 : i.bytes * m ≤ 281474976710656) (b3 : m ≤ 9223372036854775807)
    (hK : wpListIn F n P ops Q rest (a.put o.dst (.slice (some ⟨w.heap.size, 0, none⟩) m m)) (w.alloc (.cells (Array.replicate m (.int k 0)) e))) :
    wpListIn F n P ops Q (o :: rest) a w := by
  refine wpListIn_plain hg fun K hK' => ?_
  have hb' : (i.bytes : Int) * (m : Int) ≤ 281474976710656 := by
    have h : ((i.bytes * m : Nat) : Int) ≤ 281474976710656 := by omega
    rwa [Int.natCast_mul] at h
  have hrun := run_make (P := P) w t e i (.int k 0) h1 h2 h3 kl kc m m (by omega) (Int.le_refl _) hb' (by omega)
  simp only [Int.toNat_natCast, h4, Nat.mul_one, Value.cells] at hrun
  rw [made_row] at hrun
  unfold Oper.wpIn
  refine ⟨?_, ?_⟩
  · simp [Oper.about, hop]
  · rw [Oper.semAt_plain F _ _ (by rw [hop]; intro c hc'; cases hc')]
    simp [execOp, hop, hl, hc, hrun, Result.andThen]
    exact hK' _ _ hK
/-- The row when k digits are told. -/
def rowK (ss : List Int) (a : Int) (k : Nat) : List Int := (List.range ss.length).map fun i => if ss.length - k ≤ i then digAt ss a i else 0
theorem rowK_len (ss : List Int) (a : Int) (k : Nat) : (rowK ss a k).length = ss.length := by simp [rowK]
theorem rowK_zero (ss : List Int) (a : Int) : rowK ss a 0 = List.replicate ss.length 0 := by
  apply List.ext_getElem
  · simp [rowK]
  · intro i h1 h2
    have : ¬ ss.length ≤ i := by simp [rowK] at h1; omega
    simp [rowK, this]
theorem rowK_full (ss : List Int) (a : Int) : rowK ss a ss.length = dgs ss a := by
  simp [rowK, dgs]
theorem rowK_step (ss : List Int) (a : Int) (k j : Nat) (hk : k < ss.length) (hj : ss.length - 1 - k = j) : (rowK ss a k).set j (digAt ss a j) = rowK ss a (k + 1) := by
  apply List.ext_getElem
  · simp [rowK]
  · intro i h1 h2
    have hi : i < ss.length := by simp [rowK] at h2; omega
    rw [List.getElem_set]
    by_cases hij : j = i
    · subst hij
      simp only [rowK, List.getElem_map, List.getElem_range, if_true]
      rw [if_pos (by omega)]
    · rw [if_neg hij]
      simp only [rowK, List.getElem_map, List.getElem_range]
      by_cases h : ss.length - k ≤ i
      · rw [if_pos h, if_pos (by omega)]
      · rw [if_neg h, if_neg (by omega)]
theorem results_t2 {P : Program} {fn : Func} {p q : Tmp} (h : fn.results = #[.tmp p, .tmp q]) (tmps : Array Value) (w : World) (v u : Value) (hp : tmps.getD p undef = v) (hq : tmps.getD q undef = u) : (results fn tmps).run P w = .ok (.tuple #[v, u]) w := by
  have hp' : tmps[p]?.getD undef = v := by simpa using hp
  have hq' : tmps[q]?.getD undef = u := by simpa using hq
  simp [results, h, hp', hq']
theorem with_rec {p : Loop → Prop} (lo : Loop) (h : ∀ lo', lo' = lo → p lo') : p lo := h lo rfl
theorem wrap_i64 {z : Int} (h1 : -9223372036854775808 ≤ z) (h2 : z ≤ 9223372036854775807) : IntKind.i64.wrap z = z := by rw [IntKind.wrap_i64]; omega
theorem wrap_i32 {z : Int} (h1 : -2147483648 ≤ z) (h2 : z ≤ 2147483647) : IntKind.i32.wrap z = z := by rw [IntKind.wrap_i32]; omega
theorem wrap_u16 {z : Int} (h1 : 0 ≤ z) (h2 : z ≤ 65535) : IntKind.u16.wrap z = z := by simp [IntKind.wrap, IntKind.bits, IntKind.signed]; omega
theorem wpIn_cut {F : Fence} {n : Nat} {P : Program} {c : Code} {Q : Exit → Act → World → Prop} {a a' : Act} {w w' : World} (h : c.wpIn F n P (fun e b W => e = Exit.normal ∧ b = a' ∧ W = w') a w) (k : Q .normal a' w') : c.wpIn F n P Q a w :=
  wpIn_mono h fun _ _ _ ⟨h1, h2, h3⟩ => h1 ▸ h2 ▸ h3 ▸ k
/-- What Digits leaves. -/
def DgEnd (K : IntKind) (et : Nat) (ss : List Int) (a : Int) (w : World) (e : Ending) (w' : World) : Prop :=
  ((dgE ss a ≠ 0 ∧ e = .returned (.tuple #[.slice none 0 0, .int .i64 (dgE ss a)])) ∨
   (dgE ss a = 0 ∧ ∃ g, e = .returned (.tuple #[.slice (some ⟨g, 0, none⟩) ss.length ss.length, .int .i64 0]) ∧ w.heap.size ≤ g ∧ w'.heap[g]? = some (.cells ((dgs ss a).map (Value.int K)).toArray et (0, 0)))) ∧ Below w.heap.size w w'
theorem below_drewR {B : Nat} {w w' : World} (h : Below B w w') : ∀ q, Below B w (w'.drewN q)
  | 0 => h
  | q + 1 => (below_drewR h q).drew
/-- How memory stands when k digits are told. -/
structure DgC (K : IntKind) (e t : Nat) (w : World) (v : Value) (ss : List Int) (a : Int) (s : Nat) (lo : Loop) (k : Nat) (W : World) : Prop where
  at_ : W.heap[s]? = some (.cells #[.int .i64 (a / pr (ss.drop (ss.length - k)))] 3 (0, 0))
  row : W.heap[s + 1]? = some (.cells ((rowK ss a k).map (Value.int K)).toArray e (0, 0))
  box : W.heap[s + 2]? = some (.cells #[.slice (some ⟨s + 1, 0, none⟩) ss.length ss.length] t (0, 0))
  src : W.heap[s + 3]? = some (.cells #[v] t (0, 0))
  dfr : W.heap[s + 4]? = some (.deferred (some []))
  rcd : W.heap[s + 5]? = some (.loop lo)
  bel : Below s w W
section
variable {K : IntKind} {e t : Nat} {w : World} {v : Value} {ss : List Int} {a : Int} {s : Nat} {lo : Loop} {k : Nat} {W : World}
theorem DgC.drew (h : DgC K e t w v ss a s lo k W) : DgC K e t w v ss a s lo k W.drew := ⟨h.at_, h.row, h.box, h.src, h.dfr, h.rcd, h.bel.drew⟩
theorem DgC.next (h : DgC K e t w v ss a s lo k W) (hk : k < ss.length) (h1 : ∀ z ∈ ss, 1 ≤ z) {j : Nat} (hj : ss.length - 1 - k = j) :
    DgC K e t w v ss a s lo (k + 1) ((W.setCell ⟨s + 1, j, none⟩ (.int K (a / pr (ss.drop (j + 1)) % ss.getD j 0))).setCell ⟨s, 0, none⟩ (.int .i64 (a / pr (ss.drop (j + 1)) / ss.getD j 0))) := by
  have hA := heap_setCell_same W (s + 1) j _ _ (.int K (a / pr (ss.drop (j + 1)) % ss.getD j 0)) h.row
  have hB : (W.setCell ⟨s + 1, j, none⟩ (.int K (a / pr (ss.drop (j + 1)) % ss.getD j 0))).heap[s]? = _ := (Below.heap_setCell _ _ _ _ (show s ≠ s + 1 by omega)).trans h.at_
  refine ⟨?_, ?_, ?_, ?_, ?_, ?_, ?_⟩
  · rw [heap_setCell_same _ s 0 _ _ _ hB, div_step ss a h1 j (by omega), show ss.length - (k + 1) = j by omega]; rfl
  · rw [Below.heap_setCell _ _ _ _ (show s + 1 ≠ s by omega), hA]
    have := rowK_step ss a k j hk hj
    rw [← this, List.setIfInBounds_toArray, List.map_set]; rfl
  · rw [Below.heap_setCell _ _ _ _ (show s + 2 ≠ s by omega), Below.heap_setCell _ _ _ _ (show s + 2 ≠ s + 1 by omega)]; exact h.box
  · rw [Below.heap_setCell _ _ _ _ (show s + 3 ≠ s by omega), Below.heap_setCell _ _ _ _ (show s + 3 ≠ s + 1 by omega)]; exact h.src
  · rw [Below.heap_setCell _ _ _ _ (show s + 4 ≠ s by omega), Below.heap_setCell _ _ _ _ (show s + 4 ≠ s + 1 by omega)]; exact h.dfr
  · rw [Below.heap_setCell _ _ _ _ (show s + 5 ≠ s by omega), Below.heap_setCell _ _ _ _ (show s + 5 ≠ s + 1 by omega)]; exact h.rcd
  · exact (h.bel.setCell (p := ⟨s + 1, j, none⟩) (by show s ≤ s + 1; omega) _).setCell (p := ⟨s, 0, none⟩) (Nat.le_refl _) _
theorem DgC.cells (h : DgC K e t w v ss a s lo k W) (hk : k < ss.length) {j : Nat} (hj : ss.length - 1 - k = j) :
    W.cell? ⟨s, 0, none⟩ = some (.int .i64 (a / pr (ss.drop (j + 1)))) ∧ W.frozen? ⟨s, 0, none⟩ = false ∧ W.cell? ⟨s + 2, 0, none⟩ = some (.slice (some ⟨s + 1, 0, none⟩) ss.length ss.length) ∧
      (∃ u, W.cell? ⟨s + 1, j, none⟩ = some (.int K u)) ∧ W.frozen? ⟨s + 1, j, none⟩ = false := by
  refine ⟨?_, frozen_of_row W _ 0 _ _ h.at_, by simp [World.cell?, h.box], ⟨(rowK ss a k).getD j 0, ?_⟩, frozen_of_row W _ _ _ _ h.row⟩
  · have := h.at_
    rw [show ss.length - k = j + 1 by omega] at this
    simp [World.cell?, this]
  · have hjl : j < (rowK ss a k).length := by rw [rowK_len]; omega
    simp [World.cell?, h.row, List.getD_eq_getElem?_getD, hjl]
theorem DgC.put (h : DgC K e t w v ss a s lo k W) (lo' : Loop) : DgC K e t w v ss a s lo' k (W.putObj (s + 5) (.loop lo')) := by
  have hl : s + 5 < W.heap.size := (Array.getElem?_eq_some_iff.1 h.rcd).1
  refine ⟨?_, ?_, ?_, ?_, ?_, World.putObj_heap_same hl, ?_⟩
  · rw [World.putObj_heap_other (by omega)]; exact h.at_
  · rw [World.putObj_heap_other (by omega)]; exact h.row
  · rw [World.putObj_heap_other (by omega)]; exact h.box
  · rw [World.putObj_heap_other (by omega)]; exact h.src
  · rw [World.putObj_heap_other (by omega)]; exact h.dfr
  · exact h.bel.trans ⟨rfl, rfl, rfl, by simp [World.putObj], fun q hq => World.putObj_heap_other (by omega)⟩
end
end Go.Proofs.YthdpomgpcblpeaaGreat

namespace Go.Proofs.YthdpomgpcblpeaaGreat
open Go.RowKit Go.Shelf
attribute [local go_sem] Oper.semAt_some

theorem Tryz.infoI : (Tryz.prog.info? 3).map (fun i => (i.zero, i.size, i.bytes)) = some (some (.int .i64 0), 1, 8) := by kernel_rfl
end Go.Proofs.YthdpomgpcblpeaaGreat

namespace Go.Proofs.YthdpomgpcblpeaaGreat
open Go.RowKit Go.Shelf
attribute [local go_sem] Oper.semAt_some

theorem Tryz.infoJ : (Tryz.prog.info? 21).map (fun i => (i.zero, i.size, i.bytes)) = some (some (.int .i32 0), 1, 4) := by kernel_rfl
end Go.Proofs.YthdpomgpcblpeaaGreat

namespace Go.Proofs.YthdpomgpcblpeaaGreat
open Go.RowKit Go.Shelf
attribute [local go_sem] Oper.semAt_some

end Go.Proofs.YthdpomgpcblpeaaGreat

namespace Go.Proofs.YthdpomgpcblpeaaGreat
open Go.RowKit Go.Shelf

theorem rk_get {k : IntKind} {zs : List Int} {i : Nat} (h : i < zs.length) : (zs.map (Value.int k)).toArray[i]? = some (.int k (zs.getD i 0)) := by
  simp [List.getD_eq_getElem?_getD, h]
/-- All in the kind's bounds? -/
def inK (k : IntKind) (zs : List Int) : Prop := ∀ i, i < zs.length → k.min ≤ zs.getD i 0 ∧ zs.getD i 0 ≤ k.max
theorem RK.of_row {k : IntKind} {w : World} {g cap e : Nat} {zs : List Int} (h : w.heap[g]? = some (.cells (zs.map (Value.int k)).toArray e (0, 0))) (hz : inK k zs) (hc : zs.length ≤ cap) (hm : cap ≤ maxLen) : RK k w (.slice (some ⟨g, 0, none⟩) zs.length cap) zs :=
  ⟨some ⟨g, 0, none⟩, cap, rfl, hc, hm, fun h => by simp at h, hz, fun i hi => ⟨g, 0, rfl, by rw [Nat.zero_add]; simp only [World.cell?, h]; exact rk_get hi⟩⟩
theorem RK.lit {k : IntKind} (w : World) (e : Nat) (zs : List Int) (hz : inK k zs) (hm : zs.length ≤ maxLen) : RK k (w.alloc (.cells (zs.map (Value.int k)).toArray e)) (.slice (some ⟨w.heap.size, 0, none⟩) zs.length zs.length) zs :=
  RK.of_row (heap_alloc_new w _) hz (Nat.le_refl _) hm
theorem RK.of_own {k : IntKind} {w : World} {B e : Nat} {v : Value} {zs : List Int} (h : w.ownsRow B e 1 v zs.length (zs.map (Value.int k))) (hz : inK k zs) : RK k w v zs := by
  have hw := h
  rcases h.2 with ⟨rfl, h0⟩ | ⟨g, cap, cur, rfl, h3, h4, h5, h6, h7, h8⟩
  · have : zs = [] := List.eq_nil_of_length_eq_zero h0
    subst this
    exact RK.nil k w
  · refine ⟨some ⟨g, 0, none⟩, cap, rfl, h5, h6, fun e => by simp at e, hz, fun j hj => ⟨g, 0, rfl, ?_⟩⟩
    rw [Nat.zero_add, World.ownsRow.cellAt hw j (by simpa using hj), List.getElem?_map, List.getD_eq_getElem?_getD, List.getElem?_eq_getElem hj]
    rfl
theorem RK.alloc {k : IntKind} {w : World} {v : Value} {zs : List Int} (h : RK k w v zs) (o : Obj) : RK k (w.alloc o) v zs := h.below (Nat.le_refl _) ((Below.refl _ _).alloc (Nat.le_refl _) o)
theorem cell_row {k : IntKind} {w : World} {g e : Nat} {zs : List Int} (h : w.heap[g]? = some (.cells (zs.map (Value.int k)).toArray e (0, 0))) {i : Nat} (hi : i < zs.length) : w.cell? ⟨g, i, none⟩ = some (.int k (zs.getD i 0)) := by
  simp only [World.cell?, h]; exact rk_get hi
theorem inK_of {k : IntKind} {zs : List Int} (h : (zs.all fun z => decide (k.min ≤ z) && decide (z ≤ k.max)) = true) : inK k zs := fun i hi => by
  rw [List.getD_eq_getElem?_getD, List.getElem?_eq_getElem hi]
  have := List.all_eq_true.1 h _ (List.getElem_mem hi)
  simpa using this
theorem DgEnd.yes {K : IntKind} {et : Nat} {ss : List Int} {a : Int} {w w' : World} {e : Ending} (h : DgEnd K et ss a w e w') (h0 : dgE ss a = 0) :
    ∃ g, e = .returned (.tuple #[.slice (some ⟨g, 0, none⟩) ss.length ss.length, .int .i64 0]) ∧ w.heap.size ≤ g ∧ w'.heap[g]? = some (.cells ((dgs ss a).map (Value.int K)).toArray et (0, 0)) ∧ Below w.heap.size w w' := by
  obtain ⟨⟨h1, _⟩ | ⟨_, g, h2, h3, h4⟩, hb⟩ := h
  · exact absurd h0 h1
  · exact ⟨g, h2, h3, h4, hb⟩
theorem DgEnd.no {K : IntKind} {et : Nat} {ss : List Int} {a : Int} {w w' : World} {e : Ending} (h : DgEnd K et ss a w e w') (h0 : dgE ss a ≠ 0) :
    e = .returned (.tuple #[.slice none 0 0, .int .i64 (dgE ss a)]) ∧ Below w.heap.size w w' := by
  obtain ⟨⟨_, h1⟩ | ⟨h2, _⟩, hb⟩ := h
  · exact ⟨h1, hb⟩
  · exact absurd h2 h0
theorem belowA (w : World) (o : Obj) : Below w.heap.size w (w.alloc o) := (Below.refl _ _).alloc (Nat.le_refl _) o
theorem bstepR {w wr w' : World} (h : Below w.heap.size w wr) (hb : Below wr.heap.size wr w') : Below w.heap.size w w' := h.trans (hb.mono h.size)
theorem keepR {w w' : World} {p : Addr} {v : Value} (hb : Below w.heap.size w w') (h : w.cell? p = some v) : w'.cell? p = some v := by
  rw [hb.cell (block_lt_of_cell h)]; exact h
end Go.Proofs.YthdpomgpcblpeaaGreat

namespace Go.Proofs.YthdpomgpcblpeaaGreat
/-- The number of some limbs, the lowest first. -/
def val : List Nat → Nat
  | [] => 0
  | x :: r => x + 4294967296 * val r
/-- Each limb is one. -/
def limbs (xs : List Nat) : Prop := ∀ x ∈ xs, x < 4294967296
def digs : Nat → Nat → List Nat
  | 0, _ => []
  | f + 1, n => if n = 0 then [] else n % 4294967296 :: digs f (n / 4294967296)
/-- The limbs of a number. -/
def lim (n : Nat) : List Nat := digs n n

theorem digs_zero (f : Nat) : digs f 0 = [] := by cases f <;> simp [digs]
theorem digs_fuel : ∀ (f g n : Nat), n ≤ f → n ≤ g → digs f n = digs g n
  | 0, g, n, hf, _ => by
    have : n = 0 := by omega
    subst this; rw [digs_zero, digs_zero]
  | f + 1, 0, n, _, hg => by
    have : n = 0 := by omega
    subst this; rw [digs_zero, digs_zero]
  | f + 1, g + 1, n, hf, hg => by
    simp only [digs]
    by_cases h : n = 0
    · simp [h]
    · rw [if_neg h, if_neg h, digs_fuel f g (n / 4294967296) (by omega) (by omega)]
theorem lim_zero : lim 0 = [] := rfl
theorem lim_pos {n : Nat} (h : n ≠ 0) : lim n = n % 4294967296 :: lim (n / 4294967296) := by
  unfold lim
  match n, h with
  | n + 1, h =>
    rw [digs, if_neg h]
    rw [digs_fuel n ((n + 1) / 4294967296) ((n + 1) / 4294967296) (by omega) (by omega)]
theorem lim_step (n : Nat) : val (lim n) = n ∧ limbs (lim n) := by
  induction n using Nat.strongRecOn with
  | ind n ih =>
    by_cases h : n = 0
    · subst h; exact ⟨rfl, by intro x hx; simp [lim_zero] at hx⟩
    · have := ih (n / 4294967296) (by omega)
      rw [lim_pos h]
      refine ⟨by simp only [val]; rw [this.1]; omega, ?_⟩
      intro x hx
      rcases List.mem_cons.1 hx with rfl | hx
      · omega
      · exact this.2 x hx
theorem val_lim (n : Nat) : val (lim n) = n := (lim_step n).1
theorem limbs_lim (n : Nat) : limbs (lim n) := (lim_step n).2
theorem limbs_nil : limbs [] := by intro x hx; simp at hx
theorem limbs_cons {x : Nat} {r : List Nat} : limbs (x :: r) ↔ x < 4294967296 ∧ limbs r := by
  constructor
  · intro h; exact ⟨h x (by simp), fun y hy => h y (by simp [hy])⟩
  · intro h y hy
    rcases List.mem_cons.1 hy with rfl | hy
    · exact h.1
    · exact h.2 y hy
theorem val_append (a b : List Nat) : val (a ++ b) = val a + 4294967296 ^ a.length * val b := by
  induction a with
  | nil => simp [val]
  | cons x r ih =>
    simp only [List.cons_append, val, ih, List.length_cons, Nat.pow_succ]
    rw [Nat.mul_add, Nat.add_assoc, ← Nat.mul_assoc, Nat.mul_comm 4294967296 (4294967296 ^ r.length)]
theorem val_lt {xs : List Nat} (h : limbs xs) : val xs < 4294967296 ^ xs.length := by
  induction xs with
  | nil => simp [val]
  | cons x r ih =>
    have hr := ih (limbs_cons.1 h).2
    have hx := (limbs_cons.1 h).1
    simp only [val, List.length_cons, Nat.pow_succ]
    omega
theorem val_zeros : ∀ {xs : List Nat}, (∀ x ∈ xs, x = 0) → val xs = 0
  | [], _ => rfl
  | x :: r, h => by
    simp only [val]
    rw [h x (by simp), val_zeros (xs := r) fun y hy => h y (by simp [hy])]
/-- Two normal lists of limbs of one number are one. -/
theorem lim_val_cons {x : Nat} {r : List Nat} (hx : x < 4294967296) (h : x + 4294967296 * val r ≠ 0) : lim (val (x :: r)) = x :: lim (val r) := by
  simp only [val]
  rw [lim_pos h]
  rw [show (x + 4294967296 * val r) % 4294967296 = x by omega, show (x + 4294967296 * val r) / 4294967296 = val r by omega]
theorem val_pos_of_last : ∀ {xs : List Nat} (h : xs ≠ []), xs.getLast h ≠ 0 → val xs ≠ 0
  | [x], _, hl => by simpa [val] using hl
  | x :: y :: r, _, hl => by
    have := val_pos_of_last (xs := y :: r) (by simp) (by simpa using hl)
    have h1 : val (x :: y :: r) = x + 4294967296 * val (y :: r) := rfl
    omega
theorem lim_of_last : ∀ {xs : List Nat}, limbs xs → (∀ h : xs ≠ [], xs.getLast h ≠ 0) → lim (val xs) = xs
  | [], _, _ => rfl
  | x :: r, hb, hl => by
    have hx := limbs_cons.1 hb
    have hne := val_pos_of_last (xs := x :: r) (by simp) (hl (by simp))
    rw [lim_val_cons hx.1 hne]
    rw [lim_of_last hx.2]
    intro hr
    have := hl (by simp)
    rwa [List.getLast_cons hr] at this
theorem val_take_zeros {xs : List Nat} {k : Nat} (hk : k ≤ xs.length) (hz : ∀ j, k ≤ j → j < xs.length → xs.getD j 0 = 0) : val (xs.take k) = val xs := by
  have e : xs = xs.take k ++ xs.drop k := (List.take_append_drop k xs).symm
  conv => rhs; rw [e, val_append]
  rw [val_zeros (xs := xs.drop k)]
  · simp
  · intro y hy
    obtain ⟨i, hi, rfl⟩ := List.getElem_of_mem hy
    have := hz (k + i) (by omega) (by simp at hi; omega)
    simp only [List.length_drop] at hi
    rw [List.getD_eq_getElem?_getD, List.getElem?_eq_getElem (by omega)] at this
    simpa using this
theorem limbs_take {xs : List Nat} (h : limbs xs) (k : Nat) : limbs (xs.take k) := fun x hx => h x (List.mem_of_mem_take hx)
theorem limbs_drop {xs : List Nat} (h : limbs xs) (k : Nat) : limbs (xs.drop k) := fun x hx => h x (List.mem_of_mem_drop hx)
theorem take_trim {xs : List Nat} (hb : limbs xs) {k : Nat} (hk : k ≤ xs.length) (hz : ∀ j, k ≤ j → j < xs.length → xs.getD j 0 = 0) (hl : 0 < k → xs.getD (k - 1) 0 ≠ 0) :
    xs.take k = lim (val xs) := by
  rw [← val_take_zeros hk hz]
  refine (lim_of_last (limbs_take hb k) ?_).symm
  intro hne
  have hk0 : 0 < k := by
    rcases Nat.eq_zero_or_pos k with h | h
    · subst h; simp at hne
    · exact h
  have := hl hk0
  rw [List.getLast_eq_getElem]
  rw [List.getD_eq_getElem?_getD, List.getElem?_eq_getElem (by omega)] at this
  simp only [List.length_take, Nat.min_eq_left hk]
  simpa using this
theorem limb_lt {xs : List Nat} (h : limbs xs) (j : Nat) : xs.getD j 0 < 4294967296 := by
  rw [List.getD_eq_getElem?_getD]
  rcases Nat.lt_or_ge j xs.length with hj | hj
  · rw [List.getElem?_eq_getElem hj]; exact h _ (List.getElem_mem hj)
  · rw [List.getElem?_eq_none hj]; simp
theorem lim_len_le : ∀ {k n : Nat}, n < 4294967296 ^ k → (lim n).length ≤ k
  | 0, n, h => by
    have : n = 0 := by simpa using h
    subst this; simp [lim_zero]
  | k + 1, n, h => by
    by_cases h0 : n = 0
    · subst h0; simp [lim_zero]
    · rw [lim_pos h0]
      have : n / 4294967296 < 4294967296 ^ k := by rw [Nat.pow_succ] at h; omega
      have := lim_len_le this
      simp only [List.length_cons]; omega
theorem lim_lt_of_len {k n : Nat} (h : (lim n).length ≤ k) : n < 4294967296 ^ k := by
  have h1 := val_lt (limbs_lim n)
  rw [val_lim] at h1
  exact Nat.lt_of_lt_of_le h1 (Nat.pow_le_pow_right (by decide) h)
theorem getD_lim_two (n : Nat) (h : n < 18446744073709551616) : (lim n).getD 0 0 = n % 4294967296 ∧ (lim n).getD 1 0 = n / 4294967296 := by
  by_cases h0 : n = 0
  · subst h0; simp [lim_zero]
  · rw [lim_pos h0]
    refine ⟨by simp, ?_⟩
    by_cases h1 : n / 4294967296 = 0
    · rw [h1]; simp [lim_zero]
    · rw [lim_pos h1]; simp; omega
end Go.Proofs.YthdpomgpcblpeaaGreat

namespace Go.Proofs.YthdpomgpcblpeaaGreat
open Go.RowKit

/-- A limb as a cell. -/
def U (x : Nat) : Value := .int .u32 (x : Int)
/-- A slice cut at k. -/
def cutTo : Value → Nat → Value
  | .slice a _ c, k => .slice a k c
  | v, _ => v
/-- A number that can be read: its limbs are xs. -/
def Num (w : World) (v : Value) (xs : List Nat) : Prop :=
  limbs xs ∧ ∃ ao cap, v = .slice ao xs.length cap ∧ xs.length ≤ cap ∧ cap ≤ maxLen ∧ (ao = none → cap = 0) ∧
    ∀ j, j < xs.length → ∃ b off, ao = some ⟨b, off, none⟩ ∧ w.cell? ⟨b, off + j, none⟩ = some (U (xs.getD j 0))
/-- A number in a row of the call's own. -/
def Own (B e : Nat) (w : World) (v : Value) (xs : List Nat) : Prop := limbs xs ∧ w.ownsRow B e 1 v xs.length (xs.map U)

theorem Num.lt {w : World} {v : Value} {xs : List Nat} (h : Num w v xs) : limbs xs := h.1
theorem Own.lt {B e : Nat} {w : World} {v : Value} {xs : List Nat} (h : Own B e w v xs) : limbs xs := h.1

theorem Num.cut {w : World} {v : Value} {xs : List Nat} (h : Num w v xs) {k : Nat} (hk : k ≤ xs.length) : Num w (cutTo v k) (xs.take k) := by
  obtain ⟨hb, ao, cap, rfl, h1, h2, h3, h4⟩ := h
  refine ⟨limbs_take hb k, ao, cap, by simp [cutTo, Nat.min_eq_left hk], by simp; omega, h2, h3, fun j hj => ?_⟩
  simp only [List.length_take] at hj
  obtain ⟨b, off, e, hc⟩ := h4 j (by omega)
  refine ⟨b, off, e, ?_⟩
  rw [hc, List.getD_eq_getElem?_getD, List.getD_eq_getElem?_getD, List.getElem?_take_of_lt (by omega)]

theorem Own.cut {B e : Nat} {w : World} {v : Value} {xs : List Nat} (h : Own B e w v xs) {k : Nat} (hk : k ≤ xs.length) : Own B e w (cutTo v k) (xs.take k) := by
  obtain ⟨hb, hl, h2⟩ := h
  refine ⟨limbs_take hb k, by simp, ?_⟩
  rcases h2 with ⟨rfl, h0⟩ | ⟨g, cap, cur, rfl, h3, h4, h5, h6, h7, h8⟩
  · left
    have : k = 0 := by omega
    subst this
    exact ⟨rfl, by simp⟩
  · right
    refine ⟨g, cap, cur, by simp [cutTo, Nat.min_eq_left hk], h3, h4, by simp; omega, h6, h7, ?_⟩
    simp only [Nat.mul_one] at h8 ⊢
    rw [List.length_take, Nat.min_eq_left hk, List.map_take, ← h8, List.take_take, Nat.min_eq_left hk]

theorem Own.num {B e : Nat} {w : World} {v : Value} {xs : List Nat} (h : Own B e w v xs) : Num w v xs := by
  obtain ⟨hb, h⟩ := h
  refine ⟨hb, ?_⟩
  have hw := h
  rcases h.2 with ⟨rfl, h0⟩ | ⟨g, cap, cur, rfl, h3, h4, h5, h6, h7, h8⟩
  · refine ⟨none, 0, by rw [h0], by omega, by simp [maxLen], fun _ => rfl, fun j hj => by omega⟩
  · refine ⟨some ⟨g, 0, none⟩, cap, rfl, h5, h6, fun e => by simp at e, fun j hj => ⟨g, 0, rfl, ?_⟩⟩
    rw [Nat.zero_add, World.ownsRow.cellAt hw j (by simpa using hj), List.getElem?_map, List.getD_eq_getElem?_getD, List.getElem?_eq_getElem hj]
    rfl

theorem Num.below {B : Nat} {w w' : World} {v : Value} {xs : List Nat} (h : Num w v xs) (hB : w.heap.size ≤ B) (hb : Below B w w') : Num w' v xs := by
  obtain ⟨h0, ao, cap, rfl, h1, h2, h3, h4⟩ := h
  refine ⟨h0, ao, cap, rfl, h1, h2, h3, fun j hj => ?_⟩
  obtain ⟨b, off, e, hc⟩ := h4 j hj
  refine ⟨b, off, e, ?_⟩
  rw [hb.cell (p := ⟨b, off + j, none⟩) (Nat.lt_of_lt_of_le (block_lt_of_cell hc) hB), hc]

theorem Own.below {B e : Nat} {w w' : World} {v : Value} {xs : List Nat} (h : Own B e w v xs) (hb : Below w.heap.size w w') : Own B e w' v xs := by
  obtain ⟨h0, h1, h2⟩ := h
  refine ⟨h0, h1, ?_⟩
  rcases h2 with h2 | ⟨g, cap, cur, rfl, h3, h4, h5⟩
  · exact Or.inl h2
  · exact Or.inr ⟨g, cap, cur, rfl, h3, by rw [hb.block g (Array.getElem?_eq_some_iff.1 h4).1]; exact h4, h5⟩

theorem Own.mono {B B' e : Nat} {w : World} {v : Value} {xs : List Nat} (h : Own B e w v xs) (hB : B' ≤ B) : Own B' e w v xs := by
  obtain ⟨h0, h1, h2⟩ := h
  refine ⟨h0, h1, ?_⟩
  rcases h2 with h2 | ⟨g, cap, cur, rfl, h3, h5⟩
  · exact Or.inl h2
  · exact Or.inr ⟨g, cap, cur, rfl, by omega, h5⟩

theorem Own.block {B e : Nat} {w : World} {v : Value} {xs : List Nat} (h : Own B e w v xs) : ∀ k, v.ownBlock = some k → B ≤ k ∧ k < w.heap.size := World.ownsRow.lt h.2

theorem heap_drewN (w : World) (n : Nat) : (w.drewN n).heap = w.heap := by
  induction n generalizing w with
  | zero => rfl
  | succ n ih => exact ih w.drew
theorem Num.same {w w' : World} {v : Value} {xs : List Nat} (h : Num w v xs) (e : w'.heap = w.heap) : Num w' v xs := by
  obtain ⟨h0, ao, cap, rfl, h1, h2, h3, h4⟩ := h
  refine ⟨h0, ao, cap, rfl, h1, h2, h3, fun j hj => ?_⟩
  obtain ⟨b, off, e', hc⟩ := h4 j hj
  exact ⟨b, off, e', by rw [← hc]; exact World.cell?_of_block (by rw [e])⟩
theorem Num.drewN {w : World} {v : Value} {xs : List Nat} (h : Num w v xs) (n : Nat) : Num (w.drewN n) v xs := h.same (heap_drewN w n)
theorem Own.same {B e : Nat} {w w' : World} {v : Value} {xs : List Nat} (h : Own B e w v xs) (he : w'.heap = w.heap) : Own B e w' v xs := by
  obtain ⟨h0, h1, h2⟩ := h
  exact ⟨h0, h1, by rw [he]; exact h2⟩
theorem Own.drewN {B e : Nat} {w : World} {v : Value} {xs : List Nat} (h : Own B e w v xs) (n : Nat) : Own B e (w.drewN n) v xs := h.same (heap_drewN w n)
theorem Num.of_nil (w : World) : Num w (.slice none 0 0) [] := ⟨limbs_nil, none, 0, rfl, by simp, by simp [maxLen], fun _ => rfl, fun j hj => by simp at hj⟩
theorem Own.of_nil (B e : Nat) (w : World) : Own B e w (.slice none 0 0) [] := ⟨limbs_nil, World.ownsRow_nil _ _ _ _⟩
/-- A row that was just laid. -/
theorem Own.lit {B : Nat} (e : Nat) (w : World) (cs : Array Value) (xs : List Nat) (hb : limbs xs) (hB : B ≤ w.heap.size) (hm : xs.length ≤ maxLen) (hc : cs.toList = xs.map U) :
    Own B e (w.alloc (.cells cs e)) (.slice (some ⟨w.heap.size, 0, none⟩) xs.length xs.length) xs := by
  refine ⟨hb, by simp, Or.inr ⟨w.heap.size, xs.length, cs, rfl, hB, heap_alloc_new w _, Nat.le_refl _, hm, ?_, ?_⟩⟩
  · have := congrArg List.length hc
    simpa using this
  · rw [hc]; exact List.take_of_length_le (by simp)
/-- What is read of a number with room behind it. -/
theorem Num.open_ {w : World} {v : Value} {xs : List Nat} (h : Num w v xs) : limbs xs ∧ ∃ ao cap, v = .slice ao xs.length cap ∧ xs.length ≤ cap ∧ cap ≤ 9223372036854775807 ∧ (ao = none → cap = 0) ∧
    ∀ j, j < xs.length → ∃ b off, ao = some ⟨b, off, none⟩ ∧ w.cell? ⟨b, off + j, none⟩ = some (.int .u32 ((xs.getD j 0 : Nat) : Int)) := h
end Go.Proofs.YthdpomgpcblpeaaGreat

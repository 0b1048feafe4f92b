/-
  Proved here: the loop of the law's walk, its rounds given.
  Proved here: a region that only reads and leaves its order open, within a round of a loop over a function.
-/
import Derived.Test.YtlemnbegblpllaaDoorLexEachM
import Derived.Deep.QuietTactic
import Derived.OrdersIn
import Derived.RangeFuncCalls
namespace Go.Proofs.YtlemnbegblpllaaDoor
open Go.RowKit Go.Shelf
set_option maxHeartbeats 1600000 in
theorem walk_each (s : ByteArray) (m : Int) (hz : s.size < 4294967281) (w : World) (h0w : 0 < w.heap.size) (q : Nat) (most : Int) (vw : Value) (z : Int × Int × Int × ByteArray) (wo : List Out) (lo : Loop) (id : Nat)
    (hrd : ∀ lo', lo' = lo → ∀ i outs W1 tv ev, Pre s i outs → TV (q + 7) (nextOut s i) tv ev W1 → WkC w q most vw z wo (allF s 0).length outs.length lo' W1 → q + 7 < W1.heap.size →
      YieldAt Fence.wide 2 Tryd.prog (q + 6) #[tv, ev] W1 fun e W' => (e = .returned (.bool true) ∧ WkC w q most vw z wo (allF s 0).length (outs.length + 1) lo' W' ∧ ((outs.length + 1 : Nat) : Int) ≠ most ∧ W1.heap.size ≤ W'.heap.size ∧ ∀ k, (k = 1 ∨ q + 7 ≤ k) → k < W1.heap.size → W'.heap[k]? = W1.heap[k]?) ∨
        (e = .returned (.bool false) ∧ ((outs.length + 1 : Nat) : Int) = most ∧ WkC w q most vw z wo (allF s 0).length (outs.length + 1) { lo' with state := .done, pending := some (.exit id) } W'))
    (W : World) (hW : W.heap.size = q + 7) (hbx : W.cell? ⟨q + 2, 0, none⟩ = some (.string s)) (hm : W.cell? ⟨1, 0, none⟩ = some (.int .i64 m)) (h0 : WkC w q most vw z wo (allF s 0).length 0 lo W) :
    CallsIn Fence.wide 3 Tryd.prog 24 #[.func (.yield (q + 6)) #[] #[], .pointer (some ⟨q + 2, 0, none⟩)] W fun e W2 => (∃ v, e = .returned v) ∧
      ((WkC w q most vw z wo (allF s 0).length (allF s 0).length lo W2 ∧ ∀ k : Nat, 1 ≤ k → k ≤ (allF s 0).length → (k : Int) ≠ most) ∨
       (∃ k : Nat, 1 ≤ k ∧ k ≤ (allF s 0).length ∧ (k : Int) = most ∧ WkC w q most vw z wo (allF s 0).length k { lo with state := .done, pending := some (.exit id) } W2)) := by
  refine CallsIn.mono (each_loop 3 (by decide) (q + 6) (q + 2) (q + 7) s m hz (fun outs W => WkC w q most vw z wo (allF s 0).length outs.length lo W ∧ ∀ k : Nat, 1 ≤ k → k ≤ outs.length → (k : Int) ≠ most)
    (fun W => ∃ k : Nat, 1 ≤ k ∧ k ≤ (allF s 0).length ∧ (k : Int) = most ∧ WkC w q most vw z wo (allF s 0).length k { lo with state := .done, pending := some (.exit id) } W) ?_ ?_ W hW (by omega) hbx hm ⟨h0, fun k h1 h2 => absurd h2 (by show ¬ k ≤ 0; omega)⟩) (fun e W2 h => h)
  · rintro outs A B ⟨h1, h2⟩ ho
    exact ⟨h1.off h0w ho, h2⟩
  · rintro i outs W1 tv ev hp ht ⟨h1, h2⟩ hs
    refine (hrd lo rfl i outs W1 tv ev hp ht h1 hs).mono ?_
    have hlt := pre_lt hp
    rintro e W' (⟨rfl, h3, h4, h5, h6⟩ | ⟨rfl, h3, h4⟩)
    · refine .inl ⟨rfl, ⟨by rw [List.length_append, List.length_singleton]; exact h3, ?_⟩, h5, h6⟩
      intro k hk1 hk2
      rw [List.length_append, List.length_singleton] at hk2
      rcases Nat.lt_or_ge k (outs.length + 1) with h | h
      · exact h2 k hk1 (by omega)
      · obtain rfl : k = outs.length + 1 := by omega
        exact h4
    · exact .inr ⟨rfl, _, by omega, by omega, h3, h4⟩
end Go.Proofs.YtlemnbegblpllaaDoor

namespace Go.Proofs.YtlemnbegblpllaaDoor
open Go.RowKit Go.Shelf
section
variable {P : Program} {C : World → Prop} {lp n : Nat}
theorem in_of_quiet {o : Oper} {a : Act} {K : Act → Prop} {K' : Act → World → Prop} {Q' : Exit → Act → World → Prop} {w : World} (hd : ∀ c, o.op ≠ .defer c) (hw : C w) (h : ∀ a w', C w' → K a → K' a w') (hh : o.quiet P a C K) : o.wpIn (Fence.wide.inRound lp) n P a w K' Q' := by
  obtain ⟨v, hq, hk⟩ := hh
  refine ⟨fun _ _ => trivial, ?_⟩
  rw [Fence.inRound_round, Oper.semAt_some lp _ _ hd]
  have h1 := hq w hw
  unfold Oper.quietAt at h1
  generalize (execOp a.eval o).run P w = r at h1
  match r, h1 with
  | .ok (.value u) w', h1 => obtain ⟨rfl, rfl⟩ := h1; exact h _ _ hw hk
  | .ok .skip w', h1 => obtain ⟨rfl, rfl⟩ := h1; exact h _ _ hw hk
  | .ok (.enter f args) w', h1 =>
    obtain ⟨rfl, hc⟩ := h1
    refine ⟨fun h => (by cases h), CallsIn.inRound lp (callsIn_wide.2 (hc.mono ?_))⟩
    rintro e w'' ⟨rfl, hC⟩
    exact h _ _ hC hk
def noDefer (ops : Array Oper) : Bool := ops.all fun o => match o.op with | .defer _ => false | _ => true
theorem noDefer_spec {ops : Array Oper} (h : noDefer ops = true) {i : Nat} {o : Oper} (hi : ops[i]? = some o) : ∀ c, o.op ≠ .defer c := by
  intro c e
  unfold noDefer at h
  rw [Array.all_eq_true_iff_forall_mem] at h
  have := h o (Array.mem_of_getElem? hi)
  rw [e] at this
  cases this
theorem any_of_quiet {ops : Array Oper} {md : Region.Mode} {Q : Act → Prop} {Q' : Exit → Act → World → Prop} (hd : noDefer ops = true) (hQ : ∀ a w, C w → Q a → Q' .normal a w) : ∀ (fuel : Nat) (listed : Array Bool) (a : Act) (w : World),
    C w → wpAnyQ P md ops C Q fuel listed a → wpAnyIn (Fence.wide.inRound lp) n P md ops Q' fuel listed a w
  | 0, _, _, _, hw, h => ⟨h.1, hQ _ _ hw h.2⟩
  | fuel + 1, listed, a, w, hw, h => by
    refine ⟨fun h0 => hQ _ _ hw (h.1 h0), fun i hi => ?_⟩
    have h2 := h.2 i hi
    unfold qOp at h2
    unfold wpOpIn
    cases ho : ops[i]? with
    | none => rw [ho] at h2; exact any_of_quiet hd hQ fuel _ _ _ hw h2
    | some o =>
      rw [ho] at h2
      dsimp only at h2 ⊢
      by_cases hwt : Region.wanted o (yielded ops a.tmps) = true
      · rw [if_pos hwt] at h2 ⊢
        exact in_of_quiet (noDefer_spec hd ho) hw (fun a' w' hw' hk => any_of_quiet hd hQ fuel _ a' w' hw' hk) h2
      · rw [if_neg hwt] at h2 ⊢
        exact ⟨fun _ _ => trivial, any_of_quiet hd hQ fuel _ _ _ hw h2⟩
theorem round_quiet {id : Nat} {Q : Exit → Act → World → Prop} {a : Act} {w : World} {l : List Oper} (hm : P.follows .mixedOrders = true) (hB : Region.lexB .any l.toArray = true) (hd : noDefer l.toArray = true)
    (h : wpQuiet P l.toArray (fun w' => ∃ n, w' = w.drewN n) (fun a' => ∀ w', (∃ n, w' = w.drewN n) → Q .normal a' w') l a) : (Code.region id l.toArray true).wpIn (Fence.wide.inRound lp) n P Q a w := by
  simp only [Region.lexB, Bool.and_eq_true] at hB
  refine wpIn_region_any hm (any_of_quiet (C := fun w' => ∃ n, w' = w.drewN n) (Q := fun a' => ∀ w', (∃ n, w' = w.drewN n) → Q .normal a' w') hd (fun _ w' hw' h => h w' hw') _ _ _ _ ⟨1, rfl⟩ ?_)
  have := wpAnyQ_lex (C := fun w' => ∃ n, w' = w.drewN n) (md := .any) hB.1 l 0 (Array.replicate l.toArray.size false) a (by simp) (by simpa using hB.2) h
  simpa using this
end
end Go.Proofs.YtlemnbegblpllaaDoor

/-
  Proved here: a region that leaves its order open, within a round of a loop over a function, as outside of one.
-/
import Derived.Test.YtmgbhbdcnciccaaLate4
import Derived.OrdersIn
import Derived.RangeFuncCalls
namespace Go.Proofs.Ytmgbhbdcnciccaa
open Go.RowKit
section
variable {P : Program} {lp n : Nat}
theorem in_of_wp {o : Oper} {a : Act} {K : Act → World → Prop} {Q : Exit → Act → World → Prop} {w : World} (hd : ∀ c, o.op ≠ .defer c) (h : o.wp P a w K Q) : o.wpIn (Fence.wide.inRound lp) n P a w K Q := by
  refine ⟨fun _ _ => trivial, ?_⟩
  rw [Fence.inRound_round, Oper.semAt_some lp _ _ hd]
  unfold Oper.wp at h
  generalize (execOp a.eval o).run P w = r at h ⊢
  match r, h with
  | .ok (.value u) w', h => exact h
  | .ok .skip w', h => exact h
  | .ok (.defer d) w', h => exact h
  | .ok (.enter f args) w', h => exact ⟨fun h => (by cases h), CallsIn.inRound lp (callsIn_wide.2 h)⟩
  | .ok (.row r' args) w', h => exact ⟨fun h => (by cases h), fun c cs _ => let ⟨v, w', r, s⟩ := h c cs; ⟨v, w', r, stepsIn_wide.2 s⟩⟩
  | .halt (.panic v) w', h => exact h
def noDef (ops : Array Oper) : Bool := ops.all fun o => match o.op with | .defer _ => false | _ => true
theorem noDef_spec {ops : Array Oper} (h : noDef ops = true) {i : Nat} {o : Oper} (hi : ops[i]? = some o) : ∀ c, o.op ≠ .defer c := by
  intro c e
  unfold noDef at h
  rw [Array.all_eq_true_iff_forall_mem] at h
  have := h o (Array.mem_of_getElem? hi)
  rw [e] at this
  cases this
theorem any_of_any {ops : Array Oper} {md : Region.Mode} {Q : Exit → Act → World → Prop} (hd : noDef ops = true) (hL : ¬ LetsOut Q) : ∀ (fuel : Nat) (listed : Array Bool) (a : Act) (w : World),
    wpAny P md ops Q fuel listed a w → wpAnyIn (Fence.wide.inRound lp) n P md ops Q fuel listed a w
  | 0, _, _, _, h => h
  | fuel + 1, listed, a, w, h => by
    refine ⟨h.1, fun i hi => ?_⟩
    have h2 := h.2 i hi
    unfold wpOp at h2
    unfold wpOpIn
    cases ho : ops[i]? with
    | none => rw [ho] at h2; exact any_of_any hd hL fuel _ _ _ h2
    | some o =>
      rw [ho] at h2
      dsimp only at h2 ⊢
      by_cases hwt : Region.wanted o (yielded ops a.tmps) = true
      · rw [if_pos hwt] at h2 ⊢
        rcases h2 with h2 | ⟨_, h2⟩
        · exact Oper.wpIn_mono (fun a' w' hk => any_of_any hd hL fuel _ a' w' hk) (in_of_wp (noDef_spec hd ho) h2)
        · exact absurd h2 hL
      · rw [if_neg hwt] at h2 ⊢
        exact ⟨fun _ _ => trivial, any_of_any hd hL fuel _ _ _ h2⟩
/-- A region within a round, its post named. -/
theorem round_late {id : Nat} {Q : Exit → Act → World → Prop} {R : Act → World → Prop} {a : Act} {w : World} {l : List Oper} (L : List (Nat × (World → Prop))) (hm : P.follows .mixedOrders = true) (hd : noDef l.toArray = true)
    (h : L4.wpLate P .any l.toArray (fun e b W => e = Exit.normal ∧ R b W) L l.toArray.size (Array.replicate l.toArray.size false) a w.drew) (hK : ∀ b W, R b W → Q .normal b W) : (Code.region id l.toArray true).wpIn (Fence.wide.inRound lp) n P Q a w := by
  refine wpIn_mono (wpIn_region_any hm (any_of_any hd ?_ _ _ _ _ (L4.wpLate.any _ _ _ _ h))) ?_
  · rintro ⟨_, _, h1, _⟩
    cases h1
  · rintro e b W ⟨rfl, h⟩
    exact hK b W h
/-- A region within a round, cut off. -/
theorem round_cut {id : Nat} {Q : Exit → Act → World → Prop} {a a' : Act} {w w' : World} {l : List Oper} (L : List (Nat × (World → Prop))) (hm : P.follows .mixedOrders = true) (hd : noDef l.toArray = true)
    (h : L4.wpLate P .any l.toArray (fun e b W => e = Exit.normal ∧ b = a' ∧ W = w') L l.toArray.size (Array.replicate l.toArray.size false) a w.drew) (k : Q .normal a' w') : (Code.region id l.toArray true).wpIn (Fence.wide.inRound lp) n P Q a w :=
  round_late (R := fun b W => b = a' ∧ W = w') L hm hd h (fun _ _ ⟨h1, h2⟩ => h1 ▸ h2 ▸ k)
/-- A region that makes two blocks, outside of a round, cut off. -/
theorem wide_two {id : Nat} {Q : Exit → Act → World → Prop} {a : Act} {w : World} {l : List Oper} {f : Nat → Nat → Act} {Fx : Nat → Nat → World → Prop} (L : List (Nat × (World → Prop))) (hm : P.follows .mixedOrders = true)
    (h : L4.wpLate P .any l.toArray (fun e b W => e = Exit.normal ∧ ∃ gv gw, b = f gv gw ∧ Fx gv gw W) L l.toArray.size (Array.replicate l.toArray.size false) a w.drew) (k : ∀ gv gw W, Fx gv gw W → Q .normal (f gv gw) W) : (Code.region id l.toArray true).wpIn Fence.wide n P Q a w := by
  refine wpIn_mono (wpIn_wide.2 (L4.region_late L hm h)) ?_
  rintro e b W ⟨rfl, gv, gw, rfl, h⟩
  exact k gv gw W h
end
end Go.Proofs.Ytmgbhbdcnciccaa

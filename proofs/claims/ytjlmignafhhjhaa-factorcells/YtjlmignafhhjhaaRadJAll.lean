/-
  Proved here: a region that leaves its order open, within a round of a loop over a function, as outside of one.
  Proved here: plain mathematics: the digits of the next place. No condition.
  Proved here: rows of numbers that are a call's own, appended to; a list of ints that was handed in; the law's bases.
  Proved here: an append of any row that can be read to a row of the call's own.
  Proved here: RadixBack answers true.
  Proved here: the law's roomy, kept, plain, same at the three types.
  Proved here: the document's Count, At, Digits; the law's narrow and tiny.
  Proved here: the document's Digits; the law's narrow and tiny.
-/
import Derived.Test.YtjlmignafhhjhaaLate4
import Derived.OrdersIn
import Derived.RangeFuncCalls
import Derived.Test.YtjlmignafhhjhaaRadMath
import Derived.Test.YtjlmignafhhjhaaRadEAll
import Derived.OwnWalk
import Derived.OpenShut
import Derived.Laws.AppendOwnNone
namespace Go.Proofs.Ytjlmignafhhjhaa
open Go.RowKit
section
variable {P : Program} {lp n : Nat}
theorem in_of_wp {o : Oper} {a : Act} {K : Act → World → Prop} {Q : Exit → Act → World → Prop} {w : World} (hd : ∀ c, o.op ≠ .defer c) (h : o.wp P a w K Q) : o.wpIn (Fence.wide.inRound lp) n P a w K Q := by
  refine ⟨fun _ _ => trivial, ?_⟩
  rw [Fence.inRound_round, Oper.semAt_some lp _ _ hd]
  unfold Oper.wp at h
  generalize (execOp a.eval o).run P w = r at h ⊢
  match r, h with
  | .ok (.value u) w', h => exact h
  | .ok .skip w', h => exact h
  | .ok (.defer d) w', h => exact h
  | .ok (.enter f args) w', h => exact ⟨fun h => (by cases h), CallsIn.inRound lp (callsIn_wide.2 h)⟩
  | .ok (.row r' args) w', h => exact ⟨fun h => (by cases h), fun c cs _ => let ⟨v, w', r, s⟩ := h c cs; ⟨v, w', r, stepsIn_wide.2 s⟩⟩
  | .halt (.panic v) w', h => exact h
def noDef (ops : Array Oper) : Bool := ops.all fun o => match o.op with | .defer _ => false | _ => true
theorem noDef_spec {ops : Array Oper} (h : noDef ops = true) {i : Nat} {o : Oper} (hi : ops[i]? = some o) : ∀ c, o.op ≠ .defer c := by
  intro c e
  unfold noDef at h
  rw [Array.all_eq_true_iff_forall_mem] at h
  have := h o (Array.mem_of_getElem? hi)
  rw [e] at this
  cases this
theorem any_of_any {ops : Array Oper} {md : Region.Mode} {Q : Exit → Act → World → Prop} (hd : noDef ops = true) (hL : ¬ LetsOut Q) : ∀ (fuel : Nat) (listed : Array Bool) (a : Act) (w : World),
    wpAny P md ops Q fuel listed a w → wpAnyIn (Fence.wide.inRound lp) n P md ops Q fuel listed a w
  | 0, _, _, _, h => h
  | fuel + 1, listed, a, w, h => by
    refine ⟨h.1, fun i hi => ?_⟩
    have h2 := h.2 i hi
    unfold wpOp at h2
    unfold wpOpIn
    cases ho : ops[i]? with
    | none => rw [ho] at h2; exact any_of_any hd hL fuel _ _ _ h2
    | some o =>
      rw [ho] at h2
      dsimp only at h2 ⊢
      by_cases hwt : Region.wanted o (yielded ops a.tmps) = true
      · rw [if_pos hwt] at h2 ⊢
        rcases h2 with h2 | ⟨_, h2⟩
        · exact Oper.wpIn_mono (fun a' w' hk => any_of_any hd hL fuel _ a' w' hk) (in_of_wp (noDef_spec hd ho) h2)
        · exact absurd h2 hL
      · rw [if_neg hwt] at h2 ⊢
        exact ⟨fun _ _ => trivial, any_of_any hd hL fuel _ _ _ h2⟩
/-- A region within a round, its post named. -/
theorem round_late {id : Nat} {Q : Exit → Act → World → Prop} {R : Act → World → Prop} {a : Act} {w : World} {l : List Oper} (L : List (Nat × (World → Prop))) (hm : P.follows .mixedOrders = true) (hd : noDef l.toArray = true)
    (h : L4.wpLate P .any l.toArray (fun e b W => e = Exit.normal ∧ R b W) L l.toArray.size (Array.replicate l.toArray.size false) a w.drew) (hK : ∀ b W, R b W → Q .normal b W) : (Code.region id l.toArray true).wpIn (Fence.wide.inRound lp) n P Q a w := by
  refine wpIn_mono (wpIn_region_any hm (any_of_any hd ?_ _ _ _ _ (L4.wpLate.any _ _ _ _ h))) ?_
  · rintro ⟨_, _, h1, _⟩
    cases h1
  · rintro e b W ⟨rfl, h⟩
    exact hK b W h
/-- A region within a round, cut off. -/
theorem round_cut {id : Nat} {Q : Exit → Act → World → Prop} {a a' : Act} {w w' : World} {l : List Oper} (L : List (Nat × (World → Prop))) (hm : P.follows .mixedOrders = true) (hd : noDef l.toArray = true)
    (h : L4.wpLate P .any l.toArray (fun e b W => e = Exit.normal ∧ b = a' ∧ W = w') L l.toArray.size (Array.replicate l.toArray.size false) a w.drew) (k : Q .normal a' w') : (Code.region id l.toArray true).wpIn (Fence.wide.inRound lp) n P Q a w :=
  round_late (R := fun b W => b = a' ∧ W = w') L hm hd h (fun _ _ ⟨h1, h2⟩ => h1 ▸ h2 ▸ k)
/-- A region that makes two blocks, outside of a round, cut off. -/
theorem wide_two {id : Nat} {Q : Exit → Act → World → Prop} {a : Act} {w : World} {l : List Oper} {f : Nat → Nat → Act} {Fx : Nat → Nat → World → Prop} (L : List (Nat × (World → Prop))) (hm : P.follows .mixedOrders = true)
    (h : L4.wpLate P .any l.toArray (fun e b W => e = Exit.normal ∧ ∃ gv gw, b = f gv gw ∧ Fx gv gw W) L l.toArray.size (Array.replicate l.toArray.size false) a w.drew) (k : ∀ gv gw W, Fx gv gw W → Q .normal (f gv gw) W) : (Code.region id l.toArray true).wpIn Fence.wide n P Q a w := by
  refine wpIn_mono (wpIn_wide.2 (L4.region_late L hm h)) ?_
  rintro e b W ⟨rfl, gv, gw, rfl, h⟩
  exact k gv gw W h
end
end Go.Proofs.Ytjlmignafhhjhaa

namespace Go.Proofs.Ytjlmignafhhjhaa

section
variable {ss : List Int} {a : Int}
end
end Go.Proofs.Ytjlmignafhhjhaa

namespace Go.Proofs.Ytjlmignafhhjhaa
open Go.RowKit Go.Shelf

theorem rk_of_ints {W : World} {x : Addr} {len cap : Nat} {zs : List Int} (hl : len ≤ cap) (hm : cap ≤ maxLen) (hz : zs.length = cap)
    (hcell : ∀ i, i < zs.length → W.cell? (x.add i) = some (.int .i64 (zs.getD i 0))) (hwz : ∀ n ∈ zs, (Lit.int .i64 n).wf = true) : ∃ ys, ys.length = len ∧ RK .i64 W (.slice (some x) len cap) ys := by
  have hlen : (zs.take len).length = len := by simp; omega
  have hget : ∀ i, i < len → (zs.take len).getD i 0 = zs.getD i 0 := fun i hi => by
    rw [List.getD_eq_getElem?_getD, List.getD_eq_getElem?_getD, List.getElem?_take_of_lt hi]
  refine ⟨zs.take len, hlen, some x, cap, by rw [hlen], by rw [hlen]; exact hl, hm, fun h => by simp at h, fun i hi => ?_, fun i hi => ?_⟩
  · rw [hlen] at hi
    rw [hget i hi]
    have hiz : i < zs.length := by omega
    have h1 := hwz _ (List.getElem_mem hiz)
    have h1 : IntKind.i64.min ≤ zs[i] ∧ zs[i] ≤ IntKind.i64.max := by simpa [Lit.wf] using h1
    rw [List.getD_eq_getElem?_getD, List.getElem?_eq_getElem hiz]
    exact h1
  · rw [hlen] at hi
    have hc := hcell i (by omega)
    obtain ⟨b, off, spot⟩ := x
    have hspot : spot = none := by
      have := World.cell?_spot (hcell 0 (by omega))
      simpa [Addr.add] using this
    subst hspot
    refine ⟨b, off, rfl, ?_⟩
    rw [Addr.add_lit] at hc
    rw [hc, hget i hi]
end Go.Proofs.Ytjlmignafhhjhaa

namespace Go.Proofs.Ytjlmignafhhjhaa
open Go.RowKit Go.Shelf

end Go.Proofs.Ytjlmignafhhjhaa

namespace Go.Proofs.Ytjlmignafhhjhaa
open Go.RowKit Go.Shelf

end Go.Proofs.Ytjlmignafhhjhaa

namespace Go.Proofs.Ytjlmignafhhjhaa
open Go.RowKit Go.Shelf

end Go.Proofs.Ytjlmignafhhjhaa

namespace Go.Proofs.Ytjlmignafhhjhaa
open Go.RowKit Go.Shelf

end Go.Proofs.Ytjlmignafhhjhaa

namespace Go.Proofs.Ytjlmignafhhjhaa
open Go.RowKit Go.Shelf

theorem wpList_zeros {P : Program} (w : World) {ops : Array Oper} {rest : List Oper} {o : Oper} {a : Act} {Q : Exit → Act → World → Prop}
    (hg : o.guard = none) (l c : Operand) (t : TypeId) (hop : o.op = Op.makeSlice t l c)
    (e : TypeId) (i : TypeInfo) (k : IntKind) (h1 : P.underlying t = some (.slice e)) (h2 : P.info? e = some i) (h3 : i.zero = some (.int k 0)) (h4 : i.size = 1)
    (kl kc : IntKind) (m : Nat) (hl : a.eval l = .int kl (m : Int)) (hc : a.eval c = .int kc (m : Int)) (b2 : i.bytes * m ≤ 281474976710656) (b3 : m ≤ 9223372036854775807)
    (hK : wpList P ops Q rest (a.put o.dst (.slice (some ⟨w.heap.size, 0, none⟩) m m)) (w.alloc (.cells (Array.replicate m (.int k 0)) e))) :
    wpList P ops Q (o :: rest) a w := by
  refine wpList_plain hg fun K hK' => ?_
  have hb' : (i.bytes : Int) * (m : Int) ≤ 281474976710656 := by
    have h : ((i.bytes * m : Nat) : Int) ≤ 281474976710656 := by omega
    rwa [Int.natCast_mul] at h
  have hrun := run_make (P := P) w t e i (.int k 0) h1 h2 h3 kl kc m m (by omega) (Int.le_refl _) hb' (by omega)
  simp only [Int.toNat_natCast, h4, Nat.mul_one, Value.cells] at hrun
  rw [made_row] at hrun
  unfold Oper.wp
  simp [execOp, hop, hl, hc, hrun, Result.andThen]
  exact hK' _ _ hK
end Go.Proofs.Ytjlmignafhhjhaa

/-
  Proved here: a region that leaves its order open, within a round of a loop over a function, as outside of one.
  Proved here: the methods of sort.IntSlice: Len, Less, Swap over a row of the call's own.
-/
import Derived.Test.YtcoiapgfaibkgabGreatLate4
import Derived.OrdersIn
import Derived.RangeFuncCalls
import Derived.Test.YtcoiapgfaibkgabGreatHeapMathAll
import Derived.Test.YtcoiapgfaibkgabGreatRadMathAll
import Derived.Test.YtcoiapgfaibkgabGreatMemAll
import Derived.Deep.CutRange
import Derived.Deep.LoopGhost
namespace Go.Proofs.YtcoiapgfaibkgabGreat
open Go.RowKit
section
variable {P : Program} {lp n : Nat}
theorem in_of_wp {o : Oper} {a : Act} {K : Act → World → Prop} {Q : Exit → Act → World → Prop} {w : World} (hd : ∀ c, o.op ≠ .defer c) (h : o.wp P a w K Q) : o.wpIn (Fence.wide.inRound lp) n P a w K Q := by
  refine ⟨fun _ _ => trivial, ?_⟩
  rw [Fence.inRound_round, Oper.semAt_some lp _ _ hd]
  unfold Oper.wp at h
  generalize (execOp a.eval o).run P w = r at h ⊢
  match r, h with
  | .ok (.value u) w', h => exact h
  | .ok .skip w', h => exact h
  | .ok (.defer d) w', h => exact h
  | .ok (.enter f args) w', h => exact ⟨fun h => (by cases h), CallsIn.inRound lp (callsIn_wide.2 h)⟩
  | .ok (.row r' args) w', h => exact ⟨fun h => (by cases h), fun c cs _ => let ⟨v, w', r, s⟩ := h c cs; ⟨v, w', r, stepsIn_wide.2 s⟩⟩
  | .halt (.panic v) w', h => exact h
def noDef (ops : Array Oper) : Bool := ops.all fun o => match o.op with | .defer _ => false | _ => true
theorem noDef_spec {ops : Array Oper} (h : noDef ops = true) {i : Nat} {o : Oper} (hi : ops[i]? = some o) : ∀ c, o.op ≠ .defer c := by
  intro c e
  unfold noDef at h
  rw [Array.all_eq_true_iff_forall_mem] at h
  have := h o (Array.mem_of_getElem? hi)
  rw [e] at this
  cases this
theorem any_of_any {ops : Array Oper} {md : Region.Mode} {Q : Exit → Act → World → Prop} (hd : noDef ops = true) (hL : ¬ LetsOut Q) : ∀ (fuel : Nat) (listed : Array Bool) (a : Act) (w : World),
    wpAny P md ops Q fuel listed a w → wpAnyIn (Fence.wide.inRound lp) n P md ops Q fuel listed a w
  | 0, _, _, _, h => h
  | fuel + 1, listed, a, w, h => by
    refine ⟨h.1, fun i hi => ?_⟩
    have h2 := h.2 i hi
    unfold wpOp at h2
    unfold wpOpIn
    cases ho : ops[i]? with
    | none => rw [ho] at h2; exact any_of_any hd hL fuel _ _ _ h2
    | some o =>
      rw [ho] at h2
      dsimp only at h2 ⊢
      by_cases hwt : Region.wanted o (yielded ops a.tmps) = true
      · rw [if_pos hwt] at h2 ⊢
        rcases h2 with h2 | ⟨_, h2⟩
        · exact Oper.wpIn_mono (fun a' w' hk => any_of_any hd hL fuel _ a' w' hk) (in_of_wp (noDef_spec hd ho) h2)
        · exact absurd h2 hL
      · rw [if_neg hwt] at h2 ⊢
        exact ⟨fun _ _ => trivial, any_of_any hd hL fuel _ _ _ h2⟩
/-- A region within a round, its post named. -/
theorem round_late {id : Nat} {Q : Exit → Act → World → Prop} {R : Act → World → Prop} {a : Act} {w : World} {l : List Oper} (L : List (Nat × (World → Prop))) (hm : P.follows .mixedOrders = true) (hd : noDef l.toArray = true)
    (h : L4.wpLate P .any l.toArray (fun e b W => e = Exit.normal ∧ R b W) L l.toArray.size (Array.replicate l.toArray.size false) a w.drew) (hK : ∀ b W, R b W → Q .normal b W) : (Code.region id l.toArray true).wpIn (Fence.wide.inRound lp) n P Q a w := by
  refine wpIn_mono (wpIn_region_any hm (any_of_any hd ?_ _ _ _ _ (L4.wpLate.any _ _ _ _ h))) ?_
  · rintro ⟨_, _, h1, _⟩
    cases h1
  · rintro e b W ⟨rfl, h⟩
    exact hK b W h
/-- A region within a round, cut off. -/
theorem round_cut {id : Nat} {Q : Exit → Act → World → Prop} {a a' : Act} {w w' : World} {l : List Oper} (L : List (Nat × (World → Prop))) (hm : P.follows .mixedOrders = true) (hd : noDef l.toArray = true)
    (h : L4.wpLate P .any l.toArray (fun e b W => e = Exit.normal ∧ b = a' ∧ W = w') L l.toArray.size (Array.replicate l.toArray.size false) a w.drew) (k : Q .normal a' w') : (Code.region id l.toArray true).wpIn (Fence.wide.inRound lp) n P Q a w :=
  round_late (R := fun b W => b = a' ∧ W = w') L hm hd h (fun _ _ ⟨h1, h2⟩ => h1 ▸ h2 ▸ k)
/-- A region that makes two blocks, outside of a round, cut off. -/
theorem wide_two {id : Nat} {Q : Exit → Act → World → Prop} {a : Act} {w : World} {l : List Oper} {f : Nat → Nat → Act} {Fx : Nat → Nat → World → Prop} (L : List (Nat × (World → Prop))) (hm : P.follows .mixedOrders = true)
    (h : L4.wpLate P .any l.toArray (fun e b W => e = Exit.normal ∧ ∃ gv gw, b = f gv gw ∧ Fx gv gw W) L l.toArray.size (Array.replicate l.toArray.size false) a w.drew) (k : ∀ gv gw W, Fx gv gw W → Q .normal (f gv gw) W) : (Code.region id l.toArray true).wpIn Fence.wide n P Q a w := by
  refine wpIn_mono (wpIn_wide.2 (L4.region_late L hm h)) ?_
  rintro e b W ⟨rfl, gv, gw, rfl, h⟩
  exact k gv gw W h
end
end Go.Proofs.YtcoiapgfaibkgabGreat

namespace Go.Proofs.YtcoiapgfaibkgabGreat
set_option linter.unusedVariables false
open Go.RowKit
theorem getD_some {L : List Int} {i : Nat} (h : i < L.length) : L[i]? = some (L.getD i 0) := by simp [List.getD_eq_getElem?_getD, h]
set_option maxRecDepth 100000 in
set_option maxHeartbeats 1600000 in
theorem lnLen (o : Option Addr) (n cap : Nat) (w : World) :
    Calls Tryz.prog 87 #[.slice o n cap] w fun e w' => e = .returned (.int .i64 n) ∧ w' = w := by
  go_enter Tryz.func87, Tryz.ntmps87
  go_wp2
  go_ret
  exact ⟨rfl, rfl⟩
set_option maxRecDepth 100000 in
set_option maxHeartbeats 1600000 in
theorem lnLess (g n cap : Nat) (L : List Int) (i j : Nat) (w : World) (h : RG (Value.int .i64) w (.slice (some ⟨g, 0, none⟩) n cap) L) (hi : i < n) (hj : j < n) :
    Calls Tryz.prog 152 #[.slice (some ⟨g, 0, none⟩) n cap, .int .i64 i, .int .i64 j] w fun e w' => e = .returned (.bool (decide (L.getD i 0 < L.getD j 0))) ∧ ∃ q, w' = w.drewN q := by
  have hl := h.len
  have hcap := h.room
  unfold maxLen at hcap
  obtain ⟨x, g1, o1, e1, e2, c0⟩ := h.at hi
  obtain ⟨y, g2, o2, e3, e4, c1⟩ := h.at hj
  simp only [Option.some.injEq, Addr.mk.injEq, and_true] at e2 e4
  obtain ⟨rfl, rfl⟩ := e2
  obtain ⟨rfl, rfl⟩ := e4
  rw [Nat.zero_add] at c0 c1
  have f1 : L.getD i 0 = x := by rw [List.getD_eq_getElem?_getD, e1]; rfl
  have f2 : L.getD j 0 = y := by rw [List.getD_eq_getElem?_getD, e3]; rfl
  rw [f1, f2]
  clear f1 f2 e1 e3 h hl
  have hiz : (i : Int) < (n : Int) := by omega
  have hjz : (j : Int) < (n : Int) := by omega
  go_enter Tryz.func152, Tryz.ntmps152
  go_wp2
  go_quiet (fail)
  go_wp2
  go_ret
  exact ⟨rfl, _, rfl⟩
set_option maxRecDepth 100000 in
set_option maxHeartbeats 3200000 in
theorem lnSwap (B0 g n cap : Nat) (L : List Int) (i j : Nat) (w : World) (h : OG (Value.int .i64) B0 3 w (.slice (some ⟨g, 0, none⟩) n cap) L) (hi : i < n) (hj : j < n) :
    Calls Tryz.prog 154 #[.slice (some ⟨g, 0, none⟩) n cap, .int .i64 i, .int .i64 j] w fun e w' => e = .returned (.tuple #[]) ∧ OG (Value.int .i64) B0 3 w' (.slice (some ⟨g, 0, none⟩) n cap) (swp L i j) ∧ w.grownBy w' (some g) := by
  have hl : L.length = n := h.rg.len
  obtain ⟨x, hx⟩ : ∃ x, x = L.getD i 0 := ⟨_, rfl⟩
  obtain ⟨y, hy⟩ : ∃ y, y = L.getD j 0 := ⟨_, rfl⟩
  have ex : L[i]? = some x := by rw [hx]; exact getD_some (by omega)
  have ey : L[j]? = some y := by rw [hy]; exact getD_some (by omega)
  have HS : Hid (swp L i j = (L.set i y).set j x) := by show _ = _; unfold swp; rw [← hx, ← hy]
  have hset := fun (W : World) (hW : OG (Value.int .i64) B0 3 W (.slice (some ⟨g, 0, none⟩) n cap) L) => hW.set hl i y
  have hset2 := fun (W : World) (hW : OG (Value.int .i64) B0 3 W (.slice (some ⟨g, 0, none⟩) n cap) (L.set i y)) => hW.set (by rw [List.length_set]; exact hl) j x
  have HO : Hid (OG (Value.int .i64) B0 3 w (.slice (some ⟨g, 0, none⟩) n cap) L) := h
  have HE : Hid (L[i]? = some x ∧ L[j]? = some y ∧ L.length = n) := ⟨ex, ey, hl⟩
  have HT1 : Hid (∀ W, OG (Value.int .i64) B0 3 W (.slice (some ⟨g, 0, none⟩) n cap) L → OG (Value.int .i64) B0 3 (W.setCell ⟨g, i, none⟩ (.int .i64 y)) (.slice (some ⟨g, 0, none⟩) n cap) (L.set i y) ∧ W.grownBy (W.setCell ⟨g, i, none⟩ (.int .i64 y)) (some g)) := hset
  have HT2 : Hid (∀ W, OG (Value.int .i64) B0 3 W (.slice (some ⟨g, 0, none⟩) n cap) (L.set i y) → OG (Value.int .i64) B0 3 (W.setCell ⟨g, j, none⟩ (.int .i64 x)) (.slice (some ⟨g, 0, none⟩) n cap) ((L.set i y).set j x) ∧ W.grownBy (W.setCell ⟨g, j, none⟩ (.int .i64 x)) (some g)) := hset2
  have c0 := (h.cell ex).1
  have c1 := (h.cell ey).1
  clear hx hy ex ey hset hset2 h hl
  have hiz : (i : Int) < (n : Int) := by omega
  have hjz : (j : Int) < (n : Int) := by omega
  go_enter Tryz.func154, Tryz.ntmps154
  go_upto_region 0 with fail
  have KEEP : ∀ u, Below w.heap.size w u → L4.AllL u [(7, fun w' => w'.cell? ⟨g, j, none⟩ = some (.int .i64 y)), (11, fun w' => w'.cell? ⟨g, i, none⟩ = some (.int .i64 x))] := fun u hu => ⟨keepR hu c1, keepR hu c0, trivial⟩
  refine L4.region_late [(7, fun w' => w'.cell? ⟨g, j, none⟩ = some (.int .i64 y)), (11, fun w' => w'.cell? ⟨g, i, none⟩ = some (.int .i64 x))] (by kernel_rfl) ?_
  have B : Below w.heap.size w w.drew := (Below.refl _ _).drew
  obtain ⟨w1, hw1⟩ : ∃ u, u = w.drew := ⟨_, rfl⟩
  rw [← hw1] at B ⊢
  clear hw1
  have hHeld := KEEP _ B
  refine L4.late_free 0 (v := .slice (some ⟨g, 0, none⟩) n cap) rfl (by kernel_rfl) (by kernel_rfl) (by kernel_rfl) (by kernel_rfl) (by kernel_rfl) (by kernel_rfl) (fun _ _ _ h => h) (Or.inl ⟨by rfl, ?_⟩) hHeld ?_
  · (intro u _; go_simp)
  (try simp only [Act.put, List.setIfInBounds_toArray, List.set_cons_zero, List.set_cons_succ])
  refine L4.late_free 1 (v := .int .i64 ((i : Nat) : Int)) rfl (by kernel_rfl) (by kernel_rfl) (by kernel_rfl) (by kernel_rfl) (by kernel_rfl) (by kernel_rfl) (fun _ _ _ h => h) (Or.inl ⟨by rfl, ?_⟩) hHeld ?_
  · (intro u _; go_simp)
  (try simp only [Act.put, List.setIfInBounds_toArray, List.set_cons_zero, List.set_cons_succ])
  refine L4.late_free 2 (v := .slice (some ⟨g, 0, none⟩) n cap) rfl (by kernel_rfl) (by kernel_rfl) (by kernel_rfl) (by kernel_rfl) (by kernel_rfl) (by kernel_rfl) (fun _ _ _ h => h) (Or.inl ⟨by rfl, ?_⟩) hHeld ?_
  · (intro u _; go_simp)
  (try simp only [Act.put, List.setIfInBounds_toArray, List.set_cons_zero, List.set_cons_succ])
  refine L4.late_free 3 (v := .int .i64 ((j : Nat) : Int)) rfl (by kernel_rfl) (by kernel_rfl) (by kernel_rfl) (by kernel_rfl) (by kernel_rfl) (by kernel_rfl) (fun _ _ _ h => h) (Or.inl ⟨by rfl, ?_⟩) hHeld ?_
  · (intro u _; go_simp)
  (try simp only [Act.put, List.setIfInBounds_toArray, List.set_cons_zero, List.set_cons_succ])
  refine L4.late_free 4 (v := .slice (some ⟨g, 0, none⟩) n cap) rfl (by kernel_rfl) (by kernel_rfl) (by kernel_rfl) (by kernel_rfl) (by kernel_rfl) (by kernel_rfl) (fun _ _ _ h => h) (Or.inl ⟨by rfl, ?_⟩) hHeld ?_
  · (intro u _; go_simp)
  (try simp only [Act.put, List.setIfInBounds_toArray, List.set_cons_zero, List.set_cons_succ])
  refine L4.late_free 5 (v := .int .i64 ((j : Nat) : Int)) rfl (by kernel_rfl) (by kernel_rfl) (by kernel_rfl) (by kernel_rfl) (by kernel_rfl) (by kernel_rfl) (fun _ _ _ h => h) (Or.inl ⟨by rfl, ?_⟩) hHeld ?_
  · (intro u _; go_simp)
  (try simp only [Act.put, List.setIfInBounds_toArray, List.set_cons_zero, List.set_cons_succ])
  refine L4.late_free 6 (v := .pointer (some ⟨g, j, none⟩)) rfl (by kernel_rfl) (by kernel_rfl) (by kernel_rfl) (by kernel_rfl) (by kernel_rfl) (by kernel_rfl) (fun _ _ _ h => h) (Or.inl ⟨by rfl, ?_⟩) hHeld ?_
  · (intro u _; go_simp)
  (try simp only [Act.put, List.setIfInBounds_toArray, List.set_cons_zero, List.set_cons_succ])
  refine L4.late_take 7 (v := .int .i64 y) rfl (by kernel_rfl) (List.Mem.head _) (by kernel_rfl) (by kernel_rfl) (by kernel_rfl) (by kernel_rfl) (fun _ _ _ h => h) (Or.inl ⟨by rfl, ?_⟩) hHeld ?_
  · (intro u hu; (try dsimp only at hu); go_split_ands; go_simp)
  (try simp only [Act.put, List.setIfInBounds_toArray, List.set_cons_zero, List.set_cons_succ])
  refine L4.late_free 8 (v := .slice (some ⟨g, 0, none⟩) n cap) rfl (by kernel_rfl) (by kernel_rfl) (by kernel_rfl) (by kernel_rfl) (by kernel_rfl) (by kernel_rfl) (fun _ _ _ h => h) (Or.inl ⟨by rfl, ?_⟩) hHeld ?_
  · (intro u _; go_simp)
  (try simp only [Act.put, List.setIfInBounds_toArray, List.set_cons_zero, List.set_cons_succ])
  refine L4.late_free 9 (v := .int .i64 ((i : Nat) : Int)) rfl (by kernel_rfl) (by kernel_rfl) (by kernel_rfl) (by kernel_rfl) (by kernel_rfl) (by kernel_rfl) (fun _ _ _ h => h) (Or.inl ⟨by rfl, ?_⟩) hHeld ?_
  · (intro u _; go_simp)
  (try simp only [Act.put, List.setIfInBounds_toArray, List.set_cons_zero, List.set_cons_succ])
  refine L4.late_free 10 (v := .pointer (some ⟨g, i, none⟩)) rfl (by kernel_rfl) (by kernel_rfl) (by kernel_rfl) (by kernel_rfl) (by kernel_rfl) (by kernel_rfl) (fun _ _ _ h => h) (Or.inl ⟨by rfl, ?_⟩) hHeld ?_
  · (intro u _; go_simp)
  (try simp only [Act.put, List.setIfInBounds_toArray, List.set_cons_zero, List.set_cons_succ])
  refine L4.late_take 11 (v := .int .i64 x) rfl (by kernel_rfl) (List.Mem.tail _ (List.Mem.head _)) (by kernel_rfl) (by kernel_rfl) (by kernel_rfl) (by kernel_rfl) (fun _ _ _ h => h) (Or.inl ⟨by rfl, ?_⟩) hHeld ?_
  · (intro u hu; (try dsimp only at hu); go_split_ands; go_simp)
  (try simp only [Act.put, List.setIfInBounds_toArray, List.set_cons_zero, List.set_cons_succ])
  refine L4.late_free 12 (v := .pointer (some ⟨g, i, none⟩)) rfl (by kernel_rfl) (by kernel_rfl) (by kernel_rfl) (by kernel_rfl) (by kernel_rfl) (by kernel_rfl) (fun _ _ _ h => h) (Or.inl ⟨by rfl, ?_⟩) hHeld ?_
  · (intro u _; go_simp)
  (try simp only [Act.put, List.setIfInBounds_toArray, List.set_cons_zero, List.set_cons_succ])
  refine L4.late_step 13 (by kernel_rfl) rfl (fun K hK => ?_)
  have hO1 := HO.out.below B
  obtain ⟨k0, z0⟩ := hO1.cell HE.out.1
  go_simp
  refine hK.out _ _ ⟨Or.inl ⟨13, by kernel_rfl, by kernel_rfl⟩, Or.inl ⟨13, by kernel_rfl, by kernel_rfl⟩, trivial⟩ ?_
  clear hK K
  (try simp only [Act.put, List.setIfInBounds_toArray, List.set_cons_zero, List.set_cons_succ])
  refine L4.late_step 14 (by kernel_rfl) rfl (fun K hK => ?_)
  go_simp
  refine hK.out _ _ ⟨Or.inl ⟨13, by kernel_rfl, by kernel_rfl⟩, Or.inl ⟨13, by kernel_rfl, by kernel_rfl⟩, trivial⟩ ?_
  clear hK K
  (try simp only [Act.put, List.setIfInBounds_toArray, List.set_cons_zero, List.set_cons_succ])
  refine L4.late_step 15 (by kernel_rfl) rfl (fun K hK => ?_)
  clear k0 z0
  have hO2 := (HT1.out _ hO1).1
  obtain ⟨v2, hv2⟩ : ∃ v, (L.set i y)[j]? = some v := ⟨_, List.getElem?_eq_getElem (by rw [List.length_set, HE.out.2.2]; exact hj)⟩
  obtain ⟨k0, z0⟩ := hO2.cell hv2
  go_simp
  refine hK.out _ _ ⟨Or.inl ⟨15, by kernel_rfl, by kernel_rfl⟩, Or.inl ⟨15, by kernel_rfl, by kernel_rfl⟩, trivial⟩ ?_
  clear hK K
  (try simp only [Act.put, List.setIfInBounds_toArray, List.set_cons_zero, List.set_cons_succ])
  refine L4.late_done (by kernel_rfl) ?_ _
  clear KEEP k0 z0
  have h1 := HT1.out _ hO1
  have h2 := HT2.out _ h1.1
  have hg1 : w.grownBy w1 (some g) := ⟨B.os, B.tape, B.output, B.size, fun q hq _ => B.block q hq⟩
  have HR : Hid (OG (Value.int .i64) B0 3 ((w1.setCell ⟨g, i, none⟩ (.int .i64 y)).setCell ⟨g, j, none⟩ (.int .i64 x)) (.slice (some ⟨g, 0, none⟩) n cap) (swp L i j) ∧ w.grownBy ((w1.setCell ⟨g, i, none⟩ (.int .i64 y)).setCell ⟨g, j, none⟩ (.int .i64 x)) (some g)) := by
    refine ⟨by rw [HS.out]; exact h2.1, ?_⟩
    exact ⟨h2.2.os.trans (h1.2.os.trans hg1.os), h2.2.tape.trans (h1.2.tape.trans hg1.tape), h2.2.output.trans (h1.2.output.trans hg1.output), Nat.le_trans hg1.size (Nat.le_trans h1.2.size h2.2.size), fun q hq hr => (h2.2.block q (Nat.lt_of_lt_of_le hq (Nat.le_trans hg1.size h1.2.size)) hr).trans ((h1.2.block q (Nat.lt_of_lt_of_le hq hg1.size) hr).trans (hg1.block q hq hr))⟩
  clear h1 h2 hg1 hO1 hO2 c0 c1 v2 hv2
  go_wp2
  go_end0
  exact ⟨rfl, HR.out⟩
end Go.Proofs.YtcoiapgfaibkgabGreat

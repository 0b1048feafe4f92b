/-
  Proved here: a region that leaves its order open, within a round of a loop over a function, as outside of one.
  Proved here: the methods of sort.IntSlice: Len, Less, Swap over a row of the call's own.
  Proved here: which method package heap reaches through a line of points.
  Proved here: container/heap's up over a line of points.
  Proved here: container/heap's down over a line of points.
-/
import Derived.Test.YthdpomgpcblpeaaGreatLate4
import Derived.OrdersIn
import Derived.RangeFuncCalls
import Derived.Test.YthdpomgpcblpeaaGreatHeapMathAll
import Derived.Test.YthdpomgpcblpeaaGreatRadMathAll
import Derived.Test.YthdpomgpcblpeaaGreatMemAll
import Derived.Deep.CutRange
import Derived.Deep.LoopGhost
namespace Go.Proofs.YthdpomgpcblpeaaGreat
open Go.RowKit
section
variable {P : Program} {lp n : Nat}
theorem in_of_wp {o : Oper} {a : Act} {K : Act → World → Prop} {Q : Exit → Act → World → Prop} {w : World} (hd : ∀ c, o.op ≠ .defer c) (h : o.wp P a w K Q) : o.wpIn (Fence.wide.inRound lp) n P a w K Q := by
  refine ⟨fun _ _ => trivial, ?_⟩
  rw [Fence.inRound_round, Oper.semAt_some lp _ _ hd]
  unfold Oper.wp at h
  generalize (execOp a.eval o).run P w = r at h ⊢
  match r, h with
  | .ok (.value u) w', h => exact h
  | .ok .skip w', h => exact h
  | .ok (.defer d) w', h => exact h
  | .ok (.enter f args) w', h => exact ⟨fun h => (by cases h), CallsIn.inRound lp (callsIn_wide.2 h)⟩
  | .ok (.row r' args) w', h => exact ⟨fun h => (by cases h), fun c cs _ => let ⟨v, w', r, s⟩ := h c cs; ⟨v, w', r, stepsIn_wide.2 s⟩⟩
  | .halt (.panic v) w', h => exact h
def noDef (ops : Array Oper) : Bool := ops.all fun o => match o.op with | .defer _ => false | _ => true
theorem noDef_spec {ops : Array Oper} (h : noDef ops = true) {i : Nat} {o : Oper} (hi : ops[i]? = some o) : ∀ c, o.op ≠ .defer c := by
  intro c e
  unfold noDef at h
  rw [Array.all_eq_true_iff_forall_mem] at h
  have := h o (Array.mem_of_getElem? hi)
  rw [e] at this
  cases this
theorem any_of_any {ops : Array Oper} {md : Region.Mode} {Q : Exit → Act → World → Prop} (hd : noDef ops = true) (hL : ¬ LetsOut Q) : ∀ (fuel : Nat) (listed : Array Bool) (a : Act) (w : World),
    wpAny P md ops Q fuel listed a w → wpAnyIn (Fence.wide.inRound lp) n P md ops Q fuel listed a w
  | 0, _, _, _, h => h
  | fuel + 1, listed, a, w, h => by
    refine ⟨h.1, fun i hi => ?_⟩
    have h2 := h.2 i hi
    unfold wpOp at h2
    unfold wpOpIn
    cases ho : ops[i]? with
    | none => rw [ho] at h2; exact any_of_any hd hL fuel _ _ _ h2
    | some o =>
      rw [ho] at h2
      dsimp only at h2 ⊢
      by_cases hwt : Region.wanted o (yielded ops a.tmps) = true
      · rw [if_pos hwt] at h2 ⊢
        rcases h2 with h2 | ⟨_, h2⟩
        · exact Oper.wpIn_mono (fun a' w' hk => any_of_any hd hL fuel _ a' w' hk) (in_of_wp (noDef_spec hd ho) h2)
        · exact absurd h2 hL
      · rw [if_neg hwt] at h2 ⊢
        exact ⟨fun _ _ => trivial, any_of_any hd hL fuel _ _ _ h2⟩
/-- A region within a round, its post named. -/
theorem round_late {id : Nat} {Q : Exit → Act → World → Prop} {R : Act → World → Prop} {a : Act} {w : World} {l : List Oper} (L : List (Nat × (World → Prop))) (hm : P.follows .mixedOrders = true) (hd : noDef l.toArray = true)
    (h : L4.wpLate P .any l.toArray (fun e b W => e = Exit.normal ∧ R b W) L l.toArray.size (Array.replicate l.toArray.size false) a w.drew) (hK : ∀ b W, R b W → Q .normal b W) : (Code.region id l.toArray true).wpIn (Fence.wide.inRound lp) n P Q a w := by
  refine wpIn_mono (wpIn_region_any hm (any_of_any hd ?_ _ _ _ _ (L4.wpLate.any _ _ _ _ h))) ?_
  · rintro ⟨_, _, h1, _⟩
    cases h1
  · rintro e b W ⟨rfl, h⟩
    exact hK b W h
/-- A region within a round, cut off. -/
theorem round_cut {id : Nat} {Q : Exit → Act → World → Prop} {a a' : Act} {w w' : World} {l : List Oper} (L : List (Nat × (World → Prop))) (hm : P.follows .mixedOrders = true) (hd : noDef l.toArray = true)
    (h : L4.wpLate P .any l.toArray (fun e b W => e = Exit.normal ∧ b = a' ∧ W = w') L l.toArray.size (Array.replicate l.toArray.size false) a w.drew) (k : Q .normal a' w') : (Code.region id l.toArray true).wpIn (Fence.wide.inRound lp) n P Q a w :=
  round_late (R := fun b W => b = a' ∧ W = w') L hm hd h (fun _ _ ⟨h1, h2⟩ => h1 ▸ h2 ▸ k)
/-- A region that makes two blocks, outside of a round, cut off. -/
theorem wide_two {id : Nat} {Q : Exit → Act → World → Prop} {a : Act} {w : World} {l : List Oper} {f : Nat → Nat → Act} {Fx : Nat → Nat → World → Prop} (L : List (Nat × (World → Prop))) (hm : P.follows .mixedOrders = true)
    (h : L4.wpLate P .any l.toArray (fun e b W => e = Exit.normal ∧ ∃ gv gw, b = f gv gw ∧ Fx gv gw W) L l.toArray.size (Array.replicate l.toArray.size false) a w.drew) (k : ∀ gv gw W, Fx gv gw W → Q .normal (f gv gw) W) : (Code.region id l.toArray true).wpIn Fence.wide n P Q a w := by
  refine wpIn_mono (wpIn_wide.2 (L4.region_late L hm h)) ?_
  rintro e b W ⟨rfl, gv, gw, rfl, h⟩
  exact k gv gw W h
end
end Go.Proofs.YthdpomgpcblpeaaGreat

namespace Go.Proofs.YthdpomgpcblpeaaGreat
set_option linter.unusedVariables false
open Go.RowKit
theorem getD_some {L : List Int} {i : Nat} (h : i < L.length) : L[i]? = some (L.getD i 0) := by simp [List.getD_eq_getElem?_getD, h]
set_option maxRecDepth 100000 in
set_option maxHeartbeats 1600000 in
theorem lnLen (o : Option Addr) (n cap : Nat) (w : World) :
    Calls Tryz.prog 83 #[.slice o n cap] w fun e w' => e = .returned (.int .i64 n) ∧ w' = w := by
  go_enter Tryz.func83, Tryz.ntmps83
  go_wp2
  go_ret
  exact ⟨rfl, rfl⟩
set_option maxRecDepth 100000 in
set_option maxHeartbeats 1600000 in
theorem lnLess (g n cap : Nat) (L : List Int) (i j : Nat) (w : World) (h : RG (Value.int .i64) w (.slice (some ⟨g, 0, none⟩) n cap) L) (hi : i < n) (hj : j < n) :
    Calls Tryz.prog 147 #[.slice (some ⟨g, 0, none⟩) n cap, .int .i64 i, .int .i64 j] w fun e w' => e = .returned (.bool (decide (L.getD i 0 < L.getD j 0))) ∧ ∃ q, w' = w.drewN q := by
  have hl := h.len
  have hcap := h.room
  unfold maxLen at hcap
  obtain ⟨x, g1, o1, e1, e2, c0⟩ := h.at hi
  obtain ⟨y, g2, o2, e3, e4, c1⟩ := h.at hj
  simp only [Option.some.injEq, Addr.mk.injEq, and_true] at e2 e4
  obtain ⟨rfl, rfl⟩ := e2
  obtain ⟨rfl, rfl⟩ := e4
  rw [Nat.zero_add] at c0 c1
  have f1 : L.getD i 0 = x := by rw [List.getD_eq_getElem?_getD, e1]; rfl
  have f2 : L.getD j 0 = y := by rw [List.getD_eq_getElem?_getD, e3]; rfl
  rw [f1, f2]
  clear f1 f2 e1 e3 h hl
  have hiz : (i : Int) < (n : Int) := by omega
  have hjz : (j : Int) < (n : Int) := by omega
  go_enter Tryz.func147, Tryz.ntmps147
  go_wp2
  go_quiet (fail)
  go_wp2
  go_ret
  exact ⟨rfl, _, rfl⟩
set_option maxRecDepth 100000 in
set_option maxHeartbeats 3200000 in
theorem lnSwap (B0 g n cap : Nat) (L : List Int) (i j : Nat) (w : World) (h : OG (Value.int .i64) B0 3 w (.slice (some ⟨g, 0, none⟩) n cap) L) (hi : i < n) (hj : j < n) :
    Calls Tryz.prog 149 #[.slice (some ⟨g, 0, none⟩) n cap, .int .i64 i, .int .i64 j] w fun e w' => e = .returned (.tuple #[]) ∧ OG (Value.int .i64) B0 3 w' (.slice (some ⟨g, 0, none⟩) n cap) (swp L i j) ∧ w.grownBy w' (some g) := by
  have hl : L.length = n := h.rg.len
  obtain ⟨x, hx⟩ : ∃ x, x = L.getD i 0 := ⟨_, rfl⟩
  obtain ⟨y, hy⟩ : ∃ y, y = L.getD j 0 := ⟨_, rfl⟩
  have ex : L[i]? = some x := by rw [hx]; exact getD_some (by omega)
  have ey : L[j]? = some y := by rw [hy]; exact getD_some (by omega)
  have HS : Hid (swp L i j = (L.set i y).set j x) := by show _ = _; unfold swp; rw [← hx, ← hy]
  have hset := fun (W : World) (hW : OG (Value.int .i64) B0 3 W (.slice (some ⟨g, 0, none⟩) n cap) L) => hW.set hl i y
  have hset2 := fun (W : World) (hW : OG (Value.int .i64) B0 3 W (.slice (some ⟨g, 0, none⟩) n cap) (L.set i y)) => hW.set (by rw [List.length_set]; exact hl) j x
  have HO : Hid (OG (Value.int .i64) B0 3 w (.slice (some ⟨g, 0, none⟩) n cap) L) := h
  have HE : Hid (L[i]? = some x ∧ L[j]? = some y ∧ L.length = n) := ⟨ex, ey, hl⟩
  have HT1 : Hid (∀ W, OG (Value.int .i64) B0 3 W (.slice (some ⟨g, 0, none⟩) n cap) L → OG (Value.int .i64) B0 3 (W.setCell ⟨g, i, none⟩ (.int .i64 y)) (.slice (some ⟨g, 0, none⟩) n cap) (L.set i y) ∧ W.grownBy (W.setCell ⟨g, i, none⟩ (.int .i64 y)) (some g)) := hset
  have HT2 : Hid (∀ W, OG (Value.int .i64) B0 3 W (.slice (some ⟨g, 0, none⟩) n cap) (L.set i y) → OG (Value.int .i64) B0 3 (W.setCell ⟨g, j, none⟩ (.int .i64 x)) (.slice (some ⟨g, 0, none⟩) n cap) ((L.set i y).set j x) ∧ W.grownBy (W.setCell ⟨g, j, none⟩ (.int .i64 x)) (some g)) := hset2
  have c0 := (h.cell ex).1
  have c1 := (h.cell ey).1
  clear hx hy ex ey hset hset2 h hl
  have hiz : (i : Int) < (n : Int) := by omega
  have hjz : (j : Int) < (n : Int) := by omega
  go_enter Tryz.func149, Tryz.ntmps149
  go_upto_region 0 with fail
  have KEEP : ∀ u, Below w.heap.size w u → L4.AllL u [(7, fun w' => w'.cell? ⟨g, j, none⟩ = some (.int .i64 y)), (11, fun w' => w'.cell? ⟨g, i, none⟩ = some (.int .i64 x))] := fun u hu => ⟨keepR hu c1, keepR hu c0, trivial⟩
  refine L4.region_late [(7, fun w' => w'.cell? ⟨g, j, none⟩ = some (.int .i64 y)), (11, fun w' => w'.cell? ⟨g, i, none⟩ = some (.int .i64 x))] (by kernel_rfl) ?_
  have B : Below w.heap.size w w.drew := (Below.refl _ _).drew
  obtain ⟨w1, hw1⟩ : ∃ u, u = w.drew := ⟨_, rfl⟩
  rw [← hw1] at B ⊢
  clear hw1
  have hHeld := KEEP _ B
  refine L4.late_free 0 (v := .slice (some ⟨g, 0, none⟩) n cap) rfl (by kernel_rfl) (by kernel_rfl) (by kernel_rfl) (by kernel_rfl) (by kernel_rfl) (by kernel_rfl) (fun _ _ _ h => h) (Or.inl ⟨by rfl, ?_⟩) hHeld ?_
  · (intro u _; go_simp)
  (try simp only [Act.put, List.setIfInBounds_toArray, List.set_cons_zero, List.set_cons_succ])
  refine L4.late_free 1 (v := .int .i64 ((i : Nat) : Int)) rfl (by kernel_rfl) (by kernel_rfl) (by kernel_rfl) (by kernel_rfl) (by kernel_rfl) (by kernel_rfl) (fun _ _ _ h => h) (Or.inl ⟨by rfl, ?_⟩) hHeld ?_
  · (intro u _; go_simp)
  (try simp only [Act.put, List.setIfInBounds_toArray, List.set_cons_zero, List.set_cons_succ])
  refine L4.late_free 2 (v := .slice (some ⟨g, 0, none⟩) n cap) rfl (by kernel_rfl) (by kernel_rfl) (by kernel_rfl) (by kernel_rfl) (by kernel_rfl) (by kernel_rfl) (fun _ _ _ h => h) (Or.inl ⟨by rfl, ?_⟩) hHeld ?_
  · (intro u _; go_simp)
  (try simp only [Act.put, List.setIfInBounds_toArray, List.set_cons_zero, List.set_cons_succ])
  refine L4.late_free 3 (v := .int .i64 ((j : Nat) : Int)) rfl (by kernel_rfl) (by kernel_rfl) (by kernel_rfl) (by kernel_rfl) (by kernel_rfl) (by kernel_rfl) (fun _ _ _ h => h) (Or.inl ⟨by rfl, ?_⟩) hHeld ?_
  · (intro u _; go_simp)
  (try simp only [Act.put, List.setIfInBounds_toArray, List.set_cons_zero, List.set_cons_succ])
  refine L4.late_free 4 (v := .slice (some ⟨g, 0, none⟩) n cap) rfl (by kernel_rfl) (by kernel_rfl) (by kernel_rfl) (by kernel_rfl) (by kernel_rfl) (by kernel_rfl) (fun _ _ _ h => h) (Or.inl ⟨by rfl, ?_⟩) hHeld ?_
  · (intro u _; go_simp)
  (try simp only [Act.put, List.setIfInBounds_toArray, List.set_cons_zero, List.set_cons_succ])
  refine L4.late_free 5 (v := .int .i64 ((j : Nat) : Int)) rfl (by kernel_rfl) (by kernel_rfl) (by kernel_rfl) (by kernel_rfl) (by kernel_rfl) (by kernel_rfl) (fun _ _ _ h => h) (Or.inl ⟨by rfl, ?_⟩) hHeld ?_
  · (intro u _; go_simp)
  (try simp only [Act.put, List.setIfInBounds_toArray, List.set_cons_zero, List.set_cons_succ])
  refine L4.late_free 6 (v := .pointer (some ⟨g, j, none⟩)) rfl (by kernel_rfl) (by kernel_rfl) (by kernel_rfl) (by kernel_rfl) (by kernel_rfl) (by kernel_rfl) (fun _ _ _ h => h) (Or.inl ⟨by rfl, ?_⟩) hHeld ?_
  · (intro u _; go_simp)
  (try simp only [Act.put, List.setIfInBounds_toArray, List.set_cons_zero, List.set_cons_succ])
  refine L4.late_take 7 (v := .int .i64 y) rfl (by kernel_rfl) (List.Mem.head _) (by kernel_rfl) (by kernel_rfl) (by kernel_rfl) (by kernel_rfl) (fun _ _ _ h => h) (Or.inl ⟨by rfl, ?_⟩) hHeld ?_
  · (intro u hu; (try dsimp only at hu); go_split_ands; go_simp)
  (try simp only [Act.put, List.setIfInBounds_toArray, List.set_cons_zero, List.set_cons_succ])
  refine L4.late_free 8 (v := .slice (some ⟨g, 0, none⟩) n cap) rfl (by kernel_rfl) (by kernel_rfl) (by kernel_rfl) (by kernel_rfl) (by kernel_rfl) (by kernel_rfl) (fun _ _ _ h => h) (Or.inl ⟨by rfl, ?_⟩) hHeld ?_
  · (intro u _; go_simp)
  (try simp only [Act.put, List.setIfInBounds_toArray, List.set_cons_zero, List.set_cons_succ])
  refine L4.late_free 9 (v := .int .i64 ((i : Nat) : Int)) rfl (by kernel_rfl) (by kernel_rfl) (by kernel_rfl) (by kernel_rfl) (by kernel_rfl) (by kernel_rfl) (fun _ _ _ h => h) (Or.inl ⟨by rfl, ?_⟩) hHeld ?_
  · (intro u _; go_simp)
  (try simp only [Act.put, List.setIfInBounds_toArray, List.set_cons_zero, List.set_cons_succ])
  refine L4.late_free 10 (v := .pointer (some ⟨g, i, none⟩)) rfl (by kernel_rfl) (by kernel_rfl) (by kernel_rfl) (by kernel_rfl) (by kernel_rfl) (by kernel_rfl) (fun _ _ _ h => h) (Or.inl ⟨by rfl, ?_⟩) hHeld ?_
  · (intro u _; go_simp)
  (try simp only [Act.put, List.setIfInBounds_toArray, List.set_cons_zero, List.set_cons_succ])
  refine L4.late_take 11 (v := .int .i64 x) rfl (by kernel_rfl) (List.Mem.tail _ (List.Mem.head _)) (by kernel_rfl) (by kernel_rfl) (by kernel_rfl) (by kernel_rfl) (fun _ _ _ h => h) (Or.inl ⟨by rfl, ?_⟩) hHeld ?_
  · (intro u hu; (try dsimp only at hu); go_split_ands; go_simp)
  (try simp only [Act.put, List.setIfInBounds_toArray, List.set_cons_zero, List.set_cons_succ])
  refine L4.late_free 12 (v := .pointer (some ⟨g, i, none⟩)) rfl (by kernel_rfl) (by kernel_rfl) (by kernel_rfl) (by kernel_rfl) (by kernel_rfl) (by kernel_rfl) (fun _ _ _ h => h) (Or.inl ⟨by rfl, ?_⟩) hHeld ?_
  · (intro u _; go_simp)
  (try simp only [Act.put, List.setIfInBounds_toArray, List.set_cons_zero, List.set_cons_succ])
  refine L4.late_step 13 (by kernel_rfl) rfl (fun K hK => ?_)
  have hO1 := HO.out.below B
  obtain ⟨k0, z0⟩ := hO1.cell HE.out.1
  go_simp
  refine hK.out _ _ ⟨Or.inl ⟨13, by kernel_rfl, by kernel_rfl⟩, Or.inl ⟨13, by kernel_rfl, by kernel_rfl⟩, trivial⟩ ?_
  clear hK K
  (try simp only [Act.put, List.setIfInBounds_toArray, List.set_cons_zero, List.set_cons_succ])
  refine L4.late_step 14 (by kernel_rfl) rfl (fun K hK => ?_)
  go_simp
  refine hK.out _ _ ⟨Or.inl ⟨13, by kernel_rfl, by kernel_rfl⟩, Or.inl ⟨13, by kernel_rfl, by kernel_rfl⟩, trivial⟩ ?_
  clear hK K
  (try simp only [Act.put, List.setIfInBounds_toArray, List.set_cons_zero, List.set_cons_succ])
  refine L4.late_step 15 (by kernel_rfl) rfl (fun K hK => ?_)
  clear k0 z0
  have hO2 := (HT1.out _ hO1).1
  obtain ⟨v2, hv2⟩ : ∃ v, (L.set i y)[j]? = some v := ⟨_, List.getElem?_eq_getElem (by rw [List.length_set, HE.out.2.2]; exact hj)⟩
  obtain ⟨k0, z0⟩ := hO2.cell hv2
  go_simp
  refine hK.out _ _ ⟨Or.inl ⟨15, by kernel_rfl, by kernel_rfl⟩, Or.inl ⟨15, by kernel_rfl, by kernel_rfl⟩, trivial⟩ ?_
  clear hK K
  (try simp only [Act.put, List.setIfInBounds_toArray, List.set_cons_zero, List.set_cons_succ])
  refine L4.late_done (by kernel_rfl) ?_ _
  clear KEEP k0 z0
  have h1 := HT1.out _ hO1
  have h2 := HT2.out _ h1.1
  have hg1 : w.grownBy w1 (some g) := ⟨B.os, B.tape, B.output, B.size, fun q hq _ => B.block q hq⟩
  have HR : Hid (OG (Value.int .i64) B0 3 ((w1.setCell ⟨g, i, none⟩ (.int .i64 y)).setCell ⟨g, j, none⟩ (.int .i64 x)) (.slice (some ⟨g, 0, none⟩) n cap) (swp L i j) ∧ w.grownBy ((w1.setCell ⟨g, i, none⟩ (.int .i64 y)).setCell ⟨g, j, none⟩ (.int .i64 x)) (some g)) := by
    refine ⟨by rw [HS.out]; exact h2.1, ?_⟩
    exact ⟨h2.2.os.trans (h1.2.os.trans hg1.os), h2.2.tape.trans (h1.2.tape.trans hg1.tape), h2.2.output.trans (h1.2.output.trans hg1.output), Nat.le_trans hg1.size (Nat.le_trans h1.2.size h2.2.size), fun q hq hr => (h2.2.block q (Nat.lt_of_lt_of_le hq (Nat.le_trans hg1.size h1.2.size)) hr).trans ((h1.2.block q (Nat.lt_of_lt_of_le hq hg1.size) hr).trans (hg1.block q hq hr))⟩
  clear h1 h2 hg1 hO1 hO2 c0 c1 v2 hv2
  go_wp2
  go_end0
  exact ⟨rfl, HR.out⟩
end Go.Proofs.YthdpomgpcblpeaaGreat

namespace Go.Proofs.YthdpomgpcblpeaaGreat
set_option linter.unusedVariables false
open Go.RowKit
theorem follow_line (w : World) (rb k : Nat) : (follow [⟨103, 0, true⟩] 107 (.val (.pointer (some ⟨rb, k, none⟩)))).run Tryz.prog w = .ok (101, .var ⟨rb, k, none⟩) w := by
  simp [follow, Place.get, asAddr, fieldPlace, sizeOf]
  go_simp
  intro h0
  exact absurd h0 (by rw [show Tryz.t101.size = 1 from by kernel_rfl]; decide)
theorem recv_line (w : World) (rb k : Nat) (v : Value) (h : w.cell? ⟨rb, k, none⟩ = some v) (o : Option String) : (receiverAt 101 (.var ⟨rb, k, none⟩) false o).run Tryz.prog w = .ok v w := by
  simp [receiverAt, Place.get]
  go_simp
set_option maxRecDepth 100000 in
theorem mLnLen (w : World) (rb k : Nat) (v : Value) (h : w.cell? ⟨rb, k, none⟩ = some v) : (Go.method 275 107 (.pointer (some ⟨rb, k, none⟩)) "Len").run Tryz.prog w = .ok (83, v) w := by
  unfold Go.method
  go_simp
  rw [show Array.find? (fun x => x.name == "Len") Tryz.t107.methods = some ⟨"Len", 108, #[⟨103, 0, true⟩], some (83, false)⟩ from by kernel_rfl]
  have h1 := follow_line w rb k
  have h2 := recv_line w rb k v h none
  simp [h1, h2]
theorem entLnLen : ∀ args w, (callFunc 83 args).run Tryz.prog w = .ok (.enter 83 args) w := enters_of Tryz.func83 (by kernel_rfl) rfl
set_option maxRecDepth 100000 in
theorem mLnLess (w : World) (rb k : Nat) (v : Value) (h : w.cell? ⟨rb, k, none⟩ = some v) : (Go.method 275 107 (.pointer (some ⟨rb, k, none⟩)) "Less").run Tryz.prog w = .ok (147, v) w := by
  unfold Go.method
  go_simp
  rw [show Array.find? (fun x => x.name == "Less") Tryz.t107.methods = some ⟨"Less", 73, #[⟨103, 0, true⟩], some (147, false)⟩ from by kernel_rfl]
  have h1 := follow_line w rb k
  have h2 := recv_line w rb k v h none
  simp [h1, h2]
theorem entLnLess : ∀ args w, (callFunc 147 args).run Tryz.prog w = .ok (.enter 147 args) w := enters_of Tryz.func147 (by kernel_rfl) rfl
set_option maxRecDepth 100000 in
theorem mLnSwap (w : World) (rb k : Nat) (v : Value) (h : w.cell? ⟨rb, k, none⟩ = some v) : (Go.method 275 107 (.pointer (some ⟨rb, k, none⟩)) "Swap").run Tryz.prog w = .ok (149, v) w := by
  unfold Go.method
  go_simp
  rw [show Array.find? (fun x => x.name == "Swap") Tryz.t107.methods = some ⟨"Swap", 123, #[⟨103, 0, true⟩], some (149, false)⟩ from by kernel_rfl]
  have h1 := follow_line w rb k
  have h2 := recv_line w rb k v h none
  simp [h1, h2]
theorem entLnSwap : ∀ args w, (callFunc 149 args).run Tryz.prog w = .ok (.enter 149 args) w := enters_of Tryz.func149 (by kernel_rfl) rfl
theorem mLnPush (w : World) (rb k : Nat) : (Go.method 275 107 (.pointer (some ⟨rb, k, none⟩)) "Push").run Tryz.prog w = .ok (151, .pointer (some ⟨rb, k, none⟩)) w := by kernel_rfl
theorem entLnPush : ∀ args w, (callFunc 151 args).run Tryz.prog w = .ok (.enter 151 args) w := enters_of Tryz.func151 (by kernel_rfl) rfl
theorem mLnPop (w : World) (rb k : Nat) : (Go.method 275 107 (.pointer (some ⟨rb, k, none⟩)) "Pop").run Tryz.prog w = .ok (150, .pointer (some ⟨rb, k, none⟩)) w := by kernel_rfl
theorem entLnPop : ∀ args w, (callFunc 150 args).run Tryz.prog w = .ok (.enter 150 args) w := enters_of Tryz.func150 (by kernel_rfl) rfl
end Go.Proofs.YthdpomgpcblpeaaGreat

namespace Go.Proofs.YthdpomgpcblpeaaGreat
set_option linter.unusedVariables false
open Go.RowKit
/-- The five cells of what is left. -/
def RsC (w : World) (rb : Nat) (a b c d v : Value) : Prop := w.heap[rb]? = some (.cells #[a, b, c, d, v] 105 (0, 0))
theorem RsC.cell {w : World} {rb : Nat} {a b c d v : Value} (h : RsC w rb a b c d v) : w.cell? ⟨rb, 4, none⟩ = some v := by rw [cell_of_row w rb _ _ _ _ h]; rfl
theorem RsC.lt {w : World} {rb : Nat} {a b c d v : Value} (h : RsC w rb a b c d v) : rb < w.heap.size := (Array.getElem?_eq_some_iff.1 h).1
theorem OG.neT {α : Type} {enc : α → Value} {B e T : Nat} {w : World} {v : Value} {L : List α} {g : Nat} {cs : Array Value} {fr : Nat × Nat} (h : OG enc B e w v L) (hg : w.heap[g]? = some (.cells cs T fr)) (hne : e ≠ T) : v.ownBlock ≠ some g := by
  intro hv
  rcases h.2 with ⟨rfl, h0⟩ | ⟨g', cap, cur, rfl, h3, h4, h5⟩
  · simp [Value.ownBlock] at hv
  · have e1 : g' = g := by simpa [Value.ownBlock] using hv
    subst e1
    rw [h4] at hg
    simp only [Option.some.injEq, Obj.cells.injEq] at hg
    exact hne hg.2.1
theorem grown_drew {w w' : World} {r : Option Nat} (h : w.grownBy w' r) (q : Nat) : w.grownBy (w'.drewN q) r := by
  have hb := below_drewN (Below.refl w'.heap.size w') q
  exact ⟨hb.os.trans h.os, hb.tape.trans h.tape, hb.output.trans h.output, Nat.le_trans h.size hb.size, fun k hk hr => (hb.block k (Nat.lt_of_lt_of_le hk h.size)).trans (h.block k hk hr)⟩
theorem grown_tr {w w' w'' : World} {r : Option Nat} (h : w.grownBy w' r) (h2 : w'.grownBy w'' r) : w.grownBy w'' r :=
  ⟨h2.os.trans h.os, h2.tape.trans h.tape, h2.output.trans h.output, Nat.le_trans h.size h2.size, fun k hk hr => (h2.block k (Nat.lt_of_lt_of_le hk h.size) hr).trans (h.block k hk hr)⟩
set_option maxRecDepth 100000 in
set_option maxHeartbeats 6400000 in
theorem upH (B rb g n cap j : Nat) (a b c d : Value) (L : List Int) (w : World) (hR : RsC w rb a b c d (.slice (some ⟨g, 0, none⟩) n cap)) (hO : OG (Value.int .i64) B 3 w (.slice (some ⟨g, 0, none⟩) n cap) L) (hj : j < n) (hn : n ≤ 1000000) :
    Calls Tryz.prog 93 #[.iface 107 (.pointer (some ⟨rb, 4, none⟩)), .int .i64 j] w fun e w' => e = .returned (.tuple #[]) ∧ OG (Value.int .i64) B 3 w' (.slice (some ⟨g, 0, none⟩) n cap) (upL L j) ∧ w.grownBy w' (some g) := by
  have hne : g ≠ rb := fun e => hO.neT hR (by decide) (by rw [e]; rfl)
  have HRW : Hid (∀ W, w.grownBy W (some g) → RsC W rb a b c d (.slice (some ⟨g, 0, none⟩) n cap)) := fun W hW => (hW.block rb hR.lt (fun e => hne (by have h := e; simp at h; omega))).trans hR
  obtain ⟨N, hN⟩ : ∃ N, N = upL L j := ⟨_, rfl⟩
  rw [← hN]
  have HN : Hid (upL L j = N) := hN.symm
  have HO : Hid (OG (Value.int .i64) B 3 w (.slice (some ⟨g, 0, none⟩) n cap) L) := hO
  clear hN hne hR hO
  have e1 := entLnLess
  have e2 := entLnSwap
  go_enter Tryz.func93, Tryz.ntmps93
  go_wp2
  go_loopg [1, 4] j (fun g1 v1 _v4 wr => ∃ (k : Nat) (M : List Int), v1 = .int .i64 k ∧ k ≤ g1 ∧ k < n ∧ Hid (OG (Value.int .i64) B 3 wr (.slice (some ⟨g, 0, none⟩) n cap) M) ∧ Hid (upL M k = N) ∧ Hid (w.grownBy wr (some g)))
  case atStart => exact ⟨j, L, rfl, Nat.le_refl _, hj, HO, HN, grownG_refl _ _⟩
  case round =>
    clear HO HN
    obtain ⟨k, M, rfl, hg1, hkn, HO, HN, HG⟩ := hrel
    rcases Nat.eq_zero_or_pos k with hk0 | hk0
    · subst hk0
      have HE : Hid (M = N) := HN.out
      clear HN
      go_wp2
      go_end0
      exact ⟨rfl, by rw [← HE.out]; exact HO.out, HG.out⟩
    · obtain ⟨i, hi⟩ : ∃ i, i = (k - 1) / 2 := ⟨_, rfl⟩
      have hq : ((k : Int) - 1).tdiv 2 = (i : Int) := by rw [Int.tdiv_eq_ediv_of_nonneg (by omega)]; omega
      have hik : i < k := by omega
      have heq : ((i : Int) == (k : Int)) = false := by simp; omega
      have HI : Hid (i = (k - 1) / 2) := hi
      clear hi
      have cl := (HRW.out wr HG.out).cell
      have m1 := mLnLess wr rb 4 _ cl
      have CL : Hid _ := lnLess g n cap M k i wr HO.out.rg hkn (by omega)
      clear cl
      go_wp2_with fail
      refine Calls.mono CL.out ?_
      rintro e y ⟨rfl, q, rfl⟩
      clear CL m1
      have HG2 : Hid (w.grownBy (wr.drewN q) (some g)) := grown_drew HG.out q
      have HO2 : Hid (OG (Value.int .i64) B 3 (wr.drewN q) (.slice (some ⟨g, 0, none⟩) n cap) M) := HO.out.of_blocks fun _ _ => by rw [heap_drewG]
      clear HO HG
      generalize wr.drewN q = y at *
      by_cases hlt : M.getD k 0 < M.getD i 0
      · have HE : Hid (upL (swp M i k) i = N) := by show _ = _; rw [← HN.out]; have h := hlt; rw [HI.out] at h ⊢; exact (upL_yes hk0 h).symm
        rw [decide_eq_true hlt]
        clear HN hlt
        have cl := (HRW.out y HG2.out).cell
        have m2 := mLnSwap y rb 4 _ cl
        have CS : Hid _ := lnSwap B g n cap M i k y HO2.out (by omega) hkn
        clear cl
        go_wp2_with fail
        refine Calls.mono CS.out ?_
        rintro e z ⟨rfl, hz1, hz2⟩
        clear CS m2
        have HO3 : Hid (OG (Value.int .i64) B 3 z (.slice (some ⟨g, 0, none⟩) n cap) (swp M i k)) := hz1
        have HG3 : Hid (w.grownBy z (some g)) := grown_tr HG2.out hz2
        clear hz1 hz2 HO2 HG2
        go_wp2
        go_roundg i
        case measure => omega
        case rel => exact ⟨i, _, rfl, Nat.le_refl _, by omega, HO3, HE, HG3⟩
      · have HE : Hid (M = N) := by show _ = _; rw [← HN.out]; have h := hlt; rw [HI.out] at h; exact (upL_no h).symm
        rw [decide_eq_false hlt]
        clear HN hlt
        go_wp2
        go_end0
        exact ⟨rfl, by rw [← HE.out]; exact HO2.out, HG2.out⟩
end Go.Proofs.YthdpomgpcblpeaaGreat

namespace Go.Proofs.YthdpomgpcblpeaaGreat
set_option linter.unusedVariables false
open Go.RowKit
set_option maxRecDepth 100000 in
set_option maxHeartbeats 12800000 in
theorem downH (B rb g n cap i0 m : Nat) (a b c d : Value) (L : List Int) (w : World) (hR : RsC w rb a b c d (.slice (some ⟨g, 0, none⟩) n cap)) (hO : OG (Value.int .i64) B 3 w (.slice (some ⟨g, 0, none⟩) n cap) L) (hj : i0 < n) (hm : m ≤ n) (hn : n ≤ 1000000) :
    Calls Tryz.prog 94 #[.iface 107 (.pointer (some ⟨rb, 4, none⟩)), .int .i64 i0, .int .i64 m] w fun e w' => ∃ r, e = .returned (.bool r) ∧ OG (Value.int .i64) B 3 w' (.slice (some ⟨g, 0, none⟩) n cap) (dnL L i0 m) ∧ w.grownBy w' (some g) := by
  have hne : g ≠ rb := fun e => hO.neT hR (by decide) (by rw [e]; rfl)
  have HRW : Hid (∀ W, w.grownBy W (some g) → RsC W rb a b c d (.slice (some ⟨g, 0, none⟩) n cap)) := fun W hW => (hW.block rb hR.lt (fun e => hne (by have h := e; simp at h; omega))).trans hR
  obtain ⟨N, hN⟩ : ∃ N, N = dnL L i0 m := ⟨_, rfl⟩
  rw [← hN]
  have HN : Hid (dnL L i0 m = N) := hN.symm
  have HO : Hid (OG (Value.int .i64) B 3 w (.slice (some ⟨g, 0, none⟩) n cap) L) := hO
  clear hN hne hR hO
  have e1 := entLnLess
  have e2 := entLnSwap
  go_enter Tryz.func94, Tryz.ntmps94
  go_wp2
  go_loopg [7, 8, 9, 10] (m - i0) (fun g1 v7 _v8 _v9 _v10 wr => ∃ (k : Nat) (M : List Int), v7 = .int .i64 k ∧ m - k ≤ g1 ∧ k < n ∧ Hid (OG (Value.int .i64) B 3 wr (.slice (some ⟨g, 0, none⟩) n cap) M) ∧ Hid (dnL M k m = N) ∧ Hid (w.grownBy wr (some g)))
  case atStart => exact ⟨i0, L, rfl, Nat.le_refl _, hj, HO, HN, grownG_refl _ _⟩
  case round =>
    clear HO HN
    obtain ⟨k, M, rfl, hg1, hkn, HO, HN, HG⟩ := hrel
    obtain ⟨t1, ht1⟩ : ∃ t, t = 2 * k + 1 := ⟨_, rfl⟩
    have r1 : (2 : Int) * (k : Int) + 1 = (t1 : Int) := by omega
    have HT1 : Hid (t1 = 2 * k + 1) := ht1
    by_cases hs : m ≤ t1
    · have HE : Hid (M = N) := by show _ = _; rw [← HN.out, dnL_stop (by omega)]
      have hge : decide ((m : Int) ≤ (t1 : Int)) = true := decide_eq_true (by omega)
      have hge2 : (m : Int) ≤ (t1 : Int) := by omega
      clear HN ht1
      go_wp2
      go_ret
      exact ⟨_, rfl, by rw [← HE.out]; exact HO.out, HG.out⟩
    · have hge : ¬ (m : Int) ≤ (t1 : Int) := by omega
      obtain ⟨t2, ht2⟩ : ∃ t, t = t1 + 1 := ⟨_, rfl⟩
      have r2 : (t1 : Int) + 1 = (t2 : Int) := by omega
      by_cases h2m : t2 < m
      · have hlz : (t2 : Int) < (m : Int) := by omega
        have cl := (HRW.out wr HG.out).cell
        have m1 := mLnLess wr rb 4 _ cl
        have CL : Hid _ := lnLess g n cap M t2 t1 wr HO.out.rg (by omega) (by omega)
        have HT2 : Hid (t2 = t1 + 1) := ht2
        clear cl ht1 ht2
        go_wp2_with fail
        refine Calls.mono CL.out ?_
        rintro e y0 ⟨rfl, q, rfl⟩
        clear CL m1
        have HG2 : Hid (w.grownBy (wr.drewN q) (some g)) := grown_drew HG.out q
        have HO2 : Hid (OG (Value.int .i64) B 3 (wr.drewN q) (.slice (some ⟨g, 0, none⟩) n cap) M) := HO.out.of_blocks fun _ _ => by rw [heap_drewG]
        clear HO HG
        generalize wr.drewN q = y at *
        have hf1 := HT1.out
        have hf2 := HT2.out
        by_cases hlt : M.getD t2 0 < M.getD t1 0
        · have HK : Hid (kid M k m = t2) := by
            show _ = _
            have e9 : t2 = 2 * k + 2 := by omega
            rw [e9] at hlt h2m ⊢
            rw [hf1] at hlt
            exact kid_two h2m hlt
          rw [decide_eq_true hlt]
          clear hlt
          have hkt : k < t2 := by omega
          have HF : Hid (t1 = 2 * k + 1 ∧ t2 = t1 + 1) := ⟨hf1, hf2⟩
          have hst : ¬ m ≤ 2 * k + 1 := by omega
          clear hf1 hf2
          have cl := (HRW.out y HG2.out).cell
          have m3 := mLnLess y rb 4 _ cl
          have CL : Hid _ := lnLess g n cap M t2 k y HO2.out.rg (by omega) (by omega)
          clear cl
          go_wp2_with fail
          refine Calls.mono CL.out ?_
          rintro e y3 ⟨rfl, q3, rfl⟩
          clear CL m3
          have HG3 : Hid (w.grownBy (y.drewN q3) (some g)) := grown_drew HG2.out q3
          have HO3 : Hid (OG (Value.int .i64) B 3 (y.drewN q3) (.slice (some ⟨g, 0, none⟩) n cap) M) := HO2.out.of_blocks fun _ _ => by rw [heap_drewG]
          clear HO2 HG2
          generalize y.drewN q3 = y4 at *
          by_cases hl2 : M.getD t2 0 < M.getD k 0
          · have HE : Hid (dnL (swp M k t2) t2 m = N) := by
              show _ = _
              have hk := HK.out
              have h9 := dnL_yes (L := M) (i := k) (n := m) hst (by rw [hk]; exact hl2); rw [hk] at h9; rw [← HN.out]; exact h9.symm
            rw [decide_eq_true hl2]
            clear HN hl2
            have cl := (HRW.out y4 HG3.out).cell
            have m4 := mLnSwap y4 rb 4 _ cl
            have CS : Hid _ := lnSwap B g n cap M k t2 y4 HO3.out (by omega) (by omega)
            clear cl
            go_wp2_with fail
            refine Calls.mono CS.out ?_
            rintro e z ⟨rfl, hz1, hz2⟩
            clear CS m4
            have HO4 : Hid (OG (Value.int .i64) B 3 z (.slice (some ⟨g, 0, none⟩) n cap) (swp M k t2)) := hz1
            have HG4 : Hid (w.grownBy z (some g)) := grown_tr HG3.out hz2
            clear hz1 hz2 HO3 HG3 HK
            go_wp2
            go_roundg (m - t2)
            case measure => omega
            case rel => exact ⟨t2, _, rfl, by omega, by omega, HO4, HE, HG4⟩
          · have HE : Hid (M = N) := by
              show _ = _
              have hk := HK.out
              rw [← HN.out, dnL_no hst (by rw [hk]; exact hl2)]
            rw [decide_eq_false hl2]
            clear HN hl2 HK
            go_wp2
            go_ret
            exact ⟨_, rfl, by rw [← HE.out]; exact HO3.out, HG3.out⟩
        · have HK : Hid (kid M k m = t1) := by
            show _ = _
            have e9 : t2 = 2 * k + 2 := by omega
            rw [e9] at hlt
            rw [hf1] at hlt ⊢
            exact kid_one (fun h => hlt h.2)
          rw [decide_eq_false hlt]
          clear hlt
          have hkt : k < t1 := by omega
          have HF : Hid (t1 = 2 * k + 1 ∧ t2 = t1 + 1) := ⟨hf1, hf2⟩
          have hst : ¬ m ≤ 2 * k + 1 := by omega
          clear hf1 hf2
          have cl := (HRW.out y HG2.out).cell
          have m3 := mLnLess y rb 4 _ cl
          have CL : Hid _ := lnLess g n cap M t1 k y HO2.out.rg (by omega) (by omega)
          clear cl
          go_wp2_with fail
          refine Calls.mono CL.out ?_
          rintro e y3 ⟨rfl, q3, rfl⟩
          clear CL m3
          have HG3 : Hid (w.grownBy (y.drewN q3) (some g)) := grown_drew HG2.out q3
          have HO3 : Hid (OG (Value.int .i64) B 3 (y.drewN q3) (.slice (some ⟨g, 0, none⟩) n cap) M) := HO2.out.of_blocks fun _ _ => by rw [heap_drewG]
          clear HO2 HG2
          generalize y.drewN q3 = y4 at *
          by_cases hl2 : M.getD t1 0 < M.getD k 0
          · have HE : Hid (dnL (swp M k t1) t1 m = N) := by
              show _ = _
              have hk := HK.out
              have h9 := dnL_yes (L := M) (i := k) (n := m) hst (by rw [hk]; exact hl2); rw [hk] at h9; rw [← HN.out]; exact h9.symm
            rw [decide_eq_true hl2]
            clear HN hl2
            have cl := (HRW.out y4 HG3.out).cell
            have m4 := mLnSwap y4 rb 4 _ cl
            have CS : Hid _ := lnSwap B g n cap M k t1 y4 HO3.out (by omega) (by omega)
            clear cl
            go_wp2_with fail
            refine Calls.mono CS.out ?_
            rintro e z ⟨rfl, hz1, hz2⟩
            clear CS m4
            have HO4 : Hid (OG (Value.int .i64) B 3 z (.slice (some ⟨g, 0, none⟩) n cap) (swp M k t1)) := hz1
            have HG4 : Hid (w.grownBy z (some g)) := grown_tr HG3.out hz2
            clear hz1 hz2 HO3 HG3 HK
            go_wp2
            go_roundg (m - t1)
            case measure => omega
            case rel => exact ⟨t1, _, rfl, by omega, by omega, HO4, HE, HG4⟩
          · have HE : Hid (M = N) := by
              show _ = _
              have hk := HK.out
              rw [← HN.out, dnL_no hst (by rw [hk]; exact hl2)]
            rw [decide_eq_false hl2]
            clear HN hl2 HK
            go_wp2
            go_ret
            exact ⟨_, rfl, by rw [← HE.out]; exact HO3.out, HG3.out⟩
      · have hlz : ¬ (t2 : Int) < (m : Int) := by omega
        have HK : Hid (kid M k m = t1) := by show _ = _; rw [ht1]; exact kid_one (fun h => by have := h.1; omega)
        have hkt : k < t1 := by omega
        have hst : ¬ m ≤ 2 * k + 1 := by omega
        clear ht1 ht2
        obtain ⟨y, hy⟩ : ∃ u, u = wr := ⟨_, rfl⟩
        have HG2 : Hid (w.grownBy y (some g)) := by rw [hy]; exact HG
        have HO2 : Hid (OG (Value.int .i64) B 3 y (.slice (some ⟨g, 0, none⟩) n cap) M) := by rw [hy]; exact HO
        clear HO HG
        subst hy
        have cl := (HRW.out y HG2.out).cell
        have m3 := mLnLess y rb 4 _ cl
        have CL : Hid _ := lnLess g n cap M t1 k y HO2.out.rg (by omega) (by omega)
        clear cl
        go_wp2_with fail
        refine Calls.mono CL.out ?_
        rintro e y3 ⟨rfl, q3, rfl⟩
        clear CL m3
        have HG3 : Hid (w.grownBy (y.drewN q3) (some g)) := grown_drew HG2.out q3
        have HO3 : Hid (OG (Value.int .i64) B 3 (y.drewN q3) (.slice (some ⟨g, 0, none⟩) n cap) M) := HO2.out.of_blocks fun _ _ => by rw [heap_drewG]
        clear HO2 HG2
        generalize y.drewN q3 = y4 at *
        by_cases hl2 : M.getD t1 0 < M.getD k 0
        · have HE : Hid (dnL (swp M k t1) t1 m = N) := by
            show _ = _
            have hk := HK.out
            have h9 := dnL_yes (L := M) (i := k) (n := m) hst (by rw [hk]; exact hl2); rw [hk] at h9; rw [← HN.out]; exact h9.symm
          rw [decide_eq_true hl2]
          clear HN hl2
          have cl := (HRW.out y4 HG3.out).cell
          have m4 := mLnSwap y4 rb 4 _ cl
          have CS : Hid _ := lnSwap B g n cap M k t1 y4 HO3.out (by omega) (by omega)
          clear cl
          go_wp2_with fail
          refine Calls.mono CS.out ?_
          rintro e z ⟨rfl, hz1, hz2⟩
          clear CS m4
          have HO4 : Hid (OG (Value.int .i64) B 3 z (.slice (some ⟨g, 0, none⟩) n cap) (swp M k t1)) := hz1
          have HG4 : Hid (w.grownBy z (some g)) := grown_tr HG3.out hz2
          clear hz1 hz2 HO3 HG3 HK
          go_wp2
          go_roundg (m - t1)
          case measure => omega
          case rel => exact ⟨t1, _, rfl, by omega, by omega, HO4, HE, HG4⟩
        · have HE : Hid (M = N) := by
            show _ = _
            have hk := HK.out
            rw [← HN.out, dnL_no hst (by rw [hk]; exact hl2)]
          rw [decide_eq_false hl2]
          clear HN hl2 HK
          go_wp2
          go_ret
          exact ⟨_, rfl, by rw [← HE.out]; exact HO3.out, HG3.out⟩
end Go.Proofs.YthdpomgpcblpeaaGreat

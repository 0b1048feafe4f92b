/-
  Proved here: steps as keys of a map, told as the list of what was put in, one behind the other; rows of steps.
-/
import Derived.Test.YthdpomgpcblpeaaGreatHeapMathAll
import Derived.Test.YthdpomgpcblpeaaGreatDagMpAll
import Derived.Laws.StructEq
namespace Go.Proofs.YthdpomgpcblpeaaGreat
set_option linter.unusedVariables false
open Go.RowKit
/-- The two cells of a step. -/
def encS (s : Stp) : List Value := [.int .i64 s.1, .bool s.2]
def aggS (s : Stp) : Value := .agg #[.int .i64 s.1, .bool s.2]
theorem Tryz.stepEq (s t : Stp) (w : World) : (Op.equalIn 10000 84 (aggS s) (aggS t)).run Tryz.prog w = .ok (s.1 == t.1 && s.2 == t.2) w := by
  have u3 := Tryz.underlying3
  have a3 := Tryz.isAgg3
  have z3 := Tryz.sizeOf3
  have u4 := Tryz.underlying4
  have a4 := Tryz.isAgg4
  have z4 := Tryz.sizeOf4
  have hS : Tryz.prog.underlying 84 = some (.struct (Tryz.prog.fieldsOf 84)) := by kernel_rfl
  have hp : Tryz.prog.stoodInHeld 84 = false := by kernel_rfl
  unfold aggS
  rw [show (10000 : Nat) = 9999 + 1 from rfl, run_equalIn_agg w 9999 84 _ _ hS hp]
  simp only [Program.fieldsOf, Tryz.underlying84]
  go_simp
  by_cases h1 : s.1 = t.1 <;> by_cases h2 : s.2 = t.2 <;> simp [h1, h2]
theorem stepEqB (s t : Stp) : (s.1 == t.1 && s.2 == t.2) = decide (s = t) := by
  obtain ⟨a, b⟩ := s
  obtain ⟨c, d⟩ := t
  by_cases h1 : a = c <;> by_cases h2 : b = d <;> simp [h1, h2]
theorem run_findAskS (s : Stp) (w : World) : ∀ (L : List (Stp × Stp)) (es : List MapEntry) (i : Nat), es.map (fun e => (e.key, e.val)) = L.map (fun p => (aggS p.1, aggS p.2)) →
    ((Instr.findAsking 84 (aggS s) es i).run Tryz.prog w = .ok none w ∧ s ∉ L.map (·.1)) ∨ ∃ j p, (Instr.findAsking 84 (aggS s) es i).run Tryz.prog w = .ok (some (j, aggS p.2)) w ∧ p ∈ L ∧ p.1 = s ∧ L.find? (fun q => decide (q.1 = s)) = some p
  | [], [], i, _ => Or.inl ⟨by simp [Instr.findAsking], by simp⟩
  | [], e :: es, i, h => by simp at h
  | p :: L, [], i, h => by simp at h
  | p :: L, e :: es, i, h => by
    simp only [List.map_cons, List.cons.injEq, Prod.mk.injEq] at h
    obtain ⟨⟨hk, hv⟩, hr⟩ := h
    have heq : (Op.equal 84 (aggS s) e.key).run Tryz.prog w = .ok (decide (s = p.1)) w := by
      rw [hk]
      show (Op.equalIn Op.maxDepth 84 (aggS s) (aggS p.1)).run Tryz.prog w = _
      have := Tryz.stepEq s p.1 w
      rw [stepEqB] at this
      exact this
    by_cases hs : s = p.1
    · rw [decide_eq_true hs] at heq
      refine Or.inr ⟨i, p, ?_, by simp, hs.symm, by simp [hs]⟩
      simp only [Instr.findAsking, Sem.run_bind, heq, Result.andThen_ok, if_true, Sem.run_pure, hv]
    · rw [decide_eq_false hs] at heq
      rcases run_findAskS s w L es (i + 1) hr with ⟨h1, h2⟩ | ⟨j, q, h1, h2, h3, h4⟩
      · refine Or.inl ⟨?_, by simp only [List.map_cons, List.mem_cons, not_or]; exact ⟨hs, h2⟩⟩
        simp only [Instr.findAsking, Sem.run_bind, heq, Result.andThen_ok, Bool.false_eq_true, if_false]
        exact h1
      · refine Or.inr ⟨j, q, ?_, List.mem_cons_of_mem _ h2, h3, ?_⟩
        · simp only [Instr.findAsking, Sem.run_bind, heq, Result.andThen_ok, Bool.false_eq_true, if_false]
          exact h1
        · rw [List.find?_cons_of_neg (by simp; exact fun e => hs e.symm)]; exact h4
theorem run_findS (s : Stp) (w : World) (L : List (Stp × Stp)) (es : List MapEntry) (h : es.map (fun e => (e.key, e.val)) = L.map (fun p => (aggS p.1, aggS p.2))) :
    ((Instr.findKey 84 (aggS s) es).run Tryz.prog w = .ok none w ∧ s ∉ L.map (·.1)) ∨ ∃ j p, (Instr.findKey 84 (aggS s) es).run Tryz.prog w = .ok (some (j, aggS p.2)) w ∧ p ∈ L ∧ p.1 = s ∧ L.find? (fun q => decide (q.1 = s)) = some p := by
  cases es with
  | nil =>
    cases L with
    | nil => exact Or.inl ⟨by simp [Instr.findKey, run_underlying Tryz.underlying84, Instr.findNow], by simp⟩
    | cons p L => simp at h
  | cons e es =>
    have hk : e.key = aggS (L.head!).1 := by
      cases L with
      | nil => simp at h
      | cons p L => simp only [List.map_cons, List.cons.injEq, Prod.mk.injEq] at h; exact h.1.1
    have hf : (Instr.findKey 84 (aggS s) (e :: es)).run Tryz.prog w = (Instr.findAsking 84 (aggS s) (e :: es)).run Tryz.prog w := by
      simp only [Instr.findKey, Sem.run_bind, run_underlying Tryz.underlying84, Result.andThen_ok, Instr.findNow, hk, aggS, Instr.sameNow]
    rw [hf]
    exact run_findAskS s w L _ 0 h
theorem Tryz.stepKey (em : Bool) (s : Stp) (w : World) : (Instr.checkKey em 10000 84 (aggS s)).run Tryz.prog w = .ok () w := by kernel_rfl
theorem Tryz.stepZero (w : World) : (zeroValue 84).run Tryz.prog w = .ok (aggS (0, false)) w := by kernel_rfl
/-- A map from steps to steps that holds just these, put in one behind the other. -/
def MpS (w : World) (b : Nat) (L : List (Stp × Stp)) : Prop := ∃ es clock, w.heap[b]? = some (.map es clock) ∧ es.toList.map (fun e => (e.key, e.val)) = L.map (fun p => (aggS p.1, aggS p.2))
theorem MpS.made (w : World) : MpS (w.alloc (.map #[] 0)) w.heap.size [] := ⟨#[], 0, heap_alloc_new w _, rfl⟩
theorem MpS.lt {w : World} {b : Nat} {L : List (Stp × Stp)} (h : MpS w b L) : b < w.heap.size := by
  obtain ⟨es, c, h1, _⟩ := h
  exact (Array.getElem?_eq_some_iff.1 h1).1
theorem MpS.of_block {w w' : World} {b : Nat} {L : List (Stp × Stp)} (h : MpS w b L) (hb : w'.heap[b]? = w.heap[b]?) : MpS w' b L := by
  obtain ⟨es, c, h1, h2⟩ := h
  exact ⟨es, c, hb.trans h1, h2⟩
theorem MpS.ne {w : World} {b : Nat} {L : List (Stp × Stp)} (h : MpS w b L) {q : Nat} {cs : Array Value} {t : Nat} {fr : Nat × Nat} (hq : w.heap[q]? = some (.cells cs t fr)) : b ≠ q := fun e => by
  obtain ⟨es, c, h1, _⟩ := h
  rw [e, hq] at h1
  simp at h1
theorem MpS.look {w : World} {b : Nat} {L : List (Stp × Stp)} (h : MpS w b L) (s : Stp) (ok : Bool) :
    (Instr.lookup 79 (.map (some b)) (aggS s) ok).run Tryz.prog w = .ok (if ok then .tuple #[aggS (((L.find? fun q => decide (q.1 = s)).map (·.2)).getD (0, false)), .bool (L.find? fun q => decide (q.1 = s)).isSome] else aggS (((L.find? fun q => decide (q.1 = s)).map (·.2)).getD (0, false))) w := by
  obtain ⟨es, c, h1, h2⟩ := h
  have hg : (getObj b).run Tryz.prog w = .ok (.map es c) w := by simp [getObj, Sem.run, h1]
  rcases run_findS s w L es.toList h2 with ⟨hf, hn⟩ | ⟨j, p, hf, hp, he, hq⟩
  · have hnone : L.find? (fun q => decide (q.1 = s)) = none := List.find?_eq_none.2 fun q hq hd => hn (List.mem_map.2 ⟨q, hq, of_decide_eq_true hd⟩)
    rw [hnone]
    simp only [Instr.lookup, Sem.run_bind, run_underlying Tryz.underlying79, Result.andThen_ok, hg, Sem.run_pure, Tryz.stepKey, hf, Tryz.stepZero]
    cases ok <;> simp
  · rw [hq]
    simp only [Instr.lookup, Sem.run_bind, run_underlying Tryz.underlying79, Result.andThen_ok, hg, Sem.run_pure, Tryz.stepKey, hf]
    cases ok <;> simp
theorem MpS.put {w : World} {b : Nat} {L : List (Stp × Stp)} (h : MpS w b L) {s : Stp} (hs : s ∉ L.map (·.1)) (v : Stp) :
    ∃ w', (Instr.mapUpdate 79 (.map (some b)) (aggS s) (aggS v)).run Tryz.prog w = .ok () w' ∧ MpS w' b (L ++ [(s, v)]) ∧ w.grownBy w' (some b) := by
  obtain ⟨es, c, h1, h2⟩ := h
  have hg : (getObj b).run Tryz.prog w = .ok (.map es c) w := by simp [getObj, Sem.run, h1]
  rcases run_findS s w L es.toList h2 with ⟨hf, hn⟩ | ⟨j, p, hf, hp, he, hq⟩
  · have hst : (setObj b (Obj.map (es.push { key := aggS s, val := aggS v, born := c }) (c + 1))).run Tryz.prog w = .ok () { w with heap := w.heap.setIfInBounds b (Obj.map (es.push { key := aggS s, val := aggS v, born := c }) (c + 1)) } := by simp [setObj, Sem.run, h1]
    have hbl : b < w.heap.size := (Array.getElem?_eq_some_iff.1 h1).1
    refine ⟨{ w with heap := w.heap.setIfInBounds b (Obj.map (es.push { key := aggS s, val := aggS v, born := c }) (c + 1)) }, by simp only [Instr.mapUpdate, Sem.run_bind, run_underlying Tryz.underlying79, Result.andThen_ok, hg, Tryz.stepKey, hf, hst], ⟨es.push { key := aggS s, val := aggS v, born := c }, c + 1, ?_, ?_⟩, ⟨rfl, rfl, rfl, by simp, fun k hk hne => ?_⟩⟩
    · show (w.heap.setIfInBounds b _)[b]? = _
      rw [Array.getElem?_setIfInBounds_self, if_pos hbl]
    · rw [Array.toList_push, List.map_append, List.map_append, h2]; rfl
    · show (w.heap.setIfInBounds b _)[k]? = _
      rw [Array.getElem?_setIfInBounds_ne (fun e => hne (by rw [e]))]
  · exact absurd (List.mem_map.2 ⟨p, hp, he⟩) hs
section
variable {w : World} {ops : Array Oper} {rest : List Oper} {o : Oper} {a : Act} {Q : Exit → Act → World → Prop}
theorem wpList_spLook (hg : o.guard = none) (m x : Operand) (ok : Bool) (hop : o.op = Op.lookup 79 m x ok) (b : Nat) (L : List (Stp × Stp)) (hm : a.eval m = .map (some b)) (h : MpS w b L)
    (s : Stp) (hx : a.eval x = aggS s) (v : Value) (hv : (if ok then .tuple #[aggS (((L.find? fun q => decide (q.1 = s)).map (·.2)).getD (0, false)), .bool (L.find? fun q => decide (q.1 = s)).isSome] else aggS (((L.find? fun q => decide (q.1 = s)).map (·.2)).getD (0, false))) = v) (hK : wpList Tryz.prog ops Q rest (a.put o.dst v) w) : wpList Tryz.prog ops Q (o :: rest) a w := by
  refine wpList_plain hg fun K' hK' => ?_
  have hrun := h.look s ok
  rw [hv] at hrun
  unfold Oper.wp
  simp [execOp, hop, hm, hx, hrun, Result.andThen]
  exact hK' _ _ hK
theorem wpList_spPut (hg : o.guard = none) (m x v : Operand) (hop : o.op = Op.mapUpdate 79 m x v) (b : Nat) (L : List (Stp × Stp)) (hm : a.eval m = .map (some b)) (h : MpS w b L)
    (s t : Stp) (hs : s ∉ L.map (·.1)) (hx : a.eval x = aggS s) (hv : a.eval v = aggS t)
    (hK : ∀ w', MpS w' b (L ++ [(s, t)]) → w.grownBy w' (some b) → wpList Tryz.prog ops Q rest (a.put o.dst undef) w') : wpList Tryz.prog ops Q (o :: rest) a w := by
  refine wpList_plain hg fun K' hK' => ?_
  obtain ⟨w', hrun, r1, r2⟩ := h.put hs t
  unfold Oper.wp
  simp [execOp, hop, hm, hx, hv, hrun, Result.andThen]
  exact hK' _ _ (hK w' r1 r2)
end
/-- The cells of steps. -/
def flS (ss : List Stp) : List Value := ss.flatMap encS
/-- A row of steps of the call's own. -/
def OS (B : Nat) (w : World) (v : Value) (ss : List Stp) : Prop := w.ownsRow B 84 2 v ss.length (flS ss)
section
variable {B B' : Nat} {w w' : World} {v : Value} {ss : List Stp}
theorem OS.lt (h : OS B w v ss) : ∀ g, v.ownBlock = some g → B ≤ g ∧ g < w.heap.size := World.ownsRow.lt h
theorem OS.nil (B : Nat) (w : World) : OS B w (.slice none 0 0) [] := World.ownsRow_nil _ _ _ _
theorem OS.of_blocks (h : OS B w v ss) (hb : ∀ g, v.ownBlock = some g → w'.heap[g]? = w.heap[g]?) : OS B w' v ss := by
  refine ⟨h.1, ?_⟩
  rcases h.2 with h0 | ⟨g, cap, cur, rfl, h3, h4, h5⟩
  · exact Or.inl h0
  · exact Or.inr ⟨g, cap, cur, rfl, h3, by rw [hb g rfl]; exact h4, h5⟩
theorem OS.below (h : OS B w v ss) (hb : Below w.heap.size w w') : OS B w' v ss := h.of_blocks fun g hg => hb.block g (h.lt g hg).2
theorem OS.mono (h : OS B w v ss) (hB : B' ≤ B) : OS B' w v ss := by
  refine ⟨h.1, ?_⟩
  rcases h.2 with h0 | ⟨g, cap, cur, e, h3, h4⟩
  · exact Or.inl h0
  · exact Or.inr ⟨g, cap, cur, e, Nat.le_trans hB h3, h4⟩
theorem OS.sl (h : OS B w v ss) : ∃ ao cap, v = .slice ao ss.length cap ∧ (0 < ss.length → ∃ g, B ≤ g ∧ ao = some ⟨g, 0, none⟩) ∧ ss.length ≤ cap ∧ cap ≤ maxLen := by
  rcases h.2 with ⟨e, h0⟩ | ⟨g, cap, cur, e, h3, h4, h5, h6, -⟩
  · exact ⟨none, 0, by rw [h0]; exact e, fun hl => by omega, by omega, by unfold maxLen; omega⟩
  · exact ⟨_, cap, e, fun _ => ⟨g, h3, rfl⟩, h5, h6⟩
theorem OS.blockE (h : OS B w v ss) {q : Nat} (hq : v.ownBlock = some q) : ∃ cs, w.heap[q]? = some (.cells cs 84 (0, 0)) := by
  rcases h.2 with ⟨rfl, h0⟩ | ⟨g', cap, cur, rfl, h3, h4, h5⟩
  · simp [Value.ownBlock] at hq
  · have e1 : g' = q := by simpa [Value.ownBlock] using hq
    subst e1; exact ⟨_, h4⟩
theorem OS.grown {wr : World} (hv : OS B wr v ss) (hbel : Below B w wr) (hB : B ≤ wr.heap.size) (hg : wr.grownBy w' v.ownBlock) : Below B w w' :=
  ⟨hg.os.trans hbel.os, hg.tape.trans hbel.tape, hg.output.trans hbel.output, Nat.le_trans hbel.size hg.size, fun q hq => by
    rw [hg.block q (Nat.lt_of_lt_of_le hq hB) (fun e => by have := (hv.lt q e.symm).1; omega)]; exact hbel.block q hq⟩
end
theorem flS_len (ss : List Stp) : (flS ss).length = 2 * ss.length := by
  induction ss with
  | nil => rfl
  | cons e ss ih => simp [flS, encS] at ih ⊢; omega
theorem flS_app (ss ts : List Stp) : flS (ss ++ ts) = flS ss ++ flS ts := by simp [flS]
theorem flS_get {ss : List Stp} {i : Nat} {s : Stp} (h : ss[i]? = some s) : (flS ss)[i * 2]? = some (.int .i64 s.1) ∧ (flS ss)[i * 2 + 1]? = some (.bool s.2) := by
  induction ss generalizing i with
  | nil => simp at h
  | cons e ss ih =>
    have hc : flS (e :: ss) = .int .i64 e.1 :: .bool e.2 :: flS ss := by simp [flS, encS]
    rw [hc]
    cases i with
    | zero => simp at h; subst h; exact ⟨rfl, rfl⟩
    | succ i =>
      obtain ⟨h1, h2⟩ := ih (i := i) (by simpa using h)
      exact ⟨by rw [show (i + 1) * 2 = i * 2 + 1 + 1 by omega]; simpa using h1, by rw [show (i + 1) * 2 + 1 = i * 2 + 1 + 1 + 1 by omega]; simpa using h2⟩
theorem OS.cell {B : Nat} {w : World} {g n cap : Nat} {ss : List Stp} (h : OS B w (.slice (some ⟨g, 0, none⟩) n cap) ss) {i : Nat} {s : Stp} (hs : ss[i]? = some s) : w.cell? ⟨g, i * 2, none⟩ = some (.int .i64 s.1) ∧ w.cell? ⟨g, i * 2 + 1, none⟩ = some (.bool s.2) := by
  obtain ⟨h1, h2⟩ := flS_get hs
  have get : ∀ (j : Nat) (x : Value), (flS ss)[j]? = some x → w.cell? ⟨g, j, none⟩ = some x := fun j x hx => by
    have hj : j < (flS ss).length := (List.getElem?_eq_some_iff.1 hx).1
    obtain ⟨ao, c, e, -⟩ := h.sl
    simp only [Value.slice.injEq] at e
    obtain ⟨-, e2, -⟩ := e
    subst e2
    have := World.ownsRow.cellAt h j (by rw [flS_len] at hj; omega)
    rw [this]; exact hx
  exact ⟨get _ _ h1, get _ _ h2⟩
theorem Tryz.infoST : (Tryz.prog.info? 84).map (fun i => (i.zero, i.size, i.bytes)) = some (some (.agg #[.int .i64 0, .bool false]), 2, 16) := by kernel_rfl
theorem wpList_pushS {P : Program} (w : World) {ops : Array Oper} {rest : List Oper} {o : Oper} {a : Act} {Q : Exit → Act → World → Prop} (hg : o.guard = none) (s x : Operand) (t : TypeId) (hop : o.op = .call { callee := .builtin .append, args := #[s, x], argTypes := #[t, t] })
    (B : Nat) (i : TypeInfo) (h1 : P.underlying t = some (.slice 84)) (h2 : P.info? 84 = some i) (h3 : i.zero = some (.agg #[.int .i64 0, .bool false])) (h4 : i.size = 2) (h5 : i.bytes = 16)
    (v : Value) (ss : List Stp) (hs : a.eval s = v) (hown : OS B w v ss) (gb : Nat) (z : Stp) (hx : a.eval x = .slice (some ⟨gb, 0, none⟩) 1 1) (c0 : w.cell? ⟨gb, 0, none⟩ = some (.int .i64 z.1)) (c1 : w.cell? ⟨gb, 1, none⟩ = some (.bool z.2)) (hl : ss.length ≤ 1000000) (hB : B ≤ w.heap.size)
    (hK : ∀ ng n ncap w', OS B w' (.slice (some ⟨ng, 0, none⟩) n ncap) (ss ++ [z]) → w.grownBy w' v.ownBlock → (v.ownBlock = some ng ∨ ng = w.heap.size) → ng < w'.heap.size → wpList P ops Q rest (a.put o.dst (.slice (some ⟨ng, 0, none⟩) n ncap)) w') : wpList P ops Q (o :: rest) a w := by
  refine wpList_plain hg fun K hK' => ?_
  refine wp_append_lies _ s x t hop B _ i _ 2 16 h1 h2 h3 h4 h5 rfl (by decide) v ss.length _ hs hown ⟨gb, 0, none⟩ 1 1 [.int .i64 z.1, .bool z.2] hx rfl (fun j u hj => by match j, hj with
    | 0, hj => simp at hj; subst hj; rw [Addr.add_lit, Nat.add_zero]; exact c0
    | 1, hj => simp at hj; subst hj; rw [Addr.add_lit]; exact c1) (by simp [Value.oneCell']) (by decide) (by unfold maxLen; omega) (by omega) hB _ rfl ?_
  intro ng ncap w' ho hg' hgg hlt
  refine hK' _ _ (hK ng _ ncap w' ?_ hg' hgg hlt)
  unfold OS
  rw [List.length_append, flS_app]
  exact ho
end Go.Proofs.YthdpomgpcblpeaaGreat

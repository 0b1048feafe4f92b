/-
  Proved here: a map from numbers to numbers of the call's own, told as a function; a row of the call's own that begins behind the front of its block.
-/
import Derived.Test.YtmgbhbdcnciccaaDagCyM
import Derived.Maps.OwnSet
namespace Go.Proofs.Ytmgbhbdcnciccaa
set_option linter.unusedVariables false
open Go.RowKit Go.Maps
theorem keyedI : Keyed Try.prog 3 := int_keyed Try.underlying3
theorem zeroI (w : World) : (zeroValue 3).run Try.prog w = .ok (.int .i64 0) w := by kernel_rfl
/-- Block b is a map of at most n entries that tells f. -/
def MpI (w : World) (b n : Nat) (f : Int → Option Int) : Prop :=
  ∃ D : DataW Unit, w.ownsMap Try.prog 3 (plainElem Try.prog 3) b n D ∧ ∀ x : Int, (f x = none → has D (.int .i64 x) = false) ∧ ∀ c, f x = some c → has D (.int .i64 x) = true ∧ D.atKey (.int .i64 x) (.lit (.int .i64 0)) = .lit (.int .i64 c)
theorem MpI.made (w : World) : MpI (w.alloc (.map #[] 0)) w.heap.size 0 (fun _ => none) :=
  ⟨_, World.ownsMap_made w _ _ _, fun x => ⟨fun _ => rfl, fun c h => by simp at h⟩⟩
theorem MpI.lt {w : World} {b n : Nat} {f : Int → Option Int} (h : MpI w b n f) : b < w.heap.size := by
  obtain ⟨D, hD, _⟩ := h; exact hD.lt
theorem MpI.of_block {w w' : World} {b n : Nat} {f : Int → Option Int} (h : MpI w b n f) (hb : w'.heap[b]? = w.heap[b]?) : MpI w' b n f := by
  obtain ⟨D, ⟨es, clock, h1, h2⟩, h3⟩ := h
  exact ⟨D, ⟨es, clock, hb.trans h1, h2⟩, h3⟩
theorem MpI.mono {w : World} {b n m : Nat} {f : Int → Option Int} (h : MpI w b n f) (hm : n ≤ m) : MpI w b m f := by
  obtain ⟨D, hD, h3⟩ := h; exact ⟨D, hD.mono hm, h3⟩
theorem MpI.congr {w : World} {b n : Nat} {f f' : Int → Option Int} (h : MpI w b n f) (e : ∀ x, f x = f' x) : MpI w b n f' := by
  obtain ⟨D, hD, h3⟩ := h; exact ⟨D, hD, fun x => by rw [← e x]; exact h3 x⟩
/-- A map is no row. -/
theorem MpI.ne {w : World} {b n : Nat} {f : Int → Option Int} (h : MpI w b n f) {q : Nat} {cs : Array Value} {t : Nat} {fr : Nat × Nat} (hq : w.heap[q]? = some (.cells cs t fr)) : b ≠ q := fun e => by
  obtain ⟨D, ⟨es, clock, h1, _⟩, _⟩ := h
  rw [e, hq] at h1
  simp at h1
section
variable {w : World} {ops : Array Oper} {rest : List Oper} {o : Oper} {a : Act} {Q : Exit → Act → World → Prop}
theorem wpList_mpLook (hg : o.guard = none) (m x : Operand) (hop : o.op = Op.lookup 71 m x false) (b n : Nat) (f : Int → Option Int) (hm : a.eval m = .map (some b)) (h : MpI w b n f)
    (k : Int) (hx : a.eval x = .int .i64 k) (hk : (Lit.int .i64 k).wf = true) (c : Int) (hc : f k = some c) (hK : wpList Try.prog ops Q rest (a.put o.dst (.int .i64 c)) w) : wpList Try.prog ops Q (o :: rest) a w := by
  obtain ⟨D, hD, h3⟩ := h
  refine wpList_lookup_own_int w hg m x 71 hop 3 3 .i64 keyedI Try.underlying71 Try.underlying3 (zeroI _) b n D hm hD _ _ hx (keyOf_int_mk Try.underlying3 hk) ?_
  intro c' h1 _
  obtain ⟨_, h4⟩ := (h3 k).2 c hc
  rw [h4] at h1
  have e : c = c' := by simpa using h1
  rw [← e]; exact hK
theorem wpList_mpLookOk (hg : o.guard = none) (m x : Operand) (hop : o.op = Op.lookup 71 m x true) (b n : Nat) (f : Int → Option Int) (hm : a.eval m = .map (some b)) (h : MpI w b n f)
    (k : Int) (hx : a.eval x = .int .i64 k) (hk : (Lit.int .i64 k).wf = true) (hK : wpList Try.prog ops Q rest (a.put o.dst (.tuple #[.int .i64 ((f k).getD 0), .bool (f k).isSome])) w) : wpList Try.prog ops Q (o :: rest) a w := by
  obtain ⟨D, hD, h3⟩ := h
  refine wpList_lookup_own_ok_int w hg m x 71 hop 3 3 .i64 keyedI Try.underlying71 Try.underlying3 (zeroI _) b n D hm hD _ _ hx (keyOf_int_mk Try.underlying3 hk) ?_
  intro c' h1 _
  rcases hf : f k with _ | c
  · have h4 := (h3 k).1 hf
    rw [atKey_of_not_has h4] at h1
    have e : (0 : Int) = c' := by simpa using h1
    rw [h4, ← e]
    rw [hf] at hK; exact hK
  · obtain ⟨h4, h5⟩ := (h3 k).2 c hf
    rw [h5] at h1
    have e : c = c' := by simpa using h1
    rw [h4, ← e]
    rw [hf] at hK; exact hK
theorem MpI.put {b n : Nat} {f : Int → Option Int} (h : MpI w b n f) (hn : n < maxLen) {k c : Int} (hk : (Lit.int .i64 k).wf = true) (hc : (Lit.int .i64 c).wf = true) :
    ∃ w', (Instr.mapUpdate 71 (.map (some b)) (.int .i64 k) (.int .i64 c)).run Try.prog w = .ok () w' ∧ MpI w' b (n + 1) (fun y => if y = k then some c else f y) ∧ w.grownBy w' (some b) := by
  obtain ⟨D, hD, h3⟩ := h
  obtain ⟨w', r0, r1, r2⟩ := hD.update keyedI Try.underlying71 hn (keyOf_int_mk Try.underlying3 hk) (plainElem_int Try.underlying3 hc)
  refine ⟨w', r0, ⟨_, r1, fun x => ?_⟩, r2⟩
  by_cases e : x = k
  · subst e
    refine ⟨fun h => by simp at h, fun c' h => ?_⟩
    simp at h
    subst h
    have hkl : WideAt.IsKeyLit (Lit.int .i64 x) := trivial
    exact ⟨has_put_same hD.isMap hkl _, atKey_put_same hD.isMap hkl _ _⟩
  · have hne : (Lit.int .i64 x) ≠ Lit.int .i64 k := fun e2 => e (by simpa using e2)
    simp only [if_neg e]
    rw [has_put_other hne, atKey_put_other hne]
    exact h3 x
theorem wpList_mpPut (hg : o.guard = none) (m x v : Operand) (hop : o.op = Op.mapUpdate 71 m x v ∨ o.op = Op.insert 71 m x v) (b n : Nat) (f : Int → Option Int) (hm : a.eval m = .map (some b)) (h : MpI w b n f) (hn : n < maxLen)
    (k c : Int) (hx : a.eval x = .int .i64 k) (hv : a.eval v = .int .i64 c) (hk : (Lit.int .i64 k).wf = true) (hc : (Lit.int .i64 c).wf = true)
    (hK : ∀ w', MpI w' b (n + 1) (fun y => if y = k then some c else f y) → w.grownBy w' (some b) → wpList Try.prog ops Q rest (a.put o.dst undef) w') : wpList Try.prog ops Q (o :: rest) a w := by
  refine wpList_plain hg fun K' hK' => ?_
  obtain ⟨w', hrun, r1, r2⟩ := h.put hn hk hc
  unfold Oper.wp
  rcases hop with hop | hop
  · simp [execOp, hop, hm, hx, hv, hrun, Result.andThen]
    exact hK' _ _ (hK w' r1 r2)
  · simp [execOp, hop, hm, hx, hv, hrun, Result.andThen]
    exact hK' _ _ (hK w' r1 r2)
end
/-! A row of the call's own that begins somewhere in its block. -/
def QG (B e : Nat) (w : World) (v : Value) (zs : List Int) : Prop :=
  ∃ g o cap cur, v = .slice (some ⟨g, o, none⟩) zs.length cap ∧ B ≤ g ∧ w.heap[g]? = some (.cells cur e (0, 0)) ∧ zs.length ≤ cap ∧ cap ≤ maxLen ∧ o + cap ≤ cur.size ∧ (cur.toList.drop o).take zs.length = zs.map (Value.int .i64)
section
variable {B e : Nat} {w w' : World} {v : Value} {zs : List Int}
theorem QG.lt (h : QG B e w v zs) : ∀ q, v.ownBlock = some q → B ≤ q ∧ q < w.heap.size := by
  obtain ⟨g, o, cap, cur, rfl, h1, h2, _⟩ := h
  intro q hq
  have e1 : g = q := by simpa [Value.ownBlock] using hq
  subst e1
  exact ⟨h1, (Array.getElem?_eq_some_iff.1 h2).1⟩
theorem QG.of_blocks (h : QG B e w v zs) (hb : ∀ q, v.ownBlock = some q → w'.heap[q]? = w.heap[q]?) : QG B e w' v zs := by
  obtain ⟨g, o, cap, cur, rfl, h1, h2, h3⟩ := h
  exact ⟨g, o, cap, cur, rfl, h1, (hb g rfl).trans h2, h3⟩
theorem QG.blockE (h : QG B e w v zs) {q : Nat} (hq : v.ownBlock = some q) : ∃ cs, w.heap[q]? = some (.cells cs e (0, 0)) := by
  obtain ⟨g, o, cap, cur, rfl, h1, h2, _⟩ := h
  have e1 : g = q := by simpa [Value.ownBlock] using hq
  subst e1; exact ⟨_, h2⟩
theorem QG.one {x : Int} (hB : B ≤ w.heap.size) : QG B e (w.alloc (.cells #[.int .i64 x] e)) (.slice (some ⟨w.heap.size, 0, none⟩) 1 1) [x] :=
  ⟨w.heap.size, 0, 1, _, rfl, hB, heap_alloc_new w _, Nat.le_refl _, by unfold maxLen; omega, Nat.le_refl _, rfl⟩
theorem QG.rg (h : QG B e w v zs) : RG (Value.int .i64) w v zs := by
  obtain ⟨g, o, cap, cur, rfl, h1, h2, h3, h4, h5, h6⟩ := h
  refine ⟨_, cap, rfl, h3, h4, fun e => by simp at e, fun i x hx => ⟨g, o, rfl, ?_⟩⟩
  rw [cell_of_row w g _ _ _ _ h2]
  have hi : i < zs.length := (List.getElem?_eq_some_iff.1 hx).1
  have : ((cur.toList.drop o).take zs.length)[i]? = some (.int .i64 x) := by rw [h6, List.getElem?_map, hx]; rfl
  rw [List.getElem?_take_of_lt hi, List.getElem?_drop] at this
  simpa using this
theorem QG.tail {x : Int} {g o n cap : Nat} (h : QG B e w (.slice (some ⟨g, o, none⟩) n cap) (x :: zs)) : QG B e w (.slice (some ⟨g, o + 1, none⟩) (n - 1) (cap - 1)) zs := by
  obtain ⟨g', o', cap', cur, e1, h1, h2, h3, h4, h5, h6⟩ := h
  simp only [Value.slice.injEq, Option.some.injEq, Addr.mk.injEq, and_true] at e1
  obtain ⟨⟨rfl, rfl⟩, rfl, rfl⟩ := e1
  rw [List.length_cons] at h3 h6
  refine ⟨g, o + 1, cap - 1, cur, by simp, h1, h2, by omega, by omega, by omega, ?_⟩
  have hd : cur.toList.drop o = cur.toList.drop o := rfl
  rcases hc : cur.toList.drop o with _ | ⟨y, ys⟩
  · rw [hc] at h6; simp at h6
  · rw [hc] at h6
    simp only [List.take_succ_cons, List.map_cons, List.cons.injEq] at h6
    have : cur.toList.drop (o + 1) = ys := by rw [← List.drop_drop, hc]; rfl
    rw [this]; exact h6.2
theorem QG.tail0 {x : Int} {g o n : Nat} (h : QG B e w (.slice (some ⟨g, o, none⟩) n 1) (x :: zs)) : QG B e w (.slice (some ⟨g, o, none⟩) (n - 1) 0) zs := by
  obtain ⟨g', o', cap', cur, e1, h1, h2, h3, h4, h5, h6⟩ := h
  simp only [Value.slice.injEq, Option.some.injEq, Addr.mk.injEq, and_true] at e1
  obtain ⟨⟨rfl, rfl⟩, rfl, rfl⟩ := e1
  rw [List.length_cons] at h3
  have hz : zs = [] := List.eq_nil_of_length_eq_zero (by omega)
  subst hz
  exact ⟨g, o, 0, cur, by simp, h1, h2, by simp, by simp, by omega, by simp⟩
end
theorem run_append_at {P : Program} (w : World) (t ty e : TypeId) (i : TypeInfo) (ht : P.underlying t = some (.slice e)) (hi : P.info? e = some i) (h1 : i.size = 1)
    (g o sLen sCap : Nat) (cur : Array Value) (hg : w.heap[g]? = some (.cells cur e (0, 0))) (gb : Nat) (u : Value) (hb : w.cell? ⟨gb, 0, none⟩ = some u) (hu : u.oneCell' = true)
    (hroom : sLen + 1 ≤ sCap) (hfit : o + sLen + 1 ≤ cur.size) :
    (Builtin.append_ #[t, t] ty #[.slice (some ⟨g, o, none⟩) sLen sCap, .slice (some ⟨gb, 0, none⟩) 1 1]).run P w =
      .ok (.slice (some ⟨g, o, none⟩) (sLen + 1) sCap) (w.setRow g (cur.toList.take (o + sLen) ++ [u] ++ cur.toList.drop (o + sLen + 1)).toArray) := by
  have hf := run_firstCells_some (P := P) w i.size 1 ⟨gb, 0, none⟩ 1 1 [u] (by simp [h1]) (fun j x hj => by
    match j, hj with
    | 0, hj => simp at hj; subst hj; rw [Addr.add_lit, Nat.add_zero]; exact hb)
  have hst := run_storeCells_at P g (o + sLen) e [u] 0 cur w hg (by simpa using hfit) (by simpa using hu)
  simp only [Nat.add_zero, List.length_singleton] at hst
  rw [h1] at hf
  simp at hst
  simp [Builtin.append_, run_underlying ht, sizeOf, typeInfo, hi, Builtin.lenOf, hroom, hf, Addr.add_lit, h1, hst]
/-- An append of one number to such a row: it stays, or moves to the end. -/
theorem wpList_pushQ {P : Program} {w : World} {ops : Array Oper} {rest : List Oper} {o : Oper} {a : Act} {Q : Exit → Act → World → Prop} (hg : o.guard = none) (s x : Operand) (t : TypeId) (hop : o.op = .call { callee := .builtin .append, args := #[s, x], argTypes := #[t, t] })
    (B : Nat) (e : TypeId) (i : TypeInfo) (h1 : P.underlying t = some (.slice e)) (h2 : P.info? e = some i) (h3 : i.zero = some (.int .i64 0)) (h4 : i.size = 1) (h5 : i.bytes = 8)
    (v : Value) (L : List Int) (hs : a.eval s = v) (hown : QG B e w v L) (gb : Nat) (z : Int) (hx : a.eval x = .slice (some ⟨gb, 0, none⟩) 1 1) (cb : w.cell? ⟨gb, 0, none⟩ = some (.int .i64 z)) (hl : L.length ≤ 1000000) (hB : B ≤ w.heap.size)
    (hK : ∀ ng no nn nc w', QG B e w' (.slice (some ⟨ng, no, none⟩) nn nc) (L ++ [z]) → w.grownBy w' v.ownBlock → (v.ownBlock = some ng ∨ ng = w.heap.size) → wpList P ops Q rest (a.put o.dst (.slice (some ⟨ng, no, none⟩) nn nc)) w') : wpList P ops Q (o :: rest) a w := by
  refine wpList_plain hg fun K hK' => ?_
  obtain ⟨g, off, cap, cur, rfl, hb1, hb2, hb3, hb4, hb5, hb6⟩ := hown
  have fin : ∀ ng no nn nc w', (Builtin.append_ #[t, t] o.type #[.slice (some ⟨g, off, none⟩) L.length cap, .slice (some ⟨gb, 0, none⟩) 1 1]).run P w = .ok (.slice (some ⟨ng, no, none⟩) nn nc) w' → QG B e w' (.slice (some ⟨ng, no, none⟩) nn nc) (L ++ [z]) → w.grownBy w' (some g) → (ng = g ∨ ng = w.heap.size) → o.wp P a w K Q := by
    intro ng no nn nc w' hr h2 h3 h4
    unfold Oper.wp execOp
    simp only [hop, resolve, invoke, builtin, Sem.run_bind, Sem.run_pure, Result.andThen_ok, List.map_toArray, List.map_cons, List.map_nil, hs, hx, hr]
    exact hK' _ _ (hK ng no nn nc w' h2 h3 (h4.imp (fun e => by rw [e]; rfl) id))
  have hcm : ∀ u ∈ [Value.int .i64 z], u.oneCell' = true := by intro u hu; simp at hu; subst hu; rfl
  by_cases hroom : L.length + 1 ≤ cap
  · have hr := run_append_at (P := P) w t o.type e i h1 h2 h4 g off L.length cap cur hb2 gb _ cb rfl hroom (by omega)
    refine fin _ _ _ _ _ hr ⟨g, off, cap, _, by simp, hb1, setRow_heap w g cur _ e _ hb2, by simpa using hroom, hb4, ?_, ?_⟩ ⟨rfl, rfl, rfl, by simp, fun k _ hk => setRow_other w g k _ (fun e => hk (by rw [e]))⟩ (Or.inl rfl)
    · simp only [List.size_toArray, List.length_append, List.length_take, List.length_drop, Array.length_toList, List.length_singleton]
      omega
    · have hcl : off + cap ≤ cur.toList.length := by rw [Array.length_toList]; exact hb5
      have e1 : cur.toList.take (off + L.length) = cur.toList.take off ++ L.map (Value.int .i64) := by rw [List.take_add, hb6]
      have hl2 : (cur.toList.take off).length = off := by rw [List.length_take]; omega
      show (List.drop off (cur.toList.take (off + L.length) ++ [Value.int .i64 z] ++ cur.toList.drop (off + L.length + 1))).take (L ++ [z]).length = _
      rw [e1, List.append_assoc, List.append_assoc, List.drop_append_of_le_length (by rw [hl2]; exact Nat.le_refl _), List.drop_eq_nil_of_le (by rw [hl2]; exact Nat.le_refl _), List.nil_append, ← List.append_assoc, List.map_append]
      exact List.take_left' (by simp)
  · have holds : ∀ j u, (L.map (Value.int .i64))[j]? = some u → w.cell? ((⟨g, off, none⟩ : Addr).add j) = some u := fun j u hj => by
      have hq : QG B e w (.slice (some ⟨g, off, none⟩) L.length cap) L := ⟨g, off, cap, cur, rfl, hb1, hb2, hb3, hb4, hb5, hb6⟩
      rw [List.getElem?_map] at hj
      cases hj2 : L[j]? with
      | none => rw [hj2] at hj; simp at hj
      | some y =>
        rw [hj2] at hj; simp at hj; subst hj
        obtain ⟨ao, c2, e1, _, _, _, hc⟩ := hq.rg
        obtain ⟨g2, o2, e2, e3⟩ := hc j y hj2
        simp only [Value.slice.injEq] at e1
        rw [← e1.1] at e2
        simp only [Option.some.injEq, Addr.mk.injEq, and_true] at e2
        obtain ⟨rfl, rfl⟩ := e2
        rw [Addr.add_lit]; exact e3
    have hr := run_append_grow (P := P) w t o.type e i (.int .i64 0) h1 h2 h3 ⟨g, off, none⟩ L.length cap (L.map (Value.int .i64)) (by simp [h4]) holds ⟨gb, 0, none⟩ 1 1 [.int .i64 z] (by simp [h4]) (fun j u hj => by
      match j, hj with
      | 0, hj => simp at hj; subst hj; rw [Addr.add_lit, Nat.add_zero]; exact cb) (by omega) (by omega) (growslice_fits (by omega) (by rw [h5]; omega))
    have hge := grownCap_ge w (L.length + 1) cap e
    have hcm2 : grownCap w (L.length + 1) cap e ≤ maxLen := grownCap_le_maxLen w (L.length + 1) cap e (by unfold maxLen; omega)
    refine fin _ _ _ _ _ hr ⟨w.heap.size, 0, _, _, by simp, hB, heap_alloc_new w.drew _, by simpa using hge, hcm2, ?_, ?_⟩ ⟨rfl, rfl, rfl, by simp, fun k hk _ => (heap_alloc_old w.drew _ hk)⟩ (Or.inr rfl)
    · simp only [Array.size_append, List.size_toArray, size_zeroCells, List.length_map, List.length_singleton]
      rw [show (Value.int .i64 0).cells.size = 1 from rfl, Nat.mul_one]
      omega
    · simp only [Array.toList_append, List.append_assoc, List.drop_zero, List.map_append]
      rw [← List.append_assoc]
      exact List.take_left' (by simp)
end Go.Proofs.Ytmgbhbdcnciccaa

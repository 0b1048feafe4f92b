/-
  Proved here, plain mathematics: what a taken point changes in who waits, and in the line of those that wait for none.
  Proved here: package dag's turned: those that hang on each point.
-/
import Derived.Test.YthdpomgpcblpeaaGreatDagMAll
namespace Go.Proofs.YthdpomgpcblpeaaGreat
set_option linter.unusedVariables false
/-- A heap that holds just the points of a kind. -/
structure LnOk (n : Nat) (L : List Int) (R : Nat → Prop) : Prop where
  nd : L.Nodup
  hp : HeapN L L.length
  iff : ∀ x, x ∈ L ↔ ∃ i : Nat, i < n ∧ x = (i : Int) ∧ R i
theorem LnOk.nil {n : Nat} {R : Nat → Prop} (h : ∀ i, i < n → ¬ R i) : LnOk n [] R := ⟨List.nodup_nil, fun i _ h => by simp at h, fun x => ⟨fun h => by simp at h, fun ⟨i, h1, _, h3⟩ => absurd h3 (h i h1)⟩⟩
theorem LnOk.congr {n : Nat} {L : List Int} {R R' : Nat → Prop} (h : LnOk n L R) (e : ∀ i, i < n → (R i ↔ R' i)) : LnOk n L R' :=
  ⟨h.nd, h.hp, fun x => (h.iff x).trans ⟨fun ⟨i, h1, h2, h3⟩ => ⟨i, h1, h2, (e i h1).1 h3⟩, fun ⟨i, h1, h2, h3⟩ => ⟨i, h1, h2, (e i h1).2 h3⟩⟩⟩
theorem LnOk.len {n : Nat} {L : List Int} {R : Nat → Prop} (h : LnOk n L R) : L.length ≤ n := Pts.len ⟨h.nd, fun x hx => by obtain ⟨i, h1, rfl, _⟩ := (h.iff x).1 hx; omega⟩
theorem LnOk.push {n : Nat} {L : List Int} {R : Nat → Prop} (h : LnOk n L R) {i : Nat} (hi : i < n) (hn : ¬ R i) : LnOk n (upL (L ++ [(i : Int)]) L.length) (fun j => R j ∨ j = i) := by
  have hp := upL_perm L (i : Int)
  have hni : (i : Int) ∉ L := fun hm => by obtain ⟨j, _, e, hR⟩ := (h.iff _).1 hm; have : j = i := by omega
                                           subst this; exact hn hR
  refine ⟨hp.nodup_iff.2 ?_, ?_, fun x => hp.mem_iff.trans ?_⟩
  · rw [List.nodup_append]
    refine ⟨h.nd, by simp, fun a ha b hb e => ?_⟩
    rw [List.mem_singleton] at hb
    subst hb; subst e
    exact hni ha
  · rw [upL_len]; exact upL_push h.hp _
  · rw [List.mem_append, List.mem_singleton, h.iff]
    constructor
    · rintro (⟨j, h1, h2, h3⟩ | rfl)
      · exact ⟨j, h1, h2, Or.inl h3⟩
      · exact ⟨i, hi, rfl, Or.inr rfl⟩
    · rintro ⟨j, h1, h2, h3 | rfl⟩
      · exact Or.inl ⟨j, h1, h2, h3⟩
      · exact Or.inr h2
theorem LnOk.pop {n m : Nat} {L : List Int} {R : Nat → Prop} (h : LnOk n L R) (hl : L.length = m + 1) : ∃ i : Nat, i < n ∧ L.getD 0 0 = (i : Int) ∧ R i ∧ (∀ j, j < i → ¬ R j) ∧ LnOk n (popL L m) (fun j => R j ∧ j ≠ i) := by
  have hp := popL_perm hl
  have h0 : L.getD 0 0 ∈ L := hp.mem_iff.1 (by simp)
  obtain ⟨i, hi, e, hR⟩ := (h.iff _).1 h0
  have hnd : (L.getD 0 0 :: popL L m).Nodup := hp.nodup_iff.2 h.nd
  rw [List.nodup_cons] at hnd
  refine ⟨i, hi, e, hR, fun j hj hRj => ?_, hnd.2, ?_, fun x => ?_⟩
  · have hm : (j : Int) ∈ L := (h.iff _).2 ⟨j, by omega, rfl, hRj⟩
    obtain ⟨k, hk, ek⟩ := List.getElem_of_mem hm
    have := h.hp.least k hk
    rw [e, List.getD_eq_getElem?_getD, List.getElem?_eq_getElem hk] at this
    simp only [Option.getD_some, ek] at this
    omega
  · rw [popL_len hl]; exact popL_heap hl (hl ▸ h.hp)
  · constructor
    · intro hx
      obtain ⟨j, h1, rfl, h3⟩ := (h.iff x).1 (hp.mem_iff.1 (List.mem_cons_of_mem _ hx))
      exact ⟨j, h1, rfl, h3, fun e2 => hnd.1 (by rw [e, ← e2]; exact hx)⟩
    · rintro ⟨j, h1, rfl, h3, h4⟩
      have hm := hp.mem_iff.2 ((h.iff _).2 ⟨j, h1, rfl, h3⟩)
      rcases List.mem_cons.1 hm with e2 | e2
      · exact absurd (by omega) h4
      · exact e2
/-- What stands in the line while a point's children are gone through. -/
def TkR (P : List (List Int)) (T : List Int) (pt : Nat) (pre : List Int) (i : Nat) : Prop := (rdy P T i ∧ i ≠ pt) ∨ ((i : Int) ∈ pre ∧ rdy P (T ++ [(pt : Int)]) i)
theorem tk_start {P : List (List Int)} {T : List Int} {pt i : Nat} : (rdy P T i ∧ i ≠ pt) ↔ TkR P T pt [] i := by simp [TkR]
theorem tk_yes {P : List (List Int)} {T : List Int} {pt c i : Nat} {pre : List Int} (h : rdy P (T ++ [(pt : Int)]) c) : (TkR P T pt pre i ∨ i = c) ↔ TkR P T pt (pre ++ [(c : Int)]) i := by
  unfold TkR
  rw [List.mem_append, List.mem_singleton]
  constructor
  · rintro ((h1 | h1) | rfl)
    · exact Or.inl h1
    · exact Or.inr ⟨Or.inl h1.1, h1.2⟩
    · exact Or.inr ⟨Or.inr rfl, h⟩
  · rintro (h1 | ⟨h1 | h1, h2⟩)
    · exact Or.inl (Or.inl h1)
    · exact Or.inl (Or.inr ⟨h1, h2⟩)
    · exact Or.inr (by omega)
theorem tk_no {P : List (List Int)} {T : List Int} {pt c i : Nat} {pre : List Int} (h : ¬ rdy P (T ++ [(pt : Int)]) c) : TkR P T pt pre i ↔ TkR P T pt (pre ++ [(c : Int)]) i := by
  unfold TkR
  rw [List.mem_append, List.mem_singleton]
  constructor
  · rintro (h1 | h1)
    · exact Or.inl h1
    · exact Or.inr ⟨Or.inl h1.1, h1.2⟩
  · rintro (h1 | ⟨h1 | h1, h2⟩)
    · exact Or.inl h1
    · exact Or.inr ⟨h1, h2⟩
    · have : i = c := by omega
      subst this; exact absurd h2 h
theorem tk_new {P : List (List Int)} {T : List Int} {pt c : Nat} {pre : List Int} (hm : (pt : Int) ∈ P.getD c []) (hT : (pt : Int) ∉ T) (hp : (c : Int) ∉ pre) : ¬ TkR P T pt pre c := by
  rintro (⟨h, _⟩ | ⟨h, _⟩)
  · exact hT (h.2 _ hm)
  · exact hp h
theorem tk_end {P : List (List Int)} {T : List Int} {pt : Nat} {ch : List Int} (hch : ∀ i : Nat, i < P.length → ((i : Int) ∈ ch ↔ (pt : Int) ∈ P.getD i [])) (hpt : rdy P T pt) {i : Nat} (hi : i < P.length) : TkR P T pt ch i ↔ rdy P (T ++ [(pt : Int)]) i := by
  constructor
  · rintro (⟨h, hne⟩ | ⟨_, h⟩)
    · refine ⟨fun hm => ?_, fun p hp => List.mem_append_left _ (h.2 p hp)⟩
      rcases List.mem_append.1 hm with e | e
      · exact h.1 e
      · rw [List.mem_singleton] at e; omega
    · exact h
  · intro h
    by_cases hm : (pt : Int) ∈ P.getD i []
    · exact Or.inr ⟨(hch i hi).2 hm, h⟩
    · refine Or.inl ⟨⟨fun e => h.1 (List.mem_append_left _ e), fun p hp => ?_⟩, fun e => h.1 (by subst e; simp)⟩
      rcases List.mem_append.1 (h.2 p hp) with e | e
      · exact e
      · rw [List.mem_singleton] at e; subst e; exact absurd hp hm
/-- Who waits for how many while a point's children are gone through. -/
structure WtR (P : List (List Int)) (T : List Int) (pre : List Int) (Wt : List Int) : Prop where
  len : Wt.length = P.length
  at' : ∀ i : Nat, i < P.length → Wt.getD i 0 = (cntW P T i : Int) - (if (i : Int) ∈ pre then 1 else 0)
theorem getD_set {L : List Int} {i j : Nat} {x : Int} (h : i < L.length) : (L.set i x).getD j 0 = if j = i then x else L.getD j 0 := by
  rw [List.getD_eq_getElem?_getD, List.getElem?_set]
  by_cases e : i = j
  · subst e; simp [h]
  · rw [if_neg e, if_neg (fun e2 => e e2.symm), List.getD_eq_getElem?_getD]
theorem WtR.step {P : List (List Int)} {T pre Wt : List Int} (h : WtR P T pre Wt) {c : Nat} (hc : c < P.length) (hp : (c : Int) ∉ pre) : Wt.getD c 0 = (cntW P T c : Int) ∧ WtR P T (pre ++ [(c : Int)]) (Wt.set c ((cntW P T c : Int) - 1)) := by
  have h1 : Wt.getD c 0 = (cntW P T c : Int) := by rw [h.at' c hc, if_neg hp]; omega
  refine ⟨h1, by rw [List.length_set]; exact h.len, fun i hi => ?_⟩
  rw [getD_set (by rw [h.len]; exact hc)]
  by_cases e : i = c
  · subst e; rw [if_pos rfl, if_pos (by simp)]
  · rw [if_neg e, h.at' i hi]
    have : ((i : Int) ∈ pre ++ [(c : Int)]) ↔ ((i : Int) ∈ pre) := by
      rw [List.mem_append, List.mem_singleton]
      exact ⟨fun h => h.resolve_right (by omega), Or.inl⟩
    simp only [this]
theorem WtR.done {P : List (List Int)} {T ch Wt : List Int} {pt : Nat} (h : WtR P T ch Wt) (hch : ∀ i : Nat, i < P.length → ((i : Int) ∈ ch ↔ (pt : Int) ∈ P.getD i [])) (hnd : ∀ i, (P.getD i []).Nodup) (hpt : (pt : Int) ∉ T) : WtR P (T ++ [(pt : Int)]) [] Wt :=
  ⟨h.len, fun i hi => by
    have := cnt_step (P := P) (T := T) (pt := pt) (hnd i) hpt
    rw [h.at' i hi]
    simp only [hch i hi]
    split at this <;> simp_all <;> omega⟩
theorem rdy_zero {P : List (List Int)} {T : List Int} {pt c : Nat} (hnd : (P.getD c []).Nodup) (hm : (pt : Int) ∈ P.getD c []) (hpt : (pt : Int) ∉ T) : rdy P (T ++ [(pt : Int)]) c ↔ ((cntW P T c : Int) - 1 = 0 ∧ (c : Int) ∉ T ++ [(pt : Int)]) := by
  have h1 := cnt_step (P := P) (T := T) (pt := pt) hnd hpt
  rw [if_pos hm] at h1
  unfold rdy
  rw [← cnt_zero]
  constructor
  · rintro ⟨a, b⟩; exact ⟨by omega, a⟩
  · rintro ⟨a, b⟩; exact ⟨b, by omega⟩
end Go.Proofs.YthdpomgpcblpeaaGreat

namespace Go.Proofs.YthdpomgpcblpeaaGreat
set_option linter.unusedVariables false
open Go.RowKit
/-- Rows of rows that can be read. -/
structure RRD (w : World) (v : Value) (pvs : List Value) (P : List (List Int)) : Prop where
  out : RG id w v pvs
  len : pvs.length = P.length
  inn : ∀ (i : Nat) (x : Value), pvs[i]? = some x → RG (Value.int .i64) w x (P.getD i [])
theorem RRD.below {B : Nat} {w w' : World} {v : Value} {pvs : List Value} {P : List (List Int)} (h : RRD w v pvs P) (hB : w.heap.size ≤ B) (hb : Below B w w') : RRD w' v pvs P :=
  ⟨h.out.below hB hb, h.len, fun i x hx => (h.inn i x hx).below hB hb⟩
/-- Those of the first points that hang on one. -/
def chF (P : List (List Int)) (j i : Nat) : List Int := ((List.range i).filter (fun q => decide ((j : Int) ∈ P.getD q []))).map Int.ofNat
/-- While point i's first k parents are gone through. -/
def chK (P : List (List Int)) (i k j : Nat) : List Int := chF P j i ++ if (j : Int) ∈ (P.getD i []).take k then [(i : Int)] else []
theorem chK_zero (P : List (List Int)) (i j : Nat) : chK P i 0 j = chF P j i := by simp [chK]
theorem chF_succ (P : List (List Int)) (i j : Nat) : chF P j (i + 1) = chF P j i ++ if (j : Int) ∈ P.getD i [] then [(i : Int)] else [] := by
  unfold chF
  rw [List.range_succ, List.filter_append, List.map_append]
  by_cases h : (j : Int) ∈ P.getD i []
  · rw [if_pos h]; simp only [List.filter_cons, List.filter_nil, decide_eq_true h, if_true, List.map_cons, List.map_nil]; rfl
  · rw [if_neg h]; simp only [List.filter_cons, List.filter_nil, decide_eq_false h, Bool.false_eq_true, if_false, List.map_nil]
theorem chK_end (P : List (List Int)) {i k : Nat} (j : Nat) (h : (P.getD i []).length ≤ k) : chK P i k j = chF P j (i + 1) := by
  rw [chF_succ, chK, List.take_of_length_le h]
theorem chF_len (P : List (List Int)) (j i : Nat) : (chF P j i).length ≤ i := by
  unfold chF
  rw [List.length_map]
  exact Nat.le_trans (List.length_filter_le _ _) (by simp)
theorem chK_step {P : List (List Int)} {i k p : Nat} (hnd : (P.getD i []).Nodup) (hk : (P.getD i [])[k]? = some (p : Int)) (j : Nat) : chK P i (k + 1) j = if j = p then chK P i k j ++ [(i : Int)] else chK P i k j := by
  unfold chK
  have hlt : k < (P.getD i []).length := (List.getElem?_eq_some_iff.1 hk).1
  have e1 : (P.getD i []).take (k + 1) = (P.getD i []).take k ++ [(p : Int)] := by rw [List.take_add_one, hk]; rfl
  have hn : (p : Int) ∉ (P.getD i []).take k := by
    intro hm
    have h2 : ((P.getD i []).take (k + 1)).Nodup := hnd.sublist (List.take_sublist _ _)
    rw [e1, List.nodup_append] at h2
    exact h2.2.2 _ hm _ (by simp) rfl
  rw [e1]
  by_cases h : j = p
  · subst h; rw [if_pos (by simp), if_pos rfl, if_neg hn]; simp
  · rw [if_neg h]
    have : ((j : Int) ∈ (P.getD i []).take k ++ [(p : Int)]) ↔ ((j : Int) ∈ (P.getD i []).take k) := by
      rw [List.mem_append, List.mem_singleton]
      exact ⟨fun h2 => h2.resolve_right (by omega), Or.inl⟩
    simp only [this]
/-- Rows of rows of the call's own, apart from one another. -/
structure TuC (B : Nat) (w W : World) (g n : Nat) (cvs : List Value) (C : Nat → List Int) : Prop where
  frm : Below B w W
  row : OG id B 23 W (.slice (some ⟨g, 0, none⟩) n n) cvs
  inn : ∀ (j : Nat) (v : Value), cvs[j]? = some v → OG (Value.int .i64) B 3 W v (C j)
  apt : ∀ (i j : Nat) (u v : Value), i ≠ j → cvs[i]? = some u → cvs[j]? = some v → ∀ q, u.ownBlock = some q → v.ownBlock ≠ some q
theorem TuC.len {B : Nat} {w W : World} {g n : Nat} {cvs : List Value} {C : Nat → List Int} (h : TuC B w W g n cvs C) : cvs.length = n := h.row.rg.len
theorem TuC.congr {B : Nat} {w W : World} {g n : Nat} {cvs : List Value} {C C' : Nat → List Int} (h : TuC B w W g n cvs C) (e : ∀ j, C j = C' j) : TuC B w W g n cvs C' :=
  ⟨h.frm, h.row, fun j v hv => by rw [← e j]; exact h.inn j v hv, h.apt⟩
theorem OG.blockE {α : Type} {enc : α → Value} {B e : Nat} {w : World} {v : Value} {L : List α} (h : OG enc B e w v L) {q : Nat} (hq : v.ownBlock = some q) : ∃ cs, w.heap[q]? = some (.cells cs e (0, 0)) := by
  rcases h.2 with ⟨rfl, h0⟩ | ⟨g', cap, cur, rfl, h3, h4, h5⟩
  · simp [Value.ownBlock] at hq
  · have e1 : g' = q := by simpa [Value.ownBlock] using hq
    subst e1; exact ⟨_, h4⟩
theorem OG.neO {α β : Type} {enc : α → Value} {enc' : β → Value} {B B' e e' : Nat} {w : World} {u v : Value} {L : List α} {M : List β} (h : OG enc B e w u L) (h' : OG enc' B' e' w v M) (hne : e ≠ e') {q : Nat} (hq : u.ownBlock = some q) : v.ownBlock ≠ some q := fun hv => by
  obtain ⟨cs, hc⟩ := h'.blockE hv
  exact h.neT hc hne hq
theorem TuC.mid {B : Nat} {w W W1 W2 : World} {g n : Nat} {cvs : List Value} {C : Nat → List Int} (h : TuC B w W g n cvs C) {p : Nat} {v : Value} (hp : cvs[p]? = some v) (b1 : Below W.heap.size W W1) (hg : W1.grownBy W2 v.ownBlock) : OG id B 23 W2 (.slice (some ⟨g, 0, none⟩) n n) cvs := by
  have hv := h.inn p v hp
  have hgl := h.row.lt g rfl
  refine h.row.of_blocks fun q hq => ?_
  have e1 : g = q := by simpa [Value.ownBlock] using hq
  subst e1
  rw [hg.block _ (Nat.lt_of_lt_of_le hgl.2 b1.size) (fun e => hv.neO h.row (by decide) e.symm rfl), b1.block _ hgl.2]
theorem TuC.put {B : Nat} {w W W1 W2 : World} {g n : Nat} {cvs : List Value} {C : Nat → List Int} (h : TuC B w W g n cvs C) (hB : B ≤ W.heap.size) {p : Nat} {v : Value} (hp : cvs[p]? = some v) {x : Int} {ng m cap : Nat} (b1 : Below W.heap.size W W1) (ho : OG (Value.int .i64) B 3 W2 (.slice (some ⟨ng, 0, none⟩) m cap) (C p ++ [x])) (hg : W1.grownBy W2 v.ownBlock) (hn : v.ownBlock = some ng ∨ ng = W1.heap.size) :
    TuC B w (W2.setCell ⟨g, p, none⟩ (.slice (some ⟨ng, 0, none⟩) m cap)) g n (cvs.set p (.slice (some ⟨ng, 0, none⟩) m cap)) (fun j => if j = p then C j ++ [x] else C j) := by
  have hl := h.len
  have hpl : p < cvs.length := (List.getElem?_eq_some_iff.1 hp).1
  have hv := h.inn p v hp
  have hgl := h.row.lt g rfl
  have hrow1 := h.mid hp b1 hg
  have hset := hrow1.set hl p (.slice (some ⟨ng, 0, none⟩) m cap)
  have hnew : ∀ (j : Nat) (u : Value), j ≠ p → cvs[j]? = some u → u.ownBlock ≠ some ng := fun j u hj hu e => by
    rcases hn with e2 | e2
    · exact h.apt j p u v hj hu hp ng e e2
    · have := ((h.inn j u hu).lt ng e).2
      have := b1.size
      omega
  refine ⟨?_, hset.1, fun j u hu => ?_, fun i j u u' hij hu hu' q hq => ?_⟩
  · have k1 : Below B W W2 := ⟨hg.os.trans b1.os, hg.tape.trans b1.tape, hg.output.trans b1.output, Nat.le_trans b1.size hg.size, fun q hq => by
      rw [hg.block q (Nat.lt_of_lt_of_le (Nat.lt_of_lt_of_le hq hB) b1.size) (fun e => by have := (hv.lt q e.symm).1; omega), b1.block q (Nat.lt_of_lt_of_le hq hB)]⟩
    exact (h.frm.trans k1).setCell (p := ⟨g, p, none⟩) hgl.1 _
  · rw [List.getElem?_set] at hu
    by_cases e : p = j
    · subst e
      rw [if_pos rfl, if_pos hpl] at hu
      simp only [Option.some.injEq] at hu
      subst hu
      rw [if_pos rfl]
      refine ho.of_blocks fun q hq => Below.heap_setCell _ _ _ _ (fun e2 => ?_)
      have e3 : q = g := e2
      subst e3
      exact ho.neO hrow1 (by decide) hq rfl
    · rw [if_neg e] at hu
      rw [if_neg (fun e2 => e e2.symm)]
      have hu1 := h.inn j u hu
      refine hu1.of_blocks fun q hq => ?_
      have hq2 := (hu1.lt q hq).2
      rw [Below.heap_setCell _ _ _ _ (fun e2 => hu1.neO h.row (by decide) hq (by have e3 : q = g := e2; rw [e3]; rfl)), hg.block q (Nat.lt_of_lt_of_le hq2 b1.size) (fun e2 => h.apt j p u v (fun e3 => e e3.symm) hu hp q hq e2.symm), b1.block q hq2]
  · rw [List.getElem?_set] at hu hu'
    by_cases e : p = i
    · subst e
      rw [if_pos rfl, if_pos hpl] at hu
      rw [if_neg hij] at hu'
      simp only [Option.some.injEq] at hu
      subst hu
      have e1 : ng = q := by simpa [Value.ownBlock] using hq
      subst e1
      exact hnew j u' (fun e2 => hij e2.symm) hu'
    · rw [if_neg e] at hu
      by_cases e2 : p = j
      · subst e2
        rw [if_pos rfl, if_pos hpl] at hu'
        simp only [Option.some.injEq] at hu'
        subst hu'
        intro e3
        have e4 : ng = q := by simpa [Value.ownBlock] using e3
        subst e4
        exact hnew i u hij hu hq
      · rw [if_neg e2] at hu'
        exact h.apt i j u u' hij hu hu' q hq
end Go.Proofs.YthdpomgpcblpeaaGreat

/-
  Proved here: package dag's turned: those that hang on each point.
-/
import Derived.Test.YtmgbhbdcnciccaaDagGAll
import Derived.Test.YtmgbhbdcnciccaaDagM2
namespace Go.Proofs.Ytmgbhbdcnciccaa
set_option linter.unusedVariables false
open Go.RowKit
/-- Rows of rows that can be read. -/
structure RRD (w : World) (v : Value) (pvs : List Value) (P : List (List Int)) : Prop where
  out : RG id w v pvs
  len : pvs.length = P.length
  inn : ∀ (i : Nat) (x : Value), pvs[i]? = some x → RG (Value.int .i64) w x (P.getD i [])
theorem RRD.below {B : Nat} {w w' : World} {v : Value} {pvs : List Value} {P : List (List Int)} (h : RRD w v pvs P) (hB : w.heap.size ≤ B) (hb : Below B w w') : RRD w' v pvs P :=
  ⟨h.out.below hB hb, h.len, fun i x hx => (h.inn i x hx).below hB hb⟩
/-- Those of the first points that hang on one. -/
def chF (P : List (List Int)) (j i : Nat) : List Int := ((List.range i).filter (fun q => decide ((j : Int) ∈ P.getD q []))).map Int.ofNat
/-- While point i's first k parents are gone through. -/
def chK (P : List (List Int)) (i k j : Nat) : List Int := chF P j i ++ if (j : Int) ∈ (P.getD i []).take k then [(i : Int)] else []
theorem chK_zero (P : List (List Int)) (i j : Nat) : chK P i 0 j = chF P j i := by simp [chK]
theorem chF_succ (P : List (List Int)) (i j : Nat) : chF P j (i + 1) = chF P j i ++ if (j : Int) ∈ P.getD i [] then [(i : Int)] else [] := by
  unfold chF
  rw [List.range_succ, List.filter_append, List.map_append]
  by_cases h : (j : Int) ∈ P.getD i []
  · rw [if_pos h]; simp only [List.filter_cons, List.filter_nil, decide_eq_true h, if_true, List.map_cons, List.map_nil]; rfl
  · rw [if_neg h]; simp only [List.filter_cons, List.filter_nil, decide_eq_false h, Bool.false_eq_true, if_false, List.map_nil]
theorem chK_end (P : List (List Int)) {i k : Nat} (j : Nat) (h : (P.getD i []).length ≤ k) : chK P i k j = chF P j (i + 1) := by
  rw [chF_succ, chK, List.take_of_length_le h]
theorem chF_len (P : List (List Int)) (j i : Nat) : (chF P j i).length ≤ i := by
  unfold chF
  rw [List.length_map]
  exact Nat.le_trans (List.length_filter_le _ _) (by simp)
theorem chK_step {P : List (List Int)} {i k p : Nat} (hnd : (P.getD i []).Nodup) (hk : (P.getD i [])[k]? = some (p : Int)) (j : Nat) : chK P i (k + 1) j = if j = p then chK P i k j ++ [(i : Int)] else chK P i k j := by
  unfold chK
  have hlt : k < (P.getD i []).length := (List.getElem?_eq_some_iff.1 hk).1
  have e1 : (P.getD i []).take (k + 1) = (P.getD i []).take k ++ [(p : Int)] := by rw [List.take_add_one, hk]; rfl
  have hn : (p : Int) ∉ (P.getD i []).take k := by
    intro hm
    have h2 : ((P.getD i []).take (k + 1)).Nodup := hnd.sublist (List.take_sublist _ _)
    rw [e1, List.nodup_append] at h2
    exact h2.2.2 _ hm _ (by simp) rfl
  rw [e1]
  by_cases h : j = p
  · subst h; rw [if_pos (by simp), if_pos rfl, if_neg hn]; simp
  · rw [if_neg h]
    have : ((j : Int) ∈ (P.getD i []).take k ++ [(p : Int)]) ↔ ((j : Int) ∈ (P.getD i []).take k) := by
      rw [List.mem_append, List.mem_singleton]
      exact ⟨fun h2 => h2.resolve_right (by omega), Or.inl⟩
    simp only [this]
/-- Rows of rows of the call's own, apart from one another. -/
structure TuC (B : Nat) (w W : World) (g n : Nat) (cvs : List Value) (C : Nat → List Int) : Prop where
  frm : Below B w W
  row : OG id B 24 W (.slice (some ⟨g, 0, none⟩) n n) cvs
  inn : ∀ (j : Nat) (v : Value), cvs[j]? = some v → OG (Value.int .i64) B 3 W v (C j)
  apt : ∀ (i j : Nat) (u v : Value), i ≠ j → cvs[i]? = some u → cvs[j]? = some v → ∀ q, u.ownBlock = some q → v.ownBlock ≠ some q
theorem TuC.len {B : Nat} {w W : World} {g n : Nat} {cvs : List Value} {C : Nat → List Int} (h : TuC B w W g n cvs C) : cvs.length = n := h.row.rg.len
theorem TuC.congr {B : Nat} {w W : World} {g n : Nat} {cvs : List Value} {C C' : Nat → List Int} (h : TuC B w W g n cvs C) (e : ∀ j, C j = C' j) : TuC B w W g n cvs C' :=
  ⟨h.frm, h.row, fun j v hv => by rw [← e j]; exact h.inn j v hv, h.apt⟩
theorem OG.blockE {α : Type} {enc : α → Value} {B e : Nat} {w : World} {v : Value} {L : List α} (h : OG enc B e w v L) {q : Nat} (hq : v.ownBlock = some q) : ∃ cs, w.heap[q]? = some (.cells cs e (0, 0)) := by
  rcases h.2 with ⟨rfl, h0⟩ | ⟨g', cap, cur, rfl, h3, h4, h5⟩
  · simp [Value.ownBlock] at hq
  · have e1 : g' = q := by simpa [Value.ownBlock] using hq
    subst e1; exact ⟨_, h4⟩
theorem OG.neO {α β : Type} {enc : α → Value} {enc' : β → Value} {B B' e e' : Nat} {w : World} {u v : Value} {L : List α} {M : List β} (h : OG enc B e w u L) (h' : OG enc' B' e' w v M) (hne : e ≠ e') {q : Nat} (hq : u.ownBlock = some q) : v.ownBlock ≠ some q := fun hv => by
  obtain ⟨cs, hc⟩ := h'.blockE hv
  exact h.neT hc hne hq
theorem TuC.mid {B : Nat} {w W W1 W2 : World} {g n : Nat} {cvs : List Value} {C : Nat → List Int} (h : TuC B w W g n cvs C) {p : Nat} {v : Value} (hp : cvs[p]? = some v) (b1 : Below W.heap.size W W1) (hg : W1.grownBy W2 v.ownBlock) : OG id B 24 W2 (.slice (some ⟨g, 0, none⟩) n n) cvs := by
  have hv := h.inn p v hp
  have hgl := h.row.lt g rfl
  refine h.row.of_blocks fun q hq => ?_
  have e1 : g = q := by simpa [Value.ownBlock] using hq
  subst e1
  rw [hg.block _ (Nat.lt_of_lt_of_le hgl.2 b1.size) (fun e => hv.neO h.row (by decide) e.symm rfl), b1.block _ hgl.2]
theorem TuC.put {B : Nat} {w W W1 W2 : World} {g n : Nat} {cvs : List Value} {C : Nat → List Int} (h : TuC B w W g n cvs C) (hB : B ≤ W.heap.size) {p : Nat} {v : Value} (hp : cvs[p]? = some v) {x : Int} {ng m cap : Nat} (b1 : Below W.heap.size W W1) (ho : OG (Value.int .i64) B 3 W2 (.slice (some ⟨ng, 0, none⟩) m cap) (C p ++ [x])) (hg : W1.grownBy W2 v.ownBlock) (hn : v.ownBlock = some ng ∨ ng = W1.heap.size) :
    TuC B w (W2.setCell ⟨g, p, none⟩ (.slice (some ⟨ng, 0, none⟩) m cap)) g n (cvs.set p (.slice (some ⟨ng, 0, none⟩) m cap)) (fun j => if j = p then C j ++ [x] else C j) := by
  have hl := h.len
  have hpl : p < cvs.length := (List.getElem?_eq_some_iff.1 hp).1
  have hv := h.inn p v hp
  have hgl := h.row.lt g rfl
  have hrow1 := h.mid hp b1 hg
  have hset := hrow1.set hl p (.slice (some ⟨ng, 0, none⟩) m cap)
  have hnew : ∀ (j : Nat) (u : Value), j ≠ p → cvs[j]? = some u → u.ownBlock ≠ some ng := fun j u hj hu e => by
    rcases hn with e2 | e2
    · exact h.apt j p u v hj hu hp ng e e2
    · have := ((h.inn j u hu).lt ng e).2
      have := b1.size
      omega
  refine ⟨?_, hset.1, fun j u hu => ?_, fun i j u u' hij hu hu' q hq => ?_⟩
  · have k1 : Below B W W2 := ⟨hg.os.trans b1.os, hg.tape.trans b1.tape, hg.output.trans b1.output, Nat.le_trans b1.size hg.size, fun q hq => by
      rw [hg.block q (Nat.lt_of_lt_of_le (Nat.lt_of_lt_of_le hq hB) b1.size) (fun e => by have := (hv.lt q e.symm).1; omega), b1.block q (Nat.lt_of_lt_of_le hq hB)]⟩
    exact (h.frm.trans k1).setCell (p := ⟨g, p, none⟩) hgl.1 _
  · rw [List.getElem?_set] at hu
    by_cases e : p = j
    · subst e
      rw [if_pos rfl, if_pos hpl] at hu
      simp only [Option.some.injEq] at hu
      subst hu
      rw [if_pos rfl]
      refine ho.of_blocks fun q hq => Below.heap_setCell _ _ _ _ (fun e2 => ?_)
      have e3 : q = g := e2
      subst e3
      exact ho.neO hrow1 (by decide) hq rfl
    · rw [if_neg e] at hu
      rw [if_neg (fun e2 => e e2.symm)]
      have hu1 := h.inn j u hu
      refine hu1.of_blocks fun q hq => ?_
      have hq2 := (hu1.lt q hq).2
      rw [Below.heap_setCell _ _ _ _ (fun e2 => hu1.neO h.row (by decide) hq (by have e3 : q = g := e2; rw [e3]; rfl)), hg.block q (Nat.lt_of_lt_of_le hq2 b1.size) (fun e2 => h.apt j p u v (fun e3 => e e3.symm) hu hp q hq e2.symm), b1.block q hq2]
  · rw [List.getElem?_set] at hu hu'
    by_cases e : p = i
    · subst e
      rw [if_pos rfl, if_pos hpl] at hu
      rw [if_neg hij] at hu'
      simp only [Option.some.injEq] at hu
      subst hu
      have e1 : ng = q := by simpa [Value.ownBlock] using hq
      subst e1
      exact hnew j u' (fun e2 => hij e2.symm) hu'
    · rw [if_neg e] at hu
      by_cases e2 : p = j
      · subst e2
        rw [if_pos rfl, if_pos hpl] at hu'
        simp only [Option.some.injEq] at hu'
        subst hu'
        intro e3
        have e4 : ng = q := by simpa [Value.ownBlock] using e3
        subst e4
        exact hnew i u hij hu hq
      · rw [if_neg e2] at hu'
        exact h.apt i j u u' hij hu hu' q hq
end Go.Proofs.Ytmgbhbdcnciccaa

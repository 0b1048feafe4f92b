/-
  Proved here: package set at int: Join.
  Proved here: sets of ints by their rising lists: what each call of package set makes of them.
  Proved here: the document's own answers of layer 11, for ints: Has, With, Of, Some, Join.
  Proved here: what an append to a row of the call's own keeps of the other rows. No condition but those of the given laws on append.
  Proved here: layer 11's law.go: long and spoilt.
-/
import Derived.Test.YtcadljpdokhpmaaGreatSetGI
import Derived.Test.YtcadljpdokhpmaaGreatSetJnAll
import Derived.Test.YtcadljpdokhpmaaGreatMemAll
import Derived.ArgAppend
namespace Go.Proofs.YtcadljpdokhpmaaGreat
open Go.Shelf Go.RowKit Go.Lib Go.Sort
/-- what two rising lists make -/
def joinI (L M : List Int) : List Int := jn (ltOf cfI) fndI L M
theorem joinI_len (L M : List Int) : (joinI L M).length ≤ L.length + M.length := jn_len L M
theorem rs_dropI {L : List Int} (h : Rs (ltOf cfI) L) (k : Nat) : Rs (ltOf cfI) (L.drop k) := List.Pairwise.sublist (List.drop_sublist k L) h
end Go.Proofs.YtcadljpdokhpmaaGreat

namespace Go.Proofs.YtcadljpdokhpmaaGreat
open Go.Shelf Go.RowKit Go.Lib Go.Sort
/-- a set of ints: a rising list that can be read, of at most k things -/
structure SI (w : World) (v : Value) (T : List Int) (k : Nat) : Prop where
  rg : RG (Value.int .i64) w v T
  rise : Rise T
  len : T.length ≤ k
theorem SI.below {w w' : World} {v : Value} {T : List Int} {k : Nat} (h : SI w v T k) (hb : Below w.heap.size w w') : SI w' v T k := ⟨h.rg.below (Nat.le_refl _) hb, h.rise, h.len⟩
theorem SI.alloc {w : World} {v : Value} {T : List Int} {k : Nat} (h : SI w v T k) (o : Obj) : SI (w.alloc o) v T k := ⟨h.rg.alloc o, h.rise, h.len⟩
theorem SI.sl {w : World} {v : Value} {T : List Int} {k : Nat} (h : SI w v T k) : ∃ ao n cap, v = .slice ao n cap := by obtain ⟨ao, cap, e⟩ := h.rg.sl; exact ⟨ao, _, cap, e⟩
theorem SI.none (w : World) (k : Nat) : SI w (.slice none 0 0) [] k := ⟨RG.nil w, rise_nil, Nat.zero_le _⟩
/-- a set that was made -/
def SE (w : World) (T : List Int) (k : Nat) (e : Ending) (w' : World) : Prop := ∃ ao n cap, e = .returned (.agg #[.slice ao n cap]) ∧ SI w' (.slice ao n cap) T k ∧ Below w.heap.size w w'
theorem jn_mem : ∀ (s r : List Int), Rise r → ∀ z, z ∈ joinI s r ↔ z ∈ s ∨ z ∈ r
  | [], r, _, z => by simp [joinI, jn]
  | x :: s, r, h, z => by
    have hP : ∃ k, Pos (ltOf cfI) r x k := pos_ex r x h
    obtain ⟨k, hP⟩ := hP
    have hk := pF_pos hP
    have h1 : joinI (x :: s) r = r.take k ++ x :: joinI s (if fndI r x k then r.drop (k + 1) else r.drop k) := by unfold joinI; rw [jn, ← hk]
    rw [h1]
    cases e : fndI r x k with
    | true =>
      have ih := jn_mem s (r.drop (k + 1)) (List.Pairwise.sublist (List.drop_sublist _ _) h) z
      have hx : r[k]? = some x := by
        unfold fndI at e
        cases e2 : r[k]? with
        | none => rw [e2] at e; exact absurd e (by simp)
        | some y => rw [e2] at e; rw [smI_eq y x e]
      have hr : r = r.take k ++ x :: r.drop (k + 1) := by rw [← drop_cons hx, List.take_append_drop]
      simp only [if_true, List.mem_append, List.mem_cons, ih]
      conv => rhs; rw [hr]
      simp only [List.mem_append, List.mem_cons]
      by_cases a : z ∈ r.take k <;> by_cases b : z = x <;> by_cases c : z ∈ s <;> by_cases d : z ∈ r.drop (k + 1) <;> simp [a, b, c, d]
    | false =>
      have ih := jn_mem s (r.drop k) (List.Pairwise.sublist (List.drop_sublist _ _) h) z
      have hr : r = r.take k ++ r.drop k := (List.take_append_drop k r).symm
      simp only [Bool.false_eq_true, if_false, List.mem_append, List.mem_cons, ih]
      conv => rhs; rw [hr]
      simp only [List.mem_append]
      by_cases a : z ∈ r.take k <;> by_cases b : z = x <;> by_cases c : z ∈ s <;> by_cases d : z ∈ r.drop k <;> simp [a, b, c, d]
where
  pos_ex (r : List Int) (x : Int) (h : Rise r) : ∃ k, Pos (ltOf cfI) r x k := by
    induction r with
    | nil => exact ⟨0, Nat.le_refl _, fun t y ht => absurd ht (Nat.not_lt_zero _), fun t y _ hy => by simp at hy⟩
    | cons y r ih =>
      by_cases hyx : y < x
      · obtain ⟨k, hk⟩ := ih h.tail
        refine ⟨k + 1, by have := hk.le; simpa using this, fun t z ht hz => ?_, fun t z ht hz => ?_⟩
        · cases t with
          | zero => cases hz; rw [ltI]; exact decide_eq_true hyx
          | succ t => exact hk.lo t z (by omega) (by simpa using hz)
        · cases t with
          | zero => omega
          | succ t => exact hk.hi t z (by omega) (by simpa using hz)
      · refine ⟨0, Nat.zero_le _, fun t z ht => absurd ht (Nat.not_lt_zero _), fun t z _ hz => ?_⟩
        rw [ltI]
        refine decide_eq_false ?_
        cases t with
        | zero => cases hz; exact hyx
        | succ t =>
          have := h.head z (List.mem_of_getElem? (by simpa using hz))
          omega
theorem jn_rise : ∀ (s r : List Int), Rise s → Rise r → Rise (joinI s r)
  | [], r, _, h => by simpa [joinI, jn] using h
  | x :: s, r, hs, h => by
    obtain ⟨k, hP⟩ := jn_mem.pos_ex r x h
    have hk := pF_pos hP
    have h1 : joinI (x :: s) r = r.take k ++ x :: joinI s (if fndI r x k then r.drop (k + 1) else r.drop k) := by unfold joinI; rw [jn, ← hk]
    rw [h1]
    have hlo : ∀ z ∈ r.take k, z < x := fun z hz => by
      obtain ⟨i, hi⟩ := List.mem_iff_getElem?.1 hz
      have hi2 : i < k := by have := (List.getElem?_eq_some_iff.1 hi).1; rw [List.length_take] at this; omega
      rw [List.getElem?_take_of_lt hi2] at hi
      have := hP.lo i z hi2 hi
      rw [ltI] at this
      exact of_decide_eq_true this
    have hhi : ∀ z ∈ (if fndI r x k then r.drop (k + 1) else r.drop k), x < z := fun z hz => by
      cases e : fndI r x k with
      | true =>
        rw [e] at hz
        simp only [if_true] at hz
        obtain ⟨i, hi⟩ := List.mem_iff_getElem?.1 hz
        rw [List.getElem?_drop] at hi
        have hx : r[k]? = some x := by
          unfold fndI at e
          cases e2 : r[k]? with
          | none => rw [e2] at e; exact absurd e (by simp)
          | some y => rw [e2] at e; rw [smI_eq y x e]
        obtain ⟨h1, e1⟩ := List.getElem?_eq_some_iff.1 hx
        obtain ⟨h2, e2⟩ := List.getElem?_eq_some_iff.1 hi
        have := (List.pairwise_iff_getElem.1 h) k (k + 1 + i) h1 h2 (by omega)
        rw [e1, e2] at this
        exact this
      | false =>
        rw [e] at hz
        simp only [Bool.false_eq_true, if_false] at hz
        obtain ⟨i, hi⟩ := List.mem_iff_getElem?.1 hz
        rw [List.getElem?_drop] at hi
        have h3 := hP.hi (k + i) z (by omega) hi
        rw [ltI] at h3
        have h3 := of_decide_eq_false h3
        have hne : z ≠ x := by
          rintro rfl
          by_cases hi0 : i = 0
          · subst hi0
            have hz2 : r[k]? = some z := by simpa using hi
            rw [fndI_at hz2] at e
            unfold smI at e
            rw [cfI_zero] at e
            simp at e
          · obtain ⟨h2, e2⟩ := List.getElem?_eq_some_iff.1 hi
            have hkl : k < r.length := by omega
            have h4 := hP.hi k r[k] (Nat.le_refl _) (List.getElem?_eq_getElem hkl)
            rw [ltI] at h4
            have h4 := of_decide_eq_false h4
            have := (List.pairwise_iff_getElem.1 h) k (k + i) hkl h2 (by omega)
            rw [e2] at this
            omega
        omega
    have hR : Rise (if fndI r x k then r.drop (k + 1) else r.drop k) := by
      split
      · exact List.Pairwise.sublist (List.drop_sublist _ _) h
      · exact List.Pairwise.sublist (List.drop_sublist _ _) h
    have ih := jn_rise s _ hs.tail hR
    have hmem := jn_mem s _ hR
    refine List.pairwise_append.2 ⟨List.Pairwise.sublist (List.take_sublist _ _) h, List.pairwise_cons.2 ⟨fun z hz => ?_, ih⟩, fun a ha b hb => ?_⟩
    · rcases (hmem z).1 hz with hz | hz
      · exact hs.head z hz
      · exact hhi z hz
    · have hax := hlo a ha
      rcases List.mem_cons.1 hb with rfl | hb
      · exact hax
      · rcases (hmem b).1 hb with hb | hb
        · have := hs.head b hb; omega
        · have := hhi b hb; omega
theorem joinI_eq {s r : List Int} (hs : Rise s) (hr : Rise r) : joinI s r = joinR s r := rise_ext (jn_rise s r hs hr) (rise_joinR r hs) fun z => by rw [jn_mem s r hr, mem_joinR]
theorem meetI_eq (L M : List Int) : L.filter (hasI M) = meetR L M := by
  unfold meetR
  apply List.filter_congr
  intro z _
  rw [hasI_mem]
theorem minusI_eq (L M : List Int) : (L.filter fun x => !hasI M x) = minusR L M := by
  unfold minusR
  apply List.filter_congr
  intro z _
  rw [hasI_mem]
theorem withinI_eq (L M : List Int) : L.all (hasI M) = withinR L M := by
  unfold withinR
  rw [Bool.eq_iff_iff]
  simp only [List.all_eq_true, hasI_mem]
theorem sameI_eq : ∀ (L M : List Int), allS smI L M = decide (L = M)
  | [], [] => rfl
  | [], y :: M => rfl
  | x :: L, [] => rfl
  | x :: L, y :: M => by
    rw [allS, sameI_eq L M, smI_iff]
    by_cases h1 : x = y <;> by_cases h2 : L = M <;> simp [h1, h2]
theorem siOf {w : World} {v : Value} {L : List Int} (hv : RG (Value.int .i64) w v L) {k : Nat} (hk : L.length ≤ k) (hk2 : k ≤ 100000) : Calls Tryz.prog 32 #[v] w fun e w' => SE w (ofR L) k e w' :=
  (setOfI v L w hv (by omega)).mono fun _ _ ⟨u, h1, h2, h3⟩ => by
    obtain ⟨ao, cap, rfl, -⟩ := h2.sl
    exact ⟨ao, _, cap, h1, ⟨by have := h2.rg; rwa [ofI_eq L] at this ⊢, rise_ofR L, by rw [← ofI_eq]; have := ofI_len L; omega⟩, h3⟩
theorem siMade {w w' : World} {T : List Int} {k : Nat} {e : Ending} (hr : Rise T) (hk : T.length ≤ k) (h : MkEI w T e w') : SE w T k e w' := by
  obtain ⟨u, rfl, ho, hb⟩ := h
  obtain ⟨ao, cap, rfl, -⟩ := ho.sl
  exact ⟨ao, _, cap, rfl, ⟨ho.rg, hr, hk⟩, hb⟩
theorem siMeet {w : World} {v u : Value} {L M : List Int} {k j : Nat} (h1 : SI w v L k) (h2 : SI w u M j) (hk : k ≤ 100000) (hj : j ≤ 100000) : Calls Tryz.prog 31 #[.agg #[v], .agg #[u]] w fun e w' => SE w (meetR L M) k e w' :=
  (setMeetI v u L M w h1.rg h2.rg (rs_rise.2 h2.rise) (by have := h1.len; omega) (by have := h2.len; omega)).mono fun _ _ h => by
    rw [meetI_eq] at h
    exact siMade (rise_meetR h1.rise M) (Nat.le_trans (List.length_filter_le _ _) h1.len) h
theorem siMinus {w : World} {v u : Value} {L M : List Int} {k j : Nat} (h1 : SI w v L k) (h2 : SI w u M j) (hk : k ≤ 100000) (hj : j ≤ 100000) : Calls Tryz.prog 50 #[.agg #[v], .agg #[u]] w fun e w' => SE w (minusR L M) k e w' :=
  (setMinusI v u L M w h1.rg h2.rg (rs_rise.2 h2.rise) (by have := h1.len; omega) (by have := h2.len; omega)).mono fun _ _ h => by
    rw [minusI_eq] at h
    exact siMade (rise_minusR h1.rise M) (Nat.le_trans (List.length_filter_le _ _) h1.len) h
theorem siLen {w : World} {v : Value} {L : List Int} {k : Nat} (h1 : SI w v L k) (n : Nat) (hn : L.length = n) : Calls Tryz.prog 33 #[.agg #[v]] w fun e w' => e = .returned (.int .i64 (n : Int)) ∧ Below w.heap.size w w' := by
  have := setLenI v L w h1.rg
  rw [hn] at this
  exact this
end Go.Proofs.YtcadljpdokhpmaaGreat

namespace Go.Proofs.YtcadljpdokhpmaaGreat
open Go.Shelf Go.RowKit Go.Lib Go.Sort
theorem insR_lt {x y : Int} {l : List Int} (h : y < x) : insR x (y :: l) = y :: insR x l := by rw [insR, if_neg (by omega), if_neg (by omega)]
theorem insR_eq {x y : Int} {l : List Int} (h : y = x) : insR x (y :: l) = y :: l := by rw [insR, if_neg (by omega), if_pos h.symm]
theorem insR_gt {x y : Int} {l : List Int} (h : x < y) : insR x (y :: l) = x :: y :: l := by rw [insR, if_pos h]
theorem len_insR_le (x : Int) (l : List Int) : (insR x l).length ≤ l.length + 1 := by
  induction l with
  | nil => simp [insR]
  | cons y l ih =>
    rcases Int.lt_trichotomy y x with h | h | h
    · rw [insR_lt h]; simp only [List.length_cons]; omega
    · rw [insR_eq h]; simp
    · rw [insR_gt h]; simp
theorem len_joinR_le (l : List Int) : ∀ s : List Int, (joinR s l).length ≤ s.length + l.length := by
  refine snoc_ind (C := fun l => ∀ s : List Int, (joinR s l).length ≤ s.length + l.length) ?_ ?_ l
  · intro s; simp [joinR]
  · intro l x ih s
    rw [joinR_snoc, List.length_append]
    have := len_insR_le x (joinR s l)
    have := ih s
    simp only [List.length_cons, List.length_nil]
    omega
/-- what the document's answer leaves -/
def RE (w : World) (M : List Int) (e : Ending) (w' : World) : Prop := ∃ u, e = .returned u ∧ OG (Value.int .i64) w.heap.size 3 w' u M ∧ Below w.heap.size w w'
/-- what the document's Join leaves -/
def RJ (w : World) (M : List Int) (e : Ending) (w' : World) : Prop := ∃ u, e = .returned u ∧ RG (Value.int .i64) w' u M ∧ Below w.heap.size w w'
end Go.Proofs.YtcadljpdokhpmaaGreat

namespace Go.Proofs.YtcadljpdokhpmaaGreat
open Go.RowKit

/-- What is owned stays owned, where it lies elsewhere, or is no longer than n. -/
def Keeps (w w' : World) (v : Value) (n : Nat) : Prop := ∀ b e u k ys, w.ownsRow b e 1 u k ys → (u.ownBlock = v.ownBlock → k ≤ n) → w'.ownsRow b e 1 u k ys

theorem keeps_none {w w' : World} {v : Value} {n : Nat} (hg : w.grownBy w' none) : Keeps w w' v n := fun b e u k ys h _ => by
  rcases hu : u.ownBlock with _ | g
  · exact h.kept hg (Or.inl hu)
  · exact h.kept hg (Or.inr (by rw [hu]; simp))

theorem keeps_fits {w w' : World} {base e g n m cap : Nat} {xs news : List Value} (h : w.ownsRow base e 1 (.slice (some ⟨g, 0, none⟩) n cap) n xs)
    (h' : w'.ownsRow base e 1 (.slice (some ⟨g, 0, none⟩) (n + m) cap) (n + m) (xs ++ news)) (hg : w.grownBy w' (some g)) : Keeps w w' (.slice (some ⟨g, 0, none⟩) n cap) n := fun b e2 u k ys hu hk => by
  by_cases hb : u.ownBlock = some g
  · have hkn := hk hb
    obtain ⟨hl, hu⟩ := hu
    rcases hu with ⟨rfl, _⟩ | ⟨g2, cap2, cur, rfl, hb2, hh, hkc, hcm, hcs, ht⟩
    · simp [Value.ownBlock] at hb
    · simp only [Value.ownBlock, Option.some.injEq] at hb
      subst hb
      rcases h.2 with ⟨h, _⟩ | ⟨g3, cap3, cur3, h3, hb3, hh3, hkc3, hcm3, hcs3, ht3⟩
      · simp at h
      rcases h'.2 with ⟨h', _⟩ | ⟨g4, cap4, cur4, h4, hb4, hh4, hkc4, hcm4, hcs4, ht4⟩
      · simp at h'
      simp only [Value.slice.injEq, Option.some.injEq, Addr.mk.injEq, and_true, true_and] at h3 h4
      obtain ⟨rfl, rfl⟩ := h3
      obtain ⟨rfl, rfl⟩ := h4
      rw [hh] at hh3
      simp only [Option.some.injEq, Obj.cells.injEq, and_true] at hh3
      obtain ⟨rfl, rfl⟩ := hh3
      refine ⟨hl, Or.inr ⟨g2, cap2, cur4, rfl, hb2, hh4, hkc, hcm, by omega, ?_⟩⟩
      simp only [Nat.mul_one] at ht ht3 ht4 hl ⊢
      have e1 : (cur4.toList.take (n + m)).take k = (xs ++ news).take k := by rw [ht4]
      rw [List.take_take, Nat.min_eq_left (by omega), List.take_append_of_le_length (by rw [← ht3, List.length_take, Array.length_toList]; omega)] at e1
      rw [e1, ← ht3, List.take_take, Nat.min_eq_left hkn, ht]
  · rcases hu' : u.ownBlock with _ | g'
    · exact hu.kept hg (Or.inl hu')
    · exact hu.kept hg (Or.inr (by rw [hu'] at hb ⊢; exact hb))

theorem wpList_push {P : Program} (w : World) {ops : Array Oper} {rest : List Oper} {o : Oper} {a : Act} {Q : Exit → Act → World → Prop}
    (hg : o.guard = none) (s x : Operand) (t : TypeId) (hop : o.op = Op.call { callee := Callee.builtin Builtin.append, args := #[s, x], argTypes := #[t, t] })
    (base : Nat) (e : TypeId) (i : TypeInfo) (z : Value) (bytes : Nat) (h1 : P.underlying t = some (.slice e)) (h2 : P.info? e = some i) (h3 : i.zero = some z) (h4 : i.size = 1) (h5 : i.bytes = bytes) (h6 : z.cells.size = 1)
    (v : Value) (n : Nat) (xs : List Value) (hs : a.eval s = v) (hown : w.ownsRow base e 1 v n xs)
    (ad : Addr) (m c : Nat) (news : List Value) (hx : a.eval x = .slice (some ad) m c) (hn : news.length = m * 1) (hc : ∀ j u, news[j]? = some u → w.cell? (ad.add j) = some u) (h1c : ∀ u ∈ news, u.oneCell' = true)
    (hm : 0 < m) (b1 : n + m ≤ maxLen) (b2 : (n + m) * bytes ≤ 140737488355328) (hbase : base ≤ w.heap.size)
    (hK : ∀ v' w', w'.ownsRow base e 1 v' (n + m) (xs ++ news) → w.grownBy w' v.ownBlock → Keeps w w' v n → (v'.ownBlock = v.ownBlock ∨ ∀ g, v'.ownBlock = some g → w.heap.size ≤ g) → wpList P ops Q rest (a.put o.dst v') w') :
    wpList P ops Q (o :: rest) a w := by
  have hown0 := hown
  have grow : ∀ v' w', w'.ownsRow w.heap.size e 1 v' (n + m) (xs ++ news) → w.grownBy w' none → wpList P ops Q rest (a.put o.dst v') w' := by
    intro v' w' ho hgr
    refine hK v' w' ?_ ⟨hgr.os, hgr.tape, hgr.output, hgr.size, fun k hk _ => hgr.block k hk (by simp)⟩ (keeps_none hgr) (Or.inr fun g hg => (World.ownsRow.lt ho g hg).1)
    refine ⟨ho.1, ?_⟩
    rcases ho.2 with h | ⟨g, cap, cur, e1, e2, e3⟩
    · exact Or.inl h
    · exact Or.inr ⟨g, cap, cur, e1, by omega, e3⟩
  rcases hown.2 with ⟨rfl, hn0⟩ | ⟨g, cap, cur, rfl, hb, hh, hnc, hcm, hcs, ht⟩
  · subst hn0
    have hx0 : xs = [] := by have := hown.1; simpa using this
    subst hx0
    exact wpList_append_grows w hg s x t hop e i z 1 bytes h1 h2 h3 h4 h5 h6 (by decide) none 0 0 [] hs (fun _ => ⟨rfl, rfl⟩) (by simp) (fun b h => by simp at h) ad m c news hx hn hc h1c (by omega) b1 b2 grow
  · by_cases hr : n + m ≤ cap
    · refine wpList_append_fits w hg s x t hop base e i 1 h1 h2 h4 g n cap xs hs hown ad m c news hx hn hc h1c hr ?_
      intro w' ho hgr
      exact hK _ w' ho hgr (keeps_fits hown ho hgr) (Or.inl rfl)
    · refine wpList_append_grows w hg s x t hop e i z 1 bytes h1 h2 h3 h4 h5 h6 (by decide) (some ⟨g, 0, none⟩) n cap xs hs (fun h => by simp at h) hown.1 ?_ ad m c news hx hn hc h1c (by omega) b1 b2 grow
      intro b hb' j u hj
      simp only [Option.some.injEq] at hb'
      subst hb'
      rw [Addr.add_lit, Nat.zero_add, World.ownsRow.cellAt hown0 j ?_, hj]
      have := (List.getElem?_eq_some_iff.1 hj).1
      rw [hown.1] at this
      exact this
end Go.Proofs.YtcadljpdokhpmaaGreat

namespace Go.Proofs.YtcadljpdokhpmaaGreat
open Go.Shelf Go.RowKit Go.Lib Go.Sort
/-- an append to a row that lies where rb does, or beyond w, leaves all else of w -/
theorem grown_row {w w1 w2 : World} {vm : Value} {rb : Option Nat} (hg : w1.grownBy w2 vm.ownBlock) (h : vm.ownBlock = rb ∨ ∀ g, vm.ownBlock = some g → w.heap.size ≤ g) (h0 : w.grownBy w1 rb) : w.grownBy w2 rb := by
  refine ⟨hg.os.trans h0.os, hg.tape.trans h0.tape, hg.output.trans h0.output, Nat.le_trans h0.size hg.size, fun k hk hne => ?_⟩
  rw [← h0.block k hk hne]
  refine hg.block k (Nat.lt_of_lt_of_le hk h0.size) ?_
  rcases h with h | h
  · rw [h]; exact hne
  · intro e
    have := h k e.symm
    omega
/-- a list with its marks -/
def lgI (L : List Int) (i : Nat) : List Int := L ++ (List.range i).map fun (k : Nat) => (90000 + (k : Int))
theorem lgI_succ (L : List Int) (i : Nat) : lgI L (i + 1) = lgI L i ++ [90000 + (i : Int)] := by simp [lgI, List.range_succ]
theorem lgI_zero (L : List Int) : lgI L 0 = L := by simp [lgI]
theorem lgI_len (L : List Int) (i : Nat) : (lgI L i).length = L.length + i := by simp [lgI]
theorem set_marks {L : List Int} {n i : Nat} (mark : Int) (hl : L.length = n) (h : i < n) : (List.replicate i mark ++ L.drop i).set i mark = List.replicate (i + 1) mark ++ L.drop (i + 1) := by
  have hd : L.drop i = L[i] :: L.drop (i + 1) := List.drop_eq_getElem_cons (by omega)
  rw [hd, List.replicate_succ', List.set_append_right _ _ (by simp)]
  simp only [List.length_replicate, Nat.sub_self, List.set_cons_zero, List.append_assoc, List.singleton_append]
/-- marks, and what is gone on with -/
def mkI (n : Nat) (mark : Int) (j : Nat) : List Int := List.replicate n mark ++ List.replicate j 7
theorem mkI_zero (n : Nat) (mark : Int) : mkI n mark 0 = List.replicate n mark := by simp [mkI]
theorem mkI_succ (n : Nat) (mark : Int) (j : Nat) : mkI n mark (j + 1) = mkI n mark j ++ [7] := by unfold mkI; rw [List.append_assoc, ← List.replicate_succ']
theorem mkI_len (n : Nat) (mark : Int) (j : Nat) : (mkI n mark j).length = n + j := by simp [mkI]
theorem mkI_at (n : Nat) (mark : Int) (j k : Nat) (h : k < n) : (mkI n mark j)[k]? = some mark := by unfold mkI; rw [List.getElem?_append_left (by simpa using h), List.getElem?_replicate, if_pos h]
end Go.Proofs.YtcadljpdokhpmaaGreat

/-
  Proved here: a list of ints that was handed in is a row that can be read; the set of a list, told by what is in it.
  Proved here: mathematics (no program): two rising lists put together.
  Proved here: package set at int: kept, Meet, Minus.
  Proved here: package set at int: Join.
  Proved here: sets of ints by their rising lists: what each call of package set makes of them.
-/
import Derived.Test.YtcadljpdokhpmaaSetMathAll
import Derived.OpenShut
import Derived.Test.YtcadljpdokhpmaaSetEIAll
import Derived.Laws.MakeOwn
import Derived.Deep.CutRange
import Derived.Test.YtcadljpdokhpmaaSetFI
namespace Go.Proofs.Ytcadljpdokhpmaa
open Go.Shelf Go.RowKit Go.Lib Go.Sort
theorem cell_ltG {w : World} {a : Addr} {v : Value} (h : w.cell? a = some v) : a.block < w.heap.size := by
  rcases Nat.lt_or_ge a.block w.heap.size with h1 | h1
  · exact h1
  · simp [World.cell?, Array.getElem?_eq_none h1] at h
theorem rg_of_ints {W : World} {x : Addr} {len cap : Nat} {zs : List Int} (hl : len ≤ cap) (hm : cap ≤ maxLen) (hz : zs.length = cap)
    (hcell : ∀ i, i < zs.length → W.cell? (x.add i) = some (.int .i64 (zs.getD i 0))) : ∃ ys, ys.length = len ∧ RG (Value.int .i64) W (.slice (some x) len cap) ys := by
  have hlen : (zs.take len).length = len := by simp; omega
  refine ⟨zs.take len, hlen, some x, cap, by rw [hlen], by rw [hlen]; exact hl, hm, fun h => by simp at h, fun i y hy => ?_⟩
  have hi : i < len := by have := (List.getElem?_eq_some_iff.1 hy).1; omega
  have hc := hcell i (by omega)
  obtain ⟨b, off, spot⟩ := x
  have hspot : spot = none := by
    have := World.cell?_spot (hcell 0 (by omega))
    simpa [Addr.add] using this
  subst hspot
  refine ⟨b, off, rfl, ?_⟩
  rw [Addr.add_lit] at hc
  rw [List.getElem?_take_of_lt hi] at hy
  rw [hc, List.getD_eq_getElem?_getD, hy]
  rfl
theorem rs_rise {L : List Int} : Rs (ltOf cfI) L ↔ Rise L := by
  unfold Rs Rise
  constructor
  · intro h; exact h.imp fun hxy => by rw [ltI] at hxy; exact of_decide_eq_true hxy
  · intro h; exact h.imp fun hxy => by rw [ltI]; exact decide_eq_true hxy
theorem mem_ofI (L : List Int) (z : Int) : z ∈ ofI L ↔ z ∈ L := by
  unfold ofI
  constructor
  · intro h; exact (perm_sortS (le := leOf (ltOf cfI)) L).mem_iff.1 (mem_cpt h)
  · intro h; exact cpt_mem smI_eq ((perm_sortS (le := leOf (ltOf cfI)) L).mem_iff.2 h)
theorem ofI_eq (L : List Int) : ofI L = ofR L := rise_ext (rs_rise.1 (ofI_rs L)) (rise_ofR L) fun z => by rw [mem_ofI, mem_ofR]
theorem ofI_ext {L M : List Int} (h : ∀ z, z ∈ L ↔ z ∈ M) : ofI L = ofI M := rise_ext (rs_rise.1 (ofI_rs L)) (rs_rise.1 (ofI_rs M)) fun z => by rw [mem_ofI, mem_ofI, h]
theorem smI_iff (x y : Int) : smI x y = decide (x = y) := cfI_zero x y
theorem hasI_mem (L : List Int) (x : Int) : hasI L x = decide (x ∈ L) := by
  unfold hasI
  rw [Bool.eq_iff_iff]
  simp only [List.any_eq_true, smI_iff, decide_eq_true_eq]
  constructor
  · rintro ⟨y, hy, rfl⟩; exact hy
  · intro h; exact ⟨x, h, rfl⟩
def bk (M : List Int) : List Int := M.reverse.flatMap fun x => [x, x]
theorem bk_cons (x : Int) (M : List Int) : bk (x :: M) = bk M ++ [x, x] := by simp [bk]
theorem mem_bk (M : List Int) (z : Int) : z ∈ bk M ↔ z ∈ M := by simp [bk]
theorem len_bk (M : List Int) : (bk M).length = 2 * M.length := by
  induction M with
  | nil => rfl
  | cons x M ih => rw [bk_cons, List.length_append, ih]; simp; omega
end Go.Proofs.Ytcadljpdokhpmaa

namespace Go.Proofs.Ytcadljpdokhpmaa
open Go.Shelf Go.RowKit Go.Lib Go.Sort
section
variable {α : Type}
/-- how many are below -/
def pF (lt : α → α → Bool) (L : List α) (x : α) : Nat := (L.takeWhile fun y => lt y x).length
theorem pF_pos {lt : α → α → Bool} {x : α} : ∀ {L : List α} {k : Nat}, Pos lt L x k → k = pF lt L x
  | [], k, h => by have := h.le; simp at this; subst this; rfl
  | y :: L, 0, h => by
    have := h.hi 0 y (Nat.le_refl _) rfl
    unfold pF
    rw [List.takeWhile_cons, if_neg (by rw [this]; simp)]
    rfl
  | y :: L, k + 1, h => by
    have h0 := h.lo 0 y (by omega) rfl
    have ih := pF_pos (L := L) (k := k) ⟨by have := h.le; simpa using this, fun t z ht hz => h.lo (t + 1) z (by omega) (by simpa using hz), fun t z ht hz => h.hi (t + 1) z (by omega) (by simpa using hz)⟩
    unfold pF at ih ⊢
    rw [List.takeWhile_cons, if_pos h0, List.length_cons, ← ih]
/-- s and r put together: of the same thing s's -/
def jn (lt : α → α → Bool) (fd : List α → α → Nat → Bool) : List α → List α → List α
  | [], r => r
  | x :: s, r => r.take (pF lt r x) ++ x :: jn lt fd s (if fd r x (pF lt r x) then r.drop (pF lt r x + 1) else r.drop (pF lt r x))
theorem jn_len {lt : α → α → Bool} {fd : List α → α → Nat → Bool} : ∀ (s r : List α), (jn lt fd s r).length ≤ s.length + r.length
  | [], r => by simp [jn]
  | x :: s, r => by
    cases e : fd r x (pF lt r x) with
    | true =>
      have := jn_len (lt := lt) (fd := fd) s (r.drop (pF lt r x + 1))
      simp only [jn, e, if_true, List.length_append, List.length_cons, List.length_take]
      simp only [List.length_drop] at this
      omega
    | false =>
      have := jn_len (lt := lt) (fd := fd) s (r.drop (pF lt r x))
      simp only [jn, e, List.length_append, List.length_cons, List.length_take]
      simp only [List.length_drop] at this
      simp only [Bool.false_eq_true, if_false]
      omega
theorem srt_drops {le : α → α → Bool} {l : List α} (h : Srt le l) (s : Nat) : Srt le (l.drop s) := List.Pairwise.sublist (List.drop_sublist s l) h
theorem filter_snoc (p : α → Bool) {L : List α} {i : Nat} {x : α} (h : L[i]? = some x) : (L.take (i + 1)).filter p = (L.take i).filter p ++ if p x then [x] else [] := by
  rw [take_snoc h, List.filter_append]
  cases e : p x <;> simp [e]
end
end Go.Proofs.Ytcadljpdokhpmaa

namespace Go.Proofs.Ytcadljpdokhpmaa
open Go.Shelf Go.RowKit Go.Lib Go.Sort
/-- what a maker leaves -/
def MkEI (w : World) (M : List Int) (e : Ending) (w' : World) : Prop := ∃ u, e = .returned (.agg #[u]) ∧ OG (Value.int .i64) w.heap.size 3 w' u M ∧ Below w.heap.size w w'
end Go.Proofs.Ytcadljpdokhpmaa

namespace Go.Proofs.Ytcadljpdokhpmaa
open Go.Shelf Go.RowKit Go.Lib Go.Sort
/-- what two rising lists make -/
def joinI (L M : List Int) : List Int := jn (ltOf cfI) fndI L M
theorem joinI_len (L M : List Int) : (joinI L M).length ≤ L.length + M.length := jn_len L M
theorem rs_dropI {L : List Int} (h : Rs (ltOf cfI) L) (k : Nat) : Rs (ltOf cfI) (L.drop k) := List.Pairwise.sublist (List.drop_sublist k L) h
end Go.Proofs.Ytcadljpdokhpmaa

namespace Go.Proofs.Ytcadljpdokhpmaa
open Go.Shelf Go.RowKit Go.Lib Go.Sort
/-- a set of ints: a rising list that can be read, of at most k things -/
structure SI (w : World) (v : Value) (T : List Int) (k : Nat) : Prop where
  rg : RG (Value.int .i64) w v T
  rise : Rise T
  len : T.length ≤ k
theorem SI.below {w w' : World} {v : Value} {T : List Int} {k : Nat} (h : SI w v T k) (hb : Below w.heap.size w w') : SI w' v T k := ⟨h.rg.below (Nat.le_refl _) hb, h.rise, h.len⟩
theorem SI.alloc {w : World} {v : Value} {T : List Int} {k : Nat} (h : SI w v T k) (o : Obj) : SI (w.alloc o) v T k := ⟨h.rg.alloc o, h.rise, h.len⟩
theorem SI.sl {w : World} {v : Value} {T : List Int} {k : Nat} (h : SI w v T k) : ∃ ao n cap, v = .slice ao n cap := by obtain ⟨ao, cap, e⟩ := h.rg.sl; exact ⟨ao, _, cap, e⟩
theorem SI.none (w : World) (k : Nat) : SI w (.slice none 0 0) [] k := ⟨RG.nil w, rise_nil, Nat.zero_le _⟩
/-- a set that was made -/
def SE (w : World) (T : List Int) (k : Nat) (e : Ending) (w' : World) : Prop := ∃ ao n cap, e = .returned (.agg #[.slice ao n cap]) ∧ SI w' (.slice ao n cap) T k ∧ Below w.heap.size w w'
theorem jn_mem : ∀ (s r : List Int), Rise r → ∀ z, z ∈ joinI s r ↔ z ∈ s ∨ z ∈ r
  | [], r, _, z => by simp [joinI, jn]
  | x :: s, r, h, z => by
    have hP : ∃ k, Pos (ltOf cfI) r x k := pos_ex r x h
    obtain ⟨k, hP⟩ := hP
    have hk := pF_pos hP
    have h1 : joinI (x :: s) r = r.take k ++ x :: joinI s (if fndI r x k then r.drop (k + 1) else r.drop k) := by unfold joinI; rw [jn, ← hk]
    rw [h1]
    cases e : fndI r x k with
    | true =>
      have ih := jn_mem s (r.drop (k + 1)) (List.Pairwise.sublist (List.drop_sublist _ _) h) z
      have hx : r[k]? = some x := by
        unfold fndI at e
        cases e2 : r[k]? with
        | none => rw [e2] at e; exact absurd e (by simp)
        | some y => rw [e2] at e; rw [smI_eq y x e]
      have hr : r = r.take k ++ x :: r.drop (k + 1) := by rw [← drop_cons hx, List.take_append_drop]
      simp only [if_true, List.mem_append, List.mem_cons, ih]
      conv => rhs; rw [hr]
      simp only [List.mem_append, List.mem_cons]
      by_cases a : z ∈ r.take k <;> by_cases b : z = x <;> by_cases c : z ∈ s <;> by_cases d : z ∈ r.drop (k + 1) <;> simp [a, b, c, d]
    | false =>
      have ih := jn_mem s (r.drop k) (List.Pairwise.sublist (List.drop_sublist _ _) h) z
      have hr : r = r.take k ++ r.drop k := (List.take_append_drop k r).symm
      simp only [Bool.false_eq_true, if_false, List.mem_append, List.mem_cons, ih]
      conv => rhs; rw [hr]
      simp only [List.mem_append]
      by_cases a : z ∈ r.take k <;> by_cases b : z = x <;> by_cases c : z ∈ s <;> by_cases d : z ∈ r.drop k <;> simp [a, b, c, d]
where
  pos_ex (r : List Int) (x : Int) (h : Rise r) : ∃ k, Pos (ltOf cfI) r x k := by
    induction r with
    | nil => exact ⟨0, Nat.le_refl _, fun t y ht => absurd ht (Nat.not_lt_zero _), fun t y _ hy => by simp at hy⟩
    | cons y r ih =>
      by_cases hyx : y < x
      · obtain ⟨k, hk⟩ := ih h.tail
        refine ⟨k + 1, by have := hk.le; simpa using this, fun t z ht hz => ?_, fun t z ht hz => ?_⟩
        · cases t with
          | zero => cases hz; rw [ltI]; exact decide_eq_true hyx
          | succ t => exact hk.lo t z (by omega) (by simpa using hz)
        · cases t with
          | zero => omega
          | succ t => exact hk.hi t z (by omega) (by simpa using hz)
      · refine ⟨0, Nat.zero_le _, fun t z ht => absurd ht (Nat.not_lt_zero _), fun t z _ hz => ?_⟩
        rw [ltI]
        refine decide_eq_false ?_
        cases t with
        | zero => cases hz; exact hyx
        | succ t =>
          have := h.head z (List.mem_of_getElem? (by simpa using hz))
          omega
theorem jn_rise : ∀ (s r : List Int), Rise s → Rise r → Rise (joinI s r)
  | [], r, _, h => by simpa [joinI, jn] using h
  | x :: s, r, hs, h => by
    obtain ⟨k, hP⟩ := jn_mem.pos_ex r x h
    have hk := pF_pos hP
    have h1 : joinI (x :: s) r = r.take k ++ x :: joinI s (if fndI r x k then r.drop (k + 1) else r.drop k) := by unfold joinI; rw [jn, ← hk]
    rw [h1]
    have hlo : ∀ z ∈ r.take k, z < x := fun z hz => by
      obtain ⟨i, hi⟩ := List.mem_iff_getElem?.1 hz
      have hi2 : i < k := by have := (List.getElem?_eq_some_iff.1 hi).1; rw [List.length_take] at this; omega
      rw [List.getElem?_take_of_lt hi2] at hi
      have := hP.lo i z hi2 hi
      rw [ltI] at this
      exact of_decide_eq_true this
    have hhi : ∀ z ∈ (if fndI r x k then r.drop (k + 1) else r.drop k), x < z := fun z hz => by
      cases e : fndI r x k with
      | true =>
        rw [e] at hz
        simp only [if_true] at hz
        obtain ⟨i, hi⟩ := List.mem_iff_getElem?.1 hz
        rw [List.getElem?_drop] at hi
        have hx : r[k]? = some x := by
          unfold fndI at e
          cases e2 : r[k]? with
          | none => rw [e2] at e; exact absurd e (by simp)
          | some y => rw [e2] at e; rw [smI_eq y x e]
        obtain ⟨h1, e1⟩ := List.getElem?_eq_some_iff.1 hx
        obtain ⟨h2, e2⟩ := List.getElem?_eq_some_iff.1 hi
        have := (List.pairwise_iff_getElem.1 h) k (k + 1 + i) h1 h2 (by omega)
        rw [e1, e2] at this
        exact this
      | false =>
        rw [e] at hz
        simp only [Bool.false_eq_true, if_false] at hz
        obtain ⟨i, hi⟩ := List.mem_iff_getElem?.1 hz
        rw [List.getElem?_drop] at hi
        have h3 := hP.hi (k + i) z (by omega) hi
        rw [ltI] at h3
        have h3 := of_decide_eq_false h3
        have hne : z ≠ x := by
          rintro rfl
          by_cases hi0 : i = 0
          · subst hi0
            have hz2 : r[k]? = some z := by simpa using hi
            rw [fndI_at hz2] at e
            unfold smI at e
            rw [cfI_zero] at e
            simp at e
          · obtain ⟨h2, e2⟩ := List.getElem?_eq_some_iff.1 hi
            have hkl : k < r.length := by omega
            have h4 := hP.hi k r[k] (Nat.le_refl _) (List.getElem?_eq_getElem hkl)
            rw [ltI] at h4
            have h4 := of_decide_eq_false h4
            have := (List.pairwise_iff_getElem.1 h) k (k + i) hkl h2 (by omega)
            rw [e2] at this
            omega
        omega
    have hR : Rise (if fndI r x k then r.drop (k + 1) else r.drop k) := by
      split
      · exact List.Pairwise.sublist (List.drop_sublist _ _) h
      · exact List.Pairwise.sublist (List.drop_sublist _ _) h
    have ih := jn_rise s _ hs.tail hR
    have hmem := jn_mem s _ hR
    refine List.pairwise_append.2 ⟨List.Pairwise.sublist (List.take_sublist _ _) h, List.pairwise_cons.2 ⟨fun z hz => ?_, ih⟩, fun a ha b hb => ?_⟩
    · rcases (hmem z).1 hz with hz | hz
      · exact hs.head z hz
      · exact hhi z hz
    · have hax := hlo a ha
      rcases List.mem_cons.1 hb with rfl | hb
      · exact hax
      · rcases (hmem b).1 hb with hb | hb
        · have := hs.head b hb; omega
        · have := hhi b hb; omega
theorem joinI_eq {s r : List Int} (hs : Rise s) (hr : Rise r) : joinI s r = joinR s r := rise_ext (jn_rise s r hs hr) (rise_joinR r hs) fun z => by rw [jn_mem s r hr, mem_joinR]
theorem meetI_eq (L M : List Int) : L.filter (hasI M) = meetR L M := by
  unfold meetR
  apply List.filter_congr
  intro z _
  rw [hasI_mem]
theorem minusI_eq (L M : List Int) : (L.filter fun x => !hasI M x) = minusR L M := by
  unfold minusR
  apply List.filter_congr
  intro z _
  rw [hasI_mem]
theorem withinI_eq (L M : List Int) : L.all (hasI M) = withinR L M := by
  unfold withinR
  rw [Bool.eq_iff_iff]
  simp only [List.all_eq_true, hasI_mem]
theorem sameI_eq : ∀ (L M : List Int), allS smI L M = decide (L = M)
  | [], [] => rfl
  | [], y :: M => rfl
  | x :: L, [] => rfl
  | x :: L, y :: M => by
    rw [allS, sameI_eq L M, smI_iff]
    by_cases h1 : x = y <;> by_cases h2 : L = M <;> simp [h1, h2]
theorem siOf {w : World} {v : Value} {L : List Int} (hv : RG (Value.int .i64) w v L) {k : Nat} (hk : L.length ≤ k) (hk2 : k ≤ 100000) : Calls Try.prog 15 #[v] w fun e w' => SE w (ofR L) k e w' :=
  (setOfI v L w hv (by omega)).mono fun _ _ ⟨u, h1, h2, h3⟩ => by
    obtain ⟨ao, cap, rfl, -⟩ := h2.sl
    exact ⟨ao, _, cap, h1, ⟨by have := h2.rg; rwa [ofI_eq L] at this ⊢, rise_ofR L, by rw [← ofI_eq]; have := ofI_len L; omega⟩, h3⟩
theorem siMade {w w' : World} {T : List Int} {k : Nat} {e : Ending} (hr : Rise T) (hk : T.length ≤ k) (h : MkEI w T e w') : SE w T k e w' := by
  obtain ⟨u, rfl, ho, hb⟩ := h
  obtain ⟨ao, cap, rfl, -⟩ := ho.sl
  exact ⟨ao, _, cap, rfl, ⟨ho.rg, hr, hk⟩, hb⟩
theorem siLen {w : World} {v : Value} {L : List Int} {k : Nat} (h1 : SI w v L k) (n : Nat) (hn : L.length = n) : Calls Try.prog 77 #[.agg #[v]] w fun e w' => e = .returned (.int .i64 (n : Int)) ∧ Below w.heap.size w w' := by
  have := setLenI v L w h1.rg
  rw [hn] at this
  exact this
end Go.Proofs.Ytcadljpdokhpmaa

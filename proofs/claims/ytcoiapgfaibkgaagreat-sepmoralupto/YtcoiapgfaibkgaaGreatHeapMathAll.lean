/-
  Proved here: plain mathematics of a search by breadth: of all ways to a step the one that is found is the shortest, and of these the least.
  Proved here: what package heap does to a list of numbers: up, down, and that the least stands first. No condition.
-/
import Derived.Test.YtcoiapgfaibkgaaGreatSpMAll
namespace Go.Proofs.YtcoiapgfaibkgaaGreat
set_option linter.unusedVariables false
/-- Steps that follow one another, the newest first. -/
inductive ChR (nx : Stp → List Stp) (root : Stp) : List Stp → Prop
  | one : ChR nx root [root]
  | cons {s t : Stp} {l : List Stp} : ChR nx root (s :: l) → t ∈ nx s → ChR nx root (t :: s :: l)
/-- Less, of lists as long as each other, the newest first. -/
def LxR : List Int → List Int → Prop
  | [], _ => False
  | _ :: _, [] => False
  | x :: a, y :: b => LxR a b ∨ (a = b ∧ x < y)
def SlR (a b : List Int) : Prop := a.length < b.length ∨ (a.length = b.length ∧ LxR a b)
def LeR (a b : List Int) : Prop := a = b ∨ SlR a b
theorem LxR.trans : ∀ {a b c : List Int}, LxR a b → LxR b c → LxR a c
  | [], _, _, h, _ => h.elim
  | _ :: _, [], _, h, _ => h.elim
  | _ :: _, _ :: _, [], _, h => h.elim
  | x :: a, y :: b, z :: c, h1, h2 => by
    rcases h1 with h1 | ⟨rfl, h1⟩ <;> rcases h2 with h2 | ⟨rfl, h2⟩
    · exact Or.inl (LxR.trans h1 h2)
    · exact Or.inl h1
    · exact Or.inl h2
    · exact Or.inr ⟨rfl, Int.lt_trans h1 h2⟩
theorem LxR.irr : ∀ {a : List Int}, ¬ LxR a a
  | [], h => h
  | x :: a, h => by
    rcases h with h | ⟨_, h⟩
    · exact LxR.irr h
    · exact absurd h (Int.lt_irrefl x)
theorem SlR.trans {a b c : List Int} (h1 : SlR a b) (h2 : SlR b c) : SlR a c := by
  unfold SlR at *
  rcases h1 with h1 | ⟨h1, h3⟩ <;> rcases h2 with h2 | ⟨h2, h4⟩
  · exact Or.inl (by omega)
  · exact Or.inl (by omega)
  · exact Or.inl (by omega)
  · exact Or.inr ⟨by omega, h3.trans h4⟩
theorem SlR.irr {a : List Int} (h : SlR a a) : False := by
  rcases h with h | ⟨_, h⟩
  · omega
  · exact LxR.irr h
theorem SlR.cons {a b : List Int} (x y : Int) (h : SlR a b) : SlR (x :: a) (y :: b) := by
  rcases h with h | ⟨h, h2⟩
  · exact Or.inl (by simp only [List.length_cons]; omega)
  · exact Or.inr ⟨by simp only [List.length_cons]; omega, Or.inl h2⟩
theorem SlR.here {a : List Int} {x y : Int} (h : x < y) : SlR (x :: a) (y :: a) := Or.inr ⟨rfl, Or.inr ⟨rfl, h⟩⟩
theorem LeR.cons {a b : List Int} (x : Int) (h : LeR a b) : LeR (x :: a) (x :: b) := by
  rcases h with rfl | h
  · exact Or.inl rfl
  · exact Or.inr (h.cons x x)
theorem LeR.trans {a b c : List Int} (h1 : LeR a b) (h2 : LeR b c) : LeR a c := by
  rcases h1 with rfl | h1
  · exact h2
  · rcases h2 with rfl | h2
    · exact Or.inr h1
    · exact Or.inr (h1.trans h2)
theorem LeR.len {a b : List Int} (h : LeR a b) : a.length ≤ b.length := by
  rcases h with rfl | h | ⟨h, _⟩
  · exact Nat.le_refl _
  · omega
  · omega
/-- What stands while the steps behind the first k are looked at: those of N behind the k-th have been. -/
structure Bf (nx : Stp → List Stp) (root : Stp) (k : Nat) (N : List Stp) (L : List (Stp × Stp)) : Prop where
  zero : L[0]? = some (root, root)
  nd : (L.map (·.1)).Nodup
  ah : ∀ (i : Nat) (s v : Stp), 0 < i → L[i]? = some (s, v) → ∃ (j : Nat) (u : Stp), j < i ∧ L[j]? = some (v, u) ∧ s ∈ nx v ∧ (j < k ∨ (j = k ∧ s ∈ N))
  mono : ∀ (i i' j j' : Nat) (s v u s' v' u' : Stp), 0 < i → i < i' → L[i]? = some (s, v) → L[j]? = some (v, u) → L[i']? = some (s', v') → L[j']? = some (v', u') → j < j' ∨ (j = j' ∧ s.1 < s'.1)
  min : ∀ (m : Nat) (u x t : Stp), L[m]? = some (u, x) → t ∈ nx u → (m < k ∨ (m = k ∧ t ∈ N)) → t = root ∨ ∃ (i j : Nat) (v y : Stp), 0 < i ∧ L[i]? = some (t, v) ∧ L[j]? = some (v, y) ∧ j ≤ m
theorem nd_at {L : List (Stp × Stp)} (h : (L.map (·.1)).Nodup) {i j : Nat} {s u v : Stp} (hi : L[i]? = some (s, u)) (hj : L[j]? = some (s, v)) : i = j := by
  rw [List.nodup_iff_pairwise_ne, List.pairwise_map] at h
  obtain ⟨i1, i2⟩ := List.getElem?_eq_some_iff.1 hi
  obtain ⟨j1, j2⟩ := List.getElem?_eq_some_iff.1 hj
  rcases Nat.lt_trichotomy i j with hlt | heq | hgt
  · exact absurd (by rw [i2, j2]) ((List.pairwise_iff_getElem.1 h) i j i1 j1 hlt)
  · exact heq
  · exact absurd (by rw [i2, j2]) ((List.pairwise_iff_getElem.1 h) j i j1 i1 hgt)
theorem key_at {L : List (Stp × Stp)} {i : Nat} {s v : Stp} (h : L[i]? = some (s, v)) : s ∈ L.map (·.1) := List.mem_map.2 ⟨(s, v), List.mem_of_getElem? h, rfl⟩
theorem at_key {L : List (Stp × Stp)} {s : Stp} (h : s ∈ L.map (·.1)) : ∃ (i : Nat) (v : Stp), L[i]? = some (s, v) := by
  obtain ⟨⟨s', v⟩, he, rfl⟩ := List.mem_map.1 h
  obtain ⟨i, hi, e⟩ := List.getElem_of_mem he
  exact ⟨i, v, by rw [List.getElem?_eq_getElem hi, e]⟩
theorem Bf.step {nx : Stp → List Stp} {root : Stp} {k : Nat} {N R : List Stp} {L : List (Stp × Stp)} {e x s : Stp} (h : Bf nx root k N L) (hk : L[k]? = some (e, x)) (hN : nx e = N ++ s :: R) (hr : RisP (nx e)) : Bf nx root k (N ++ [s]) (rchP e L s) := by
  have hin : s ∈ N ++ [s] := by simp
  have hsn : s ∈ nx e := by rw [hN]; simp
  have hlt : ∀ t ∈ N, t.1 < s.1 := fun t ht => by
    rw [hN] at hr
    exact (List.pairwise_append.1 hr).2.2 t ht s (by simp)
  unfold rchP
  split
  · rename_i hm
    refine ⟨h.zero, h.nd, fun i a v hi ha => ?_, h.mono, fun m u y t hmu ht hc => ?_⟩
    · obtain ⟨j, u, h1, h2, h3, h4⟩ := h.ah i a v hi ha
      exact ⟨j, u, h1, h2, h3, h4.imp id fun ⟨a1, a2⟩ => ⟨a1, List.mem_append_left _ a2⟩⟩
    · rcases hc with hc | ⟨rfl, hc⟩
      · exact h.min m u y t hmu ht (Or.inl hc)
      · rcases List.mem_append.1 hc with hc | hc
        · exact h.min m u y t hmu ht (Or.inr ⟨rfl, hc⟩)
        · have e1 := List.mem_singleton.1 hc
          subst e1
          obtain ⟨i, v, hi⟩ := at_key hm
          by_cases h0 : 0 < i
          · obtain ⟨j, u2, h1, h2, h3, h4⟩ := h.ah i t v h0 hi
            exact Or.inr ⟨i, j, v, u2, h0, hi, h2, by rcases h4 with h4 | h4 <;> omega⟩
          · have e0 : i = 0 := by omega
            subst e0
            rw [h.zero] at hi
            simp only [Option.some.injEq, Prod.mk.injEq] at hi
            exact Or.inl hi.1.symm
  · rename_i hm
    have hkl := (List.getElem?_eq_some_iff.1 hk).1
    have old : ∀ {i : Nat} {q : Stp × Stp}, L[i]? = some q → (L ++ [(s, e)])[i]? = some q := fun {i q} hi => by
      rw [List.getElem?_append_left (List.getElem?_eq_some_iff.1 hi).1]; exact hi
    have new : (L ++ [(s, e)])[L.length]? = some (s, e) := by rw [List.getElem?_append_right (Nat.le_refl _), Nat.sub_self]; rfl
    have pick : ∀ {i : Nat} {a v : Stp}, (L ++ [(s, e)])[i]? = some (a, v) → L[i]? = some (a, v) ∨ (i = L.length ∧ a = s ∧ v = e) := fun {i a v} hi => by
      by_cases hl : i < L.length
      · rw [List.getElem?_append_left hl] at hi; exact Or.inl hi
      · have h1 := (List.getElem?_eq_some_iff.1 hi).1
        rw [List.length_append, List.length_singleton] at h1
        have e1 : i = L.length := by omega
        subst e1
        rw [new] at hi
        simp only [Option.some.injEq, Prod.mk.injEq] at hi
        exact Or.inr ⟨rfl, hi.1.symm, hi.2.symm⟩
    have hse : e ≠ s := fun e1 => hm (by rw [← e1]; exact key_at hk)
    refine ⟨old h.zero, ?_, fun i a v hi ha => ?_, fun i i' j j' a v u a' v' u' hi hii h1 h2 h3 h4 => ?_, fun m u y t hmu ht hc => ?_⟩
    · rw [List.map_append, List.nodup_append]
      refine ⟨h.nd, by simp, fun a ha b hb e1 => ?_⟩
      simp at hb
      subst hb; subst e1
      exact hm ha
    · rcases pick ha with ha | ⟨rfl, rfl, rfl⟩
      · obtain ⟨j, u, h1, h2, h3, h4⟩ := h.ah i a v hi ha
        exact ⟨j, u, h1, old h2, h3, h4.imp id fun ⟨a1, a2⟩ => ⟨a1, List.mem_append_left _ a2⟩⟩
      · exact ⟨k, x, hkl, old hk, hsn, Or.inr ⟨rfl, hin⟩⟩
    · rcases pick h1 with g1 | ⟨rfl, rfl, rfl⟩
      · have hv : v ∈ L.map (·.1) := by
          obtain ⟨j0, u0, -, h5, -⟩ := h.ah i a v hi g1
          exact key_at h5
        have h2' : L[j]? = some (v, u) := by
          rcases pick h2 with h2 | ⟨-, h2, -⟩
          · exact h2
          · exact absurd (h2 ▸ hv) hm
        rcases pick h3 with g3 | ⟨rfl, rfl, rfl⟩
        · have hi'0 : 0 < i' := by omega
          have hv' : v' ∈ L.map (·.1) := by
            obtain ⟨j0, u0, -, h5, -⟩ := h.ah i' a' v' hi'0 g3
            exact key_at h5
          have h4' : L[j']? = some (v', u') := by
            rcases pick h4 with h4 | ⟨-, h4, -⟩
            · exact h4
            · exact absurd (h4 ▸ hv') hm
          exact h.mono i i' j j' a v u a' v' u' hi hii g1 h2' g3 h4'
        · have h4' : L[j']? = some (v', u') := by
            rcases pick h4 with h4 | ⟨-, h4, -⟩
            · exact h4
            · exact absurd h4 hse
          have ej : j' = k := nd_at h.nd h4' hk
          obtain ⟨j0, u0, -, h5, -, h6⟩ := h.ah i a v hi g1
          have ej0 : j = j0 := nd_at h.nd h2' h5
          subst ej0 ej
          rcases h6 with h6 | ⟨h6, h7⟩
          · exact Or.inl h6
          · exact Or.inr ⟨h6, hlt a h7⟩
      · exfalso
        have := (List.getElem?_eq_some_iff.1 h3).1
        rw [List.length_append, List.length_singleton] at this
        omega
    · have hmu' : L[m]? = some (u, y) := by
        rcases pick hmu with hmu | ⟨h1, -, -⟩
        · exact hmu
        · rcases hc with hc | hc <;> omega
      have fin : (t = root ∨ ∃ (i j : Nat) (v y : Stp), 0 < i ∧ L[i]? = some (t, v) ∧ L[j]? = some (v, y) ∧ j ≤ m) → t = root ∨ ∃ (i j : Nat) (v y : Stp), 0 < i ∧ (L ++ [(s, e)])[i]? = some (t, v) ∧ (L ++ [(s, e)])[j]? = some (v, y) ∧ j ≤ m := by
        rintro (h1 | ⟨i, j, v, y, h1, h2, h3, h4⟩)
        · exact Or.inl h1
        · exact Or.inr ⟨i, j, v, y, h1, old h2, old h3, h4⟩
      rcases hc with hc | ⟨rfl, hc⟩
      · exact fin (h.min m u y t hmu' ht (Or.inl hc))
      · rcases List.mem_append.1 hc with hc | hc
        · exact fin (h.min m u y t hmu' ht (Or.inr ⟨rfl, hc⟩))
        · have e1 := List.mem_singleton.1 hc
          subst e1
          exact Or.inr ⟨L.length, m, e, x, by omega, new, old hk, Nat.le_refl _⟩
theorem rch_at {ahead : Stp} {L : List (Stp × Stp)} {s : Stp} {k : Nat} {q : Stp × Stp} (h : L[k]? = some q) : (rchP ahead L s)[k]? = some q := by
  unfold rchP
  split
  · exact h
  · rw [List.getElem?_append_left (List.getElem?_eq_some_iff.1 h).1]; exact h
theorem Bf.fold {nx : Stp → List Stp} {root : Stp} {k : Nat} {e x : Stp} (hr : RisP (nx e)) : ∀ (R N : List Stp) {L : List (Stp × Stp)}, Bf nx root k N L → L[k]? = some (e, x) → nx e = N ++ R → Bf nx root k (nx e) (R.foldl (rchP e) L)
  | [], N, L, h, _, hN => by
    rw [List.append_nil] at hN
    rw [hN]; exact h
  | s :: R, N, L, h, hk, hN => by
    rw [List.foldl_cons]
    exact Bf.fold hr R (N ++ [s]) (h.step hk hN hr) (rch_at hk) (by rw [hN]; simp)
theorem Bf.next {nx : Stp → List Stp} {root : Stp} {k : Nat} {e x : Stp} {L : List (Stp × Stp)} (h : Bf nx root k (nx e) L) (hk : L[k]? = some (e, x)) : Bf nx root (k + 1) [] L := by
  refine ⟨h.zero, h.nd, fun i s v hi ha => ?_, h.mono, fun m u y t hmu ht hc => ?_⟩
  · obtain ⟨j, u, h1, h2, h3, h4⟩ := h.ah i s v hi ha
    exact ⟨j, u, h1, h2, h3, Or.inl (by rcases h4 with h4 | h4 <;> omega)⟩
  · rcases hc with hc | ⟨_, hc⟩
    · by_cases e1 : m = k
      · subst e1
        rw [hk] at hmu
        simp only [Option.some.injEq, Prod.mk.injEq] at hmu
        obtain ⟨rfl, rfl⟩ := hmu
        exact h.min m e x t hk ht (Or.inr ⟨rfl, ht⟩)
      · exact h.min m u y t hmu ht (Or.inl (by omega))
    · simp at hc
theorem fold_at' {ahead : Stp} {k : Nat} {q : Stp × Stp} : ∀ (N : List Stp) {L : List (Stp × Stp)}, L[k]? = some q → (N.foldl (rchP ahead) L)[k]? = some q
  | [], _, h => h
  | s :: N, L, h => by rw [List.foldl_cons]; exact fold_at' N (rch_at h)
theorem Bf.all {n : Nat} {nx : Stp → List Stp} {root : Stp} (hr : ∀ s, RisP (nx s)) (hnx : ∀ s t, t ∈ nx s → ∃ p : Nat, t.1 = (p : Int) ∧ p < n) : ∀ (f k : Nat) (L : List (Stp × Stp)), KeyP n L → 2 * n + 1 ≤ f + k → Bf nx root k [] L → ∃ K, Bf nx root K [] (bfsP nx f k L) ∧ (bfsP nx f k L).length ≤ K
  | 0, k, L, hk, hf, h => ⟨k, h, by have := hk.len; show L.length ≤ k; omega⟩
  | f + 1, k, L, hk, hf, h => by
    rw [bfsP]
    split
    · rename_i he
      refine ⟨k, h, ?_⟩
      by_cases h1 : L.length ≤ k
      · exact h1
      · rw [List.getElem?_eq_getElem (by omega)] at he; simp at he
    · rename_i e he
      obtain ⟨e1, e2⟩ := e
      exact Bf.all hr hnx f (k + 1) _ (hk.fold _ _ (hnx _)) (by omega) ((Bf.fold (hr _) _ [] h he rfl).next (fold_at' _ he))
theorem Bf.start (nx : Stp → List Stp) (a : Int) : Bf nx (a, false) 0 [] (stP [a]) := by
  have e : stP [a] = [((a, false), (a, false))] := by unfold stP rchP; simp
  rw [e]
  refine ⟨rfl, by simp, fun i s v hi ha => ?_, fun i i' j j' s v u s' v' u' hi hii h1 _ _ _ => ?_, fun m u x t hm ht hc => ?_⟩
  · have := (List.getElem?_eq_some_iff.1 ha).1
    simp at this; omega
  · have := (List.getElem?_eq_some_iff.1 h1).1
    simp at this; omega
  · rcases hc with hc | hc
    · omega
    · simp at hc
/-- The way to a step, the newest first. -/
inductive WyP (L : List (Stp × Stp)) : Nat → List Stp → Prop
  | root {s : Stp} : L[0]? = some (s, s) → WyP L 0 [s]
  | step {i j : Nat} {s v : Stp} {l : List Stp} : L[i]? = some (s, v) → j < i → WyP L j (v :: l) → WyP L i (s :: v :: l)
theorem WyP.at {L : List (Stp × Stp)} {i : Nat} {s : Stp} {l : List Stp} (h : WyP L i (s :: l)) : ∃ v, L[i]? = some (s, v) := by
  cases h with
  | root h => exact ⟨_, h⟩
  | step h _ _ => exact ⟨_, h⟩
theorem WyP.uniq {L : List (Stp × Stp)} (hn : (L.map (·.1)).Nodup) : ∀ {i : Nat} {l l' : List Stp}, WyP L i l → WyP L i l' → l = l' := by
  intro i l l' h
  induction h generalizing l' with
  | root h =>
    intro h'
    cases h' with
    | root h2 => rw [h] at h2; simp only [Option.some.injEq, Prod.mk.injEq] at h2; rw [h2.1]
    | step h2 h3 _ => omega
  | @step i j s v l h1 h2 h3 ih =>
    intro h'
    cases h' with
    | root h4 => omega
    | @step _ j' s' v' l2 h4 h5 h6 =>
      rw [h1] at h4
      simp only [Option.some.injEq, Prod.mk.injEq] at h4
      obtain ⟨rfl, rfl⟩ := h4
      obtain ⟨_, a1⟩ := h3.at
      obtain ⟨_, a2⟩ := h6.at
      have e := nd_at hn a1 a2
      subst e
      rw [ih h6]
theorem Bf.way {nx : Stp → List Stp} {root : Stp} {K : Nat} {L : List (Stp × Stp)} (h : Bf nx root K [] L) : ∀ (m i : Nat) (s v : Stp), i ≤ m → L[i]? = some (s, v) → ∃ l, WyP L i (s :: l) ∧ ChR nx root (s :: l) := fun m => by
  induction m with
  | zero =>
    intro i s v hi hs
    have e : i = 0 := by omega
    subst e
    rw [h.zero] at hs
    simp only [Option.some.injEq, Prod.mk.injEq] at hs
    obtain ⟨rfl, rfl⟩ := hs
    exact ⟨[], WyP.root h.zero, ChR.one⟩
  | succ m ih =>
    intro i s v hi hs
    by_cases h0 : 0 < i
    · obtain ⟨j, u, h1, h2, h3, -⟩ := h.ah i s v h0 hs
      obtain ⟨l, hl, hc⟩ := ih j v u (by omega) h2
      exact ⟨v :: l, WyP.step hs h1 hl, ChR.cons hc h3⟩
    · have e : i = 0 := by omega
      subst e
      rw [h.zero] at hs
      simp only [Option.some.injEq, Prod.mk.injEq] at hs
      obtain ⟨rfl, rfl⟩ := hs
      exact ⟨[], WyP.root h.zero, ChR.one⟩
/-- What is found ahead is less. -/
theorem Bf.less {nx : Stp → List Stp} {root : Stp} {K : Nat} {L : List (Stp × Stp)} (h : Bf nx root K [] L) : ∀ (m i i' : Nat) (l l' : List Stp), i' ≤ m → i < i' → WyP L i l → WyP L i' l' → SlR (l.map (·.1)) (l'.map (·.1)) := fun m => by
  induction m with
  | zero => intro i i' l l' hm hi; omega
  | succ m ih =>
    intro i i' l l' hm hi hl hl'
    cases hl' with
    | root h1 => omega
    | @step _ j' s' v' l2 h1 h2 h3 =>
      cases hl with
      | root h4 => exact Or.inl (by simp)
      | @step _ j s v l1 h4 h5 h6 =>
        obtain ⟨u, a1⟩ := h6.at
        obtain ⟨u', a2⟩ := h3.at
        rcases h.mono i i' j j' s v u s' v' u' (by omega) hi h4 a1 h1 a2 with hj | ⟨rfl, hj⟩
        · rw [List.map_cons, List.map_cons (l := v' :: l2)]
          exact (ih j j' _ _ (by omega) hj h6 h3).cons _ _
        · have e := WyP.uniq h.nd h6 h3
          rw [e]
          exact SlR.here hj
/-- Of all ways to a step that which is found is the least. -/
theorem Bf.least {nx : Stp → List Stp} {root : Stp} {K : Nat} {L : List (Stp × Stp)} (h : Bf nx root K [] L) (hK : L.length ≤ K) {c : List Stp} (hc : ChR nx root c) : ∃ (i : Nat) (t : Stp) (c0 l : List Stp), c = t :: c0 ∧ WyP L i (t :: l) ∧ LeR ((t :: l).map (·.1)) (c.map (·.1)) := by
  induction hc with
  | one => exact ⟨0, root, [], [], rfl, WyP.root h.zero, Or.inl rfl⟩
  | @cons s t c1 hc ht ih =>
    obtain ⟨i, t', c0, l, e, hw, hle⟩ := ih
    simp only [List.cons.injEq] at e
    obtain ⟨rfl, rfl⟩ := e
    obtain ⟨y, hy⟩ := hw.at
    have hiK : i < K := Nat.lt_of_lt_of_le (List.getElem?_eq_some_iff.1 hy).1 hK
    rcases h.min i s y t hy ht (Or.inl hiK) with rfl | ⟨i2, j, v, y2, h1, h2, h3, h4⟩
    · exact ⟨0, t, s :: c1, [], rfl, WyP.root h.zero, Or.inr (Or.inl (by simp))⟩
    · obtain ⟨j0, u0, h5, h6, h7, -⟩ := h.ah i2 t v h1 h2
      have e := nd_at h.nd h3 h6
      subst e
      obtain ⟨l2, hl2, -⟩ := h.way j j v y2 (Nat.le_refl _) h3
      refine ⟨i2, t, s :: c1, v :: l2, rfl, WyP.step h2 h5 hl2, ?_⟩
      have h8 : LeR ((v :: l2).map (·.1)) ((s :: l).map (·.1)) := by
        by_cases e : j = i
        · subst e
          rw [WyP.uniq h.nd hl2 hw]
          exact Or.inl rfl
        · exact Or.inr (h.less i j i _ _ (Nat.le_refl _) (by omega) hl2 hw)
      rw [List.map_cons, List.map_cons (l := s :: c1)]
      exact (h8.trans hle).cons _
/-- The first that is found of some point is the least of all ways to it. -/
theorem Bf.first {nx : Stp → List Stp} {root : Stp} {K : Nat} {L : List (Stp × Stp)} (h : Bf nx root K [] L) (hK : L.length ≤ K) {i0 : Nat} {s0 v0 : Stp} (h0 : L[i0]? = some (s0, v0)) (hf : ∀ (i : Nat) (s v : Stp), L[i]? = some (s, v) → s.1 = s0.1 → i0 ≤ i) :
    ∃ l, WyP L i0 (s0 :: l) ∧ ChR nx root (s0 :: l) ∧ ∀ (t : Stp) (c : List Stp), ChR nx root (t :: c) → t.1 = s0.1 → LeR ((s0 :: l).map (·.1)) ((t :: c).map (·.1)) := by
  obtain ⟨l, hl, hc⟩ := h.way i0 i0 s0 v0 (Nat.le_refl _) h0
  refine ⟨l, hl, hc, fun t c ht he => ?_⟩
  obtain ⟨i, t', c0, l2, e, hw, hle⟩ := h.least hK ht
  simp only [List.cons.injEq] at e
  obtain ⟨rfl, rfl⟩ := e
  obtain ⟨y, hy⟩ := hw.at
  have hi := hf i t y hy he
  by_cases e : i0 = i
  · subst e
    have e2 := WyP.uniq h.nd hl hw
    rw [e2]
    exact hle
  · exact LeR.trans (Or.inr (h.less i i0 i _ _ (Nat.le_refl _) (by omega) hl hw)) hle
end Go.Proofs.YtcoiapgfaibkgaaGreat

namespace Go.Proofs.YtcoiapgfaibkgaaGreat
/-- Two places changed. -/
def swp (L : List Int) (i j : Nat) : List Int := (L.set i (L.getD j 0)).set j (L.getD i 0)
theorem swp_len (L : List Int) (i j : Nat) : (swp L i j).length = L.length := by simp [swp]
theorem swp_get (L : List Int) {i j : Nat} (hi : i < L.length) (hj : j < L.length) (k : Nat) : (swp L i j).getD k 0 = if k = j then L.getD i 0 else if k = i then L.getD j 0 else L.getD k 0 := by
  unfold swp
  simp only [List.getD_eq_getElem?_getD, List.getElem?_set, List.length_set]
  by_cases h1 : k = j
  · subst h1; simp [hj]
  · have h1' : ¬ j = k := fun e => h1 e.symm
    by_cases h2 : k = i
    · subst h2; simp only [h1', h1, if_false, if_true, hi]; rfl
    · have h2' : ¬ i = k := fun e => h2 e.symm
      simp only [h1', h1, h2, h2', if_false]
theorem swp_perm (L : List Int) {i j : Nat} (hi : i < L.length) (hj : j < L.length) : (swp L i j).Perm L := by
  have h := List.set_set_perm hi hj
  have e1 : L.getD j 0 = L[j] := by simp [List.getD_eq_getElem?_getD, hj]
  have e2 : L.getD i 0 = L[i] := by simp [List.getD_eq_getElem?_getD, hi]
  unfold swp
  rw [e1, e2]
  exact h
/-- The first n stand as a heap. -/
def HeapN (L : List Int) (n : Nat) : Prop := ∀ i, 0 < i → i < n → L.getD ((i - 1) / 2) 0 ≤ L.getD i 0
theorem HeapN.least {L : List Int} {n : Nat} (h : HeapN L n) : ∀ i, i < n → L.getD 0 0 ≤ L.getD i 0 := by
  intro i
  induction i using Nat.strongRecOn with
  | _ i ih =>
    intro hi
    rcases Nat.eq_zero_or_pos i with rfl | h0
    · exact Int.le_refl _
    · have h1 := ih ((i - 1) / 2) (by omega) (by omega)
      have h2 := h i h0 hi
      omega
/-- Up from a place. -/
def upF : Nat → List Int → Nat → List Int
  | 0, L, _ => L
  | f + 1, L, j => if j = 0 then L else if L.getD j 0 < L.getD ((j - 1) / 2) 0 then upF f (swp L ((j - 1) / 2) j) ((j - 1) / 2) else L
theorem upF_len : ∀ (f : Nat) (L : List Int) (j : Nat), (upF f L j).length = L.length
  | 0, _, _ => rfl
  | f + 1, L, j => by
    unfold upF
    split
    · rfl
    · split
      · rw [upF_len f]; exact swp_len _ _ _
      · rfl
theorem upF_perm : ∀ (f : Nat) (L : List Int) (j : Nat), j < L.length → (upF f L j).Perm L
  | 0, _, _, _ => List.Perm.refl _
  | f + 1, L, j, hj => by
    unfold upF
    split
    · exact List.Perm.refl _
    · split
      · exact (upF_perm f _ _ (by rw [swp_len]; omega)).trans (swp_perm L (by omega) hj)
      · exact List.Perm.refl _
/-- A heap but for one place, which may be too small. -/
structure HeapU (L : List Int) (j : Nat) : Prop where
  all : ∀ i, 0 < i → i < L.length → i ≠ j → L.getD ((i - 1) / 2) 0 ≤ L.getD i 0
  kids : ∀ c, 0 < c → c < L.length → (c - 1) / 2 = j → 0 < j → L.getD ((j - 1) / 2) 0 ≤ L.getD c 0
theorem upF_heap : ∀ (f : Nat) (L : List Int) (j : Nat), j < L.length → j ≤ f → HeapU L j → HeapN (upF f L j) L.length
  | 0, L, j, hj, hf, h => by
    have hj0 : j = 0 := by omega
    subst hj0
    intro i h0 h1
    exact h.all i h0 h1 (by omega)
  | f + 1, L, j, hj, hf, h => by
    unfold upF
    split
    · rename_i hj0
      subst hj0
      intro i h0 h1
      exact h.all i h0 h1 (by omega)
    · rename_i hj0
      split
      · rename_i hlt
        have hp : (j - 1) / 2 < L.length := by omega
        have hpj : (j - 1) / 2 < j := by omega
        have e := upF_heap f (swp L ((j - 1) / 2) j) ((j - 1) / 2) (by rw [swp_len]; exact hp) (by omega) ?_
        · rw [swp_len] at e; exact e
        · have hg := swp_get L hp hj
          constructor
          · intro i h0 h1 h2
            rw [swp_len] at h1
            rw [hg, hg]
            by_cases hij : i = j
            · subst hij
              rw [if_pos rfl, if_neg (by omega), if_pos rfl]; omega
            · rw [if_neg hij, if_neg h2]
              by_cases hpar : (i - 1) / 2 = j
              · rw [if_pos hpar]
                exact h.kids i h0 h1 hpar (by omega)
              · rw [if_neg hpar]
                have h3 := h.all i h0 h1 hij
                by_cases hpar2 : (i - 1) / 2 = (j - 1) / 2
                · rw [if_pos hpar2]; rw [hpar2] at h3; omega
                · rw [if_neg hpar2]; exact h3
          · intro c h0 h1 h2 h3
            rw [swp_len] at h1
            rw [hg, hg, if_neg (by omega), if_neg (by omega)]
            have h4 := h.all ((j - 1) / 2) h3 hp (by omega)
            by_cases hcj : c = j
            · subst hcj; rw [if_pos rfl]; exact h4
            · rw [if_neg hcj, if_neg (by omega)]
              have h5 := h.all c h0 h1 hcj
              rw [h2] at h5
              omega
      · rename_i hlt
        intro i h0 h1
        by_cases hij : i = j
        · subst hij; omega
        · exact h.all i h0 h1 hij
theorem upF_fuel : ∀ (f f' : Nat) (L : List Int) (j : Nat), j ≤ f → j ≤ f' → upF f L j = upF f' L j
  | 0, 0, _, _, _, _ => rfl
  | 0, f' + 1, L, j, h, _ => by have : j = 0 := by omega
                                subst this; simp [upF]
  | f + 1, 0, L, j, _, h => by have : j = 0 := by omega
                               subst this; simp [upF]
  | f + 1, f' + 1, L, j, h, h' => by
    unfold upF
    split
    · rfl
    · split
      · exact upF_fuel f f' _ _ (by omega) (by omega)
      · rfl
/-- Up, with as many steps as it takes. -/
def upL (L : List Int) (j : Nat) : List Int := upF j L j
theorem upL_zero (L : List Int) : upL L 0 = L := rfl
theorem upL_yes {L : List Int} {j : Nat} (h0 : 0 < j) (h : L.getD j 0 < L.getD ((j - 1) / 2) 0) : upL L j = upL (swp L ((j - 1) / 2) j) ((j - 1) / 2) := by
  obtain ⟨k, rfl⟩ : ∃ k, j = k + 1 := ⟨j - 1, by omega⟩
  unfold upL
  rw [upF, if_neg (by omega), if_pos h]
  exact upF_fuel _ _ _ _ (by omega) (Nat.le_refl _)
theorem upL_no {L : List Int} {j : Nat} (h : ¬ L.getD j 0 < L.getD ((j - 1) / 2) 0) : upL L j = L := by
  unfold upL
  cases j with
  | zero => rfl
  | succ k => rw [upF, if_neg (by omega), if_neg h]
/-- Down from a place, among the first n. -/
def dnF : Nat → List Int → Nat → Nat → List Int
  | 0, L, _, _ => L
  | f + 1, L, i, n => if 2 * i + 1 ≥ n then L else
      if L.getD (if 2 * i + 2 < n ∧ L.getD (2 * i + 2) 0 < L.getD (2 * i + 1) 0 then 2 * i + 2 else 2 * i + 1) 0 < L.getD i 0 then dnF f (swp L i (if 2 * i + 2 < n ∧ L.getD (2 * i + 2) 0 < L.getD (2 * i + 1) 0 then 2 * i + 2 else 2 * i + 1)) (if 2 * i + 2 < n ∧ L.getD (2 * i + 2) 0 < L.getD (2 * i + 1) 0 then 2 * i + 2 else 2 * i + 1) n else L
/-- The lesser child. -/
def kid (L : List Int) (i n : Nat) : Nat := if 2 * i + 2 < n ∧ L.getD (2 * i + 2) 0 < L.getD (2 * i + 1) 0 then 2 * i + 2 else 2 * i + 1
theorem dnF_succ (f : Nat) (L : List Int) (i n : Nat) : dnF (f + 1) L i n = if 2 * i + 1 ≥ n then L else if L.getD (kid L i n) 0 < L.getD i 0 then dnF f (swp L i (kid L i n)) (kid L i n) n else L := rfl
theorem kid_bd {L : List Int} {i n : Nat} (h : ¬ 2 * i + 1 ≥ n) : kid L i n < n ∧ i < kid L i n ∧ (kid L i n - 1) / 2 = i := by
  unfold kid
  split <;> omega
theorem kid_le {L : List Int} {i n c : Nat} (hc : c < n) (h0 : 0 < c) (hp : (c - 1) / 2 = i) : L.getD (kid L i n) 0 ≤ L.getD c 0 := by
  have hcc : c = 2 * i + 1 ∨ c = 2 * i + 2 := by omega
  unfold kid
  split
  · rename_i h
    rcases hcc with rfl | rfl
    · omega
    · exact Int.le_refl _
  · rename_i h
    rcases hcc with rfl | rfl
    · exact Int.le_refl _
    · by_cases hl : L.getD (2 * i + 2) 0 < L.getD (2 * i + 1) 0
      · exact absurd ⟨hc, hl⟩ h
      · omega
theorem dnF_len : ∀ (f : Nat) (L : List Int) (i n : Nat), (dnF f L i n).length = L.length
  | 0, _, _, _ => rfl
  | f + 1, L, i, n => by
    rw [dnF_succ]
    split
    · rfl
    · split
      · rw [dnF_len f]; exact swp_len _ _ _
      · rfl
theorem dnF_perm : ∀ (f : Nat) (L : List Int) (i n : Nat), i < L.length → n ≤ L.length → (dnF f L i n).Perm L
  | 0, _, _, _, _, _ => List.Perm.refl _
  | f + 1, L, i, n, hi, hn => by
    rw [dnF_succ]
    split
    · exact List.Perm.refl _
    · rename_i h
      have hk := kid_bd (L := L) h
      split
      · exact (dnF_perm f _ _ n (by rw [swp_len]; omega) (by rw [swp_len]; exact hn)).trans (swp_perm L hi (by omega))
      · exact List.Perm.refl _
theorem dnF_rest : ∀ (f : Nat) (L : List Int) (i n k : Nat), i < n → n ≤ L.length → n ≤ k → (dnF f L i n).getD k 0 = L.getD k 0
  | 0, _, _, _, _, _, _, _ => rfl
  | f + 1, L, i, n, k, hi, hn, hk => by
    rw [dnF_succ]
    split
    · rfl
    · rename_i h
      have hb := kid_bd (L := L) h
      split
      · rw [dnF_rest f _ _ n k hb.1 (by rw [swp_len]; exact hn) hk, swp_get L (by omega) (by omega), if_neg (by omega), if_neg (by omega)]
      · rfl
/-- A heap but for one place, which may be too great. -/
structure HeapD (L : List Int) (i n : Nat) : Prop where
  all : ∀ c, 0 < c → c < n → (c - 1) / 2 ≠ i → L.getD ((c - 1) / 2) 0 ≤ L.getD c 0
  kids : ∀ c, 0 < c → c < n → (c - 1) / 2 = i → 0 < i → L.getD ((i - 1) / 2) 0 ≤ L.getD c 0
theorem dnF_heap : ∀ (f : Nat) (L : List Int) (i n : Nat), i < n → n ≤ L.length → n ≤ i + f → HeapD L i n → HeapN (dnF f L i n) n
  | 0, L, i, n, hi, hn, hf, h => by omega
  | f + 1, L, i, n, hi, hn, hf, h => by
    rw [dnF_succ]
    split
    · rename_i h1
      intro c h0 hc
      exact h.all c h0 hc (by omega)
    · rename_i h1
      have hb := kid_bd (L := L) h1
      split
      · rename_i hlt
        have hg := swp_get L (i := i) (j := kid L i n) (by omega) (by omega)
        refine dnF_heap f _ _ n hb.1 (by rw [swp_len]; exact hn) (by omega) ⟨?_, ?_⟩
        · intro c h0 hc hp
          rw [hg, hg, if_neg hp]
          by_cases hcj : c = kid L i n
          · have hpi : (c - 1) / 2 = i := by rw [hcj]; exact hb.2.2
            rw [if_pos hpi, if_pos hcj]
            omega
          · rw [if_neg hcj]
            by_cases hpi : (c - 1) / 2 = i
            · rw [if_pos hpi, if_neg (by omega)]
              exact kid_le hc h0 hpi
            · rw [if_neg hpi]
              by_cases hci : c = i
              · rw [if_pos hci]
                have := h.kids (kid L i n) (by omega) hb.1 hb.2.2 (by omega)
                rw [hci]; exact this
              · rw [if_neg hci]
                exact h.all c h0 hc hpi
        · intro c h0 hc hp h3
          rw [hg, hg, hb.2.2, if_neg (by omega), if_pos rfl, if_neg (by omega), if_neg (by omega)]
          have := h.all c h0 hc (by omega)
          rw [hp] at this
          exact this
      · rename_i hlt
        intro c h0 hc
        by_cases hpi : (c - 1) / 2 = i
        · have := kid_le (L := L) hc h0 hpi
          rw [hpi]; omega
        · exact h.all c h0 hc hpi
theorem dnF_fuel : ∀ (f f' : Nat) (L : List Int) (i n : Nat), n ≤ i + f → n ≤ i + f' → dnF f L i n = dnF f' L i n
  | 0, 0, _, _, _, _, _ => rfl
  | 0, f' + 1, L, i, n, h, _ => by rw [dnF_succ, if_pos (by omega)]; rfl
  | f + 1, 0, L, i, n, _, h => by rw [dnF_succ, if_pos (by omega)]; rfl
  | f + 1, f' + 1, L, i, n, h, h' => by
    rw [dnF_succ, dnF_succ]
    split
    · rfl
    · rename_i h1
      have hb := kid_bd (L := L) h1
      split
      · exact dnF_fuel f f' _ _ n (by omega) (by omega)
      · rfl
/-- Down, with as many steps as it takes. -/
def dnL (L : List Int) (i n : Nat) : List Int := dnF n L i n
theorem dnL_stop {L : List Int} {i n : Nat} (h : n ≤ 2 * i + 1) : dnL L i n = L := by
  unfold dnL
  cases n with
  | zero => rfl
  | succ k => rw [dnF_succ, if_pos (by omega)]
theorem dnL_yes {L : List Int} {i n : Nat} (h : ¬ n ≤ 2 * i + 1) (hl : L.getD (kid L i n) 0 < L.getD i 0) : dnL L i n = dnL (swp L i (kid L i n)) (kid L i n) n := by
  have hb := kid_bd (L := L) (i := i) (n := n) (by omega)
  unfold dnL
  obtain ⟨k, rfl⟩ : ∃ k, n = k + 1 := ⟨n - 1, by omega⟩
  rw [dnF_succ, if_neg (by omega), if_pos hl]
  exact dnF_fuel _ _ _ _ _ (by omega) (by omega)
theorem dnL_no {L : List Int} {i n : Nat} (h : ¬ n ≤ 2 * i + 1) (hl : ¬ L.getD (kid L i n) 0 < L.getD i 0) : dnL L i n = L := by
  unfold dnL
  obtain ⟨k, rfl⟩ : ∃ k, n = k + 1 := ⟨n - 1, by omega⟩
  rw [dnF_succ, if_neg (by omega), if_neg hl]
theorem kid_two {L : List Int} {i n : Nat} (h : 2 * i + 2 < n) (hl : L.getD (2 * i + 2) 0 < L.getD (2 * i + 1) 0) : kid L i n = 2 * i + 2 := by unfold kid; rw [if_pos ⟨h, hl⟩]
theorem kid_one {L : List Int} {i n : Nat} (h : ¬ (2 * i + 2 < n ∧ L.getD (2 * i + 2) 0 < L.getD (2 * i + 1) 0)) : kid L i n = 2 * i + 1 := by unfold kid; rw [if_neg h]
end Go.Proofs.YtcoiapgfaibkgaaGreat

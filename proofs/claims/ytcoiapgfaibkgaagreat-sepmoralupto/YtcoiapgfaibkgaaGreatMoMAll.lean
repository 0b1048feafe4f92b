/-
  Proved here: plain mathematics of what open trails lead to: what a search by breadth reaches is what steps lead to; it is the same either way round, and point by point.
  Proved here: plain mathematics of apartness: something is told just where, in the moral graph of all that is above, a way leads from the one to the other that meets nothing given.
-/
import Derived.Test.YtcoiapgfaibkgaaGreatSpWAll
namespace Go.Proofs.YtcoiapgfaibkgaaGreat
set_option linter.unusedVariables false
open Go.RowKit Go.Shelf Go.Sort Go.Lib
/-- To what steps lead from some points. -/
inductive StR (nx : Stp → List Stp) (a : List Int) : Stp → Prop
  | start {p : Int} : p ∈ a → StR nx a (p, false)
  | step {s t : Stp} : StR nx a s → t ∈ nx s → StR nx a t
theorem rchP_mem {ahead s t : Stp} {L : List (Stp × Stp)} : t ∈ (rchP ahead L s).map (·.1) ↔ t ∈ L.map (·.1) ∨ t = s := by
  unfold rchP
  split
  · rename_i h
    constructor
    · exact Or.inl
    · rintro (h1 | h1)
      · exact h1
      · rw [h1]; exact h
  · rw [List.map_append, List.mem_append]; simp
theorem fold_mem {ahead t : Stp} : ∀ (N : List Stp) {L : List (Stp × Stp)}, t ∈ (N.foldl (rchP ahead) L).map (·.1) ↔ t ∈ L.map (·.1) ∨ t ∈ N
  | [], L => by simp
  | s :: N, L => by
    rw [List.foldl_cons, fold_mem N, rchP_mem, List.mem_cons]
    constructor
    · rintro ((h | h) | h)
      · exact Or.inl h
      · exact Or.inr (Or.inl h)
      · exact Or.inr (Or.inr h)
    · rintro (h | h | h)
      · exact Or.inl (Or.inl h)
      · exact Or.inl (Or.inr h)
      · exact Or.inr h
theorem start_mem {t : Stp} : ∀ (a : List Int) {L : List (Stp × Stp)}, t ∈ (a.foldl (fun L p => rchP (p, false) L (p, false)) L).map (·.1) ↔ t ∈ L.map (·.1) ∨ ∃ p ∈ a, t = (p, false)
  | [], L => by simp
  | x :: a, L => by
    rw [List.foldl_cons, start_mem a, rchP_mem]
    constructor
    · rintro ((h | h) | ⟨p, hp, h⟩)
      · exact Or.inl h
      · exact Or.inr ⟨x, by simp, h⟩
      · exact Or.inr ⟨p, by simp [hp], h⟩
    · rintro (h | ⟨p, hp, h⟩)
      · exact Or.inl (Or.inl h)
      · rcases List.mem_cons.1 hp with e | e
        · exact Or.inl (Or.inr (by rw [h, e]))
        · exact Or.inr ⟨p, e, h⟩
/-- What is reached is led to. -/
theorem bfs_sound {nx : Stp → List Stp} {a : List Int} : ∀ (f k : Nat) (L : List (Stp × Stp)), (∀ t ∈ L.map (·.1), StR nx a t) → ∀ t ∈ (bfsP nx f k L).map (·.1), StR nx a t
  | 0, _, _, h => h
  | f + 1, k, L, h => by
    rw [bfsP]
    split
    · exact h
    · rename_i e he
      refine bfs_sound f (k + 1) _ fun t ht => ?_
      rcases (fold_mem _).1 ht with h1 | h1
      · exact h t h1
      · exact StR.step (h e.1 (List.mem_map.2 ⟨e, List.mem_of_getElem? he, rfl⟩)) h1
theorem bfs_more {nx : Stp → List Stp} {t : Stp} : ∀ (f k : Nat) (L : List (Stp × Stp)), t ∈ L.map (·.1) → t ∈ (bfsP nx f k L).map (·.1)
  | 0, _, _, h => h
  | f + 1, k, L, h => by
    rw [bfsP]
    split
    · exact h
    · exact bfs_more f (k + 1) _ ((fold_mem _).2 (Or.inl h))
/-- Whatever follows on what is reached is reached. -/
theorem bfs_shut {n : Nat} {nx : Stp → List Stp} (hnx : ∀ s t, t ∈ nx s → ∃ p : Nat, t.1 = (p : Int) ∧ p < n) : ∀ (f k : Nat) (L : List (Stp × Stp)), KeyP n L → 2 * n + 1 ≤ f + k → k ≤ L.length →
    (∀ (i : Nat) (e : Stp × Stp), i < k → L[i]? = some e → ∀ t ∈ nx e.1, t ∈ L.map (·.1)) → ∀ s ∈ (bfsP nx f k L).map (·.1), ∀ t ∈ nx s, t ∈ (bfsP nx f k L).map (·.1)
  | 0, k, L, hk, hf, hkl, h => by have := hk.len; omega
  | f + 1, k, L, hk, hf, hkl, h => by
    rw [bfsP]
    split
    · rename_i he
      have hl : L.length ≤ k := by
        by_cases h1 : L.length ≤ k
        · exact h1
        · rw [List.getElem?_eq_getElem (by omega)] at he; simp at he
      intro s hs t ht
      obtain ⟨e, he2, rfl⟩ := List.mem_map.1 hs
      obtain ⟨i, hi, hie⟩ := List.getElem_of_mem he2
      exact h i e (by omega) (by rw [List.getElem?_eq_getElem hi, hie]) t ht
    · rename_i e he
      have hkl2 := (List.getElem?_eq_some_iff.1 he).1
      refine bfs_shut hnx f (k + 1) _ (hk.fold _ _ (hnx _)) (by omega) (Nat.le_trans hkl2 (rchP_fold_le _ _ _)) fun i e2 hi he2 t ht => ?_
      by_cases hik : i < k
      · have hold : L[i]? = some e2 := by
          have h1 : L[i]? = some L[i] := List.getElem?_eq_getElem (by omega)
          have h2 := fold_at (ahead := e.1) (nx e.1) h1
          rw [h2] at he2
          rw [h1, Option.some.inj he2]
        exact (fold_mem _).2 (Or.inl (h i e2 hik hold t ht))
      · have e0 : i = k := by omega
        subst e0
        have h2 := fold_at (ahead := e.1) (nx e.1) he
        rw [h2] at he2
        have e3 := Option.some.inj he2
        subst e3
        exact (fold_mem _).2 (Or.inr ht)
theorem wk_mem {P : List (List Int)} {n : Nat} {a G : List Int} (A : List Int) (hn : P.length = n) (h : wkE P n a G = 0) (s : Stp) : s ∈ (wkL P n a G A).map (·.1) ↔ StR (nxS P n G A) a s := by
  obtain ⟨h1, h2, h3⟩ := wk_parts h
  have hz := outs_no (cl_zero (ck_zero h1)).1
  have hP : ∀ (i : Nat) (x : Int), x ∈ P.getD i [] → ∃ p : Nat, x = (p : Int) ∧ p < n := fun i x hx => by have := hz i x hx; rw [hn] at this; exact this
  have hkey : KeyP n (stP a) := KeyP.start a (KeyP.nil n) (noPts_pt h3)
  constructor
  · refine bfs_sound _ _ _ (fun t ht => ?_) s
    rcases (start_mem a).1 ht with h4 | ⟨p, hp, rfl⟩
    · simp at h4
    · exact StR.start hp
  · intro hs
    induction hs with
    | start hp => exact bfs_more _ _ _ ((start_mem a).2 (Or.inr ⟨_, hp, rfl⟩))
    | step _ ht ih => exact bfs_shut (fun s t ht => rawS_pt hP ht) _ 0 _ hkey (by omega) (Nat.zero_le _) (fun i e hi => absurd hi (by omega)) _ ih _ ht
/-- Which steps follow on one. -/
theorem nx_mem {P : List (List Int)} {n : Nat} {G A : List Int} {s t : Stp} : t ∈ nxS P n G A s ↔ (s.1 ∉ G ∧ t.2 = true ∧ t.1 ∈ chF P s.1.toNat n) ∨ (((s.2 = true ∧ s.1 ∈ A) ∨ (s.2 = false ∧ s.1 ∉ G)) ∧ t.2 = false ∧ t.1 ∈ P.getD s.1.toNat []) := by
  unfold nxS
  rw [srtP_mem]
  unfold rawS
  rw [List.mem_append]
  obtain ⟨x, d⟩ := t
  constructor
  · rintro (h | h)
    · split at h
      · simp at h
      · rename_i hg
        obtain ⟨y, hy, e⟩ := List.mem_map.1 h
        simp only [Prod.mk.injEq] at e
        exact Or.inl ⟨hg, e.2.symm, by rw [← e.1]; exact hy⟩
    · split at h
      · rename_i hc
        obtain ⟨y, hy, e⟩ := List.mem_map.1 h
        simp only [Prod.mk.injEq] at e
        exact Or.inr ⟨hc, e.2.symm, by rw [← e.1]; exact hy⟩
      · simp at h
  · rintro (⟨h1, h2, h3⟩ | ⟨h1, h2, h3⟩)
    · left
      rw [if_neg h1]
      exact List.mem_map.2 ⟨x, h3, by simp only at h2; rw [h2]⟩
    · right
      rw [if_pos h1]
      exact List.mem_map.2 ⟨x, h3, by simp only at h2; rw [h2]⟩
/-- One point tells something of another: a step at it is led to. -/
def TelP (P : List (List Int)) (n : Nat) (G A a : List Int) (x : Int) : Prop := x ∉ G ∧ ∃ d, StR (nxS P n G A) a (x, d)
theorem ends_iff {P : List (List Int)} {n : Nat} {a G : List Int} (A : List Int) (hn : P.length = n) (h : wkE P n a G = 0) (x : Int) : x ∈ endsL (wkL P n a G A) G ↔ TelP P n G A a x := by
  unfold endsL minusR TelP
  rw [List.mem_filter, mem_ofR]
  constructor
  · rintro ⟨h1, h2⟩
    obtain ⟨e, he, rfl⟩ := List.mem_map.1 h1
    refine ⟨?_, e.1.2, (wk_mem A hn h e.1).1 (List.mem_map.2 ⟨e, he, rfl⟩)⟩
    simp only [mem_ofR, Bool.not_eq_true', decide_eq_false_iff_not] at h2
    exact h2
  · rintro ⟨h1, d, h2⟩
    obtain ⟨e, he, e2⟩ := List.mem_map.1 ((wk_mem A hn h _).2 h2)
    refine ⟨List.mem_map.2 ⟨e, he, by rw [e2]⟩, ?_⟩
    simp only [mem_ofR, Bool.not_eq_true', decide_eq_false_iff_not]
    exact h1
theorem str_any {nx : Stp → List Stp} {a : List Int} {s : Stp} : StR nx a s ↔ ∃ p ∈ a, StR nx [p] s := by
  constructor
  · intro h
    induction h with
    | start hp => exact ⟨_, hp, StR.start (by simp)⟩
    | step _ ht ih => obtain ⟨p, hp, h1⟩ := ih; exact ⟨p, hp, StR.step h1 ht⟩
  · rintro ⟨p, hp, h⟩
    induction h with
    | start hq => have e := List.mem_singleton.1 hq; rw [e]; exact StR.start hp
    | step _ ht ih => exact StR.step ih ht
/-- The way back: where a step's point may be left toward where it was come from, what it was begun with is led to. -/
theorem str_back {P : List (List Int)} {n : Nat} {G A : List Int} (hn : P.length = n) (hP : ∀ (i : Nat) (x : Int), x ∈ P.getD i [] → ∃ p : Nat, x = (p : Int) ∧ p < n) {a b : Int} (ha : ∃ p : Nat, a = (p : Int) ∧ p < n) {s : Stp} (h : StR (nxS P n G A) [a] s) :
    (∃ p : Nat, s.1 = (p : Int) ∧ p < n) ∧ ((∃ e, StR (nxS P n G A) [b] (s.1, e) ∧ (if s.2 = true then ((e = true ∧ s.1 ∈ A) ∨ (e = false ∧ s.1 ∉ G)) else s.1 ∉ G)) → ∃ e, StR (nxS P n G A) [b] (a, e)) := by
  induction h with
  | start hp =>
    have e := List.mem_singleton.1 hp
    subst e
    exact ⟨ha, fun ⟨e, he, _⟩ => ⟨e, he⟩⟩
  | @step s t hs ht ih =>
    obtain ⟨⟨u, hu, hun⟩, ih⟩ := ih
    obtain ⟨sx, sd⟩ := s
    obtain ⟨tx, td⟩ := t
    simp only at hu
    subst hu
    rcases nx_mem.1 ht with ⟨h1, h2, h3⟩ | ⟨h1, h2, h3⟩
    · simp only at h1 h2 h3
      subst h2
      rw [Int.toNat_natCast] at h3
      obtain ⟨v, hv, rfl, huv⟩ := chF_mem.1 h3
      refine ⟨⟨v, rfl, hv⟩, fun ⟨e, he, hc⟩ => ih ⟨false, StR.step he (nx_mem.2 (Or.inr ⟨?_, rfl, ?_⟩)), ?_⟩⟩
      · simpa using hc
      · simp only [Int.toNat_natCast]; exact huv
      · simp only
        split
        · exact Or.inr ⟨by simp, h1⟩
        · exact h1
    · simp only at h1 h2 h3
      subst h2
      rw [Int.toNat_natCast] at h3
      obtain ⟨v, rfl, hv⟩ := hP _ _ h3
      refine ⟨⟨v, rfl, hv⟩, fun ⟨e, he, hc⟩ => ih ⟨true, StR.step he (nx_mem.2 (Or.inl ⟨by simpa using hc, rfl, ?_⟩)), ?_⟩⟩
      · simp only [Int.toNat_natCast]; exact chF_mem.2 ⟨u, hun, rfl, h3⟩
      · simp only
        cases sd with
        | true =>
          rw [if_pos rfl]
          refine Or.inl ⟨by simp, ?_⟩
          rcases h1 with h4 | h4
          · exact h4.2
          · simp at h4
        | false =>
          rw [if_neg (by decide)]
          rcases h1 with h4 | h4
          · simp at h4
          · exact h4.2
/-- What tells something of another is told something of by it. -/
theorem tel_even {P : List (List Int)} {n : Nat} {G A : List Int} (hn : P.length = n) (hP : ∀ (i : Nat) (x : Int), x ∈ P.getD i [] → ∃ p : Nat, x = (p : Int) ∧ p < n) {a b : Int} (ha : ∃ p : Nat, a = (p : Int) ∧ p < n) (h : TelP P n G A [a] b) : TelP P n G A [b] a := by
  obtain ⟨hb, d, hd⟩ := h
  refine ⟨fun hg => ?_, ?_⟩
  · have key : ∀ s, StR (nxS P n G A) [a] s → s = (a, false) := fun s hs => by
      induction hs with
      | start hp => rw [List.mem_singleton.1 hp]
      | step _ ht ih =>
        rw [ih] at ht
        rcases nx_mem.1 ht with ⟨h1, _⟩ | ⟨h1 | h1, _⟩
        · exact absurd hg h1
        · simp at h1
        · exact absurd hg h1.2
    have e := key _ hd
    simp only [Prod.mk.injEq] at e
    rw [e.1] at hb
    exact hb hg
  · refine (str_back hn hP ha hd).2 ⟨false, StR.start (by simp), ?_⟩
    split
    · exact Or.inr ⟨rfl, hb⟩
    · exact hb
end Go.Proofs.YtcoiapgfaibkgaaGreat

namespace Go.Proofs.YtcoiapgfaibkgaaGreat
set_option linter.unusedVariables false
open Go.RowKit Go.Shelf Go.Sort Go.Lib
theorem at_ltM {P : List (List Int)} {j : Nat} {x : Int} (h : x ∈ P.getD j []) : j < P.length := by
  by_cases hl : j < P.length
  · exact hl
  · rw [List.getD_eq_getElem?_getD, List.getElem?_eq_none (by omega)] at h
    simp at h
/-- Two points are joined in the moral graph of some points. -/
def MorJ (P : List (List Int)) (X : Int → Prop) (u w : Int) : Prop := u ∈ P.getD w.toNat [] ∨ w ∈ P.getD u.toNat [] ∨ ∃ c : Nat, X (c : Int) ∧ u ∈ P.getD c [] ∧ w ∈ P.getD c []
/-- A way leads from one to another, through points that are not given. -/
inductive MorR (P : List (List Int)) (X : Int → Prop) (G : List Int) : Int → Int → Prop
  | refl {y : Int} : X y → y ∉ G → MorR P X G y y
  | head {u w y : Int} : X u → u ∉ G → MorJ P X u w → MorR P X G w y → MorR P X G u y
theorem MorR.first {P : List (List Int)} {X : Int → Prop} {G : List Int} {u y : Int} (h : MorR P X G u y) : X u ∧ u ∉ G := by
  cases h with
  | refl h1 h2 => exact ⟨h1, h2⟩
  | head h1 h2 _ _ => exact ⟨h1, h2⟩
theorem MorR.snoc {P : List (List Int)} {X : Int → Prop} {G : List Int} {u w y : Int} (h : MorR P X G u w) (hj : MorJ P X w y) (hX : X y) (hG : y ∉ G) : MorR P X G u y := by
  induction h with
  | refl h1 h2 => exact MorR.head h1 h2 hj (MorR.refl hX hG)
  | head h1 h2 h3 _ ih => exact MorR.head h1 h2 h3 (ih hj)
theorem MorR.last {P : List (List Int)} {X : Int → Prop} {G : List Int} {u y : Int} (h : MorR P X G u y) : X y ∧ y ∉ G := by
  induction h with
  | refl h1 h2 => exact ⟨h1, h2⟩
  | head _ _ _ _ ih => exact ih
/-- What holds the first and all that is joined to what it holds holds the last. -/
theorem MorR.closed {P : List (List Int)} {X S : Int → Prop} {G : List Int} (hS : ∀ u w, S u → MorJ P X u w → X w → w ∉ G → S w) {u y : Int} (h : MorR P X G u y) (hu : S u) : S y := by
  induction h with
  | refl _ _ => exact hu
  | head h1 h2 h3 h4 ih => exact ih (hS _ _ hu h3 h4.first.1 h4.first.2)
/-- Steps lead from one to another, the first ahead. -/
inductive StW (nx : Stp → List Stp) : Stp → Stp → Prop
  | refl {s : Stp} : StW nx s s
  | head {s t u : Stp} : t ∈ nx s → StW nx t u → StW nx s u
theorem StW.snoc {nx : Stp → List Stp} {s t u : Stp} (h : StW nx s t) (hu : u ∈ nx t) : StW nx s u := by
  induction h with
  | refl => exact StW.head hu StW.refl
  | head h1 _ ih => exact StW.head h1 (ih hu)
theorem str_path {nx : Stp → List Stp} {x : Int} {t : Stp} (h : StR nx [x] t) : StW nx (x, false) t := by
  induction h with
  | start hp => rw [List.mem_singleton.1 hp]; exact StW.refl
  | step _ ht ih => exact ih.snoc ht
theorem rn_tail {C : List (List Int)} : ∀ (m : Nat) (x y : Int), Rn C (m + 1) x y → ∃ z, Rn C m x z ∧ y ∈ C.getD z.toNat []
  | 0, x, y, ⟨z, hz, h⟩ => by
    have e : z = y := h
    subst e
    exact ⟨x, rfl, hz⟩
  | m + 1, x, y, ⟨z, hz, h⟩ => by
    obtain ⟨u, hu, hy⟩ := rn_tail m z y h
    exact ⟨u, ⟨z, hz, hu⟩, hy⟩
theorem mor_path {P : List (List Int)} {G A : List Int} {X : Int → Prop} (hP : ∀ (i : Nat) (x : Int), x ∈ P.getD i [] → ∃ p : Nat, x = (p : Int) ∧ p < P.length)
    (hX : ∀ (c : Nat) (x : Int), X (c : Int) → x ∈ P.getD c [] → X x) (hA : ∀ x ∈ A, X x) {s u : Stp} (hs : StW (nxS P P.length G A) s u) (hy : X u.1) (hyG : u.1 ∉ G) (hn : ∃ x : Nat, s.1 = (x : Int)) :
    (s.2 = true → X s.1 ∧ ∀ p ∈ P.getD s.1.toNat [], p ∉ G → MorR P X G p u.1) ∧ (s.2 = false → X s.1 → MorR P X G s.1 u.1) := by
  induction hs with
  | @refl s =>
    obtain ⟨x, hx⟩ := hn
    refine ⟨fun _ => ⟨hy, fun p hp hg => ?_⟩, fun _ _ => MorR.refl hy hyG⟩
    refine MorR.head (hX x p (by rw [← hx]; exact hy) (by rw [hx, Int.toNat_natCast] at hp; exact hp)) hg (Or.inl hp) (MorR.refl hy hyG)
  | @head s t u ht hp ih =>
    obtain ⟨x, hx⟩ := hn
    obtain ⟨sx, sd⟩ := s
    obtain ⟨tx, td⟩ := t
    simp only at hx
    subst hx
    rcases nx_mem.1 ht with ⟨h1, h2, h3⟩ | ⟨h1, h2, h3⟩
    · simp only at h1 h2 h3
      subst h2
      rw [Int.toNat_natCast] at h3
      obtain ⟨c, hc, rfl, hm⟩ := chF_mem.1 h3
      obtain ⟨hXc, hall⟩ := (ih hy hyG ⟨c, rfl⟩).1 rfl
      simp only [Int.toNat_natCast] at hXc hall
      have hXx : X (x : Int) := hX c _ hXc hm
      have hM := hall _ hm h1
      refine ⟨fun _ => ⟨hXx, fun p hp hg => ?_⟩, fun _ _ => hM⟩
      simp only [Int.toNat_natCast] at hp
      exact MorR.head (hX x p hXx hp) hg (Or.inl (by simp only [Int.toNat_natCast]; exact hp)) hM
    · simp only at h1 h2 h3
      subst h2
      rw [Int.toNat_natCast] at h3
      obtain ⟨q, rfl, hq⟩ := hP x tx h3
      have hih := (ih hy hyG ⟨q, rfl⟩).2 rfl
      simp only at hih
      refine ⟨fun hd => ?_, fun hd hXx => ?_⟩
      · simp only at hd
        subst hd
        have hxA : (x : Int) ∈ A := by
          rcases h1 with h4 | h4
          · exact h4.2
          · simp at h4
        have hXx := hA _ hxA
        have hM := hih (hX x _ hXx h3)
        refine ⟨hXx, fun p hp hg => ?_⟩
        simp only [Int.toNat_natCast] at hp
        exact MorR.head (hX x p hXx hp) hg (Or.inr (Or.inr ⟨x, hXx, hp, h3⟩)) hM
      · simp only at hd
        subst hd
        have hxG : (x : Int) ∉ G := by
          rcases h1 with h4 | h4
          · simp at h4
          · exact h4.2
        simp only at hXx
        exact MorR.head hXx hxG (Or.inr (Or.inl (by simp only [Int.toNat_natCast]; exact h3))) (hih (hX x _ hXx h3))
theorem rch_up {P : List (List Int)} {L : List Int} (c : Nat) (x : Int) (h : RchP P L (c : Int)) (hx : x ∈ P.getD c []) : RchP P L x := by
  obtain ⟨g, hg, k, hr⟩ := h
  exact ⟨g, hg, k + 1, rn_snoc k g _ x hr (by rw [Int.toNat_natCast]; exact hx)⟩
/-- Down from what is led to, where nothing below is given. -/
theorem str_down {P : List (List Int)} (hP : ∀ (i : Nat) (x : Int), x ∈ P.getD i [] → ∃ p : Nat, x = (p : Int) ∧ p < P.length) {a G A : List Int} (hA : AbvP P G A) {y : Nat} (hy : y < P.length) : ∀ (m : Nat) (c : Int) (d : Bool), StR (nxS P P.length G A) a (c, d) → c ∉ A → Rn P m (y : Int) c → ∃ e, StR (nxS P P.length G A) a ((y : Int), e)
  | 0, c, d, hs, _, hr => by
    have e : (y : Int) = c := hr
    subst e
    exact ⟨d, hs⟩
  | m + 1, c, d, hs, hc, hr => by
    obtain ⟨z, hz, hcz⟩ := rn_tail m _ _ hr
    obtain ⟨q, rfl, hq⟩ := rn_ptS hP rfl m _ _ ⟨y, rfl, hy⟩ hz
    rw [Int.toNat_natCast] at hcz
    have hzA : (q : Int) ∉ A := fun h => hc ((hA.2 c).2 (rch_up q c ((hA.2 _).1 h) hcz))
    have hcG : c ∉ G := fun h => hc ((hA.2 c).2 ⟨c, h, 0, rfl⟩)
    obtain ⟨v, rfl, hv⟩ := hP q c hcz
    exact str_down hP hA hy m (q : Int) true (StR.step hs (nx_mem.2 (Or.inl ⟨hcG, rfl, by simp only [Int.toNat_natCast]; exact chF_mem.2 ⟨q, hq, rfl, hcz⟩⟩))) hzA hz
/-- Up from what is begun with, where nothing below is given. -/
theorem str_up {P : List (List Int)} (hP : ∀ (i : Nat) (x : Int), x ∈ P.getD i [] → ∃ p : Nat, x = (p : Int) ∧ p < P.length) {a G A : List Int} (hA : AbvP P G A) {y : Nat} (hy : y < P.length) (hya : (y : Int) ∈ a) : ∀ (m : Nat) (c : Int), c ∉ A → Rn P m (y : Int) c → StR (nxS P P.length G A) a (c, false)
  | 0, c, _, hr => by
    have e : (y : Int) = c := hr
    subst e
    exact StR.start hya
  | m + 1, c, hc, hr => by
    obtain ⟨z, hz, hcz⟩ := rn_tail m _ _ hr
    obtain ⟨q, rfl, hq⟩ := rn_ptS hP rfl m _ _ ⟨y, rfl, hy⟩ hz
    rw [Int.toNat_natCast] at hcz
    have hzA : (q : Int) ∉ A := fun h => hc ((hA.2 c).2 (rch_up q c ((hA.2 _).1 h) hcz))
    have hzG : (q : Int) ∉ G := fun h => hzA ((hA.2 _).2 ⟨_, h, 0, rfl⟩)
    exact StR.step (str_up hP hA hy hya m (q : Int) hzA hz) (nx_mem.2 (Or.inr ⟨Or.inr ⟨rfl, hzG⟩, rfl, by simp only [Int.toNat_natCast]; exact hcz⟩))
/-- Where a way leads on in the moral graph, steps lead on, or to something that is asked. -/
theorem mor_str {P : List (List Int)} (hP : ∀ (i : Nat) (x : Int), x ∈ P.getD i [] → ∃ p : Nat, x = (p : Int) ∧ p < P.length) {a b G A : List Int} (ha : ∀ x ∈ a, ∃ p : Nat, x = (p : Int) ∧ p < P.length) (hb : ∀ x ∈ b, ∃ p : Nat, x = (p : Int) ∧ p < P.length) (hA : AbvP P G A) {u y : Int} (h : MorR P (RchP P (a ++ b ++ G)) G u y) (hy : y ∈ b) (hu : ∃ d, StR (nxS P P.length G A) a (u, d)) (hun : ∃ p : Nat, u = (p : Int) ∧ p < P.length) :
    ∃ z ∈ b, z ∉ G ∧ ∃ e, StR (nxS P P.length G A) a (z, e) := by
  -- what is above and not above what is given: led to upward, or it leads down to what is asked
  have turn : ∀ (c : Nat) (d : Bool), StR (nxS P P.length G A) a ((c : Int), d) → RchP P (a ++ b ++ G) (c : Int) → (c : Int) ∉ A → (∃ z ∈ b, z ∉ G ∧ ∃ e, StR (nxS P P.length G A) a (z, e)) ∨ StR (nxS P P.length G A) a ((c : Int), false) := fun c d hs hr hc => by
    obtain ⟨g, hg, k, hr⟩ := hr
    rcases List.mem_append.1 hg with hg | hg
    · rcases List.mem_append.1 hg with hg | hg
      · obtain ⟨p, rfl, hp⟩ := ha g hg
        exact Or.inr (str_up hP hA hp hg k _ hc hr)
      · obtain ⟨p, rfl, hp⟩ := hb g hg
        refine Or.inl ⟨_, hg, fun h => hc ((hA.2 _).2 ⟨_, h, k, hr⟩), str_down hP hA hp k _ d hs hc hr⟩
    · exact absurd ((hA.2 _).2 ⟨g, hg, k, hr⟩) hc
  induction h with
  | @refl y h1 h2 => exact ⟨_, hy, h2, hu⟩
  | @head u w y h1 h2 h3 h4 ih =>
    obtain ⟨d, hd⟩ := hu
    obtain ⟨p, rfl, hp⟩ := hun
    rcases h3 with h3 | h3 | ⟨c, hc, h5, h6⟩
    · have hw := at_ltM h3
      have e0 : ∃ q : Nat, w = (q : Int) := by
        obtain ⟨g, hg, k, hr⟩ := h4.first.1
        have hgn : ∃ p : Nat, g = (p : Int) ∧ p < P.length ∨ g ∈ G := by
          rcases List.mem_append.1 hg with hg | hg
          · rcases List.mem_append.1 hg with hg | hg
            · obtain ⟨p, e, hp⟩ := ha g hg; exact ⟨p, Or.inl ⟨e, hp⟩⟩
            · obtain ⟨p, e, hp⟩ := hb g hg; exact ⟨p, Or.inl ⟨e, hp⟩⟩
          · exact ⟨0, Or.inr hg⟩
        cases k with
        | zero =>
          have e : g = w := hr
          subst e
          obtain ⟨p, hpp⟩ := hgn
          rcases hpp with ⟨e, _⟩ | h7
          · exact ⟨p, e⟩
          · exact absurd h7 h4.first.2
        | succ k =>
          obtain ⟨z, -, hz⟩ := rn_tail k g w hr
          obtain ⟨q, e, -⟩ := hP _ _ hz
          exact ⟨q, e⟩
      obtain ⟨q, rfl⟩ := e0
      rw [Int.toNat_natCast] at h3 hw
      exact ih hy ⟨true, StR.step hd (nx_mem.2 (Or.inl ⟨h2, rfl, by simp only [Int.toNat_natCast]; exact chF_mem.2 ⟨q, hw, rfl, h3⟩⟩))⟩ ⟨q, rfl, hw⟩
    · rw [Int.toNat_natCast] at h3
      obtain ⟨q, rfl, hq⟩ := hP p w h3
      have fin : StR (nxS P P.length G A) a ((p : Int), false) ∨ (d = true ∧ (p : Int) ∈ A) → ∃ e, StR (nxS P P.length G A) a ((q : Int), e) := fun h7 => by
        rcases h7 with h7 | ⟨h7, h8⟩
        · exact ⟨false, StR.step h7 (nx_mem.2 (Or.inr ⟨Or.inr ⟨rfl, h2⟩, rfl, by simp only [Int.toNat_natCast]; exact h3⟩))⟩
        · exact ⟨false, StR.step hd (nx_mem.2 (Or.inr ⟨Or.inl ⟨h7, h8⟩, rfl, by simp only [Int.toNat_natCast]; exact h3⟩))⟩
      cases d with
      | false => exact ih hy (fin (Or.inl hd)) ⟨q, rfl, hq⟩
      | true =>
        by_cases hpA : (p : Int) ∈ A
        · exact ih hy (fin (Or.inr ⟨rfl, hpA⟩)) ⟨q, rfl, hq⟩
        · rcases turn p true hd h1 hpA with h7 | h7
          · exact h7
          · exact ih hy (fin (Or.inl h7)) ⟨q, rfl, hq⟩
    · have hcn := at_ltM h5
      have hcs : StR (nxS P P.length G A) a ((c : Int), true) := StR.step hd (nx_mem.2 (Or.inl ⟨h2, rfl, by simp only [Int.toNat_natCast]; exact chF_mem.2 ⟨c, hcn, rfl, h5⟩⟩))
      obtain ⟨q, rfl, hq⟩ := hP c w h6
      by_cases hcA : (c : Int) ∈ A
      · exact ih hy ⟨false, StR.step hcs (nx_mem.2 (Or.inr ⟨Or.inl ⟨rfl, hcA⟩, rfl, by simp only [Int.toNat_natCast]; exact h6⟩))⟩ ⟨q, rfl, hq⟩
      · rcases turn c true hcs hc hcA with h7 | h7
        · exact h7
        · have hcG : (c : Int) ∉ G := fun h => hcA ((hA.2 _).2 ⟨_, h, 0, rfl⟩)
          exact ih hy ⟨false, StR.step h7 (nx_mem.2 (Or.inr ⟨Or.inr ⟨rfl, hcG⟩, rfl, by simp only [Int.toNat_natCast]; exact h6⟩))⟩ ⟨q, rfl, hq⟩
/-- Something is told just where a way leads in the moral graph. -/
theorem moral_iff {P : List (List Int)} (hP : ∀ (i : Nat) (x : Int), x ∈ P.getD i [] → ∃ p : Nat, x = (p : Int) ∧ p < P.length) {a b G A : List Int} (ha : ∀ x ∈ a, ∃ p : Nat, x = (p : Int) ∧ p < P.length) (hb : ∀ x ∈ b, ∃ p : Nat, x = (p : Int) ∧ p < P.length) (hA : AbvP P G A) :
    (∃ x ∈ a, ∃ y ∈ b, TelP P P.length G A [x] y) ↔ ∃ x ∈ a, ∃ y ∈ b, MorR P (RchP P (a ++ b ++ G)) G x y := by
  constructor
  · rintro ⟨x, hx, y, hy, hyG, d, hs⟩
    refine ⟨x, hx, y, hy, ?_⟩
    obtain ⟨p, rfl, hp⟩ := ha x hx
    exact (mor_path (X := RchP P (a ++ b ++ G)) hP (fun c x h1 h2 => rch_up c x h1 h2) (fun z hz => by
      obtain ⟨g, hg, k, hr⟩ := (hA.2 z).1 hz
      exact ⟨g, List.mem_append_right _ hg, k, hr⟩) (str_path hs) ⟨y, List.mem_append_left _ (List.mem_append_right _ hy), 0, rfl⟩ hyG ⟨p, rfl⟩).2 rfl ⟨_, List.mem_append_left _ (List.mem_append_left _ hx), 0, rfl⟩
  · rintro ⟨x, hx, y, hy, hm⟩
    obtain ⟨z, hz, hzG, e, hs⟩ := mor_str hP ha hb hA hm hy ⟨false, StR.start hx⟩ (ha x hx)
    obtain ⟨v, hv, hs2⟩ := str_any.1 hs
    exact ⟨v, hv, z, hz, hzG, e, hs2⟩
end Go.Proofs.YtcoiapgfaibkgaaGreat

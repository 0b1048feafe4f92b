/-
  Proved here: the document's Bad and Blanket of layer 16.
  Proved here: package sep's Trail; the steps that may follow on one have each a point of its own.
  Proved here: plain mathematics of what open trails lead to: what a search by breadth reaches is what steps lead to; it is the same either way round, and point by point.
-/
import Derived.Test.YtcoiapgfaibkgabGreatSpDAll
import Derived.Test.YtcoiapgfaibkgabGreatDagV
import Derived.Test.YtcoiapgfaibkgabGreatSpWAll
namespace Go.Proofs.YtcoiapgfaibkgabGreat
set_option linter.unusedVariables false
open Go.RowKit
/-- What is wrong with parents, and with the points that are named. -/
def bdE (P : List (List Int)) (n : Nat) (zs : List Int) : Int := if ckE P ≠ 0 then ckE P else if noPts (n : Int) zs = true then 3 else 0
theorem blE_bd (P : List (List Int)) (n : Nat) (a : Int) : blE P n a = bdE P n [a] := by
  unfold blE bdE
  have : noPts (n : Int) [a] = noPt (n : Int) a := by simp [noPts]
  rw [this]
theorem noPts_step {m : Int} {zs : List Int} {k : Nat} {x : Int} (h : zs[k]? = some x) : noPts m (zs.take (k + 1)) = (noPts m (zs.take k) || noPt m x) := by
  unfold noPts
  rw [List.take_add_one, h]
  simp
theorem noPts_hit {m : Int} {zs : List Int} {k : Nat} {x : Int} (h : zs[k]? = some x) (hx : noPt m x = true) : noPts m zs = true := List.any_eq_true.2 ⟨x, List.mem_of_getElem? h, hx⟩
/-- Is a point near another one: by the document's words, points that both are parents of being gone through up to c. -/
def nrB (P : List (List Int)) (a p c : Nat) : Bool := (decide ((p : Int) ∈ P.getD a []) || decide ((a : Int) ∈ P.getD p [])) || (List.range c).any fun c => decide ((a : Int) ∈ P.getD c []) && decide ((p : Int) ∈ P.getD c [])
theorem nrB_zero (P : List (List Int)) (a p : Nat) : nrB P a p 0 = (decide ((p : Int) ∈ P.getD a []) || decide ((a : Int) ∈ P.getD p [])) := by simp [nrB]
theorem nrB_succ (P : List (List Int)) (a p c : Nat) : nrB P a p (c + 1) = (nrB P a p c || (decide ((a : Int) ∈ P.getD c []) && decide ((p : Int) ∈ P.getD c []))) := by
  unfold nrB
  rw [List.range_succ, List.any_append, ← Bool.or_assoc]
  congr 1
  rw [List.any_cons, List.any_nil, Bool.or_false]
def nrL (P : List (List Int)) (a n p : Nat) : List Int := ((List.range p).filter fun q => nrB P a q n && !(q == a)).map Int.ofNat
theorem nrL_succ (P : List (List Int)) (a n p : Nat) : nrL P a n (p + 1) = nrL P a n p ++ if (nrB P a p n && !(p == a)) = true then [(p : Int)] else [] := by
  unfold nrL
  rw [List.range_succ, List.filter_append, List.map_append]
  congr 1
  cases h : (nrB P a p n && !(p == a)) with
  | true => rw [List.filter_cons, if_pos h]; rfl
  | false => rw [List.filter_cons, if_neg (by rw [h]; decide)]; rfl
theorem nrL_len (P : List (List Int)) (a n p : Nat) : (nrL P a n p).length ≤ p := by
  unfold nrL
  rw [List.length_map]
  exact Nat.le_trans (List.length_filter_le _ _) (by simp)
theorem rise_rangeF (f : Nat → Bool) (p : Nat) : Rise (((List.range p).filter f).map Int.ofNat) := by
  induction p with
  | zero => exact rise_nil
  | succ p ih =>
    rw [List.range_succ, List.filter_append, List.map_append]
    refine List.pairwise_append.2 ⟨ih, ?_, fun x hx y hy => ?_⟩
    · cases h : f p <;> simp [h]
    · obtain ⟨q, hq, rfl⟩ := List.mem_map.1 hx
      obtain ⟨r, hr, rfl⟩ := List.mem_map.1 hy
      have h1 := List.mem_range.1 (List.mem_filter.1 hq).1
      have h2 : r = p := by simpa using (List.mem_filter.1 hr).1
      show (q : Int) < (r : Int)
      omega
/-- The two ways tell the same points. -/
theorem nrL_near {P : List (List Int)} {n a : Nat} (hn : P.length = n) (ha : a < n) (hout : ∀ (i : Nat) (x : Int), x ∈ P.getD i [] → ∃ p : Nat, x = (p : Int) ∧ p < n) : nrL P a n n = (ofR (nearK P n a n)).filter fun z => decide (z ∈ [(a : Int)]) == false := by
  refine rise_ext (rise_rangeF _ n) (List.Pairwise.sublist List.filter_sublist (rise_ofR _)) fun z => ?_
  have hmem : ∀ q : Nat, (q : Int) ∈ nearK P n a n ↔ (nrB P a q n = true ∧ q < n) := fun q => by
    unfold nearK nrB
    rw [List.take_of_length_le (chF_len P a n)]
    simp only [List.mem_append, List.mem_flatten, List.mem_map, Bool.or_eq_true, List.any_eq_true, Bool.and_eq_true, decide_eq_true_eq, List.mem_range]
    constructor
    · rintro ((h | h) | ⟨l, ⟨c, hc, rfl⟩, h⟩)
      · obtain ⟨p, e, hp⟩ := hout a _ h
        exact ⟨Or.inl (Or.inl h), by omega⟩
      · obtain ⟨i, e, hi, h2⟩ := chF_memS h
        have e2 : i = q := by omega
        subst e2
        exact ⟨Or.inl (Or.inr h2), hi⟩
      · obtain ⟨i, rfl, hi, h2⟩ := chF_memS hc
        obtain ⟨p, e, hp⟩ := hout _ _ h
        exact ⟨Or.inr ⟨i, hi, h2, h⟩, by omega⟩
    · rintro ⟨(h | h) | ⟨i, hi, h2, h⟩, hq⟩
      · exact Or.inl (Or.inl h)
      · exact Or.inl (Or.inr (chF_mem.2 ⟨q, hq, rfl, h⟩))
      · exact Or.inr ⟨_, ⟨(i : Int), chF_mem.2 ⟨i, hi, rfl, h2⟩, rfl⟩, h⟩
  have hin : ∀ z, z ∈ nearK P n a n → ∃ q : Nat, z = (q : Int) := fun z hz => by
    unfold nearK at hz
    simp only [List.mem_append, List.mem_flatten, List.mem_map] at hz
    rcases hz with (h | h) | ⟨l, ⟨c, hc, rfl⟩, h⟩
    · obtain ⟨p, e, _⟩ := hout a _ h; exact ⟨p, e⟩
    · obtain ⟨i, e, _⟩ := chF_memS h; exact ⟨i, e⟩
    · obtain ⟨p, e, _⟩ := hout _ _ h; exact ⟨p, e⟩
  rw [List.mem_filter, mem_ofR]
  constructor
  · intro hz
    unfold nrL at hz
    obtain ⟨q, hq, rfl⟩ := List.mem_map.1 hz
    rw [List.mem_filter, List.mem_range, Bool.and_eq_true, Bool.not_eq_true', beq_eq_false_iff_ne] at hq
    refine ⟨(hmem q).2 ⟨hq.2.1, hq.1⟩, ?_⟩
    have : ¬ ((q : Int) = (a : Int)) := by omega
    show (decide ((q : Int) ∈ [(a : Int)]) == false) = true
    simp [this]
  · rintro ⟨hz, hna⟩
    obtain ⟨q, rfl⟩ := hin z hz
    have h1 := (hmem q).1 hz
    have hne : q ≠ a := fun e => by subst e; simp at hna
    unfold nrL
    exact List.mem_map.2 ⟨q, List.mem_filter.2 ⟨List.mem_range.2 h1.2, by rw [Bool.and_eq_true, Bool.not_eq_true', beq_eq_false_iff_ne]; exact ⟨h1.1, hne⟩⟩, rfl⟩
end Go.Proofs.YtcoiapgfaibkgabGreat

namespace Go.Proofs.YtcoiapgfaibkgabGreat
set_option linter.unusedVariables false
open Go.RowKit Go.Shelf Go.Sort Go.Lib
/-- No point hangs on one that hangs on it. -/
theorem no_two {P : List (List Int)} (h : ckE P = 0) {i j : Nat} (hi : i < P.length) (hj : j < P.length) (h1 : (i : Int) ∈ P.getD j []) (h2 : (j : Int) ∈ P.getD i []) : False := by
  have hl : (outL P).length = P.length := by
    have hc := ck_zero h
    unfold ckE at h
    rw [if_pos hc] at h
    by_cases h3 : (outL P).length < P.length
    · rw [if_pos h3] at h; simp at h
    · have hpn : Pts P.length ([] : List Int) := ⟨List.nodup_nil, by simp⟩
      have hP : Pts P.length (outL P) := (out_all (P := P) P.length [] hpn).2.1
      have h4 := hP.len
      omega
  obtain ⟨k, hk, hp⟩ := out_place hl hi
  obtain ⟨m, hm, hq⟩ := out_place hl hj
  have a1 := hp _ h2
  have a2 := hq _ h1
  rw [hk] at a2
  rw [hm] at a1
  omega
theorem raw_apart {P : List (List Int)} {n : Nat} (h : ckE P = 0) (hn : P.length = n) (G A : List Int) (s : Stp) : (rawS P n G A s).Pairwise (fun a b => a.1 ≠ b.1) := by
  have hz := cl_zero (ck_zero h)
  have hnd := twices_no hz.2 s.1.toNat
  have hch : (chF P s.1.toNat n).Nodup := (rise_rangeF _ n).imp (fun h e => by omega)
  have steps : ∀ (L : List Int) (d : Bool), L.Nodup → (stepsTo L d).Pairwise (fun a b => a.1 ≠ b.1) := fun L d hL => List.pairwise_map.2 hL
  unfold rawS
  refine List.pairwise_append.2 ⟨?_, ?_, fun a ha b hb e => ?_⟩
  · split
    · exact List.Pairwise.nil
    · exact steps _ _ hch
  · split
    · exact steps _ _ hnd
    · exact List.Pairwise.nil
  · split at ha
    · simp at ha
    · split at hb
      · obtain ⟨x, hx, rfl⟩ := List.mem_map.1 ha
        obtain ⟨y, hy, rfl⟩ := List.mem_map.1 hb
        have e2 : x = y := e
        subst e2
        obtain ⟨i, hi, rfl, h1⟩ := chF_mem.1 hx
        obtain ⟨q, hq, hqn⟩ := outs_no hz.1 _ _ hy
        have hs : s.1.toNat < P.length := by
          by_cases hl : s.1.toNat < P.length
          · exact hl
          · rw [List.getD_eq_getElem?_getD, List.getElem?_eq_none (by omega)] at hy
            simp at hy
        exact no_two h (by omega) hs hy h1
      · simp at hb
theorem hdis_any {P : List (List Int)} {n : Nat} {G : List Int} (hn : P.length = n) (h : nsE P n G = 0) (A : List Int) (s : Stp) : (rawS P n G A s).Pairwise (fun a b => a.1 ≠ b.1) := by
  refine raw_apart ?_ hn G A s
  unfold nsE at h
  by_cases h1 : ckE P = 0
  · exact h1
  · rw [if_pos h1] at h; exact h
theorem ends_mem {L : List (Stp × Stp)} {G : List Int} {x : Int} (h : x ∈ endsL L G) : ∃ s ∈ L.map (·.1), s.1 = x := by
  unfold endsL minusR at h
  have h1 := (List.mem_filter.1 h).1
  rw [mem_ofR] at h1
  obtain ⟨e, he, rfl⟩ := List.mem_map.1 h1
  exact ⟨e.1, List.mem_map.2 ⟨e, he, rfl⟩, rfl⟩
def trR (L : List (Stp × Stp)) (b : Int) (G : List Int) : List Int := if b ∈ endsL L G then trlP L b else []
end Go.Proofs.YtcoiapgfaibkgabGreat

namespace Go.Proofs.YtcoiapgfaibkgabGreat
set_option linter.unusedVariables false
open Go.RowKit Go.Shelf Go.Sort Go.Lib
/-- To what steps lead from some points. -/
inductive StR (nx : Stp → List Stp) (a : List Int) : Stp → Prop
  | start {p : Int} : p ∈ a → StR nx a (p, false)
  | step {s t : Stp} : StR nx a s → t ∈ nx s → StR nx a t
theorem rchP_mem {ahead s t : Stp} {L : List (Stp × Stp)} : t ∈ (rchP ahead L s).map (·.1) ↔ t ∈ L.map (·.1) ∨ t = s := by
  unfold rchP
  split
  · rename_i h
    constructor
    · exact Or.inl
    · rintro (h1 | h1)
      · exact h1
      · rw [h1]; exact h
  · rw [List.map_append, List.mem_append]; simp
theorem fold_mem {ahead t : Stp} : ∀ (N : List Stp) {L : List (Stp × Stp)}, t ∈ (N.foldl (rchP ahead) L).map (·.1) ↔ t ∈ L.map (·.1) ∨ t ∈ N
  | [], L => by simp
  | s :: N, L => by
    rw [List.foldl_cons, fold_mem N, rchP_mem, List.mem_cons]
    constructor
    · rintro ((h | h) | h)
      · exact Or.inl h
      · exact Or.inr (Or.inl h)
      · exact Or.inr (Or.inr h)
    · rintro (h | h | h)
      · exact Or.inl (Or.inl h)
      · exact Or.inl (Or.inr h)
      · exact Or.inr h
theorem start_mem {t : Stp} : ∀ (a : List Int) {L : List (Stp × Stp)}, t ∈ (a.foldl (fun L p => rchP (p, false) L (p, false)) L).map (·.1) ↔ t ∈ L.map (·.1) ∨ ∃ p ∈ a, t = (p, false)
  | [], L => by simp
  | x :: a, L => by
    rw [List.foldl_cons, start_mem a, rchP_mem]
    constructor
    · rintro ((h | h) | ⟨p, hp, h⟩)
      · exact Or.inl h
      · exact Or.inr ⟨x, by simp, h⟩
      · exact Or.inr ⟨p, by simp [hp], h⟩
    · rintro (h | ⟨p, hp, h⟩)
      · exact Or.inl (Or.inl h)
      · rcases List.mem_cons.1 hp with e | e
        · exact Or.inl (Or.inr (by rw [h, e]))
        · exact Or.inr ⟨p, e, h⟩
/-- What is reached is led to. -/
theorem bfs_sound {nx : Stp → List Stp} {a : List Int} : ∀ (f k : Nat) (L : List (Stp × Stp)), (∀ t ∈ L.map (·.1), StR nx a t) → ∀ t ∈ (bfsP nx f k L).map (·.1), StR nx a t
  | 0, _, _, h => h
  | f + 1, k, L, h => by
    rw [bfsP]
    split
    · exact h
    · rename_i e he
      refine bfs_sound f (k + 1) _ fun t ht => ?_
      rcases (fold_mem _).1 ht with h1 | h1
      · exact h t h1
      · exact StR.step (h e.1 (List.mem_map.2 ⟨e, List.mem_of_getElem? he, rfl⟩)) h1
theorem bfs_more {nx : Stp → List Stp} {t : Stp} : ∀ (f k : Nat) (L : List (Stp × Stp)), t ∈ L.map (·.1) → t ∈ (bfsP nx f k L).map (·.1)
  | 0, _, _, h => h
  | f + 1, k, L, h => by
    rw [bfsP]
    split
    · exact h
    · exact bfs_more f (k + 1) _ ((fold_mem _).2 (Or.inl h))
/-- Whatever follows on what is reached is reached. -/
theorem bfs_shut {n : Nat} {nx : Stp → List Stp} (hnx : ∀ s t, t ∈ nx s → ∃ p : Nat, t.1 = (p : Int) ∧ p < n) : ∀ (f k : Nat) (L : List (Stp × Stp)), KeyP n L → 2 * n + 1 ≤ f + k → k ≤ L.length →
    (∀ (i : Nat) (e : Stp × Stp), i < k → L[i]? = some e → ∀ t ∈ nx e.1, t ∈ L.map (·.1)) → ∀ s ∈ (bfsP nx f k L).map (·.1), ∀ t ∈ nx s, t ∈ (bfsP nx f k L).map (·.1)
  | 0, k, L, hk, hf, hkl, h => by have := hk.len; omega
  | f + 1, k, L, hk, hf, hkl, h => by
    rw [bfsP]
    split
    · rename_i he
      have hl : L.length ≤ k := by
        by_cases h1 : L.length ≤ k
        · exact h1
        · rw [List.getElem?_eq_getElem (by omega)] at he; simp at he
      intro s hs t ht
      obtain ⟨e, he2, rfl⟩ := List.mem_map.1 hs
      obtain ⟨i, hi, hie⟩ := List.getElem_of_mem he2
      exact h i e (by omega) (by rw [List.getElem?_eq_getElem hi, hie]) t ht
    · rename_i e he
      have hkl2 := (List.getElem?_eq_some_iff.1 he).1
      refine bfs_shut hnx f (k + 1) _ (hk.fold _ _ (hnx _)) (by omega) (Nat.le_trans hkl2 (rchP_fold_le _ _ _)) fun i e2 hi he2 t ht => ?_
      by_cases hik : i < k
      · have hold : L[i]? = some e2 := by
          have h1 : L[i]? = some L[i] := List.getElem?_eq_getElem (by omega)
          have h2 := fold_at (ahead := e.1) (nx e.1) h1
          rw [h2] at he2
          rw [h1, Option.some.inj he2]
        exact (fold_mem _).2 (Or.inl (h i e2 hik hold t ht))
      · have e0 : i = k := by omega
        subst e0
        have h2 := fold_at (ahead := e.1) (nx e.1) he
        rw [h2] at he2
        have e3 := Option.some.inj he2
        subst e3
        exact (fold_mem _).2 (Or.inr ht)
theorem wk_mem {P : List (List Int)} {n : Nat} {a G : List Int} (A : List Int) (hn : P.length = n) (h : wkE P n a G = 0) (s : Stp) : s ∈ (wkL P n a G A).map (·.1) ↔ StR (nxS P n G A) a s := by
  obtain ⟨h1, h2, h3⟩ := wk_parts h
  have hz := outs_no (cl_zero (ck_zero h1)).1
  have hP : ∀ (i : Nat) (x : Int), x ∈ P.getD i [] → ∃ p : Nat, x = (p : Int) ∧ p < n := fun i x hx => by have := hz i x hx; rw [hn] at this; exact this
  have hkey : KeyP n (stP a) := KeyP.start a (KeyP.nil n) (noPts_pt h3)
  constructor
  · refine bfs_sound _ _ _ (fun t ht => ?_) s
    rcases (start_mem a).1 ht with h4 | ⟨p, hp, rfl⟩
    · simp at h4
    · exact StR.start hp
  · intro hs
    induction hs with
    | start hp => exact bfs_more _ _ _ ((start_mem a).2 (Or.inr ⟨_, hp, rfl⟩))
    | step _ ht ih => exact bfs_shut (fun s t ht => rawS_pt hP ht) _ 0 _ hkey (by omega) (Nat.zero_le _) (fun i e hi => absurd hi (by omega)) _ ih _ ht
/-- Which steps follow on one. -/
theorem nx_mem {P : List (List Int)} {n : Nat} {G A : List Int} {s t : Stp} : t ∈ nxS P n G A s ↔ (s.1 ∉ G ∧ t.2 = true ∧ t.1 ∈ chF P s.1.toNat n) ∨ (((s.2 = true ∧ s.1 ∈ A) ∨ (s.2 = false ∧ s.1 ∉ G)) ∧ t.2 = false ∧ t.1 ∈ P.getD s.1.toNat []) := by
  unfold nxS
  rw [srtP_mem]
  unfold rawS
  rw [List.mem_append]
  obtain ⟨x, d⟩ := t
  constructor
  · rintro (h | h)
    · split at h
      · simp at h
      · rename_i hg
        obtain ⟨y, hy, e⟩ := List.mem_map.1 h
        simp only [Prod.mk.injEq] at e
        exact Or.inl ⟨hg, e.2.symm, by rw [← e.1]; exact hy⟩
    · split at h
      · rename_i hc
        obtain ⟨y, hy, e⟩ := List.mem_map.1 h
        simp only [Prod.mk.injEq] at e
        exact Or.inr ⟨hc, e.2.symm, by rw [← e.1]; exact hy⟩
      · simp at h
  · rintro (⟨h1, h2, h3⟩ | ⟨h1, h2, h3⟩)
    · left
      rw [if_neg h1]
      exact List.mem_map.2 ⟨x, h3, by simp only at h2; rw [h2]⟩
    · right
      rw [if_pos h1]
      exact List.mem_map.2 ⟨x, h3, by simp only at h2; rw [h2]⟩
/-- One point tells something of another: a step at it is led to. -/
def TelP (P : List (List Int)) (n : Nat) (G A a : List Int) (x : Int) : Prop := x ∉ G ∧ ∃ d, StR (nxS P n G A) a (x, d)
theorem ends_iff {P : List (List Int)} {n : Nat} {a G : List Int} (A : List Int) (hn : P.length = n) (h : wkE P n a G = 0) (x : Int) : x ∈ endsL (wkL P n a G A) G ↔ TelP P n G A a x := by
  unfold endsL minusR TelP
  rw [List.mem_filter, mem_ofR]
  constructor
  · rintro ⟨h1, h2⟩
    obtain ⟨e, he, rfl⟩ := List.mem_map.1 h1
    refine ⟨?_, e.1.2, (wk_mem A hn h e.1).1 (List.mem_map.2 ⟨e, he, rfl⟩)⟩
    simp only [mem_ofR, Bool.not_eq_true', decide_eq_false_iff_not] at h2
    exact h2
  · rintro ⟨h1, d, h2⟩
    obtain ⟨e, he, e2⟩ := List.mem_map.1 ((wk_mem A hn h _).2 h2)
    refine ⟨List.mem_map.2 ⟨e, he, by rw [e2]⟩, ?_⟩
    simp only [mem_ofR, Bool.not_eq_true', decide_eq_false_iff_not]
    exact h1
theorem str_any {nx : Stp → List Stp} {a : List Int} {s : Stp} : StR nx a s ↔ ∃ p ∈ a, StR nx [p] s := by
  constructor
  · intro h
    induction h with
    | start hp => exact ⟨_, hp, StR.start (by simp)⟩
    | step _ ht ih => obtain ⟨p, hp, h1⟩ := ih; exact ⟨p, hp, StR.step h1 ht⟩
  · rintro ⟨p, hp, h⟩
    induction h with
    | start hq => have e := List.mem_singleton.1 hq; rw [e]; exact StR.start hp
    | step _ ht ih => exact StR.step ih ht
/-- The way back: where a step's point may be left toward where it was come from, what it was begun with is led to. -/
theorem str_back {P : List (List Int)} {n : Nat} {G A : List Int} (hn : P.length = n) (hP : ∀ (i : Nat) (x : Int), x ∈ P.getD i [] → ∃ p : Nat, x = (p : Int) ∧ p < n) {a b : Int} (ha : ∃ p : Nat, a = (p : Int) ∧ p < n) {s : Stp} (h : StR (nxS P n G A) [a] s) :
    (∃ p : Nat, s.1 = (p : Int) ∧ p < n) ∧ ((∃ e, StR (nxS P n G A) [b] (s.1, e) ∧ (if s.2 = true then ((e = true ∧ s.1 ∈ A) ∨ (e = false ∧ s.1 ∉ G)) else s.1 ∉ G)) → ∃ e, StR (nxS P n G A) [b] (a, e)) := by
  induction h with
  | start hp =>
    have e := List.mem_singleton.1 hp
    subst e
    exact ⟨ha, fun ⟨e, he, _⟩ => ⟨e, he⟩⟩
  | @step s t hs ht ih =>
    obtain ⟨⟨u, hu, hun⟩, ih⟩ := ih
    obtain ⟨sx, sd⟩ := s
    obtain ⟨tx, td⟩ := t
    simp only at hu
    subst hu
    rcases nx_mem.1 ht with ⟨h1, h2, h3⟩ | ⟨h1, h2, h3⟩
    · simp only at h1 h2 h3
      subst h2
      rw [Int.toNat_natCast] at h3
      obtain ⟨v, hv, rfl, huv⟩ := chF_mem.1 h3
      refine ⟨⟨v, rfl, hv⟩, fun ⟨e, he, hc⟩ => ih ⟨false, StR.step he (nx_mem.2 (Or.inr ⟨?_, rfl, ?_⟩)), ?_⟩⟩
      · simpa using hc
      · simp only [Int.toNat_natCast]; exact huv
      · simp only
        split
        · exact Or.inr ⟨by simp, h1⟩
        · exact h1
    · simp only at h1 h2 h3
      subst h2
      rw [Int.toNat_natCast] at h3
      obtain ⟨v, rfl, hv⟩ := hP _ _ h3
      refine ⟨⟨v, rfl, hv⟩, fun ⟨e, he, hc⟩ => ih ⟨true, StR.step he (nx_mem.2 (Or.inl ⟨by simpa using hc, rfl, ?_⟩)), ?_⟩⟩
      · simp only [Int.toNat_natCast]; exact chF_mem.2 ⟨u, hun, rfl, h3⟩
      · simp only
        cases sd with
        | true =>
          rw [if_pos rfl]
          refine Or.inl ⟨by simp, ?_⟩
          rcases h1 with h4 | h4
          · exact h4.2
          · simp at h4
        | false =>
          rw [if_neg (by decide)]
          rcases h1 with h4 | h4
          · simp at h4
          · exact h4.2
/-- What tells something of another is told something of by it. -/
theorem tel_even {P : List (List Int)} {n : Nat} {G A : List Int} (hn : P.length = n) (hP : ∀ (i : Nat) (x : Int), x ∈ P.getD i [] → ∃ p : Nat, x = (p : Int) ∧ p < n) {a b : Int} (ha : ∃ p : Nat, a = (p : Int) ∧ p < n) (h : TelP P n G A [a] b) : TelP P n G A [b] a := by
  obtain ⟨hb, d, hd⟩ := h
  refine ⟨fun hg => ?_, ?_⟩
  · have key : ∀ s, StR (nxS P n G A) [a] s → s = (a, false) := fun s hs => by
      induction hs with
      | start hp => rw [List.mem_singleton.1 hp]
      | step _ ht ih =>
        rw [ih] at ht
        rcases nx_mem.1 ht with ⟨h1, _⟩ | ⟨h1 | h1, _⟩
        · exact absurd hg h1
        · simp at h1
        · exact absurd hg h1.2
    have e := key _ hd
    simp only [Prod.mk.injEq] at e
    rw [e.1] at hb
    exact hb hg
  · refine (str_back hn hP ha hd).2 ⟨false, StR.start (by simp), ?_⟩
    split
    · exact Or.inr ⟨rfl, hb⟩
    · exact hb
end Go.Proofs.YtcoiapgfaibkgabGreat

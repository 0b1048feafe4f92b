/-
  Proved here: plain mathematics of what open trails lead to: what a search by breadth reaches is what steps lead to; it is the same either way round, and point by point.
  Proved here: package prune's closures, and what ways answer of a point, asked one behind the other.
-/
import Derived.Test.YtcoiapgfaibkgaaGreatSpWAll
import Derived.Test.YtcoiapgfaibkgaaGreatSpZAll
namespace Go.Proofs.YtcoiapgfaibkgaaGreat
set_option linter.unusedVariables false
open Go.RowKit Go.Shelf Go.Sort Go.Lib
/-- To what steps lead from some points. -/
inductive StR (nx : Stp → List Stp) (a : List Int) : Stp → Prop
  | start {p : Int} : p ∈ a → StR nx a (p, false)
  | step {s t : Stp} : StR nx a s → t ∈ nx s → StR nx a t
theorem rchP_mem {ahead s t : Stp} {L : List (Stp × Stp)} : t ∈ (rchP ahead L s).map (·.1) ↔ t ∈ L.map (·.1) ∨ t = s := by
  unfold rchP
  split
  · rename_i h
    constructor
    · exact Or.inl
    · rintro (h1 | h1)
      · exact h1
      · rw [h1]; exact h
  · rw [List.map_append, List.mem_append]; simp
theorem fold_mem {ahead t : Stp} : ∀ (N : List Stp) {L : List (Stp × Stp)}, t ∈ (N.foldl (rchP ahead) L).map (·.1) ↔ t ∈ L.map (·.1) ∨ t ∈ N
  | [], L => by simp
  | s :: N, L => by
    rw [List.foldl_cons, fold_mem N, rchP_mem, List.mem_cons]
    constructor
    · rintro ((h | h) | h)
      · exact Or.inl h
      · exact Or.inr (Or.inl h)
      · exact Or.inr (Or.inr h)
    · rintro (h | h | h)
      · exact Or.inl (Or.inl h)
      · exact Or.inl (Or.inr h)
      · exact Or.inr h
theorem start_mem {t : Stp} : ∀ (a : List Int) {L : List (Stp × Stp)}, t ∈ (a.foldl (fun L p => rchP (p, false) L (p, false)) L).map (·.1) ↔ t ∈ L.map (·.1) ∨ ∃ p ∈ a, t = (p, false)
  | [], L => by simp
  | x :: a, L => by
    rw [List.foldl_cons, start_mem a, rchP_mem]
    constructor
    · rintro ((h | h) | ⟨p, hp, h⟩)
      · exact Or.inl h
      · exact Or.inr ⟨x, by simp, h⟩
      · exact Or.inr ⟨p, by simp [hp], h⟩
    · rintro (h | ⟨p, hp, h⟩)
      · exact Or.inl (Or.inl h)
      · rcases List.mem_cons.1 hp with e | e
        · exact Or.inl (Or.inr (by rw [h, e]))
        · exact Or.inr ⟨p, e, h⟩
/-- What is reached is led to. -/
theorem bfs_sound {nx : Stp → List Stp} {a : List Int} : ∀ (f k : Nat) (L : List (Stp × Stp)), (∀ t ∈ L.map (·.1), StR nx a t) → ∀ t ∈ (bfsP nx f k L).map (·.1), StR nx a t
  | 0, _, _, h => h
  | f + 1, k, L, h => by
    rw [bfsP]
    split
    · exact h
    · rename_i e he
      refine bfs_sound f (k + 1) _ fun t ht => ?_
      rcases (fold_mem _).1 ht with h1 | h1
      · exact h t h1
      · exact StR.step (h e.1 (List.mem_map.2 ⟨e, List.mem_of_getElem? he, rfl⟩)) h1
theorem bfs_more {nx : Stp → List Stp} {t : Stp} : ∀ (f k : Nat) (L : List (Stp × Stp)), t ∈ L.map (·.1) → t ∈ (bfsP nx f k L).map (·.1)
  | 0, _, _, h => h
  | f + 1, k, L, h => by
    rw [bfsP]
    split
    · exact h
    · exact bfs_more f (k + 1) _ ((fold_mem _).2 (Or.inl h))
/-- Whatever follows on what is reached is reached. -/
theorem bfs_shut {n : Nat} {nx : Stp → List Stp} (hnx : ∀ s t, t ∈ nx s → ∃ p : Nat, t.1 = (p : Int) ∧ p < n) : ∀ (f k : Nat) (L : List (Stp × Stp)), KeyP n L → 2 * n + 1 ≤ f + k → k ≤ L.length →
    (∀ (i : Nat) (e : Stp × Stp), i < k → L[i]? = some e → ∀ t ∈ nx e.1, t ∈ L.map (·.1)) → ∀ s ∈ (bfsP nx f k L).map (·.1), ∀ t ∈ nx s, t ∈ (bfsP nx f k L).map (·.1)
  | 0, k, L, hk, hf, hkl, h => by have := hk.len; omega
  | f + 1, k, L, hk, hf, hkl, h => by
    rw [bfsP]
    split
    · rename_i he
      have hl : L.length ≤ k := by
        by_cases h1 : L.length ≤ k
        · exact h1
        · rw [List.getElem?_eq_getElem (by omega)] at he; simp at he
      intro s hs t ht
      obtain ⟨e, he2, rfl⟩ := List.mem_map.1 hs
      obtain ⟨i, hi, hie⟩ := List.getElem_of_mem he2
      exact h i e (by omega) (by rw [List.getElem?_eq_getElem hi, hie]) t ht
    · rename_i e he
      have hkl2 := (List.getElem?_eq_some_iff.1 he).1
      refine bfs_shut hnx f (k + 1) _ (hk.fold _ _ (hnx _)) (by omega) (Nat.le_trans hkl2 (rchP_fold_le _ _ _)) fun i e2 hi he2 t ht => ?_
      by_cases hik : i < k
      · have hold : L[i]? = some e2 := by
          have h1 : L[i]? = some L[i] := List.getElem?_eq_getElem (by omega)
          have h2 := fold_at (ahead := e.1) (nx e.1) h1
          rw [h2] at he2
          rw [h1, Option.some.inj he2]
        exact (fold_mem _).2 (Or.inl (h i e2 hik hold t ht))
      · have e0 : i = k := by omega
        subst e0
        have h2 := fold_at (ahead := e.1) (nx e.1) he
        rw [h2] at he2
        have e3 := Option.some.inj he2
        subst e3
        exact (fold_mem _).2 (Or.inr ht)
theorem wk_mem {P : List (List Int)} {n : Nat} {a G : List Int} (A : List Int) (hn : P.length = n) (h : wkE P n a G = 0) (s : Stp) : s ∈ (wkL P n a G A).map (·.1) ↔ StR (nxS P n G A) a s := by
  obtain ⟨h1, h2, h3⟩ := wk_parts h
  have hz := outs_no (cl_zero (ck_zero h1)).1
  have hP : ∀ (i : Nat) (x : Int), x ∈ P.getD i [] → ∃ p : Nat, x = (p : Int) ∧ p < n := fun i x hx => by have := hz i x hx; rw [hn] at this; exact this
  have hkey : KeyP n (stP a) := KeyP.start a (KeyP.nil n) (noPts_pt h3)
  constructor
  · refine bfs_sound _ _ _ (fun t ht => ?_) s
    rcases (start_mem a).1 ht with h4 | ⟨p, hp, rfl⟩
    · simp at h4
    · exact StR.start hp
  · intro hs
    induction hs with
    | start hp => exact bfs_more _ _ _ ((start_mem a).2 (Or.inr ⟨_, hp, rfl⟩))
    | step _ ht ih => exact bfs_shut (fun s t ht => rawS_pt hP ht) _ 0 _ hkey (by omega) (Nat.zero_le _) (fun i e hi => absurd hi (by omega)) _ ih _ ht
/-- Which steps follow on one. -/
theorem nx_mem {P : List (List Int)} {n : Nat} {G A : List Int} {s t : Stp} : t ∈ nxS P n G A s ↔ (s.1 ∉ G ∧ t.2 = true ∧ t.1 ∈ chF P s.1.toNat n) ∨ (((s.2 = true ∧ s.1 ∈ A) ∨ (s.2 = false ∧ s.1 ∉ G)) ∧ t.2 = false ∧ t.1 ∈ P.getD s.1.toNat []) := by
  unfold nxS
  rw [srtP_mem]
  unfold rawS
  rw [List.mem_append]
  obtain ⟨x, d⟩ := t
  constructor
  · rintro (h | h)
    · split at h
      · simp at h
      · rename_i hg
        obtain ⟨y, hy, e⟩ := List.mem_map.1 h
        simp only [Prod.mk.injEq] at e
        exact Or.inl ⟨hg, e.2.symm, by rw [← e.1]; exact hy⟩
    · split at h
      · rename_i hc
        obtain ⟨y, hy, e⟩ := List.mem_map.1 h
        simp only [Prod.mk.injEq] at e
        exact Or.inr ⟨hc, e.2.symm, by rw [← e.1]; exact hy⟩
      · simp at h
  · rintro (⟨h1, h2, h3⟩ | ⟨h1, h2, h3⟩)
    · left
      rw [if_neg h1]
      exact List.mem_map.2 ⟨x, h3, by simp only at h2; rw [h2]⟩
    · right
      rw [if_pos h1]
      exact List.mem_map.2 ⟨x, h3, by simp only at h2; rw [h2]⟩
/-- One point tells something of another: a step at it is led to. -/
def TelP (P : List (List Int)) (n : Nat) (G A a : List Int) (x : Int) : Prop := x ∉ G ∧ ∃ d, StR (nxS P n G A) a (x, d)
theorem ends_iff {P : List (List Int)} {n : Nat} {a G : List Int} (A : List Int) (hn : P.length = n) (h : wkE P n a G = 0) (x : Int) : x ∈ endsL (wkL P n a G A) G ↔ TelP P n G A a x := by
  unfold endsL minusR TelP
  rw [List.mem_filter, mem_ofR]
  constructor
  · rintro ⟨h1, h2⟩
    obtain ⟨e, he, rfl⟩ := List.mem_map.1 h1
    refine ⟨?_, e.1.2, (wk_mem A hn h e.1).1 (List.mem_map.2 ⟨e, he, rfl⟩)⟩
    simp only [mem_ofR, Bool.not_eq_true', decide_eq_false_iff_not] at h2
    exact h2
  · rintro ⟨h1, d, h2⟩
    obtain ⟨e, he, e2⟩ := List.mem_map.1 ((wk_mem A hn h _).2 h2)
    refine ⟨List.mem_map.2 ⟨e, he, by rw [e2]⟩, ?_⟩
    simp only [mem_ofR, Bool.not_eq_true', decide_eq_false_iff_not]
    exact h1
theorem str_any {nx : Stp → List Stp} {a : List Int} {s : Stp} : StR nx a s ↔ ∃ p ∈ a, StR nx [p] s := by
  constructor
  · intro h
    induction h with
    | start hp => exact ⟨_, hp, StR.start (by simp)⟩
    | step _ ht ih => obtain ⟨p, hp, h1⟩ := ih; exact ⟨p, hp, StR.step h1 ht⟩
  · rintro ⟨p, hp, h⟩
    induction h with
    | start hq => have e := List.mem_singleton.1 hq; rw [e]; exact StR.start hp
    | step _ ht ih => exact StR.step ih ht
/-- The way back: where a step's point may be left toward where it was come from, what it was begun with is led to. -/
theorem str_back {P : List (List Int)} {n : Nat} {G A : List Int} (hn : P.length = n) (hP : ∀ (i : Nat) (x : Int), x ∈ P.getD i [] → ∃ p : Nat, x = (p : Int) ∧ p < n) {a b : Int} (ha : ∃ p : Nat, a = (p : Int) ∧ p < n) {s : Stp} (h : StR (nxS P n G A) [a] s) :
    (∃ p : Nat, s.1 = (p : Int) ∧ p < n) ∧ ((∃ e, StR (nxS P n G A) [b] (s.1, e) ∧ (if s.2 = true then ((e = true ∧ s.1 ∈ A) ∨ (e = false ∧ s.1 ∉ G)) else s.1 ∉ G)) → ∃ e, StR (nxS P n G A) [b] (a, e)) := by
  induction h with
  | start hp =>
    have e := List.mem_singleton.1 hp
    subst e
    exact ⟨ha, fun ⟨e, he, _⟩ => ⟨e, he⟩⟩
  | @step s t hs ht ih =>
    obtain ⟨⟨u, hu, hun⟩, ih⟩ := ih
    obtain ⟨sx, sd⟩ := s
    obtain ⟨tx, td⟩ := t
    simp only at hu
    subst hu
    rcases nx_mem.1 ht with ⟨h1, h2, h3⟩ | ⟨h1, h2, h3⟩
    · simp only at h1 h2 h3
      subst h2
      rw [Int.toNat_natCast] at h3
      obtain ⟨v, hv, rfl, huv⟩ := chF_mem.1 h3
      refine ⟨⟨v, rfl, hv⟩, fun ⟨e, he, hc⟩ => ih ⟨false, StR.step he (nx_mem.2 (Or.inr ⟨?_, rfl, ?_⟩)), ?_⟩⟩
      · simpa using hc
      · simp only [Int.toNat_natCast]; exact huv
      · simp only
        split
        · exact Or.inr ⟨by simp, h1⟩
        · exact h1
    · simp only at h1 h2 h3
      subst h2
      rw [Int.toNat_natCast] at h3
      obtain ⟨v, rfl, hv⟩ := hP _ _ h3
      refine ⟨⟨v, rfl, hv⟩, fun ⟨e, he, hc⟩ => ih ⟨true, StR.step he (nx_mem.2 (Or.inl ⟨by simpa using hc, rfl, ?_⟩)), ?_⟩⟩
      · simp only [Int.toNat_natCast]; exact chF_mem.2 ⟨u, hun, rfl, h3⟩
      · simp only
        cases sd with
        | true =>
          rw [if_pos rfl]
          refine Or.inl ⟨by simp, ?_⟩
          rcases h1 with h4 | h4
          · exact h4.2
          · simp at h4
        | false =>
          rw [if_neg (by decide)]
          rcases h1 with h4 | h4
          · simp at h4
          · exact h4.2
/-- What tells something of another is told something of by it. -/
theorem tel_even {P : List (List Int)} {n : Nat} {G A : List Int} (hn : P.length = n) (hP : ∀ (i : Nat) (x : Int), x ∈ P.getD i [] → ∃ p : Nat, x = (p : Int) ∧ p < n) {a b : Int} (ha : ∃ p : Nat, a = (p : Int) ∧ p < n) (h : TelP P n G A [a] b) : TelP P n G A [b] a := by
  obtain ⟨hb, d, hd⟩ := h
  refine ⟨fun hg => ?_, ?_⟩
  · have key : ∀ s, StR (nxS P n G A) [a] s → s = (a, false) := fun s hs => by
      induction hs with
      | start hp => rw [List.mem_singleton.1 hp]
      | step _ ht ih =>
        rw [ih] at ht
        rcases nx_mem.1 ht with ⟨h1, _⟩ | ⟨h1 | h1, _⟩
        · exact absurd hg h1
        · simp at h1
        · exact absurd hg h1.2
    have e := key _ hd
    simp only [Prod.mk.injEq] at e
    rw [e.1] at hb
    exact hb hg
  · refine (str_back hn hP ha hd).2 ⟨false, StR.start (by simp), ?_⟩
    split
    · exact Or.inr ⟨rfl, hb⟩
    · exact hb
end Go.Proofs.YtcoiapgfaibkgaaGreat

namespace Go.Proofs.YtcoiapgfaibkgaaGreat
set_option linter.unusedVariables false
open Go.RowKit Go.Shelf Go.Sort Go.Lib
theorem Tryz.infoFn : (Tryz.prog.info? 62).map (fun i => (i.zero, i.size, i.bytes)) = some (some .nilFunc, 1, 8) := by kernel_rfl
/-- A closure that looks a point up in a list that lies in a box. -/
def amV (gb : Nat) : Value := .func (.func 108) #[] #[.pointer (some ⟨gb, 0, none⟩)]
structure AmC (B : Nat) (W : World) (gb : Nat) (L : List Int) : Prop where
  ex : ∃ lo ln lc, W.cell? ⟨gb, 0, none⟩ = some (.slice lo ln lc) ∧ RG (Value.int .i64) W (.slice lo ln lc) L ∧ ∀ q, (Value.slice lo ln lc).ownBlock = some q → B ≤ q
  lo : B ≤ gb
  rise : Rise L
  len : L.length ≤ 200000
theorem AmC.below {B : Nat} {W W' : World} {gb : Nat} {L : List Int} (h : AmC B W gb L) (hb : Below W.heap.size W W') : AmC B W' gb L := by
  obtain ⟨⟨lo, ln, lc, h1, h2, h5⟩, h6, h3, h4⟩ := h
  exact ⟨⟨lo, ln, lc, keepR hb h1, h2.below (Nat.le_refl _) hb, h5⟩, h6, h3, h4⟩
theorem cell_grown {W W' : World} {rb : Option Nat} {g i : Nat} {x : Value} (hg : W.grownBy W' rb) (hne : rb ≠ some g) (h : W.cell? ⟨g, i, none⟩ = some x) : W'.cell? ⟨g, i, none⟩ = some x := by
  rw [World.cell?_of_block (hg.block g (block_lt_of_cell h) (fun e => hne e.symm))]; exact h
theorem AmC.stay {B : Nat} {W W' : World} {gb : Nat} {L : List Int} {rb : Option Nat} (h : AmC B W gb L) (hg : W.grownBy W' rb) (hv : ∀ q, rb = some q → q < B) : AmC B W' gb L := by
  obtain ⟨⟨lo, ln, lc, h1, h2, h5⟩, h6, h3, h4⟩ := h
  refine ⟨⟨lo, ln, lc, cell_grown hg (fun e => by have := hv gb e; omega) h1, ?_, h5⟩, h6, h3, h4⟩
  obtain ⟨ao, cap, e0, k1, k2, k3, k5⟩ := h2
  refine ⟨ao, cap, e0, k1, k2, k3, fun j x hj => ?_⟩
  obtain ⟨b, off, e1, hc⟩ := k5 j x hj
  exact ⟨b, off, e1, cell_grown hg (fun e => by have h7 := hv b e; have h8 := h5 b (by rw [e0, e1]; rfl); omega) hc⟩
set_option maxRecDepth 1000000 in
set_option maxHeartbeats 1600000 in
theorem amongC (gb : Nat) (L : List Int) (x : Int) (w : World) {B : Nat} (h : AmC B w gb L) : Calls Tryz.prog 108 #[.int .i64 x, .pointer (some ⟨gb, 0, none⟩)] w fun e w' => e = .returned (.bool (decide (x ∈ L))) ∧ Below w.heap.size w w' := by
  obtain ⟨⟨lo, ln, lc, hc, hr, -⟩, -, hri, hl⟩ := h
  obtain ⟨b, hb⟩ : ∃ b, b = decide (x ∈ L) := ⟨_, rfl⟩
  have C : Hid (Calls Tryz.prog 66 #[.slice lo ln lc, .int .i64 x] w fun e w' => ∃ k : Nat, e = .returned (.tuple #[.int .i64 k, .bool b]) ∧ Below w.heap.size w w') :=
    (searchI (.slice lo ln lc) L x w hr (Rs.srt ordI (rs_rise.2 hri)) (by omega)).mono fun e w' ⟨k, h1, h2, q, h3⟩ => ⟨k, by rw [h1, fndI_has (rs_rise.2 hri) h2, hasI_mem, ← hb], by rw [h3]; exact below_drewN (Below.refl _ _) q⟩
  rw [← hb]
  clear hr hri hl hb
  go_enter Tryz.func108, Tryz.ntmps108
  go_wp2_with fail
  refine Calls.mono C.out ?_
  rintro e y ⟨k, rfl, hy⟩
  have HY : Hid (Below w.heap.size w y) := hy
  clear C hy hc
  go_wp2
  go_ret
  exact ⟨rfl, HY.out⟩
set_option maxRecDepth 1000000 in
set_option maxHeartbeats 1600000 in
theorem amongS (B : Nat) (lo : Option Addr) (ln lc : Nat) (L : List Int) (w : World) (hB : B ≤ w.heap.size) (hlo : ∀ q, (Value.slice lo ln lc).ownBlock = some q → B ≤ q) (hr : RG (Value.int .i64) w (.slice lo ln lc) L) (hri : Rise L) (hl : L.length ≤ 200000) : Calls Tryz.prog 78 #[.slice lo ln lc] w fun e w' => ∃ gb, e = .returned (amV gb) ∧ AmC B w' gb L ∧ Below w.heap.size w w' := by
  obtain ⟨w1, hw1⟩ : ∃ W, W = w.alloc (.cells #[.slice lo ln lc] 23) := ⟨_, rfl⟩
  obtain ⟨g, hg⟩ : ∃ g, g = w.heap.size := ⟨_, rfl⟩
  have b1 : Below w.heap.size w w1 := by rw [hw1]; exact belowB _ _
  have c1 : w1.cell? ⟨g, 0, none⟩ = some (.slice lo ln lc) := by rw [hw1, hg, World.cell?_alloc_at _ _ _ _ rfl]; rfl
  have HA : Hid (AmC B w1 g L) := ⟨⟨lo, ln, lc, c1, hr.below (Nat.le_refl _) b1, hlo⟩, by rw [hg]; exact hB, hri, hl⟩
  have HB : Hid (Below w.heap.size w w1) := b1
  have HW : Hid (w1 = w.alloc (.cells #[.slice lo ln lc] 23)) := hw1
  have HG : Hid (g = w.heap.size) := hg
  clear hw1 hg b1 c1 hr hri hl hlo hB
  go_enter Tryz.func78, Tryz.ntmps78
  go_upto_region 1 with fail
  rw [← HW.out, ← HG.out]
  clear HW HG
  go_wp2
  go_ret
  exact ⟨g, rfl, HA.out, HB.out⟩
/-- A closure that looks up the new point above one. -/
def keV (gt gp : Nat) : Value := .func (.func 80) #[] #[.pointer (some ⟨gt, 0, none⟩), .pointer (some ⟨gp, 0, none⟩)]
structure KeC (B : Nat) (W : World) (gt gp : Nat) (L : List Int) (n : Nat) : Prop where
  ex : ∃ gb po pc, W.cell? ⟨gt, 0, none⟩ = some (amV gb) ∧ AmC B W gb L ∧ W.cell? ⟨gp, 0, none⟩ = some (.slice po n pc)
  lo : B ≤ gt
  nb : n ≤ 100000
theorem KeC.below {B : Nat} {W W' : World} {gt gp : Nat} {L : List Int} {n : Nat} (h : KeC B W gt gp L n) (hb : Below W.heap.size W W') : KeC B W' gt gp L n := by
  obtain ⟨⟨gb, po, pc, h1, h2, h3⟩, h5, h4⟩ := h
  exact ⟨⟨gb, po, pc, keepR hb h1, h2.below hb, keepR hb h3⟩, h5, h4⟩
theorem KeC.stay {B : Nat} {W W' : World} {gt gp : Nat} {L : List Int} {n : Nat} {rb : Option Nat} (h : KeC B W gt gp L n) (hg : W.grownBy W' rb) (hv : ∀ q, rb = some q → q < B ∧ q ≠ gp) : KeC B W' gt gp L n := by
  obtain ⟨⟨gb, po, pc, h1, h2, h3⟩, h5, h4⟩ := h
  exact ⟨⟨gb, po, pc, cell_grown hg (fun e => by have := (hv gt e).1; omega) h1, h2.stay hg (fun q e => (hv q e).1), cell_grown hg (fun e => (hv gp e).2 rfl) h3⟩, h5, h4⟩
set_option maxRecDepth 1000000 in
set_option maxHeartbeats 1600000 in
theorem keptC (gt gp : Nat) (L : List Int) (n : Nat) (k : Nat) (hk : k ≤ 100000) (w : World) {B : Nat} (h : KeC B w gt gp L n) : Calls Tryz.prog 80 #[.int .i64 (k : Int), .pointer (some ⟨gt, 0, none⟩), .pointer (some ⟨gp, 0, none⟩)] w fun e w' => e = .returned (.bool (!decide (((n + k : Nat) : Int) ∈ L))) ∧ Below w.heap.size w w' := by
  obtain ⟨⟨gb, po, pc, h1, h2, h3⟩, -, h4⟩ := h
  have C : Hid _ := amongC gb L ((n + k : Nat) : Int) w h2
  obtain ⟨b, hb⟩ : ∃ b, b = decide (((n + k : Nat) : Int) ∈ L) := ⟨_, rfl⟩
  rw [← hb] at C ⊢
  obtain ⟨m, hm⟩ : ∃ m, m = n + k := ⟨_, rfl⟩
  rw [← hm] at C
  have hmz : IntKind.i64.wrap ((n : Int) + (k : Int)) = (m : Int) := by rw [IntKind.wrap_i64]; omega
  unfold amV at h1
  clear h2 hb hm
  go_enter Tryz.func80, Tryz.ntmps80
  go_wp2_with fail
  refine Calls.mono C.out ?_
  rintro e y ⟨rfl, hy⟩
  have HY : Hid (Below w.heap.size w y) := hy
  clear C hy h1 h3
  go_wp2
  go_ret
  exact ⟨rfl, HY.out⟩
/-- A way of leaving out, and what it answers of a point. -/
inductive WayB (W : World) : Value → (Nat → Bool) → Prop
  | am {B gb : Nat} {L : List Int} : AmC B W gb L → WayB W (amV gb) (fun k => decide ((k : Int) ∈ L))
  | ke {B gt gp : Nat} {L : List Int} {n : Nat} : KeC B W gt gp L n → WayB W (keV gt gp) (fun k => !decide (((n + k : Nat) : Int) ∈ L))
theorem WayB.below {W W' : World} {v : Value} {p : Nat → Bool} (h : WayB W v p) (hb : Below W.heap.size W W') : WayB W' v p := by
  cases h with
  | am h => exact WayB.am (h.below hb)
  | ke h => exact WayB.ke (h.below hb)
theorem WayB.one {W : World} {v : Value} {p : Nat → Bool} (h : WayB W v p) : v.oneCell' = true := by
  cases h with
  | am h => rfl
  | ke h => rfl
set_option maxRecDepth 1000000 in
set_option maxHeartbeats 1600000 in
theorem leaves1 (v : Value) (p : Nat → Bool) (gx k : Nat) (hk : k ≤ 100000) (w : World) (h : WayB w v p) (hc : w.cell? ⟨gx, 0, none⟩ = some (.int .i64 (k : Int))) : Calls Tryz.prog 107 #[v, .pointer (some ⟨gx, 0, none⟩)] w fun e w' => e = .returned (.bool (p k)) ∧ Below w.heap.size w w' := by
  cases h with
  | @am B gb L h =>
    have C : Hid _ := amongC gb L (k : Int) w h
    obtain ⟨b, hb⟩ : ∃ b, b = decide ((k : Int) ∈ L) := ⟨_, rfl⟩
    show Calls _ _ _ _ (fun e w' => e = .returned (.bool (decide ((k : Int) ∈ L))) ∧ _)
    rw [← hb] at C ⊢
    unfold amV
    clear h hb
    go_enter Tryz.func107, Tryz.ntmps107
    go_wp2_with fail
    refine Calls.mono C.out ?_
    rintro e y ⟨rfl, hy⟩
    have HY : Hid (Below w.heap.size w y) := hy
    clear C hy hc
    go_wp2
    go_ret
    exact ⟨rfl, HY.out⟩
  | @ke B gt gp L n h =>
    have C : Hid _ := keptC gt gp L n k hk w h
    obtain ⟨b, hb⟩ : ∃ b, b = !decide (((n + k : Nat) : Int) ∈ L) := ⟨_, rfl⟩
    show Calls _ _ _ _ (fun e w' => e = .returned (.bool (!decide (((n + k : Nat) : Int) ∈ L))) ∧ _)
    rw [← hb] at C ⊢
    unfold keV
    clear h hb
    go_enter Tryz.func107, Tryz.ntmps107
    go_wp2_with fail
    refine Calls.mono C.out ?_
    rintro e y ⟨rfl, hy⟩
    have HY : Hid (Below w.heap.size w y) := hy
    clear C hy hc
    go_wp2
    go_ret
    exact ⟨rfl, HY.out⟩
/-- A row of ways. -/
structure WaysB (W : World) (v : Value) (vs : List Value) (ps : List (Nat → Bool)) : Prop where
  row : RG id W v vs
  len : vs.length = ps.length
  way : ∀ (i : Nat) (u : Value) (p : Nat → Bool), vs[i]? = some u → ps[i]? = some p → WayB W u p
theorem WaysB.below {W W' : World} {v : Value} {vs : List Value} {ps : List (Nat → Bool)} (h : WaysB W v vs ps) (hb : Below W.heap.size W W') : WaysB W' v vs ps :=
  ⟨h.row.below (Nat.le_refl _) hb, h.len, fun i u p h1 h2 => (h.way i u p h1 h2).below hb⟩
def anyW (ps : List (Nat → Bool)) (k : Nat) : Bool := ps.any fun p => p k
theorem anyW_take {ps : List (Nat → Bool)} {i k : Nat} {p : Nat → Bool} (h : ps[i]? = some p) : anyW (ps.take (i + 1)) k = (anyW (ps.take i) k || p k) := by
  unfold anyW
  rw [List.take_add_one, h, List.any_append]
  simp
theorem anyW_at {ps : List (Nat → Bool)} {i k : Nat} {p : Nat → Bool} (h : ps[i]? = some p) (hp : p k = true) : anyW ps k = true := List.any_eq_true.2 ⟨p, List.mem_of_getElem? h, hp⟩
set_option maxRecDepth 1000000 in
set_option maxHeartbeats 3200000 in
theorem indexW (gx k : Nat) (hk : k ≤ 100000) (v : Value) (vs : List Value) (ps : List (Nat → Bool)) (w : World) (h : WaysB w v vs ps) (hc : w.cell? ⟨gx, 0, none⟩ = some (.int .i64 (k : Int))) :
    Calls Tryz.prog 120 #[v, .func (.func 107) #[] #[.pointer (some ⟨gx, 0, none⟩)]] w fun e w' => ∃ r, e = .returned (.int .i64 r) ∧ Found r (anyW ps k) ∧ Below w.heap.size w w' := by
  obtain ⟨vo, n, vc, rfl⟩ : ∃ o n c, v = .slice o n c := by obtain ⟨ao, cap, e⟩ := h.row.sl; exact ⟨_, _, _, e⟩
  have hvl := h.row.len
  have hnm : n ≤ 9223372036854775807 := by have := h.row.room.1; have := h.row.room.2.1; unfold maxLen at *; omega
  have HR : Hid (∀ W, Below w.heap.size w W → WaysB W (.slice vo n vc) vs ps) := fun W hW => h.below hW
  have HC : Hid (∀ W, Below w.heap.size w W → W.cell? ⟨gx, 0, none⟩ = some (.int .i64 (k : Int))) := fun W hW => keepR hW hc
  have HN : Hid (vs.length = n) := hvl
  have HP : Hid (ps.length = n) := h.len.symm.trans hvl
  clear h hc hvl
  go_enter Tryz.func120, Tryz.ntmps120
  go_wp2
  go_loopg [5, 8] n (fun g1 _v5 v8 wr => ∃ i : Nat, v8 = .int .i64 i ∧ i ≤ n ∧ n - i ≤ g1 ∧ Hid (anyW (ps.take i) k = false) ∧ Hid (Below w.heap.size w wr))
  case atStart => exact ⟨0, rfl, Nat.zero_le _, by omega, rfl, Below.refl _ _⟩
  case round =>
    obtain ⟨i, rfl, hin, hg1, HNO, HB⟩ := hrel
    by_cases hlt : i < n
    · have hltz : (i : Int) < (n : Int) := by omega
      have hW := HR.out wr HB.out
      obtain ⟨u, go, oo, hu1, rfl, hu2⟩ := hW.row.at hlt
      change wr.cell? ⟨go, oo + i, none⟩ = some u at hu2
      obtain ⟨p, hp⟩ : ∃ p, ps[i]? = some p := ⟨_, List.getElem?_eq_getElem (by rw [HP.out]; exact hlt)⟩
      have hway := hW.way i u p hu1 hp
      have hone : u.oneCell' = true := hway.one
      have CE : Hid _ := leaves1 u p gx k hk wr hway (HC.out wr HB.out)
      have HS : Hid (ps[i]? = some p) := hp
      obtain ⟨b, hb⟩ : ∃ b, b = p k := ⟨_, rfl⟩
      rw [← hb] at CE
      have HBB : Hid (b = p k) := hb
      clear hp hway hu1 hb hW
      go_wp2_with fail
      refine Calls.mono CE.out ?_
      rintro e y ⟨rfl, hy⟩
      have HY : Hid (Below w.heap.size w y) := bstepB HB.out hy
      clear CE hy hu2 HB
      cases b with
      | true =>
        have HK : Hid (anyW ps k = true) := anyW_at HS.out HBB.out.symm
        go_wp2
        go_ret
        exact ⟨_, rfl, ⟨fun _ => ⟨by omega, by omega⟩, fun h => absurd HK.out (by rw [h]; exact Bool.false_ne_true)⟩, HY.out⟩
      | false =>
        have HN2 : Hid (anyW (ps.take (i + 1)) k = false) := by show _ = _; rw [anyW_take HS.out, HNO.out, ← HBB.out]; rfl
        clear HNO HS HBB
        go_wp2
        go_roundg (n - (i + 1))
        case measure => omega
        case rel => exact ⟨i + 1, by go_num, by omega, Nat.le_refl _, HN2, HY⟩
    · have hltz : ¬ (i : Int) < (n : Int) := by omega
      have HK : Hid (anyW ps k = false) := by have h1 := HNO.out; rw [List.take_of_length_le (by rw [HP.out]; omega)] at h1; exact h1
      go_wp2
      go_ret
      exact ⟨_, rfl, ⟨fun h => absurd h (by rw [HK.out]; exact Bool.false_ne_true), fun _ => rfl⟩, HB.out⟩
set_option maxRecDepth 1000000 in
set_option maxHeartbeats 1600000 in
theorem containsW (gx k : Nat) (hk : k ≤ 100000) (v : Value) (vs : List Value) (ps : List (Nat → Bool)) (w : World) (h : WaysB w v vs ps) (hc : w.cell? ⟨gx, 0, none⟩ = some (.int .i64 (k : Int))) :
    Calls Tryz.prog 106 #[v, .func (.func 107) #[] #[.pointer (some ⟨gx, 0, none⟩)]] w fun e w' => e = .returned (.bool (anyW ps k)) ∧ Below w.heap.size w w' := by
  have C : Hid _ := indexW gx k hk v vs ps w h hc
  obtain ⟨b, hb⟩ : ∃ b, b = anyW ps k := ⟨_, rfl⟩
  rw [← hb] at C ⊢
  clear hb
  obtain ⟨vo, n, vc, rfl⟩ : ∃ o n c, v = .slice o n c := by obtain ⟨ao, cap, e⟩ := h.row.sl; exact ⟨_, _, _, e⟩
  clear h hc
  go_enter Tryz.func106, Tryz.ntmps106
  go_wp2_with fail
  refine Calls.mono C.out ?_
  rintro e y ⟨r, rfl, hf, hy⟩
  have HY : Hid (Below w.heap.size w y) := hy
  have hd := hf.dec
  clear C hy hf
  go_wp2
  go_ret
  exact ⟨rfl, HY.out⟩
end Go.Proofs.YtcoiapgfaibkgaaGreat

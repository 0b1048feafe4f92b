/-
  Proved here, plain mathematics: what it says that they are not many.
  Proved here: layer 16's law: alive: in the square two sides are apart given the top, and not given the bottom too.
  Proved here: layer 17's law: alive: of the chapter's points what hangs on nothing is left out; given the first, what is beyond it.
  Proved here: layer 17's law: alive answers true.
  Proved here: layer 17's law: many.
  Proved here: plain mathematics of apartness: something is told just where, in the moral graph of all that is above, a way leads from the one to the other that meets nothing given.
-/
import Derived.Test.YthdpomgpcblpeaaGreatSpLAll
import Derived.Test.YthdpomgpcblpeaaGreatSpKAll
import Derived.Test.YthdpomgpcblpeaaGreatPrC
import Derived.Test.YthdpomgpcblpeaaGreatPrWAll
namespace Go.Proofs.YthdpomgpcblpeaaGreat
set_option linter.unusedVariables false
theorem len_smB (P : List (List Int)) (i : Nat) : (P.getD i []).length ≤ smL P P.length := by
  by_cases h : i < P.length
  · have := smL_mono (P := P) (show i + 1 ≤ P.length by omega)
    simp only [smL] at this
    omega
  · rw [List.getD_eq_getElem?_getD, List.getElem?_eq_none (by omega)]; simp
theorem many_noB {P : List (List Int)} (h : manyB P = false) : P.length ≤ 200 ∧ smL P P.length ≤ 2000 := by
  unfold manyB at h
  rw [Bool.or_eq_false_iff] at h
  have h1 := of_decide_eq_false h.1
  have h2 := of_decide_eq_false h.2
  omega
end Go.Proofs.YthdpomgpcblpeaaGreat

namespace Go.Proofs.YthdpomgpcblpeaaGreat
set_option linter.unusedVariables false
open Go.RowKit Go.Shelf Go.Sort Go.Lib
def p5 : List (List Int) := [[], [0], [0], [1, 2], [3]]
theorem p5_ck : ckE p5 = 0 := by decide +kernel
theorem abv_of {P : List (List Int)} {G A B : List Int} (h : AbvP P G A) (hB : B.Pairwise (· < ·)) (h1 : ∀ x ∈ G, x ∈ B) (h2 : ∀ x ∈ B, ∀ y ∈ P.getD x.toNat [], y ∈ B) (h3 : ∀ x ∈ B, RchP P G x) : A = B := by
  refine rise_ext h.1 hB fun z => (h.2 z).trans ⟨?_, h3 z⟩
  rintro ⟨x, hx, m, hm⟩
  have key : ∀ (m : Nat) (x : Int), x ∈ B → Rn P m x z → z ∈ B := by
    intro m
    induction m with
    | zero => intro x hx hr; have e : x = z := hr
              rw [← e]; exact hx
    | succ m ih => rintro x hx ⟨u, hu, hr⟩; exact ih u (h2 x hx u hu) hr
  exact key m x (h1 x hx) hm
theorem p5_top {A : List Int} (h : AbvP p5 [0] A) : A = [0] := abv_of h (by decide) (by decide) (by decide) (fun x hx => by
  have e : x = 0 := by simpa using hx
  subst e; exact ⟨0, by simp, 0, rfl⟩)
theorem p5_two {A : List Int} (h : AbvP p5 [0, 4] A) : A = [0, 1, 2, 3, 4] := abv_of h (by decide) (by decide) (by decide) (fun x hx => by
  simp only [List.mem_cons, List.not_mem_nil, or_false] at hx
  rcases hx with e | e | e | e | e
  · subst e; exact ⟨0, by simp, 0, rfl⟩
  · subst e; exact ⟨4, by simp, 2, 3, by decide, 1, by decide, rfl⟩
  · subst e; exact ⟨4, by simp, 2, 3, by decide, 2, by decide, rfl⟩
  · subst e; exact ⟨4, by simp, 1, 3, by decide, rfl⟩
  · subst e; exact ⟨4, by simp, 0, rfl⟩)
theorem cR (w : World) (zs : List Int) (hl : zs.length ≤ 1000) : RG (Value.int .i64) (w.alloc (.cells (zs.map (Value.int .i64)).toArray 3)) (.slice (some ⟨w.heap.size, 0, none⟩) zs.length zs.length) zs := (OG.lit (enc := Value.int .i64) 3 w zs (by unfold maxLen; omega)).rg
theorem lit3 (w : World) (a b c : List Int) (ha : a.length ≤ 1000) (hb : b.length ≤ 1000) (hc : c.length ≤ 1000) : ∃ W, W = ((w.alloc (.cells (a.map (Value.int .i64)).toArray 3)).alloc (.cells (b.map (Value.int .i64)).toArray 3)).alloc (.cells (c.map (Value.int .i64)).toArray 3) ∧ RG (Value.int .i64) W (.slice (some ⟨w.heap.size, 0, none⟩) a.length a.length) a ∧ RG (Value.int .i64) W (.slice (some ⟨w.heap.size + 1, 0, none⟩) b.length b.length) b ∧ RG (Value.int .i64) W (.slice (some ⟨w.heap.size + 1 + 1, 0, none⟩) c.length c.length) c ∧ Below w.heap.size w W := by
  have r1 := cR w a ha
  have r2 := cR (w.alloc (.cells (a.map (Value.int .i64)).toArray 3)) b hb
  have r3 := cR ((w.alloc (.cells (a.map (Value.int .i64)).toArray 3)).alloc (.cells (b.map (Value.int .i64)).toArray 3)) c hc
  have e1 : (w.alloc (.cells (a.map (Value.int .i64)).toArray 3)).heap.size = w.heap.size + 1 := by simp
  have e2 : ((w.alloc (.cells (a.map (Value.int .i64)).toArray 3)).alloc (.cells (b.map (Value.int .i64)).toArray 3)).heap.size = w.heap.size + 1 + 1 := by simp
  rw [e1] at r2
  rw [e2] at r3
  exact ⟨_, rfl, (r1.alloc _).alloc _, r2.alloc _, r3, bstepB (bstepB (belowB _ _) (belowB _ _)) (belowB _ _)⟩
theorem lit2 (w : World) (a b : List Int) (ha : a.length ≤ 1000) (hb : b.length ≤ 1000) : ∃ W, W = (w.alloc (.cells (a.map (Value.int .i64)).toArray 3)).alloc (.cells (b.map (Value.int .i64)).toArray 3) ∧ RG (Value.int .i64) W (.slice (some ⟨w.heap.size, 0, none⟩) a.length a.length) a ∧ RG (Value.int .i64) W (.slice (some ⟨w.heap.size + 1, 0, none⟩) b.length b.length) b ∧ Below w.heap.size w W := by
  have r1 := cR w a ha
  have r2 := cR (w.alloc (.cells (a.map (Value.int .i64)).toArray 3)) b hb
  have e1 : (w.alloc (.cells (a.map (Value.int .i64)).toArray 3)).heap.size = w.heap.size + 1 := by simp
  rw [e1] at r2
  exact ⟨_, rfl, r1.alloc _, r2, bstepB (belowB _ _) (belowB _ _)⟩
theorem lit1 (w : World) (a : List Int) (ha : a.length ≤ 1000) : ∃ W, W = w.alloc (.cells (a.map (Value.int .i64)).toArray 3) ∧ RG (Value.int .i64) W (.slice (some ⟨w.heap.size, 0, none⟩) a.length a.length) a ∧ Below w.heap.size w W := ⟨_, rfl, cR w a ha, belowB _ _⟩
end Go.Proofs.YthdpomgpcblpeaaGreat

namespace Go.Proofs.YthdpomgpcblpeaaGreat
set_option linter.unusedVariables false
open Go.RowKit Go.Shelf Go.Sort Go.Lib
def p17 : List (List Int) := [[], [0], [1], [1], [3]]
theorem p17_ck : ckE p17 = 0 := by decide +kernel
theorem n17a : nsE p17 5 ([2] ++ []) = 0 := by decide +kernel
theorem n17b : nsE p17 5 ([2] ++ [1, 4]) = 0 := by decide +kernel
theorem n17c : nsE p17 5 ([2] ++ [4]) = 0 := by decide +kernel
theorem a17a {x : Int} (h : RchP p17 ([2] ++ []) x) : x ∈ [(0 : Int), 1, 2] := by
  obtain ⟨A, hA⟩ := abv_ex (P := p17) (G := [2] ++ []) (outs_no (cl_zero (ck_zero p17_ck)).1) (by decide +kernel)
  have e := abv_of hA (B := [0, 1, 2]) (by decide) (by decide) (by decide) (fun x hx => by
    simp only [List.mem_cons, List.not_mem_nil, or_false] at hx
    rcases hx with e | e | e
    · subst e; exact ⟨2, by simp, 2, 1, by decide, 0, by decide, rfl⟩
    · subst e; exact ⟨2, by simp, 1, 1, by decide, rfl⟩
    · subst e; exact ⟨2, by simp, 0, rfl⟩)
  rw [← e]; exact (hA.2 x).2 h
theorem r17a {x : Int} (hx : x ∈ [(0 : Int), 1, 2]) : RchP p17 ([2] ++ []) x := by
  simp only [List.mem_cons, List.not_mem_nil, or_false] at hx
  rcases hx with e | e | e
  · subst e; exact ⟨2, by simp, 2, 1, by decide, 0, by decide, rfl⟩
  · subst e; exact ⟨2, by simp, 1, 1, by decide, rfl⟩
  · subst e; exact ⟨2, by simp, 0, rfl⟩
theorem r17c {x : Int} (hx : x ∈ [(0 : Int), 1, 2, 3, 4]) : RchP p17 ([2] ++ [4]) x := by
  simp only [List.mem_cons, List.not_mem_nil, or_false] at hx
  rcases hx with e | e | e | e | e
  · subst e; exact ⟨2, by simp, 2, 1, by decide, 0, by decide, rfl⟩
  · subst e; exact ⟨2, by simp, 1, 1, by decide, rfl⟩
  · subst e; exact ⟨2, by simp, 0, rfl⟩
  · subst e; exact ⟨4, by simp, 1, 3, by decide, rfl⟩
  · subst e; exact ⟨4, by simp, 0, rfl⟩
/-- What is above 1 and 4, the new points too. -/
theorem w17 {A : List Int} (h : AbvP (wiP p17) [1, 4] A) : A = [0, 1, 3, 4, 5, 6, 8, 9] := abv_of h (by decide) (by decide) (by decide) (fun x hx => by
  simp only [List.mem_cons, List.not_mem_nil, or_false] at hx
  rcases hx with e | e | e | e | e | e | e | e
  · subst e; exact ⟨1, by simp, 1, 0, by decide, rfl⟩
  · subst e; exact ⟨1, by simp, 0, rfl⟩
  · subst e; exact ⟨4, by simp, 1, 3, by decide, rfl⟩
  · subst e; exact ⟨4, by simp, 0, rfl⟩
  · subst e; exact ⟨1, by simp, 2, 0, by decide, 5, by decide, rfl⟩
  · subst e; exact ⟨1, by simp, 1, 6, by decide, rfl⟩
  · subst e; exact ⟨4, by simp, 2, 3, by decide, 8, by decide, rfl⟩
  · subst e; exact ⟨4, by simp, 1, 9, by decide, rfl⟩)
theorem e17 : endsL (wkL (wiP p17) 10 [2] [1, 4] [0, 1, 3, 4, 5, 6, 8, 9]) [1, 4] = [2, 7] := by decide +kernel
theorem t17 (k : Nat) (hk : k < 5) : TabM p17 [2] [1, 4] (k : Int) ↔ k = 2 := by
  obtain ⟨A, hA⟩ := abv_ex (P := wiP p17) (G := [1, 4]) (outs_no (cl_zero (ck_zero ((wi_ext p17_ck).ck p17_ck))).1) (by decide +kernel)
  have h := wi_told (a := [2]) p17_ck (by decide +kernel) (by decide +kernel) hA (k := k) (by exact hk)
  rw [← h, w17 hA]
  show ((5 + k : Nat) : Int) ∈ endsL (wkL (wiP p17) 10 [2] [1, 4] [0, 1, 3, 4, 5, 6, 8, 9]) [1, 4] ↔ _
  rw [e17]
  simp only [List.mem_cons, List.not_mem_nil, or_false]
  omega
theorem k17 {Q : Int → Prop} {L M : List Int} (h : Rise L ∧ ∀ x, x ∈ L ↔ Q x) (hM : M.Pairwise (· < ·)) (hq : ∀ x, Q x ↔ x ∈ M) : L = M := rise_ext h.1 hM fun x => (h.2 x).trans (hq x)
theorem q17a (x : Int) : BaP p17 5 [2] [] x ↔ x ∈ [(3 : Int), 4] := by
  unfold BaP
  constructor
  · rintro ⟨k, rfl, hk, hn⟩
    have h2 : (k : Int) ∉ [(0 : Int), 1, 2] := fun h => hn (r17a h)
    simp only [List.mem_cons, List.not_mem_nil, or_false] at h2 ⊢
    omega
  · intro h
    refine ⟨x.toNat, ?_, ?_, fun h2 => ?_⟩
    · simp only [List.mem_cons, List.not_mem_nil, or_false] at h; omega
    · simp only [List.mem_cons, List.not_mem_nil, or_false] at h; omega
    · have h3 := a17a h2
      simp only [List.mem_cons, List.not_mem_nil, or_false] at h h3
      omega
theorem q17b (x : Int) : KpP p17 5 [2] [1, 4] false true x ↔ x ∈ [(2 : Int)] := by
  unfold KpP
  constructor
  · rintro ⟨k, rfl, hk, -, ht⟩
    have := (t17 k hk).1 (ht rfl)
    simp only [List.mem_cons, List.not_mem_nil, or_false]
    omega
  · intro h
    have e : x = ((2 : Nat) : Int) := by simpa using h
    subst e
    exact ⟨2, rfl, by omega, fun h => by simp at h, fun _ => (t17 2 (by omega)).2 rfl⟩
theorem q17c (x : Int) : KpP p17 5 [2] [4] true false x ↔ x ∈ [(0 : Int), 1, 2, 3, 4] := by
  unfold KpP
  constructor
  · rintro ⟨k, rfl, hk, -, -⟩
    simp only [List.mem_cons, List.not_mem_nil, or_false]
    omega
  · intro h
    refine ⟨x.toNat, ?_, ?_, fun _ => r17c h, fun h => by simp at h⟩
    · simp only [List.mem_cons, List.not_mem_nil, or_false] at h; omega
    · simp only [List.mem_cons, List.not_mem_nil, or_false] at h; omega
theorem bar17 (pv av : Value) (pvs : List Value) (w : World) (h : RRD w pv pvs p17) (ha : RG (Value.int .i64) w av [2]) :
    Calls Tryz.prog 15 #[pv, av, .slice none 0 0] w fun e w' => ∃ ao n c, e = .returned (.tuple #[.slice ao n c, .int .i64 0]) ∧ RG (Value.int .i64) w' (.slice ao n c) [3, 4] ∧ Below w.heap.size w w' :=
  (barrenS pv av (.slice none 0 0) pvs p17 [2] [] w h 5 rfl (by omega) (fun i => by
    match i with
    | 0 | 1 | 2 | 3 | 4 => decide
    | i + 5 => simp [p17]) ha (by simp) (RG.nil _) (by simp)).mono fun e w' ⟨⟨ao, k, c, L, he, ho, _, hok⟩, hb⟩ => by
    rw [n17a] at he
    have e := k17 (hok n17a) (M := [3, 4]) (by decide) q17a
    subst e
    exact ⟨ao, k, c, he, ho.rg, hb⟩
theorem kep17b (pv av qv : Value) (pvs : List Value) (w : World) (h : RRD w pv pvs p17) (ha : RG (Value.int .i64) w av [2]) (hq : RG (Value.int .i64) w qv [1, 4]) :
    Calls Tryz.prog 16 #[pv, av, qv, .bool false, .bool true] w fun e w' => ∃ ao n c, e = .returned (.tuple #[.slice ao n c, .int .i64 0]) ∧ RG (Value.int .i64) w' (.slice ao n c) [2] ∧ Below w.heap.size w w' :=
  (keptS pv av qv false true pvs p17 [2] [1, 4] w h 5 rfl (by omega) (fun i => by
    match i with
    | 0 | 1 | 2 | 3 | 4 => decide
    | i + 5 => simp [p17]) ha (by simp) hq (by simp)).mono fun e w' ⟨⟨ao, k, c, L, he, ho, _, hok⟩, hb⟩ => by
    rw [n17b] at he
    have e := k17 (hok n17b) (M := [2]) (by decide) q17b
    subst e
    exact ⟨ao, k, c, he, ho.rg, hb⟩
theorem kep17c (pv av qv : Value) (pvs : List Value) (w : World) (h : RRD w pv pvs p17) (ha : RG (Value.int .i64) w av [2]) (hq : RG (Value.int .i64) w qv [4]) :
    Calls Tryz.prog 16 #[pv, av, qv, .bool true, .bool false] w fun e w' => ∃ ao n c, e = .returned (.tuple #[.slice ao n c, .int .i64 0]) ∧ RG (Value.int .i64) w' (.slice ao n c) [0, 1, 2, 3, 4] ∧ Below w.heap.size w w' :=
  (keptS pv av qv true false pvs p17 [2] [4] w h 5 rfl (by omega) (fun i => by
    match i with
    | 0 | 1 | 2 | 3 | 4 => decide
    | i + 5 => simp [p17]) ha (by simp) hq (by simp)).mono fun e w' ⟨⟨ao, k, c, L, he, ho, _, hok⟩, hb⟩ => by
    rw [n17c] at he
    have e := k17 (hok n17c) (M := [0, 1, 2, 3, 4]) (by decide) q17c
    subst e
    exact ⟨ao, k, c, he, ho.rg, hb⟩
theorem same17 (u v : Value) (xs : List Int) (w : World) (hu : RG (Value.int .i64) w u xs) (hv : RG (Value.int .i64) w v xs) : Calls Tryz.prog 10 #[u, v] w fun e w' => e = .returned (.bool true) ∧ Below w.heap.size w w' :=
  (sameD u v xs xs w hu hv).mono fun e w' ⟨he, q, hq⟩ => ⟨he.trans (by rw [decide_eq_true rfl]), by rw [hq]; exact below_drewN (Below.refl _ _) q⟩
end Go.Proofs.YthdpomgpcblpeaaGreat

namespace Go.Proofs.YthdpomgpcblpeaaGreat
set_option linter.unusedVariables false
open Go.RowKit Go.Shelf Go.Sort Go.Lib
theorem par17 (w : World) : ∃ W pvs, W = (((((w.alloc (.cells #[] 3)).alloc (.cells #[.int .i64 0] 3)).alloc (.cells #[.int .i64 1] 3)).alloc (.cells #[.int .i64 1] 3)).alloc (.cells #[.int .i64 3] 3)).alloc (.cells #[.slice (some ⟨w.heap.size, 0, none⟩) 0 0, .slice (some ⟨w.heap.size + 1, 0, none⟩) 1 1, .slice (some ⟨w.heap.size + 1 + 1, 0, none⟩) 1 1, .slice (some ⟨w.heap.size + 1 + 1 + 1, 0, none⟩) 1 1, .slice (some ⟨w.heap.size + 1 + 1 + 1 + 1, 0, none⟩) 1 1] 23) ∧ RRD W (.slice (some ⟨w.heap.size + 1 + 1 + 1 + 1 + 1, 0, none⟩) 5 5) pvs p17 ∧ Below w.heap.size w W := by
  obtain ⟨W3, h3, r1, r2, r3, b3⟩ := lit3 w [] [0] [1] (by decide) (by decide) (by decide)
  obtain ⟨W4, h4, r4, r5, b4⟩ := lit2 W3 [1] [3] (by decide) (by decide)
  have s3 : W3.heap.size = w.heap.size + 1 + 1 + 1 := by rw [h3]; simp
  rw [s3] at r4 r5
  have s4 : W4.heap.size = w.heap.size + 1 + 1 + 1 + 1 + 1 := by rw [h4]; simp [s3]
  have ho := OG.lit (enc := id) 23 W4 [Value.slice (some ⟨w.heap.size, 0, none⟩) 0 0, .slice (some ⟨w.heap.size + 1, 0, none⟩) 1 1, .slice (some ⟨w.heap.size + 1 + 1, 0, none⟩) 1 1, .slice (some ⟨w.heap.size + 1 + 1 + 1, 0, none⟩) 1 1, .slice (some ⟨w.heap.size + 1 + 1 + 1 + 1, 0, none⟩) 1 1] (by simp [maxLen])
  rw [s4] at ho
  have b5 := belowB W4 (.cells #[.slice (some ⟨w.heap.size, 0, none⟩) 0 0, .slice (some ⟨w.heap.size + 1, 0, none⟩) 1 1, .slice (some ⟨w.heap.size + 1 + 1, 0, none⟩) 1 1, .slice (some ⟨w.heap.size + 1 + 1 + 1, 0, none⟩) 1 1, .slice (some ⟨w.heap.size + 1 + 1 + 1 + 1, 0, none⟩) 1 1] 23)
  refine ⟨_, [Value.slice (some ⟨w.heap.size, 0, none⟩) 0 0, .slice (some ⟨w.heap.size + 1, 0, none⟩) 1 1, .slice (some ⟨w.heap.size + 1 + 1, 0, none⟩) 1 1, .slice (some ⟨w.heap.size + 1 + 1 + 1, 0, none⟩) 1 1, .slice (some ⟨w.heap.size + 1 + 1 + 1 + 1, 0, none⟩) 1 1], ?_, ⟨ho.rg, rfl, fun i x hx => ?_⟩, bstepB (bstepB b3 b4) b5⟩
  · rw [h4, h3]; rfl
  · match i, hx with
    | 0, hx => simp at hx; subst hx; exact (r1.below (Nat.le_refl _) b4).below (Nat.le_refl _) b5
    | 1, hx => simp at hx; subst hx; exact (r2.below (Nat.le_refl _) b4).below (Nat.le_refl _) b5
    | 2, hx => simp at hx; subst hx; exact (r3.below (Nat.le_refl _) b4).below (Nat.le_refl _) b5
    | 3, hx => simp at hx; subst hx; exact r4.below (Nat.le_refl _) b5
    | 4, hx => simp at hx; subst hx; exact r5.below (Nat.le_refl _) b5
end Go.Proofs.YthdpomgpcblpeaaGreat

namespace Go.Proofs.YthdpomgpcblpeaaGreat
set_option linter.unusedVariables false
open Go.RowKit
/-- What many answers. -/
def manyC (P : List (List Int)) : Bool := decide (14 < P.length) || decide (90 < smL P P.length)
set_option maxRecDepth 100000 in
set_option maxHeartbeats 1600000 in
theorem many17 (pv : Value) (pvs : List Value) (P : List (List Int)) (w : World) (h : RRD w pv pvs P) (hbl : ∀ i, (P.getD i []).length ≤ 1048576) :
    Calls Tryz.prog 4 #[pv] w fun e w' => e = .returned (.bool (manyC P)) ∧ w' = w := by
  obtain ⟨po, pn, pc, rfl⟩ : ∃ o n c, pv = .slice o n c := by obtain ⟨ao, cap, e⟩ := h.out.sl; exact ⟨_, _, _, e⟩
  have hn : P.length = pn := by rw [← h.len, h.out.len]
  have hpm : pn ≤ 9223372036854775807 := by have := h.out.room.2.1; have := h.out.room.1; unfold maxLen at *; omega
  have HR : Hid (RRD w (.slice po pn pc) pvs P) := h
  have HN : Hid (P.length = pn) := hn
  have HBL : Hid (∀ i, (P.getD i []).length ≤ 1048576) := hbl
  clear h hn hbl
  go_enter Tryz.func4, Tryz.ntmps4
  go_wp2
  go_loopg [3, 4] 15 (fun g1 v3 v4 wr => ∃ i s : Nat, v3 = .int .i64 s ∧ v4 = .int .i64 i ∧ i ≤ pn ∧ i ≤ 15 ∧ 15 - i ≤ g1 ∧ Hid (smL P i = s) ∧ wr = w)
  case atStart => exact ⟨0, 0, rfl, rfl, by omega, by omega, by omega, rfl, rfl⟩
  case round =>
    obtain ⟨i, s, rfl, rfl, hin, hi2, hg1, HS, rfl⟩ := hrel
    have hsb : s ≤ 15728640 := by have := smL_le HBL.out i; rw [HS.out] at this; omega
    by_cases hlt : i < pn
    · have hltz : (i : Int) < (pn : Int) := by omega
      by_cases hl2 : i ≤ 14
      · have hl2z : (i : Int) ≤ 14 := by omega
        obtain ⟨x, gp, op, hx1, rfl, hx2⟩ := HR.out.out.at hlt
        have hxr := HR.out.inn i x hx1
        obtain ⟨xo, xn, xc, rfl⟩ : ∃ o n c, x = .slice o n c := by obtain ⟨ao, cap, e⟩ := hxr.sl; exact ⟨_, _, _, e⟩
        have hxl : (P.getD i []).length = xn := hxr.len
        have hxb : xn ≤ 1048576 := by rw [← hxl]; exact HBL.out i
        change wr.cell? ⟨gp, op + i, none⟩ = some (.slice xo xn xc) at hx2
        have HS2 : Hid (smL P (i + 1) = s + xn) := by show _ = _; simp only [smL]; rw [HS.out, hxl]
        have hws : IntKind.i64.wrap ((s : Int) + (xn : Int)) = (s : Int) + (xn : Int) := by rw [IntKind.wrap_i64]; omega
        clear hxl hxr hx1 HS
        go_wp2
        clear hx2
        go_roundg (15 - (i + 1))
        case measure => omega
        case rel => exact ⟨i + 1, s + xn, by first | rfl | go_num, by first | rfl | go_num, by omega, by omega, Nat.le_refl _, HS2, rfl⟩
      · have hl2z : ¬ (i : Int) ≤ 14 := by omega
        have hbig : (14 : Int) < (pn : Int) := by omega
        have hbig2 : (pn : Int) > 14 := by omega
        have HE : Hid (manyC P = true) := by show _ = _; unfold manyC; rw [HN.out, decide_eq_true (show 14 < pn by omega)]; rfl
        clear HS
        go_wp2
        go_ret
        exact ⟨by rw [HE.out]; rfl, rfl⟩
    · have hltz : ¬ (i : Int) < (pn : Int) := by omega
      obtain rfl : i = pn := by omega
      by_cases hb2 : 14 < i
      · have hbig : (14 : Int) < (i : Int) := by omega
        have hbig2 : (i : Int) > 14 := by omega
        have HE : Hid (manyC P = true) := by show _ = _; unfold manyC; rw [HN.out, decide_eq_true hb2]; rfl
        clear HS
        go_wp2
        go_ret
        exact ⟨by rw [HE.out]; rfl, rfl⟩
      · have hbig : ¬ (14 : Int) < (i : Int) := by omega
        have HE : Hid (manyC P = decide ((90 : Int) < (s : Int))) := by
          show _ = _
          unfold manyC
          rw [HN.out, decide_eq_false hb2, HS.out, Bool.false_or]
          exact decide_eq_decide.2 (by omega)
        clear HS
        go_wp2
        go_ret
        exact ⟨by rw [HE.out]; rfl, rfl⟩
theorem many17_no {P : List (List Int)} (h : manyC P = false) : P.length ≤ 14 ∧ smL P P.length ≤ 90 := by
  unfold manyC at h
  rw [Bool.or_eq_false_iff] at h
  have h1 := of_decide_eq_false h.1
  have h2 := of_decide_eq_false h.2
  omega
end Go.Proofs.YthdpomgpcblpeaaGreat

namespace Go.Proofs.YthdpomgpcblpeaaGreat
set_option linter.unusedVariables false
open Go.RowKit Go.Shelf Go.Sort Go.Lib
theorem at_ltM {P : List (List Int)} {j : Nat} {x : Int} (h : x ∈ P.getD j []) : j < P.length := by
  by_cases hl : j < P.length
  · exact hl
  · rw [List.getD_eq_getElem?_getD, List.getElem?_eq_none (by omega)] at h
    simp at h
/-- Two points are joined in the moral graph of some points. -/
def MorJ (P : List (List Int)) (X : Int → Prop) (u w : Int) : Prop := u ∈ P.getD w.toNat [] ∨ w ∈ P.getD u.toNat [] ∨ ∃ c : Nat, X (c : Int) ∧ u ∈ P.getD c [] ∧ w ∈ P.getD c []
/-- A way leads from one to another, through points that are not given. -/
inductive MorR (P : List (List Int)) (X : Int → Prop) (G : List Int) : Int → Int → Prop
  | refl {y : Int} : X y → y ∉ G → MorR P X G y y
  | head {u w y : Int} : X u → u ∉ G → MorJ P X u w → MorR P X G w y → MorR P X G u y
theorem MorR.first {P : List (List Int)} {X : Int → Prop} {G : List Int} {u y : Int} (h : MorR P X G u y) : X u ∧ u ∉ G := by
  cases h with
  | refl h1 h2 => exact ⟨h1, h2⟩
  | head h1 h2 _ _ => exact ⟨h1, h2⟩
theorem MorR.snoc {P : List (List Int)} {X : Int → Prop} {G : List Int} {u w y : Int} (h : MorR P X G u w) (hj : MorJ P X w y) (hX : X y) (hG : y ∉ G) : MorR P X G u y := by
  induction h with
  | refl h1 h2 => exact MorR.head h1 h2 hj (MorR.refl hX hG)
  | head h1 h2 h3 _ ih => exact MorR.head h1 h2 h3 (ih hj)
theorem MorR.last {P : List (List Int)} {X : Int → Prop} {G : List Int} {u y : Int} (h : MorR P X G u y) : X y ∧ y ∉ G := by
  induction h with
  | refl h1 h2 => exact ⟨h1, h2⟩
  | head _ _ _ _ ih => exact ih
/-- What holds the first and all that is joined to what it holds holds the last. -/
theorem MorR.closed {P : List (List Int)} {X S : Int → Prop} {G : List Int} (hS : ∀ u w, S u → MorJ P X u w → X w → w ∉ G → S w) {u y : Int} (h : MorR P X G u y) (hu : S u) : S y := by
  induction h with
  | refl _ _ => exact hu
  | head h1 h2 h3 h4 ih => exact ih (hS _ _ hu h3 h4.first.1 h4.first.2)
/-- Steps lead from one to another, the first ahead. -/
inductive StW (nx : Stp → List Stp) : Stp → Stp → Prop
  | refl {s : Stp} : StW nx s s
  | head {s t u : Stp} : t ∈ nx s → StW nx t u → StW nx s u
theorem StW.snoc {nx : Stp → List Stp} {s t u : Stp} (h : StW nx s t) (hu : u ∈ nx t) : StW nx s u := by
  induction h with
  | refl => exact StW.head hu StW.refl
  | head h1 _ ih => exact StW.head h1 (ih hu)
theorem str_path {nx : Stp → List Stp} {x : Int} {t : Stp} (h : StR nx [x] t) : StW nx (x, false) t := by
  induction h with
  | start hp => rw [List.mem_singleton.1 hp]; exact StW.refl
  | step _ ht ih => exact ih.snoc ht
theorem rn_tail {C : List (List Int)} : ∀ (m : Nat) (x y : Int), Rn C (m + 1) x y → ∃ z, Rn C m x z ∧ y ∈ C.getD z.toNat []
  | 0, x, y, ⟨z, hz, h⟩ => by
    have e : z = y := h
    subst e
    exact ⟨x, rfl, hz⟩
  | m + 1, x, y, ⟨z, hz, h⟩ => by
    obtain ⟨u, hu, hy⟩ := rn_tail m z y h
    exact ⟨u, ⟨z, hz, hu⟩, hy⟩
theorem mor_path {P : List (List Int)} {G A : List Int} {X : Int → Prop} (hP : ∀ (i : Nat) (x : Int), x ∈ P.getD i [] → ∃ p : Nat, x = (p : Int) ∧ p < P.length)
    (hX : ∀ (c : Nat) (x : Int), X (c : Int) → x ∈ P.getD c [] → X x) (hA : ∀ x ∈ A, X x) {s u : Stp} (hs : StW (nxS P P.length G A) s u) (hy : X u.1) (hyG : u.1 ∉ G) (hn : ∃ x : Nat, s.1 = (x : Int)) :
    (s.2 = true → X s.1 ∧ ∀ p ∈ P.getD s.1.toNat [], p ∉ G → MorR P X G p u.1) ∧ (s.2 = false → X s.1 → MorR P X G s.1 u.1) := by
  induction hs with
  | @refl s =>
    obtain ⟨x, hx⟩ := hn
    refine ⟨fun _ => ⟨hy, fun p hp hg => ?_⟩, fun _ _ => MorR.refl hy hyG⟩
    refine MorR.head (hX x p (by rw [← hx]; exact hy) (by rw [hx, Int.toNat_natCast] at hp; exact hp)) hg (Or.inl hp) (MorR.refl hy hyG)
  | @head s t u ht hp ih =>
    obtain ⟨x, hx⟩ := hn
    obtain ⟨sx, sd⟩ := s
    obtain ⟨tx, td⟩ := t
    simp only at hx
    subst hx
    rcases nx_mem.1 ht with ⟨h1, h2, h3⟩ | ⟨h1, h2, h3⟩
    · simp only at h1 h2 h3
      subst h2
      rw [Int.toNat_natCast] at h3
      obtain ⟨c, hc, rfl, hm⟩ := chF_mem.1 h3
      obtain ⟨hXc, hall⟩ := (ih hy hyG ⟨c, rfl⟩).1 rfl
      simp only [Int.toNat_natCast] at hXc hall
      have hXx : X (x : Int) := hX c _ hXc hm
      have hM := hall _ hm h1
      refine ⟨fun _ => ⟨hXx, fun p hp hg => ?_⟩, fun _ _ => hM⟩
      simp only [Int.toNat_natCast] at hp
      exact MorR.head (hX x p hXx hp) hg (Or.inl (by simp only [Int.toNat_natCast]; exact hp)) hM
    · simp only at h1 h2 h3
      subst h2
      rw [Int.toNat_natCast] at h3
      obtain ⟨q, rfl, hq⟩ := hP x tx h3
      have hih := (ih hy hyG ⟨q, rfl⟩).2 rfl
      simp only at hih
      refine ⟨fun hd => ?_, fun hd hXx => ?_⟩
      · simp only at hd
        subst hd
        have hxA : (x : Int) ∈ A := by
          rcases h1 with h4 | h4
          · exact h4.2
          · simp at h4
        have hXx := hA _ hxA
        have hM := hih (hX x _ hXx h3)
        refine ⟨hXx, fun p hp hg => ?_⟩
        simp only [Int.toNat_natCast] at hp
        exact MorR.head (hX x p hXx hp) hg (Or.inr (Or.inr ⟨x, hXx, hp, h3⟩)) hM
      · simp only at hd
        subst hd
        have hxG : (x : Int) ∉ G := by
          rcases h1 with h4 | h4
          · simp at h4
          · exact h4.2
        simp only at hXx
        exact MorR.head hXx hxG (Or.inr (Or.inl (by simp only [Int.toNat_natCast]; exact h3))) (hih (hX x _ hXx h3))
theorem rch_up {P : List (List Int)} {L : List Int} (c : Nat) (x : Int) (h : RchP P L (c : Int)) (hx : x ∈ P.getD c []) : RchP P L x := by
  obtain ⟨g, hg, k, hr⟩ := h
  exact ⟨g, hg, k + 1, rn_snoc k g _ x hr (by rw [Int.toNat_natCast]; exact hx)⟩
/-- Down from what is led to, where nothing below is given. -/
theorem str_down {P : List (List Int)} (hP : ∀ (i : Nat) (x : Int), x ∈ P.getD i [] → ∃ p : Nat, x = (p : Int) ∧ p < P.length) {a G A : List Int} (hA : AbvP P G A) {y : Nat} (hy : y < P.length) : ∀ (m : Nat) (c : Int) (d : Bool), StR (nxS P P.length G A) a (c, d) → c ∉ A → Rn P m (y : Int) c → ∃ e, StR (nxS P P.length G A) a ((y : Int), e)
  | 0, c, d, hs, _, hr => by
    have e : (y : Int) = c := hr
    subst e
    exact ⟨d, hs⟩
  | m + 1, c, d, hs, hc, hr => by
    obtain ⟨z, hz, hcz⟩ := rn_tail m _ _ hr
    obtain ⟨q, rfl, hq⟩ := rn_ptS hP rfl m _ _ ⟨y, rfl, hy⟩ hz
    rw [Int.toNat_natCast] at hcz
    have hzA : (q : Int) ∉ A := fun h => hc ((hA.2 c).2 (rch_up q c ((hA.2 _).1 h) hcz))
    have hcG : c ∉ G := fun h => hc ((hA.2 c).2 ⟨c, h, 0, rfl⟩)
    obtain ⟨v, rfl, hv⟩ := hP q c hcz
    exact str_down hP hA hy m (q : Int) true (StR.step hs (nx_mem.2 (Or.inl ⟨hcG, rfl, by simp only [Int.toNat_natCast]; exact chF_mem.2 ⟨q, hq, rfl, hcz⟩⟩))) hzA hz
/-- Up from what is begun with, where nothing below is given. -/
theorem str_up {P : List (List Int)} (hP : ∀ (i : Nat) (x : Int), x ∈ P.getD i [] → ∃ p : Nat, x = (p : Int) ∧ p < P.length) {a G A : List Int} (hA : AbvP P G A) {y : Nat} (hy : y < P.length) (hya : (y : Int) ∈ a) : ∀ (m : Nat) (c : Int), c ∉ A → Rn P m (y : Int) c → StR (nxS P P.length G A) a (c, false)
  | 0, c, _, hr => by
    have e : (y : Int) = c := hr
    subst e
    exact StR.start hya
  | m + 1, c, hc, hr => by
    obtain ⟨z, hz, hcz⟩ := rn_tail m _ _ hr
    obtain ⟨q, rfl, hq⟩ := rn_ptS hP rfl m _ _ ⟨y, rfl, hy⟩ hz
    rw [Int.toNat_natCast] at hcz
    have hzA : (q : Int) ∉ A := fun h => hc ((hA.2 c).2 (rch_up q c ((hA.2 _).1 h) hcz))
    have hzG : (q : Int) ∉ G := fun h => hzA ((hA.2 _).2 ⟨_, h, 0, rfl⟩)
    exact StR.step (str_up hP hA hy hya m (q : Int) hzA hz) (nx_mem.2 (Or.inr ⟨Or.inr ⟨rfl, hzG⟩, rfl, by simp only [Int.toNat_natCast]; exact hcz⟩))
/-- Where a way leads on in the moral graph, steps lead on, or to something that is asked. -/
theorem mor_str {P : List (List Int)} (hP : ∀ (i : Nat) (x : Int), x ∈ P.getD i [] → ∃ p : Nat, x = (p : Int) ∧ p < P.length) {a b G A : List Int} (ha : ∀ x ∈ a, ∃ p : Nat, x = (p : Int) ∧ p < P.length) (hb : ∀ x ∈ b, ∃ p : Nat, x = (p : Int) ∧ p < P.length) (hA : AbvP P G A) {u y : Int} (h : MorR P (RchP P (a ++ b ++ G)) G u y) (hy : y ∈ b) (hu : ∃ d, StR (nxS P P.length G A) a (u, d)) (hun : ∃ p : Nat, u = (p : Int) ∧ p < P.length) :
    ∃ z ∈ b, z ∉ G ∧ ∃ e, StR (nxS P P.length G A) a (z, e) := by
  -- what is above and not above what is given: led to upward, or it leads down to what is asked
  have turn : ∀ (c : Nat) (d : Bool), StR (nxS P P.length G A) a ((c : Int), d) → RchP P (a ++ b ++ G) (c : Int) → (c : Int) ∉ A → (∃ z ∈ b, z ∉ G ∧ ∃ e, StR (nxS P P.length G A) a (z, e)) ∨ StR (nxS P P.length G A) a ((c : Int), false) := fun c d hs hr hc => by
    obtain ⟨g, hg, k, hr⟩ := hr
    rcases List.mem_append.1 hg with hg | hg
    · rcases List.mem_append.1 hg with hg | hg
      · obtain ⟨p, rfl, hp⟩ := ha g hg
        exact Or.inr (str_up hP hA hp hg k _ hc hr)
      · obtain ⟨p, rfl, hp⟩ := hb g hg
        refine Or.inl ⟨_, hg, fun h => hc ((hA.2 _).2 ⟨_, h, k, hr⟩), str_down hP hA hp k _ d hs hc hr⟩
    · exact absurd ((hA.2 _).2 ⟨g, hg, k, hr⟩) hc
  induction h with
  | @refl y h1 h2 => exact ⟨_, hy, h2, hu⟩
  | @head u w y h1 h2 h3 h4 ih =>
    obtain ⟨d, hd⟩ := hu
    obtain ⟨p, rfl, hp⟩ := hun
    rcases h3 with h3 | h3 | ⟨c, hc, h5, h6⟩
    · have hw := at_ltM h3
      have e0 : ∃ q : Nat, w = (q : Int) := by
        obtain ⟨g, hg, k, hr⟩ := h4.first.1
        have hgn : ∃ p : Nat, g = (p : Int) ∧ p < P.length ∨ g ∈ G := by
          rcases List.mem_append.1 hg with hg | hg
          · rcases List.mem_append.1 hg with hg | hg
            · obtain ⟨p, e, hp⟩ := ha g hg; exact ⟨p, Or.inl ⟨e, hp⟩⟩
            · obtain ⟨p, e, hp⟩ := hb g hg; exact ⟨p, Or.inl ⟨e, hp⟩⟩
          · exact ⟨0, Or.inr hg⟩
        cases k with
        | zero =>
          have e : g = w := hr
          subst e
          obtain ⟨p, hpp⟩ := hgn
          rcases hpp with ⟨e, _⟩ | h7
          · exact ⟨p, e⟩
          · exact absurd h7 h4.first.2
        | succ k =>
          obtain ⟨z, -, hz⟩ := rn_tail k g w hr
          obtain ⟨q, e, -⟩ := hP _ _ hz
          exact ⟨q, e⟩
      obtain ⟨q, rfl⟩ := e0
      rw [Int.toNat_natCast] at h3 hw
      exact ih hy ⟨true, StR.step hd (nx_mem.2 (Or.inl ⟨h2, rfl, by simp only [Int.toNat_natCast]; exact chF_mem.2 ⟨q, hw, rfl, h3⟩⟩))⟩ ⟨q, rfl, hw⟩
    · rw [Int.toNat_natCast] at h3
      obtain ⟨q, rfl, hq⟩ := hP p w h3
      have fin : StR (nxS P P.length G A) a ((p : Int), false) ∨ (d = true ∧ (p : Int) ∈ A) → ∃ e, StR (nxS P P.length G A) a ((q : Int), e) := fun h7 => by
        rcases h7 with h7 | ⟨h7, h8⟩
        · exact ⟨false, StR.step h7 (nx_mem.2 (Or.inr ⟨Or.inr ⟨rfl, h2⟩, rfl, by simp only [Int.toNat_natCast]; exact h3⟩))⟩
        · exact ⟨false, StR.step hd (nx_mem.2 (Or.inr ⟨Or.inl ⟨h7, h8⟩, rfl, by simp only [Int.toNat_natCast]; exact h3⟩))⟩
      cases d with
      | false => exact ih hy (fin (Or.inl hd)) ⟨q, rfl, hq⟩
      | true =>
        by_cases hpA : (p : Int) ∈ A
        · exact ih hy (fin (Or.inr ⟨rfl, hpA⟩)) ⟨q, rfl, hq⟩
        · rcases turn p true hd h1 hpA with h7 | h7
          · exact h7
          · exact ih hy (fin (Or.inl h7)) ⟨q, rfl, hq⟩
    · have hcn := at_ltM h5
      have hcs : StR (nxS P P.length G A) a ((c : Int), true) := StR.step hd (nx_mem.2 (Or.inl ⟨h2, rfl, by simp only [Int.toNat_natCast]; exact chF_mem.2 ⟨c, hcn, rfl, h5⟩⟩))
      obtain ⟨q, rfl, hq⟩ := hP c w h6
      by_cases hcA : (c : Int) ∈ A
      · exact ih hy ⟨false, StR.step hcs (nx_mem.2 (Or.inr ⟨Or.inl ⟨rfl, hcA⟩, rfl, by simp only [Int.toNat_natCast]; exact h6⟩))⟩ ⟨q, rfl, hq⟩
      · rcases turn c true hcs hc hcA with h7 | h7
        · exact h7
        · have hcG : (c : Int) ∉ G := fun h => hcA ((hA.2 _).2 ⟨_, h, 0, rfl⟩)
          exact ih hy ⟨false, StR.step h7 (nx_mem.2 (Or.inr ⟨Or.inr ⟨rfl, hcG⟩, rfl, by simp only [Int.toNat_natCast]; exact h6⟩))⟩ ⟨q, rfl, hq⟩
/-- Something is told just where a way leads in the moral graph. -/
theorem moral_iff {P : List (List Int)} (hP : ∀ (i : Nat) (x : Int), x ∈ P.getD i [] → ∃ p : Nat, x = (p : Int) ∧ p < P.length) {a b G A : List Int} (ha : ∀ x ∈ a, ∃ p : Nat, x = (p : Int) ∧ p < P.length) (hb : ∀ x ∈ b, ∃ p : Nat, x = (p : Int) ∧ p < P.length) (hA : AbvP P G A) :
    (∃ x ∈ a, ∃ y ∈ b, TelP P P.length G A [x] y) ↔ ∃ x ∈ a, ∃ y ∈ b, MorR P (RchP P (a ++ b ++ G)) G x y := by
  constructor
  · rintro ⟨x, hx, y, hy, hyG, d, hs⟩
    refine ⟨x, hx, y, hy, ?_⟩
    obtain ⟨p, rfl, hp⟩ := ha x hx
    exact (mor_path (X := RchP P (a ++ b ++ G)) hP (fun c x h1 h2 => rch_up c x h1 h2) (fun z hz => by
      obtain ⟨g, hg, k, hr⟩ := (hA.2 z).1 hz
      exact ⟨g, List.mem_append_right _ hg, k, hr⟩) (str_path hs) ⟨y, List.mem_append_left _ (List.mem_append_right _ hy), 0, rfl⟩ hyG ⟨p, rfl⟩).2 rfl ⟨_, List.mem_append_left _ (List.mem_append_left _ hx), 0, rfl⟩
  · rintro ⟨x, hx, y, hy, hm⟩
    obtain ⟨z, hz, hzG, e, hs⟩ := mor_str hP ha hb hA hm hy ⟨false, StR.start hx⟩ (ha x hx)
    obtain ⟨v, hv, hs2⟩ := str_any.1 hs
    exact ⟨v, hv, z, hz, hzG, e, hs2⟩
end Go.Proofs.YthdpomgpcblpeaaGreat

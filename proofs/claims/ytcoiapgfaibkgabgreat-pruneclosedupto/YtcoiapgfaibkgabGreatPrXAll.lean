/-
  Proved here: plain mathematics of layer 17's law: one new point put above one; Apart told by it; rows of one's own, pushed.
  Proved here, plain mathematics: what it says that they are not many.
  Proved here: layer 16's law: alive: in the square two sides are apart given the top, and not given the bottom too.
  Proved here: layer 17's law: alive: of the chapter's points what hangs on nothing is left out; given the first, what is beyond it.
  Proved here: layer 17's law: alive answers true.
  Proved here: layer 17's law: many.
-/
import Derived.Test.YtcoiapgfaibkgabGreatPrC
import Derived.Test.YtcoiapgfaibkgabGreatDagAnAll
import Derived.Test.YtcoiapgfaibkgabGreatSpLAll
import Derived.Test.YtcoiapgfaibkgabGreatSpKAll
namespace Go.Proofs.YtcoiapgfaibkgabGreat
set_option linter.unusedVariables false
open Go.RowKit Go.Shelf Go.Sort Go.Lib
/-- A row while one new point is put above point v. -/
def wdR (P : List (List Int)) (v i : Nat) : List Int := P.getD i [] ++ if i = v then [(P.length : Int)] else []
def wdK (P : List (List Int)) (v i : Nat) : List (List Int) := (List.range i).map (wdR P v)
def wdP (P : List (List Int)) (v : Nat) : List (List Int) := wdK P v P.length ++ [[]]
theorem wdK_step (P : List (List Int)) (v i : Nat) : wdK P v (i + 1) = wdK P v i ++ [wdR P v i] := by unfold wdK; rw [List.range_succ, List.map_append]; rfl
theorem wdK_len (P : List (List Int)) (v i : Nat) : (wdK P v i).length = i := by unfold wdK; rw [List.length_map, List.length_range]
theorem wd_len (P : List (List Int)) (v : Nat) : (wdP P v).length = P.length + 1 := by unfold wdP; rw [List.length_append, wdK_len]; rfl
theorem wd_old {P : List (List Int)} {v i : Nat} (h : i < P.length) : (wdP P v).getD i [] = wdR P v i := by
  unfold wdP wdK
  rw [List.getD_eq_getElem?_getD, List.getElem?_append_left (by rw [List.length_map, List.length_range]; exact h), List.getElem?_map, List.getElem?_range h]
  rfl
theorem wd_new {P : List (List Int)} {v i : Nat} (h : P.length ≤ i) : (wdP P v).getD i [] = [] := by
  unfold wdP
  rw [List.getD_eq_getElem?_getD, List.getElem?_append_right (by rw [wdK_len]; exact h), wdK_len]
  by_cases e : i = P.length
  · rw [e, Nat.sub_self]; rfl
  · rw [List.getElem?_eq_none (by simp; omega)]; rfl
theorem wd_ext {P : List (List Int)} (h0 : ckE P = 0) {v : Nat} (hv : v < P.length) : ExtP P (wdP P v) := by
  have hz := cl_zero (ck_zero h0)
  have hold : ∀ (i : Nat), (P.length : Int) ∉ P.getD i [] := fun i hc => by
    obtain ⟨q, e, hq⟩ := outs_no hz.1 i _ hc
    omega
  have hin : ∀ (i : Nat) (x : Int), x ∈ (wdP P v).getD i [] → x ∈ P.getD i [] ∨ (i = v ∧ x = (P.length : Int)) := fun i x hx => by
    by_cases hi : i < P.length
    · rw [wd_old hi] at hx
      unfold wdR at hx
      rcases List.mem_append.1 hx with h1 | h1
      · exact Or.inl h1
      · split at h1
        · rename_i e; exact Or.inr ⟨e, List.mem_singleton.1 h1⟩
        · simp at h1
    · rw [wd_new (by omega)] at hx; simp at hx
  refine ⟨by rw [wd_len]; omega, fun i x hx => ?_, fun i x hx hn => ?_, fun i hi => wd_new hi, fun i j m hm h1 h2 => ?_, fun i => ?_⟩
  · rw [wd_old (at_lt hx)]
    exact List.mem_append_left _ hx
  · rcases hin i x hx with h1 | ⟨_, h1⟩
    · exact absurd h1 hn
    · exact ⟨P.length, h1, Nat.le_refl _, by rw [wd_len]; omega⟩
  · have key : ∀ i, (m : Int) ∈ (wdP P v).getD i [] → i = v := fun i hi => by
      rcases hin i _ hi with h1 | ⟨h1, _⟩
      · obtain ⟨q, e, hq⟩ := outs_no hz.1 i _ h1
        omega
      · exact h1
    rw [key i h1, key j h2]
  · by_cases hl : i < P.length
    · rw [wd_old hl]
      unfold wdR
      refine List.nodup_append.2 ⟨twices_no hz.2 i, by split <;> simp, fun a ha b hb e => ?_⟩
      split at hb
      · rw [List.mem_singleton.1 hb] at e
        subst e
        exact hold i ha
      · simp at hb
    · rw [wd_new (by omega)]; exact List.nodup_nil
theorem wd_in {P : List (List Int)} {v : Nat} (hv : v < P.length) : (P.length : Int) ∈ (wdP P v).getD v [] := by rw [wd_old hv]; unfold wdR; simp
/-- What is asked and not given. -/
def opn (a G : List Int) : List Int := a.filter fun x => decide (x ∉ G)
theorem opn_mem {a G : List Int} {x : Int} : x ∈ opn a G ↔ x ∈ a ∧ x ∉ G := by unfold opn; rw [List.mem_filter]; simp
theorem opn_len (a G : List Int) : (opn a G).length ≤ a.length := List.length_filter_le _ _
theorem tel_one {P : List (List Int)} {G : List Int} {x y : Int} {A : List Int} (hA : AbvP P G A) : TelM P G x y ↔ TelP P P.length G A [x] y := tel_m hA
/-- The new point is told something of what is open just where the table below it tells something. -/
theorem tab_wid {P : List (List Int)} {a G : List Int} (h0 : ckE P = 0) (ha : noPts (P.length : Int) a = false) (hG : noPts (P.length : Int) G = false) {v : Nat} (hv : v < P.length) : (∃ y ∈ opn a G, TelM (wdP P v) G (P.length : Int) y) ↔ TabM P a G (v : Int) := by
  have hP := outs_no (cl_zero (ck_zero h0)).1
  have hE := wd_ext h0 hv
  have hck := hE.ck h0
  have hQ := outs_no (cl_zero (ck_zero hck)).1
  have hGQ : noPts ((wdP P v).length : Int) G = false := noPts_wide hG (by rw [wd_len]; omega)
  obtain ⟨A, hA⟩ := abv_ex hP hG
  obtain ⟨C, hC⟩ := abv_ex hQ hGQ
  have hnew : ∃ p : Nat, (P.length : Int) = (p : Int) ∧ p < (wdP P v).length := ⟨P.length, rfl, by rw [wd_len]; omega⟩
  have key : ∀ y, y ∈ a → (TelM (wdP P v) G (P.length : Int) y ↔ TabP P P.length G A [y] (v : Int)) := fun y hy => by
    obtain ⟨p, rfl, hp⟩ := noPts_pt ha y hy
    have hold : ∃ q : Nat, ((p : Nat) : Int) = (q : Int) ∧ q < (wdP P v).length := ⟨p, rfl, by rw [wd_len]; omega⟩
    rw [← hE.tel hP (fun x hx => noPts_pt hG x hx) hA hC (fun x hx => by rw [List.mem_singleton.1 hx]; exact ⟨p, rfl, hp⟩) hv (Nat.le_refl _) (wd_in hv), tel_one hC]
    exact ⟨fun h => tel_even rfl hQ hnew h, fun h => tel_even rfl hQ hold h⟩
  have hM : TabM P a G (v : Int) ↔ TabP P P.length G A a (v : Int) := ⟨fun ⟨A2, h2, h3⟩ => by
    have e : A2 = A := rise_ext h2.1 hA.1 (fun z => (h2.2 z).trans (hA.2 z).symm)
    rwa [e] at h3, fun h => ⟨A, hA, h⟩⟩
  rw [hM, tab_any]
  constructor
  · rintro ⟨y, hy, ht⟩
    exact ⟨y, (opn_mem.1 hy).1, (key y (opn_mem.1 hy).1).1 ht⟩
  · rintro ⟨y, hy, ht⟩
    refine ⟨y, opn_mem.2 ⟨hy, fun hg => tab_given hg ht⟩, (key y hy).2 ht⟩
theorem opn_pts {a G : List Int} {n : Int} (h : noPts n a = false) : noPts n (opn a G) = false := List.any_eq_false.2 fun x hx => by
  have h1 := List.any_eq_false.1 h x (opn_mem.1 hx).1
  exact h1
theorem wk_g {P : List (List Int)} (h : ckE P = 0) {a G : List Int} (ha : noPts (P.length : Int) a = false) (hG : noPts (P.length : Int) G = false) : wkE P P.length a G = 0 := by
  have h1 : nsE P P.length G = 0 := by unfold nsE; rw [h, hG]; rfl
  unfold wkE; rw [h1, ha]; rfl
theorem ends_g {P : List (List Int)} (h : ckE P = 0) {a G A : List Int} (ha : noPts (P.length : Int) a = false) (hG : noPts (P.length : Int) G = false) (hA : AbvP P G A) (y : Int) : y ∈ endsL (wkL P P.length a G A) G ↔ ∃ x ∈ a, TelM P G x y := by
  rw [ends_iff A rfl (wk_g h ha hG), tel_any]
  exact exists_congr fun x => and_congr_right fun _ => (tel_m hA).symm
set_option maxRecDepth 1000000 in
theorem apartG (P : List (List Int)) (hck : ckE P = 0) (hn : P.length ≤ 50000) (pv av bv qv : Value) (pvs : List Value) (a b G : List Int) (w : World) (h : RRD w pv pvs P) (ha : RG (Value.int .i64) w av a) (hal : a.length ≤ 1048576) (hb : RG (Value.int .i64) w bv b) (hbl : b.length ≤ 1048576) (hq : RG (Value.int .i64) w qv G) (hql : G.length ≤ 1048576)
    (pa : noPts (P.length : Int) a = false) (pb : noPts (P.length : Int) b = false) (pG : noPts (P.length : Int) G = false) :
    Calls Tryz.prog 13 #[pv, av, bv, qv] w fun e w' => ∃ r : Bool, e = .returned (.tuple #[.bool r, .int .i64 0]) ∧ (r = true ↔ ¬ ∃ x ∈ a, ∃ y ∈ b, TelM P G x y) ∧ Below w.heap.size w w' := by
  have h0 : apE P P.length a b G = 0 := by unfold apE; rw [wk_g hck pa pG, pb]; rfl
  refine (apartP pv av bv qv pvs P a b G w h P.length rfl hn ha hal hb hbl hq hql (fun h1 A s => hdis_any rfl h1 A s)).mono ?_
  rintro e w' ⟨r, he, -, hr, hbw⟩
  rw [h0] at he
  obtain ⟨A, hA, hr2⟩ := hr h0
  refine ⟨r, he, ?_, hbw⟩
  rw [hr2, decide_eq_true_iff, List.length_eq_zero_iff, List.eq_nil_iff_forall_not_mem]
  constructor
  · rintro h1 ⟨x, hx, y, hy, ht⟩
    exact h1 y ((mem_meetR _ _ _).2 ⟨(ends_g hck pa pG hA y).2 ⟨x, hx, ht⟩, (mem_ofR ..).2 hy⟩)
  · intro h1 y hy
    obtain ⟨h2, h3⟩ := (mem_meetR _ _ _).1 hy
    obtain ⟨x, hx, ht⟩ := (ends_g hck pa pG hA y).1 h2
    exact h1 ⟨x, hx, y, (mem_ofR ..).1 h3, ht⟩
theorem OwR.push {B : Nat} {w w' : World} {v v' x : Value} {rvs : List Value} {L : List (List Int)} {M : List Int} (h : OwR B w v rvs L) (ho : OG id B 23 w' v' (rvs ++ [x])) (hg : w.grownBy w' v.ownBlock) (hx : OG (Value.int .i64) B 3 w x M) : OwR B w' v' (rvs ++ [x]) (L ++ [M]) := by
  have keep : ∀ (u : Value) (K : List Int), OG (Value.int .i64) B 3 w u K → OG (Value.int .i64) B 3 w' u K := fun u K hu => hu.of_blocks fun q hq => hg.block q (hu.lt q hq).2 (fun e => hu.neO h.row (by decide) hq e.symm)
  refine ⟨ho, by rw [List.length_append, List.length_append, h.len]; rfl, fun j u hu => ?_⟩
  by_cases hj : j < rvs.length
  · rw [List.getElem?_append_left hj] at hu
    rw [List.getD_eq_getElem?_getD, List.getElem?_append_left (by rw [← h.len]; exact hj), ← List.getD_eq_getElem?_getD]
    exact keep u _ (h.inn j u hu)
  · have h3 := (List.getElem?_eq_some_iff.1 hu).1
    rw [List.length_append, List.length_singleton] at h3
    have hj2 : j = rvs.length := by omega
    subst hj2
    rw [List.getElem?_append_right (Nat.le_refl _), Nat.sub_self] at hu
    simp only [List.getElem?_cons_zero, Option.some.injEq] at hu
    subst hu
    rw [List.getD_eq_getElem?_getD, List.getElem?_append_right (by rw [h.len]; exact Nat.le_refl _), h.len, Nat.sub_self]
    exact keep _ _ hx
end Go.Proofs.YtcoiapgfaibkgabGreat

namespace Go.Proofs.YtcoiapgfaibkgabGreat
set_option linter.unusedVariables false
theorem len_smB (P : List (List Int)) (i : Nat) : (P.getD i []).length ≤ smL P P.length := by
  by_cases h : i < P.length
  · have := smL_mono (P := P) (show i + 1 ≤ P.length by omega)
    simp only [smL] at this
    omega
  · rw [List.getD_eq_getElem?_getD, List.getElem?_eq_none (by omega)]; simp
theorem many_noB {P : List (List Int)} (h : manyB P = false) : P.length ≤ 200 ∧ smL P P.length ≤ 2000 := by
  unfold manyB at h
  rw [Bool.or_eq_false_iff] at h
  have h1 := of_decide_eq_false h.1
  have h2 := of_decide_eq_false h.2
  omega
end Go.Proofs.YtcoiapgfaibkgabGreat

namespace Go.Proofs.YtcoiapgfaibkgabGreat
set_option linter.unusedVariables false
open Go.RowKit Go.Shelf Go.Sort Go.Lib
def p5 : List (List Int) := [[], [0], [0], [1, 2], [3]]
theorem p5_ck : ckE p5 = 0 := by decide +kernel
theorem abv_of {P : List (List Int)} {G A B : List Int} (h : AbvP P G A) (hB : B.Pairwise (· < ·)) (h1 : ∀ x ∈ G, x ∈ B) (h2 : ∀ x ∈ B, ∀ y ∈ P.getD x.toNat [], y ∈ B) (h3 : ∀ x ∈ B, RchP P G x) : A = B := by
  refine rise_ext h.1 hB fun z => (h.2 z).trans ⟨?_, h3 z⟩
  rintro ⟨x, hx, m, hm⟩
  have key : ∀ (m : Nat) (x : Int), x ∈ B → Rn P m x z → z ∈ B := by
    intro m
    induction m with
    | zero => intro x hx hr; have e : x = z := hr
              rw [← e]; exact hx
    | succ m ih => rintro x hx ⟨u, hu, hr⟩; exact ih u (h2 x hx u hu) hr
  exact key m x (h1 x hx) hm
theorem p5_top {A : List Int} (h : AbvP p5 [0] A) : A = [0] := abv_of h (by decide) (by decide) (by decide) (fun x hx => by
  have e : x = 0 := by simpa using hx
  subst e; exact ⟨0, by simp, 0, rfl⟩)
theorem p5_two {A : List Int} (h : AbvP p5 [0, 4] A) : A = [0, 1, 2, 3, 4] := abv_of h (by decide) (by decide) (by decide) (fun x hx => by
  simp only [List.mem_cons, List.not_mem_nil, or_false] at hx
  rcases hx with e | e | e | e | e
  · subst e; exact ⟨0, by simp, 0, rfl⟩
  · subst e; exact ⟨4, by simp, 2, 3, by decide, 1, by decide, rfl⟩
  · subst e; exact ⟨4, by simp, 2, 3, by decide, 2, by decide, rfl⟩
  · subst e; exact ⟨4, by simp, 1, 3, by decide, rfl⟩
  · subst e; exact ⟨4, by simp, 0, rfl⟩)
theorem cR (w : World) (zs : List Int) (hl : zs.length ≤ 1000) : RG (Value.int .i64) (w.alloc (.cells (zs.map (Value.int .i64)).toArray 3)) (.slice (some ⟨w.heap.size, 0, none⟩) zs.length zs.length) zs := (OG.lit (enc := Value.int .i64) 3 w zs (by unfold maxLen; omega)).rg
theorem lit3 (w : World) (a b c : List Int) (ha : a.length ≤ 1000) (hb : b.length ≤ 1000) (hc : c.length ≤ 1000) : ∃ W, W = ((w.alloc (.cells (a.map (Value.int .i64)).toArray 3)).alloc (.cells (b.map (Value.int .i64)).toArray 3)).alloc (.cells (c.map (Value.int .i64)).toArray 3) ∧ RG (Value.int .i64) W (.slice (some ⟨w.heap.size, 0, none⟩) a.length a.length) a ∧ RG (Value.int .i64) W (.slice (some ⟨w.heap.size + 1, 0, none⟩) b.length b.length) b ∧ RG (Value.int .i64) W (.slice (some ⟨w.heap.size + 1 + 1, 0, none⟩) c.length c.length) c ∧ Below w.heap.size w W := by
  have r1 := cR w a ha
  have r2 := cR (w.alloc (.cells (a.map (Value.int .i64)).toArray 3)) b hb
  have r3 := cR ((w.alloc (.cells (a.map (Value.int .i64)).toArray 3)).alloc (.cells (b.map (Value.int .i64)).toArray 3)) c hc
  have e1 : (w.alloc (.cells (a.map (Value.int .i64)).toArray 3)).heap.size = w.heap.size + 1 := by simp
  have e2 : ((w.alloc (.cells (a.map (Value.int .i64)).toArray 3)).alloc (.cells (b.map (Value.int .i64)).toArray 3)).heap.size = w.heap.size + 1 + 1 := by simp
  rw [e1] at r2
  rw [e2] at r3
  exact ⟨_, rfl, (r1.alloc _).alloc _, r2.alloc _, r3, bstepB (bstepB (belowB _ _) (belowB _ _)) (belowB _ _)⟩
theorem lit2 (w : World) (a b : List Int) (ha : a.length ≤ 1000) (hb : b.length ≤ 1000) : ∃ W, W = (w.alloc (.cells (a.map (Value.int .i64)).toArray 3)).alloc (.cells (b.map (Value.int .i64)).toArray 3) ∧ RG (Value.int .i64) W (.slice (some ⟨w.heap.size, 0, none⟩) a.length a.length) a ∧ RG (Value.int .i64) W (.slice (some ⟨w.heap.size + 1, 0, none⟩) b.length b.length) b ∧ Below w.heap.size w W := by
  have r1 := cR w a ha
  have r2 := cR (w.alloc (.cells (a.map (Value.int .i64)).toArray 3)) b hb
  have e1 : (w.alloc (.cells (a.map (Value.int .i64)).toArray 3)).heap.size = w.heap.size + 1 := by simp
  rw [e1] at r2
  exact ⟨_, rfl, r1.alloc _, r2, bstepB (belowB _ _) (belowB _ _)⟩
theorem lit1 (w : World) (a : List Int) (ha : a.length ≤ 1000) : ∃ W, W = w.alloc (.cells (a.map (Value.int .i64)).toArray 3) ∧ RG (Value.int .i64) W (.slice (some ⟨w.heap.size, 0, none⟩) a.length a.length) a ∧ Below w.heap.size w W := ⟨_, rfl, cR w a ha, belowB _ _⟩
end Go.Proofs.YtcoiapgfaibkgabGreat

namespace Go.Proofs.YtcoiapgfaibkgabGreat
set_option linter.unusedVariables false
open Go.RowKit Go.Shelf Go.Sort Go.Lib
def p17 : List (List Int) := [[], [0], [1], [1], [3]]
theorem p17_ck : ckE p17 = 0 := by decide +kernel
theorem n17a : nsE p17 5 ([2] ++ []) = 0 := by decide +kernel
theorem n17b : nsE p17 5 ([2] ++ [1, 4]) = 0 := by decide +kernel
theorem n17c : nsE p17 5 ([2] ++ [4]) = 0 := by decide +kernel
theorem a17a {x : Int} (h : RchP p17 ([2] ++ []) x) : x ∈ [(0 : Int), 1, 2] := by
  obtain ⟨A, hA⟩ := abv_ex (P := p17) (G := [2] ++ []) (outs_no (cl_zero (ck_zero p17_ck)).1) (by decide +kernel)
  have e := abv_of hA (B := [0, 1, 2]) (by decide) (by decide) (by decide) (fun x hx => by
    simp only [List.mem_cons, List.not_mem_nil, or_false] at hx
    rcases hx with e | e | e
    · subst e; exact ⟨2, by simp, 2, 1, by decide, 0, by decide, rfl⟩
    · subst e; exact ⟨2, by simp, 1, 1, by decide, rfl⟩
    · subst e; exact ⟨2, by simp, 0, rfl⟩)
  rw [← e]; exact (hA.2 x).2 h
theorem r17a {x : Int} (hx : x ∈ [(0 : Int), 1, 2]) : RchP p17 ([2] ++ []) x := by
  simp only [List.mem_cons, List.not_mem_nil, or_false] at hx
  rcases hx with e | e | e
  · subst e; exact ⟨2, by simp, 2, 1, by decide, 0, by decide, rfl⟩
  · subst e; exact ⟨2, by simp, 1, 1, by decide, rfl⟩
  · subst e; exact ⟨2, by simp, 0, rfl⟩
theorem r17c {x : Int} (hx : x ∈ [(0 : Int), 1, 2, 3, 4]) : RchP p17 ([2] ++ [4]) x := by
  simp only [List.mem_cons, List.not_mem_nil, or_false] at hx
  rcases hx with e | e | e | e | e
  · subst e; exact ⟨2, by simp, 2, 1, by decide, 0, by decide, rfl⟩
  · subst e; exact ⟨2, by simp, 1, 1, by decide, rfl⟩
  · subst e; exact ⟨2, by simp, 0, rfl⟩
  · subst e; exact ⟨4, by simp, 1, 3, by decide, rfl⟩
  · subst e; exact ⟨4, by simp, 0, rfl⟩
/-- What is above 1 and 4, the new points too. -/
theorem w17 {A : List Int} (h : AbvP (wiP p17) [1, 4] A) : A = [0, 1, 3, 4, 5, 6, 8, 9] := abv_of h (by decide) (by decide) (by decide) (fun x hx => by
  simp only [List.mem_cons, List.not_mem_nil, or_false] at hx
  rcases hx with e | e | e | e | e | e | e | e
  · subst e; exact ⟨1, by simp, 1, 0, by decide, rfl⟩
  · subst e; exact ⟨1, by simp, 0, rfl⟩
  · subst e; exact ⟨4, by simp, 1, 3, by decide, rfl⟩
  · subst e; exact ⟨4, by simp, 0, rfl⟩
  · subst e; exact ⟨1, by simp, 2, 0, by decide, 5, by decide, rfl⟩
  · subst e; exact ⟨1, by simp, 1, 6, by decide, rfl⟩
  · subst e; exact ⟨4, by simp, 2, 3, by decide, 8, by decide, rfl⟩
  · subst e; exact ⟨4, by simp, 1, 9, by decide, rfl⟩)
theorem e17 : endsL (wkL (wiP p17) 10 [2] [1, 4] [0, 1, 3, 4, 5, 6, 8, 9]) [1, 4] = [2, 7] := by decide +kernel
theorem t17 (k : Nat) (hk : k < 5) : TabM p17 [2] [1, 4] (k : Int) ↔ k = 2 := by
  obtain ⟨A, hA⟩ := abv_ex (P := wiP p17) (G := [1, 4]) (outs_no (cl_zero (ck_zero ((wi_ext p17_ck).ck p17_ck))).1) (by decide +kernel)
  have h := wi_told (a := [2]) p17_ck (by decide +kernel) (by decide +kernel) hA (k := k) (by exact hk)
  rw [← h, w17 hA]
  show ((5 + k : Nat) : Int) ∈ endsL (wkL (wiP p17) 10 [2] [1, 4] [0, 1, 3, 4, 5, 6, 8, 9]) [1, 4] ↔ _
  rw [e17]
  simp only [List.mem_cons, List.not_mem_nil, or_false]
  omega
theorem k17 {Q : Int → Prop} {L M : List Int} (h : Rise L ∧ ∀ x, x ∈ L ↔ Q x) (hM : M.Pairwise (· < ·)) (hq : ∀ x, Q x ↔ x ∈ M) : L = M := rise_ext h.1 hM fun x => (h.2 x).trans (hq x)
theorem q17a (x : Int) : BaP p17 5 [2] [] x ↔ x ∈ [(3 : Int), 4] := by
  unfold BaP
  constructor
  · rintro ⟨k, rfl, hk, hn⟩
    have h2 : (k : Int) ∉ [(0 : Int), 1, 2] := fun h => hn (r17a h)
    simp only [List.mem_cons, List.not_mem_nil, or_false] at h2 ⊢
    omega
  · intro h
    refine ⟨x.toNat, ?_, ?_, fun h2 => ?_⟩
    · simp only [List.mem_cons, List.not_mem_nil, or_false] at h; omega
    · simp only [List.mem_cons, List.not_mem_nil, or_false] at h; omega
    · have h3 := a17a h2
      simp only [List.mem_cons, List.not_mem_nil, or_false] at h h3
      omega
theorem q17b (x : Int) : KpP p17 5 [2] [1, 4] false true x ↔ x ∈ [(2 : Int)] := by
  unfold KpP
  constructor
  · rintro ⟨k, rfl, hk, -, ht⟩
    have := (t17 k hk).1 (ht rfl)
    simp only [List.mem_cons, List.not_mem_nil, or_false]
    omega
  · intro h
    have e : x = ((2 : Nat) : Int) := by simpa using h
    subst e
    exact ⟨2, rfl, by omega, fun h => by simp at h, fun _ => (t17 2 (by omega)).2 rfl⟩
theorem q17c (x : Int) : KpP p17 5 [2] [4] true false x ↔ x ∈ [(0 : Int), 1, 2, 3, 4] := by
  unfold KpP
  constructor
  · rintro ⟨k, rfl, hk, -, -⟩
    simp only [List.mem_cons, List.not_mem_nil, or_false]
    omega
  · intro h
    refine ⟨x.toNat, ?_, ?_, fun _ => r17c h, fun h => by simp at h⟩
    · simp only [List.mem_cons, List.not_mem_nil, or_false] at h; omega
    · simp only [List.mem_cons, List.not_mem_nil, or_false] at h; omega
theorem bar17 (pv av : Value) (pvs : List Value) (w : World) (h : RRD w pv pvs p17) (ha : RG (Value.int .i64) w av [2]) :
    Calls Tryz.prog 9 #[pv, av, .slice none 0 0] w fun e w' => ∃ ao n c, e = .returned (.tuple #[.slice ao n c, .int .i64 0]) ∧ RG (Value.int .i64) w' (.slice ao n c) [3, 4] ∧ Below w.heap.size w w' :=
  (barrenS pv av (.slice none 0 0) pvs p17 [2] [] w h 5 rfl (by omega) (fun i => by
    match i with
    | 0 | 1 | 2 | 3 | 4 => decide
    | i + 5 => simp [p17]) ha (by simp) (RG.nil _) (by simp)).mono fun e w' ⟨⟨ao, k, c, L, he, ho, _, hok⟩, hb⟩ => by
    rw [n17a] at he
    have e := k17 (hok n17a) (M := [3, 4]) (by decide) q17a
    subst e
    exact ⟨ao, k, c, he, ho.rg, hb⟩
theorem kep17b (pv av qv : Value) (pvs : List Value) (w : World) (h : RRD w pv pvs p17) (ha : RG (Value.int .i64) w av [2]) (hq : RG (Value.int .i64) w qv [1, 4]) :
    Calls Tryz.prog 12 #[pv, av, qv, .bool false, .bool true] w fun e w' => ∃ ao n c, e = .returned (.tuple #[.slice ao n c, .int .i64 0]) ∧ RG (Value.int .i64) w' (.slice ao n c) [2] ∧ Below w.heap.size w w' :=
  (keptS pv av qv false true pvs p17 [2] [1, 4] w h 5 rfl (by omega) (fun i => by
    match i with
    | 0 | 1 | 2 | 3 | 4 => decide
    | i + 5 => simp [p17]) ha (by simp) hq (by simp)).mono fun e w' ⟨⟨ao, k, c, L, he, ho, _, hok⟩, hb⟩ => by
    rw [n17b] at he
    have e := k17 (hok n17b) (M := [2]) (by decide) q17b
    subst e
    exact ⟨ao, k, c, he, ho.rg, hb⟩
theorem kep17c (pv av qv : Value) (pvs : List Value) (w : World) (h : RRD w pv pvs p17) (ha : RG (Value.int .i64) w av [2]) (hq : RG (Value.int .i64) w qv [4]) :
    Calls Tryz.prog 12 #[pv, av, qv, .bool true, .bool false] w fun e w' => ∃ ao n c, e = .returned (.tuple #[.slice ao n c, .int .i64 0]) ∧ RG (Value.int .i64) w' (.slice ao n c) [0, 1, 2, 3, 4] ∧ Below w.heap.size w w' :=
  (keptS pv av qv true false pvs p17 [2] [4] w h 5 rfl (by omega) (fun i => by
    match i with
    | 0 | 1 | 2 | 3 | 4 => decide
    | i + 5 => simp [p17]) ha (by simp) hq (by simp)).mono fun e w' ⟨⟨ao, k, c, L, he, ho, _, hok⟩, hb⟩ => by
    rw [n17c] at he
    have e := k17 (hok n17c) (M := [0, 1, 2, 3, 4]) (by decide) q17c
    subst e
    exact ⟨ao, k, c, he, ho.rg, hb⟩
theorem same17 (u v : Value) (xs : List Int) (w : World) (hu : RG (Value.int .i64) w u xs) (hv : RG (Value.int .i64) w v xs) : Calls Tryz.prog 18 #[u, v] w fun e w' => e = .returned (.bool true) ∧ Below w.heap.size w w' :=
  (sameD u v xs xs w hu hv).mono fun e w' ⟨he, q, hq⟩ => ⟨he.trans (by rw [decide_eq_true rfl]), by rw [hq]; exact below_drewN (Below.refl _ _) q⟩
end Go.Proofs.YtcoiapgfaibkgabGreat

namespace Go.Proofs.YtcoiapgfaibkgabGreat
set_option linter.unusedVariables false
open Go.RowKit Go.Shelf Go.Sort Go.Lib
theorem par17 (w : World) : ∃ W pvs, W = (((((w.alloc (.cells #[] 3)).alloc (.cells #[.int .i64 0] 3)).alloc (.cells #[.int .i64 1] 3)).alloc (.cells #[.int .i64 1] 3)).alloc (.cells #[.int .i64 3] 3)).alloc (.cells #[.slice (some ⟨w.heap.size, 0, none⟩) 0 0, .slice (some ⟨w.heap.size + 1, 0, none⟩) 1 1, .slice (some ⟨w.heap.size + 1 + 1, 0, none⟩) 1 1, .slice (some ⟨w.heap.size + 1 + 1 + 1, 0, none⟩) 1 1, .slice (some ⟨w.heap.size + 1 + 1 + 1 + 1, 0, none⟩) 1 1] 23) ∧ RRD W (.slice (some ⟨w.heap.size + 1 + 1 + 1 + 1 + 1, 0, none⟩) 5 5) pvs p17 ∧ Below w.heap.size w W := by
  obtain ⟨W3, h3, r1, r2, r3, b3⟩ := lit3 w [] [0] [1] (by decide) (by decide) (by decide)
  obtain ⟨W4, h4, r4, r5, b4⟩ := lit2 W3 [1] [3] (by decide) (by decide)
  have s3 : W3.heap.size = w.heap.size + 1 + 1 + 1 := by rw [h3]; simp
  rw [s3] at r4 r5
  have s4 : W4.heap.size = w.heap.size + 1 + 1 + 1 + 1 + 1 := by rw [h4]; simp [s3]
  have ho := OG.lit (enc := id) 23 W4 [Value.slice (some ⟨w.heap.size, 0, none⟩) 0 0, .slice (some ⟨w.heap.size + 1, 0, none⟩) 1 1, .slice (some ⟨w.heap.size + 1 + 1, 0, none⟩) 1 1, .slice (some ⟨w.heap.size + 1 + 1 + 1, 0, none⟩) 1 1, .slice (some ⟨w.heap.size + 1 + 1 + 1 + 1, 0, none⟩) 1 1] (by simp [maxLen])
  rw [s4] at ho
  have b5 := belowB W4 (.cells #[.slice (some ⟨w.heap.size, 0, none⟩) 0 0, .slice (some ⟨w.heap.size + 1, 0, none⟩) 1 1, .slice (some ⟨w.heap.size + 1 + 1, 0, none⟩) 1 1, .slice (some ⟨w.heap.size + 1 + 1 + 1, 0, none⟩) 1 1, .slice (some ⟨w.heap.size + 1 + 1 + 1 + 1, 0, none⟩) 1 1] 23)
  refine ⟨_, [Value.slice (some ⟨w.heap.size, 0, none⟩) 0 0, .slice (some ⟨w.heap.size + 1, 0, none⟩) 1 1, .slice (some ⟨w.heap.size + 1 + 1, 0, none⟩) 1 1, .slice (some ⟨w.heap.size + 1 + 1 + 1, 0, none⟩) 1 1, .slice (some ⟨w.heap.size + 1 + 1 + 1 + 1, 0, none⟩) 1 1], ?_, ⟨ho.rg, rfl, fun i x hx => ?_⟩, bstepB (bstepB b3 b4) b5⟩
  · rw [h4, h3]; rfl
  · match i, hx with
    | 0, hx => simp at hx; subst hx; exact (r1.below (Nat.le_refl _) b4).below (Nat.le_refl _) b5
    | 1, hx => simp at hx; subst hx; exact (r2.below (Nat.le_refl _) b4).below (Nat.le_refl _) b5
    | 2, hx => simp at hx; subst hx; exact (r3.below (Nat.le_refl _) b4).below (Nat.le_refl _) b5
    | 3, hx => simp at hx; subst hx; exact r4.below (Nat.le_refl _) b5
    | 4, hx => simp at hx; subst hx; exact r5.below (Nat.le_refl _) b5
set_option maxRecDepth 1000000 in
set_option maxHeartbeats 12800000 in
theorem alive17 (w : World) : Calls Tryz.prog 8 #[] w fun e w' => e = .returned (.bool true) ∧ Below w.heap.size w w' := by
  obtain ⟨W1, pvs, hW1, hr1, b1⟩ := par17 w
  have HR : Hid (∀ W, Below W1.heap.size W1 W → RRD W (.slice (some ⟨w.heap.size + 1 + 1 + 1 + 1 + 1, 0, none⟩) 5 5) pvs p17) := fun W hW => hr1.below (Nat.le_refl _) hW
  have HB1 : Hid (Below w.heap.size w W1) := b1
  have HW1 : Hid (W1 = (((((w.alloc (.cells #[] 3)).alloc (.cells #[.int .i64 0] 3)).alloc (.cells #[.int .i64 1] 3)).alloc (.cells #[.int .i64 1] 3)).alloc (.cells #[.int .i64 3] 3)).alloc (.cells #[.slice (some ⟨w.heap.size, 0, none⟩) 0 0, .slice (some ⟨w.heap.size + 1, 0, none⟩) 1 1, .slice (some ⟨w.heap.size + 1 + 1, 0, none⟩) 1 1, .slice (some ⟨w.heap.size + 1 + 1 + 1, 0, none⟩) 1 1, .slice (some ⟨w.heap.size + 1 + 1 + 1 + 1, 0, none⟩) 1 1] 23)) := hW1
  obtain ⟨gp, hgp⟩ : ∃ g, g = w.heap.size + 1 + 1 + 1 + 1 + 1 := ⟨_, rfl⟩
  rw [← hgp] at HR
  have HGP : Hid (gp = w.heap.size + 1 + 1 + 1 + 1 + 1) := hgp
  clear hW1 hr1 b1 hgp
  go_enter Tryz.func8, Tryz.ntmps8
  go_upto_region 2 with fail
  rw [← HGP.out, ← HW1.out]
  clear HGP HW1
  obtain ⟨V1, hV1, ra1, c1⟩ := lit1 W1 [2] (by decide)
  have C1 : Hid _ := bar17 (.slice (some ⟨gp, 0, none⟩) 5 5) _ pvs V1 (HR.out V1 c1) ra1
  have HV1 : Hid (V1 = W1.alloc (.cells #[.int .i64 2] 3)) := hV1
  have HC1 : Hid (Below W1.heap.size W1 V1) := c1
  clear hV1 ra1 c1
  go_wp2_with fail
  rw [← HV1.out]
  refine Calls.mono C1.out ?_
  rintro e y1 ⟨o1, n1, k1, rfl, ho1, by1⟩
  have HO1 : Hid (RG (Value.int .i64) y1 (.slice o1 n1 k1) [3, 4]) := ho1
  have HY1 : Hid (Below W1.heap.size W1 y1) := bstepB HC1.out by1
  obtain ⟨V2, hV2, ra2, rb2, c2⟩ := lit2 y1 [2] [1, 4] (by decide) (by decide)
  have C2 : Hid _ := kep17b (.slice (some ⟨gp, 0, none⟩) 5 5) _ _ pvs V2 (HR.out V2 (bstepB HY1.out c2)) ra2 rb2
  have HV2 : Hid (V2 = (y1.alloc (.cells #[.int .i64 2] 3)).alloc (.cells #[.int .i64 1, .int .i64 4] 3)) := hV2
  have HC2 : Hid (Below y1.heap.size y1 V2) := c2
  clear C1 HV1 HC1 ho1 by1 hV2 ra2 rb2 c2
  go_wp2_with fail
  rw [← HV2.out]
  refine Calls.mono C2.out ?_
  rintro e y2 ⟨o2, n2, k2, rfl, ho2, by2⟩
  have HO2 : Hid (RG (Value.int .i64) y2 (.slice o2 n2 k2) [2]) := ho2
  have HY2 : Hid (Below y1.heap.size y1 y2) := bstepB HC2.out by2
  obtain ⟨V3, hV3, ra3, rb3, c3⟩ := lit2 y2 [2] [4] (by decide) (by decide)
  have C3 : Hid _ := kep17c (.slice (some ⟨gp, 0, none⟩) 5 5) _ _ pvs V3 (HR.out V3 (bstepB (bstepB HY1.out HY2.out) c3)) ra3 rb3
  have HV3 : Hid (V3 = (y2.alloc (.cells #[.int .i64 2] 3)).alloc (.cells #[.int .i64 4] 3)) := hV3
  have HC3 : Hid (Below y2.heap.size y2 V3) := c3
  clear C2 HV2 HC2 ho2 by2 hV3 ra3 rb3 c3
  go_wp2_with fail
  rw [← HV3.out]
  refine Calls.mono C3.out ?_
  rintro e y3 ⟨o3, n3, k3, rfl, ho3, by3⟩
  have HO3 : Hid (RG (Value.int .i64) y3 (.slice o3 n3 k3) [0, 1, 2, 3, 4]) := ho3
  have HY3 : Hid (Below y2.heap.size y2 y3) := bstepB HC3.out by3
  have HB3 : Hid (Below w.heap.size w y3) := bstepB HB1.out (bstepB (bstepB HY1.out HY2.out) HY3.out)
  obtain ⟨V4, hV4, ra4, c4⟩ := lit1 y3 [3, 4] (by decide)
  have C4 : Hid _ := same17 _ _ _ V4 (HO1.out.below (Nat.le_refl _) (bstepB (bstepB HY2.out HY3.out) c4)) ra4
  have HV4 : Hid (V4 = y3.alloc (.cells #[.int .i64 3, .int .i64 4] 3)) := hV4
  have HC4 : Hid (Below y3.heap.size y3 V4) := c4
  clear C3 HV3 HC3 ho3 by3 hV4 ra4 c4 HB1
  go_wp2_with fail
  rw [← HV4.out]
  refine Calls.mono C4.out ?_
  rintro e y4 ⟨rfl, by4⟩
  have HY4 : Hid (Below y3.heap.size y3 y4) := bstepB HC4.out by4
  obtain ⟨V5, hV5, ra5, c5⟩ := lit1 y4 [2] (by decide)
  have C5 : Hid _ := same17 _ _ _ V5 (HO2.out.below (Nat.le_refl _) (bstepB (bstepB HY3.out HY4.out) c5)) ra5
  have HV5 : Hid (V5 = y4.alloc (.cells #[.int .i64 2] 3)) := hV5
  have HC5 : Hid (Below y4.heap.size y4 V5) := c5
  clear C4 HV4 HC4 by4 hV5 ra5 c5
  go_wp2_with fail
  rw [← HV5.out]
  refine Calls.mono C5.out ?_
  rintro e y5 ⟨rfl, by5⟩
  have HY5 : Hid (Below y3.heap.size y3 y5) := bstepB HY4.out (bstepB HC5.out by5)
  obtain ⟨V6, hV6, ra6, c6⟩ := lit1 y5 [0, 1, 2, 3, 4] (by decide)
  have C6 : Hid _ := same17 _ _ _ V6 (HO3.out.below (Nat.le_refl _) (bstepB HY5.out c6)) ra6
  have HV6 : Hid (V6 = y5.alloc (.cells #[.int .i64 0, .int .i64 1, .int .i64 2, .int .i64 3, .int .i64 4] 3)) := hV6
  have HC6 : Hid (Below y5.heap.size y5 V6) := c6
  clear C5 HV5 HC5 by5 hV6 ra6 c6
  go_wp2_with fail
  rw [← HV6.out]
  refine Calls.mono C6.out ?_
  rintro e y6 ⟨rfl, by6⟩
  have HY6 : Hid (Below w.heap.size w y6) := bstepB HB3.out (bstepB HY5.out (bstepB HC6.out by6))
  clear C6 HV6 HC6 by6
  go_wp2
  go_ret
  exact ⟨rfl, HY6.out⟩
end Go.Proofs.YtcoiapgfaibkgabGreat

namespace Go.Proofs.YtcoiapgfaibkgabGreat
set_option linter.unusedVariables false
open Go.RowKit
/-- What many answers. -/
def manyC (P : List (List Int)) : Bool := decide (14 < P.length) || decide (90 < smL P P.length)
set_option maxRecDepth 100000 in
set_option maxHeartbeats 1600000 in
theorem many17 (pv : Value) (pvs : List Value) (P : List (List Int)) (w : World) (h : RRD w pv pvs P) (hbl : ∀ i, (P.getD i []).length ≤ 1048576) :
    Calls Tryz.prog 6 #[pv] w fun e w' => e = .returned (.bool (manyC P)) ∧ w' = w := by
  obtain ⟨po, pn, pc, rfl⟩ : ∃ o n c, pv = .slice o n c := by obtain ⟨ao, cap, e⟩ := h.out.sl; exact ⟨_, _, _, e⟩
  have hn : P.length = pn := by rw [← h.len, h.out.len]
  have hpm : pn ≤ 9223372036854775807 := by have := h.out.room.2.1; have := h.out.room.1; unfold maxLen at *; omega
  have HR : Hid (RRD w (.slice po pn pc) pvs P) := h
  have HN : Hid (P.length = pn) := hn
  have HBL : Hid (∀ i, (P.getD i []).length ≤ 1048576) := hbl
  clear h hn hbl
  go_enter Tryz.func6, Tryz.ntmps6
  go_wp2
  go_loopg [3, 4] 15 (fun g1 v3 v4 wr => ∃ i s : Nat, v3 = .int .i64 s ∧ v4 = .int .i64 i ∧ i ≤ pn ∧ i ≤ 15 ∧ 15 - i ≤ g1 ∧ Hid (smL P i = s) ∧ wr = w)
  case atStart => exact ⟨0, 0, rfl, rfl, by omega, by omega, by omega, rfl, rfl⟩
  case round =>
    obtain ⟨i, s, rfl, rfl, hin, hi2, hg1, HS, rfl⟩ := hrel
    have hsb : s ≤ 15728640 := by have := smL_le HBL.out i; rw [HS.out] at this; omega
    by_cases hlt : i < pn
    · have hltz : (i : Int) < (pn : Int) := by omega
      by_cases hl2 : i ≤ 14
      · have hl2z : (i : Int) ≤ 14 := by omega
        obtain ⟨x, gp, op, hx1, rfl, hx2⟩ := HR.out.out.at hlt
        have hxr := HR.out.inn i x hx1
        obtain ⟨xo, xn, xc, rfl⟩ : ∃ o n c, x = .slice o n c := by obtain ⟨ao, cap, e⟩ := hxr.sl; exact ⟨_, _, _, e⟩
        have hxl : (P.getD i []).length = xn := hxr.len
        have hxb : xn ≤ 1048576 := by rw [← hxl]; exact HBL.out i
        change wr.cell? ⟨gp, op + i, none⟩ = some (.slice xo xn xc) at hx2
        have HS2 : Hid (smL P (i + 1) = s + xn) := by show _ = _; simp only [smL]; rw [HS.out, hxl]
        have hws : IntKind.i64.wrap ((s : Int) + (xn : Int)) = (s : Int) + (xn : Int) := by rw [IntKind.wrap_i64]; omega
        clear hxl hxr hx1 HS
        go_wp2
        clear hx2
        go_roundg (15 - (i + 1))
        case measure => omega
        case rel => exact ⟨i + 1, s + xn, by first | rfl | go_num, by first | rfl | go_num, by omega, by omega, Nat.le_refl _, HS2, rfl⟩
      · have hl2z : ¬ (i : Int) ≤ 14 := by omega
        have hbig : (14 : Int) < (pn : Int) := by omega
        have hbig2 : (pn : Int) > 14 := by omega
        have HE : Hid (manyC P = true) := by show _ = _; unfold manyC; rw [HN.out, decide_eq_true (show 14 < pn by omega)]; rfl
        clear HS
        go_wp2
        go_ret
        exact ⟨by rw [HE.out]; rfl, rfl⟩
    · have hltz : ¬ (i : Int) < (pn : Int) := by omega
      obtain rfl : i = pn := by omega
      by_cases hb2 : 14 < i
      · have hbig : (14 : Int) < (i : Int) := by omega
        have hbig2 : (i : Int) > 14 := by omega
        have HE : Hid (manyC P = true) := by show _ = _; unfold manyC; rw [HN.out, decide_eq_true hb2]; rfl
        clear HS
        go_wp2
        go_ret
        exact ⟨by rw [HE.out]; rfl, rfl⟩
      · have hbig : ¬ (14 : Int) < (i : Int) := by omega
        have HE : Hid (manyC P = decide ((90 : Int) < (s : Int))) := by
          show _ = _
          unfold manyC
          rw [HN.out, decide_eq_false hb2, HS.out, Bool.false_or]
          exact decide_eq_decide.2 (by omega)
        clear HS
        go_wp2
        go_ret
        exact ⟨by rw [HE.out]; rfl, rfl⟩
theorem many17_no {P : List (List Int)} (h : manyC P = false) : P.length ≤ 14 ∧ smL P P.length ≤ 90 := by
  unfold manyC at h
  rw [Bool.or_eq_false_iff] at h
  have h1 := of_decide_eq_false h.1
  have h2 := of_decide_eq_false h.2
  omega
end Go.Proofs.YtcoiapgfaibkgabGreat

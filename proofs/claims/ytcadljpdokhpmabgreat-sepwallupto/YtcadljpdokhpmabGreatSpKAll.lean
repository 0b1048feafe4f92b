/-
  Proved here: package sep's Reach and Apart.
  Proved here: plain mathematics of what open trails lead to: what a search by breadth reaches is what steps lead to; it is the same either way round, and point by point.
-/
import Derived.Test.YtcadljpdokhpmabGreatSpV
namespace Go.Proofs.YtcadljpdokhpmabGreat
set_option linter.unusedVariables false
open Go.RowKit Go.Shelf Go.Sort Go.Lib
theorem KeyP.bfs {n : Nat} {nx : Stp → List Stp} (hnx : ∀ s t, t ∈ nx s → ∃ p : Nat, t.1 = (p : Int) ∧ p < n) : ∀ (f k : Nat) (L : List (Stp × Stp)), KeyP n L → KeyP n (bfsP nx f k L)
  | 0, _, _, h => h
  | f + 1, k, L, h => by
    rw [bfsP]
    split
    · exact h
    · exact KeyP.bfs hnx f (k + 1) _ (h.fold _ _ (hnx _))
theorem wk_parts {P : List (List Int)} {n : Nat} {a G : List Int} (h : wkE P n a G = 0) : ckE P = 0 ∧ noPts (n : Int) G = false ∧ noPts (n : Int) a = false := by
  unfold wkE at h
  by_cases h1 : nsE P n G = 0
  · rw [if_neg (by rw [h1]; decide)] at h
    have h3 : noPts (n : Int) a = false := by
      cases h2 : noPts (n : Int) a with
      | false => rfl
      | true => rw [h2] at h; simp at h
    unfold nsE at h1
    by_cases h4 : ckE P = 0
    · rw [if_neg (by rw [h4]; decide)] at h1
      have h5 : noPts (n : Int) G = false := by
        cases h2 : noPts (n : Int) G with
        | false => rfl
        | true => rw [h2] at h1; simp at h1
      exact ⟨h4, h5, h3⟩
    · rw [if_pos h4] at h1; exact absurd h1 h4
  · rw [if_pos h1] at h; exact absurd h h1
theorem wkL_key {P : List (List Int)} {n : Nat} {a G : List Int} (A : List Int) (hn : P.length = n) (h : wkE P n a G = 0) : KeyP n (wkL P n a G A) := by
  obtain ⟨h1, h2, h3⟩ := wk_parts h
  have hz := outs_no (cl_zero (ck_zero h1)).1
  have hP : ∀ (i : Nat) (x : Int), x ∈ P.getD i [] → ∃ p : Nat, x = (p : Int) ∧ p < n := fun i x hx => by have := hz i x hx; rw [hn] at this; exact this
  exact KeyP.bfs (fun s t ht => rawS_pt hP ht) _ _ _ (KeyP.start a (KeyP.nil n) (noPts_pt h3))
set_option maxRecDepth 1000000 in
set_option maxHeartbeats 6400000 in
theorem reachP (pv av qv : Value) (pvs : List Value) (P : List (List Int)) (a G : List Int) (w : World) (h : RRD w pv pvs P) (n : Nat) (hn : P.length = n) (hb : n ≤ 50000) (ha : RG (Value.int .i64) w av a) (hal : a.length ≤ 1048576) (hq : RG (Value.int .i64) w qv G) (hql : G.length ≤ 1048576)
    (hdis : nsE P n G = 0 → ∀ A s, (rawS P n G A s).Pairwise (fun a b => a.1 ≠ b.1)) :
    Calls Tryz.prog 10 #[pv, av, qv] w fun e w' => ∃ v, e = .returned (.tuple #[v, .int .i64 (wkE P n a G)]) ∧ (wkE P n a G ≠ 0 → v = .slice none 0 0) ∧ (wkE P n a G = 0 → ∃ A, AbvP P G A ∧ OG (Value.int .i64) w.heap.size 3 w' v (endsL (wkL P n a G A) G)) ∧ Below w.heap.size w w' := by
  have CW : Hid _ := walkFromS pv av qv pvs P a G w h n hn (by omega) ha hal hq hql hdis
  obtain ⟨po, pn, pc, rfl⟩ : ∃ o n c, pv = .slice o n c := by obtain ⟨ao, cap, e⟩ := h.out.sl; exact ⟨_, _, _, e⟩
  obtain ⟨qo, qn, qc, rfl⟩ : ∃ o n c, qv = .slice o n c := by obtain ⟨ao, cap, e⟩ := hq.sl; exact ⟨_, _, _, e⟩
  obtain ⟨ao, an, ac, rfl⟩ : ∃ o n c, av = .slice o n c := by obtain ⟨ao, cap, e⟩ := ha.sl; exact ⟨_, _, _, e⟩
  have HN : Hid (P.length = n) := hn
  clear h ha hq hdis hn
  go_enter Tryz.func10, Tryz.ntmps10
  go_wp2_with fail
  refine Calls.mono CW.out ?_
  rintro e y ⟨wv, rfl, hwk, hy⟩
  have HY : Hid (Below w.heap.size w y) := hy
  clear CW hy
  by_cases h0 : wkE P n a G = 0
  · obtain ⟨rb, gm, gv, ov, A, rfl, hw, hs, hab⟩ := hwk h0
    have hky := wkL_key A HN.out h0
    have CE : Hid _ := endsS _ _ y rb gm gv ov _ G hw hs (Nat.le_trans hky.len (by omega))
    have HAB : Hid (AbvP P G A) := hab
    have HE : Hid (wkE P n a G = 0) := h0
    rw [h0]
    clear hwk hw hs hab hky h0
    go_wp2_with fail
    refine Calls.mono CE.out ?_
    rintro e y2 ⟨mo, mn, mc, rfl, hm, by2⟩
    have HY2 : Hid (Below w.heap.size w y2) := bstepB HY.out by2
    have CL : Hid _ := siList hm (Nat.le_refl _)
    clear CE hm by2
    go_wp2_with fail
    refine Calls.mono CL.out ?_
    rintro e y3 ⟨u, rfl, hu, by3⟩
    have HU : Hid (OG (Value.int .i64) w.heap.size 3 y3 u (endsL (wkL P n a G A) G)) := hu.mono HY2.out.size
    have HY3 : Hid (Below w.heap.size w y3) := bstepB HY2.out by3
    clear CL hu by3
    go_wp2
    go_ret2
    exact ⟨_, by rw [HE.out]; rfl, fun h => absurd HE.out h, fun _ => ⟨A, HAB.out, HU.out⟩, HY3.out⟩
  · obtain ⟨c, hc⟩ : ∃ c, c = wkE P n a G := ⟨_, rfl⟩
    rw [← hc] at h0 ⊢
    have HC : Hid (c = wkE P n a G) := hc
    have H0 : Hid (c ≠ 0) := h0
    have hcz : (c != (0 : Int)) = true := by simpa using h0
    clear hc hwk h0
    go_wp2
    go_ret2
    exact ⟨_, by rw [← HC.out]; rfl, fun _ => rfl, fun h => absurd (by rw [HC.out]; exact h) H0.out, HY.out⟩
def apE (P : List (List Int)) (n : Nat) (a b G : List Int) : Int := if wkE P n a G ≠ 0 then wkE P n a G else if noPts (n : Int) b = true then 3 else 0
set_option maxRecDepth 1000000 in
set_option maxHeartbeats 6400000 in
theorem apartP (pv av bv qv : Value) (pvs : List Value) (P : List (List Int)) (a b G : List Int) (w : World) (h : RRD w pv pvs P) (n : Nat) (hn : P.length = n) (hb : n ≤ 50000) (ha : RG (Value.int .i64) w av a) (hal : a.length ≤ 1048576) (hbv : RG (Value.int .i64) w bv b) (hbl : b.length ≤ 1048576) (hq : RG (Value.int .i64) w qv G) (hql : G.length ≤ 1048576)
    (hdis : nsE P n G = 0 → ∀ A s, (rawS P n G A s).Pairwise (fun a b => a.1 ≠ b.1)) :
    Calls Tryz.prog 9 #[pv, av, bv, qv] w fun e w' => ∃ r : Bool, e = .returned (.tuple #[.bool r, .int .i64 (apE P n a b G)]) ∧ (apE P n a b G ≠ 0 → r = false) ∧ (apE P n a b G = 0 → ∃ A, AbvP P G A ∧ r = decide ((meetR (endsL (wkL P n a G A) G) (ofR b)).length = 0)) ∧ Below w.heap.size w w' := by
  have CW : Hid _ := walkFromS pv av qv pvs P a G w h n hn (by omega) ha hal hq hql hdis
  obtain ⟨po, pn, pc, rfl⟩ : ∃ o n c, pv = .slice o n c := by obtain ⟨ao, cap, e⟩ := h.out.sl; exact ⟨_, _, _, e⟩
  obtain rfl : pn = n := by rw [← hn, ← h.len, h.out.len]
  obtain ⟨qo, qn, qc, rfl⟩ : ∃ o n c, qv = .slice o n c := by obtain ⟨ao, cap, e⟩ := hq.sl; exact ⟨_, _, _, e⟩
  obtain ⟨ao, an, ac, rfl⟩ : ∃ o n c, av = .slice o n c := by obtain ⟨ao, cap, e⟩ := ha.sl; exact ⟨_, _, _, e⟩
  obtain ⟨bo, bn, bc, rfl⟩ : ∃ o n c, bv = .slice o n c := by obtain ⟨ao, cap, e⟩ := hbv.sl; exact ⟨_, _, _, e⟩
  have HN : Hid (P.length = pn) := hn
  have HBV : Hid (RG (Value.int .i64) w (.slice bo bn bc) b) := hbv
  clear h ha hq hdis hn hbv
  go_enter Tryz.func9, Tryz.ntmps9
  go_wp2_with fail
  refine Calls.mono CW.out ?_
  rintro e y ⟨wv, rfl, hwk, hy⟩
  have HY : Hid (Below w.heap.size w y) := hy
  clear CW hy
  by_cases h0 : wkE P pn a G = 0
  · obtain ⟨rb, gm, gv, ov, A, rfl, hw, hs, hab⟩ := hwk h0
    have hky := wkL_key A HN.out h0
    have CA : Hid _ := arePointsS po pn pc (.slice bo bn bc) b y (HBV.out.below (Nat.le_refl _) HY.out)
    have HEN : Hid (∀ W, Below y.heap.size y W → Calls Tryz.prog 19 #[.pointer (some ⟨rb, 0, none⟩)] W fun e w' => SE W (endsL (wkL P pn a G A) G) 100000 e w') := fun W hW => endsS _ _ W rb gm gv ov _ G (hw.below HY.out.size hW) (hs.below hW) (Nat.le_trans hky.len (by omega))
    have HAB : Hid (AbvP P G A) := hab
    have HE : Hid (wkE P pn a G = 0) := h0
    rw [h0]
    clear hwk hw hs hab hky h0
    go_wp2_with fail
    refine Calls.mono CA.out ?_
    rintro e y1 ⟨rfl, by1⟩
    have HY1 : Hid (Below y.heap.size y y1) := by1
    clear CA by1
    cases hnb : noPts (pn : Int) b with
    | true =>
      have HAE : Hid (apE P pn a b G = 3) := by show _ = _; unfold apE; rw [if_neg (by rw [HE.out]; decide), if_pos hnb]
      clear hnb
      go_wp2
      go_ret2
      exact ⟨false, by rw [HAE.out]; rfl, fun _ => rfl, fun h => by rw [HAE.out] at h; simp at h, bstepB HY.out HY1.out⟩
    | false =>
      have HAE : Hid (apE P pn a b G = 0) := by show _ = _; unfold apE; rw [if_neg (by rw [HE.out]; decide), if_neg (by rw [hnb]; decide)]
      have CE : Hid _ := HEN.out y1 HY1.out
      have HBP : Hid ((ofR b).length ≤ 100000) := Nat.le_trans (ofR_pts (noPts_pt hnb)) (by omega)
      clear hnb
      go_wp2_with fail
      refine Calls.mono CE.out ?_
      rintro e y2 ⟨mo, mn, mc, rfl, hm, by2⟩
      have HM : Hid (SI y2 (.slice mo mn mc) (endsL (wkL P pn a G A) G) 100000) := hm
      have HY2 : Hid (Below y.heap.size y y2) := bstepB HY1.out by2
      have C2 : Hid _ := siOfB (HBV.out.below (Nat.le_refl _) (bstepB HY.out HY2.out)) hbl (k := 100000) HBP.out
      clear CE hm by2
      go_wp2_with fail
      refine Calls.mono C2.out ?_
      rintro e y3 ⟨ko, kn, kc, rfl, hk, by3⟩
      have HY3 : Hid (Below y.heap.size y y3) := bstepB HY2.out by3
      have C3 : Hid _ := siMeet (HM.out.below by3) hk (Nat.le_refl _) (Nat.le_refl _)
      clear C2 hk by3
      go_wp2_with fail
      refine Calls.mono C3.out ?_
      rintro e y4 ⟨jo, jn, jc, rfl, hj, by4⟩
      have HY4 : Hid (Below y.heap.size y y4) := bstepB HY3.out by4
      obtain ⟨m, hm⟩ : ∃ m, (meetR (endsL (wkL P pn a G A) G) (ofR b)).length = m := ⟨_, rfl⟩
      have C4 : Hid _ := siLen hj m hm
      have HML : Hid ((meetR (endsL (wkL P pn a G A) G) (ofR b)).length = m) := hm
      clear C3 hj by4 hm
      go_wp2_with fail
      refine Calls.mono C4.out ?_
      rintro e y5 ⟨rfl, by5⟩
      have HY5 : Hid (Below w.heap.size w y5) := bstepB HY.out (bstepB HY4.out by5)
      have hmz : ((m : Int) == 0) = decide (m = 0) := by by_cases h : m = 0 <;> simp [h]
      clear C4 by5
      go_wp2
      go_ret2
      exact ⟨decide (m = 0), by rw [HAE.out]; first | rfl | (simp; done), fun h => absurd HAE.out h, fun _ => ⟨A, HAB.out, by rw [HML.out]⟩, HY5.out⟩
  · have HAE : Hid (apE P pn a b G = wkE P pn a G) := by show _ = _; unfold apE; rw [if_pos h0]
    obtain ⟨c, hc⟩ : ∃ c, c = wkE P pn a G := ⟨_, rfl⟩
    rw [← hc] at h0 ⊢
    have HC : Hid (c = wkE P pn a G) := hc
    have H0 : Hid (c ≠ 0) := h0
    have hcz : (c != (0 : Int)) = true := by simpa using h0
    clear hc hwk h0
    go_wp2
    go_ret2
    exact ⟨false, by rw [HAE.out, ← HC.out]; rfl, fun _ => rfl, fun h => absurd (by rw [HC.out, ← HAE.out]; exact h) H0.out, HY.out⟩
end Go.Proofs.YtcadljpdokhpmabGreat

namespace Go.Proofs.YtcadljpdokhpmabGreat
set_option linter.unusedVariables false
open Go.RowKit Go.Shelf Go.Sort Go.Lib
/-- To what steps lead from some points. -/
inductive StR (nx : Stp → List Stp) (a : List Int) : Stp → Prop
  | start {p : Int} : p ∈ a → StR nx a (p, false)
  | step {s t : Stp} : StR nx a s → t ∈ nx s → StR nx a t
theorem rchP_mem {ahead s t : Stp} {L : List (Stp × Stp)} : t ∈ (rchP ahead L s).map (·.1) ↔ t ∈ L.map (·.1) ∨ t = s := by
  unfold rchP
  split
  · rename_i h
    constructor
    · exact Or.inl
    · rintro (h1 | h1)
      · exact h1
      · rw [h1]; exact h
  · rw [List.map_append, List.mem_append]; simp
theorem fold_mem {ahead t : Stp} : ∀ (N : List Stp) {L : List (Stp × Stp)}, t ∈ (N.foldl (rchP ahead) L).map (·.1) ↔ t ∈ L.map (·.1) ∨ t ∈ N
  | [], L => by simp
  | s :: N, L => by
    rw [List.foldl_cons, fold_mem N, rchP_mem, List.mem_cons]
    constructor
    · rintro ((h | h) | h)
      · exact Or.inl h
      · exact Or.inr (Or.inl h)
      · exact Or.inr (Or.inr h)
    · rintro (h | h | h)
      · exact Or.inl (Or.inl h)
      · exact Or.inl (Or.inr h)
      · exact Or.inr h
theorem start_mem {t : Stp} : ∀ (a : List Int) {L : List (Stp × Stp)}, t ∈ (a.foldl (fun L p => rchP (p, false) L (p, false)) L).map (·.1) ↔ t ∈ L.map (·.1) ∨ ∃ p ∈ a, t = (p, false)
  | [], L => by simp
  | x :: a, L => by
    rw [List.foldl_cons, start_mem a, rchP_mem]
    constructor
    · rintro ((h | h) | ⟨p, hp, h⟩)
      · exact Or.inl h
      · exact Or.inr ⟨x, by simp, h⟩
      · exact Or.inr ⟨p, by simp [hp], h⟩
    · rintro (h | ⟨p, hp, h⟩)
      · exact Or.inl (Or.inl h)
      · rcases List.mem_cons.1 hp with e | e
        · exact Or.inl (Or.inr (by rw [h, e]))
        · exact Or.inr ⟨p, e, h⟩
/-- What is reached is led to. -/
theorem bfs_sound {nx : Stp → List Stp} {a : List Int} : ∀ (f k : Nat) (L : List (Stp × Stp)), (∀ t ∈ L.map (·.1), StR nx a t) → ∀ t ∈ (bfsP nx f k L).map (·.1), StR nx a t
  | 0, _, _, h => h
  | f + 1, k, L, h => by
    rw [bfsP]
    split
    · exact h
    · rename_i e he
      refine bfs_sound f (k + 1) _ fun t ht => ?_
      rcases (fold_mem _).1 ht with h1 | h1
      · exact h t h1
      · exact StR.step (h e.1 (List.mem_map.2 ⟨e, List.mem_of_getElem? he, rfl⟩)) h1
theorem bfs_more {nx : Stp → List Stp} {t : Stp} : ∀ (f k : Nat) (L : List (Stp × Stp)), t ∈ L.map (·.1) → t ∈ (bfsP nx f k L).map (·.1)
  | 0, _, _, h => h
  | f + 1, k, L, h => by
    rw [bfsP]
    split
    · exact h
    · exact bfs_more f (k + 1) _ ((fold_mem _).2 (Or.inl h))
/-- Whatever follows on what is reached is reached. -/
theorem bfs_shut {n : Nat} {nx : Stp → List Stp} (hnx : ∀ s t, t ∈ nx s → ∃ p : Nat, t.1 = (p : Int) ∧ p < n) : ∀ (f k : Nat) (L : List (Stp × Stp)), KeyP n L → 2 * n + 1 ≤ f + k → k ≤ L.length →
    (∀ (i : Nat) (e : Stp × Stp), i < k → L[i]? = some e → ∀ t ∈ nx e.1, t ∈ L.map (·.1)) → ∀ s ∈ (bfsP nx f k L).map (·.1), ∀ t ∈ nx s, t ∈ (bfsP nx f k L).map (·.1)
  | 0, k, L, hk, hf, hkl, h => by have := hk.len; omega
  | f + 1, k, L, hk, hf, hkl, h => by
    rw [bfsP]
    split
    · rename_i he
      have hl : L.length ≤ k := by
        by_cases h1 : L.length ≤ k
        · exact h1
        · rw [List.getElem?_eq_getElem (by omega)] at he; simp at he
      intro s hs t ht
      obtain ⟨e, he2, rfl⟩ := List.mem_map.1 hs
      obtain ⟨i, hi, hie⟩ := List.getElem_of_mem he2
      exact h i e (by omega) (by rw [List.getElem?_eq_getElem hi, hie]) t ht
    · rename_i e he
      have hkl2 := (List.getElem?_eq_some_iff.1 he).1
      refine bfs_shut hnx f (k + 1) _ (hk.fold _ _ (hnx _)) (by omega) (Nat.le_trans hkl2 (rchP_fold_le _ _ _)) fun i e2 hi he2 t ht => ?_
      by_cases hik : i < k
      · have hold : L[i]? = some e2 := by
          have h1 : L[i]? = some L[i] := List.getElem?_eq_getElem (by omega)
          have h2 := fold_at (ahead := e.1) (nx e.1) h1
          rw [h2] at he2
          rw [h1, Option.some.inj he2]
        exact (fold_mem _).2 (Or.inl (h i e2 hik hold t ht))
      · have e0 : i = k := by omega
        subst e0
        have h2 := fold_at (ahead := e.1) (nx e.1) he
        rw [h2] at he2
        have e3 := Option.some.inj he2
        subst e3
        exact (fold_mem _).2 (Or.inr ht)
theorem wk_mem {P : List (List Int)} {n : Nat} {a G : List Int} (A : List Int) (hn : P.length = n) (h : wkE P n a G = 0) (s : Stp) : s ∈ (wkL P n a G A).map (·.1) ↔ StR (nxS P n G A) a s := by
  obtain ⟨h1, h2, h3⟩ := wk_parts h
  have hz := outs_no (cl_zero (ck_zero h1)).1
  have hP : ∀ (i : Nat) (x : Int), x ∈ P.getD i [] → ∃ p : Nat, x = (p : Int) ∧ p < n := fun i x hx => by have := hz i x hx; rw [hn] at this; exact this
  have hkey : KeyP n (stP a) := KeyP.start a (KeyP.nil n) (noPts_pt h3)
  constructor
  · refine bfs_sound _ _ _ (fun t ht => ?_) s
    rcases (start_mem a).1 ht with h4 | ⟨p, hp, rfl⟩
    · simp at h4
    · exact StR.start hp
  · intro hs
    induction hs with
    | start hp => exact bfs_more _ _ _ ((start_mem a).2 (Or.inr ⟨_, hp, rfl⟩))
    | step _ ht ih => exact bfs_shut (fun s t ht => rawS_pt hP ht) _ 0 _ hkey (by omega) (Nat.zero_le _) (fun i e hi => absurd hi (by omega)) _ ih _ ht
/-- Which steps follow on one. -/
theorem nx_mem {P : List (List Int)} {n : Nat} {G A : List Int} {s t : Stp} : t ∈ nxS P n G A s ↔ (s.1 ∉ G ∧ t.2 = true ∧ t.1 ∈ chF P s.1.toNat n) ∨ (((s.2 = true ∧ s.1 ∈ A) ∨ (s.2 = false ∧ s.1 ∉ G)) ∧ t.2 = false ∧ t.1 ∈ P.getD s.1.toNat []) := by
  unfold nxS
  rw [srtP_mem]
  unfold rawS
  rw [List.mem_append]
  obtain ⟨x, d⟩ := t
  constructor
  · rintro (h | h)
    · split at h
      · simp at h
      · rename_i hg
        obtain ⟨y, hy, e⟩ := List.mem_map.1 h
        simp only [Prod.mk.injEq] at e
        exact Or.inl ⟨hg, e.2.symm, by rw [← e.1]; exact hy⟩
    · split at h
      · rename_i hc
        obtain ⟨y, hy, e⟩ := List.mem_map.1 h
        simp only [Prod.mk.injEq] at e
        exact Or.inr ⟨hc, e.2.symm, by rw [← e.1]; exact hy⟩
      · simp at h
  · rintro (⟨h1, h2, h3⟩ | ⟨h1, h2, h3⟩)
    · left
      rw [if_neg h1]
      exact List.mem_map.2 ⟨x, h3, by simp only at h2; rw [h2]⟩
    · right
      rw [if_pos h1]
      exact List.mem_map.2 ⟨x, h3, by simp only at h2; rw [h2]⟩
/-- One point tells something of another: a step at it is led to. -/
def TelP (P : List (List Int)) (n : Nat) (G A a : List Int) (x : Int) : Prop := x ∉ G ∧ ∃ d, StR (nxS P n G A) a (x, d)
theorem ends_iff {P : List (List Int)} {n : Nat} {a G : List Int} (A : List Int) (hn : P.length = n) (h : wkE P n a G = 0) (x : Int) : x ∈ endsL (wkL P n a G A) G ↔ TelP P n G A a x := by
  unfold endsL minusR TelP
  rw [List.mem_filter, mem_ofR]
  constructor
  · rintro ⟨h1, h2⟩
    obtain ⟨e, he, rfl⟩ := List.mem_map.1 h1
    refine ⟨?_, e.1.2, (wk_mem A hn h e.1).1 (List.mem_map.2 ⟨e, he, rfl⟩)⟩
    simp only [mem_ofR, Bool.not_eq_true', decide_eq_false_iff_not] at h2
    exact h2
  · rintro ⟨h1, d, h2⟩
    obtain ⟨e, he, e2⟩ := List.mem_map.1 ((wk_mem A hn h _).2 h2)
    refine ⟨List.mem_map.2 ⟨e, he, by rw [e2]⟩, ?_⟩
    simp only [mem_ofR, Bool.not_eq_true', decide_eq_false_iff_not]
    exact h1
theorem str_any {nx : Stp → List Stp} {a : List Int} {s : Stp} : StR nx a s ↔ ∃ p ∈ a, StR nx [p] s := by
  constructor
  · intro h
    induction h with
    | start hp => exact ⟨_, hp, StR.start (by simp)⟩
    | step _ ht ih => obtain ⟨p, hp, h1⟩ := ih; exact ⟨p, hp, StR.step h1 ht⟩
  · rintro ⟨p, hp, h⟩
    induction h with
    | start hq => have e := List.mem_singleton.1 hq; rw [e]; exact StR.start hp
    | step _ ht ih => exact StR.step ih ht
/-- The way back: where a step's point may be left toward where it was come from, what it was begun with is led to. -/
theorem str_back {P : List (List Int)} {n : Nat} {G A : List Int} (hn : P.length = n) (hP : ∀ (i : Nat) (x : Int), x ∈ P.getD i [] → ∃ p : Nat, x = (p : Int) ∧ p < n) {a b : Int} (ha : ∃ p : Nat, a = (p : Int) ∧ p < n) {s : Stp} (h : StR (nxS P n G A) [a] s) :
    (∃ p : Nat, s.1 = (p : Int) ∧ p < n) ∧ ((∃ e, StR (nxS P n G A) [b] (s.1, e) ∧ (if s.2 = true then ((e = true ∧ s.1 ∈ A) ∨ (e = false ∧ s.1 ∉ G)) else s.1 ∉ G)) → ∃ e, StR (nxS P n G A) [b] (a, e)) := by
  induction h with
  | start hp =>
    have e := List.mem_singleton.1 hp
    subst e
    exact ⟨ha, fun ⟨e, he, _⟩ => ⟨e, he⟩⟩
  | @step s t hs ht ih =>
    obtain ⟨⟨u, hu, hun⟩, ih⟩ := ih
    obtain ⟨sx, sd⟩ := s
    obtain ⟨tx, td⟩ := t
    simp only at hu
    subst hu
    rcases nx_mem.1 ht with ⟨h1, h2, h3⟩ | ⟨h1, h2, h3⟩
    · simp only at h1 h2 h3
      subst h2
      rw [Int.toNat_natCast] at h3
      obtain ⟨v, hv, rfl, huv⟩ := chF_mem.1 h3
      refine ⟨⟨v, rfl, hv⟩, fun ⟨e, he, hc⟩ => ih ⟨false, StR.step he (nx_mem.2 (Or.inr ⟨?_, rfl, ?_⟩)), ?_⟩⟩
      · simpa using hc
      · simp only [Int.toNat_natCast]; exact huv
      · simp only
        split
        · exact Or.inr ⟨by simp, h1⟩
        · exact h1
    · simp only at h1 h2 h3
      subst h2
      rw [Int.toNat_natCast] at h3
      obtain ⟨v, rfl, hv⟩ := hP _ _ h3
      refine ⟨⟨v, rfl, hv⟩, fun ⟨e, he, hc⟩ => ih ⟨true, StR.step he (nx_mem.2 (Or.inl ⟨by simpa using hc, rfl, ?_⟩)), ?_⟩⟩
      · simp only [Int.toNat_natCast]; exact chF_mem.2 ⟨u, hun, rfl, h3⟩
      · simp only
        cases sd with
        | true =>
          rw [if_pos rfl]
          refine Or.inl ⟨by simp, ?_⟩
          rcases h1 with h4 | h4
          · exact h4.2
          · simp at h4
        | false =>
          rw [if_neg (by decide)]
          rcases h1 with h4 | h4
          · simp at h4
          · exact h4.2
/-- What tells something of another is told something of by it. -/
theorem tel_even {P : List (List Int)} {n : Nat} {G A : List Int} (hn : P.length = n) (hP : ∀ (i : Nat) (x : Int), x ∈ P.getD i [] → ∃ p : Nat, x = (p : Int) ∧ p < n) {a b : Int} (ha : ∃ p : Nat, a = (p : Int) ∧ p < n) (h : TelP P n G A [a] b) : TelP P n G A [b] a := by
  obtain ⟨hb, d, hd⟩ := h
  refine ⟨fun hg => ?_, ?_⟩
  · have key : ∀ s, StR (nxS P n G A) [a] s → s = (a, false) := fun s hs => by
      induction hs with
      | start hp => rw [List.mem_singleton.1 hp]
      | step _ ht ih =>
        rw [ih] at ht
        rcases nx_mem.1 ht with ⟨h1, _⟩ | ⟨h1 | h1, _⟩
        · exact absurd hg h1
        · simp at h1
        · exact absurd hg h1.2
    have e := key _ hd
    simp only [Prod.mk.injEq] at e
    rw [e.1] at hb
    exact hb hg
  · refine (str_back hn hP ha hd).2 ⟨false, StR.start (by simp), ?_⟩
    split
    · exact Or.inr ⟨rfl, hb⟩
    · exact hb
end Go.Proofs.YtcadljpdokhpmabGreat

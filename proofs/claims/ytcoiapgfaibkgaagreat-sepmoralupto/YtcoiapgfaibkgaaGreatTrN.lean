/-
  Proved here: plain mathematics of open trails: what steps lead to is what open trails lead to, and the way that is found first is the least open trail.
-/
import Derived.Test.YtcoiapgfaibkgaaGreatHeapMathAll
import Derived.Test.YtcoiapgfaibkgaaGreatSpZAll
import Derived.Test.YtcoiapgfaibkgaaGreatMoMAll
namespace Go.Proofs.YtcoiapgfaibkgaaGreat
set_option linter.unusedVariables false
open Go.RowKit Go.Shelf Go.Sort Go.Lib
/-- Open trails, the newest point first. -/
inductive OTr (P : List (List Int)) (G A : List Int) (a : Int) : List Int → Prop
  | one : a ∉ G → OTr P G A a [a]
  | two {n : Int} : OTr P G A a [a] → (∃ p : Nat, n = (p : Int) ∧ p < P.length) → (n ∈ P.getD a.toNat [] ∨ a ∈ P.getD n.toNat []) → n ≠ a → OTr P G A a [n, a]
  | more {n l p : Int} {r : List Int} : OTr P G A a (l :: p :: r) → (∃ p : Nat, n = (p : Int) ∧ p < P.length) → (n ∈ P.getD l.toNat [] ∨ l ∈ P.getD n.toNat []) → n ∉ l :: p :: r → ((p ∈ P.getD l.toNat [] ∧ n ∈ P.getD l.toNat [] → l ∈ A) ∧ (¬ (p ∈ P.getD l.toNat [] ∧ n ∈ P.getD l.toNat []) → l ∉ G)) → OTr P G A a (n :: l :: p :: r)
theorem OTr.pts {P : List (List Int)} {G A : List Int} {a : Int} (ha : ∃ p : Nat, a = (p : Int) ∧ p < P.length) {l : List Int} (h : OTr P G A a l) : ∀ x ∈ l, ∃ p : Nat, x = (p : Int) ∧ p < P.length := by
  induction h with
  | one _ => intro x hx; rw [List.mem_singleton.1 hx]; exact ha
  | two _ hn _ _ ih =>
    intro x hx
    rcases List.mem_cons.1 hx with rfl | hx
    · exact hn
    · exact ih x hx
  | more _ hn _ _ _ ih =>
    intro x hx
    rcases List.mem_cons.1 hx with rfl | hx
    · exact hn
    · exact ih x hx
theorem ch_one {nx : Stp → List Stp} {root s : Stp} (h : ChR nx root [s]) : s = root := by
  cases h with
  | one => rfl
theorem ChR.tail {nx : Stp → List Stp} {root t : Stp} : ∀ {l1 l2 : List Stp}, ChR nx root (l1 ++ t :: l2) → ChR nx root (t :: l2)
  | [], l2, h => h
  | u :: l1, l2, h => by
    cases l1 with
    | nil =>
      cases h with
      | cons h1 _ => exact h1
    | cons v l1 =>
      cases h with
      | cons h1 _ => exact ChR.tail (l1 := v :: l1) h1
theorem ChR.step {nx : Stp → List Stp} {root s t : Stp} {l : List Stp} (h : ChR nx root (t :: s :: l)) : t ∈ nx s := by
  cases h with
  | cons _ h2 => exact h2
theorem ChR.path {nx : Stp → List Stp} {root s t : Stp} : ∀ {mid post : List Stp}, ChR nx root (s :: (mid ++ t :: post)) → StW nx t s
  | [], post, h => StW.head h.step StW.refl
  | u :: mid, post, h => (ChR.path (mid := mid) (ChR.tail (l1 := [s]) h)).snoc h.step
theorem ChR.next {nx : Stp → List Stp} {root s t : Stp} : ∀ {mid post : List Stp}, ChR nx root (s :: (mid ++ t :: post)) → ∃ v, v ∈ nx t
  | [], post, h => ⟨s, h.step⟩
  | u :: mid, post, h => ChR.next (mid := mid) (ChR.tail (l1 := [s]) h)
section
variable {P : List (List Int)} {G A : List Int}
theorem abv_up (hA : AbvP P G A) {c : Nat} {x : Int} (h : (c : Int) ∈ A) (hx : x ∈ P.getD c []) : x ∈ A := (hA.2 x).2 (rch_up c x ((hA.2 _).1 h) hx)
/-- Where a way goes down from a point and comes to something from below, the point is above what is given. -/
theorem turn_A (hA : AbvP P G A) {s t : Stp} (h : StW (nxS P P.length G A) s t) : (∃ x : Nat, s.1 = (x : Int)) → s.2 = true → t.2 = false → s.1 ∈ A := by
  induction h with
  | refl => intro _ h1 h2; rw [h1] at h2; simp at h2
  | @head s t u ht hp ih =>
    rintro ⟨x, hx⟩ h1 h2
    obtain ⟨sx, sd⟩ := s
    obtain ⟨tx, td⟩ := t
    simp only at hx h1
    subst hx h1
    rcases nx_mem.1 ht with ⟨h3, h4, h5⟩ | ⟨h3, h4, h5⟩
    · simp only at h3 h4 h5
      subst h4
      rw [Int.toNat_natCast] at h5
      obtain ⟨c, hc, rfl, hm⟩ := chF_mem.1 h5
      exact abv_up hA (ih ⟨c, rfl⟩ rfl h2) hm
    · rcases h3 with h3 | h3
      · exact h3.2
      · simp at h3
theorem nx_ng {x : Int} {v : Stp} (h : v ∈ nxS P P.length G A (x, false)) : x ∉ G := by
  rcases nx_mem.1 h with ⟨h1, _⟩ | ⟨h1 | h1, _⟩
  · exact h1
  · simp at h1
  · exact h1.2
/-- What lies between two visits of a point can be left out. -/
theorem cut_step (hA : AbvP P G A) {root u s t : Stp} {mid post : List Stp} (h : ChR (nxS P P.length G A) root (u :: s :: (mid ++ t :: post))) (e : s.1 = t.1) (ht : ∃ x : Nat, t.1 = (x : Int)) : u ∈ nxS P P.length G A t := by
  have hu := h.step
  have h1 := ChR.tail (l1 := [u]) h
  obtain ⟨sx, sd⟩ := s
  obtain ⟨tx, td⟩ := t
  simp only at e
  subst e
  rcases nx_mem.1 hu with ⟨h3, h4, h5⟩ | ⟨h3, h4, h5⟩
  · exact nx_mem.2 (Or.inl ⟨h3, h4, h5⟩)
  · refine nx_mem.2 (Or.inr ⟨?_, h4, h5⟩)
    cases td with
    | false =>
      obtain ⟨v, hv⟩ := h1.next
      exact Or.inr ⟨rfl, nx_ng hv⟩
    | true =>
      refine Or.inl ⟨rfl, ?_⟩
      rcases h3 with h3 | h3
      · exact h3.2
      · exact turn_A hA h1.path ht rfl h3.1
theorem cut_ch (hA : AbvP P G A) {root s t : Stp} {mid post : List Stp} (e : s.1 = t.1) (ht : ∃ x : Nat, t.1 = (x : Int)) : ∀ {pre : List Stp}, ChR (nxS P P.length G A) root (pre ++ s :: (mid ++ t :: post)) → ChR (nxS P P.length G A) root (pre ++ t :: post)
  | [], h => ChR.tail (l1 := s :: mid) h
  | [u], h => ChR.cons (ChR.tail (l1 := u :: s :: mid) h) (cut_step hA h e ht)
  | u :: v :: pre, h => ChR.cons (cut_ch hA e ht (pre := v :: pre) (ChR.tail (l1 := [u]) h)) (ChR.step (l := pre ++ s :: (mid ++ t :: post)) h)
theorem dup_split : ∀ {l : List Stp}, ¬ (l.map (·.1)).Nodup → ∃ pre s mid t post, l = pre ++ s :: (mid ++ t :: post) ∧ s.1 = t.1
  | [], h => absurd List.nodup_nil h
  | s :: l, h => by
    by_cases hm : s.1 ∈ l.map (·.1)
    · obtain ⟨t, ht, e⟩ := List.mem_map.1 hm
      obtain ⟨mid, post, rfl⟩ := List.append_of_mem ht
      exact ⟨[], s, mid, t, post, rfl, e.symm⟩
    · have h2 : ¬ (l.map (·.1)).Nodup := fun h3 => h (by rw [List.map_cons]; exact List.nodup_cons.2 ⟨hm, h3⟩)
      obtain ⟨pre, s', mid, t, post, rfl, e⟩ := dup_split h2
      exact ⟨s :: pre, s', mid, t, post, rfl, e⟩
theorem ch_pt (hP : ∀ (i : Nat) (x : Int), x ∈ P.getD i [] → ∃ p : Nat, x = (p : Int) ∧ p < P.length) {root : Stp} (hr : ∃ p : Nat, root.1 = (p : Int) ∧ p < P.length) {c : List Stp} (h : ChR (nxS P P.length G A) root c) : ∀ s ∈ c, ∃ p : Nat, s.1 = (p : Int) ∧ p < P.length := by
  induction h with
  | one => intro s hs; rw [List.mem_singleton.1 hs]; exact hr
  | @cons s t l h1 h2 ih =>
    intro u hu
    rcases List.mem_cons.1 hu with rfl | hu
    · exact rawS_pt hP h2
    · exact ih u hu
/-- A shortest way visits no point twice. -/
theorem short_nd (hP : ∀ (i : Nat) (x : Int), x ∈ P.getD i [] → ∃ p : Nat, x = (p : Int) ∧ p < P.length) (hA : AbvP P G A) {root s0 : Stp} (hr : ∃ p : Nat, root.1 = (p : Int) ∧ p < P.length) {c : List Stp} (h : ChR (nxS P P.length G A) root (s0 :: c)) (hmin : ∀ (t : Stp) (c' : List Stp), ChR (nxS P P.length G A) root (t :: c') → t.1 = s0.1 → (s0 :: c).length ≤ (t :: c').length) : ((s0 :: c).map (·.1)).Nodup := by
  refine Classical.byContradiction fun hn => ?_
  obtain ⟨pre, s, mid, t, post, e, e1⟩ := dup_split hn
  have ht : ∃ x : Nat, t.1 = (x : Int) := by
    obtain ⟨p, hp, -⟩ := ch_pt hP hr h t (by rw [e]; simp)
    exact ⟨p, hp⟩
  have h2 := h
  rw [e] at h2
  have h3 := cut_ch hA e1 ht h2
  have hl : (s0 :: c).length = (pre ++ s :: (mid ++ t :: post)).length := by rw [e]
  cases pre with
  | nil =>
    have e0 : s0 = s := by simpa using congrArg List.head? e
    have h4 := hmin t post h3 (by rw [e0]; exact e1.symm)
    simp at h4 hl; omega
  | cons u pre =>
    have e0 : s0 = u := by simpa using congrArg List.head? e
    have h4 := hmin u (pre ++ t :: post) h3 (by rw [e0])
    simp at h4 hl; omega
/-- An open trail is a way of steps. -/
theorem otr_ch (hck : ckE P = 0) {a : Int} (ha : ∃ p : Nat, a = (p : Int) ∧ p < P.length) {l : List Int} (h : OTr P G A a l) : ∃ (s : Stp) (c : List Stp), ChR (nxS P P.length G A) (a, false) (s :: c) ∧ (s :: c).map (·.1) = l ∧ ∀ (n p : Int) (r : List Int), l = n :: p :: r → s.2 = decide (p ∈ P.getD n.toNat []) := by
  induction h with
  | one h1 => exact ⟨(a, false), [], ChR.one, rfl, fun n p r e => by simp at e⟩
  | @two n h1 hn h2 h3 ih =>
    have hag : a ∉ G := by cases h1 with | one h => exact h
    obtain ⟨q, rfl, hq⟩ := hn
    obtain ⟨p, rfl, hp⟩ := ha
    rw [Int.toNat_natCast, Int.toNat_natCast] at h2
    rcases h2 with h2 | h2
    · have hno : (p : Int) ∉ P.getD q [] := fun h4 => no_two hck hq hp h2 h4
      refine ⟨((q : Int), false), [((p : Int), false)], ChR.cons ChR.one (nx_mem.2 (Or.inr ⟨Or.inr ⟨rfl, hag⟩, rfl, by simp only [Int.toNat_natCast]; exact h2⟩)), rfl, fun n' p' r e => ?_⟩
      simp only [List.cons.injEq] at e
      obtain ⟨rfl, rfl, -⟩ := e
      rw [Int.toNat_natCast]; exact (decide_eq_false hno).symm
    · refine ⟨((q : Int), true), [((p : Int), false)], ChR.cons ChR.one (nx_mem.2 (Or.inl ⟨hag, rfl, by simp only [Int.toNat_natCast]; exact chF_mem.2 ⟨q, hq, rfl, h2⟩⟩)), rfl, fun n' p' r e => ?_⟩
      simp only [List.cons.injEq] at e
      obtain ⟨rfl, rfl, -⟩ := e
      rw [Int.toNat_natCast]; exact (decide_eq_true h2).symm
  | @more n l p r h1 hn h2 h3 h4 ih =>
    obtain ⟨s, c, hc, hm, hd⟩ := ih
    have hd2 := hd l p r rfl
    obtain ⟨q, rfl, hq⟩ := hn
    obtain ⟨u, rfl, hu⟩ := h1.pts ha l (by simp)
    rw [Int.toNat_natCast] at hd2 h4
    rw [Int.toNat_natCast, Int.toNat_natCast] at h2
    obtain ⟨sx, sd⟩ := s
    have e1 : sx = (u : Int) := by simp only [List.map_cons, List.cons.injEq] at hm; exact hm.1
    simp only at hd2
    subst e1
    rcases h2 with h2 | h2
    · have hno : (u : Int) ∉ P.getD q [] := fun h5 => no_two hck hq hu h2 h5
      refine ⟨((q : Int), false), ((u : Int), sd) :: c, ChR.cons hc (nx_mem.2 (Or.inr ⟨?_, rfl, by simp only [Int.toNat_natCast]; exact h2⟩)), by rw [List.map_cons, hm], fun n' p' r' e => ?_⟩
      · by_cases hp : p ∈ P.getD u []
        · exact Or.inl ⟨by rw [hd2, decide_eq_true hp], h4.1 ⟨hp, h2⟩⟩
        · exact Or.inr ⟨by rw [hd2, decide_eq_false hp], h4.2 fun h5 => hp h5.1⟩
      · simp only [List.cons.injEq] at e
        obtain ⟨rfl, rfl, -⟩ := e
        rw [Int.toNat_natCast]; exact (decide_eq_false hno).symm
    · have hno : (q : Int) ∉ P.getD u [] := fun h5 => no_two hck hu hq h2 h5
      refine ⟨((q : Int), true), ((u : Int), sd) :: c, ChR.cons hc (nx_mem.2 (Or.inl ⟨h4.2 fun h5 => hno h5.2, rfl, by simp only [Int.toNat_natCast]; exact chF_mem.2 ⟨q, hq, rfl, h2⟩⟩)), by rw [List.map_cons, hm], fun n' p' r' e => ?_⟩
      simp only [List.cons.injEq] at e
      obtain ⟨rfl, rfl, -⟩ := e
      rw [Int.toNat_natCast]; exact (decide_eq_true h2).symm
theorem ch_root {a : Int} {t : Stp} : ∀ {l : List Stp}, ChR (nxS P P.length G A) (a, false) (t :: l) → l ≠ [] → a ∉ G
  | [], _, h => absurd rfl h
  | [s], h, _ => by
    cases h with
    | cons h1 h2 =>
      cases h1 with
      | one => exact nx_ng h2
  | s :: u :: l, h, _ => by
    cases h with
    | cons h1 h2 => exact ch_root h1 (by simp)
theorem step_adj (hP : ∀ (i : Nat) (x : Int), x ∈ P.getD i [] → ∃ p : Nat, x = (p : Int) ∧ p < P.length) {x : Nat} {d : Bool} {t : Stp} (h : t ∈ nxS P P.length G A ((x : Int), d)) : ∃ q : Nat, t.1 = (q : Int) ∧ q < P.length ∧ ((t.2 = true ∧ (x : Int) ∈ P.getD q [] ∧ (x : Int) ∉ G) ∨ (t.2 = false ∧ (q : Int) ∈ P.getD x [] ∧ ((d = true ∧ (x : Int) ∈ A) ∨ (d = false ∧ (x : Int) ∉ G)))) := by
  obtain ⟨tx, td⟩ := t
  rcases nx_mem.1 h with ⟨h1, h2, h3⟩ | ⟨h1, h2, h3⟩
  · simp only at h1 h2 h3
    rw [Int.toNat_natCast] at h3
    obtain ⟨c, hc, rfl, hm⟩ := chF_mem.1 h3
    exact ⟨c, rfl, hc, Or.inl ⟨h2, hm, h1⟩⟩
  · simp only at h1 h2 h3
    rw [Int.toNat_natCast] at h3
    obtain ⟨q, rfl, hq⟩ := hP x tx h3
    exact ⟨q, rfl, hq, Or.inr ⟨h2, h3, h1⟩⟩
/-- A way of steps that visits no point twice is an open trail. -/
theorem ch_otr (hck : ckE P = 0) {a : Int} (ha : ∃ p : Nat, a = (p : Int) ∧ p < P.length) (hag : a ∉ G) {c : List Stp} (h : ChR (nxS P P.length G A) (a, false) c) : (c.map (·.1)).Nodup → OTr P G A a (c.map (·.1)) := by
  have hP := outs_no (cl_zero (ck_zero hck)).1
  induction h with
  | one => exact fun _ => OTr.one hag
  | @cons s t l h1 h2 ih =>
    intro hnd
    rw [List.map_cons] at hnd ⊢
    obtain ⟨hn1, hn2⟩ := List.nodup_cons.1 hnd
    have hO := ih hn2
    obtain ⟨sx, sd⟩ := s
    obtain ⟨u, hu, hul⟩ := ch_pt hP (root := (a, false)) ha h1 (sx, sd) (by simp)
    simp only at hu
    subst hu
    obtain ⟨q, hq, hql, hd⟩ := step_adj hP h2
    obtain ⟨tx, td⟩ := t
    simp only at hq hd
    subst hq
    have hadj : (q : Int) ∈ P.getD ((u : Int)).toNat [] ∨ (u : Int) ∈ P.getD ((q : Int)).toNat [] := by
      rw [Int.toNat_natCast, Int.toNat_natCast]
      rcases hd with ⟨_, h3, _⟩ | ⟨_, h3, _⟩
      · exact Or.inr h3
      · exact Or.inl h3
    cases l with
    | nil =>
      have e : ((u : Int), sd) = (a, false) := by cases h1 with | one => rfl
      simp only [Prod.mk.injEq] at e
      obtain ⟨rfl, rfl⟩ := e
      exact OTr.two hO ⟨q, rfl, hql⟩ hadj (by simpa using hn1)
    | cons s2 l =>
      obtain ⟨px, pd⟩ := s2
      obtain ⟨p, hp, hpl⟩ := ch_pt hP (root := (a, false)) ha h1 (px, pd) (by simp)
      simp only at hp
      subst hp
      obtain ⟨u2, hu2, -, hd2⟩ := step_adj hP h1.step
      simp only at hu2 hd2
      have e : u = u2 := by omega
      subst e
      refine OTr.more hO ⟨q, rfl, hql⟩ hadj hn1 ⟨fun h5 => ?_, fun h5 => ?_⟩
      · rw [Int.toNat_natCast] at h5
        rcases hd with ⟨_, h3, _⟩ | ⟨_, h3, h6⟩
        · exact (no_two hck hql hul h5.2 h3).elim
        · rcases h6 with h6 | h6
          · exact h6.2
          · rcases hd2 with ⟨h7, _⟩ | ⟨_, h7, _⟩
            · rw [h7] at h6; simp at h6
            · exact (no_two hck hpl hul h5.1 h7).elim
      · rw [Int.toNat_natCast] at h5
        rcases hd with ⟨_, h3, h6⟩ | ⟨_, h3, h6⟩
        · exact h6
        · rcases h6 with h6 | h6
          · rcases hd2 with ⟨_, h7, _⟩ | ⟨h7, _⟩
            · exact (h5 ⟨h7, h3⟩).elim
            · rw [h7] at h6; simp at h6
          · exact h6.2
end
/-- The ways back, told by what lies ahead of each step. -/
theorem way_tl {n : Nat} {L : List (Stp × Stp)} (hk : KeyP n L) {i : Nat} {c : List Stp} (h : WyP L i c) : ∀ (f : Nat) (s : Stp) (l : List Stp), c = s :: l → l.length ≤ f → tlP L f s = l.map (·.1) := by
  induction h with
  | @root s h =>
    intro f s' l e _
    simp only [List.cons.injEq] at e
    obtain ⟨rfl, rfl⟩ := e
    exact tlP_end (by unfold prP; rw [prP_at hk h]; rfl)
  | @step i j s v l h1 h2 h3 ih =>
    intro f s' l' e hf
    simp only [List.cons.injEq] at e
    obtain ⟨rfl, rfl⟩ := e
    obtain ⟨f, rfl⟩ : ∃ g, f = g + 1 := ⟨f - 1, by simp at hf; omega⟩
    have hp : prP L s = v := by unfold prP; rw [prP_at hk h1]; rfl
    have hne : v ≠ s := fun e => by
      obtain ⟨y, hy⟩ := h3.at
      rw [e] at hy
      have := nd_at hk.nd h1 hy
      omega
    rw [tlP, hp, if_neg hne, ih f v l rfl (by simp at hf; omega)]
    rfl
theorem way_len {L : List (Stp × Stp)} {i : Nat} {c : List Stp} (h : WyP L i c) : c.length ≤ i + 1 := by
  induction h with
  | root _ => simp
  | step _ _ _ ih => simp only [List.length_cons] at ih ⊢; omega
theorem nx_ris {P : List (List Int)} (hck : ckE P = 0) (G A : List Int) (s : Stp) : RisP (nxS P P.length G A s) := srtP_ris _ (raw_apart hck rfl G A s)
/-- The trail that is told is the least open one. -/
theorem trail_least {P : List (List Int)} {G A : List Int} {a b : Int} (h0 : wkE P P.length [a] G = 0) (hA : AbvP P G A) (hb : b ∈ endsL (wkL P P.length [a] G A) G) :
    ∃ l, trlP (wkL P P.length [a] G A) b = (b :: l).reverse ∧ OTr P G A a (b :: l) ∧ ∀ l', OTr P G A a l' → l'.head? = some b → LeR (b :: l) l' := by
  obtain ⟨hck, hG, hna⟩ := wk_parts h0
  have hP := outs_no (cl_zero (ck_zero hck)).1
  have ha := noPts_pt hna a (by simp)
  have hkey := wkL_key A rfl h0
  obtain ⟨K, hB, hK⟩ := Bf.all (nx_ris hck G A) (fun s t ht => rawS_pt hP ht) (2 * P.length + 1) 0 (stP [a]) (KeyP.start [a] (KeyP.nil _) (fun x hx => noPts_pt hna x hx)) (by omega) (Bf.start (nxS P P.length G A) a)
  obtain ⟨i, v, hi, hv⟩ := fst_at (ends_mem hb)
  have hbg : b ∉ G := ((ends_iff A rfl h0 b).1 hb).1
  have hfirst : ∀ (k : Nat) (s u : Stp), (wkL P P.length [a] G A)[k]? = some (s, u) → s.1 = b → i ≤ k := fun k s u hk hs => by
    rw [hi]
    refine Nat.le_of_not_lt fun hlt => ?_
    have h1 := List.not_of_lt_findIdx hlt
    have hkl := (List.getElem?_eq_some_iff.1 hk).1
    have h2 : ((wkL P P.length [a] G A).map (·.1))[k]'(by rw [List.length_map]; exact hkl) = s := by
      rw [List.getElem_map, (List.getElem?_eq_some_iff.1 hk).2]
    rw [h2] at h1
    simp [hs] at h1
  have hfb : (fstP (wkL P P.length [a] G A) b).1 = b := by
    have hil := (List.getElem?_eq_some_iff.1 hv).1
    have h1 : List.findIdx (fun s => s.1 == b) ((wkL P P.length [a] G A).map (·.1)) < ((wkL P P.length [a] G A).map (·.1)).length := by rw [← hi, List.length_map]; exact hil
    have h2 := List.findIdx_getElem (w := h1)
    have h3 : ((wkL P P.length [a] G A).map (·.1))[List.findIdx (fun s => s.1 == b) ((wkL P P.length [a] G A).map (·.1))] = fstP (wkL P P.length [a] G A) b := by
      unfold fstP
      rw [List.getD_eq_getElem?_getD, List.getElem?_eq_getElem h1]; rfl
    rw [h3] at h2
    simpa using h2
  obtain ⟨c, hw, hc, hle⟩ := hB.first hK hv (fun k s u hk hs => hfirst k s u hk (hs.trans hfb))
  have hnd : (((fstP (wkL P P.length [a] G A) b) :: c).map (·.1)).Nodup := short_nd hP hA ha hc (fun t c' ht he => by
    have := (hle t c' ht he).len
    rwa [List.length_map, List.length_map] at this)
  have hag : a ∉ G := by
    cases c with
    | nil =>
      have e := ch_one hc
      rw [e] at hfb
      simp only at hfb
      rw [hfb]; exact hbg
    | cons s c => exact ch_root hc (by simp)
  have hO := ch_otr hck ha hag hc hnd
  have htl : trlP (wkL P P.length [a] G A) b = (b :: c.map (·.1)).reverse := by
    unfold trlP
    rw [way_tl hkey hw _ _ _ rfl (by have h5 := way_len hw; have h6 := (List.getElem?_eq_some_iff.1 hv).1; simp only [List.length_cons] at h5; omega), hfb]
  rw [List.map_cons, hfb] at hO
  refine ⟨c.map (·.1), htl, hO, fun l' hO' hh => ?_⟩
  obtain ⟨s, c', hc', hm, -⟩ := otr_ch hck ha hO'
  have hs : s.1 = b := by
    rw [← hm] at hh
    simpa using hh
  have h7 := hle s c' hc' (hs.trans hfb.symm)
  rw [List.map_cons, hfb, hm] at h7
  exact h7
/-- What is told is what open trails end with. -/
theorem tel_otr {P : List (List Int)} {G A : List Int} {a b : Int} (h0 : wkE P P.length [a] G = 0) (hA : AbvP P G A) : TelP P P.length G A [a] b ↔ b ∉ G ∧ ∃ l, OTr P G A a (b :: l) := by
  obtain ⟨hck, hG, hna⟩ := wk_parts h0
  have hP := outs_no (cl_zero (ck_zero hck)).1
  have ha := noPts_pt hna a (by simp)
  constructor
  · intro h
    obtain ⟨l, -, h2, -⟩ := trail_least h0 hA ((ends_iff A rfl h0 b).2 h)
    exact ⟨h.1, l, h2⟩
  · rintro ⟨hbg, l, hO⟩
    obtain ⟨s, c, hc, hm, -⟩ := otr_ch hck ha hO
    have key : ∀ c, ChR (nxS P P.length G A) (a, false) c → ∀ s ∈ c, StR (nxS P P.length G A) [a] s := fun c hc => by
      induction hc with
      | one => intro s hs; rw [List.mem_singleton.1 hs]; exact StR.start (by simp)
      | @cons s t l h1 h2 ih =>
        intro u hu
        rcases List.mem_cons.1 hu with rfl | hu
        · exact StR.step (ih s (by simp)) h2
        · exact ih u hu
    obtain ⟨sx, sd⟩ := s
    have e : sx = b := by simp only [List.map_cons, List.cons.injEq] at hm; exact hm.1
    subst e
    exact ⟨hbg, sd, key _ hc _ (by simp)⟩
end Go.Proofs.YtcoiapgfaibkgaaGreat

/-
  Proved here: plain mathematics of apartness: something is told just where, in the moral graph of all that is above, a way leads from the one to the other that meets nothing given.
-/
import Derived.Test.YtcoiapgfaibkgabGreatSpKAll
namespace Go.Proofs.YtcoiapgfaibkgabGreat
set_option linter.unusedVariables false
open Go.RowKit Go.Shelf Go.Sort Go.Lib
theorem at_ltM {P : List (List Int)} {j : Nat} {x : Int} (h : x ∈ P.getD j []) : j < P.length := by
  by_cases hl : j < P.length
  · exact hl
  · rw [List.getD_eq_getElem?_getD, List.getElem?_eq_none (by omega)] at h
    simp at h
/-- Two points are joined in the moral graph of some points. -/
def MorJ (P : List (List Int)) (X : Int → Prop) (u w : Int) : Prop := u ∈ P.getD w.toNat [] ∨ w ∈ P.getD u.toNat [] ∨ ∃ c : Nat, X (c : Int) ∧ u ∈ P.getD c [] ∧ w ∈ P.getD c []
/-- A way leads from one to another, through points that are not given. -/
inductive MorR (P : List (List Int)) (X : Int → Prop) (G : List Int) : Int → Int → Prop
  | refl {y : Int} : X y → y ∉ G → MorR P X G y y
  | head {u w y : Int} : X u → u ∉ G → MorJ P X u w → MorR P X G w y → MorR P X G u y
theorem MorR.first {P : List (List Int)} {X : Int → Prop} {G : List Int} {u y : Int} (h : MorR P X G u y) : X u ∧ u ∉ G := by
  cases h with
  | refl h1 h2 => exact ⟨h1, h2⟩
  | head h1 h2 _ _ => exact ⟨h1, h2⟩
theorem MorR.snoc {P : List (List Int)} {X : Int → Prop} {G : List Int} {u w y : Int} (h : MorR P X G u w) (hj : MorJ P X w y) (hX : X y) (hG : y ∉ G) : MorR P X G u y := by
  induction h with
  | refl h1 h2 => exact MorR.head h1 h2 hj (MorR.refl hX hG)
  | head h1 h2 h3 _ ih => exact MorR.head h1 h2 h3 (ih hj)
theorem MorR.last {P : List (List Int)} {X : Int → Prop} {G : List Int} {u y : Int} (h : MorR P X G u y) : X y ∧ y ∉ G := by
  induction h with
  | refl h1 h2 => exact ⟨h1, h2⟩
  | head _ _ _ _ ih => exact ih
/-- What holds the first and all that is joined to what it holds holds the last. -/
theorem MorR.closed {P : List (List Int)} {X S : Int → Prop} {G : List Int} (hS : ∀ u w, S u → MorJ P X u w → X w → w ∉ G → S w) {u y : Int} (h : MorR P X G u y) (hu : S u) : S y := by
  induction h with
  | refl _ _ => exact hu
  | head h1 h2 h3 h4 ih => exact ih (hS _ _ hu h3 h4.first.1 h4.first.2)
/-- Steps lead from one to another, the first ahead. -/
inductive StW (nx : Stp → List Stp) : Stp → Stp → Prop
  | refl {s : Stp} : StW nx s s
  | head {s t u : Stp} : t ∈ nx s → StW nx t u → StW nx s u
theorem StW.snoc {nx : Stp → List Stp} {s t u : Stp} (h : StW nx s t) (hu : u ∈ nx t) : StW nx s u := by
  induction h with
  | refl => exact StW.head hu StW.refl
  | head h1 _ ih => exact StW.head h1 (ih hu)
theorem str_path {nx : Stp → List Stp} {x : Int} {t : Stp} (h : StR nx [x] t) : StW nx (x, false) t := by
  induction h with
  | start hp => rw [List.mem_singleton.1 hp]; exact StW.refl
  | step _ ht ih => exact ih.snoc ht
theorem rn_tail {C : List (List Int)} : ∀ (m : Nat) (x y : Int), Rn C (m + 1) x y → ∃ z, Rn C m x z ∧ y ∈ C.getD z.toNat []
  | 0, x, y, ⟨z, hz, h⟩ => by
    have e : z = y := h
    subst e
    exact ⟨x, rfl, hz⟩
  | m + 1, x, y, ⟨z, hz, h⟩ => by
    obtain ⟨u, hu, hy⟩ := rn_tail m z y h
    exact ⟨u, ⟨z, hz, hu⟩, hy⟩
theorem mor_path {P : List (List Int)} {G A : List Int} {X : Int → Prop} (hP : ∀ (i : Nat) (x : Int), x ∈ P.getD i [] → ∃ p : Nat, x = (p : Int) ∧ p < P.length)
    (hX : ∀ (c : Nat) (x : Int), X (c : Int) → x ∈ P.getD c [] → X x) (hA : ∀ x ∈ A, X x) {s u : Stp} (hs : StW (nxS P P.length G A) s u) (hy : X u.1) (hyG : u.1 ∉ G) (hn : ∃ x : Nat, s.1 = (x : Int)) :
    (s.2 = true → X s.1 ∧ ∀ p ∈ P.getD s.1.toNat [], p ∉ G → MorR P X G p u.1) ∧ (s.2 = false → X s.1 → MorR P X G s.1 u.1) := by
  induction hs with
  | @refl s =>
    obtain ⟨x, hx⟩ := hn
    refine ⟨fun _ => ⟨hy, fun p hp hg => ?_⟩, fun _ _ => MorR.refl hy hyG⟩
    refine MorR.head (hX x p (by rw [← hx]; exact hy) (by rw [hx, Int.toNat_natCast] at hp; exact hp)) hg (Or.inl hp) (MorR.refl hy hyG)
  | @head s t u ht hp ih =>
    obtain ⟨x, hx⟩ := hn
    obtain ⟨sx, sd⟩ := s
    obtain ⟨tx, td⟩ := t
    simp only at hx
    subst hx
    rcases nx_mem.1 ht with ⟨h1, h2, h3⟩ | ⟨h1, h2, h3⟩
    · simp only at h1 h2 h3
      subst h2
      rw [Int.toNat_natCast] at h3
      obtain ⟨c, hc, rfl, hm⟩ := chF_mem.1 h3
      obtain ⟨hXc, hall⟩ := (ih hy hyG ⟨c, rfl⟩).1 rfl
      simp only [Int.toNat_natCast] at hXc hall
      have hXx : X (x : Int) := hX c _ hXc hm
      have hM := hall _ hm h1
      refine ⟨fun _ => ⟨hXx, fun p hp hg => ?_⟩, fun _ _ => hM⟩
      simp only [Int.toNat_natCast] at hp
      exact MorR.head (hX x p hXx hp) hg (Or.inl (by simp only [Int.toNat_natCast]; exact hp)) hM
    · simp only at h1 h2 h3
      subst h2
      rw [Int.toNat_natCast] at h3
      obtain ⟨q, rfl, hq⟩ := hP x tx h3
      have hih := (ih hy hyG ⟨q, rfl⟩).2 rfl
      simp only at hih
      refine ⟨fun hd => ?_, fun hd hXx => ?_⟩
      · simp only at hd
        subst hd
        have hxA : (x : Int) ∈ A := by
          rcases h1 with h4 | h4
          · exact h4.2
          · simp at h4
        have hXx := hA _ hxA
        have hM := hih (hX x _ hXx h3)
        refine ⟨hXx, fun p hp hg => ?_⟩
        simp only [Int.toNat_natCast] at hp
        exact MorR.head (hX x p hXx hp) hg (Or.inr (Or.inr ⟨x, hXx, hp, h3⟩)) hM
      · simp only at hd
        subst hd
        have hxG : (x : Int) ∉ G := by
          rcases h1 with h4 | h4
          · simp at h4
          · exact h4.2
        simp only at hXx
        exact MorR.head hXx hxG (Or.inr (Or.inl (by simp only [Int.toNat_natCast]; exact h3))) (hih (hX x _ hXx h3))
theorem rch_up {P : List (List Int)} {L : List Int} (c : Nat) (x : Int) (h : RchP P L (c : Int)) (hx : x ∈ P.getD c []) : RchP P L x := by
  obtain ⟨g, hg, k, hr⟩ := h
  exact ⟨g, hg, k + 1, rn_snoc k g _ x hr (by rw [Int.toNat_natCast]; exact hx)⟩
/-- Down from what is led to, where nothing below is given. -/
theorem str_down {P : List (List Int)} (hP : ∀ (i : Nat) (x : Int), x ∈ P.getD i [] → ∃ p : Nat, x = (p : Int) ∧ p < P.length) {a G A : List Int} (hA : AbvP P G A) {y : Nat} (hy : y < P.length) : ∀ (m : Nat) (c : Int) (d : Bool), StR (nxS P P.length G A) a (c, d) → c ∉ A → Rn P m (y : Int) c → ∃ e, StR (nxS P P.length G A) a ((y : Int), e)
  | 0, c, d, hs, _, hr => by
    have e : (y : Int) = c := hr
    subst e
    exact ⟨d, hs⟩
  | m + 1, c, d, hs, hc, hr => by
    obtain ⟨z, hz, hcz⟩ := rn_tail m _ _ hr
    obtain ⟨q, rfl, hq⟩ := rn_ptS hP rfl m _ _ ⟨y, rfl, hy⟩ hz
    rw [Int.toNat_natCast] at hcz
    have hzA : (q : Int) ∉ A := fun h => hc ((hA.2 c).2 (rch_up q c ((hA.2 _).1 h) hcz))
    have hcG : c ∉ G := fun h => hc ((hA.2 c).2 ⟨c, h, 0, rfl⟩)
    obtain ⟨v, rfl, hv⟩ := hP q c hcz
    exact str_down hP hA hy m (q : Int) true (StR.step hs (nx_mem.2 (Or.inl ⟨hcG, rfl, by simp only [Int.toNat_natCast]; exact chF_mem.2 ⟨q, hq, rfl, hcz⟩⟩))) hzA hz
/-- Up from what is begun with, where nothing below is given. -/
theorem str_up {P : List (List Int)} (hP : ∀ (i : Nat) (x : Int), x ∈ P.getD i [] → ∃ p : Nat, x = (p : Int) ∧ p < P.length) {a G A : List Int} (hA : AbvP P G A) {y : Nat} (hy : y < P.length) (hya : (y : Int) ∈ a) : ∀ (m : Nat) (c : Int), c ∉ A → Rn P m (y : Int) c → StR (nxS P P.length G A) a (c, false)
  | 0, c, _, hr => by
    have e : (y : Int) = c := hr
    subst e
    exact StR.start hya
  | m + 1, c, hc, hr => by
    obtain ⟨z, hz, hcz⟩ := rn_tail m _ _ hr
    obtain ⟨q, rfl, hq⟩ := rn_ptS hP rfl m _ _ ⟨y, rfl, hy⟩ hz
    rw [Int.toNat_natCast] at hcz
    have hzA : (q : Int) ∉ A := fun h => hc ((hA.2 c).2 (rch_up q c ((hA.2 _).1 h) hcz))
    have hzG : (q : Int) ∉ G := fun h => hzA ((hA.2 _).2 ⟨_, h, 0, rfl⟩)
    exact StR.step (str_up hP hA hy hya m (q : Int) hzA hz) (nx_mem.2 (Or.inr ⟨Or.inr ⟨rfl, hzG⟩, rfl, by simp only [Int.toNat_natCast]; exact hcz⟩))
/-- Where a way leads on in the moral graph, steps lead on, or to something that is asked. -/
theorem mor_str {P : List (List Int)} (hP : ∀ (i : Nat) (x : Int), x ∈ P.getD i [] → ∃ p : Nat, x = (p : Int) ∧ p < P.length) {a b G A : List Int} (ha : ∀ x ∈ a, ∃ p : Nat, x = (p : Int) ∧ p < P.length) (hb : ∀ x ∈ b, ∃ p : Nat, x = (p : Int) ∧ p < P.length) (hA : AbvP P G A) {u y : Int} (h : MorR P (RchP P (a ++ b ++ G)) G u y) (hy : y ∈ b) (hu : ∃ d, StR (nxS P P.length G A) a (u, d)) (hun : ∃ p : Nat, u = (p : Int) ∧ p < P.length) :
    ∃ z ∈ b, z ∉ G ∧ ∃ e, StR (nxS P P.length G A) a (z, e) := by
  -- what is above and not above what is given: led to upward, or it leads down to what is asked
  have turn : ∀ (c : Nat) (d : Bool), StR (nxS P P.length G A) a ((c : Int), d) → RchP P (a ++ b ++ G) (c : Int) → (c : Int) ∉ A → (∃ z ∈ b, z ∉ G ∧ ∃ e, StR (nxS P P.length G A) a (z, e)) ∨ StR (nxS P P.length G A) a ((c : Int), false) := fun c d hs hr hc => by
    obtain ⟨g, hg, k, hr⟩ := hr
    rcases List.mem_append.1 hg with hg | hg
    · rcases List.mem_append.1 hg with hg | hg
      · obtain ⟨p, rfl, hp⟩ := ha g hg
        exact Or.inr (str_up hP hA hp hg k _ hc hr)
      · obtain ⟨p, rfl, hp⟩ := hb g hg
        refine Or.inl ⟨_, hg, fun h => hc ((hA.2 _).2 ⟨_, h, k, hr⟩), str_down hP hA hp k _ d hs hc hr⟩
    · exact absurd ((hA.2 _).2 ⟨g, hg, k, hr⟩) hc
  induction h with
  | @refl y h1 h2 => exact ⟨_, hy, h2, hu⟩
  | @head u w y h1 h2 h3 h4 ih =>
    obtain ⟨d, hd⟩ := hu
    obtain ⟨p, rfl, hp⟩ := hun
    rcases h3 with h3 | h3 | ⟨c, hc, h5, h6⟩
    · have hw := at_ltM h3
      have e0 : ∃ q : Nat, w = (q : Int) := by
        obtain ⟨g, hg, k, hr⟩ := h4.first.1
        have hgn : ∃ p : Nat, g = (p : Int) ∧ p < P.length ∨ g ∈ G := by
          rcases List.mem_append.1 hg with hg | hg
          · rcases List.mem_append.1 hg with hg | hg
            · obtain ⟨p, e, hp⟩ := ha g hg; exact ⟨p, Or.inl ⟨e, hp⟩⟩
            · obtain ⟨p, e, hp⟩ := hb g hg; exact ⟨p, Or.inl ⟨e, hp⟩⟩
          · exact ⟨0, Or.inr hg⟩
        cases k with
        | zero =>
          have e : g = w := hr
          subst e
          obtain ⟨p, hpp⟩ := hgn
          rcases hpp with ⟨e, _⟩ | h7
          · exact ⟨p, e⟩
          · exact absurd h7 h4.first.2
        | succ k =>
          obtain ⟨z, -, hz⟩ := rn_tail k g w hr
          obtain ⟨q, e, -⟩ := hP _ _ hz
          exact ⟨q, e⟩
      obtain ⟨q, rfl⟩ := e0
      rw [Int.toNat_natCast] at h3 hw
      exact ih hy ⟨true, StR.step hd (nx_mem.2 (Or.inl ⟨h2, rfl, by simp only [Int.toNat_natCast]; exact chF_mem.2 ⟨q, hw, rfl, h3⟩⟩))⟩ ⟨q, rfl, hw⟩
    · rw [Int.toNat_natCast] at h3
      obtain ⟨q, rfl, hq⟩ := hP p w h3
      have fin : StR (nxS P P.length G A) a ((p : Int), false) ∨ (d = true ∧ (p : Int) ∈ A) → ∃ e, StR (nxS P P.length G A) a ((q : Int), e) := fun h7 => by
        rcases h7 with h7 | ⟨h7, h8⟩
        · exact ⟨false, StR.step h7 (nx_mem.2 (Or.inr ⟨Or.inr ⟨rfl, h2⟩, rfl, by simp only [Int.toNat_natCast]; exact h3⟩))⟩
        · exact ⟨false, StR.step hd (nx_mem.2 (Or.inr ⟨Or.inl ⟨h7, h8⟩, rfl, by simp only [Int.toNat_natCast]; exact h3⟩))⟩
      cases d with
      | false => exact ih hy (fin (Or.inl hd)) ⟨q, rfl, hq⟩
      | true =>
        by_cases hpA : (p : Int) ∈ A
        · exact ih hy (fin (Or.inr ⟨rfl, hpA⟩)) ⟨q, rfl, hq⟩
        · rcases turn p true hd h1 hpA with h7 | h7
          · exact h7
          · exact ih hy (fin (Or.inl h7)) ⟨q, rfl, hq⟩
    · have hcn := at_ltM h5
      have hcs : StR (nxS P P.length G A) a ((c : Int), true) := StR.step hd (nx_mem.2 (Or.inl ⟨h2, rfl, by simp only [Int.toNat_natCast]; exact chF_mem.2 ⟨c, hcn, rfl, h5⟩⟩))
      obtain ⟨q, rfl, hq⟩ := hP c w h6
      by_cases hcA : (c : Int) ∈ A
      · exact ih hy ⟨false, StR.step hcs (nx_mem.2 (Or.inr ⟨Or.inl ⟨rfl, hcA⟩, rfl, by simp only [Int.toNat_natCast]; exact h6⟩))⟩ ⟨q, rfl, hq⟩
      · rcases turn c true hcs hc hcA with h7 | h7
        · exact h7
        · have hcG : (c : Int) ∉ G := fun h => hcA ((hA.2 _).2 ⟨_, h, 0, rfl⟩)
          exact ih hy ⟨false, StR.step h7 (nx_mem.2 (Or.inr ⟨Or.inr ⟨rfl, hcG⟩, rfl, by simp only [Int.toNat_natCast]; exact h6⟩))⟩ ⟨q, rfl, hq⟩
/-- Something is told just where a way leads in the moral graph. -/
theorem moral_iff {P : List (List Int)} (hP : ∀ (i : Nat) (x : Int), x ∈ P.getD i [] → ∃ p : Nat, x = (p : Int) ∧ p < P.length) {a b G A : List Int} (ha : ∀ x ∈ a, ∃ p : Nat, x = (p : Int) ∧ p < P.length) (hb : ∀ x ∈ b, ∃ p : Nat, x = (p : Int) ∧ p < P.length) (hA : AbvP P G A) :
    (∃ x ∈ a, ∃ y ∈ b, TelP P P.length G A [x] y) ↔ ∃ x ∈ a, ∃ y ∈ b, MorR P (RchP P (a ++ b ++ G)) G x y := by
  constructor
  · rintro ⟨x, hx, y, hy, hyG, d, hs⟩
    refine ⟨x, hx, y, hy, ?_⟩
    obtain ⟨p, rfl, hp⟩ := ha x hx
    exact (mor_path (X := RchP P (a ++ b ++ G)) hP (fun c x h1 h2 => rch_up c x h1 h2) (fun z hz => by
      obtain ⟨g, hg, k, hr⟩ := (hA.2 z).1 hz
      exact ⟨g, List.mem_append_right _ hg, k, hr⟩) (str_path hs) ⟨y, List.mem_append_left _ (List.mem_append_right _ hy), 0, rfl⟩ hyG ⟨p, rfl⟩).2 rfl ⟨_, List.mem_append_left _ (List.mem_append_left _ hx), 0, rfl⟩
  · rintro ⟨x, hx, y, hy, hm⟩
    obtain ⟨z, hz, hzG, e, hs⟩ := mor_str hP ha hb hA hm hy ⟨false, StR.start hx⟩ (ha x hx)
    obtain ⟨v, hv, hs2⟩ := str_any.1 hs
    exact ⟨v, hv, z, hz, hzG, e, hs2⟩
end Go.Proofs.YtcoiapgfaibkgabGreat

/-
  Proved here: plain mathematics of layer 17: parents may be that go by a rank; parents with further points above some, each with one tie; which tables tell something.
  Proved here: package prune's leaveOut and withNew.
-/
import Derived.Test.YtcoiapgfaibkgaaGreatMoMAll
import Derived.Test.YtcoiapgfaibkgaaGreatSpZAll
import Derived.Test.YtcoiapgfaibkgaaGreatPrAAll
import Derived.Test.YtcoiapgfaibkgaaGreatSpDAll
import Derived.Test.YtcoiapgfaibkgaaGreatDagKAll
namespace Go.Proofs.YtcoiapgfaibkgaaGreat
set_option linter.unusedVariables false
open Go.RowKit Go.Shelf Go.Sort Go.Lib
theorem subs_len : ∀ {L M : List Int}, L.Nodup → (∀ x ∈ L, x ∈ M) → L.length ≤ M.length
  | [], _, _, _ => Nat.zero_le _
  | x :: L, M, h, hs => by
    have h1 := List.nodup_cons.1 h
    have hx : x ∈ M := hs x (List.mem_cons_self ..)
    have h2 := subs_len (L := L) (M := M.erase x) h1.2 (fun y hy => (List.mem_erase_of_ne (fun e : y = x => h1.1 (by rw [← e]; exact hy))).2 (hs y (List.mem_cons_of_mem _ hy)))
    rw [List.length_erase_of_mem hx] at h2
    have h3 := List.length_pos_of_mem hx
    rw [List.length_cons]
    omega
/-- Parents of a rank below their own may be. -/
theorem ck_rank {P : List (List Int)} (r : Nat → Nat) (h : ∀ j, (P.getD j []).Nodup ∧ ∀ x ∈ P.getD j [], ∃ q : Nat, x = (q : Int) ∧ q < P.length ∧ r q < r j) : ckE P = 0 := by
  have get : ∀ M ∈ P, ∃ j, j < P.length ∧ P.getD j [] = M := fun M hM => by
    obtain ⟨j, hj, e⟩ := List.mem_iff_getElem.1 hM
    exact ⟨j, hj, by rw [List.getD_eq_getElem?_getD, List.getElem?_eq_getElem hj, e]; rfl⟩
  have h1 : outsB P = false := List.any_eq_false.2 fun M hM => by
    obtain ⟨j, hj, rfl⟩ := get M hM
    have : noPts (P.length : Int) (P.getD j []) = false := List.any_eq_false.2 fun x hx => by
      obtain ⟨p, rfl, hp, -⟩ := (h j).2 x hx
      simp [noPt]; omega
    simpa using this
  have h2 : twicesB P = false := List.any_eq_false.2 fun M hM => by
    obtain ⟨j, hj, rfl⟩ := get M hM
    simpa [twiceB] using (h j).1
  have hc : clE P = 0 := by unfold clE; rw [h1, h2]; rfl
  have hpn : Pts P.length ([] : List Int) := ⟨List.nodup_nil, by simp⟩
  obtain ⟨-, hpts, -, hno⟩ := out_all (P := P) P.length [] hpn
  have hno2 := hno (by simp)
  have hall : ∀ m i, r i ≤ m → i < P.length → (i : Int) ∈ outF P P.length [] := fun m => by
    induction m with
    | zero =>
      intro i hi hl
      refine Classical.byContradiction fun hc => hno2 i hl ⟨hc, fun p hp => ?_⟩
      obtain ⟨q, rfl, hq, hr⟩ := (h i).2 p hp
      omega
    | succ m ih =>
      intro i hi hl
      refine Classical.byContradiction fun hc => hno2 i hl ⟨hc, fun p hp => ?_⟩
      obtain ⟨q, rfl, hq, hr⟩ := (h i).2 p hp
      exact ih q (by omega) hq
  have hlen : P.length ≤ (outL P).length := by
    have h5 := subs_len (L := (List.range P.length).map (fun i : Nat => (i : Int))) (M := outL P) (List.pairwise_map.2 (List.nodup_range.imp (fun hne e => hne (by omega)))) (fun x hx => by
      obtain ⟨i, hi, rfl⟩ := List.mem_map.1 hx
      exact hall (r i) i (Nat.le_refl _) (List.mem_range.1 hi))
    rwa [List.length_map, List.length_range] at h5
  unfold ckE
  rw [if_pos hc, if_neg (by omega)]
theorem at_lt {P : List (List Int)} {j : Nat} {x : Int} (h : x ∈ P.getD j []) : j < P.length := by
  by_cases hl : j < P.length
  · exact hl
  · rw [List.getD_eq_getElem?_getD, List.getElem?_eq_none (by omega)] at h
    simp at h
/-- Parents that may be go by a rank. -/
theorem rank_of {P : List (List Int)} (h : ckE P = 0) : ∃ r : Nat → Nat, ∀ j, (P.getD j []).Nodup ∧ ∀ x ∈ P.getD j [], ∃ q : Nat, x = (q : Int) ∧ q < P.length ∧ r q < r j := by
  have hl : (outL P).length = P.length := by
    have hc := ck_zero h
    unfold ckE at h
    rw [if_pos hc] at h
    by_cases h3 : (outL P).length < P.length
    · rw [if_pos h3] at h; simp at h
    · have hpn : Pts P.length ([] : List Int) := ⟨List.nodup_nil, by simp⟩
      have hP : Pts P.length (outL P) := (out_all (P := P) P.length [] hpn).2.1
      have h4 := hP.len
      omega
  have hz := cl_zero (ck_zero h)
  refine ⟨fun q => (plF (outL P) (q : Int)).toNat, fun j => ⟨twices_no hz.2 j, fun x hx => ?_⟩⟩
  obtain ⟨q, rfl, hq⟩ := outs_no hz.1 j x hx
  obtain ⟨k, hk, hp⟩ := out_place hl (at_lt hx)
  obtain ⟨m, hm, -⟩ := out_place hl hq
  have h2 := hp _ hx
  refine ⟨q, rfl, hq, ?_⟩
  show (plF (outL P) (q : Int)).toNat < (plF (outL P) (j : Int)).toNat
  rw [hk, hm]
  rw [hm] at h2
  omega
/-- Further points above some, each with one tie and no parents. -/
structure ExtP (P Q : List (List Int)) : Prop where
  le : P.length ≤ Q.length
  sub : ∀ (i : Nat) (x : Int), x ∈ P.getD i [] → x ∈ Q.getD i []
  new : ∀ (i : Nat) (x : Int), x ∈ Q.getD i [] → x ∉ P.getD i [] → ∃ m : Nat, x = (m : Int) ∧ P.length ≤ m ∧ m < Q.length
  top : ∀ i : Nat, P.length ≤ i → Q.getD i [] = []
  one : ∀ (i j m : Nat), P.length ≤ m → (m : Int) ∈ Q.getD i [] → (m : Int) ∈ Q.getD j [] → i = j
  nd : ∀ i : Nat, (Q.getD i []).Nodup
theorem ExtP.ck {P Q : List (List Int)} (h : ExtP P Q) (h0 : ckE P = 0) : ckE Q = 0 := by
  obtain ⟨r, hr⟩ := rank_of h0
  refine ck_rank (fun q => if q < P.length then r q + 1 else 0) fun j => ⟨h.nd j, fun x hx => ?_⟩
  have hj : j < P.length := by
    by_cases hl : j < P.length
    · exact hl
    · rw [h.top j (by omega)] at hx; simp at hx
  by_cases hp : x ∈ P.getD j []
  · obtain ⟨q, rfl, hq, hlt⟩ := (hr j).2 x hp
    exact ⟨q, rfl, Nat.lt_of_lt_of_le hq h.le, by simp only [if_pos hq, if_pos hj]; omega⟩
  · obtain ⟨m, rfl, h1, h2⟩ := h.new j x hx hp
    exact ⟨m, rfl, h2, by simp only [if_pos hj, if_neg (show ¬ m < P.length by omega)]; omega⟩
theorem ExtP.rn {P Q : List (List Int)} (h : ExtP P Q) (hP : ∀ (i : Nat) (x : Int), x ∈ P.getD i [] → ∃ p : Nat, x = (p : Int) ∧ p < P.length) : ∀ (k g x : Nat), g < P.length → x < P.length → (Rn Q k (g : Int) (x : Int) ↔ Rn P k (g : Int) (x : Int))
  | 0, g, x, _, _ => Iff.rfl
  | k + 1, g, x, hg, hx => by
    constructor
    · rintro ⟨z, hz, hr⟩
      rw [Int.toNat_natCast] at hz
      by_cases hp : z ∈ P.getD g []
      · obtain ⟨q, rfl, hq⟩ := hP g z hp
        exact ⟨q, by rw [Int.toNat_natCast]; exact hp, (ExtP.rn h hP k q x hq hx).1 hr⟩
      · obtain ⟨m, rfl, h1, h2⟩ := h.new g z hz hp
        cases k with
        | zero =>
          have e : (m : Int) = (x : Int) := hr
          omega
        | succ k =>
          obtain ⟨y, hy, -⟩ := hr
          rw [Int.toNat_natCast, h.top m h1] at hy
          simp at hy
    · rintro ⟨z, hz, hr⟩
      rw [Int.toNat_natCast] at hz
      obtain ⟨q, rfl, hq⟩ := hP g z hz
      exact ⟨q, by rw [Int.toNat_natCast]; exact h.sub g _ hz, (ExtP.rn h hP k q x hq hx).2 hr⟩
/-- Of the points that were there the same are above some of them. -/
theorem ExtP.abv {P Q : List (List Int)} (h : ExtP P Q) (hP : ∀ (i : Nat) (x : Int), x ∈ P.getD i [] → ∃ p : Nat, x = (p : Int) ∧ p < P.length) {G : List Int} (hG : ∀ x ∈ G, ∃ p : Nat, x = (p : Int) ∧ p < P.length) {A B : List Int} (hA : AbvP P G A) (hB : AbvP Q G B) {x : Nat} (hx : x < P.length) : (x : Int) ∈ B ↔ (x : Int) ∈ A := by
  rw [hA.2, hB.2]
  constructor
  · rintro ⟨g, hg, k, hr⟩
    obtain ⟨p, rfl, hp⟩ := hG g hg
    exact ⟨_, hg, k, (h.rn hP k p x hp hx).1 hr⟩
  · rintro ⟨g, hg, k, hr⟩
    obtain ⟨p, rfl, hp⟩ := hG g hg
    exact ⟨_, hg, k, (h.rn hP k p x hp hx).2 hr⟩
/-- A point's table tells something: what is led to may be left toward a parent. -/
def TabP (P : List (List Int)) (n : Nat) (G A a : List Int) (v : Int) : Prop := ∃ d, StR (nxS P n G A) a (v, d) ∧ ((d = true ∧ v ∈ A) ∨ (d = false ∧ v ∉ G))
theorem ExtP.str {P Q : List (List Int)} (h : ExtP P Q) (hP : ∀ (i : Nat) (x : Int), x ∈ P.getD i [] → ∃ p : Nat, x = (p : Int) ∧ p < P.length) {G A B a : List Int} (hG : ∀ x ∈ G, ∃ p : Nat, x = (p : Int) ∧ p < P.length) (hA : AbvP P G A) (hB : AbvP Q G B) (ha : ∀ x ∈ a, ∃ p : Nat, x = (p : Int) ∧ p < P.length) {s : Stp} (hs : StR (nxS Q Q.length G B) a s) :
    (∃ x : Nat, s.1 = (x : Int) ∧ x < P.length ∧ (StR (nxS P P.length G A) a s ∨ (s.2 = true ∧ TabP P P.length G A a s.1))) ∨ (∃ x v : Nat, s.1 = (x : Int) ∧ P.length ≤ x ∧ s.2 = false ∧ v < P.length ∧ s.1 ∈ Q.getD v [] ∧ TabP P P.length G A a (v : Int)) := by
  induction hs with
  | start hp =>
    obtain ⟨q, rfl, hq⟩ := ha _ hp
    exact Or.inl ⟨q, rfl, hq, Or.inl (StR.start hp)⟩
  | @step s t hs ht ih =>
    obtain ⟨sx, sd⟩ := s
    obtain ⟨tx, td⟩ := t
    rcases nx_mem.1 ht with ⟨h1, h2, h3⟩ | ⟨h1, h2, h3⟩
    · simp only at h1 h2 h3
      subst h2
      rcases ih with ⟨x, hx, hxn, hd⟩ | ⟨x, v, hx, hxn, hd, hv, hq, htab⟩
      · simp only at hx
        subst hx
        rw [Int.toNat_natCast] at h3
        obtain ⟨i, hi, rfl, hm⟩ := chF_mem.1 h3
        have hiP : i < P.length := by
          by_cases hl : i < P.length
          · exact hl
          · rw [h.top i (by omega)] at hm; simp at hm
        have hmP : (x : Int) ∈ P.getD i [] := Classical.byContradiction fun hc => by
          obtain ⟨m, e, h4, -⟩ := h.new i _ hm hc
          omega
        refine Or.inl ⟨i, rfl, hiP, Or.inl ?_⟩
        rcases hd with hd | ⟨-, d, hd, -⟩
        · exact StR.step hd (nx_mem.2 (Or.inl ⟨h1, rfl, by simp only [Int.toNat_natCast]; exact chF_mem.2 ⟨i, hiP, rfl, hmP⟩⟩))
        · exact StR.step hd (nx_mem.2 (Or.inl ⟨h1, rfl, by simp only [Int.toNat_natCast]; exact chF_mem.2 ⟨i, hiP, rfl, hmP⟩⟩))
      · simp only at hx hq
        subst hx
        rw [Int.toNat_natCast] at h3
        obtain ⟨i, hi, rfl, hm⟩ := chF_mem.1 h3
        have e := h.one i v x hxn hm hq
        subst e
        exact Or.inl ⟨i, rfl, hv, Or.inr ⟨rfl, htab⟩⟩
    · simp only at h1 h2 h3
      subst h2
      rcases ih with ⟨x, hx, hxn, hd⟩ | ⟨x, v, hx, hxn, hd, hv, hq, htab⟩
      · simp only at hx
        subst hx
        rw [Int.toNat_natCast] at h3
        have htab : TabP P P.length G A a (x : Int) := by
          rcases hd with hd | ⟨-, hd⟩
          · refine ⟨sd, hd, ?_⟩
            rcases h1 with ⟨h4, h5⟩ | h4
            · exact Or.inl ⟨h4, (h.abv hP hG hA hB hxn).1 h5⟩
            · exact Or.inr h4
          · exact hd
        by_cases hp : tx ∈ P.getD x []
        · obtain ⟨q, rfl, hq⟩ := hP x tx hp
          refine Or.inl ⟨q, rfl, hq, Or.inl ?_⟩
          obtain ⟨d, h6, h7⟩ := htab
          exact StR.step h6 (nx_mem.2 (Or.inr ⟨h7, rfl, by simp only [Int.toNat_natCast]; exact hp⟩))
        · obtain ⟨m, rfl, h4, h5⟩ := h.new x tx h3 hp
          exact Or.inr ⟨m, x, rfl, h4, rfl, hxn, h3, htab⟩
      · simp only at hx
        subst hx
        rw [Int.toNat_natCast, h.top x hxn] at h3
        simp at h3
theorem ExtP.str_sub {P Q : List (List Int)} (h : ExtP P Q) (hP : ∀ (i : Nat) (x : Int), x ∈ P.getD i [] → ∃ p : Nat, x = (p : Int) ∧ p < P.length) {G A B a : List Int} (hG : ∀ x ∈ G, ∃ p : Nat, x = (p : Int) ∧ p < P.length) (hA : AbvP P G A) (hB : AbvP Q G B) (ha : ∀ x ∈ a, ∃ p : Nat, x = (p : Int) ∧ p < P.length) {s : Stp} (hs : StR (nxS P P.length G A) a s) : (∃ x : Nat, s.1 = (x : Int) ∧ x < P.length) ∧ StR (nxS Q Q.length G B) a s := by
  induction hs with
  | start hp => exact ⟨ha _ hp, StR.start hp⟩
  | @step s t hs ht ih =>
    obtain ⟨⟨x, hx, hxn⟩, ih⟩ := ih
    obtain ⟨sx, sd⟩ := s
    obtain ⟨tx, td⟩ := t
    simp only at hx
    subst hx
    rcases nx_mem.1 ht with ⟨h1, h2, h3⟩ | ⟨h1, h2, h3⟩
    · simp only at h1 h2 h3
      subst h2
      rw [Int.toNat_natCast] at h3
      obtain ⟨i, hi, rfl, hm⟩ := chF_mem.1 h3
      exact ⟨⟨i, rfl, hi⟩, StR.step ih (nx_mem.2 (Or.inl ⟨h1, rfl, by simp only [Int.toNat_natCast]; exact chF_mem.2 ⟨i, Nat.lt_of_lt_of_le hi h.le, rfl, h.sub i _ hm⟩⟩))⟩
    · simp only at h1 h2 h3
      subst h2
      rw [Int.toNat_natCast] at h3
      refine ⟨hP x tx h3, StR.step ih (nx_mem.2 (Or.inr ⟨?_, rfl, by simp only [Int.toNat_natCast]; exact h.sub x _ h3⟩))⟩
      rcases h1 with ⟨h4, h5⟩ | h4
      · exact Or.inl ⟨h4, (h.abv hP hG hA hB hxn).2 h5⟩
      · exact Or.inr h4
/-- A new point is told something of just where the table below it tells something. -/
theorem ExtP.tel {P Q : List (List Int)} (h : ExtP P Q) (hP : ∀ (i : Nat) (x : Int), x ∈ P.getD i [] → ∃ p : Nat, x = (p : Int) ∧ p < P.length) {G A B a : List Int} (hG : ∀ x ∈ G, ∃ p : Nat, x = (p : Int) ∧ p < P.length) (hA : AbvP P G A) (hB : AbvP Q G B) (ha : ∀ x ∈ a, ∃ p : Nat, x = (p : Int) ∧ p < P.length) {v u : Nat} (hv : v < P.length) (hu : P.length ≤ u) (hq : (u : Int) ∈ Q.getD v []) :
    TelP Q Q.length G B a (u : Int) ↔ TabP P P.length G A a (v : Int) := by
  have huG : (u : Int) ∉ G := fun hc => by obtain ⟨p, e, hp⟩ := hG _ hc; omega
  constructor
  · rintro ⟨-, d, hs⟩
    rcases h.str hP hG hA hB ha hs with ⟨x, hx, hxn, -⟩ | ⟨x, w, hx, hxn, -, hw, hq2, htab⟩
    · simp only at hx; omega
    · have e := h.one v w u hu hq hq2
      rw [e]; exact htab
  · rintro ⟨d, hs, hc⟩
    have hs2 := (h.str_sub hP hG hA hB ha hs).2
    refine ⟨huG, false, StR.step hs2 (nx_mem.2 (Or.inr ⟨?_, rfl, by simp only [Int.toNat_natCast]; exact hq⟩))⟩
    rcases hc with ⟨h4, h5⟩ | h4
    · exact Or.inl ⟨h4, (h.abv hP hG hA hB hv).2 h5⟩
    · exact Or.inr h4
theorem tab_any {P : List (List Int)} {n : Nat} {G A a : List Int} {v : Int} : TabP P n G A a v ↔ ∃ x ∈ a, TabP P n G A [x] v := by
  unfold TabP
  constructor
  · rintro ⟨d, h2, h1⟩
    obtain ⟨x, hx, h3⟩ := str_any.1 h2
    exact ⟨x, hx, d, h3, h1⟩
  · rintro ⟨x, hx, d, h3, h1⟩
    exact ⟨d, str_any.2 ⟨x, hx, h3⟩, h1⟩
/-- What is given asks nothing. -/
theorem tab_given {P : List (List Int)} {n : Nat} {G A : List Int} {x v : Int} (hx : x ∈ G) (h : TabP P n G A [x] v) : False := by
  have key : ∀ s, StR (nxS P n G A) [x] s → s = (x, false) := fun s hs => by
    induction hs with
    | start hp => rw [List.mem_singleton.1 hp]
    | step _ ht ih =>
      rw [ih] at ht
      rcases nx_mem.1 ht with ⟨h1, _⟩ | ⟨h1 | h1, _⟩
      · exact absurd hx h1
      · simp at h1
      · exact absurd hx h1.2
  obtain ⟨d, hs, hc⟩ := h
  have e := key _ hs
  simp only [Prod.mk.injEq] at e
  obtain ⟨e1, e2⟩ := e
  subst e1 e2
  rcases hc with h1 | h1
  · simp at h1
  · exact h1.2 hx
/-- A parent's table tells something with its child's, unless it is given. -/
theorem tab_up {P : List (List Int)} {n : Nat} {G A a : List Int} {v : Nat} {p : Int} (h : TabP P n G A a (v : Int)) (hp : p ∈ P.getD v []) (hg : p ∉ G) : TabP P n G A a p := by
  obtain ⟨d, hs, hc⟩ := h
  exact ⟨false, StR.step hs (nx_mem.2 (Or.inr ⟨hc, rfl, by simp only [Int.toNat_natCast]; exact hp⟩)), Or.inr ⟨rfl, hg⟩⟩
theorem tab_asked {P : List (List Int)} {n : Nat} {G A a : List Int} {v : Int} (h : v ∈ a) (hg : v ∉ G) : TabP P n G A a v := ⟨false, StR.start h, Or.inr ⟨rfl, hg⟩⟩
/-- A table that tells something is above what is asked or given. -/
theorem tab_above {P : List (List Int)} {n : Nat} {G A a : List Int} (hA : AbvP P G A) {v : Int} (h : TabP P n G A a v) : RchP P (a ++ G) v := by
  have hG : ∀ x, x ∈ A → RchP P (a ++ G) x := fun x hx => by
    obtain ⟨g, hg, k, hr⟩ := (hA.2 x).1 hx
    exact ⟨g, List.mem_append_right _ hg, k, hr⟩
  have key : ∀ s, StR (nxS P n G A) a s → s.2 = false → RchP P (a ++ G) s.1 := fun s hs => by
    induction hs with
    | start hp => exact fun _ => ⟨_, List.mem_append_left _ hp, 0, rfl⟩
    | @step s t hs ht ih =>
      intro h0
      rcases nx_mem.1 ht with ⟨h1, h2, h3⟩ | ⟨h1, h2, h3⟩
      · rw [h2] at h0; simp at h0
      · have h4 : RchP P (a ++ G) s.1 := by
          rcases h1 with h1 | h1
          · exact hG _ h1.2
          · exact ih h1.1
        obtain ⟨g, hg, k, hr⟩ := h4
        exact ⟨g, hg, k + 1, rn_snoc k g s.1 t.1 hr h3⟩
  obtain ⟨d, hs, hc⟩ := h
  rcases hc with h1 | h1
  · exact hG _ h1.2
  · exact key _ hs h1.1
/-- Parents with a new point above each one. -/
def wiP (P : List (List Int)) : List (List Int) := ((List.range P.length).map fun i => P.getD i [] ++ [((P.length + i : Nat) : Int)]) ++ List.replicate P.length []
theorem wi_len (P : List (List Int)) : (wiP P).length = 2 * P.length := by unfold wiP; rw [List.length_append, List.length_map, List.length_range, List.length_replicate]; omega
theorem wi_old {P : List (List Int)} {i : Nat} (h : i < P.length) : (wiP P).getD i [] = P.getD i [] ++ [((P.length + i : Nat) : Int)] := by
  unfold wiP
  rw [List.getD_eq_getElem?_getD, List.getElem?_append_left (by rw [List.length_map, List.length_range]; exact h), List.getElem?_map, List.getElem?_range h]
  rfl
theorem wi_new {P : List (List Int)} {i : Nat} (h : P.length ≤ i) : (wiP P).getD i [] = [] := by
  unfold wiP
  rw [List.getD_eq_getElem?_getD, List.getElem?_append_right (by rw [List.length_map, List.length_range]; exact h), List.getElem?_replicate]
  split <;> rfl
theorem wi_ext {P : List (List Int)} (h0 : ckE P = 0) : ExtP P (wiP P) := by
  have hz := cl_zero (ck_zero h0)
  have hold : ∀ (i m : Nat), P.length ≤ m → (m : Int) ∉ P.getD i [] := fun i m hm hc => by
    obtain ⟨q, e, hq⟩ := outs_no hz.1 i _ hc
    omega
  refine ⟨by rw [wi_len]; omega, fun i x hx => ?_, fun i x hx hn => ?_, fun i hi => wi_new hi, fun i j m hm h1 h2 => ?_, fun i => ?_⟩
  · rw [wi_old (at_lt hx)]
    exact List.mem_append_left _ hx
  · by_cases hi : i < P.length
    · rw [wi_old hi] at hx
      rcases List.mem_append.1 hx with h1 | h1
      · exact absurd h1 hn
      · exact ⟨P.length + i, List.mem_singleton.1 h1, by omega, by rw [wi_len]; omega⟩
    · rw [wi_new (by omega)] at hx; simp at hx
  · have key : ∀ i, (m : Int) ∈ (wiP P).getD i [] → m = P.length + i := fun i hi => by
      by_cases hl : i < P.length
      · rw [wi_old hl] at hi
        rcases List.mem_append.1 hi with h3 | h3
        · exact absurd h3 (hold i m hm)
        · have := List.mem_singleton.1 h3; omega
      · rw [wi_new (by omega)] at hi; simp at hi
    have e1 := key i h1
    have e2 := key j h2
    omega
  · by_cases hl : i < P.length
    · rw [wi_old hl]
      refine List.nodup_append.2 ⟨twices_no hz.2 i, by simp, fun a ha b hb e => ?_⟩
      rw [List.mem_singleton.1 hb] at e
      subst e
      exact hold i _ (by omega) ha
    · rw [wi_new (by omega)]; exact List.nodup_nil
end Go.Proofs.YtcoiapgfaibkgaaGreat

namespace Go.Proofs.YtcoiapgfaibkgaaGreat
set_option linter.unusedVariables false
open Go.RowKit Go.Shelf Go.Sort Go.Lib
/-- The points that no way leaves out. -/
def lvL (n : Nat) (ps : List (Nat → Bool)) : List Int := ((List.range n).filter fun k => !anyW ps k).map Int.ofNat
theorem lvL_yes {k : Nat} {ps : List (Nat → Bool)} (h : anyW ps k = true) : lvL (k + 1) ps = lvL k ps := by
  unfold lvL
  rw [List.range_succ, List.filter_append, List.map_append]
  simp [h]
theorem lvL_no {k : Nat} {ps : List (Nat → Bool)} (h : anyW ps k = false) : lvL (k + 1) ps = lvL k ps ++ [(k : Int)] := by
  unfold lvL
  rw [List.range_succ, List.filter_append, List.map_append]
  simp [h]
theorem lvL_len (n : Nat) (ps : List (Nat → Bool)) : (lvL n ps).length ≤ n := by
  unfold lvL
  rw [List.length_map]
  exact Nat.le_trans (List.length_filter_le _ _) (by rw [List.length_range]; exact Nat.le_refl _)
theorem lvL_mem {n : Nat} {ps : List (Nat → Bool)} {x : Int} : x ∈ lvL n ps ↔ ∃ k : Nat, x = (k : Int) ∧ k < n ∧ anyW ps k = false := by
  unfold lvL
  rw [List.mem_map]
  constructor
  · rintro ⟨k, hk, rfl⟩
    rw [List.mem_filter, List.mem_range] at hk
    exact ⟨k, rfl, hk.1, by simpa using hk.2⟩
  · rintro ⟨k, rfl, hk, ha⟩
    exact ⟨k, by rw [List.mem_filter, List.mem_range]; exact ⟨hk, by simp [ha]⟩, rfl⟩
theorem lvL_rise (n : Nat) (ps : List (Nat → Bool)) : Rise (lvL n ps) := by
  unfold lvL Rise
  refine List.pairwise_map.2 (List.Pairwise.filter _ ((List.pairwise_lt_range).imp fun h => ?_))
  exact Int.ofNat_lt.2 h
set_option maxRecDepth 1000000 in
set_option maxHeartbeats 3200000 in
theorem leaveOutS (po : Option Addr) (n pc : Nat) (hn : n ≤ 100000) (v : Value) (vs : List Value) (ps : List (Nat → Bool)) (w : World) (h : WaysB w v vs ps) :
    Calls Tryz.prog 77 #[.slice po n pc, v] w fun e w' => ∃ u, e = .returned u ∧ OG (Value.int .i64) w.heap.size 3 w' u (lvL n ps) ∧ Below w.heap.size w w' := by
  obtain ⟨i0, hi, hz0, hz1, hz2⟩ := info_parts Tryz.infoI
  obtain ⟨vo, vn, vc, rfl⟩ : ∃ o n c, v = .slice o n c := by obtain ⟨ao, cap, e⟩ := h.row.sl; exact ⟨_, _, _, e⟩
  have HR : Hid (∀ W, Below w.heap.size w W → WaysB W (.slice vo vn vc) vs ps) := fun W hW => h.below hW
  clear h
  go_enter Tryz.func77, Tryz.ntmps77
  go_wp2
  go_loopg [5, 6, 9] n (fun g1 v5 _v6 v9 wr => ∃ (k : Nat) (lo : Option Addr) (ln lc : Nat), v5 = .slice lo ln lc ∧ v9 = .int .i64 k ∧ k ≤ n ∧ n - k ≤ g1 ∧ Hid (OG (Value.int .i64) w.heap.size 3 wr (.slice lo ln lc) (lvL k ps)) ∧ Hid (Below w.heap.size w wr))
  case atStart => exact ⟨0, none, 0, 0, rfl, rfl, Nat.zero_le _, by omega, OG.nil _ _ _, Below.refl _ _⟩
  case round =>
    obtain ⟨k, lo, ln, lc, rfl, rfl, hkn, hg1, HO, HB⟩ := hrel
    by_cases hlt : k < n
    · have hltz : (k : Int) < (n : Int) := by omega
      obtain ⟨W1, hW1⟩ : ∃ W, W = wr.alloc (.cells #[.int .i64 (k : Int)] 3) := ⟨_, rfl⟩
      obtain ⟨gx, hgx⟩ : ∃ g, g = wr.heap.size := ⟨_, rfl⟩
      have hb1 : Below wr.heap.size wr W1 := by rw [hW1]; exact belowB _ _
      have hc1 : W1.cell? ⟨gx, 0, none⟩ = some (.int .i64 (k : Int)) := by rw [hW1, hgx, World.cell?_alloc_at _ _ _ _ rfl]; rfl
      have HO1 : Hid (OG (Value.int .i64) w.heap.size 3 W1 (.slice lo ln lc) (lvL k ps)) := HO.out.below hb1
      have HB1 : Hid (Below w.heap.size w W1) := bstepB HB.out hb1
      have CW : Hid _ := containsW gx k (by omega) _ vs ps W1 (HR.out W1 HB1.out) hc1
      have HW1 : Hid (W1 = wr.alloc (.cells #[.int .i64 (k : Int)] 3)) := hW1
      have HGX : Hid (gx = wr.heap.size) := hgx
      have HC1 : Hid (W1.cell? ⟨gx, 0, none⟩ = some (.int .i64 (k : Int))) := hc1
      obtain ⟨b, hb⟩ : ∃ b, b = anyW ps k := ⟨_, rfl⟩
      rw [← hb] at CW
      have HBB : Hid (b = anyW ps k) := hb
      clear hW1 hgx hb1 hc1 hb HO HB
      go_upto_region 5 with fail
      rw [← HW1.out, ← HGX.out]
      clear HW1 HGX
      go_wp2_with fail
      refine Calls.mono CW.out ?_
      rintro e y ⟨rfl, hy⟩
      have HO2 : Hid (OG (Value.int .i64) w.heap.size 3 y (.slice lo ln lc) (lvL k ps)) := HO1.out.below hy
      have HB2 : Hid (Below w.heap.size w y) := bstepB HB1.out hy
      have hc2 : y.cell? ⟨gx, 0, none⟩ = some (.int .i64 (k : Int)) := keepR hy HC1.out
      clear CW hy HO1 HB1 HC1
      cases b with
      | true =>
        have HO3 : Hid (OG (Value.int .i64) w.heap.size 3 y (.slice lo ln lc) (lvL (k + 1) ps)) := by rw [lvL_yes HBB.out.symm]; exact HO2.out
        clear HO2 HBB
        go_wp2
        clear hc2
        go_roundg (n - (k + 1))
        case measure => omega
        case rel => exact ⟨k + 1, _, _, _, rfl, by first | rfl | go_num, by omega, Nat.le_refl _, HO3, HB2⟩
      | false =>
        have HLN : Hid ((lvL k ps).length ≤ 100000) := Nat.le_trans (lvL_len k ps) (by omega)
        have HE : Hid (lvL (k + 1) ps = lvL k ps ++ [(k : Int)]) := lvL_no HBB.out.symm
        obtain ⟨WA, hWA⟩ : ∃ W, W = y.alloc (.cells #[.int .i64 (k : Int)] 3) := ⟨_, rfl⟩
        obtain ⟨gb, hgb⟩ : ∃ g, g = y.heap.size := ⟨_, rfl⟩
        have HBA : Hid (Below y.heap.size y WA) := by show Below _ _ _; rw [hWA]; exact belowB _ _
        have HCB : Hid (WA.cell? ⟨gb, 0, none⟩ = some (.int .i64 (k : Int))) := by show _ = _; rw [hWA, hgb, World.cell?_alloc_at _ _ _ _ rfl]; rfl
        have HWA : Hid (WA = y.alloc (.cells #[.int .i64 (k : Int)] 3)) := hWA
        have HGB : Hid (gb = y.heap.size) := hgb
        have HBW : Hid (Below w.heap.size w WA) := bstepB HB2.out HBA.out
        clear hWA hgb HBB
        go_wp2_with (at_builtin; rw [← HWA.out, ← HGB.out]; refine wpList_pushV (enc := Value.int .i64) _ rfl _ _ 23 rfl w.heap.size 3 i0 (.int .i64 0) 8 Tryz.underlying23 hi hz0 hz1 hz2 rfl _ (lvL k ps) rfl (HO2.out.below HBA.out) gb (k : Int) rfl HCB.out rfl (by have := HLN.out; unfold maxLen; omega) (by have := HLN.out; omega) HBW.out.size ?_)
        intro ng tm ncap W2 ho hg3 hng _
        have HO3 : Hid (OG (Value.int .i64) w.heap.size 3 W2 (.slice (some ⟨ng, 0, none⟩) tm ncap) (lvL (k + 1) ps)) := by rw [HE.out]; exact ho
        have HB3 : Hid (Below w.heap.size w W2) := (HO2.out.below HBA.out).grown HBW.out HBW.out.size hg3
        clear ho hg3 hng HO2 HB2 HBA HCB HWA HGB HBW HLN HE hc2
        go_wp2
        go_roundg (n - (k + 1))
        case measure => omega
        case rel => exact ⟨k + 1, _, _, _, rfl, by first | rfl | go_num, by omega, Nat.le_refl _, HO3, HB3⟩
    · have hltz : ¬ (k : Int) < (n : Int) := by omega
      obtain rfl : k = n := by omega
      go_wp2
      go_ret
      exact ⟨_, rfl, HO.out, HB.out⟩
/-- Rows of one's own, each of the call's own. -/
structure WiC (w W : World) (g m : Nat) (cvs : List Value) (C : Nat → List Int) : Prop where
  frm : Below w.heap.size w W
  row : OG id w.heap.size 23 W (.slice (some ⟨g, 0, none⟩) m m) cvs
  inn : ∀ (j : Nat) (v : Value), cvs[j]? = some v → OG (Value.int .i64) w.heap.size 3 W v (C j)
theorem WiC.below {w W W' : World} {g m : Nat} {cvs : List Value} {C : Nat → List Int} (h : WiC w W g m cvs C) (hb : Below W.heap.size W W') : WiC w W' g m cvs C :=
  ⟨h.frm.trans (hb.mono h.frm.size), h.row.below hb, fun j v hv => (h.inn j v hv).below hb⟩
theorem WiC.put {w W : World} {g m : Nat} {cvs : List Value} {C : Nat → List Int} (h : WiC w W g m cvs C) {p : Nat} {u : Value} {L : List Int} (hp : p < m) (hu : OG (Value.int .i64) w.heap.size 3 W u L) :
    WiC w (W.setCell ⟨g, p, none⟩ u) g m (cvs.set p u) (fun j => if j = p then L else C j) := by
  have hl : cvs.length = m := h.row.rg.len
  have hgl := h.row.lt g rfl
  have hset := h.row.set hl p u
  refine ⟨h.frm.setCell (p := ⟨g, p, none⟩) hgl.1 _, hset.1, fun j v hv => ?_⟩
  rw [List.getElem?_set] at hv
  by_cases e : p = j
  · subst e
    rw [if_pos rfl, if_pos (by omega)] at hv
    simp only [Option.some.injEq] at hv
    subst hv
    rw [if_pos rfl]
    refine hu.of_blocks fun q hq => Below.heap_setCell _ _ _ _ (fun e2 => ?_)
    have e3 : q = g := e2
    subst e3
    exact hu.neO h.row (by decide) hq rfl
  · rw [if_neg e] at hv
    rw [if_neg (fun e2 => e e2.symm)]
    have hu1 := h.inn j v hv
    exact hu1.of_blocks fun q hq => Below.heap_setCell _ _ _ _ (fun e2 => hu1.neO h.row (by decide) hq (by have e3 : q = g := e2; rw [e3]; rfl))
theorem WiC.congr {w W : World} {g m : Nat} {cvs : List Value} {C C' : Nat → List Int} (h : WiC w W g m cvs C) (e : ∀ j, C j = C' j) : WiC w W g m cvs C' :=
  ⟨h.frm, h.row, fun j v hv => by rw [← e j]; exact h.inn j v hv⟩
/-- What stands while the first k points have their new ones. -/
def wiK (P : List (List Int)) (k j : Nat) : List Int := if j < k then (wiP P).getD j [] else []
theorem wiK_step {P : List (List Int)} {k : Nat} (h : k < P.length) (j : Nat) : (if j = k then [P.getD k [], [((P.length + k : Nat) : Int)]].flatten else wiK P k j) = wiK P (k + 1) j := by
  unfold wiK
  by_cases e : j = k
  · subst e
    rw [if_pos rfl, if_pos (Nat.lt_succ_self _), wi_old h]; simp
  · rw [if_neg e]
    by_cases h2 : j < k
    · rw [if_pos h2, if_pos (by omega)]
    · rw [if_neg h2, if_neg (by omega)]
theorem wiK_end (P : List (List Int)) (j : Nat) : wiK P P.length j = (wiP P).getD j [] := by
  unfold wiK
  by_cases h2 : j < P.length
  · rw [if_pos h2]
  · rw [if_neg h2, wi_new (by omega)]
set_option maxRecDepth 1000000 in
set_option maxHeartbeats 6400000 in
theorem withNewS (pv : Value) (pvs : List Value) (P : List (List Int)) (w : World) (h : RRD w pv pvs P) (n : Nat) (hn : P.length = n) (hb : n ≤ 25000) (hbl : ∀ i, (P.getD i []).length ≤ 100000) :
    Calls Tryz.prog 79 #[pv] w fun e w' => ∃ g cvs, e = .returned (.slice (some ⟨g, 0, none⟩) (2 * n) (2 * n)) ∧ RRD w' (.slice (some ⟨g, 0, none⟩) (2 * n) (2 * n)) cvs (wiP P) ∧ Below w.heap.size w w' := by
  obtain ⟨i1, hi1, ha0, ha1, ha2⟩ := info_parts Tryz.infoRD
  obtain ⟨po, pn, pc, rfl⟩ : ∃ o n c, pv = .slice o n c := by obtain ⟨ao, cap, e⟩ := h.out.sl; exact ⟨_, _, _, e⟩
  obtain rfl : pn = n := by rw [← hn, ← h.len, h.out.len]
  obtain ⟨m, hm⟩ : ∃ m, m = 2 * pn := ⟨_, rfl⟩
  obtain ⟨W1, hW1⟩ : ∃ W1, W1 = w.alloc (.cells (Array.replicate m (.slice none 0 0)) 23) := ⟨_, rfl⟩
  obtain ⟨g, hg⟩ : ∃ g, g = w.heap.size := ⟨_, rfl⟩
  have HT : Hid (WiC w W1 g m (List.replicate m (.slice none 0 0)) (wiK P 0)) := by
    refine ⟨by rw [hW1]; exact belowB w _, by rw [hW1, hg]; exact OG.made (enc := id) w _ m (.slice none 0 0) (by unfold maxLen; omega), fun j v hv => ?_⟩
    rw [List.getElem?_replicate] at hv
    split at hv
    · simp only [Option.some.injEq] at hv; subst hv
      have e : wiK P 0 j = [] := by unfold wiK; rw [if_neg (by omega)]
      rw [e]; exact OG.nil _ _ _
    · simp at hv
  have HR : Hid (RRD w (.slice po pn pc) pvs P) := h
  have HN : Hid (P.length = pn) := hn
  have HBL : Hid (∀ i, (P.getD i []).length ≤ 100000) := hbl
  have HW1 : Hid (W1 = w.alloc (.cells (Array.replicate m (.slice none 0 0)) 23)) := hW1
  have HG : Hid (g = w.heap.size) := hg
  have hmw : IntKind.i64.wrap (2 * (pn : Int)) = (m : Int) := by rw [IntKind.wrap_i64]; omega
  have hm5 : m ≤ 50000 := by omega
  have hmp : pn ≤ m := by omega
  rw [← hm]
  have HM : Hid (m = 2 * pn) := hm
  clear h hn hW1 hg hbl hm
  go_enter Tryz.func79, Tryz.ntmps79
  go_upto_region 2 with (at_make; refine wpList_madeD _ rfl _ _ 22 rfl 23 i1 (.slice none 0 0) rfl Tryz.underlying22 hi1 ha0 ha1 _ _ m rfl rfl (by rw [ha2]; omega) (by omega) ?_)
  rw [← HW1.out, ← HG.out]
  clear HW1 hmw
  go_wp2
  go_loopg [4, 5, 12] pn (fun g1 _v4 _v5 v12 wr => ∃ (k : Nat) (cvs : List Value), v12 = .int .i64 k ∧ k ≤ pn ∧ pn - k ≤ g1 ∧ Hid (WiC w wr g m cvs (wiK P k)))
  case atStart => exact ⟨0, _, rfl, by omega, by omega, HT⟩
  case round =>
    clear HT
    obtain ⟨k, cvs, rfl, hkn, hg1, HT⟩ := hrel
    by_cases hlt : k < pn
    · have hltz : (k : Int) < (pn : Int) := by omega
      have hltm : (k : Int) < (m : Int) := by omega
      obtain ⟨x, gp, op, hx1, rfl, hx2⟩ := (HR.out.below (Nat.le_refl _) HT.out.frm).out.at hlt
      have hxr := (HR.out.below (Nat.le_refl _) HT.out.frm).inn k x hx1
      obtain ⟨xo, xn, xc, rfl⟩ : ∃ o n c, x = .slice o n c := by obtain ⟨ao, cap, e⟩ := hxr.sl; exact ⟨_, _, _, e⟩
      change wr.cell? ⟨gp, op + k, none⟩ = some (.slice xo xn xc) at hx2
      have hws : IntKind.i64.wrap ((pn : Int) + (k : Int)) = ((pn + k : Nat) : Int) := by rw [IntKind.wrap_i64]; omega
      obtain ⟨WA, hWA⟩ : ∃ W, W = wr.alloc (.cells #[.int .i64 ((pn + k : Nat) : Int)] 3) := ⟨_, rfl⟩
      obtain ⟨ga, hga⟩ : ∃ g, g = wr.heap.size := ⟨_, rfl⟩
      have hba : Below wr.heap.size wr WA := by rw [hWA]; exact belowB _ _
      have hla : RG (Value.int .i64) WA (.slice (some ⟨ga, 0, none⟩) 1 1) [((pn + k : Nat) : Int)] := by rw [hWA, hga]; exact (OG.lit (enc := Value.int .i64) 3 wr [((pn + k : Nat) : Int)] (by unfold maxLen; simp)).rg
      obtain ⟨WB, hWB⟩ : ∃ W, W = WA.alloc (.cells #[.slice xo xn xc, .slice (some ⟨ga, 0, none⟩) 1 1] 23) := ⟨_, rfl⟩
      obtain ⟨gb, hgb⟩ : ∃ g, g = WA.heap.size := ⟨_, rfl⟩
      have hbb : Below WA.heap.size WA WB := by rw [hWB]; exact belowB _ _
      have hrr : RR (Value.int .i64) WB (.slice (some ⟨gb, 0, none⟩) 2 2) [P.getD k [], [((pn + k : Nat) : Int)]] := by
        rw [hWB]
        exact rr_two (by rw [hgb]; exact OG.lit (enc := id) 23 WA [.slice xo xn xc, .slice (some ⟨ga, 0, none⟩) 1 1] (by unfold maxLen; simp)) (hxr.below (Nat.le_refl _) hba) hla
      have CC : Hid _ := concatI _ _ WB hrr (by have h1 := HBL.out k; simp only [List.flatten_cons, List.flatten_nil, List.append_nil, List.length_append, List.length_singleton]; omega) (by simp)
      have HTB : Hid (WiC w WB g m cvs (wiK P k)) := (HT.out.below hba).below hbb
      have HWB : Hid (WB = (wr.alloc (.cells #[.int .i64 ((pn : Int) + (k : Int))] 3)).alloc (.cells #[.slice xo xn xc, .slice (some ⟨wr.heap.size, 0, none⟩) 1 1] 23)) := by show _ = _; rw [hWB, hWA, hga]; rfl
      have HGB : Hid (gb = wr.heap.size + 1) := by show _ = _; rw [hgb, hWA]; simp
      clear hWA hga hba hla hWB hgb hbb hrr hxr hx1
      go_wp2_with fail
      rw [← HWB.out, ← HGB.out]
      refine Calls.mono CC.out ?_
      rintro e y ⟨u, rfl, hu, hy⟩
      obtain ⟨uo, un, uc, rfl⟩ : ∃ o n c, u = .slice o n c := by obtain ⟨ao, cap, e, -⟩ := hu.sl; exact ⟨_, _, _, e⟩
      have HTY := HTB.out.below hy
      have hlen : cvs.length = m := HTY.row.rg.len
      obtain ⟨v, hv⟩ : ∃ v, cvs[k]? = some v := ⟨_, List.getElem?_eq_getElem (by omega)⟩
      obtain ⟨vo, vn, vc, rfl⟩ : ∃ o n c, v = .slice o n c := by obtain ⟨ao, cap, e, -⟩ := (HTY.inn k v hv).sl; exact ⟨_, _, _, e⟩
      obtain ⟨hc2, hf2⟩ := HTY.row.cell hv
      change y.cell? ⟨g, k, none⟩ = some (.slice vo vn vc) at hc2
      obtain ⟨WN, hWN⟩ : ∃ W, W = y.setCell ⟨g, k, none⟩ (.slice uo un uc) := ⟨_, rfl⟩
      have HT3 : Hid (WiC w WN g m (cvs.set k (.slice uo un uc)) (wiK P (k + 1))) := by
        rw [hWN]
        refine (HTY.put (by omega) (hu.mono HTB.out.frm.size)).congr fun j => ?_
        have h5 := wiK_step (P := P) (k := k) (by rw [HN.out]; exact hlt) j
        rw [HN.out] at h5
        exact h5
      have HWN : Hid (WN = y.setCell ⟨g, k, none⟩ (.slice uo un uc)) := hWN
      clear hWN hu hy HTY hlen hv HT HTB HWB HGB CC hx2
      go_wp2
      rw [← HWN.out]
      clear HWN hc2 hf2
      go_roundg (pn - (k + 1))
      case measure => omega
      case rel => exact ⟨k + 1, _, by first | rfl | go_num, by omega, Nat.le_refl _, HT3⟩
    · have hltz : ¬ (k : Int) < (pn : Int) := by omega
      obtain rfl : k = pn := by omega
      have hlen : cvs.length = m := HT.out.row.rg.len
      have HRR : Hid (RRD wr (.slice (some ⟨g, 0, none⟩) m m) cvs (wiP P)) := ⟨HT.out.row.rg, by rw [hlen, wi_len, HN.out, HM.out], fun i x hx => by
        have h6 := (HT.out.inn i x hx).rg
        have h7 := wiK_end P i
        rw [HN.out] at h7
        rwa [h7] at h6⟩
      have HFR : Hid (Below w.heap.size w wr) := HT.out.frm
      clear HT hlen
      go_wp2
      go_ret
      exact ⟨g, rfl, ⟨cvs, HRR.out⟩, HFR.out⟩
end Go.Proofs.YtcoiapgfaibkgaaGreat

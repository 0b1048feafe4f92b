/-
  Proved here, plain mathematics: the way back that Cycle tells is the document's: the fewest points, then the least first one, then always the least next one.
  Proved here: the document's walks: whether a walk of just so many steps leads back.
  Proved here: the document's closed: all that the ways lead to, rising.
-/
import Derived.Test.YthdpomgpcblpeaaGreatDagCyOAll
import Derived.Test.YthdpomgpcblpeaaGreatDagN
import Derived.Test.YthdpomgpcblpeaaGreatDagK2All
namespace Go.Proofs.YthdpomgpcblpeaaGreat
set_option linter.unusedVariables false
/-- Does a walk of just n steps, none below s, lead to s? -/
def wkB (P : List (List Int)) (s : Nat) : Nat → Nat → Bool
  | 0, v => decide (v = s)
  | i + 1, v => decide (s ≤ v) && (P.getD v []).any (fun p => decide ((s : Int) ≤ p) && wkB P s i p.toNat)
/-- The points below. -/
def lowL (s : Nat) : List Int := (List.range s).map Int.ofNat
theorem low_mem {s : Nat} {x : Int} : x ∈ lowL s ↔ ∃ i : Nat, i < s ∧ x = (i : Int) := by
  unfold lowL
  rw [List.mem_map]
  exact ⟨fun ⟨i, h, e⟩ => ⟨i, by simpa using h, e.symm⟩, fun ⟨i, h, e⟩ => ⟨i, by simpa using h, e.symm⟩⟩
theorem low_no {s v : Nat} : (v : Int) ∉ lowL s ↔ s ≤ v := by
  rw [low_mem]
  exact ⟨fun h => Nat.le_of_not_lt fun e => h ⟨v, e, rfl⟩, fun h ⟨i, h1, h2⟩ => by omega⟩
theorem wkB_iff {P : List (List Int)} (hP : WfP P) {s : Nat} : ∀ (n v : Nat), wkB P s n v = true ↔ Wk P (lowL s) s n v ∧ (n = 0 ∨ s ≤ v) := by
  intro n
  induction n with
  | zero => intro v; unfold wkB; simp [Wk]
  | succ n ih =>
    intro v
    unfold wkB
    rw [Bool.and_eq_true, decide_eq_true_eq, List.any_eq_true]
    constructor
    · rintro ⟨h1, p, hp, h2⟩
      rw [Bool.and_eq_true, decide_eq_true_eq] at h2
      obtain ⟨q, e, hq⟩ := hP v p hp
      subst e
      rw [Int.toNat_natCast] at h2
      exact ⟨⟨q, hp, low_no.2 (by omega), ((ih q).1 h2.2).1⟩, Or.inr h1⟩
    · rintro ⟨⟨q, h1, h2, h3⟩, h4⟩
      have hs := low_no.1 h2
      exact ⟨by omega, (q : Int), h1, by rw [Bool.and_eq_true, decide_eq_true_eq, Int.toNat_natCast]; exact ⟨by omega, (ih q).2 ⟨h3, Or.inr hs⟩⟩⟩
/-- How many steps are left, as the document asks. -/
def Md (P : List (List Int)) (s c : Nat) (x : Int) : Option Int := if (s : Int) ≤ x ∧ wkB P s c x.toNat = true then some (c : Int) else none
/-- The document's points behind the first. -/
def wyD (P : List (List Int)) (s : Nat) : Nat → Int → List Int
  | 0, _ => []
  | k + 1, cur => lsF (Md P s (k + 1)) ((k + 1 : Nat) : Int) (P.getD cur.toNat []) :: wyD P s k (lsF (Md P s (k + 1)) ((k + 1 : Nat) : Int) (P.getD cur.toNat []))
/-- Each that is out was below, or behind all its parents. -/
def GdS (P : List (List Int)) (k : Nat) (T : List Int) : Prop := ∀ (j : Nat) (x : Int), T[j]? = some x → x < (k : Int) ∨ ∀ p ∈ P.getD x.toNat [], p ∈ T.take j
theorem GdS.mono {P : List (List Int)} {k k' : Nat} {T : List Int} (h : GdS P k T) (hk : k ≤ k') : GdS P k' T := fun j x hx => (h j x hx).imp (fun e => by omega) id
theorem GdS.snoc {P : List (List Int)} {k : Nat} {T : List Int} (h : GdS P k T) {i : Nat} (hr : i < k ∨ ∀ p ∈ P.getD i [], p ∈ T) : GdS P k (T ++ [(i : Int)]) := by
  intro j x hx
  rcases Nat.lt_or_ge j T.length with e | e
  · rw [List.getElem?_append_left e] at hx
    rw [List.take_append_of_le_length (by omega)]
    exact h j x hx
  · have hj : j = T.length := by
      have := (List.getElem?_eq_some_iff.1 hx).1
      rw [List.length_append, List.length_singleton] at this
      omega
    subst hj
    rw [List.getElem?_append_right (Nat.le_refl _), Nat.sub_self] at hx
    have e2 : x = (i : Int) := by simpa using hx.symm
    subst e2
    rw [List.take_left' rfl, Int.toNat_natCast]
    exact hr.imp (fun e => by omega) id
theorem GdS.out {P : List (List Int)} {k : Nat} : ∀ (f : Nat) (T : List Int), GdS P k T → GdS P k (outF P f T) := by
  intro f
  induction f with
  | zero => intro T h; exact h
  | succ f ih =>
    intro T h
    rcases hn : nxtF P T with _ | i
    · have e : outF P (f + 1) T = T := by rw [outF, hn]
      rw [e]; exact h
    · have e : outF P (f + 1) T = outF P f (T ++ [(i : Int)]) := by rw [outF, hn]
      rw [e]
      refine ih _ (h.snoc (Or.inr ?_))
      unfold nxtF at hn
      have h1 := List.find?_some hn
      have h2 : rdy P T i := by simpa using h1
      exact h2.2
section
variable {P : List (List Int)} {T : List Int} {s : Nat}
/-- A walk that begins at one that is out stays among those that were out ahead of it. -/
theorem GdS.walk (h : GdS P s T) : ∀ (m j x : Nat), T[j]? = some (x : Int) → s ≤ x → Wk P (lowL s) s m x → ∃ j', T[j']? = some (s : Int) ∧ j' ≤ j ∧ (1 ≤ m → j' < j) := by
  intro m
  induction m with
  | zero => intro j x hj _ hw
            have e : x = s := hw
            subst e; exact ⟨j, hj, Nat.le_refl _, fun h => by omega⟩
  | succ m ih =>
    rintro j x hj hx ⟨p, hp, hpl, hw⟩
    rcases h j _ hj with e | e
    · omega
    · rw [Int.toNat_natCast] at e
      obtain ⟨i, hi, ei⟩ := List.getElem_of_mem (e _ hp)
      rw [List.length_take] at hi
      have hi2 : T[i]? = some (p : Int) := by
        have h1 : (T.take j)[i]? = some (p : Int) := by rw [← ei]; exact List.getElem?_eq_getElem (by rw [List.length_take]; exact hi)
        rwa [List.getElem?_take_of_lt (by omega)] at h1
      obtain ⟨j', h1, h2, _⟩ := ih i p hi2 (low_no.1 hpl) hw
      exact ⟨j', h1, by omega, fun _ => by omega⟩
/-- One that is out is on no way back. -/
theorem GdS.none (h : GdS P s T) (hn : T.Nodup) (hs : (s : Int) ∈ T) : ∀ m, 1 ≤ m → ¬ Wk P (lowL s) s m s := by
  intro m h1 hw
  obtain ⟨j, hj, e⟩ := List.getElem_of_mem hs
  have hj2 : T[j]? = some (s : Int) := by rw [← e]; exact List.getElem?_eq_getElem hj
  obtain ⟨j', g1, g2, g3⟩ := h.walk m j s hj2 (Nat.le_refl _) hw
  have hlt := g3 h1
  have hj' := (List.getElem?_eq_some_iff.1 g1).1
  have := List.pairwise_iff_getElem.1 hn j' j hj' hj hlt
  have e2 := (List.getElem?_eq_some_iff.1 g1).2
  exact this (by rw [e2, e])
/-- What leads to one that is not out is not out. -/
theorem GdS.free (h : GdS P s T) (hs : (s : Int) ∉ T) {m x : Nat} (hx : s ≤ x) (hw : Wk P (lowL s) s m x) : (x : Int) ∉ T := fun hm => by
  obtain ⟨j, hj, e⟩ := List.getElem_of_mem hm
  obtain ⟨j', g1, _⟩ := h.walk m j x (by rw [← e]; exact List.getElem?_eq_getElem hj) hx hw
  exact hs (List.mem_of_getElem? g1)
theorem wk_up (h : GdS P s T) (hs : (s : Int) ∉ T) : ∀ (m v : Nat), Wk P (lowL s) s m v → Wk P T s m v := by
  intro m
  induction m with
  | zero => intro v h; exact h
  | succ m ih =>
    rintro v ⟨p, h1, h2, h3⟩
    exact ⟨p, h1, h.free hs (low_no.1 h2) h3, ih p h3⟩
theorem wk_down (hlow : ∀ i : Nat, i < s → (i : Int) ∈ T) : ∀ (m v : Nat), Wk P T s m v → Wk P (lowL s) s m v := by
  intro m
  induction m with
  | zero => intro v h; exact h
  | succ m ih =>
    rintro v ⟨p, h1, h2, h3⟩
    exact ⟨p, h1, low_no.2 (Nat.le_of_not_lt fun e => h2 (hlow p e)), ih p h3⟩
theorem minC_low (h : GdS P s T) (hs : (s : Int) ∉ T) (hlow : ∀ i : Nat, i < s → (i : Int) ∈ T) {L : Nat} : MinC P T s L ↔ MinC P (lowL s) s L :=
  ⟨fun ⟨a, b, c⟩ => ⟨a, wk_down hlow _ _ b, fun m h1 h2 h3 => c m h1 h2 (wk_up h hs _ _ h3)⟩, fun ⟨a, b, c⟩ => ⟨a, wk_up h hs _ _ b, fun m h1 h2 h3 => c m h1 h2 (wk_down hlow _ _ h3)⟩⟩
/-- The two ways are one. -/
theorem way_eq (hP : WfP P) (h : GdS P s T) (hsn : s < P.length) (hs : (s : Int) ∉ T) (hlow : ∀ i : Nat, i < s → (i : Int) ∈ T) {L : Nat} (hL : MinC P T s L) : wyF P (Mc P T s) (L - 1) (s : Int) = wyD P s (L - 1) (s : Int) := by
  have key : ∀ (k v : Nat), v < P.length → Wk P T s (k + 1) v → (∀ m, 1 ≤ m → m < k + 1 → ¬ Wk P T s m v) → wyF P (Mc P T s) k (v : Int) = wyD P s k (v : Int) := by
    intro k
    induction k with
    | zero => intro v _ _ _; rfl
    | succ k ih =>
      intro v hv hw hmin
      unfold wyF wyD
      rw [Int.toNat_natCast]
      have hstep : ∀ x ∈ P.getD v [], Mc P T s x = some ((k + 1 : Nat) : Int) ↔ Md P s (k + 1) x = some ((k + 1 : Nat) : Int) := by
        intro x hx
        obtain ⟨q, e, hq⟩ := hP v x hx
        subst e
        rw [Mc_iff]
        unfold Md
        rw [Int.toNat_natCast]
        constructor
        · rintro ⟨u, e2, hu, huT, hD⟩
          have e3 : q = u := by omega
          subst e3
          have hsq : s ≤ q := Nat.le_of_not_lt fun e => huT (hlow q e)
          rw [if_pos ⟨by omega, (wkB_iff hP _ _).2 ⟨wk_down hlow _ _ hD.1, Or.inr hsq⟩⟩]
        · intro h1
          split at h1
          · rename_i hc
            have hsq : s ≤ q := by omega
            have hwl := ((wkB_iff hP _ _).1 hc.2).1
            have hqT := h.free hs hsq hwl
            refine ⟨q, rfl, hq, hqT, wk_up h hs _ _ hwl, fun m hm hw2 => ?_⟩
            exact hmin (m + 1) (by omega) (by omega) ⟨q, hx, hqT, hw2⟩
          · exact absurd h1 (by simp)
      rw [lsF_congr hstep]
      -- the next one
      obtain ⟨p, hp, hpT, hwp⟩ := hw
      obtain ⟨p', e4, hp'⟩ := hP v _ hp
      have e5 : p = p' := by omega
      subst e5
      have hD : Dst P T s (k + 1) p := ⟨hwp, fun m hm hw2 => hmin (m + 1) (by omega) (by omega) ⟨p, hp, hpT, hw2⟩⟩
      obtain ⟨s1, s2, _⟩ := lsF_spec (M := Mc P T s) (left := ((k + 1 : Nat) : Int)) (L := P.getD v []) (fun x hx => by obtain ⟨q, e, _⟩ := hP v x hx; omega) ⟨_, hp, Mc_iff.2 ⟨p, rfl, hp', hpT, hD⟩⟩
      rw [lsF_congr hstep] at s1 s2
      obtain ⟨u, e6, hu, huT, hDu⟩ := Mc_iff.1 s2
      rw [e6, ih u hu hDu.1 (fun m _ hm => hDu.2 m hm)]
  have hl := hL.1
  refine key (L - 1) s hsn (by rw [Nat.sub_add_cancel hl]; exact hL.2.1) (fun m h1 h2 => hL.2.2 m h1 (by omega))
end
/-- The rounds of Cycle, by the document's words. -/
theorem cySt_doc {P : List (List Int)} (hP : WfP P) : ∀ k, k ≤ P.length → (∀ i : Nat, i < k → (i : Int) ∈ (cySt P k).1) ∧ Pts P.length (cySt P k).1 ∧ GdS P k (cySt P k).1 ∧
    (((cySt P k).2.1 = [] ∧ (cySt P k).2.2 = P.length ∧ ∀ s, s < k → ∀ m, 1 ≤ m → ¬ Wk P (lowL s) s m s) ∨
     ∃ s L, s < k ∧ MinC P (lowL s) s L ∧ (cySt P k).2.1 = (s : Int) :: wyD P s (L - 1) (s : Int) ∧ (cySt P k).2.2 = L - 1 ∧ (∀ s', s' < k → ∀ m, 1 ≤ m → m < L → ¬ Wk P (lowL s') s' m s') ∧ ∀ s', s' < s → ¬ Wk P (lowL s') s' L s') := by
  intro k
  induction k with
  | zero =>
    intro _
    have e : cySt P 0 = (outL P, [], P.length) := rfl
    have hpn : Pts P.length ([] : List Int) := ⟨List.nodup_nil, by simp⟩
    obtain ⟨_, a, _, _⟩ := out_all (P := P) P.length [] hpn
    rw [e]
    exact ⟨fun i hi => by omega, a, GdS.out _ _ (fun j x hx => by simp at hx), Or.inl ⟨rfl, rfl, fun s hs => by omega⟩⟩
  | succ k ih =>
    intro hk
    obtain ⟨h1, h2, h3, h4⟩ := ih (by omega)
    rw [cySt_succ]
    generalize cySt P k = st at h1 h2 h3 h4 ⊢
    obtain ⟨T, best, most⟩ := st
    unfold cyStep
    have hlow : ∀ i : Nat, i < k → (i : Int) ∈ T := h1
    have hG : GdS P k T := h3
    by_cases hkT : (k : Int) ∈ T
    · rw [if_pos hkT]
      have hno := hG.none h2.1 hkT
      refine ⟨fun i hi => ?_, h2, h3.mono (by omega), ?_⟩
      · rcases Nat.lt_or_ge i k with e | e
        · exact h1 i e
        · have : i = k := by omega
          subst this; exact hkT
      · rcases h4 with ⟨g1, g2, g3⟩ | ⟨s, L, g1, g2, g3, g4, g5, g6⟩
        · refine Or.inl ⟨g1, g2, fun s hs m hm => ?_⟩
          rcases Nat.lt_or_ge s k with e | e
          · exact g3 s e m hm
          · have : s = k := by omega
            subst this; exact hno m hm
        · refine Or.inr ⟨s, L, by omega, g2, g3, g4, fun s' hs' m hm hm2 => ?_, g6⟩
          rcases Nat.lt_or_ge s' k with e | e
          · exact g5 s' e m hm hm2
          · have : s' = k := by omega
            subst this; exact hno m hm
    · rw [if_neg hkT]
      have hp := h2.snoc (show k < P.length by omega) hkT
      obtain ⟨_, b, c, _⟩ := out_all (P := P) (P.length - (T ++ [(k : Int)]).length) (T ++ [(k : Int)]) hp
      refine ⟨fun i hi => c _ ?_, b, GdS.out _ _ ((hG.mono (by omega)).snoc (Or.inl (by omega))), ?_⟩
      · rcases Nat.lt_or_ge i k with e | e
        · exact List.mem_append_left _ (h1 i e)
        · have : i = k := by omega
          subst this; simp
      · have hkn : k < P.length := by omega
        rcases hb : bkF P T k most with _ | cc
        · simp only [Option.getD_none]
          rcases h4 with ⟨g1, g2, g3⟩ | ⟨s, L, g1, g2, g3, g4, g5, g6⟩
          · have e2 : most = P.length := g2
            have hno := bkF_no hP hkn hkT (by omega) hb
            refine Or.inl ⟨g1, e2, fun s hs m hm => ?_⟩
            rcases Nat.lt_or_ge s k with e | e
            · exact g3 s e m hm
            · have : s = k := by omega
              subst this; exact fun hw => hno m hm (wk_up hG hkT _ _ hw)
          · have e2 : most = L - 1 := g4
            refine Or.inr ⟨s, L, by omega, g2, g3, e2, fun s' hs' m hm hm2 => ?_, g6⟩
            rcases Nat.lt_or_ge s' k with e | e
            · exact g5 s' e m hm hm2
            · have : s' = k := by omega
              subst this
              intro hw
              obtain ⟨L', hL'⟩ := minC_of hm (wk_up hG hkT _ _ hw)
              have hle : L' ≤ m := Nat.le_of_not_lt fun e => hL'.2.2 m hm e (wk_up hG hkT _ _ hw)
              have := bkF_some (most := most) hL' (by omega) (Mc_mx P T s' L')
              rw [hb] at this
              exact absurd this (by simp)
        · simp only [Option.getD_some]
          have hb2 := hb
          unfold bkF at hb2
          split at hb2
          · rename_i hh
            obtain ⟨hL, hm⟩ := Classical.choose_spec hh
            generalize Classical.choose hh = L' at hL hm hb2
            simp only [Option.some.injEq] at hb2
            have hlen : cc.length = L' := by rw [← hb2, List.length_cons, wyF_len]; have := hL.1; omega
            have hmin : MinC P (lowL k) k L' := (minC_low hG hkT hlow).1 hL
            have hold : ∀ s', s' < k → ∀ m, 1 ≤ m → m ≤ L' → ¬ Wk P (lowL s') s' m s' := by
              rcases h4 with ⟨g1, g2, g3⟩ | ⟨s, L, g1, g2, g3, g4, g5, g6⟩
              · exact fun s' hs' m h1 _ => g3 s' hs' m h1
              · have e2 : most = L - 1 := g4
                have := g2.1
                exact fun s' hs' m h1 h2 => g5 s' hs' m h1 (by omega)
            refine Or.inr ⟨k, L', by omega, hmin, by rw [← hb2, way_eq hP hG hkn hkT hlow hL], by rw [hlen], fun s' hs' m hm1 hm2 => ?_, fun s' hs' => hold s' hs' L' hL.1 (Nat.le_refl _)⟩
            rcases Nat.lt_or_ge s' k with e | e
            · exact hold s' e m hm1 (by omega)
            · have : s' = k := by omega
              subst this; exact hmin.2.2 m hm1 hm2
          · exact absurd hb2 (by simp)
/-- What the document's search finds first is what Cycle tells. -/
theorem dc_eq {P : List (List Int)} (h : ckE P = 42) {n s : Nat} (hn : 1 ≤ n) (hs : s < P.length) (hw : wkB P s n s = true) (h1 : ∀ n', 1 ≤ n' → n' < n → ∀ s', s' < P.length → wkB P s' n' s' = false) (h2 : ∀ s', s' < s → wkB P s' n s' = false) : (s : Int) :: wyD P s (n - 1) (s : Int) = cyL P := by
  have hz := cl_zero (ck_42 h)
  have hP : WfP P := outs_no hz.1
  have tw : ∀ n' s', 1 ≤ n' → (wkB P s' n' s' = true ↔ Wk P (lowL s') s' n' s') := fun n' s' _ => (wkB_iff hP n' s').trans ⟨fun h => h.1, fun h => ⟨h, Or.inr (Nat.le_refl _)⟩⟩
  obtain ⟨_, _, _, h4⟩ := cySt_doc hP P.length (Nat.le_refl _)
  unfold cyL
  rw [if_pos h]
  rcases h4 with ⟨_, _, g3⟩ | ⟨s0, L, g1, g2, g3, g4, g5, g6⟩
  · exact absurd ((tw n s hn).1 hw) (g3 s hs n hn)
  · have eL : n = L := by
      rcases Nat.lt_trichotomy n L with e | e | e
      · exact absurd ((tw n s hn).1 hw) (g5 s hs n hn e)
      · exact e
      · have := h1 L g2.1 e s0 g1
        rw [(tw L s0 g2.1).2 g2.2.1] at this
        exact absurd this (by simp)
    subst eL
    have es : s = s0 := by
      rcases Nat.lt_trichotomy s s0 with e | e | e
      · exact absurd ((tw n s hn).1 hw) (g6 s e)
      · exact e
      · have := h2 s0 e
        rw [(tw n s0 g2.1).2 g2.2.1] at this
        exact absurd this (by simp)
    subst es
    exact g3.symm
/-- The document's search finds one. -/
theorem dc_some {P : List (List Int)} (h : ckE P = 42) : ∃ n s, 1 ≤ n ∧ n ≤ P.length ∧ s < P.length ∧ wkB P s n s = true := by
  have hz := cl_zero (ck_42 h)
  have hP : WfP P := outs_no hz.1
  obtain ⟨_, _, _, h4⟩ := cySt_doc hP P.length (Nat.le_refl _)
  have hne := (cyL_ok h).ne
  unfold cyL at hne
  rw [if_pos h] at hne
  rcases h4 with ⟨g1, _, _⟩ | ⟨s0, L, g1, g2, g3, g4, g5, g6⟩
  · rw [g1] at hne; simp at hne
  · have hlow : (s0 : Int) ∉ lowL s0 := low_no.2 (Nat.le_refl _)
    exact ⟨L, s0, g2.1, minC_le hP g1 hlow g2, g1, (wkB_iff hP _ _).2 ⟨g2.2.1, Or.inr (Nat.le_refl _)⟩⟩
end Go.Proofs.YthdpomgpcblpeaaGreat

namespace Go.Proofs.YthdpomgpcblpeaaGreat
set_option linter.unusedVariables false
open Go.RowKit
/-- A row of yes and no. -/
def rowB (N : Nat) (f : Nat → Bool) : List Bool := (List.range N).map f
theorem rowB_len (N : Nat) (f : Nat → Bool) : (rowB N f).length = N := by simp [rowB]
theorem rowB_get {N : Nat} {f : Nat → Bool} {v : Nat} (h : v < N) : (rowB N f)[v]? = some (f v) := by
  unfold rowB
  rw [List.getElem?_map, List.getElem?_range h]; rfl
theorem rowB_congr {N : Nat} {f g : Nat → Bool} (h : ∀ v, v < N → f v = g v) : rowB N f = rowB N g := by
  unfold rowB
  exact List.map_congr_left fun v hv => h v (by simpa using hv)
theorem rowB_none {N : Nat} {f : Nat → Bool} {v : Nat} (h : ¬ v < N) : (rowB N f)[v]? = none := List.getElem?_eq_none (by rw [rowB_len]; omega)
theorem rowB_set {N : Nat} {f : Nat → Bool} {v : Nat} (b : Bool) : (rowB N f).set v b = rowB N (fun u => if u = v then b else f u) := by
  apply List.ext_getElem?
  intro u
  rw [List.getElem?_set, rowB_len]
  by_cases hu : u < N
  · rw [rowB_get hu, rowB_get hu]
    by_cases e : v = u
    · subst e; simp [hu]
    · rw [if_neg e, if_neg (fun e2 => e e2.symm)]
  · rw [rowB_none hu, rowB_none hu]
    by_cases e : v = u
    · subst e; simp [hu]
    · rw [if_neg e]
theorem rowB_no (N : Nat) : List.replicate N false = rowB N (fun _ => false) := by
  apply List.ext_getElem?
  intro u
  by_cases hu : u < N
  · rw [rowB_get hu, List.getElem?_replicate, if_pos hu]
  · rw [rowB_none hu, List.getElem?_eq_none (by rw [List.length_replicate]; omega)]
/-- The next row, while points are gone through: point v's first k parents. -/
def nxB (P : List (List Int)) (s : Nat) (f : Nat → Bool) (v k u : Nat) : Bool :=
  if u < v then decide (s ≤ u) && (P.getD u []).any (fun p => decide ((s : Int) ≤ p) && f p.toNat) else if u = v then ((P.getD u []).take k).any (fun p => decide ((s : Int) ≤ p) && f p.toNat) else false
theorem nxB_start (P : List (List Int)) (s : Nat) (f : Nat → Bool) (u : Nat) : nxB P s f s 0 u = false := by
  unfold nxB
  by_cases h : u < s
  · rw [if_pos h, decide_eq_false (by omega)]; rfl
  · rw [if_neg h]
    split <;> simp
theorem nxB_next {P : List (List Int)} {s : Nat} {f : Nat → Bool} {v k : Nat} (hv : s ≤ v) (hk : (P.getD v []).length ≤ k) (u : Nat) : nxB P s f v k u = nxB P s f (v + 1) 0 u := by
  unfold nxB
  by_cases h : u < v
  · rw [if_pos h, if_pos (by omega)]
  · rw [if_neg h]
    by_cases e : u = v
    · subst e
      rw [if_pos rfl, if_pos (by omega), List.take_of_length_le hk, decide_eq_true hv, Bool.true_and]
    · rw [if_neg e, if_neg (by omega)]
      split
      · simp
      · rfl
theorem nxB_step {P : List (List Int)} {s : Nat} {f : Nat → Bool} {v k : Nat} {p : Int} (hp : (P.getD v [])[k]? = some p) (u : Nat) : (if u = v then (nxB P s f v k v || (decide ((s : Int) ≤ p) && f p.toNat)) else nxB P s f v k u) = nxB P s f v (k + 1) u := by
  unfold nxB
  by_cases e : u = v
  · subst e
    rw [if_pos rfl, if_neg (by omega), if_pos rfl, if_neg (by omega), if_pos rfl, List.take_add_one, hp, List.any_append]
    simp
  · rw [if_neg e]
    split
    · rfl
    · simp
theorem nxB_end {P : List (List Int)} {s i N u : Nat} (hu : u < N) : nxB P s (fun v => wkB P s i v) N 0 u = wkB P s (i + 1) u := by
  unfold nxB
  rw [if_pos hu]
  conv => rhs; unfold wkB
end Go.Proofs.YthdpomgpcblpeaaGreat

namespace Go.Proofs.YthdpomgpcblpeaaGreat
set_option linter.unusedVariables false
open Go.RowKit
/-- Nothing leads out. -/
def CloB (C : List (List Int)) (n : Nat) (I : Nat → Bool) : Prop := ∀ v, v < n → I v = true → ∀ y ∈ C.getD v [], I y.toNat = true
def cntB (n : Nat) (I : Nat → Bool) : Nat := (List.range n).countP I
theorem cntB_le (n : Nat) (I : Nat → Bool) : cntB n I ≤ n := by
  have := List.countP_le_length (p := I) (l := List.range n)
  rwa [List.length_range] at this
theorem cntB_mono {I J : Nat → Bool} (h : ∀ v, I v = true → J v = true) : ∀ n, cntB n I ≤ cntB n J := fun n => List.countP_mono_left fun v _ => h v
theorem cntB_lt {I J : Nat → Bool} (h : ∀ v, I v = true → J v = true) {x : Nat} (h1 : I x = false) (h2 : J x = true) : ∀ n, x < n → cntB n I + 1 ≤ cntB n J := by
  intro n
  induction n with
  | zero => intro h; omega
  | succ n ih =>
    intro hx
    have e : ∀ K : Nat → Bool, cntB (n + 1) K = cntB n K + if K n then 1 else 0 := fun K => by
      unfold cntB
      rw [List.range_succ, List.countP_append, List.countP_singleton]
    rw [e, e]
    rcases Nat.lt_or_ge x n with hl | hl
    · have := ih hl
      by_cases hi : I n = true
      · rw [if_pos hi, if_pos (h n hi)]; omega
      · rw [if_neg hi]; split <;> omega
    · have : x = n := by omega
      subst this
      have := cntB_mono h x
      rw [h1, h2]
      simp
      omega
/-- Behind so many rounds. -/
structure ClR (C : List (List Int)) (n : Nat) (pts : List Int) (r : Nat) (I : Nat → Bool) : Prop where
  snd : ∀ v, v < n → I v = true → RchP C pts (v : Int)
  pt : ∀ x ∈ pts, I x.toNat = true
  grow : CloB C n I ∨ r + 1 ≤ cntB n I
/-- Within a round: points below i are done, and the first k of point i. -/
structure ClK (C : List (List Int)) (n : Nat) (pts : List Int) (I0 : Nat → Bool) (i k : Nat) (I : Nat → Bool) : Prop where
  mono : ∀ v, I0 v = true → I v = true
  snd : ∀ v, v < n → I v = true → RchP C pts (v : Int)
  stay : CloB C n I0 → ∀ v, I v = I0 v
  don : ∀ u, u < i → I0 u = true → ∀ y ∈ C.getD u [], I y.toNat = true
  cur : I0 i = true → ∀ y ∈ (C.getD i []).take k, I y.toNat = true
theorem ClR.start {C : List (List Int)} {n : Nat} {pts : List Int} (hp : ∀ x ∈ pts, 0 ≤ x ∧ x < (n : Int)) : ClR C n pts 0 (fun v => decide ((v : Int) ∈ pts)) := by
  refine ⟨fun v _ h => ⟨(v : Int), by simpa using h, 0, rfl⟩, fun x hx => ?_, ?_⟩
  · have e : ((x.toNat : Nat) : Int) = x := by have := hp x hx; omega
    rw [decide_eq_true_eq, e]; exact hx
  · by_cases h0 : ∃ x, x ∈ pts
    · obtain ⟨x, hx⟩ := h0
      right
      have hx2 := hp x hx
      have e : ((x.toNat : Nat) : Int) = x := by omega
      have := cntB_lt (I := fun _ => false) (J := fun v => decide ((v : Int) ∈ pts)) (fun v h => by simp at h) (x := x.toNat) rfl (by rw [decide_eq_true_eq, e]; exact hx) n (by omega)
      omega
    · left
      intro v _ h
      rw [decide_eq_true_eq] at h
      exact absurd ⟨_, h⟩ h0
theorem ClR.open {C : List (List Int)} {n : Nat} {pts : List Int} {r : Nat} {I : Nat → Bool} (h : ClR C n pts r I) : ClK C n pts I 0 0 I :=
  ⟨fun _ h => h, h.snd, fun _ _ => rfl, fun u hu => by omega, fun _ y hy => by simp at hy⟩
theorem ClK.set {C : List (List Int)} {n : Nat} {pts : List Int} {I0 I : Nat → Bool} {i k : Nat} (h : ClK C n pts I0 i k I) (hi : i < n) (hI : I i = true) {p : Nat} (hp : (C.getD i [])[k]? = some (p : Int)) : ClK C n pts I0 i (k + 1) (fun u => if u = p then true else I u) := by
  have hm : ∀ v, I v = true → (if v = p then true else I v) = true := fun v hv => by split <;> simp [hv]
  have hmem : (p : Int) ∈ C.getD i [] := List.mem_of_getElem? hp
  refine ⟨fun v hv => hm v (h.mono v hv), fun v hv h2 => ?_, fun hc v => ?_, fun u hu h0 y hy => hm _ (h.don u hu h0 y hy), fun h0 y hy => ?_⟩
  · by_cases e : v = p
    · subst e
      obtain ⟨x, hx, m, hr⟩ := h.snd i hi hI
      exact ⟨x, hx, m + 1, rn_snoc m x (i : Int) (v : Int) hr (by rw [Int.toNat_natCast]; exact hmem)⟩
    · simp only [if_neg e] at h2
      exact h.snd v hv h2
  · have hs := h.stay hc
    by_cases e : v = p
    · subst e
      have h1 := hc i hi (by rw [← hs]; exact hI) _ hmem
      rw [Int.toNat_natCast] at h1
      simp [h1]
    · simp only [if_neg e]; exact hs v
  · rw [List.take_add_one, hp] at hy
    rcases List.mem_append.1 hy with e | e
    · exact hm _ (h.cur h0 y e)
    · have e2 : y = (p : Int) := by simpa using e
      rw [e2, Int.toNat_natCast]; simp
theorem ClK.next {C : List (List Int)} {n : Nat} {pts : List Int} {I0 I : Nat → Bool} {i k : Nat} (h : ClK C n pts I0 i k I) (hk : (C.getD i []).length ≤ k ∨ I i = false) : ClK C n pts I0 (i + 1) 0 I := by
  refine ⟨h.mono, h.snd, h.stay, fun u hu h0 y hy => ?_, fun _ y hy => by simp at hy⟩
  rcases Nat.lt_or_ge u i with e | e
  · exact h.don u e h0 y hy
  · have : u = i := by omega
    subst this
    rcases hk with hk | hk
    · exact h.cur h0 y (by rw [List.take_of_length_le hk]; exact hy)
    · rw [h.mono u h0] at hk; exact absurd hk (by simp)
theorem ClK.done {C : List (List Int)} {n : Nat} {pts : List Int} {r : Nat} {I0 I : Nat → Bool} (h0 : ClR C n pts r I0) (hC : ∀ (v : Nat) (y : Int), y ∈ C.getD v [] → y.toNat < n) (h : ClK C n pts I0 n 0 I) : ClR C n pts (r + 1) I := by
  refine ⟨h.snd, fun x hx => h.mono _ (h0.pt x hx), ?_⟩
  rcases Classical.em (CloB C n I0) with hc | hc
  · left
    intro v hv h1 y hy
    rw [h.stay hc] at h1 ⊢
    exact hc v hv h1 y hy
  · right
    rcases h0.grow with hg | hg
    · exact absurd hg hc
    · obtain ⟨v, hv⟩ := Classical.not_forall.1 hc
      obtain ⟨hvn, hv⟩ := Classical.not_imp.1 hv
      obtain ⟨h1, hv⟩ := Classical.not_imp.1 hv
      obtain ⟨y, hv⟩ := Classical.not_forall.1 hv
      obtain ⟨hy, hv⟩ := Classical.not_imp.1 hv
      have := cntB_lt h.mono (x := y.toNat) (by simpa using hv) (h.don v hvn h1 y hy) n (hC v y hy)
      omega
theorem ClR.end {C : List (List Int)} {n : Nat} {pts : List Int} {I : Nat → Bool} (h : ClR C n pts n I) (hp : ∀ x ∈ pts, 0 ≤ x ∧ x < (n : Int)) (hC : ∀ (v : Nat) (y : Int), y ∈ C.getD v [] → 0 ≤ y ∧ y.toNat < n) {v : Nat} (hv : v < n) : I v = true ↔ RchP C pts (v : Int) := by
  refine ⟨h.snd v hv, ?_⟩
  have hc : CloB C n I := by
    rcases h.grow with hg | hg
    · exact hg
    · have := cntB_le n I; omega
  rintro ⟨x, hx, m, hr⟩
  have key : ∀ (m : Nat) (x : Int), 0 ≤ x → x.toNat < n → I x.toNat = true → Rn C m x (v : Int) → I v = true := by
    intro m
    induction m with
    | zero => intro x _ _ hI hr
              have e : x = (v : Int) := hr
              subst e; rw [Int.toNat_natCast] at hI; exact hI
    | succ m ih =>
      rintro x h0 h1 hI ⟨z, hz, hr⟩
      have := hC _ z hz
      exact ih z this.1 this.2 (hc _ h1 hI z hz) hr
  have := hp x hx
  exact key m x this.1 (by omega) (h.pt x hx) hr
theorem rn_ptB {C : List (List Int)} {n : Nat} (hC : ∀ (v : Nat) (y : Int), y ∈ C.getD v [] → 0 ≤ y ∧ y.toNat < n) : ∀ (m : Nat) (x y : Int), (0 ≤ x ∧ x < (n : Int)) → Rn C m x y → 0 ≤ y ∧ y < (n : Int)
  | 0, x, y, h, e => by have e2 : x = y := e
                        subst e2; exact h
  | m + 1, x, y, _, ⟨z, hz, h⟩ => rn_ptB hC m z y (by have := hC _ z hz; omega) h
/-- Those that are in, rising. -/
def inL (n : Nat) (I : Nat → Bool) : List Int := ((List.range n).filter I).map Int.ofNat
theorem inL_step (i : Nat) (I : Nat → Bool) : inL (i + 1) I = if I i = true then inL i I ++ [(i : Int)] else inL i I := by
  unfold inL
  rw [List.range_succ, List.filter_append, List.map_append]
  by_cases h : I i = true
  · rw [if_pos h]; simp [h]
  · rw [if_neg h]; simp [h]
theorem inL_mem {n : Nat} {I : Nat → Bool} {x : Int} : x ∈ inL n I ↔ ∃ v : Nat, v < n ∧ x = (v : Int) ∧ I v = true := by
  unfold inL
  rw [List.mem_map]
  constructor
  · rintro ⟨v, hv, e⟩
    rw [List.mem_filter] at hv
    exact ⟨v, by simpa using hv.1, e.symm, hv.2⟩
  · rintro ⟨v, h1, h2, h3⟩
    exact ⟨v, List.mem_filter.2 ⟨by simpa using h1, h3⟩, h2.symm⟩
theorem inL_len (n : Nat) (I : Nat → Bool) : (inL n I).length ≤ n := by
  unfold inL
  rw [List.length_map]
  have := List.length_filter_le I (List.range n)
  rwa [List.length_range] at this
theorem inL_rise (n : Nat) (I : Nat → Bool) : (inL n I).Pairwise (· < ·) := by
  unfold inL
  rw [List.pairwise_map]
  exact (List.pairwise_lt_range.filter _).imp fun {a b} h => by show (Int.ofNat a) < Int.ofNat b; exact Int.ofNat_lt.2 h
end Go.Proofs.YthdpomgpcblpeaaGreat

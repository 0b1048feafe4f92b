/-
  Proved here, plain mathematics: where some points can't be put out there is a way back; the one that Cycle tells is one: each of its points hangs on the next, the last on the first, none comes twice, the first is the least.
-/
import Derived.Test.YtcadljpdokhpmabGreatDagCyDAll
namespace Go.Proofs.YtcadljpdokhpmabGreat
set_option linter.unusedVariables false
section
variable {P : List (List Int)} {T : List Int}
theorem wk_trans {s u : Nat} {a : Nat} (h : Wk P T s a u) : ∀ (b v : Nat), Wk P T u b v → Wk P T s (b + a) v := by
  intro b
  induction b with
  | zero => intro v hv; have e : v = u := hv
            subst e; rw [Nat.zero_add]; exact h
  | succ b ih =>
    rintro v ⟨p, h1, h2, h3⟩
    rw [Nat.succ_add]
    exact ⟨p, h1, h2, ih p h3⟩
/-- A walk avoids a point that can be put out. -/
theorem wk_rdy {s i : Nat} (hi : ∀ p ∈ P.getD i [], p ∈ T) (hs : s ≠ i) : ∀ (m v : Nat), Wk P T s m v → Wk P (T ++ [(i : Int)]) s m v := by
  intro m
  induction m with
  | zero => intro v h; exact h
  | succ m ih =>
    rintro v ⟨p, h1, h2, h3⟩
    refine ⟨p, h1, fun hm => ?_, ih p h3⟩
    rcases List.mem_append.1 hm with e | e
    · exact h2 e
    · rw [List.mem_singleton] at e
      have e2 : p = i := by omega
      subst e2
      cases m with
      | zero => exact hs h3.symm
      | succ m => obtain ⟨q, q1, q2, _⟩ := h3; exact q2 (hi _ q1)
/-- A walk that meets a point, or not. -/
theorem wk_split {s k : Nat} (hk : (k : Int) ∉ T) : ∀ (m v : Nat), Wk P T s m v → Wk P (T ++ [(k : Int)]) s m v ∨ ∃ a b, Wk P T k b v ∧ Wk P T s a k ∧ b + a = m := by
  intro m
  induction m with
  | zero => intro v h; exact Or.inl h
  | succ m ih =>
    rintro v ⟨p, h1, h2, h3⟩
    by_cases e : p = k
    · subst e; exact Or.inr ⟨m, 1, ⟨p, h1, h2, rfl⟩, h3, by omega⟩
    · rcases ih p h3 with h | ⟨a, b, g1, g2, g3⟩
      · refine Or.inl ⟨p, h1, fun hm => ?_, h⟩
        rcases List.mem_append.1 hm with e2 | e2
        · exact h2 e2
        · rw [List.mem_singleton] at e2; omega
      · exact Or.inr ⟨a, b + 1, ⟨p, h1, h2, g1⟩, g2, by omega⟩
/-- A way back among what is not out. -/
def HasC (P : List (List Int)) (T : List Int) : Prop := ∃ v m : Nat, v < P.length ∧ (v : Int) ∉ T ∧ 1 ≤ m ∧ Wk P T v m v
theorem HasC.rdy {i : Nat} (h : HasC P T) (hi : ∀ p ∈ P.getD i [], p ∈ T) : HasC P (T ++ [(i : Int)]) := by
  obtain ⟨v, m, h1, h2, h3, h4⟩ := h
  have hne : v ≠ i := fun e => by
    subst e
    obtain ⟨k, rfl⟩ : ∃ k, m = k + 1 := ⟨m - 1, by omega⟩
    obtain ⟨q, q1, q2, _⟩ := h4
    exact q2 (hi _ q1)
  refine ⟨v, m, h1, fun hm => ?_, h3, wk_rdy hi hne m v h4⟩
  rcases List.mem_append.1 hm with e | e
  · exact h2 e
  · rw [List.mem_singleton] at e; omega
theorem HasC.skip {k : Nat} (h : HasC P T) (hk : (k : Int) ∉ T) (hn : ∀ m, 1 ≤ m → ¬ Wk P T k m k) : HasC P (T ++ [(k : Int)]) := by
  obtain ⟨v, m, h1, h2, h3, h4⟩ := h
  have hne : v ≠ k := fun e => by subst e; exact hn m h3 h4
  rcases wk_split hk m v h4 with h | ⟨a, b, g1, g2, g3⟩
  · refine ⟨v, m, h1, fun hm => ?_, h3, h⟩
    rcases List.mem_append.1 hm with e | e
    · exact h2 e
    · rw [List.mem_singleton] at e; omega
  · exact absurd (wk_trans g1 a k g2) (hn _ (by omega))
/-- Where each that is left hangs on one that is left there is a way back. -/
theorem hasC_of (hP : WfP P) {u : Nat} (hu : u < P.length) (huT : (u : Int) ∉ T) (hno : ∀ i, i < P.length → ¬ rdy P T i) : HasC P T := by
  rcases Classical.em (HasC P T) with h | hc
  · exact h
  · exfalso
    have key : ∀ t : Nat, ∃ (x : Nat) (l : List Int), l.length = t ∧ Pts P.length ((x : Int) :: l) ∧ (x : Int) ∉ T ∧ ∀ y : Nat, (y : Int) ∈ (x : Int) :: l → ∃ m, Wk P T x m y := by
      intro t
      induction t with
      | zero => exact ⟨u, [], rfl, ⟨by simp, fun x hx => by simp at hx; omega⟩, huT, fun y hy => by
          simp at hy
          exact ⟨0, by show y = u; omega⟩⟩
      | succ t ih =>
        obtain ⟨x, l, hl, hp, hx, hw⟩ := ih
        have hxn : x < P.length := by have := hp.2 (x : Int) (by simp); omega
        have hnr := hno x hxn
        have : ∃ p ∈ P.getD x [], p ∉ T := by
          rcases Classical.em (∃ p ∈ P.getD x [], p ∉ T) with h | h
          · exact h
          · exact absurd ⟨hx, fun p hp => Classical.byContradiction fun hpT => h ⟨p, hp, hpT⟩⟩ hnr
        obtain ⟨p0, hp0, hpT⟩ := this
        obtain ⟨p, rfl, hpn⟩ := hP x p0 hp0
        have h1 : Wk P T p 1 x := ⟨p, hp0, hpT, rfl⟩
        have hnew : (p : Int) ∉ (x : Int) :: l := fun hm => by
          obtain ⟨m, hm⟩ := hw p hm
          exact hc ⟨p, m + 1, hpn, hpT, by omega, wk_trans h1 m p hm⟩
        refine ⟨p, (x : Int) :: l, by simp [hl], ⟨List.nodup_cons.2 ⟨hnew, hp.1⟩, fun y hy => ?_⟩, hpT, fun y hy => ?_⟩
        · rcases List.mem_cons.1 hy with e | e
          · subst e; omega
          · exact hp.2 y e
        · rcases List.mem_cons.1 hy with e | e
          · exact ⟨0, by show y = p; omega⟩
          · obtain ⟨m, hm⟩ := hw y e
            exact ⟨m + 1, wk_trans h1 m y hm⟩
    obtain ⟨x, l, hl, hp, _⟩ := key P.length
    have := hp.len
    rw [List.length_cons, hl] at this
    omega
/-- What the points that can be put out leave. -/
theorem out_all : ∀ (f : Nat) (T : List Int), Pts P.length T → (HasC P T → HasC P (outF P f T)) ∧ Pts P.length (outF P f T) ∧ (∀ x ∈ T, x ∈ outF P f T) ∧ (f = P.length - T.length → ∀ i, i < P.length → ¬ rdy P (outF P f T) i) := by
  intro f
  induction f with
  | zero =>
    intro T hT
    refine ⟨id, hT, fun _ h => h, fun e i hi hr => ?_⟩
    have := (hT.snoc hi hr.1).len
    rw [List.length_append, List.length_singleton] at this
    omega
  | succ f ih =>
    intro T hT
    rcases hn : nxtF P T with _ | i
    · have e : outF P (f + 1) T = T := by rw [outF, hn]
      rw [e]
      refine ⟨id, hT, fun _ h => h, fun _ i hi hr => ?_⟩
      unfold nxtF at hn
      rw [List.find?_eq_none] at hn
      have := hn i (by simpa using hi)
      simp at this
      exact this hr
    · have e : outF P (f + 1) T = outF P f (T ++ [(i : Int)]) := by rw [outF, hn]
      have hi : i < P.length ∧ rdy P T i := by
        unfold nxtF at hn
        have h1 := List.find?_some hn
        have h2 := List.mem_of_find?_eq_some hn
        exact ⟨by simpa using h2, by simpa using h1⟩
      obtain ⟨a, b, c, d⟩ := ih (T ++ [(i : Int)]) (hT.snoc hi.1 hi.2.1)
      rw [e]
      refine ⟨fun h => a (h.rdy hi.2.2), b, fun x hx => c x (List.mem_append_left _ hx), fun hf => d ?_⟩
      rw [List.length_append, List.length_singleton]
      omega
end
/-- A way that leads back. -/
structure CyOk (P : List (List Int)) (c : List Int) : Prop where
  ne : 0 < c.length
  pt : ∀ (i : Nat) (x : Int), c[i]? = some x → ∃ v : Nat, x = (v : Int) ∧ v < P.length
  nx : ∀ (i : Nat) (x y : Int), c[i]? = some x → c[(i + 1) % c.length]? = some y → y ∈ P.getD x.toNat []
  nd : c.Nodup
  ge : ∀ (i : Nat) (x y : Int), c[i]? = some x → c[0]? = some y → y ≤ x
/-- The shortest way back is one. -/
theorem way_ok {P : List (List Int)} {T : List Int} {s L : Nat} (hP : WfP P) (hs : s < P.length) (hsT : (s : Int) ∉ T) (hL : MinC P T s L) :
    let c := (s : Int) :: wyF P (Mc P T s) (L - 1) (s : Int)
    c.length = L ∧ c.Nodup ∧ (∀ (i : Nat) (x : Int), c[i]? = some x → ∃ v : Nat, x = (v : Int) ∧ v < P.length ∧ (v : Int) ∉ T) ∧ (∀ (i : Nat) (x y : Int), c[i]? = some x → c[(i + 1) % c.length]? = some y → y ∈ P.getD x.toNat []) := by
  intro c
  have hl0 := hL.1
  have hlen : c.length = L := by show ((s : Int) :: _).length = L; rw [List.length_cons, wyF_len]; omega
  have hat := way_at hP hs hsT hL (Mc_mx P T s L)
  have hdist : ∀ (i j : Nat) (x : Int), i < j → c[i]? = some x → c[j]? = some x → False := by
    intro i j x hij h1 h2
    have hj : j < L := by have := (List.getElem?_eq_some_iff.1 h2).1; omega
    obtain ⟨v, g1, _, _, g4, g5⟩ := hat i (by omega)
    obtain ⟨u, k1, _, _, k4, k5⟩ := hat j hj
    have e1 : x = (v : Int) := by have := h1.symm.trans g1; simpa using this
    have e2 : x = (u : Int) := by have := h2.symm.trans k1; simpa using this
    have e3 : v = u := by omega
    subst e3
    have hd := k5 (by omega)
    rcases Nat.eq_zero_or_pos i with e | e
    · have := g4 e
      subst this
      exact hd.2 0 (by omega) rfl
    · have := (g5 e).uniq hd
      omega
  refine ⟨hlen, ?_, fun i x hx => ?_, fun i x y hx hy => ?_⟩
  · rw [List.nodup_iff_pairwise_ne, List.pairwise_iff_getElem]
    intro i j hi hj hij e
    exact hdist i j c[i] hij (List.getElem?_eq_getElem hi) (by rw [e]; exact List.getElem?_eq_getElem hj)
  · have hi : i < L := by have := (List.getElem?_eq_some_iff.1 hx).1; omega
    obtain ⟨v, g1, g2, g3, _⟩ := hat i hi
    have e1 : x = (v : Int) := by have := hx.symm.trans g1; simpa using this
    exact ⟨v, e1, g2, g3⟩
  · have hi : i < L := by have := (List.getElem?_eq_some_iff.1 hx).1; omega
    obtain ⟨v, g1, g2, g3, g4, g5⟩ := hat i hi
    have e1 : x = (v : Int) := by have := hx.symm.trans g1; simpa using this
    subst e1
    rw [Int.toNat_natCast]
    rw [hlen] at hy
    by_cases hlast : i + 1 < L
    · rw [Nat.mod_eq_of_lt hlast] at hy
      have hst := wy_step P (Mc P T s) (L - 1) (s : Int) i (v : Int) (by omega) g1
      rw [Int.toNat_natCast] at hst
      have e2 : y = lsF (Mc P T s) ((L - 1 - i : Nat) : Int) (P.getD v []) := by have := hy.symm.trans hst; simpa using this
      have hw : Wk P T s (L - i) v := by
        rcases Nat.eq_zero_or_pos i with e | e
        · subst e; rw [g4 rfl]; exact hL.2.1
        · exact (g5 e).1
      have hmin : ∀ m, 1 ≤ m → m < L - i → ¬ Wk P T s m v := by
        rcases Nat.eq_zero_or_pos i with e | e
        · subst e; rw [g4 rfl]; exact hL.2.2
        · exact fun m _ h => (g5 e).2 m h
      have e3 : L - i = (L - 1 - i) + 1 := by omega
      rw [e3] at hw
      obtain ⟨p, hp, hpT, hwp⟩ := hw
      obtain ⟨p', e4, hp'⟩ := hP v _ hp
      have e5 : p = p' := by omega
      subst e5
      have hD : Dst P T s (L - 1 - i) p := ⟨hwp, fun m hm hw2 => hmin (m + 1) (by omega) (by omega) ⟨p, hp, hpT, hw2⟩⟩
      obtain ⟨s1, _, _⟩ := lsF_spec (M := Mc P T s) (left := ((L - 1 - i : Nat) : Int)) (L := P.getD v []) (fun x hx => by obtain ⟨q, e, _⟩ := hP v x hx; omega) ⟨_, hp, Mc_iff.2 ⟨p, rfl, hp', hpT, hD⟩⟩
      rw [e2]; exact s1
    · have e2 : i + 1 = L := by omega
      rw [e2, Nat.mod_self] at hy
      have e3 : y = (s : Int) := by have h0 : c[0]? = some (s : Int) := rfl
                                    have := hy.symm.trans h0; simpa using this
      have hw : Wk P T s 1 v := by
        rcases Nat.eq_zero_or_pos i with e | e
        · subst e; have e4 : L = 1 := by omega
          have := hL.2.1; rw [e4] at this; rw [g4 rfl]; exact this
        · have := (g5 e).1; rw [show L - i = 1 by omega] at this; exact this
      obtain ⟨p, hp, _, hwp⟩ := hw
      have e5 : p = s := hwp
      subst e5
      rw [e3]; exact hp
theorem minC_le {P : List (List Int)} {T : List Int} {s L : Nat} (hP : WfP P) (hs : s < P.length) (hsT : (s : Int) ∉ T) (hL : MinC P T s L) : L ≤ P.length := by
  obtain ⟨h1, h2, h3, _⟩ := way_ok hP hs hsT hL
  have : Pts P.length ((s : Int) :: wyF P (Mc P T s) (L - 1) (s : Int)) := ⟨h2, fun x hx => by
    obtain ⟨i, hi, e⟩ := List.getElem_of_mem hx
    obtain ⟨v, e2, h4, _⟩ := h3 i x (by rw [← e]; exact List.getElem?_eq_getElem hi)
    omega⟩
  have := this.len
  rw [h1] at this
  exact this
theorem minC_of {P : List (List Int)} {T : List Int} {s m : Nat} (h1 : 1 ≤ m) (h : Wk P T s m s) : ∃ L, MinC P T s L := by
  have key : ∀ n m, m ≤ n → 1 ≤ m → Wk P T s m s → ∃ L, MinC P T s L := by
    intro n
    induction n with
    | zero => intro m hm h1 _; omega
    | succ n ih =>
      intro m hm h1 h
      rcases Classical.em (∃ m', 1 ≤ m' ∧ m' < m ∧ Wk P T s m' s) with ⟨m', a, b, c⟩ | hno
      · exact ih m' (by omega) a c
      · exact ⟨m, h1, h, fun m' a b c => hno ⟨m', a, b, c⟩⟩
  exact key m m (Nat.le_refl _) h1 h
theorem bkF_ok {P : List (List Int)} {T : List Int} {s most : Nat} {c : List Int} (hP : WfP P) (hs : s < P.length) (hsT : (s : Int) ∉ T) (hlow : ∀ i : Nat, i < s → (i : Int) ∈ T) (h : bkF P T s most = some c) : CyOk P c := by
  unfold bkF at h
  split at h
  · rename_i hh
    have hL := (Classical.choose_spec hh).1
    simp only [Option.some.injEq] at h
    obtain ⟨h1, h2, h3, h4⟩ := way_ok hP hs hsT hL
    rw [← h]
    refine ⟨by rw [h1]; exact hL.1, fun i x hx => by obtain ⟨v, a, b, _⟩ := h3 i x hx; exact ⟨v, a, b⟩, h4, h2, fun i x y hx hy => ?_⟩
    have e : y = (s : Int) := by simpa using hy.symm
    obtain ⟨v, a, _, hv⟩ := h3 i x hx
    rw [e, a]
    rcases Nat.lt_or_ge v s with e2 | e2
    · exact absurd (hlow v e2) hv
    · omega
  · exact absurd h (by simp)
theorem bkF_no {P : List (List Int)} {T : List Int} {s most : Nat} (hP : WfP P) (hs : s < P.length) (hsT : (s : Int) ∉ T) (hm : P.length ≤ most) (h : bkF P T s most = none) : ∀ m, 1 ≤ m → ¬ Wk P T s m s := by
  intro m h1 hw
  obtain ⟨L, hL⟩ := minC_of h1 hw
  have hle := minC_le hP hs hsT hL
  have := bkF_some hL (by omega) (Mc_mx P T s L) (most := most)
  rw [h] at this
  exact absurd this (by simp)
/-- The rounds of Cycle. -/
theorem cySt_ok {P : List (List Int)} (hP : WfP P) (h42 : (outL P).length < P.length) : ∀ k, k ≤ P.length → (∀ i : Nat, i < k → (i : Int) ∈ (cySt P k).1) ∧ Pts P.length (cySt P k).1 ∧ (∀ i, i < P.length → ¬ rdy P (cySt P k).1 i) ∧ (((cySt P k).2.1 = [] ∧ (cySt P k).2.2 = P.length ∧ HasC P (cySt P k).1) ∨ CyOk P (cySt P k).2.1) := by
  intro k
  induction k with
  | zero =>
    intro _
    have e : cySt P 0 = (outL P, [], P.length) := rfl
    have hpn : Pts P.length ([] : List Int) := ⟨List.nodup_nil, by simp⟩
    obtain ⟨_, a, _, b⟩ := out_all (P := P) P.length [] hpn
    have hnr : ∀ i, i < P.length → ¬ rdy P (outL P) i := fun i hi => b (by simp) i hi
    rw [e]
    refine ⟨fun i hi => by omega, a, hnr, Or.inl ⟨rfl, rfl, ?_⟩⟩
    -- one that is left
    have : ∃ u : Nat, u < P.length ∧ (u : Int) ∉ outL P := by
      rcases Classical.em (∃ u : Nat, u < P.length ∧ (u : Int) ∉ outL P) with h | h
      · exact h
      · exfalso
        have hall : ∀ u : Nat, u < P.length → (u : Int) ∈ outL P := fun u hu => Classical.byContradiction fun hn => h ⟨u, hu, hn⟩
        have key : ∀ n (l : List Int), (∀ u : Nat, u < n → (u : Int) ∈ l) → n ≤ l.length := by
          intro n
          induction n with
          | zero => intro l _; exact Nat.zero_le _
          | succ n ih =>
            intro l hl
            have h1 := hl n (by omega)
            have h2 := ih (l.erase (n : Int)) (fun u hu => (List.mem_erase_of_ne (by omega)).2 (hl u (by omega)))
            rw [List.length_erase_of_mem h1] at h2
            have := List.length_pos_of_mem h1
            omega
        have := key P.length (outL P) hall
        omega
    obtain ⟨u, hu, huT⟩ := this
    exact hasC_of hP hu huT hnr
  | succ k ih =>
    intro hk
    obtain ⟨h1, h2, h3, h4⟩ := ih (by omega)
    rw [cySt_succ]
    generalize cySt P k = st at h1 h2 h3 h4 ⊢
    obtain ⟨T, best, most⟩ := st
    unfold cyStep
    by_cases hkT : (k : Int) ∈ T
    · rw [if_pos hkT]
      refine ⟨fun i hi => ?_, h2, h3, h4⟩
      rcases Nat.lt_or_ge i k with e | e
      · exact h1 i e
      · have : i = k := by omega
        subst this; exact hkT
    · rw [if_neg hkT]
      have hp := h2.snoc (show k < P.length by omega) hkT
      obtain ⟨a, b, c, d⟩ := out_all (P := P) (P.length - (T ++ [(k : Int)]).length) (T ++ [(k : Int)]) hp
      refine ⟨fun i hi => c _ ?_, b, d rfl, ?_⟩
      · rcases Nat.lt_or_ge i k with e | e
        · exact List.mem_append_left _ (h1 i e)
        · have : i = k := by omega
          subst this; simp
      · show ((bkF P T k most).getD best = [] ∧ _) ∨ CyOk P ((bkF P T k most).getD best)
        rcases hb : bkF P T k most with _ | c
        · simp only [Option.getD_none]
          rcases h4 with ⟨g1, g2, g3⟩ | g
          · have e2 : most = P.length := g2
            exact Or.inl ⟨g1, e2, a (g3.skip hkT (bkF_no hP (by omega) hkT (by omega) hb))⟩
          · exact Or.inr g
        · exact Or.inr (bkF_ok hP (by omega) hkT h1 hb)
theorem cyL_ok {P : List (List Int)} (h : ckE P = 42) : CyOk P (cyL P) := by
  have hz := cl_zero (ck_42 h)
  have hP : WfP P := outs_no hz.1
  have hlt : (outL P).length < P.length := by
    have h2 := h
    unfold ckE at h2
    rw [if_pos (ck_42 h)] at h2
    split at h2
    · assumption
    · simp at h2
  obtain ⟨h1, _, _, h4⟩ := cySt_ok hP hlt P.length (Nat.le_refl _)
  unfold cyL
  rw [if_pos h]
  rcases h4 with ⟨_, _, v, m, a, b, _⟩ | h4
  · exact absurd (h1 v a) b
  · exact h4
end Go.Proofs.YtcadljpdokhpmabGreat

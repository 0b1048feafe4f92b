/-
  Proved here: package prune's Barren and Kept.
-/
import Derived.Test.YthdpomgpcblpeaaGreatPrB
import Derived.Test.YthdpomgpcblpeaaGreatSpWAll
import Derived.Laws.EntriesVeiled
namespace Go.Proofs.YthdpomgpcblpeaaGreat
set_option linter.unusedVariables false
open Go.RowKit Go.Shelf Go.Sort Go.Lib
/-- What is answered: an error, or the points of a kind, rising. -/
def PrE (B : Nat) (P : List (List Int)) (n : Nat) (a G : List Int) (Q : Int → Prop) (w' : World) (e : Ending) : Prop :=
  ∃ ao k cap L, e = .returned (.tuple #[.slice ao k cap, .int .i64 (nsE P n (a ++ G))]) ∧ OG (Value.int .i64) B 3 w' (.slice ao k cap) L ∧ (nsE P n (a ++ G) ≠ 0 → ao = none ∧ k = 0 ∧ cap = 0 ∧ L = []) ∧ (nsE P n (a ++ G) = 0 → Rise L ∧ ∀ x, x ∈ L ↔ Q x)
/-- What is barren. -/
def BaP (P : List (List Int)) (n : Nat) (a G : List Int) (x : Int) : Prop := ∃ k : Nat, x = (k : Int) ∧ k < n ∧ ¬ RchP P (a ++ G) x
/-- Where a flag is set, something holds. -/
def ImpB (b : Bool) (X : Prop) : Prop := b = true → X
theorem anyW_snoc (ps : List (Nat → Bool)) (p : Nat → Bool) (k : Nat) : anyW (ps ++ [p]) k = (anyW ps k || p k) := by simp [anyW]
theorem lvL_one {n : Nat} {L : List Int} {x : Int} : x ∈ lvL n [fun k => decide ((k : Int) ∈ L)] ↔ ∃ k : Nat, x = (k : Int) ∧ k < n ∧ x ∉ L := by
  rw [lvL_mem]
  refine exists_congr fun k => and_congr_right fun e => and_congr_right fun _ => ?_
  rw [e]
  simp [anyW]
theorem ways_one {W : World} {v x : Value} {p : Nat → Bool} (hr : RG id W v [x]) (h : WayB W x p) : WaysB W v [x] [p] := ⟨hr, rfl, fun i u q hu hq => by
  match i, hu, hq with
  | 0, hu, hq => simp at hu hq; subst hu; subst hq; exact h
  | i + 1, hu, _ => simp at hu⟩
theorem ways_snoc {W' : World} {v' x : Value} {vs : List Value} {ps : List (Nat → Bool)} {p : Nat → Bool} (hl : vs.length = ps.length) (hr : RG id W' v' (vs ++ [x])) (hk : ∀ (i : Nat) (u : Value) (q : Nat → Bool), vs[i]? = some u → ps[i]? = some q → WayB W' u q) (hx : WayB W' x p) : WaysB W' v' (vs ++ [x]) (ps ++ [p]) :=
  ⟨hr, by rw [List.length_append, List.length_append, hl]; rfl, fun i u q hu hq => by
    by_cases hi : i < vs.length
    · rw [List.getElem?_append_left hi] at hu
      rw [List.getElem?_append_left (by rw [← hl]; exact hi)] at hq
      exact hk i u q hu hq
    · have h3 := (List.getElem?_eq_some_iff.1 hu).1
      rw [List.length_append, List.length_singleton] at h3
      have e : i = vs.length := by omega
      subst e
      rw [List.getElem?_append_right (Nat.le_refl _), Nat.sub_self] at hu
      rw [List.getElem?_append_right (by rw [hl]; exact Nat.le_refl _), hl, Nat.sub_self] at hq
      simp at hu hq
      subst hu; subst hq
      exact hx⟩
set_option maxRecDepth 1000000 in
set_option maxHeartbeats 6400000 in
theorem barrenS (pv av qv : Value) (pvs : List Value) (P : List (List Int)) (a G : List Int) (w : World) (h : RRD w pv pvs P) (n : Nat) (hn : P.length = n) (hb : n ≤ 100000) (hbl : ∀ i, (P.getD i []).length ≤ 100000) (ha : RG (Value.int .i64) w av a) (hal : a.length ≤ 500000) (hq : RG (Value.int .i64) w qv G) (hql : G.length ≤ 500000) :
    Calls Tryz.prog 15 #[pv, av, qv] w fun e w' => PrE w.heap.size P n a G (BaP P n a G) w' e ∧ Below w.heap.size w w' := by
  obtain ⟨po, pn, pc, rfl⟩ : ∃ o n c, pv = .slice o n c := by obtain ⟨ao, cap, e⟩ := h.out.sl; exact ⟨_, _, _, e⟩
  obtain rfl : pn = n := by rw [← hn, ← h.len, h.out.len]
  obtain ⟨ao, an, ac, rfl⟩ : ∃ o n c, av = .slice o n c := by obtain ⟨ao, cap, e⟩ := ha.sl; exact ⟨_, _, _, e⟩
  obtain ⟨qo, qn, qc, rfl⟩ : ∃ o n c, qv = .slice o n c := by obtain ⟨ao, cap, e⟩ := hq.sl; exact ⟨_, _, _, e⟩
  obtain ⟨W1, hW1⟩ : ∃ W, W = w.alloc (.cells #[.slice ao an ac, .slice qo qn qc] 23) := ⟨_, rfl⟩
  obtain ⟨g1, hg1⟩ : ∃ g, g = w.heap.size := ⟨_, rfl⟩
  have hb1 : Below w.heap.size w W1 := by rw [hW1]; exact belowB _ _
  have hrr : RR (Value.int .i64) W1 (.slice (some ⟨g1, 0, none⟩) 2 2) [a, G] := by
    rw [hW1]
    exact rr_two (by rw [hg1]; exact OG.lit (enc := id) 23 w [.slice ao an ac, .slice qo qn qc] (by unfold maxLen; simp)) ha hq
  have hfl : [a, G].flatten = a ++ G := by simp
  have CC : Hid _ := concatI _ _ W1 hrr (by rw [hfl, List.length_append]; omega) (by simp)
  rw [hfl] at CC
  have HR : Hid (RRD w (.slice po pn pc) pvs P) := h
  have HN : Hid (P.length = pn) := hn
  have HBL : Hid (∀ i, (P.getD i []).length ≤ 100000) := hbl
  have HL : Hid ((a ++ G).length ≤ 1100000) := by show _ ≤ _; rw [List.length_append]; omega
  have HB1 : Hid (Below w.heap.size w W1) := hb1
  have HW1 : Hid (W1 = w.alloc (.cells #[.slice ao an ac, .slice qo qn qc] 23)) := hW1
  have HG1 : Hid (g1 = w.heap.size) := hg1
  clear h hn hbl ha hq hW1 hg1 hb1 hrr hfl hal hql
  go_enter Tryz.func15, Tryz.ntmps15
  go_wp2_with fail
  rw [← HW1.out, ← HG1.out]
  clear HW1 HG1
  refine Calls.mono CC.out ?_
  rintro e y ⟨u, rfl, hu, hy⟩
  obtain ⟨uo, un, uc, rfl⟩ : ∃ o n c, u = .slice o n c := by obtain ⟨ao, cap, e, -⟩ := hu.sl; exact ⟨_, _, _, e⟩
  have HY : Hid (Below w.heap.size w y) := bstepB HB1.out hy
  have CA : Hid _ := aboveD (.slice po pn pc) (.slice uo un uc) pvs P (a ++ G) y (HR.out.below (Nat.le_refl _) HY.out) pn HN.out hb HBL.out hu.rg HL.out
  clear CC hu hy
  go_wp2_with fail
  refine Calls.mono CA.out ?_
  rintro e y2 ⟨hab, hy2⟩
  have HY2 : Hid (Below w.heap.size w y2) := bstepB HY.out hy2
  clear CA hy2
  rcases hab with ⟨h0, rfl⟩ | ⟨h0, hre⟩
  · have HE : Hid (nsE P pn (a ++ G) = ckE P) := by show _ = _; unfold nsE; rw [if_pos h0]
    obtain ⟨c, hc⟩ : ∃ c, c = ckE P := ⟨_, rfl⟩
    rw [← hc] at h0 ⊢
    have HC : Hid (c = ckE P) := hc
    have H0 : Hid (c ≠ 0) := h0
    have hcz : (c != (0 : Int)) = true := by simpa using h0
    clear hc h0
    go_wp2
    go_ret2
    exact ⟨⟨none, 0, 0, [], by rw [HE.out, ← HC.out]; rfl, OG.nil _ _ _, fun _ => ⟨rfl, rfl, rfl, rfl⟩, fun h => absurd (by rw [← HE.out, h] at HC; exact HC.out) H0.out⟩, HY2.out⟩
  · rcases hre with ⟨hn1, rfl⟩ | ⟨hn1, tv, R, rfl, hR1, hR2, hR3⟩
    · have HE : Hid (nsE P pn (a ++ G) = 3) := by show _ = _; unfold nsE; rw [if_neg (by rw [h0]; decide), if_pos hn1]
      clear hn1 h0
      go_wp2
      go_ret2
      exact ⟨⟨none, 0, 0, [], by rw [HE.out]; rfl, OG.nil _ _ _, fun _ => ⟨rfl, rfl, rfl, rfl⟩, fun h => by rw [HE.out] at h; simp at h⟩, HY2.out⟩
    · have HE : Hid (nsE P pn (a ++ G) = 0) := by show _ = _; unfold nsE; rw [if_neg (by rw [h0]; decide), if_neg (by rw [hn1]; decide)]
      obtain ⟨tO, tn, tc, rfl⟩ : ∃ o n c, tv = .slice o n c := by obtain ⟨ao, cap, e, -⟩ := hR1.sl; exact ⟨_, _, _, e⟩
      have hRL : R.length ≤ 100000 := by
        have h1 := len_nd pn R (hR2.imp fun h => by omega) (fun y hy => rch_pt (outs_no (cl_zero (ck_zero h0)).1) HN.out hn1 ((hR3 y).1 hy))
        omega
      have CM : Hid _ := amongS 0 tO tn tc R y2 (Nat.zero_le _) (fun _ _ => Nat.zero_le _) hR1.rg hR2 (by omega)
      have HQ : Hid (∀ x, x ∈ lvL pn [fun k => decide ((k : Int) ∈ R)] ↔ BaP P pn a G x) := fun x => by
        rw [lvL_one]
        unfold BaP
        simp only [hR3]
      clear hn1 h0 hR1 hR2 hR3 hRL
      go_wp2_with fail
      refine Calls.mono CM.out ?_
      rintro e y3 ⟨gb, rfl, hA, hy3⟩
      obtain ⟨W4, hW4⟩ : ∃ W, W = y3.alloc (.cells #[amV gb] 43) := ⟨_, rfl⟩
      obtain ⟨g4, hg4⟩ : ∃ g, g = y3.heap.size := ⟨_, rfl⟩
      have hb4 : Below y3.heap.size y3 W4 := by rw [hW4]; exact belowB _ _
      have hr4 : RG id W4 (.slice (some ⟨g4, 0, none⟩) 1 1) [amV gb] := by rw [hW4, hg4]; exact (OG.lit (enc := id) 43 y3 [amV gb] (by unfold maxLen; simp)).rg
      have HY4 : Hid (Below w.heap.size w W4) := bstepB (bstepB HY2.out hy3) hb4
      have CL : Hid _ := leaveOutS po pn pc hb _ _ _ W4 (ways_one hr4 (WayB.am (hA.below hb4)))
      have HW4 : Hid (W4 = y3.alloc (.cells #[.func (.func 36) #[] #[.pointer (some ⟨gb, 0, none⟩)]] 43)) := hW4
      unfold amV
      have HG4 : Hid (g4 = y3.heap.size) := hg4
      clear CM hA hy3 hW4 hg4 hb4 hr4
      go_wp2_with fail
      rw [← HW4.out, ← HG4.out]
      clear HW4 HG4
      refine Calls.mono CL.out ?_
      rintro e y5 ⟨v, rfl, hv, hy5⟩
      obtain ⟨vo, vn, vc, rfl⟩ : ∃ o n c, v = .slice o n c := by obtain ⟨ao, cap, e, -⟩ := hv.sl; exact ⟨_, _, _, e⟩
      have HV : Hid (OG (Value.int .i64) w.heap.size 3 y5 (.slice vo vn vc) (lvL pn [fun k => decide ((k : Int) ∈ R)])) := hv.mono HY4.out.size
      have HY5 : Hid (Below w.heap.size w y5) := bstepB HY4.out hy5
      clear CL hv hy5
      go_wp2
      go_ret2
      exact ⟨⟨vo, vn, vc, _, by rw [HE.out]; rfl, HV.out, fun h => absurd HE.out h, fun _ => ⟨lvL_rise _ _, HQ.out⟩⟩, HY5.out⟩
/-- A point's table tells something of what is asked. -/
def TabM (P : List (List Int)) (a G : List Int) (v : Int) : Prop := ∃ A, AbvP P G A ∧ TabP P P.length G A a v
/-- Which points are kept. -/
def KpP (P : List (List Int)) (n : Nat) (a G : List Int) (b p : Bool) (x : Int) : Prop := ∃ k : Nat, x = (k : Int) ∧ k < n ∧ (b = true → RchP P (a ++ G) x) ∧ (p = true → TabM P a G x)
theorem abv_ex {P : List (List Int)} {G : List Int} (hC : ∀ (i : Nat) (x : Int), x ∈ P.getD i [] → ∃ p : Nat, x = (p : Int) ∧ p < P.length) (hp : noPts (P.length : Int) G = false) : ∃ A, AbvP P G A := by
  classical
  refine ⟨((List.range P.length).filter fun k : Nat => decide (RchP P G (k : Int))).map Int.ofNat, ?_, fun x => ?_⟩
  · exact List.pairwise_map.2 (List.Pairwise.filter _ ((List.pairwise_lt_range).imp fun h => Int.ofNat_lt.2 h))
  · rw [List.mem_map]
    constructor
    · rintro ⟨k, hk, rfl⟩
      rw [List.mem_filter] at hk
      exact of_decide_eq_true hk.2
    · intro h
      obtain ⟨p, rfl, hp2⟩ := rch_pt hC rfl hp h
      exact ⟨p, List.mem_filter.2 ⟨List.mem_range.2 hp2, decide_eq_true h⟩, rfl⟩
theorem ns_both {P : List (List Int)} {n : Nat} {a G : List Int} (h : nsE P n (a ++ G) = 0) : ckE P = 0 ∧ noPts (n : Int) a = false ∧ noPts (n : Int) G = false := by
  obtain ⟨h1, h2⟩ := ns_parts h
  unfold noPts at h2
  rw [List.any_append, Bool.or_eq_false_iff] at h2
  exact ⟨h1, h2.1, h2.2⟩
theorem noPts_wide {n m : Nat} {L : List Int} (h : noPts (n : Int) L = false) (hm : n ≤ m) : noPts (m : Int) L = false := List.any_eq_false.2 fun x hx => by
  obtain ⟨p, rfl, hp⟩ := noPts_pt h x hx
  simp [noPt]; omega
theorem wk_wi {P : List (List Int)} {a G : List Int} (h0 : ckE P = 0) (ha : noPts (P.length : Int) a = false) (hG : noPts (P.length : Int) G = false) : wkE (wiP P) (2 * P.length) a G = 0 := by
  have h1 : nsE (wiP P) (2 * P.length) G = 0 := by unfold nsE; rw [(wi_ext h0).ck h0, noPts_wide hG (by omega)]; rfl
  unfold wkE; rw [h1, noPts_wide ha (by omega)]; rfl
/-- A new point is told something of just where the table below it tells something. -/
theorem wi_told {P : List (List Int)} {a G A : List Int} (h0 : ckE P = 0) (ha : noPts (P.length : Int) a = false) (hG : noPts (P.length : Int) G = false) (hA : AbvP (wiP P) G A) {k : Nat} (hk : k < P.length) : ((P.length + k : Nat) : Int) ∈ endsL (wkL (wiP P) (2 * P.length) a G A) G ↔ TabM P a G (k : Int) := by
  have hP := outs_no (cl_zero (ck_zero h0)).1
  rw [ends_iff A (wi_len P) (wk_wi h0 ha hG)]
  have hin : ((P.length + k : Nat) : Int) ∈ (wiP P).getD k [] := by rw [wi_old hk]; simp
  have key : ∀ A0, AbvP P G A0 → (TelP (wiP P) (2 * P.length) G A a ((P.length + k : Nat) : Int) ↔ TabP P P.length G A0 a (k : Int)) := fun A0 hA0 => by
    have h1 := (wi_ext h0).tel hP (fun x hx => noPts_pt hG x hx) hA0 hA (fun x hx => noPts_pt ha x hx) hk (Nat.le_add_right P.length k) hin
    rwa [wi_len] at h1
  constructor
  · intro h
    obtain ⟨A0, hA0⟩ := abv_ex hP hG
    exact ⟨A0, hA0, (key A0 hA0).1 h⟩
  · rintro ⟨A0, hA0, h⟩
    exact (key A0 hA0).2 h
theorem ends_rise (L : List (Stp × Stp)) (G : List Int) : Rise (endsL L G) := List.Pairwise.filter _ (rise_ofR _)
theorem ends_len {n : Nat} {L : List (Stp × Stp)} (G : List Int) (h : KeyP n L) : (endsL L G).length ≤ n := by
  refine len_nd n _ ((ends_rise L G).imp fun h => by omega) fun x hx => ?_
  obtain ⟨s, hs, rfl⟩ := ends_mem hx
  obtain ⟨e, he, rfl⟩ := List.mem_map.1 hs
  exact h.pt e he
set_option maxRecDepth 1000000 in
set_option maxHeartbeats 12800000 in
theorem keptS (pv av qv : Value) (b p : Bool) (pvs : List Value) (P : List (List Int)) (a G : List Int) (w : World) (h : RRD w pv pvs P) (n : Nat) (hn : P.length = n) (hb : n ≤ 25000) (hbl : ∀ i, (P.getD i []).length ≤ 100000) (ha : RG (Value.int .i64) w av a) (hal : a.length ≤ 500000) (hq : RG (Value.int .i64) w qv G) (hql : G.length ≤ 500000) :
    Calls Tryz.prog 16 #[pv, av, qv, .bool b, .bool p] w fun e w' => PrE w.heap.size P n a G (KpP P n a G b p) w' e ∧ Below w.heap.size w w' := by
  obtain ⟨i0, hi, hz0, hz1, hz2⟩ := info_parts Tryz.infoFn
  obtain ⟨po, pn, pc, rfl⟩ : ∃ o n c, pv = .slice o n c := by obtain ⟨ao, cap, e⟩ := h.out.sl; exact ⟨_, _, _, e⟩
  obtain rfl : pn = n := by rw [← hn, ← h.len, h.out.len]
  obtain ⟨ao, an, ac, rfl⟩ : ∃ o n c, av = .slice o n c := by obtain ⟨ao, cap, e⟩ := ha.sl; exact ⟨_, _, _, e⟩
  obtain ⟨qo, qn, qc, rfl⟩ : ∃ o n c, qv = .slice o n c := by obtain ⟨ao, cap, e⟩ := hq.sl; exact ⟨_, _, _, e⟩
  obtain ⟨W1, hW1⟩ : ∃ W, W = w.alloc (.cells #[.slice po pn pc] 22) := ⟨_, rfl⟩
  obtain ⟨gp, hgp⟩ : ∃ g, g = w.heap.size := ⟨_, rfl⟩
  have hb1 : Below w.heap.size w W1 := by rw [hW1]; exact belowB _ _
  have hc1 : W1.cell? ⟨gp, 0, none⟩ = some (.slice po pn pc) := by rw [hW1, hgp, World.cell?_alloc_at _ _ _ _ rfl]; rfl
  have HGP : Hid (gp < W1.heap.size) := by show _ < _; rw [hW1, hgp]; simp
  have HR : Hid (∀ W, Below W1.heap.size W1 W → RRD W (.slice po pn pc) pvs P) := fun W hW => (h.below (Nat.le_refl _) hb1).below (Nat.le_refl _) hW
  have HA : Hid (∀ W, Below W1.heap.size W1 W → RG (Value.int .i64) W (.slice ao an ac) a) := fun W hW => (ha.below (Nat.le_refl _) hb1).below (Nat.le_refl _) hW
  have HQ : Hid (∀ W, Below W1.heap.size W1 W → RG (Value.int .i64) W (.slice qo qn qc) G) := fun W hW => (hq.below (Nat.le_refl _) hb1).below (Nat.le_refl _) hW
  have HC : Hid (∀ W, Below W1.heap.size W1 W → W.cell? ⟨gp, 0, none⟩ = some (.slice po pn pc)) := fun W hW => keepR hW hc1
  have HN : Hid (P.length = pn) := hn
  have HBL : Hid (∀ i, (P.getD i []).length ≤ 100000) := hbl
  have HB1 : Hid (Below w.heap.size w W1) := hb1
  have HAL : Hid (a.length ≤ 500000) := hal
  have HQL : Hid (G.length ≤ 500000) := hql
  have HW1 : Hid (W1 = w.alloc (.cells #[.slice po pn pc] 22)) := hW1
  have HG1 : Hid (gp = w.heap.size) := hgp
  have CB : Hid _ := barrenS (.slice po pn pc) (.slice ao an ac) (.slice qo qn qc) pvs P a G W1 (HR.out W1 (Below.refl _ _)) pn hn (by omega) hbl (HA.out W1 (Below.refl _ _)) hal (HQ.out W1 (Below.refl _ _)) hql
  clear h hn hbl ha hq hW1 hgp hb1 hal hql
  go_enter Tryz.func16, Tryz.ntmps16
  go_upto_region 1 with fail
  rw [← HW1.out, ← HG1.out]
  clear HW1 HG1
  go_wp2_with fail
  refine Calls.mono CB.out ?_
  rintro e y ⟨⟨io, ik, ic, L, rfl, hL, her, hok⟩, hy⟩
  have HY : Hid (Below W1.heap.size W1 y) := hy
  clear CB hy hc1
  by_cases h0 : nsE P pn (a ++ G) = 0
  · have HE : Hid (nsE P pn (a ++ G) = 0) := h0
    obtain ⟨hri, hmem⟩ := hok h0
    obtain ⟨hck, hna, hng⟩ := ns_both h0
    rw [← HN.out] at hna hng
    have HCK : Hid (ckE P = 0) := hck
    have HNA : Hid (noPts (P.length : Int) a = false) := hna
    have HNG : Hid (noPts (P.length : Int) G = false) := hng
    have HL : Hid (OG (Value.int .i64) W1.heap.size 3 y (.slice io ik ic) L) := hL
    have HRI : Hid (Rise L) := hri
    have HME : Hid (∀ x, x ∈ L ↔ BaP P pn a G x) := hmem
    have hll : L.length ≤ 200000 := by
      have h1 := len_nd pn L (hri.imp fun h => by omega) (fun x hx => by obtain ⟨k, e, hk, -⟩ := (hmem x).1 hx; exact ⟨k, e, hk⟩)
      omega
    have HLL : Hid (L.length ≤ 200000) := hll
    rw [h0]
    clear hL her hok h0 hri hmem hck hna hng hll
    cases b
    case' true =>
      have CM : Hid _ := amongS 0 io ik ic L y (Nat.zero_le _) (fun _ _ => Nat.zero_le _) HL.out.rg HRI.out HLL.out
      go_wp2_with fail
      refine Calls.mono CM.out ?_
      rintro e y1 ⟨gb, rfl, hA1, hy1⟩
      obtain ⟨WA, hWA⟩ : ∃ W, W = y1.alloc (.cells #[amV gb] 43) := ⟨_, rfl⟩
      obtain ⟨ga, hga⟩ : ∃ g, g = y1.heap.size := ⟨_, rfl⟩
      have hba : Below y1.heap.size y1 WA := by rw [hWA]; exact belowB _ _
      have HCB : Hid (WA.cell? ⟨ga, 0, none⟩ = some (id (amV gb))) := by show _ = _; rw [hWA, hga, World.cell?_alloc_at _ _ _ _ rfl]; rfl
      have HWA : Hid (WA = y1.alloc (.cells #[.func (.func 36) #[] #[.pointer (some ⟨gb, 0, none⟩)]] 43)) := hWA
      unfold amV
      have HGA : Hid (ga = y1.heap.size) := hga
      have HYA : Hid (Below W1.heap.size W1 WA) := bstepB (bstepB HY.out hy1) hba
      have HA1 : Hid (AmC 0 WA gb L) := hA1.below hba
      clear CM hA1 hy1 hWA hga hba HL
      go_wp2_with (at_builtin; rw [← HWA.out, ← HGA.out]; refine wpList_pushV (enc := id) _ rfl _ _ 45 rfl WA.heap.size 43 i0 .nilFunc 8 Tryz.underlying45 hi hz0 hz1 hz2 rfl _ [] rfl (OG.nil _ _ _) ga (amV gb) rfl HCB.out rfl (by unfold maxLen; simp) (by simp) (Nat.le_refl _) ?_)
      intro ng tm ncap W2 ho hg3 hng _
      have hbel : Below WA.heap.size WA W2 := ⟨hg3.os, hg3.tape, hg3.output, hg3.size, fun q hq => hg3.block q hq (by simp [Value.ownBlock])⟩
      have HO : Hid (OG id WA.heap.size 43 W2 (.slice (some ⟨ng, 0, none⟩) tm ncap) [amV gb]) := ho
      have HBW : Hid (Below WA.heap.size WA W2) := hbel
      have HKP : Hid (∀ W', Below WA.heap.size WA W' → ∀ (i : Nat) (u : Value) (q : Nat → Bool), [amV gb][i]? = some u → [fun k : Nat => decide ((k : Int) ∈ L)][i]? = some q → WayB W' u q) := fun W' hW' i u q hu hq => by
        match i, hu, hq with
        | 0, hu, hq => simp at hu hq; subst hu; subst hq; exact WayB.am (HA1.out.below hW')
        | i + 1, hu, _ => simp at hu
      have HWS : Hid (WaysB W2 (.slice (some ⟨ng, 0, none⟩) tm ncap) [amV gb] [fun k => decide ((k : Int) ∈ L)]) := ways_one ho.rg (WayB.am (HA1.out.below hbel))
      have HF : Hid (∀ k : Nat, k < pn → (anyW [fun k => decide ((k : Int) ∈ L)] k = false ↔ ImpB true (RchP P (a ++ G) (k : Int)))) := fun k hk => by
        show _ ↔ (true = true → _)
        have h1 := HME.out (k : Int)
        simp only [anyW, List.any_cons, List.any_nil, Bool.or_false, decide_eq_false_iff_not, h1, true_imp_iff]
        unfold BaP
        constructor
        · intro h2
          exact Classical.byContradiction fun h3 => h2 ⟨k, rfl, hk, h3⟩
        · rintro h2 ⟨_, _, _, h4⟩
          exact h4 h2
      have HVL : Hid ([amV gb].length ≤ 1) := Nat.le_refl 1
      have HY2 : Hid (Below W1.heap.size W1 W2) := bstepB HYA.out hbel
      clear ho hg3 hng hbel HCB HWA HGA HA1 HY
    case' false =>
      obtain ⟨W2, hW2⟩ : ∃ W, W = y := ⟨_, rfl⟩
      rw [← hW2] at HY ⊢
      obtain ⟨WA, hWA⟩ : ∃ W, W = W2 := ⟨_, rfl⟩
      have HO : Hid (OG id WA.heap.size 43 W2 (.slice none 0 0) []) := OG.nil _ _ _
      have HBW : Hid (Below WA.heap.size WA W2) := by show Below _ _ _; rw [hWA]; exact Below.refl _ _
      have HYA : Hid (Below W1.heap.size W1 WA) := by show Below _ _ _; rw [hWA]; exact HY.out
      have HKP : Hid (∀ W', Below WA.heap.size WA W' → ∀ (i : Nat) (u : Value) (q : Nat → Bool), ([] : List Value)[i]? = some u → ([] : List (Nat → Bool))[i]? = some q → WayB W' u q) := fun W' hW' i u q hu hq => by simp at hu
      have HWS : Hid (WaysB W2 (.slice none 0 0) [] []) := ⟨(OG.nil (enc := id) 0 43 W2).rg, rfl, fun i u q hu _ => by simp at hu⟩
      have HF : Hid (∀ k : Nat, k < pn → (anyW [] k = false ↔ ImpB false (RchP P (a ++ G) (k : Int)))) := fun k hk => by show _ ↔ (false = true → _); simp [anyW]
      have HVL : Hid (([] : List Value).length ≤ 1) := Nat.zero_le 1
      have HY2 : Hid (Below W1.heap.size W1 W2) := HY.out
      clear hW2 hWA HY HL
    all_goals
      cases p
      case false =>
        have CL : Hid _ := leaveOutS po pn pc (by omega) _ _ _ W2 HWS.out
        have hcp : W2.cell? ⟨gp, 0, none⟩ = some (.slice po pn pc) := HC.out W2 HY2.out
        go_wp2_with fail
        refine Calls.mono CL.out ?_
        rintro e y3 ⟨u, rfl, hu, hy3⟩
        obtain ⟨uo, un, uc, rfl⟩ : ∃ o n c, u = .slice o n c := by obtain ⟨ao, cap, e, -⟩ := hu.sl; exact ⟨_, _, _, e⟩
        have HU := hu
        have HY3 : Hid (Below W2.heap.size W2 y3) := hy3
        have HUH : Hid (OG (Value.int .i64) W2.heap.size 3 y3 (.slice uo un uc) _) := hu
        clear CL hu hy3 hcp HU
        go_wp2
        go_ret2
        refine ⟨⟨uo, un, uc, _, by rw [HE.out]; rfl, HUH.out.mono (bstepB HB1.out HY2.out).size, fun h => absurd HE.out h, fun _ => ⟨lvL_rise _ _, fun x => ?_⟩⟩, bstepB (bstepB HB1.out HY2.out) HY3.out⟩
        rw [lvL_mem]
        unfold KpP
        refine exists_congr fun k => and_congr_right fun e => ?_
        subst e
        constructor
        · rintro ⟨h1, h2⟩
          exact ⟨h1, (HF.out k h1).1 h2, fun h => by simp at h⟩
        · rintro ⟨h1, h2, -⟩
          exact ⟨h1, (HF.out k h1).2 h2⟩
      case true =>
        have CN : Hid _ := withNewS (.slice po pn pc) pvs P W2 (HR.out W2 HY2.out) pn HN.out hb HBL.out
        have hcp : W2.cell? ⟨gp, 0, none⟩ = some (.slice po pn pc) := HC.out W2 HY2.out
        go_wp2_with fail
        refine Calls.mono CN.out ?_
        rintro e y3 ⟨gw, cvs, rfl, hw3, hy3⟩
        have HY3 : Hid (Below W2.heap.size W2 y3) := hy3
        have h13 := bstepB HY2.out hy3
        have hwk : wkE (wiP P) (2 * pn) a G = 0 := by rw [← HN.out]; exact wk_wi HCK.out HNA.out HNG.out
        have HWK : Hid (wkE (wiP P) (2 * pn) a G = 0) := hwk
        have CR : Hid _ := reachP (.slice (some ⟨gw, 0, none⟩) (2 * pn) (2 * pn)) (.slice ao an ac) (.slice qo qn qc) cvs (wiP P) a G y3 hw3 (2 * pn) (by rw [wi_len, HN.out]) (by omega) (HA.out y3 h13) (by have := HAL.out; omega) (HQ.out y3 h13) (by have := HQL.out; omega) (fun h1 A s => hdis_any (by rw [wi_len, HN.out]) h1 A s)
        rw [hwk] at CR
        clear CN hy3 h13 hw3 hcp hwk
        go_wp2_with fail
        refine Calls.mono CR.out ?_
        rintro e y4 ⟨v, rfl, -, hrr, hy4⟩
        obtain ⟨A, hA, hov⟩ := hrr trivial
        obtain ⟨R, hR⟩ : ∃ R, R = endsL (wkL (wiP P) (2 * pn) a G A) G := ⟨_, rfl⟩
        have HRK : Hid (∀ k : Nat, k < pn → (((pn + k : Nat) : Int) ∈ R ↔ TabM P a G (k : Int))) := fun k hk => by
          have h1 := wi_told HCK.out HNA.out HNG.out hA (k := k) (by rw [HN.out]; exact hk)
          rw [HN.out] at h1
          rw [hR]; exact h1
        have hrl : R.length ≤ 200000 := by rw [hR]; have := ends_len G (wkL_key A (by rw [wi_len, HN.out]) HWK.out : KeyP (2 * pn) (wkL (wiP P) (2 * pn) a G A)); omega
        have hrr2 : Rise R := by rw [hR]; exact ends_rise _ _
        rw [← hR] at hov
        obtain ⟨vo, vn, vc, rfl⟩ : ∃ o n c, v = .slice o n c := by obtain ⟨ao, cap, e, -⟩ := hov.sl; exact ⟨_, _, _, e⟩
        have HY4 : Hid (Below W2.heap.size W2 y4) := bstepB HY3.out hy4
        have CM2 : Hid _ := amongS W2.heap.size vo vn vc R y4 HY4.out.size (fun q hq => Nat.le_trans HY3.out.size (hov.lt q hq).1) hov.rg hrr2 hrl
        clear CR hrr hA hov hR hrl hrr2 hy4
        go_wp2_with fail
        refine Calls.mono CM2.out ?_
        rintro e y5 ⟨gr, rfl, hA5, hy5⟩
        obtain ⟨WT, hWT⟩ : ∃ W, W = y5.alloc (.cells #[amV gr] 43) := ⟨_, rfl⟩
        obtain ⟨gt, hgt⟩ : ∃ g, g = y5.heap.size := ⟨_, rfl⟩
        have hbt : Below y5.heap.size y5 WT := by rw [hWT]; exact belowB _ _
        have hct : WT.cell? ⟨gt, 0, none⟩ = some (amV gr) := by rw [hWT, hgt, World.cell?_alloc_at _ _ _ _ rfl]; rfl
        have hyt : Below W2.heap.size W2 WT := bstepB (bstepB HY4.out hy5) hbt
        obtain ⟨WX, hWX⟩ : ∃ W, W = WT.alloc (.cells #[keV gt gp] 43) := ⟨_, rfl⟩
        obtain ⟨gx, hgx⟩ : ∃ g, g = WT.heap.size := ⟨_, rfl⟩
        have hbx : Below WT.heap.size WT WX := by rw [hWX]; exact belowB _ _
        have HYX : Hid (Below W2.heap.size W2 WX) := bstepB hyt hbx
        have HCX : Hid (WX.cell? ⟨gx, 0, none⟩ = some (id (keV gt gp))) := by show _ = _; rw [hWX, hgx, World.cell?_alloc_at _ _ _ _ rfl]; rfl
        have HKE : Hid (KeC W2.heap.size WX gt gp R pn) := ⟨⟨gr, po, pc, keepR hbx hct, (hA5.below hbt).below hbx, HC.out WX (bstepB HY2.out HYX.out)⟩, by rw [hgt]; exact (bstepB HY4.out hy5).size, by omega⟩
        unfold amV
        have HGT : Hid (gt = y5.heap.size) := hgt
        have HWX : Hid (WX = (y5.alloc (.cells #[.func (.func 36) #[] #[.pointer (some ⟨gr, 0, none⟩)]] 43)).alloc (.cells #[.func (.func 27) #[] #[.pointer (some ⟨gt, 0, none⟩), .pointer (some ⟨gp, 0, none⟩)]] 43)) := by show _ = _; rw [hWX, hWT]; rfl
        have HGX : Hid (gx = y5.heap.size + 1) := by show _ = _; rw [hgx, hWT]; simp
        clear CM2 hA5 hy5 hWT hgt hbt hct hyt hWX hgx hbx
        go_wp2_with (at_builtin; rw [← HGX.out, ← HGT.out, ← HWX.out]; refine wpList_pushV (enc := id) _ rfl _ _ 45 rfl WA.heap.size 43 i0 .nilFunc 8 Tryz.underlying45 hi hz0 hz1 hz2 rfl _ _ rfl (HO.out.below HYX.out) gx (keV gt gp) rfl HCX.out rfl (by have := HVL.out; unfold maxLen; omega) (by have := HVL.out; omega) (bstepB HBW.out HYX.out).size ?_)
        intro ng2 tm2 ncap2 W6 ho6 hg6 hng6 _
        have hw6 : Below WA.heap.size WA W6 := (HO.out.below HYX.out).grown (bstepB HBW.out HYX.out) (bstepB HBW.out HYX.out).size hg6
        have HW6 : Hid (Below W1.heap.size W1 W6) := bstepB HYA.out hw6
        have hke : KeC W2.heap.size W6 gt gp R pn := HKE.out.stay hg6 (fun q hq => ⟨(HO.out.lt q hq).2, by have := (HO.out.lt q hq).1; have := HGP.out; have := HYA.out.size; omega⟩)
        have HWS6 : Hid (WaysB W6 (.slice (some ⟨ng2, 0, none⟩) tm2 ncap2) _ _) := ways_snoc HWS.out.len ho6.rg (HKP.out W6 hw6) (WayB.ke hke)
        have hcp : W6.cell? ⟨gp, 0, none⟩ = some (.slice po pn pc) := HC.out W6 HW6.out
        have CL : Hid _ := leaveOutS po pn pc (by omega) _ _ _ W6 HWS6.out
        clear ho6 hg6 hng6 hke hw6 HYX HCX HKE HGT HWX HGX
        go_wp2_with fail
        refine Calls.mono CL.out ?_
        rintro e y7 ⟨u, rfl, hu, hy7⟩
        obtain ⟨uo, un, uc, rfl⟩ : ∃ o n c, u = .slice o n c := by obtain ⟨ao, cap, e, -⟩ := hu.sl; exact ⟨_, _, _, e⟩
        have HY7 : Hid (Below W6.heap.size W6 y7) := hy7
        have HUH : Hid (OG (Value.int .i64) W6.heap.size 3 y7 (.slice uo un uc) _) := hu
        clear CL hu hy7 hcp
        go_wp2
        go_ret2
        refine ⟨⟨uo, un, uc, _, by rw [HE.out]; rfl, HUH.out.mono (bstepB HB1.out HW6.out).size, fun h => absurd HE.out h, fun _ => ⟨lvL_rise _ _, fun x => ?_⟩⟩, bstepB (bstepB HB1.out HW6.out) HY7.out⟩
        rw [lvL_mem]
        unfold KpP
        refine exists_congr fun k => and_congr_right fun e => ?_
        subst e
        refine and_congr_right fun h1 => ?_
        have e1 := HF.out k h1
        have e2 := HRK.out k h1
        rw [anyW_snoc, Bool.or_eq_false_iff]
        refine and_congr e1 ?_
        simpa using e2
  · have HE : Hid (nsE P pn (a ++ G) ≠ 0) := h0
    obtain ⟨rfl, rfl, rfl, -⟩ := her h0
    obtain ⟨c, hc⟩ : ∃ c, c = nsE P pn (a ++ G) := ⟨_, rfl⟩
    rw [← hc] at h0 ⊢
    have HCC : Hid (c = nsE P pn (a ++ G)) := hc
    have hcz : (c != (0 : Int)) = true := by simpa using h0
    clear hc h0 her hok hL
    go_wp2
    go_ret2
    exact ⟨⟨none, 0, 0, [], by rw [← HCC.out]; rfl, OG.nil _ _ _, fun _ => ⟨rfl, rfl, rfl, rfl⟩, fun h => absurd h HE.out⟩, bstepB HB1.out HY.out⟩
end Go.Proofs.YthdpomgpcblpeaaGreat

/-
  Proved here: the law SepTrail answers true.
-/
import Derived.Test.YtcoiapgfaibkgaaGreatDagOpen2All
namespace Go.Proofs.YtcoiapgfaibkgaaGreat
set_option linter.unusedVariables false
open Go.RowKit Go.Shelf Go.Sort Go.Lib
theorem otr_nd {P : List (List Int)} {G A : List Int} {a : Int} {l : List Int} (h : OTr P G A a l) : l.Nodup := by
  induction h with
  | one _ => simp
  | two _ _ _ hne _ => exact List.nodup_cons.2 ⟨by simpa using hne, by simp⟩
  | more _ _ _ hni _ ih => exact List.nodup_cons.2 ⟨hni, ih⟩
/-- What is told of a question for a trail. -/
structure TrL (P : List (List Int)) (n : Nat) (a b : Int) (G L : List Int) : Prop where
  bad : apE P n [a] [b] G ≠ 0 → L = []
  is : apE P n [a] [b] G = 0 → ∃ A, AbvP P G A ∧ L = trR (wkL P n [a] G A) b G
theorem TrL.same {P : List (List Int)} {n : Nat} {a b : Int} {G L L' : List Int} (h : TrL P n a b G L) (h' : TrL P n a b G L') : L = L' := by
  by_cases h0 : apE P n [a] [b] G = 0
  · obtain ⟨A, hA, e⟩ := h.is h0
    obtain ⟨A', hA', e'⟩ := h'.is h0
    have : A = A' := rise_ext hA.1 hA'.1 fun z => (hA.2 z).trans (hA'.2 z).symm
    rw [e, e', this]
  · rw [h.bad h0, h'.bad h0]
theorem TrL.len {P : List (List Int)} {n : Nat} {a b : Int} {G L : List Int} (hn : P.length = n) (h : TrL P n a b G L) : L.length ≤ n := by
  by_cases h0 : apE P n [a] [b] G = 0
  · obtain ⟨A, hA, e⟩ := h.is h0
    subst hn
    have hwk : wkE P P.length [a] G = 0 := Classical.byContradiction fun hne => by
      unfold apE at h0
      rw [if_pos hne] at h0
      exact hne h0
    rw [e]
    unfold trR
    by_cases hb : b ∈ endsL (wkL P P.length [a] G A) G
    · rw [if_pos hb]
      obtain ⟨l, h2, h3, -⟩ := trail_least hwk hA hb
      rw [h2, List.length_reverse]
      exact len_nd P.length _ (otr_nd h3) (h3.pts (noPts_pt (wk_parts hwk).2.2 a (by simp)))
    · rw [if_neg hb]; exact Nat.zero_le _
  · rw [h.bad h0]; exact Nat.zero_le _
set_option maxRecDepth 1000000 in
theorem refTrailU (pv qv : Value) (pvs : List Value) (P : List (List Int)) (a b : Int) (G : List Int) (w : World) (h : RRD w pv pvs P) (n : Nat) (hn : P.length = n) (hn7 : n ≤ 100) (hq : RG (Value.int .i64) w qv G) (hql : G.length ≤ 1048576) :
    Calls Tryz.prog 19 #[pv, .int .i64 a, .int .i64 b, qv] w fun e w' => ∃ v L, e = .returned (.tuple #[v, .int .i64 (apE P n [a] [b] G)]) ∧ OG (Value.int .i64) w.heap.size 3 w' v L ∧ TrL P n a b G L ∧ Below w.heap.size w w' := by
  refine (refTrail pv qv pvs P a b G w h n hn hn7 hq hql).mono ?_
  rintro e w' ⟨v, he, h1, h2, h3⟩
  by_cases h0 : apE P n [a] [b] G = 0
  · obtain ⟨A, hA, hL⟩ := h2 h0
    exact ⟨v, _, he, hL, ⟨fun h => absurd h0 h, fun _ => ⟨A, hA, rfl⟩⟩, h3⟩
  · exact ⟨v, [], he, by rw [h1 h0]; exact OG.nil _ _ _, ⟨fun _ => rfl, fun h => absurd h h0⟩, h3⟩
set_option maxRecDepth 1000000 in
theorem trailU (pv qv : Value) (pvs : List Value) (P : List (List Int)) (a b : Int) (G : List Int) (w : World) (h : RRD w pv pvs P) (n : Nat) (hn : P.length = n) (hn7 : n ≤ 100) (hq : RG (Value.int .i64) w qv G) (hql : G.length ≤ 1048576) :
    Calls Tryz.prog 20 #[pv, .int .i64 a, .int .i64 b, qv] w fun e w' => ∃ v L, e = .returned (.tuple #[v, .int .i64 (apE P n [a] [b] G)]) ∧ OG (Value.int .i64) w.heap.size 3 w' v L ∧ TrL P n a b G L ∧ Below w.heap.size w w' := by
  refine (trailP pv qv pvs P a b G w h n hn (by omega) hq hql).mono ?_
  rintro e w' ⟨v, he, h1, h2, h3⟩
  by_cases h0 : apE P n [a] [b] G = 0
  · obtain ⟨A, hA, hL⟩ := h2 h0
    exact ⟨v, _, he, hL, ⟨fun h => absurd h0 h, fun _ => ⟨A, hA, rfl⟩⟩, h3⟩
  · exact ⟨v, [], he, by rw [h1 h0]; exact OG.nil _ _ _, ⟨fun _ => rfl, fun h => absurd h h0⟩, h3⟩
set_option maxRecDepth 1000000 in
set_option maxHeartbeats 12800000 in
theorem sepTrail_top (pv : Value) (pvs : List Value) (P : List (List Int)) (a b : Int) (qv : Value) (G : List Int) (w : World) (h : RRD w pv pvs P) (hbl : ∀ i, (P.getD i []).length ≤ 1048576) (hxw : (Lit.int .i64 a).wf = true) (hyw : (Lit.int .i64 b).wf = true) (hq : RG (Value.int .i64) w qv G) (hql : G.length ≤ 1048576) :
    Calls Tryz.prog 5 #[pv, .int .i64 a, .int .i64 b, qv] w fun e w' => e = .returned (.bool true) ∧ Below w.heap.size w w' := by
  obtain ⟨po, n, pc, rfl⟩ : ∃ o n c, pv = .slice o n c := by obtain ⟨ao, cap, e⟩ := h.out.sl; exact ⟨_, _, _, e⟩
  obtain ⟨qo, qn, qc, rfl⟩ : ∃ o n c, qv = .slice o n c := by obtain ⟨ao, cap, e⟩ := hq.sl; exact ⟨_, _, _, e⟩
  have hnP : P.length = n := by rw [← h.len, h.out.len]
  have hnc := h.out.room.1
  have hncz : (n : Int) ≤ (pc : Int) := by omega
  obtain ⟨m, hm⟩ : ∃ m, m = min n 7 := ⟨_, rfl⟩
  have hcut := h.cut7 (m := m) (by omega)
  have hl := len_take7 m hbl
  have hnm : (P.take m).length = m := by rw [List.length_take]; omega
  generalize P.take m = Q at hcut hl hnm
  generalize pvs.take m = qvs at hcut
  have HR : Hid (∀ W, Below w.heap.size w W → RRD W (.slice po m pc) qvs Q) := fun W hW => hcut.below (Nat.le_refl _) hW
  have HQ : Hid (∀ W, Below w.heap.size w W → RG (Value.int .i64) W (.slice qo qn qc) G) := fun W hW => hq.below (Nat.le_refl _) hW
  have HL : Hid (∀ i, (Q.getD i []).length ≤ 1048576) := hl
  have HQL : Hid (G.length ≤ 1048576) := hql
  have HN : Hid (Q.length = m) := hnm
  have hm7 : m ≤ 7 := by omega
  have hm2 : n ≤ 7 ∧ m = n ∨ ¬ n ≤ 7 ∧ m = 7 := by omega
  clear hcut h hbl hnP hm hl hnm hq hql hxw hyw
  go_enter Tryz.func5, Tryz.ntmps5
  go_upto_region 1 with fail
  go_cut [0] from 17 to 21 (fun v0 wx => v0 = .slice po m pc ∧ wx = w)
  case first =>
    rcases hm2 with ⟨h40, hmm⟩ | ⟨h40, hmm⟩
    · subst hmm
      have h40z : (m : Int) ≤ 7 := by omega
      have hmin : min (m : Int) 7 = (m : Int) := by omega
      go_wp2
      go_meet
      exact ⟨rfl, rfl⟩
    · subst hmm
      have h40z : ¬ (n : Int) ≤ 7 := by omega
      have hmin : min (n : Int) 7 = 7 := by omega
      have hpc : (7 : Int) ≤ (pc : Int) := by omega
      go_wp2
      go_meet
      exact ⟨rfl, rfl⟩
  case rest =>
    obtain ⟨rfl, hwc⟩ := hcut
    obtain rfl := hwc.symm
    have CT : Hid _ := twin16 _ _ Q w (HR.out w (Below.refl _ _)) m HN.out (by omega) HL.out
    clear hm2
    go_wp2_with fail
    refine Calls.mono CT.out ?_
    rintro e y1 ⟨tv, tvs, rfl, ht⟩
    obtain ⟨tO, tn, tc, rfl⟩ : ∃ o n c, tv = .slice o n c := by obtain ⟨ao, cap, e⟩ := ht.row.rg.sl; exact ⟨_, _, _, e⟩
    have HB2 : Hid (Below w.heap.size w y1) := ht.frm
    have HHT : Hid (∀ W, Below y1.heap.size y1 W → TwI w.heap.size w W Q m (.slice tO tn tc) tvs) := fun W hW => ht.below ht.frm.size hW
    have CG : Hid _ := roomy16 (.slice qo qn qc) G y1 (HQ.out y1 HB2.out) HQL.out
    clear CT ht
    go_wp2_with fail
    refine Calls.mono CG.out ?_
    rintro e y3 ⟨zv, rfl, hz, b3⟩
    obtain ⟨zo, zn, zc, rfl⟩ : ∃ o n c, zv = .slice o n c := by obtain ⟨ao, cap, e⟩ := hz.rg.sl; exact ⟨_, _, _, e⟩
    have HZ : Hid (∀ W, Below y3.heap.size y3 W → RmB y1.heap.size W (.slice zo zn zc) G) := fun W hW => hz.below hW
    have HB3 : Hid (Below w.heap.size w y3) := bstepB HB2.out b3
    have HC3 : Hid (Below y1.heap.size y1 y3) := b3
    have CR : Hid _ := refTrailU (.slice po m pc) (.slice qo qn qc) qvs Q a b G y3 (HR.out y3 HB3.out) m HN.out (by omega) (HQ.out y3 HB3.out) HQL.out
    clear CG hz b3
    go_wp2_with fail
    refine Calls.mono CR.out ?_
    rintro e y4 ⟨wv, L, rfl, hw, hL, b4⟩
    obtain ⟨wo, wn, wc2, rfl⟩ : ∃ o n c, wv = .slice o n c := by obtain ⟨ao, cap, e, -⟩ := hw.sl; exact ⟨_, _, _, e⟩
    have HW : Hid (OG (Value.int .i64) y3.heap.size 3 y4 (.slice wo wn wc2) L) := hw
    have HRL : Hid (TrL Q m a b G L) := hL
    have HB4 : Hid (Below w.heap.size w y4) := bstepB HB3.out b4
    have HC4 : Hid (Below y1.heap.size y1 y4) := bstepB HC3.out b4
    have HE4 : Hid (Below y3.heap.size y3 y4) := b4
    have HRT : Hid (∀ W, Below y4.heap.size y4 W → RRD W (.slice tO tn tc) tvs Q) := fun W hW => by
      have h1 := HHT.out W (bstepB HC4.out hW)
      have h2 := HN.out
      subst h2
      exact h1.rrd
    have HRZ : Hid (∀ W, Below y4.heap.size y4 W → RG (Value.int .i64) W (.slice zo zn zc) G) := fun W hW => (HZ.out W (bstepB HE4.out hW)).rg
    have C1 : Hid _ := trailU (.slice tO tn tc) (.slice zo zn zc) tvs Q a b G y4 (HRT.out y4 (Below.refl _ _)) m HN.out (by omega) (HRZ.out y4 (Below.refl _ _)) HQL.out
    clear CR hw hL b4 HC3
    go_wp2_with fail
    refine Calls.mono C1.out ?_
    rintro e y5 ⟨gv, L1, rfl, hg, hL1, b5⟩
    obtain ⟨go, gn, gc2, rfl⟩ : ∃ o n c, gv = .slice o n c := by obtain ⟨ao, cap, e, -⟩ := hg.sl; exact ⟨_, _, _, e⟩
    obtain rfl : L = L1 := HRL.out.same hL1
    have HG : Hid (OG (Value.int .i64) y4.heap.size 3 y5 (.slice go gn gc2) L) := hg
    have HF5 : Hid (Below y4.heap.size y4 y5) := b5
    have C2 : Hid _ := trailU (.slice tO tn tc) (.slice zo zn zc) tvs Q a b G y5 (HRT.out y5 b5) m HN.out (by omega) (HRZ.out y5 b5) HQL.out
    clear C1 hg hL1 b5
    go_wp2_with fail
    refine Calls.mono C2.out ?_
    rintro e y6 ⟨kv, L2, rfl, hk, hL2, b6⟩
    obtain ⟨ko, kn, kc2, rfl⟩ : ∃ o n c, kv = .slice o n c := by obtain ⟨ao, cap, e, -⟩ := hk.sl; exact ⟨_, _, _, e⟩
    obtain rfl : L = L2 := HRL.out.same hL2
    have HG6 : Hid (OG (Value.int .i64) y4.heap.size 3 y6 (.slice go gn gc2) L) := HG.out.below b6
    have HF6 : Hid (Below y4.heap.size y4 y6) := bstepB HF5.out b6
    have CO : Hid _ := own16 y4.heap.size (.slice go gn gc2) (.slice ko kn kc2) (.slice wo wn wc2) L y6 HG6.out HF6.out.size hk.rg (HW.out.below HF6.out).rg (by have := HRL.out.len HN.out; omega)
      (fun _ b g hb hg => by have h1 := (hk.lt b hb).1; have h2 := (HG.out.lt g hg).2; omega) (fun _ b g hb hg => by have h1 := (HW.out.lt b hb).2; have h2 := (HG.out.lt g hg).1; omega)
    obtain ⟨c, hc⟩ : ∃ c, c = apE Q m [a] [b] G := ⟨_, rfl⟩
    rw [← hc]
    have hcc : (c == c) = true := by simp
    clear C2 hk b6 hc hL2 HG HF5
    go_wp2_with fail
    refine Calls.mono CO.out ?_
    rintro e y7 ⟨rfl, hgr⟩
    have HF7 : Hid (Below y4.heap.size y4 y7) := HG6.out.grown HF6.out HF6.out.size hgr
    have HB7 : Hid (Below w.heap.size w y7) := bstepB HB4.out HF7.out
    have HC7 : Hid (Below y1.heap.size y1 y7) := bstepB HC4.out HF7.out
    have HE7 : Hid (Below y3.heap.size y3 y7) := bstepB HE4.out HF7.out
    have CK : Hid _ := kept16 w.heap.size w (.slice tO tn tc) (.slice po m pc) qvs tvs Q y7 (HR.out y7 HB7.out) m HN.out HL.out (HHT.out y7 HC7.out)
    clear CO hgr HG6 HF6
    go_wp2_with fail
    refine Calls.mono CK.out ?_
    rintro e y8 ⟨rfl, q, rfl⟩
    have b8 : Below y7.heap.size y7 (y7.drewN q) := below_drewN (Below.refl _ _) q
    have HB8 : Hid (Below w.heap.size w (y7.drewN q)) := bstepB HB7.out b8
    have HE8 : Hid (Below y3.heap.size y3 (y7.drewN q)) := bstepB HE7.out b8
    obtain ⟨y8, hy8⟩ : ∃ y, y = y7.drewN q := ⟨_, rfl⟩
    rw [← hy8] at HB8 HE8 ⊢
    have CZ : Hid _ := still16 y1.heap.size (.slice zo zn zc) (.slice qo qn qc) G y8 (HZ.out y8 HE8.out) (HQ.out y8 HB8.out) HQL.out
    clear CK b8 hy8
    go_wp2_with fail
    refine Calls.mono CZ.out ?_
    rintro e y10 ⟨rfl, q3, rfl⟩
    clear CZ
    go_wp2
    go_ret
    exact ⟨rfl, below_drewN HB8.out _⟩
end Go.Proofs.YtcoiapgfaibkgaaGreat

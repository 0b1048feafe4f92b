/-
  Proved here: package sep's walkFrom: all to which open trails lead, by breadth.
-/
import Derived.Test.YthdpomgpcblpeaaGreatSpOAll
import Derived.Test.YthdpomgpcblpeaaGreatLate3
namespace Go.Proofs.YthdpomgpcblpeaaGreat
set_option linter.unusedVariables false
open Go.RowKit Go.Shelf Go.Sort Go.Lib
def wkE (P : List (List Int)) (n : Nat) (a G : List Int) : Int := if nsE P n G ≠ 0 then nsE P n G else if noPts (n : Int) a = true then 3 else 0
/-- All that is reached, each with the step ahead of it, in the order in which it was reached. -/
def wkL (P : List (List Int)) (n : Nat) (a G A : List Int) : List (Stp × Stp) := bfsP (nxS P n G A) (2 * n + 1) 0 (stP a)
theorem fuel_step {m k : Nat} (h : k < m) : m + 1 - k = (m + 1 - (k + 1)) + 1 := by omega
theorem ns_parts {P : List (List Int)} {n : Nat} {G : List Int} (h1 : nsE P n G = 0) : ckE P = 0 ∧ noPts (n : Int) G = false := by
  unfold nsE at h1
  by_cases h4 : ckE P = 0
  · rw [if_neg (by rw [h4]; decide)] at h1
    refine ⟨h4, ?_⟩
    cases h2 : noPts (n : Int) G with
    | false => rfl
    | true => rw [h2] at h1; simp at h1
  · rw [if_pos h4] at h1; exact absurd h1 h4
theorem stP_snoc {a : List Int} {k : Nat} {x : Int} (h : a[k]? = some x) : stP (a.take (k + 1)) = rchP (x, false) (stP (a.take k)) (x, false) := by
  unfold stP
  rw [List.take_add_one, h, Option.toList_some, List.foldl_append]; rfl
theorem fold_snoc (ahead : Stp) {N : List Stp} {j : Nat} {s : Stp} (L : List (Stp × Stp)) (h : N[j]? = some s) : (N.take (j + 1)).foldl (rchP ahead) L = rchP ahead ((N.take j).foldl (rchP ahead) L) s := by
  rw [List.take_add_one, h, Option.toList_some, List.foldl_append]; rfl
theorem rchP_at {ahead : Stp} {L : List (Stp × Stp)} {s : Stp} {k : Nat} {e : Stp × Stp} (h : L[k]? = some e) : (rchP ahead L s)[k]? = some e := by
  unfold rchP
  split
  · exact h
  · rw [List.getElem?_append_left (List.getElem?_eq_some_iff.1 h).1]; exact h
theorem fold_at {ahead : Stp} {k : Nat} {e : Stp × Stp} : ∀ (N : List Stp) {L : List (Stp × Stp)}, L[k]? = some e → (N.foldl (rchP ahead) L)[k]? = some e
  | [], _, h => h
  | s :: N, L, h => by rw [List.foldl_cons]; exact fold_at N (rchP_at h)
theorem rawS_pt {P : List (List Int)} {n : Nat} {G A : List Int} {s t : Stp} (hP : ∀ (i : Nat) (x : Int), x ∈ P.getD i [] → ∃ p : Nat, x = (p : Int) ∧ p < n) (h : t ∈ nxS P n G A s) : ∃ p : Nat, t.1 = (p : Int) ∧ p < n := by
  unfold nxS at h
  rw [srtP_mem] at h
  unfold rawS at h
  rcases List.mem_append.1 h with h | h
  · split at h
    · simp at h
    · obtain ⟨x, hx, rfl⟩ := List.mem_map.1 h
      obtain ⟨q, hq, e, -⟩ := chF_mem.1 hx
      exact ⟨q, e, hq⟩
  · split at h
    · obtain ⟨x, hx, rfl⟩ := List.mem_map.1 h
      exact hP _ _ hx
    · simp at h
set_option maxRecDepth 1000000 in
set_option maxHeartbeats 12800000 in
theorem walkFromS (pv av qv : Value) (pvs : List Value) (P : List (List Int)) (a G : List Int) (w : World) (h : RRD w pv pvs P) (n : Nat) (hn : P.length = n) (hb : n ≤ 100000) (ha : RG (Value.int .i64) w av a) (hal : a.length ≤ 1048576) (hq : RG (Value.int .i64) w qv G) (hql : G.length ≤ 1048576)
    (hdis : nsE P n G = 0 → ∀ A s, (rawS P n G A s).Pairwise (fun a b => a.1 ≠ b.1)) :
    Calls Tryz.prog 38 #[pv, av, qv] w fun e w' => ∃ wv, e = .returned (.tuple #[wv, .int .i64 (wkE P n a G)]) ∧ (wkE P n a G = 0 → ∃ rb gm gv ov A, wv = .pointer (some ⟨rb, 0, none⟩) ∧ WkO w.heap.size w w' rb gm gv ov (wkL P n a G A) ∧ SI w' gv (ofR G) 100000 ∧ AbvP P G A) ∧ Below w.heap.size w w' := by
  have hmm := @run_makeMap Tryz.prog
  obtain ⟨po, pn, pc, rfl⟩ : ∃ o n c, pv = .slice o n c := by obtain ⟨ao, cap, e⟩ := h.out.sl; exact ⟨_, _, _, e⟩
  obtain rfl : pn = n := by rw [← hn, ← h.len, h.out.len]
  obtain ⟨qo, qn, qc, rfl⟩ : ∃ o n c, qv = .slice o n c := by obtain ⟨ao, cap, e⟩ := hq.sl; exact ⟨_, _, _, e⟩
  obtain ⟨ao, an, ac, rfl⟩ : ∃ o n c, av = .slice o n c := by obtain ⟨ao, cap, e⟩ := ha.sl; exact ⟨_, _, _, e⟩
  have CN : Hid _ := nextStepsS (.slice po pn pc) (.slice qo qn qc) pvs P G w h pn hn hb hq hql
  have HAL : Hid (a.length = an) := ha.len
  have han : an ≤ 1048576 := by rw [← ha.len]; exact hal
  have HR : Hid (RRD w (.slice po pn pc) pvs P) := h
  have HA : Hid (RG (Value.int .i64) w (.slice ao an ac) a) := ha
  have HQ : Hid (RG (Value.int .i64) w (.slice qo qn qc) G) := hq
  have HN : Hid (P.length = pn) := hn
  have HDI : Hid (nsE P pn G = 0 → ∀ A s, (rawS P pn G A s).Pairwise (fun a b => a.1 ≠ b.1)) := hdis
  clear h ha hq hn hdis
  go_enter Tryz.func38, Tryz.ntmps38
  go_wp2_with fail
  refine Calls.mono CN.out ?_
  rintro e y ⟨fv, rfl, hfv, hy⟩
  have HY : Hid (Below w.heap.size w y) := hy
  clear CN hy
  by_cases h0 : nsE P pn G = 0
  · obtain ⟨gK, gC, gQ, gP, A, rfl, hcl, hab⟩ := hfv h0
    unfold clV
    have HCL : Hid (ClO y gK gC gQ gP P pn G A) := hcl
    have HAB : Hid (AbvP P G A) := hab
    have HD : Hid (∀ s, (rawS P pn G A s).Pairwise (fun a b => a.1 ≠ b.1)) := HDI.out h0 A
    have hck : ckE P = 0 := by
      unfold nsE at h0
      by_cases h1 : ckE P = 0
      · exact h1
      · rw [if_pos h1] at h0; exact h0
    have hz := cl_zero (ck_zero hck)
    have HPT : Hid (∀ (i : Nat) (x : Int), x ∈ P.getD i [] → ∃ p : Nat, x = (p : Int) ∧ p < pn) := fun i x hx => by have := outs_no hz.1 i x hx; rw [HN.out] at this; exact this
    have HPL : Hid (∀ i, (P.getD i []).length ≤ pn) := fun i => by have := len_cl (ck_zero hck) i; rw [HN.out] at this; exact this
    have HNE : Hid (nsE P pn G = 0) := h0
    rw [h0]
    have CA : Hid _ := arePointsS po pn pc (.slice ao an ac) a y (HA.out.below (Nat.le_refl _) HY.out)
    clear hfv hcl hab hck hz h0
    go_wp2_with fail
    refine Calls.mono CA.out ?_
    rintro e y2 ⟨rfl, by2⟩
    have HY2 : Hid (Below y.heap.size y y2) := by2
    clear CA by2
    cases hna : noPts (pn : Int) a with
    | true =>
      have HE : Hid (wkE P pn a G = 3) := by show _ = _; unfold wkE; rw [if_neg (by rw [HNE.out]; decide), if_pos hna]
      clear hna
      go_wp2
      go_ret2
      exact ⟨_, by rw [HE.out]; rfl, fun h => by rw [HE.out] at h; simp at h, bstepB HY.out HY2.out⟩
    | false =>
      have HE : Hid (wkE P pn a G = 0) := by show _ = _; unfold wkE; rw [if_neg (by rw [HNE.out]; decide), if_neg (by rw [hna]; decide)]
      have HAP : Hid (∀ x ∈ a, ∃ p : Nat, x = (p : Int) ∧ p < pn) := noPts_pt hna
      have C1 : Hid _ := siOfB (HQ.out.below (Nat.le_refl _) (bstepB HY.out HY2.out)) hql (k := 100000) (Nat.le_trans (ofR_pts (noPts_pt (ns_parts HNE.out).2)) hb)
      clear hna
      go_wp2_with fail
      refine Calls.mono C1.out ?_
      rintro e y3 ⟨sO, sN, sC, rfl, hs3, by3⟩
      have HY3 : Hid (Below y.heap.size y y3) := bstepB HY2.out by3
      have HS3 : Hid (SI y3 (.slice sO sN sC) (ofR G) 100000) := hs3
      clear C1 hs3 by3 HY2
      obtain ⟨gm, hgm⟩ : ∃ g, g = y3.heap.size := ⟨_, rfl⟩
      obtain ⟨wa, hwa⟩ : ∃ W, W = y3.alloc (.map #[] 0) := ⟨_, rfl⟩
      obtain ⟨wb, hwb⟩ : ∃ W, W = wa.alloc (.cells #[.slice sO sN sC, .map (some gm), .slice none 0 0] 82) := ⟨_, rfl⟩
      have hsa : wa.heap.size = gm + 1 := by rw [hwa, hgm]; simp
      have ba : Below y3.heap.size y3 wa := by rw [hwa]; exact belowB y3 _
      have bb : Below wa.heap.size wa wb := by rw [hwb]; exact belowB wa _
      have hma : MpS wa gm [] := by rw [hwa, hgm]; exact MpS.made y3
      have hwk : WkO y3.heap.size y3 wb (gm + 1) gm (.slice sO sN sC) (.slice none 0 0) (stP (a.take 0)) := ⟨by rw [hwb, ← hsa]; exact BCell.new wa rfl, hma.of_block (bb.block gm hma.lt), OS.nil _ _, bstepB ba bb, by rw [hgm]; exact Nat.le_succ _, by rw [hgm]; exact Nat.le_refl _⟩
      have HO0 : Hid (WkO y3.heap.size y3 wb (gm + 1) gm (.slice sO sN sC) (.slice none 0 0) (stP (a.take 0))) := hwk
      have HZ0 : Hid (y3.heap.size ≤ wb.heap.size) := (bstepB ba bb).size
      have HWB : Hid (wb = (y3.alloc (.map #[] 0)).alloc (.cells #[.slice sO sN sC, .map (some gm), .slice none 0 0] 82)) := by show _ = _; rw [hwb, hwa]
      have HGM : Hid (gm = y3.heap.size) := hgm
      clear hgm hwa hwb hsa ba bb hma hwk
      go_upto_region 7 with fail
      rw [← HGM.out, ← HWB.out]
      clear HWB
      obtain ⟨rb, hrb⟩ : ∃ r, r = gm + 1 := ⟨_, rfl⟩
      rw [← hrb] at HO0 ⊢
      clear hrb
      go_wp2
      go_loopg [12, 13, 37] an (fun g1 _v12 _v13 v37 wr => ∃ (k : Nat) (oo : Option Addr) (on oc : Nat), v37 = .int .i64 k ∧ k ≤ an ∧ an - k ≤ g1 ∧ Hid (WkO y3.heap.size y3 wr rb gm (.slice sO sN sC) (.slice oo on oc) (stP (a.take k))) ∧ Hid (y3.heap.size ≤ wr.heap.size))
      case atStart => exact ⟨0, none, 0, 0, rfl, Nat.zero_le _, by omega, HO0, HZ0⟩
      case round =>
        clear HO0 HZ0
        obtain ⟨k, oo, on, oc, rfl, hkn, hg1, HO, HZ⟩ := hrel
        have hkp : KeyP pn (stP (a.take k)) := KeyP.start (a.take k) (KeyP.nil pn) (fun x hx => HAP.out x (List.mem_of_mem_take hx))
        by_cases hlt : k < an
        · have hltz : (k : Int) < (an : Int) := by omega
          obtain ⟨x, gx, ox, hx1, rfl, hx0⟩ := HA.out.at hlt
          have HFW : Hid (Below w.heap.size w wr) := bstepB HY.out (HY3.out.trans (HO.out.frm.mono HY3.out.size))
          have hx2 : wr.cell? ⟨gx, ox + k, none⟩ = some (.int .i64 x) := keepR HFW.out hx0
          have HST : Hid (stP (a.take (k + 1)) = rchP (x, false) (stP (a.take k)) (x, false)) := stP_snoc hx1
          have HLN : Hid ((stP (a.take k)).length ≤ 1000000) := Nat.le_trans hkp.len (by omega)
          obtain ⟨wa, hwa⟩ : ∃ W, W = wr.alloc (.cells #[.int .i64 x, .bool false] 84) := ⟨_, rfl⟩
          obtain ⟨g13, hg13⟩ : ∃ g, g = wr.heap.size := ⟨_, rfl⟩
          have ba : Below wr.heap.size wr wa := by rw [hwa]; exact belowB _ _
          have ks : wa.heap[g13]? = some (.cells #[.int .i64 x, .bool false] 84 (0, 0)) := by rw [hwa, hg13]; exact heap_alloc_new wr _
          have cs0 := cell_of_row wa g13 0 _ _ _ ks
          have cs1 := cell_of_row wa g13 1 _ _ _ ks
          have CR : Hid _ := reachS y3.heap.size y3 wa rb gm (.slice sO sN sC) (.slice oo on oc) (stP (a.take k)) (HO.out.below HZ.out ba) (Nat.le_trans HZ.out ba.size) x false x false HLN.out
          have HZA : Hid (y3.heap.size ≤ wa.heap.size) := Nat.le_trans HZ.out ba.size
          have HWA : Hid (wa = wr.alloc (.cells #[.int .i64 x, .bool false] 84)) := hwa
          have HG13 : Hid (g13 = wr.heap.size) := hg13
          clear hx1 hx0 hwa hg13 ba ks hkp HO HZ
          go_upto_region 11 with fail
          rw [← HWA.out, ← HG13.out]
          clear HWA HG13 hx2
          go_wp2_with fail
          refine Calls.mono CR.out ?_
          rintro e y5 ⟨rfl, oo2, on2, oc2, hwk, hfr, -⟩
          have HO2 : Hid (WkO y3.heap.size y3 y5 rb gm (.slice sO sN sC) (.slice oo2 on2 oc2) (stP (a.take (k + 1)))) := by show WkO _ _ _ _ _ _ _ _; rw [HST.out]; exact hwk
          have HZ2 : Hid (y3.heap.size ≤ y5.heap.size) := Nat.le_trans HZA.out hfr.size
          clear CR hwk hfr HST HLN HZA cs0 cs1 HFW
          go_wp2
          go_roundg (an - (k + 1))
          case measure => omega
          case rel => exact ⟨k + 1, _, _, _, by go_num, by omega, Nat.le_refl _, HO2, HZ2⟩
        · have hltz : ¬ (k : Int) < (an : Int) := by omega
          have hfull : a.take k = a := List.take_of_length_le (by rw [HAL.out]; omega)
          rw [hfull] at hkp
          have HO1 : Hid (WkO y3.heap.size y3 wr rb gm (.slice sO sN sC) (.slice oo on oc) (stP a)) := by have h1 := HO.out; rw [hfull] at h1; exact h1
          have HBF : Hid (bfsP (nxS P pn G A) (2 * pn + 1 - 0) 0 (stP a) = wkL P pn a G A) := rfl
          have HKP : Hid (KeyP pn (stP a)) := hkp
          clear hfull hkp HO hltz
          go_wp2
          go_loopg [14, 16, 67] (2 * pn + 1) (fun g2 v14 _v16 _v67 wr => ∃ (k : Nat) (oo : Option Addr) (on oc : Nat) (L : List (Stp × Stp)), v14 = .int .i64 k ∧ k ≤ L.length ∧ 2 * pn + 1 - k ≤ g2 ∧ Hid (WkO y3.heap.size y3 wr rb gm (.slice sO sN sC) (.slice oo on oc) L) ∧ Hid (y3.heap.size ≤ wr.heap.size) ∧ Hid (KeyP pn L) ∧ Hid (bfsP (nxS P pn G A) (2 * pn + 1 - k) k L = wkL P pn a G A))
          case atStart => exact ⟨0, _, _, _, _, rfl, Nat.zero_le _, by omega, HO1, HZ, HKP, HBF⟩
          case round =>
            clear HO1 HZ HKP HBF
            obtain ⟨k, oo, on, oc, L, rfl, hkL, hg2, HO, HZ, HKP, HBF⟩ := hrel
            have hL2 : L.length ≤ 2 * pn := HKP.out.len
            have hrow := HO.out.row
            obtain ⟨ro, rc, hre, hro, -⟩ := hrow.sl
            simp only [Value.slice.injEq] at hre
            obtain ⟨rfl, hon, rfl⟩ := hre
            rw [List.length_map] at hon hro
            have cb2 := HO.out.box.cells.2.2
            by_cases hlk : k < on
            · have hltk : (k : Int) < (on : Int) := by omega
              obtain ⟨go, -, rfl⟩ := hro (by omega)
              obtain ⟨⟨s0, ah⟩, he⟩ : ∃ e, L[k]? = some e := ⟨_, List.getElem?_eq_getElem (by omega)⟩
              obtain ⟨p, hp1, hp⟩ := HKP.out.pt _ (List.mem_of_getElem? he)
              obtain ⟨x0, d⟩ := s0
              have e1 : x0 = (p : Int) := hp1
              subst e1
              have hcell := hrow.cell (i := k) (s := ((p : Int), d)) (by rw [List.getElem?_map, he]; rfl)
              obtain ⟨ce0, ce1⟩ := hcell
              have HFY : Hid (Below y.heap.size y wr) := HY3.out.trans (HO.out.frm.mono HY3.out.size)
              have CX : Hid _ := nextS wr gK gC gQ gP P pn G A (HCL.out.below HFY.out) HN.out hb HPL.out p hp d (HD.out _)
              obtain ⟨N, hN⟩ : ∃ N, N = nxS P pn G A ((p : Int), d) := ⟨_, rfl⟩
              rw [← hN] at CX
              have HNP : Hid (∀ s ∈ N, ∃ q : Nat, s.1 = (q : Int) ∧ q < pn) := fun s hs => by rw [hN] at hs; exact rawS_pt HPT.out hs
              have HB2 : Hid (bfsP (nxS P pn G A) (2 * pn + 1 - (k + 1)) (k + 1) (N.foldl (rchP ((p : Int), d)) L) = wkL P pn a G A) := by
                have h1 := HBF.out
                have e5 : 2 * pn + 1 - k = (2 * pn + 1 - (k + 1)) + 1 := fuel_step (Nat.lt_of_lt_of_le (List.getElem?_eq_some_iff.1 he).1 hL2)
                rw [e5, bfsP_some he, ← hN] at h1
                exact h1
              have HEK : Hid (L[k]? = some (((p : Int), d), ah)) := he
              have HK1 : Hid (k + 1 ≤ L.length) := by show _ ≤ _; omega
              clear he hp1 hN hrow hon hro HBF
              go_wp2_with fail
              refine Calls.mono CX.out ?_
              rintro e y5 ⟨u, rfl, hu, by5⟩
              obtain ⟨uo, uc, rfl, huo, hul, hum⟩ := hu.sl
              obtain ⟨un, hun⟩ : ∃ m, m = N.length := ⟨_, rfl⟩
              have hun63 : un ≤ 9223372036854775807 := by unfold maxLen at hum; omega
              clear hul hum
              rw [← hun] at hu ⊢
              have HU0 : Hid (OS wr.heap.size y5 (.slice uo un uc) N) := hu
              have HO0 : Hid (WkO y3.heap.size y3 y5 rb gm (.slice sO sN sC) (.slice (some ⟨go, 0, none⟩) on oc) ((N.take 0).foldl (rchP ((p : Int), d)) L)) := HO.out.below HZ.out by5
              have HZ0 : Hid (y3.heap.size ≤ y5.heap.size) := Nat.le_trans HZ.out by5.size
              have HNB0 : Hid (∀ q, (Value.slice uo un uc).ownBlock = some q → q ≠ rb ∧ q ≠ gm ∧ (Value.slice (some ⟨go, 0, none⟩) on oc).ownBlock ≠ some q) := fun q hq => by
                have h1 := (hu.lt q hq).1
                have h2 := HO.out.box.lt
                have h3 := HO.out.map.lt
                refine ⟨by omega, by omega, fun e => ?_⟩
                have h4 := (HO.out.row.lt q e).2
                omega
              have HUO : Hid (0 < N.length → ∃ g, wr.heap.size ≤ g ∧ uo = some ⟨g, 0, none⟩) := huo
              have HUN : Hid (un = N.length) := hun
              clear CX hu huo hun by5 cb2 ce0 ce1 HO HZ
              go_wp2
              go_loopg [16, 67] un (fun g3 _v16 v67 w3 => ∃ (j : Nat) (oo : Option Addr) (on oc : Nat), v67 = .int .i64 j ∧ j ≤ un ∧ un - j ≤ g3 ∧ Hid (WkO y3.heap.size y3 w3 rb gm (.slice sO sN sC) (.slice oo on oc) ((N.take j).foldl (rchP ((p : Int), d)) L)) ∧ Hid (y3.heap.size ≤ w3.heap.size) ∧ Hid (OS wr.heap.size w3 (.slice uo un uc) N) ∧ Hid (∀ q, (Value.slice uo un uc).ownBlock = some q → q ≠ rb ∧ q ≠ gm ∧ (Value.slice oo on oc).ownBlock ≠ some q))
              case atStart => exact ⟨0, _, _, _, rfl, Nat.zero_le _, by omega, HO0, HZ0, HU0, HNB0⟩
              case round =>
                clear HO0 HZ0 HU0 HNB0
                obtain ⟨j, oo, on, oc, rfl, hjn, hg3, HO, HZ, HU, HNB⟩ := hrel
                have HK2 : Hid (KeyP pn ((N.take j).foldl (rchP ((p : Int), d)) L)) := KeyP.fold _ _ HKP.out fun s hs => HNP.out s (List.mem_of_mem_take hs)
                by_cases hjl : j < un
                · have hltj : (j : Int) < (un : Int) := by omega
                  obtain ⟨gu, -, rfl⟩ := HUO.out (by rw [← HUN.out]; omega)
                  obtain ⟨s, hs⟩ : ∃ s, N[j]? = some s := ⟨_, List.getElem?_eq_getElem (by rw [← HUN.out]; exact hjl)⟩
                  obtain ⟨cu0, cu1⟩ := HU.out.cell hs
                  have HST : Hid ((N.take (j + 1)).foldl (rchP ((p : Int), d)) L = rchP ((p : Int), d) ((N.take j).foldl (rchP ((p : Int), d)) L) s) := fold_snoc _ L hs
                  obtain ⟨L2, hL2e⟩ : ∃ L2, L2 = (N.take j).foldl (rchP ((p : Int), d)) L := ⟨_, rfl⟩
                  have hek : L2[k]? = some (((p : Int), d), ah) := by rw [hL2e]; exact fold_at _ HEK.out
                  rw [← hL2e] at HO HST HK2
                  have HL2 : Hid (L2.length ≤ 1000000) := Nat.le_trans HK2.out.len (by omega)
                  obtain ⟨ro, rc, hre, hro, -⟩ := HO.out.row.sl
                  simp only [Value.slice.injEq] at hre
                  obtain ⟨rfl, hon, rfl⟩ := hre
                  have hk2 : k < on := by rw [hon, List.length_map]; exact (List.getElem?_eq_some_iff.1 hek).1
                  have hkz2 : (k : Int) < (on : Int) := by omega
                  obtain ⟨go, -, rfl⟩ := hro (by rw [← hon]; omega)
                  obtain ⟨WA, hWA⟩ : ∃ W, W = wr.alloc (.cells #[.int .i64 s.1, .bool s.2] 84) := ⟨_, rfl⟩
                  obtain ⟨g16, hg16⟩ : ∃ g, g = wr.heap.size := ⟨_, rfl⟩
                  have ba : Below wr.heap.size wr WA := by rw [hWA]; exact belowB _ _
                  have ks : WA.heap[g16]? = some (.cells #[.int .i64 s.1, .bool s.2] 84 (0, 0)) := by rw [hWA, hg16]; exact heap_alloc_new wr _
                  have cs0 : WA.cell? ⟨g16, 0, none⟩ = some (.int .i64 s.1) := cell_of_row WA g16 0 _ _ _ ks
                  have cs1 : WA.cell? ⟨g16, 1, none⟩ = some (.bool s.2) := cell_of_row WA g16 1 _ _ _ ks
                  have HOA : Hid (WkO y3.heap.size y3 WA rb gm (.slice sO sN sC) (.slice (some ⟨go, 0, none⟩) on oc) L2) := HO.out.below HZ.out ba
                  have HZA : Hid (y3.heap.size ≤ WA.heap.size) := Nat.le_trans HZ.out ba.size
                  have HBA : Hid (Below wr.heap.size wr WA) := ba
                  have cb2 := HOA.out.box.cells.2.2
                  obtain ⟨ce0, ce1⟩ := HOA.out.row.cell (i := k) (s := ((p : Int), d)) (by rw [List.getElem?_map, hek]; rfl)
                  have HWA : Hid (WA = wr.alloc (.cells #[.int .i64 s.1, .bool s.2] 84)) := hWA
                  have HG16 : Hid (g16 = wr.heap.size) := hg16
                  clear hs hL2e hek hon hro hWA hg16 ba ks HK2
                  go_upto_region 19 with fail
                  rw [← HWA.out, ← HG16.out]
                  clear HWA HG16 cu0 cu1
                  have KEEP : ∀ u, Below WA.heap.size WA u → L3.AllL u [(1, fun w' => w'.cell? ⟨g16, 0, none⟩ = some (.int .i64 s.1) ∧ w'.cell? ⟨g16, 1, none⟩ = some (.bool s.2)), (5, fun w' => w'.cell? ⟨rb, 2, none⟩ = some (.slice (some ⟨go, 0, none⟩) on oc)), (8, fun w' => w'.cell? ⟨go, k * 2, none⟩ = some (.int .i64 (p : Int)) ∧ w'.cell? ⟨go, k * 2 + 1, none⟩ = some (.bool d))] := fun u hu => ⟨⟨keepR hu cs0, keepR hu cs1⟩, keepR hu cb2, ⟨keepR hu ce0, keepR hu ce1⟩, trivial⟩
                  refine L3.region_late [(1, fun w' => w'.cell? ⟨g16, 0, none⟩ = some (.int .i64 s.1) ∧ w'.cell? ⟨g16, 1, none⟩ = some (.bool s.2)), (5, fun w' => w'.cell? ⟨rb, 2, none⟩ = some (.slice (some ⟨go, 0, none⟩) on oc)), (8, fun w' => w'.cell? ⟨go, k * 2, none⟩ = some (.int .i64 (p : Int)) ∧ w'.cell? ⟨go, k * 2 + 1, none⟩ = some (.bool d))] (by kernel_rfl) ?_
                  have B : Below WA.heap.size WA WA.drew := (Below.refl _ _).drew
                  obtain ⟨w1, hw1⟩ : ∃ u, u = WA.drew := ⟨_, rfl⟩
                  rw [← hw1] at B ⊢
                  clear hw1
                  have hHeld := KEEP _ B
                  refine L3.late_free 0 (v := .pointer (some ⟨rb, 0, none⟩)) rfl (by kernel_rfl) (by kernel_rfl) (by kernel_rfl) (by kernel_rfl) (by kernel_rfl) (by kernel_rfl) (fun _ _ _ h => h) (Or.inl ⟨by rfl, ?_⟩) hHeld ?_
                  · (intro u _; go_simp)
                  (try simp only [Act.put, List.setIfInBounds_toArray, List.set_cons_zero, List.set_cons_succ])
                  refine L3.late_take 1 (v := .agg #[.int .i64 s.1, .bool s.2]) rfl (by kernel_rfl) (List.Mem.head _) (by kernel_rfl) (by kernel_rfl) (by kernel_rfl) (by kernel_rfl) (fun _ _ _ h => h) (Or.inl ⟨by rfl, ?_⟩) hHeld ?_
                  · (intro u hu; (try dsimp only at hu); go_split_ands; go_simp)
                  (try simp only [Act.put, List.setIfInBounds_toArray, List.set_cons_zero, List.set_cons_succ])
                  refine L3.late_free 2 (v := .pointer (some ⟨rb, 0, none⟩)) rfl (by kernel_rfl) (by kernel_rfl) (by kernel_rfl) (by kernel_rfl) (by kernel_rfl) (by kernel_rfl) (fun _ _ _ h => h) (Or.inl ⟨by rfl, ?_⟩) hHeld ?_
                  · (intro u _; go_simp)
                  (try simp only [Act.put, List.setIfInBounds_toArray, List.set_cons_zero, List.set_cons_succ])
                  refine L3.late_free 3 (v := .pointer (some ⟨rb, 0, none⟩)) rfl (by kernel_rfl) (by kernel_rfl) (by kernel_rfl) (by kernel_rfl) (by kernel_rfl) (by kernel_rfl) (fun _ _ _ h => h) (Or.inl ⟨by rfl, ?_⟩) hHeld ?_
                  · (intro u _; go_simp)
                  (try simp only [Act.put, List.setIfInBounds_toArray, List.set_cons_zero, List.set_cons_succ])
                  refine L3.late_free 4 (v := .pointer (some ⟨rb, 2, none⟩)) rfl (by kernel_rfl) (by kernel_rfl) (by kernel_rfl) (by kernel_rfl) (by kernel_rfl) (by kernel_rfl) (fun _ _ _ h => h) (Or.inl ⟨by rfl, ?_⟩) hHeld ?_
                  · (intro u _; go_simp)
                  (try simp only [Act.put, List.setIfInBounds_toArray, List.set_cons_zero, List.set_cons_succ])
                  refine L3.late_take 5 (v := .slice (some ⟨go, 0, none⟩) on oc) rfl (by kernel_rfl) (List.Mem.tail _ (List.Mem.head _)) (by kernel_rfl) (by kernel_rfl) (by kernel_rfl) (by kernel_rfl) (fun _ _ _ h => h) (Or.inl ⟨by rfl, ?_⟩) hHeld ?_
                  · (intro u hu; (try dsimp only at hu); go_split_ands; go_simp)
                  (try simp only [Act.put, List.setIfInBounds_toArray, List.set_cons_zero, List.set_cons_succ])
                  refine L3.late_free 6 (v := .int .i64 ((k : Nat) : Int)) rfl (by kernel_rfl) (by kernel_rfl) (by kernel_rfl) (by kernel_rfl) (by kernel_rfl) (by kernel_rfl) (fun _ _ _ h => h) (Or.inl ⟨by rfl, ?_⟩) hHeld ?_
                  · (intro u _; go_simp)
                  (try simp only [Act.put, List.setIfInBounds_toArray, List.set_cons_zero, List.set_cons_succ])
                  refine L3.late_step 7 (by kernel_rfl) rfl (fun K hK => ?_)
                  go_simp
                  refine hK.out _ _ (L3.AllL.kept hHeld) ?_
                  clear hK K
                  (try simp only [Act.put, List.setIfInBounds_toArray, List.set_cons_zero, List.set_cons_succ])
                  refine L3.late_take 8 (v := .agg #[.int .i64 (p : Int), .bool d]) rfl (by kernel_rfl) (List.Mem.tail _ (List.Mem.tail _ (List.Mem.head _))) (by kernel_rfl) (by kernel_rfl) (by kernel_rfl) (by kernel_rfl) (fun _ _ _ h => h) (Or.inl ⟨by rfl, ?_⟩) hHeld ?_
                  · (intro u hu; (try dsimp only at hu); go_split_ands; go_simp)
                  (try simp only [Act.put, List.setIfInBounds_toArray, List.set_cons_zero, List.set_cons_succ])
                  refine L3.late_step 9 (by kernel_rfl) rfl (fun K hK => ?_)
                  go_simp
                  refine (reachS y3.heap.size y3 w1 rb gm (.slice sO sN sC) (.slice (some ⟨go, 0, none⟩) on oc) L2 (HOA.out.below HZA.out B) (Nat.le_trans HZA.out B.size) s.1 s.2 (p : Int) d HL2.out).mono ?_
                  rintro e y2 ⟨rfl, oo', on', oc', hwk, hfr, hob⟩
                  go_wp2_with fail
                  refine hK.out _ _ ⟨Or.inl ⟨9, by kernel_rfl, by kernel_rfl⟩, Or.inl ⟨7, by kernel_rfl, by kernel_rfl⟩, Or.inl ⟨9, by kernel_rfl, by kernel_rfl⟩, trivial⟩ ?_
                  clear hK K
                  (try simp only [Act.put, List.setIfInBounds_toArray, List.set_cons_zero, List.set_cons_succ])
                  refine L3.late_done (by kernel_rfl) ?_ _
                  have HO2 : Hid (WkO y3.heap.size y3 y2 rb gm (.slice sO sN sC) (.slice oo' on' oc') ((N.take (j + 1)).foldl (rchP ((p : Int), d)) L)) := by show WkO _ _ _ _ _ _ _ _; rw [HST.out]; exact hwk
                  have HZ2 : Hid (y3.heap.size ≤ y2.heap.size) := Nat.le_trans HZA.out (Nat.le_trans B.size hfr.size)
                  have hblk : ∀ q, (Value.slice (some ⟨gu, 0, none⟩) un uc).ownBlock = some q → y2.heap[q]? = wr.heap[q]? := fun q hq => by
                    obtain ⟨h1, h2, h3⟩ := HNB.out q hq
                    have h4 := (HU.out.lt q hq).2
                    rw [hfr.block q (Nat.lt_of_lt_of_le h4 (Nat.le_trans HBA.out.size B.size)) (fun e => Or.elim e h1 (fun e => Or.elim e h2 h3)), B.block q (Nat.lt_of_lt_of_le h4 HBA.out.size), HBA.out.block q h4]
                  have HU2 : Hid (OS _ y2 (.slice (some ⟨gu, 0, none⟩) un uc) N) := HU.out.of_blocks hblk
                  have HNB2 : Hid (∀ q, (Value.slice (some ⟨gu, 0, none⟩) un uc).ownBlock = some q → q ≠ rb ∧ q ≠ gm ∧ (Value.slice oo' on' oc').ownBlock ≠ some q) := fun q hq => by
                    obtain ⟨h1, h2, h3⟩ := HNB.out q hq
                    have h4 := (HU.out.lt q hq).2
                    refine ⟨h1, h2, fun e => ?_⟩
                    rcases hob q e with h5 | h5
                    · exact h3 h5
                    · have h6 := Nat.le_trans HBA.out.size B.size
                      omega
                  clear hwk hfr hob hblk B KEEP hHeld HO HZ HU HNB HOA HZA HBA HST HL2 cs0 cs1 cb2 ce0 ce1
                  go_wp2
                  go_roundg (un - (j + 1))
                  case measure => omega
                  case rel => exact ⟨j + 1, _, _, _, by go_num, by omega, Nat.le_refl _, HO2, HZ2, HU2, HNB2⟩
                · have hltj : ¬ (j : Int) < (un : Int) := by omega
                  have hfull : N.take j = N := List.take_of_length_le (by rw [← HUN.out]; omega)
                  rw [hfull] at HK2
                  have HO2 : Hid (WkO y3.heap.size y3 wr rb gm (.slice sO sN sC) (.slice oo on oc) (N.foldl (rchP ((p : Int), d)) L)) := by have h1 := HO.out; rw [hfull] at h1; exact h1
                  have HK3 : Hid (k + 1 ≤ (N.foldl (rchP ((p : Int), d)) L).length) := Nat.le_trans HK1.out (rchP_fold_le _ _ _)
                  clear hfull HO HU HNB
                  go_wp2
                  go_roundg (2 * pn + 1 - (k + 1))
                  case measure => omega
                  case rel => exact ⟨k + 1, _, _, _, _, by go_num, HK3.out, Nat.le_refl _, HO2, HZ, HK2, HB2⟩
            · have hltk : ¬ (k : Int) < (on : Int) := by omega
              have HL : Hid (wkL P pn a G A = L) := by show _ = _; rw [← HBF.out]; exact bfsP_none (by omega)
              have HFY : Hid (Below w.heap.size w wr) := bstepB HY.out (HY3.out.trans (HO.out.frm.mono HY3.out.size))
              have HWK : Hid (WkO w.heap.size w wr rb gm (.slice sO sN sC) (.slice oo on oc) (wkL P pn a G A)) := by
                have h1 := HO.out
                have h2 := Nat.le_trans HY.out.size HY3.out.size
                show WkO _ _ _ _ _ _ _ _
                rw [HL.out]
                exact ⟨h1.box, h1.map, h1.row.mono h2, HFY.out, Nat.le_trans h2 h1.hrb, Nat.le_trans h2 h1.hgm⟩
              have HSI : Hid (SI wr (.slice sO sN sC) (ofR G) 100000) := HS3.out.below HO.out.frm
              clear hrow hon hro HO HZ HKP HBF
              go_wp2
              go_ret2
              exact ⟨_, by rw [HE.out]; rfl, fun _ => ⟨rb, rfl, gm, .slice sO sN sC, _, A, HWK.out, HSI.out, HAB.out⟩, HFY.out⟩
  · have HE : Hid (wkE P pn a G = nsE P pn G) := by show _ = _; unfold wkE; rw [if_pos h0]
    obtain ⟨c, hc⟩ : ∃ c, c = nsE P pn G := ⟨_, rfl⟩
    rw [← hc] at h0 ⊢
    have HC : Hid (c = nsE P pn G) := hc
    have H0 : Hid (c ≠ 0) := h0
    have hcz : (c != (0 : Int)) = true := by simpa using h0
    clear hc hfv h0
    go_wp2
    go_ret2
    exact ⟨_, by rw [HE.out, ← HC.out]; rfl, fun h => absurd (by rw [HC.out, ← HE.out]; exact h) H0.out, HY.out⟩
end Go.Proofs.YthdpomgpcblpeaaGreat

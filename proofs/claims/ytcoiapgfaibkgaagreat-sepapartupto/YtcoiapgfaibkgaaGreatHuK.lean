/-
  Proved here: the law's anew: turned questions are told anew.
-/
import Derived.Test.YtcoiapgfaibkgaaGreatHuN
namespace Go.Proofs.YtcoiapgfaibkgaaGreat
set_option linter.unusedVariables false
open Go.RowKit Go.Shelf Go.Sort Go.Lib
theorem ApV.same {P : List (List Int)} {a b G : List Int} {c : Int} {v v' : Value} (h : ApV P a b G c v) (h' : ApV P a b G c v') : ∃ r, v = .bool r ∧ v' = .bool r := by
  obtain ⟨r, rfl, h1, h2⟩ := h
  obtain ⟨r', rfl, h1', h2'⟩ := h'
  refine ⟨r, rfl, ?_⟩
  by_cases h0 : c = 0
  · have e := (h2 h0).trans (h2' h0).symm
    rw [Bool.eq_iff_iff.2 e]
  · rw [h1 h0, h1' h0]
set_option maxRecDepth 1000000 in
theorem apartU (pv av bv qv : Value) (pvs : List Value) (P : List (List Int)) (a b G : List Int) (w : World) (h : RRD w pv pvs P) (n : Nat) (hn : P.length = n) (hn7 : n ≤ 100) (ha : RG (Value.int .i64) w av a) (hal : a.length ≤ 1048576) (hb : RG (Value.int .i64) w bv b) (hbl : b.length ≤ 1048576) (hq : RG (Value.int .i64) w qv G) (hql : G.length ≤ 1048576) :
    Calls Tryz.prog 17 #[pv, av, bv, qv] w fun e w' => ∃ v, e = .returned (.tuple #[v, .int .i64 (apE P n a b G)]) ∧ ApV P a b G (apE P n a b G) v ∧ Below w.heap.size w w' := by
  refine (apartP pv av bv qv pvs P a b G w h n hn (by omega) ha hal hb hbl hq hql (fun h1 A s => hdis_any hn h1 A s)).mono ?_
  rintro e w' ⟨r, he, h1, hr, hbw⟩
  refine ⟨_, he, ⟨r, rfl, h1, fun h0 => ?_⟩, hbw⟩
  obtain ⟨A, hA, hr2⟩ := hr h0
  subst hn
  have hwk : wkE P P.length a G = 0 := Classical.byContradiction fun hne => by
    unfold apE at h0
    rw [if_pos hne] at h0
    exact hne h0
  obtain ⟨hck, pG, pa⟩ := wk_parts hwk
  rw [hr2, decide_eq_true_iff, List.length_eq_zero_iff, List.eq_nil_iff_forall_not_mem]
  constructor
  · rintro h1 ⟨x, hx, y, hy, ht⟩
    exact h1 y ((mem_meetR _ _ _).2 ⟨(ends_g hck pa pG hA y).2 ⟨x, hx, ht⟩, (mem_ofR ..).2 hy⟩)
  · intro h1 y hy
    obtain ⟨h2, h3⟩ := (mem_meetR _ _ _).1 hy
    obtain ⟨x, hx, ht⟩ := (ends_g hck pa pG hA y).1 h2
    exact h1 ⟨x, hx, y, (mem_ofR ..).1 h3, ht⟩
/-- A row that lies below what changed. -/
theorem RmB.belowC {B C : Nat} {w w' : World} {u : Value} {L : List Int} (h : RmB B w u L) (hc : ∀ q, u.ownBlock = some q → q < C) (hb : Below C w w') : RmB B w' u L := h.of_blocks fun q _ _ hq => hb.block q (hc q hq)
/-- The last line taken away. -/
theorem TwI.cutL {B : Nat} {w w' : World} {P : List (List Int)} {m g cap : Nat} {vs : List Value} (h : TwI B w w' P m (.slice (some ⟨g, 0, none⟩) m cap) vs) (hP : P.length = m) (k : Nat) (hk : k < m) :
    RRD (w'.setCell ⟨g, k, none⟩ (.slice none 0 0)) (.slice (some ⟨g, 0, none⟩) m cap) (vs.set k (.slice none 0 0)) (P.set k []) ∧ Below B w' (w'.setCell ⟨g, k, none⟩ (.slice none 0 0)) := by
  have hs := (h.row.set h.len k (.slice none 0 0)).1
  refine ⟨⟨hs.rg, by rw [List.length_set, List.length_set, h.len, hP], fun j x hx => ?_⟩, (Below.refl B w').setCell (p := ⟨g, k, none⟩) (h.row.lt g rfl).1 _⟩
  by_cases e : j = k
  · subst e
    rw [List.getElem?_set_self (by rw [h.len]; exact hk)] at hx
    simp only [Option.some.injEq] at hx
    rw [← hx, List.getD_eq_getElem?_getD, List.getElem?_set_self (by omega)]
    exact RG.nil _
  · rw [List.getElem?_set_ne (fun h => e h.symm)] at hx
    rw [List.getD_eq_getElem?_getD, List.getElem?_set_ne (fun h => e h.symm), ← List.getD_eq_getElem?_getD]
    have h1 := h.inn j x hx
    exact (h1.of_blocks fun q _ h2 hq => Below.heap_setCell _ _ _ _ (fun e => h1.neO h.row (by decide) hq (by rw [show q = g from e]; rfl))).rg
set_option maxRecDepth 1000000 in
set_option maxHeartbeats 12800000 in
theorem anew16 (B0 B1 B2 B3 : Nat) (w0 : World) (pv av bv qv : Value) (pvs : List Value) (P : List (List Int)) (m : Nat) (a b G : List Int) (w : World) (hB0 : B0 ≤ B1) (hB1 : B1 ≤ B2) (hB2 : B2 ≤ B3) (hB3 : B3 ≤ w.heap.size) (hn : P.length = m) (hm7 : m ≤ 100) (hbl : ∀ i, (P.getD i []).length ≤ 1048576)
    (hp : ∀ W, Below B1 w W → TwI B0 w0 W P m pv pvs) (hpL : ∀ q, pv.ownBlock = some q → q < B1) (ha : RmB B1 w av a) (haL : ∀ q, av.ownBlock = some q → q < B2) (hal : a.length ≤ 1048576) (hb : RmB B2 w bv b) (hbL : ∀ q, bv.ownBlock = some q → q < B3) (hbl2 : b.length ≤ 1048576) (hq : RmB B3 w qv G) (hql : G.length ≤ 1048576) :
    Calls Tryz.prog 18 #[pv, av, bv, qv] w fun e w' => e = .returned (.bool true) ∧ Below B0 w w' := by
  have h0 := hp w (Below.refl _ _)
  obtain ⟨po, pc, rfl, hpo, hpcc, -, -⟩ := h0.row.sl
  rw [h0.len] at hp hpL hpo hpcc ⊢
  obtain ⟨ao, an, ac, rfl⟩ : ∃ o n c, av = .slice o n c := by obtain ⟨g, cap, e, -⟩ := ha; exact ⟨_, _, _, e⟩
  obtain ⟨bo, bn, bc, rfl⟩ : ∃ o n c, bv = .slice o n c := by obtain ⟨g, cap, e, -⟩ := hb; exact ⟨_, _, _, e⟩
  obtain ⟨qo, qn, qc, rfl⟩ : ∃ o n c, qv = .slice o n c := by obtain ⟨g, cap, e, -⟩ := hq; exact ⟨_, _, _, e⟩
  have HP : Hid (∀ W, Below B1 w W → TwI B0 w0 W P m (.slice po m pc) pvs) := hp
  have HPL : Hid (∀ q, (Value.slice po m pc).ownBlock = some q → q < B1) := hpL
  have HAL : Hid (∀ q, (Value.slice ao an ac).ownBlock = some q → q < B2) := haL
  have HBL : Hid (∀ q, (Value.slice bo bn bc).ownBlock = some q → q < B3) := hbL
  have HQL : Hid (∀ q, (Value.slice qo qn qc).ownBlock = some q → q < w.heap.size) := fun q e => (hq.lt q e).2
  have HN : Hid (P.length = m) := hn
  have HLEN : Hid (∀ i, (P.getD i []).length ≤ 1048576) := hbl
  have HAZ : Hid (a.length ≤ 1048576) := hal
  have HBZ : Hid (b.length ≤ 1048576) := hbl2
  have HQZ : Hid (G.length ≤ 1048576) := hql
  have HPO : Hid (0 < m → ∃ g, B0 ≤ g ∧ po = some ⟨g, 0, none⟩) := hpo
  have CA : Hid _ := turned16 B1 (.slice ao an ac) a w ha hal
  have HA0 : Hid (RmB B1 w (.slice ao an ac) a) := ha
  have HB0 : Hid (RmB B2 w (.slice bo bn bc) b) := hb
  have HQ0 : Hid (RmB B3 w (.slice qo qn qc) G) := hq
  clear h0 hp hpL haL hbL hn hbl hal hbl2 hql ha hb hq hpo
  go_enter Tryz.func18, Tryz.ntmps18
  go_wp2_with fail
  refine Calls.mono CA.out ?_
  rintro e y1 ⟨xv, rfl, hx, ha1, hf1⟩
  obtain ⟨xo, xn, xc, rfl⟩ : ∃ o n c, xv = .slice o n c := by obtain ⟨ao, cap, e, -⟩ := hx.sl; exact ⟨_, _, _, e⟩
  have HX1 : Hid (OG (Value.int .i64) w.heap.size 3 y1 (.slice xo xn xc) (tuL a)) := hx
  have HA1 : Hid (RmB B1 y1 (.slice ao an ac) (tuL a)) := ha1
  have HE1 : Hid (Below B1 w y1) := hf1.below (by omega) (fun q e => (HA0.out.lt q e).1)
  have HB1' : Hid (RmB B2 y1 (.slice bo bn bc) b) := HB0.out.of_blocks fun q h1 h2 hq => hf1.block q h2 (fun e => by have := HAL.out q e; omega)
  have HQ1 : Hid (RmB B3 y1 (.slice qo qn qc) G) := HQ0.out.of_blocks fun q h1 h2 hq => hf1.block q h2 (fun e => by have := HAL.out q e; omega)
  have CB : Hid _ := turned16 B2 (.slice bo bn bc) b y1 HB1'.out HBZ.out
  have HS1 : Hid (w.heap.size ≤ y1.heap.size) := hf1.size
  clear CA hx ha1 hf1 HA0 HB0 HQ0
  go_wp2_with fail
  refine Calls.mono CB.out ?_
  rintro e y2 ⟨yv, rfl, hy, hb2, hf2⟩
  obtain ⟨yo, yn, yc, rfl⟩ : ∃ o n c, yv = .slice o n c := by obtain ⟨ao, cap, e, -⟩ := hy.sl; exact ⟨_, _, _, e⟩
  have HY2 : Hid (OG (Value.int .i64) w.heap.size 3 y2 (.slice yo yn yc) (tuL b)) := hy.mono HS1.out
  have HB2' : Hid (RmB B2 y2 (.slice bo bn bc) (tuL b)) := hb2
  have HE2 : Hid (Below B1 w y2) := HE1.out.trans (hf2.below (by have := HS1.out; omega) (fun q e => by have := (HB1'.out.lt q e).1; omega))
  have HA2 : Hid (RmB B1 y2 (.slice ao an ac) (tuL a)) := HA1.out.of_blocks fun q h1 h2 hq => hf2.block q h2 (fun e => by have := HAL.out q hq; have := (HB1'.out.lt q e).1; omega)
  have HQ2 : Hid (RmB B3 y2 (.slice qo qn qc) G) := HQ1.out.of_blocks fun q h1 h2 hq => hf2.block q h2 (fun e => by have := HBL.out q e; omega)
  have HX2 : Hid (OG (Value.int .i64) w.heap.size 3 y2 (.slice xo xn xc) (tuL a)) := HX1.out.of_blocks fun q hq => hf2.block q (HX1.out.lt q hq).2 (fun e => by have := HBL.out q e; have := (HX1.out.lt q hq).1; omega)
  have CC : Hid _ := turned16 B3 (.slice qo qn qc) G y2 HQ2.out HQZ.out
  have HS2 : Hid (w.heap.size ≤ y2.heap.size) := Nat.le_trans HS1.out hf2.size
  clear CB hy hb2 hf2 HA1 HB1' HQ1 HX1 HE1 HS1
  go_wp2_with fail
  refine Calls.mono CC.out ?_
  rintro e y3 ⟨zv, rfl, hz, hq3, hf3⟩
  obtain ⟨zo, zn, zc, rfl⟩ : ∃ o n c, zv = .slice o n c := by obtain ⟨ao, cap, e, -⟩ := hz.sl; exact ⟨_, _, _, e⟩
  have HZ3 : Hid (OG (Value.int .i64) w.heap.size 3 y3 (.slice zo zn zc) (tuL G)) := hz.mono HS2.out
  have HQ3 : Hid (RmB B3 y3 (.slice qo qn qc) (tuL G)) := hq3
  have HE3 : Hid (Below B1 w y3) := HE2.out.trans (hf3.below (by have := HS2.out; omega) (fun q e => by have := (HQ2.out.lt q e).1; omega))
  have HA3 : Hid (RmB B1 y3 (.slice ao an ac) (tuL a)) := HA2.out.of_blocks fun q h1 h2 hq => hf3.block q h2 (fun e => by have := HAL.out q hq; have := (HQ2.out.lt q e).1; omega)
  have HB3' : Hid (RmB B2 y3 (.slice bo bn bc) (tuL b)) := HB2'.out.of_blocks fun q h1 h2 hq => hf3.block q h2 (fun e => by have := HBL.out q hq; have := (HQ2.out.lt q e).1; omega)
  have HX3 : Hid (OG (Value.int .i64) w.heap.size 3 y3 (.slice xo xn xc) (tuL a)) := HX2.out.of_blocks fun q hq => hf3.block q (HX2.out.lt q hq).2 (fun e => by have := HQL.out q e; have := (HX2.out.lt q hq).1; omega)
  have HY3 : Hid (OG (Value.int .i64) w.heap.size 3 y3 (.slice yo yn yc) (tuL b)) := HY2.out.of_blocks fun q hq => hf3.block q (HY2.out.lt q hq).2 (fun e => by have := HQL.out q e; have := (HY2.out.lt q hq).1; omega)
  have HP3 : Hid (TwI B0 w0 y3 P m (.slice po m pc) pvs) := HP.out y3 HE3.out
  clear CC hz hq3 hf3 HA2 HB2' HQ2 HX2 HY2 HE2 HS2 HP
  rcases Nat.eq_zero_or_pos m with hm0 | hm0
  case' inl =>
    have hmz : ((m : Nat) : Int) = 0 := by omega
    have hgt : ¬ (m : Int) > 0 := by omega
    obtain ⟨W4, hW4⟩ : ∃ U, U = y3 := ⟨_, rfl⟩
    obtain ⟨vs4, hvs4⟩ : ∃ U, U = pvs := ⟨_, rfl⟩
    obtain ⟨P4, hP4⟩ : ∃ U, U = P := ⟨_, rfl⟩
    have HR4 : Hid (RRD W4 (.slice po m pc) vs4 P4) := by
      show RRD _ _ _ _
      rw [hW4, hvs4, hP4]
      have h1 := HP3.out
      have h2 := HN.out
      subst h2
      exact h1.rrd
    have HN4 : Hid (P4.length = m) := by show _ = _; rw [hP4]; exact HN.out
    have HL4 : Hid (∀ i, (P4.getD i []).length ≤ 1048576) := by show ∀ _, _; rw [hP4]; exact HLEN.out
    have HE4 : Hid (Below B0 w W4) := by show Below _ _ _; rw [hW4]; exact HE3.out.mono hB0
    have HA4 : Hid (RmB B1 W4 (.slice ao an ac) (tuL a)) := by show RmB _ _ _ _; rw [hW4]; exact HA3.out
    have HB4 : Hid (RmB B2 W4 (.slice bo bn bc) (tuL b)) := by show RmB _ _ _ _; rw [hW4]; exact HB3'.out
    have HQ4 : Hid (RmB B3 W4 (.slice qo qn qc) (tuL G)) := by show RmB _ _ _ _; rw [hW4]; exact HQ3.out
    have HX4 : Hid (OG (Value.int .i64) w.heap.size 3 W4 (.slice xo xn xc) (tuL a)) := by show OG _ _ _ _ _ _; rw [hW4]; exact HX3.out
    have HY4 : Hid (OG (Value.int .i64) w.heap.size 3 W4 (.slice yo yn yc) (tuL b)) := by show OG _ _ _ _ _ _; rw [hW4]; exact HY3.out
    have HZ4 : Hid (OG (Value.int .i64) w.heap.size 3 W4 (.slice zo zn zc) (tuL G)) := by show OG _ _ _ _ _ _; rw [hW4]; exact HZ3.out
    clear hm0 hmz
    go_upto_region 6 with fail
    rw [← hW4]
    clear hW4 hvs4 hP4 hgt
  case' inr =>
    obtain ⟨gp, hgp, rfl⟩ := HPO.out hm0
    obtain ⟨k, hk⟩ : ∃ k, m = k + 1 := ⟨m - 1, by omega⟩
    have hkz : (m : Int) - 1 = (k : Int) := by omega
    have hgt : (m : Int) > 0 := by omega
    have hkm : (k : Int) < (m : Int) := by omega
    have hkk : k < m := by omega
    obtain ⟨hcr, hcb⟩ := HP3.out.cutL HN.out k hkk
    obtain ⟨x0, hx0⟩ : ∃ x, pvs[k]? = some x := ⟨_, List.getElem?_eq_getElem (by rw [HP3.out.len]; exact hkk)⟩
    obtain ⟨hc1, hc2⟩ := HP3.out.row.cell hx0
    have HGP : Hid (gp < B1) := HPL.out gp rfl
    obtain ⟨W4, hW4⟩ : ∃ U, U = y3.setCell ⟨gp, k, none⟩ (.slice none 0 0) := ⟨_, rfl⟩
    obtain ⟨vs4, hvs4⟩ : ∃ U, U = pvs.set k (.slice none 0 0) := ⟨_, rfl⟩
    obtain ⟨P4, hP4⟩ : ∃ U, U = P.set k [] := ⟨_, rfl⟩
    rw [← hW4] at hcr hcb
    rw [← hvs4, ← hP4] at hcr
    have keep : ∀ q, B1 ≤ q → W4.heap[q]? = y3.heap[q]? := fun q hq => by rw [hW4]; exact Below.heap_setCell _ _ _ _ (fun e => by have e1 : q = gp := e; have := HGP.out; omega)
    have HR4 : Hid (RRD W4 (.slice (some ⟨gp, 0, none⟩) m pc) vs4 P4) := hcr
    have HN4 : Hid (P4.length = m) := by show _ = _; rw [hP4, List.length_set]; exact HN.out
    have HL4 : Hid (∀ i, (P4.getD i []).length ≤ 1048576) := fun i => by
      rw [hP4]
      by_cases e : i = k
      · subst e
        rw [List.getD_eq_getElem?_getD, List.getElem?_set_self (by rw [HN.out]; exact hkk)]; exact Nat.zero_le _
      · rw [List.getD_eq_getElem?_getD, List.getElem?_set_ne (fun h => e h.symm), ← List.getD_eq_getElem?_getD]; exact HLEN.out i
    have HE4 : Hid (Below B0 w W4) := (HE3.out.mono hB0).trans hcb
    have HA4 : Hid (RmB B1 W4 (.slice ao an ac) (tuL a)) := HA3.out.of_blocks fun q h1 h2 hq => keep q h1
    have HB4 : Hid (RmB B2 W4 (.slice bo bn bc) (tuL b)) := HB3'.out.of_blocks fun q h1 h2 hq => keep q (by omega)
    have HQ4 : Hid (RmB B3 W4 (.slice qo qn qc) (tuL G)) := HQ3.out.of_blocks fun q h1 h2 hq => keep q (by omega)
    have HX4 : Hid (OG (Value.int .i64) w.heap.size 3 W4 (.slice xo xn xc) (tuL a)) := HX3.out.of_blocks fun q hq => keep q (by have := (HX3.out.lt q hq).1; omega)
    have HY4 : Hid (OG (Value.int .i64) w.heap.size 3 W4 (.slice yo yn yc) (tuL b)) := HY3.out.of_blocks fun q hq => keep q (by have := (HY3.out.lt q hq).1; omega)
    have HZ4 : Hid (OG (Value.int .i64) w.heap.size 3 W4 (.slice zo zn zc) (tuL G)) := HZ3.out.of_blocks fun q hq => keep q (by have := (HZ3.out.lt q hq).1; omega)
    have HW4 : Hid (W4 = y3.setCell ⟨gp, k, none⟩ (.slice none 0 0)) := hW4
    clear hcr hcb keep hW4 hvs4 hP4 hx0 hk hm0
    go_upto_region 6 with fail
    rw [← HW4.out]
    clear hkz hgt hkm hkk hc1 hc2 HW4 HGP hgp
  all_goals
    clear HA3 HB3' HQ3 HX3 HY3 HZ3 HE3 HP3 HPL HPO HN HLEN
    have CT : Hid _ := twin16 _ vs4 P4 W4 HR4.out m HN4.out (by omega) HL4.out
    go_wp2_with fail
    refine Calls.mono CT.out ?_
    rintro e y5 ⟨uv, uvs, rfl, ht⟩
    obtain ⟨uo, un, uc, rfl⟩ : ∃ o n c, uv = .slice o n c := by obtain ⟨ao, cap, e⟩ := ht.row.rg.sl; exact ⟨_, _, _, e⟩
    have HB5 : Hid (Below W4.heap.size W4 y5) := ht.frm
    have HE5 : Hid (Below B0 w y5) := HE4.out.trans (ht.frm.mono (by have := HE4.out.size; omega))
    have hrr : RRD y5 (.slice uo un uc) uvs P4 := by
      have h2 := HN4.out
      subst h2
      exact ht.rrd
    have CR : Hid _ := refApart (.slice uo un uc) (.slice xo xn xc) (.slice yo yn yc) (.slice zo zn zc) uvs P4 (tuL a) (tuL b) (tuL G) y5 hrr m HN4.out hm7 (HX4.out.below HB5.out).rg (by rw [tuL_len]; exact HAZ.out) (HY4.out.below HB5.out).rg (by rw [tuL_len]; exact HBZ.out) (HZ4.out.below HB5.out).rg (by rw [tuL_len]; exact HQZ.out)
    clear CT ht hrr
    go_wp2_with fail
    refine Calls.mono CR.out ?_
    rintro e y6 ⟨wv, rfl, hw, b6⟩
    have HWV : Hid (ApV P4 (tuL a) (tuL b) (tuL G) (apE P4 m (tuL a) (tuL b) (tuL G)) wv) := hw
    have HB6 : Hid (Below W4.heap.size W4 y6) := bstepB HB5.out b6
    have HE6 : Hid (Below B0 w y6) := HE5.out.trans (b6.mono (by have := HE5.out.size; have := HE4.out.size; omega))
    have CS : Hid _ := apartU _ (.slice ao an ac) (.slice bo bn bc) (.slice qo qn qc) vs4 P4 (tuL a) (tuL b) (tuL G) y6 (HR4.out.below (Nat.le_refl _) HB6.out) m HN4.out hm7 (HA4.out.below HB6.out).rg (by rw [tuL_len]; exact HAZ.out) (HB4.out.below HB6.out).rg (by rw [tuL_len]; exact HBZ.out) (HQ4.out.below HB6.out).rg (by rw [tuL_len]; exact HQZ.out)
    obtain ⟨c, hc⟩ : ∃ c, c = apE P4 m (tuL a) (tuL b) (tuL G) := ⟨_, rfl⟩
    rw [← hc] at CS HWV ⊢
    have hcc : (c == c) = true := by simp
    clear CR hw b6 HB5 HE5 hc
    go_wp2_with fail
    refine Calls.mono CS.out ?_
    rintro e y7 ⟨kv, rfl, hk, b7⟩
    have HE7 : Hid (Below B0 w y7) := HE6.out.trans (b7.mono (by have := HE6.out.size; omega))
    obtain ⟨r, rfl, rfl⟩ := HWV.out.same hk
    clear CS hk b7 HWV
    cases r <;>
    · go_wp2
      go_ret
      exact ⟨rfl, HE7.out⟩
end Go.Proofs.YtcoiapgfaibkgaaGreat

/-
  Proved here: package sep's nextSteps.
  Proved here: package sep's arePoints: are all numbers points?
-/
import Derived.Test.YthdpomgpcblpeaaGreatSpS
import Derived.Test.YthdpomgpcblpeaaGreatSpLAll
import Derived.Test.YthdpomgpcblpeaaGreatDagOAll
namespace Go.Proofs.YthdpomgpcblpeaaGreat
set_option linter.unusedVariables false
open Go.RowKit Go.Shelf Go.Sort Go.Lib
def nsE (P : List (List Int)) (n : Nat) (G : List Int) : Int := if ckE P ≠ 0 then ckE P else if noPts (n : Int) G = true then 3 else 0
/-- What lies above some points: rising, just those. -/
def AbvP (P : List (List Int)) (G A : List Int) : Prop := Rise A ∧ ∀ x, x ∈ A ↔ RchP P G x
/-- The closure, as a value. -/
def clV (gk gc gq gp : Nat) : Value := .func (.func 68) #[] #[.pointer (some ⟨gk, 0, none⟩), .pointer (some ⟨gc, 0, none⟩), .pointer (some ⟨gq, 0, none⟩), .pointer (some ⟨gp, 0, none⟩)]
theorem siOfB {w : World} {v : Value} {L : List Int} (hv : RG (Value.int .i64) w v L) (hl : L.length ≤ 1048576) {k : Nat} (hk : (ofR L).length ≤ k) : Calls Tryz.prog 55 #[v] w fun e w' => SE w (ofR L) k e w' :=
  (setOfI v L w hv hl).mono fun _ _ ⟨u, h1, h2, h3⟩ => by
    obtain ⟨ao, cap, rfl, -⟩ := h2.sl
    exact ⟨ao, _, cap, h1, ⟨by have := h2.rg; rwa [ofI_eq L] at this ⊢, rise_ofR L, hk⟩, h3⟩
theorem ofR_pts {L : List Int} {n : Nat} (h : ∀ x ∈ L, ∃ p : Nat, x = (p : Int) ∧ p < n) : (ofR L).length ≤ n :=
  len_nd n _ ((rise_ofR L).imp fun h e => by omega) fun x hx => h x ((mem_ofR L x).1 hx)
theorem rn_ptS {C : List (List Int)} {n : Nat} (hC : ∀ (i : Nat) (x : Int), x ∈ C.getD i [] → ∃ p : Nat, x = (p : Int) ∧ p < C.length) (hn : C.length = n) : ∀ (m : Nat) (x y : Int), (∃ p : Nat, x = (p : Int) ∧ p < n) → Rn C m x y → ∃ p : Nat, y = (p : Int) ∧ p < n
  | 0, x, y, hx, h => by have e : x = y := h; exact e ▸ hx
  | m + 1, x, y, hx, ⟨u, hu, h⟩ => rn_ptS hC hn m u y (by obtain ⟨p, e, hp⟩ := hC _ _ hu; exact ⟨p, e, by omega⟩) h
theorem noPts_pt {n : Nat} {zs : List Int} (h : noPts (n : Int) zs = false) (x : Int) (hx : x ∈ zs) : ∃ p : Nat, x = (p : Int) ∧ p < n := by
  have h1 : noPt (n : Int) x = false := by
    cases h2 : noPt (n : Int) x with
    | false => rfl
    | true => exact absurd (List.any_eq_true.2 ⟨x, hx, h2⟩) (by unfold noPts at h; rw [h]; decide)
  unfold noPt at h1
  simp only [Bool.or_eq_false_iff, decide_eq_false_iff_not] at h1
  exact ⟨x.toNat, by omega, by omega⟩
theorem rch_pt {C : List (List Int)} {n : Nat} {pts : List Int} (hC : ∀ (i : Nat) (x : Int), x ∈ C.getD i [] → ∃ p : Nat, x = (p : Int) ∧ p < C.length) (hn : C.length = n) (hp : noPts (n : Int) pts = false) {y : Int} (h : RchP C pts y) : ∃ p : Nat, y = (p : Int) ∧ p < n := by
  obtain ⟨x, hx, m, hm⟩ := h
  exact rn_ptS hC hn m x y (noPts_pt hp x hx) hm
set_option maxRecDepth 1000000 in
set_option maxHeartbeats 6400000 in
theorem nextStepsS (pv qv : Value) (pvs : List Value) (P : List (List Int)) (G : List Int) (w : World) (h : RRD w pv pvs P) (n : Nat) (hn : P.length = n) (hb : n ≤ 100000) (hq : RG (Value.int .i64) w qv G) (hql : G.length ≤ 1048576) :
    Calls Tryz.prog 53 #[pv, qv] w fun e w' => ∃ fv, e = .returned (.tuple #[fv, .int .i64 (nsE P n G)]) ∧ (nsE P n G = 0 → ∃ gk gc gq gp A, fv = clV gk gc gq gp ∧ ClO w' gk gc gq gp P n G A ∧ AbvP P G A) ∧ Below w.heap.size w w' := by
  obtain ⟨po, pn, pc, rfl⟩ : ∃ o n c, pv = .slice o n c := by obtain ⟨ao, cap, e⟩ := h.out.sl; exact ⟨_, _, _, e⟩
  obtain rfl : pn = n := by rw [← hn, ← h.len, h.out.len]
  obtain ⟨qo, qn, qc, rfl⟩ : ∃ o n c, qv = .slice o n c := by obtain ⟨ao, cap, e⟩ := hq.sl; exact ⟨_, _, _, e⟩
  obtain ⟨w1, hw1⟩ : ∃ W, W = w.alloc (.cells #[.slice po pn pc] 22) := ⟨_, rfl⟩
  obtain ⟨gp, hgp⟩ : ∃ g, g = w.heap.size := ⟨_, rfl⟩
  have b1 : Below w.heap.size w w1 := by rw [hw1]; exact belowB _ _
  have c1 : w1.cell? ⟨gp, 0, none⟩ = some (.slice po pn pc) := by rw [hw1, hgp, World.cell?_alloc_at _ _ _ _ rfl]; rfl
  have HR : Hid (RRD w1 (.slice po pn pc) pvs P) := h.below (Nat.le_refl _) b1
  have HQ : Hid (RG (Value.int .i64) w1 (.slice qo qn qc) G) := hq.below (Nat.le_refl _) b1
  have HN : Hid (P.length = pn) := hn
  have HB1 : Hid (Below w.heap.size w w1) := b1
  have HC1 : Hid (w1.cell? ⟨gp, 0, none⟩ = some (.slice po pn pc)) := c1
  have HW1 : Hid (w1 = w.alloc (.cells #[.slice po pn pc] 22)) := hw1
  have HG1 : Hid (gp = w.heap.size) := hgp
  have CC : Hid _ := childrenL (.slice po pn pc) pvs P w1 HR.out pn hn hb (fun h0 i => by have := len_cl h0 i; omega)
  clear h hq hn hw1 hgp b1
  go_enter Tryz.func53, Tryz.ntmps53
  go_upto_region 1 with fail
  rw [← HW1.out, ← HG1.out]
  clear HW1 HG1
  go_wp2_with fail
  refine Calls.mono CC.out ?_
  rintro e y ⟨v, rfl, hce, hy⟩
  have HY : Hid (Below w1.heap.size w1 y) := hy
  clear CC hy c1
  by_cases h0 : ckE P = 0
  · obtain ⟨-, W, g, cvs, hW, rfl, ht⟩ : ckE P = 0 ∧ ∃ W g cvs, Below w1.heap.size w1 W ∧ v = .slice (some ⟨g, 0, none⟩) pn pn ∧ TuC W.heap.size W y g pn cvs (fun j => chF P j pn) := by
      rcases hce with h1 | h1
      · exact h1
      · exact absurd h0 h1.1
    have HT1 : Hid (OG id 0 23 y (.slice (some ⟨g, 0, none⟩) pn pn) cvs) := ht.row.mono (Nat.zero_le _)
    have HT2 : Hid (∀ (j : Nat) (v : Value), cvs[j]? = some v → RG (Value.int .i64) y v (chF P j pn)) := fun j v hv => (ht.inn j v hv).rg
    have HCK : Hid (ckE P = 0) := h0
    rw [h0]
    clear hce ht hW h0
    obtain ⟨y2, hy2⟩ : ∃ W, W = y.alloc (.cells #[.slice (some ⟨g, 0, none⟩) pn pn] 22) := ⟨_, rfl⟩
    obtain ⟨gc, hgc⟩ : ∃ g, g = y.heap.size := ⟨_, rfl⟩
    have by2 : Below y.heap.size y y2 := by rw [hy2]; exact belowB _ _
    have HY2 : Hid (Below w1.heap.size w1 y2) := bstepB HY.out by2
    have HCC : Hid (y2.cell? ⟨gc, 0, none⟩ = some (.slice (some ⟨g, 0, none⟩) pn pn)) := by show _ = _; rw [hy2, hgc, World.cell?_alloc_at _ _ _ _ rfl]; rfl
    have HT3 : Hid (OG id 0 23 y2 (.slice (some ⟨g, 0, none⟩) pn pn) cvs) := HT1.out.below by2
    have HT4 : Hid (∀ (j : Nat) (v : Value), cvs[j]? = some v → RG (Value.int .i64) y2 v (chF P j pn)) := fun j v hv => (HT2.out j v hv).below (Nat.le_refl _) by2
    have HWY : Hid (y2 = y.alloc (.cells #[.slice (some ⟨g, 0, none⟩) pn pn] 22)) := hy2
    have HGC : Hid (gc = y.heap.size) := hgc
    clear hy2 hgc by2 HT1 HT2
    go_upto_region 2 with fail
    rw [← HWY.out, ← HGC.out]
    clear HWY HGC
    have cp2 : y2.cell? ⟨gp, 0, none⟩ = some (.slice po pn pc) := keepR HY2.out HC1.out
    have CA : Hid _ := aboveD (.slice po pn pc) (.slice qo qn qc) pvs P G y2 (HR.out.below (Nat.le_refl _) HY2.out) pn HN.out hb (fun i => by have := len_cl (ck_zero HCK.out) i; rw [HN.out] at this; omega) (HQ.out.below (Nat.le_refl _) HY2.out) (by omega)
    go_wp2_with fail
    refine Calls.mono CA.out ?_
    rintro e y3 ⟨hab, by3⟩
    have HY3 : Hid (Below w1.heap.size w1 y3) := bstepB HY2.out by3
    have HCC3 : Hid (y3.cell? ⟨gc, 0, none⟩ = some (.slice (some ⟨g, 0, none⟩) pn pn)) := keepR by3 HCC.out
    have HT5 : Hid (OG id 0 23 y3 (.slice (some ⟨g, 0, none⟩) pn pn) cvs) := HT3.out.below by3
    have HT6 : Hid (∀ (j : Nat) (v : Value), cvs[j]? = some v → RG (Value.int .i64) y3 v (chF P j pn)) := fun j v hv => (HT4.out j v hv).below (Nat.le_refl _) by3
    clear CA cp2 HY HCC HT3 HT4
    have hab2 : ReE y2.heap.size P pn G y3 e := by
      rcases hab with h1 | h1
      · exact absurd HCK.out h1.1
      · exact h1.2
    clear hab
    rcases hab2 with ⟨hn1, rfl⟩ | ⟨hn1, tv, R, rfl, hR1, hR2, hR3⟩
    · have HE : Hid (nsE P pn G = 3) := by show _ = _; unfold nsE; rw [if_neg (by rw [HCK.out]; decide), if_pos hn1]
      clear hn1 by3
      go_wp2
      go_ret2
      exact ⟨_, by rw [HE.out]; rfl, fun h => by rw [HE.out] at h; simp at h, bstepB HB1.out HY3.out⟩
    · have HE : Hid (nsE P pn G = 0) := by show _ = _; unfold nsE; rw [if_neg (by rw [HCK.out]; decide), if_neg (by rw [hn1]; decide)]
      obtain ⟨tO, tc, rfl, -⟩ : ∃ o c, tv = .slice o R.length c ∧ True := by obtain ⟨ao, cap, e, -⟩ := hR1.sl; exact ⟨_, _, e, trivial⟩
      obtain ⟨tn, htn⟩ : ∃ m, m = R.length := ⟨_, rfl⟩
      have HRL : Hid (R.length ≤ 100000) := by
        show _ ≤ _
        have h1 := len_nd pn R (hR2.imp fun h => by omega) (fun y hy => rch_pt (outs_no (cl_zero (ck_zero HCK.out)).1) HN.out hn1 ((hR3 y).1 hy))
        omega
      rw [← htn] at hR1 ⊢
      have HTV : Hid (RG (Value.int .i64) y3 (.slice tO tn tc) R) := hR1.rg
      have HAB : Hid (AbvP P G R) := ⟨hR2, hR3⟩
      have C1 : Hid _ := siOfB (HQ.out.below (Nat.le_refl _) HY3.out) hql (k := 100000) (Nat.le_trans (ofR_pts (noPts_pt hn1)) hb)
      clear hn1 hR1 hR2 hR3 by3 htn
      go_wp2_with fail
      refine Calls.mono C1.out ?_
      rintro e y4 ⟨o4, n4, c4, rfl, hs4, by4⟩
      have HS4 : Hid (SI y4 (.slice o4 n4 c4) (ofR G) 100000) := hs4
      have HY4 : Hid (Below y3.heap.size y3 y4) := by4
      have C2 : Hid _ := siOf (HTV.out.below (Nat.le_refl _) by4) (k := 100000) HRL.out (Nat.le_refl _)
      clear C1 hs4 by4
      go_wp2_with fail
      refine Calls.mono C2.out ?_
      rintro e y5 ⟨o5, n5, c5, rfl, hs5, by5⟩
      have HS5 : Hid (SI y5 (.slice o5 n5 c5) (ofR R) 100000) := hs5
      have HS6 : Hid (SI y5 (.slice o4 n4 c4) (ofR G) 100000) := HS4.out.below by5
      have HY5 : Hid (Below y3.heap.size y3 y5) := bstepB HY4.out by5
      clear C2 hs5 by5 HY4 HS4
      obtain ⟨gk, hgk⟩ : ∃ g, g = y5.heap.size := ⟨_, rfl⟩
      obtain ⟨wa, hwa⟩ : ∃ W, W = y5.alloc (.cells #[.slice o4 n4 c4] 56) := ⟨_, rfl⟩
      obtain ⟨wd, hwd⟩ : ∃ W, W = wa.alloc (.cells #[.slice o5 n5 c5] 56) := ⟨_, rfl⟩
      have hsa : wa.heap.size = gk + 1 := by rw [hwa, hgk]; simp
      have ka : wa.heap[gk]? = some (.cells #[.slice o4 n4 c4] 56 (0, 0)) := by rw [hwa, hgk]; exact heap_alloc_new y5 _
      have kd1 : wd.heap[gk]? = some (.cells #[.slice o4 n4 c4] 56 (0, 0)) := by rw [hwd, heap_alloc_old wa _ (by rw [hsa]; omega)]; exact ka
      have kd2 : wd.heap[gk + 1]? = some (.cells #[.slice o5 n5 c5] 56 (0, 0)) := by rw [hwd, ← hsa]; exact heap_alloc_new wa _
      have ba : Below y5.heap.size y5 wa := by rw [hwa]; exact belowB y5 _
      have bb : Below wa.heap.size wa wd := by rw [hwd]; exact belowB wa _
      have bd : Below y5.heap.size y5 wd := bstepB ba bb
      have hbd := bstepB HY5.out bd
      have HCL : Hid (ClO wd gk gc (gk + 1) gp P pn G R) := ⟨⟨o4, n4, c4, 100000, cell_of_row wd gk 0 _ _ _ kd1, HS6.out.below bd, Nat.le_refl _⟩, ⟨o5, n5, c5, 100000, cell_of_row wd (gk + 1) 0 _ _ _ kd2, HS5.out.below bd, Nat.le_refl _⟩, ⟨g, cvs, keepR hbd HCC3.out, HT5.out.below hbd, fun j v hv => (HT6.out j v hv).below (Nat.le_refl _) hbd⟩, ⟨po, pc, pvs, keepR (bstepB HY3.out hbd) HC1.out, HR.out.below (Nat.le_refl _) (bstepB HY3.out hbd)⟩⟩
      have HBD : Hid (Below w.heap.size w wd) := bstepB HB1.out (bstepB HY3.out hbd)
      have HWD : Hid (wd = (y5.alloc (.cells #[.slice o4 n4 c4] 56)).alloc (.cells #[.slice o5 n5 c5] 56)) := by show _ = _; rw [hwd, hwa]
      have HGK : Hid (gk = y5.heap.size) := hgk
      clear hgk hwa hwd hsa ka kd1 kd2 ba bb bd hbd HS5 HS6 HY5 HT5 HT6 HCC3
      go_upto_region 8 with fail
      rw [← HGK.out, ← HWD.out]
      clear HWD HGK
      go_wp2
      go_ret2
      exact ⟨_, by rw [HE.out]; rfl, fun _ => ⟨gk, gc, gk + 1, gp, R, rfl, HCL.out, HAB.out⟩, HBD.out⟩
  · have HE : Hid (nsE P pn G = ckE P) := by show _ = _; unfold nsE; rw [if_pos h0]
    have hvn : v = .slice none 0 0 := by
      rcases hce with h1 | h1
      · exact absurd h1.1 h0
      · exact h1.2
    subst hvn
    obtain ⟨c, hc⟩ : ∃ c, c = ckE P := ⟨_, rfl⟩
    rw [← hc] at h0 ⊢
    have HC : Hid (c = ckE P) := hc
    have hcz : (c != (0 : Int)) = true := by simpa using h0
    have H0 : Hid (c ≠ 0) := h0
    clear hc hce h0
    go_wp2
    go_ret2
    exact ⟨_, by rw [HE.out, ← HC.out]; rfl, fun h => absurd (by rw [HC.out, ← HE.out]; exact h) H0.out, bstepB HB1.out (bstepB HY.out (belowB y _))⟩
end Go.Proofs.YthdpomgpcblpeaaGreat

namespace Go.Proofs.YthdpomgpcblpeaaGreat
set_option linter.unusedVariables false
open Go.RowKit
set_option maxRecDepth 100000 in
set_option maxHeartbeats 800000 in
theorem noPtS (cb : Nat) (po : Option Addr) (n pc : Nat) (x : Int) (w : World) (hc : w.cell? ⟨cb, 0, none⟩ = some (.slice po n pc)) : Calls Tryz.prog 74 #[.int .i64 x, .pointer (some ⟨cb, 0, none⟩)] w fun e w' => e = .returned (.bool (noPt (n : Int) x)) ∧ w' = w := by
  by_cases h : x < 0
  · have hr : noPt (n : Int) x = true := by simp [noPt, h]
    rw [hr]
    clear hr
    go_enter Tryz.func74, Tryz.ntmps74
    go_wp2
    go_ret
    exact ⟨rfl, rfl⟩
  · have hr : noPt (n : Int) x = decide ((n : Int) ≤ x) := by simp [noPt, h]
    rw [hr]
    clear hr
    go_enter Tryz.func74, Tryz.ntmps74
    go_wp2
    go_ret
    exact ⟨rfl, rfl⟩
set_option maxRecDepth 100000 in
set_option maxHeartbeats 1600000 in
theorem indexFSp (cb : Nat) (po : Option Addr) (m pc : Nat) (v : Value) (zs : List Int) (w : World) (hv : RG (Value.int .i64) w v zs) (hcb : w.cell? ⟨cb, 0, none⟩ = some (.slice po m pc)) :
    Calls Tryz.prog 86 #[v, .func (.func 74) #[] #[.pointer (some ⟨cb, 0, none⟩)]] w fun e w' => ∃ r, e = .returned (.int .i64 r) ∧ Found r (noPts (m : Int) zs) ∧ ∃ q, w' = w.drewN q := by
  obtain ⟨ao, cap, rfl, hc, hm, hnil, hcell⟩ := hv
  clear hnil
  unfold maxLen at hm
  obtain ⟨n, hn⟩ : ∃ n, zs.length = n := ⟨_, rfl⟩
  rw [hn] at hc ⊢
  have HN : Hid (zs.length = n) := hn
  have HC : Hid (∀ i x, zs[i]? = some x → ∃ g o, ao = some ⟨g, o, none⟩ ∧ w.cell? ⟨g, o + i, none⟩ = some (Value.int .i64 x)) := hcell
  clear hn hcell
  go_enter Tryz.func86, Tryz.ntmps86
  go_wp2
  go_loopw [8] (fun t wr => ∃ k : Nat, k ≤ n ∧ t = .int .i64 k ∧ noPts (m : Int) (zs.take k) = false ∧ ∃ q, wr = w.drewN q) (fun t _ => n - (intOf t).toNat)
  case atStart => exact ⟨0, Nat.zero_le _, rfl, rfl, 0, rfl⟩
  case round =>
    obtain ⟨k, hk, rfl, hno, q, rfl⟩ := hrel
    by_cases hkn : k < n
    · obtain ⟨x, hx0⟩ : ∃ x, zs[k]? = some x := ⟨_, List.getElem?_eq_getElem (by rw [HN.out]; exact hkn)⟩
      obtain ⟨b, off, rfl, hc0⟩ := HC.out k x hx0
      have hlt : (k : Int) < (n : Int) := by omega
      have hst : noPts (m : Int) (zs.take (k + 1)) = (noPts (m : Int) (zs.take k) || noPt (m : Int) (zs.getD k 0)) := any_take (by rw [HN.out]; exact hkn)
      have hyes : noPt (m : Int) (zs.getD k 0) = true → noPts (m : Int) zs = true := any_at (by rw [HN.out]; exact hkn)
      have e0 : zs.getD k 0 = x := by rw [List.getD_eq_getElem?_getD, hx0]; rfl
      rw [e0] at hst hyes
      rw [hno, Bool.false_or] at hst
      have HS : Hid (noPts (m : Int) (zs.take (k + 1)) = noPt (m : Int) x) := hst
      have HY : Hid (noPt (m : Int) x = true → noPts (m : Int) zs = true) := hyes
      have cq : ∀ q, (w.drewN q).cell? ⟨cb, 0, none⟩ = some (.slice po m pc) := fun q => cell_drewD hcb q
      have HB : Hid (∀ q, Calls Tryz.prog 74 #[.int .i64 x, .pointer (some ⟨cb, 0, none⟩)] (w.drewN q) fun e w' => e = .returned (.bool (noPt (m : Int) x)) ∧ w' = w.drewN q) := fun q => noPtS cb po m pc x (w.drewN q) (cq q)
      clear hst hyes e0 hx0 cq
      by_cases hx : noPt (m : Int) x = true
      · go_wp2_with (go_at_call 74; refine (HB.out _).mono ?_; rintro e w' ⟨rfl, rfl⟩)
        go_ret
        exact ⟨_, rfl, ⟨fun _ => ⟨by omega, by omega⟩, fun h => absurd (HY.out hx) (by rw [h]; exact Bool.false_ne_true)⟩, _, rfl⟩
      · have hx : noPt (m : Int) x = false := by simpa using hx
        go_wp2_with (go_at_call 74; refine (HB.out _).mono ?_; rintro e w' ⟨rfl, rfl⟩)
        go_roundw
        case rel => exact ⟨k + 1, by omega, by go_num, by rw [HS.out]; exact hx, _, rfl⟩
        case measure => simp [intOf]; omega
    · have hge : ¬ (k : Int) < (n : Int) := by omega
      go_wp2
      go_ret
      have hkn' : k = zs.length := by rw [HN.out]; omega
      rw [hkn', List.take_length] at hno
      exact ⟨-1, rfl, ⟨fun h => absurd h (by rw [hno]; exact Bool.false_ne_true), fun _ => rfl⟩, q, rfl⟩
set_option maxHeartbeats 400000 in
theorem containsFSp (cb : Nat) (po : Option Addr) (m pc : Nat) (v : Value) (zs : List Int) (w : World) (hv : RG (Value.int .i64) w v zs) (hcb : w.cell? ⟨cb, 0, none⟩ = some (.slice po m pc)) :
    Calls Tryz.prog 61 #[v, .func (.func 74) #[] #[.pointer (some ⟨cb, 0, none⟩)]] w fun e w' => e = .returned (.bool (noPts (m : Int) zs)) ∧ ∃ q, w' = w.drewN q := by
  have h1 := indexFSp cb po m pc v zs w hv hcb
  obtain ⟨ao, cap, rfl, -⟩ := hv
  go_enter Tryz.func61, Tryz.ntmps61
  go_wp2_with (go_at_call 86; refine h1.mono ?_; rintro e w' ⟨r, rfl, hf, q, rfl⟩)
  go_ret
  exact ⟨by rw [← hf.dec]; rfl, q, rfl⟩
set_option maxRecDepth 100000 in
set_option maxHeartbeats 800000 in
theorem arePointsS (po : Option Addr) (m pc : Nat) (v : Value) (zs : List Int) (w : World) (hv : RG (Value.int .i64) w v zs) :
    Calls Tryz.prog 54 #[.slice po m pc, v] w fun e w' => e = .returned (.bool (!noPts (m : Int) zs)) ∧ Below w.heap.size w w' := by
  obtain ⟨W1, hW1⟩ : ∃ W1, W1 = w.alloc (.cells #[.slice po m pc] 22) := ⟨_, rfl⟩
  obtain ⟨g, hg⟩ : ∃ g, g = w.heap.size := ⟨_, rfl⟩
  have b0 : Below w.heap.size w W1 := by rw [hW1]; exact belowB w _
  have hcb : W1.cell? ⟨g, 0, none⟩ = some (.slice po m pc) := by rw [hW1, hg, World.cell?_alloc_at _ _ _ _ rfl]; rfl
  have C : Hid _ := containsFSp g po m pc v zs W1 (hv.below (Nat.le_refl _) b0) hcb
  have HB : Hid (Below w.heap.size w W1) := b0
  obtain ⟨ao, cap, rfl, -⟩ := hv
  have HW1 : Hid (W1 = w.alloc (.cells #[.slice po m pc] 22)) := hW1
  have HG : Hid (g = w.heap.size) := hg
  clear hW1 hg b0 hcb
  go_enter Tryz.func54, Tryz.ntmps54
  go_upto_region 1 with fail
  rw [← HW1.out, ← HG.out]
  clear HW1
  go_wp2_with fail
  refine Calls.mono C.out ?_
  rintro e y ⟨rfl, q, rfl⟩
  go_wp2
  go_ret
  exact ⟨rfl, below_drewN HB.out q⟩
end Go.Proofs.YthdpomgpcblpeaaGreat

/-
  Proved here: slices.CompactFunc at int, over a row of the call's own: what repeats its forerunner is left out.
  Proved here: mathematics (no program): where a thing stands in a sorted list; two lists held against each other; rows of rows.
  Proved here: slices.Grow of nothing and slices.Concat at int.
-/
import Derived.Test.YthdpomgpcblpeaaGreatSpQAll
import Derived.Test.YthdpomgpcblpeaaGreatSetCptAll
import Derived.Shelf.Spec.SlicesGrow
namespace Go.Proofs.YthdpomgpcblpeaaGreat
open Go.Shelf Go.RowKit Go.Lib Go.Sort
theorem entSI : ∀ args w, (callFunc 77 args).run Tryz.prog w = .ok (.enter 77 args) w := enters_of Tryz.func77 (by kernel_rfl) rfl
/-- the same thing -/
def smI (x y : Int) : Bool := decide (cfI x y = 0)
set_option maxHeartbeats 4000000 in
set_option maxRecDepth 1000000 in
theorem compactI (B : Nat) (v : Value) (L : List Int) (w : World) (h : OG (Value.int .i64) B 3 w v L) :
    Calls Tryz.prog 76 #[v, .func (.func 77) #[] #[]] w fun e w' => ∃ u, e = .returned u ∧ OG (Value.int .i64) B 3 w' u (cpt smI L) ∧ w.grownBy w' v.ownBlock := by
  have h0 := h
  obtain ⟨ao, cap, rfl, hao, hlc, hcm, -⟩ := h.sl
  unfold maxLen at hcm
  obtain ⟨n, hn⟩ : ∃ n, L.length = n := ⟨_, rfl⟩
  rw [hn] at h0 hao hlc ⊢
  have HN : Hid (L.length = n) := hn
  by_cases h2 : n < 2
  · have hz : (n : Int) < 2 := by omega
    have HO : Hid (OG (Value.int .i64) B 3 w (.slice ao n cap) (cpt smI L)) := by rw [cpt_small L (by omega)]; exact h0
    clear hn h h0 hao
    go_enter Tryz.func76, Tryz.ntmps76
    go_wp2
    go_ret
    exact ⟨_, rfl, HO.out, grownG_refl _ _⟩
  · have hz : ¬ (n : Int) < 2 := by omega
    obtain ⟨g, hgB, rfl⟩ := hao (by omega)
    have O0 : Hid (OG (Value.int .i64) B 3 w (.slice (some ⟨g, 0, none⟩) n cap) L) := h0
    have A0 : Hid (CpA smI L 1) := CpA.start (by omega)
    have ent := entSI
    have mixed : Tryz.prog.follows .mixedOrders = true := by kernel_rfl
    clear hn h h0 hao
    go_enter Tryz.func76, Tryz.ntmps76
    go_wp2
    go_loopg [5] n (fun g1 v5 wr => ∃ k : Nat, v5 = .int .i64 k ∧ 1 ≤ k ∧ k ≤ n ∧ n - k ≤ g1 ∧ Hid (CpA smI L k) ∧ Hid (OG (Value.int .i64) B 3 wr (.slice (some ⟨g, 0, none⟩) n cap) L) ∧ Hid (w.grownBy wr (some g)))
    case atStart => exact ⟨1, rfl, Nat.le_refl _, by omega, by omega, A0, O0, grownG_refl _ _⟩
    case round =>
      clear A0 O0
      obtain ⟨k, rfl, hk1, hkn, hg1, A1, O1, G1⟩ := hrel
      by_cases hlt : k < n
      · have hltz : (k : Int) < (n : Int) := by omega
        obtain ⟨x, hx⟩ : ∃ x, L[k]? = some x := ⟨_, List.getElem?_eq_getElem (by rw [HN.out]; exact hlt)⟩
        obtain ⟨p, hp⟩ : ∃ p, L[k - 1]? = some p := ⟨_, List.getElem?_eq_getElem (by rw [HN.out]; omega)⟩
        have HX : Hid (L[k]? = some x) := hx
        have HP : Hid (L[k - 1]? = some p) := hp
        obtain ⟨kp, hkp⟩ : ∃ q, q + 1 = k := ⟨k - 1, by omega⟩
        have ekp : (k : Int) - 1 = (kp : Int) := by omega
        have HKP : Hid (k - 1 = kp) := by show _ = _; omega
        have hkpn : kp < n := by omega
        rw [show k - 1 = kp by omega] at hp
        clear hkp
        cases hlv : decide (cfI x p = 0) with
        | true =>
          obtain ⟨aNe1, haNe1⟩ : ∃ q, q = k := ⟨_, rfl⟩
          have eae1 : ((k : Int)).toNat = aNe1 := by omega
          have pae1 : (0 : Int) ≤ (k : Int) := by omega
          have bae1 : (k : Int) < (n : Int) := by omega
          have rae1 : IntKind.i64.wrap ((k : Int)) = (k : Int) := by rw [IntKind.wrap_i64]; omega
          obtain ⟨cNe1, hcNe1⟩ : ∃ q, q = kp := ⟨_, rfl⟩
          have ece1 : ((kp : Int)).toNat = cNe1 := by omega
          have pce1 : (0 : Int) ≤ (kp : Int) := by omega
          have bce1 : (kp : Int) < (n : Int) := by omega
          have rce1 : IntKind.i64.wrap ((kp : Int)) = (kp : Int) := by rw [IntKind.wrap_i64]; omega
          have lae1 : ∀ m os, (grow (wr.drewN m) os).cell? ⟨g, aNe1, none⟩ = some ((Value.int .i64) x) := by rw [haNe1]; exact O1.out.cl hx
          have lce1 : ∀ m os, (grow (wr.drewN m) os).cell? ⟨g, cNe1, none⟩ = some ((Value.int .i64) p) := by rw [hcNe1]; exact O1.out.cl hp
          have hce1 : ∀ m os, Calls Tryz.prog 77 (#[(Value.int .i64) x, (Value.int .i64) p] ++ #[]) (grow (wr.drewN m) os) fun e w' => e = .returned (.bool true) ∧ ∃ q os', w' = grow ((grow (wr.drewN m) os).drewN q) os' := fun m os => by
            refine (sameI x p _).mono ?_
            rintro e w' ⟨rfl, rfl⟩
            exact ⟨by rw [hlv], 0, #[], by rw [grow_empty]; rfl⟩
          clear haNe1 hcNe1
          go_wp2_with fail
          go_quiet_grown (first | (go_at_fn 77; refine Calls.grown_of (hce1 _ _)))
          have OQ : Hid (OG (Value.int .i64) B 3 (grow (wr.drewN nq) osq) (.slice (some ⟨g, 0, none⟩) n cap) L ∧ wr.grownBy (grow (wr.drewN nq) osq) (some g)) := ⟨O1.out.grow nq osq, grown_grow _ _ _ _⟩
          clear lae1 lce1 hce1
          generalize grow (wr.drewN nq) osq = w2 at OQ ⊢
          clear nq osq
          clear eae1 ece1
          have A2 : Hid (CpB smI L (L.take k) (k + 1)) := A1.out.turn HX.out HP.out hlv
          have O2 : Hid (OG (Value.int .i64) B 3 w2 (.slice (some ⟨g, 0, none⟩) n cap) L) := OQ.out.1
          have G2 : Hid (w.grownBy w2 (some g)) := G1.out.trans OQ.out.2
          have O3 : Hid (OG (Value.int .i64) B 3 w2 (.slice (some ⟨g, 0, none⟩) n cap) (L.take k ++ L.drop k)) := by rw [List.take_append_drop]; exact O2
          have HD : Hid ((L.take k).length = k) := by show _ = _; rw [List.length_take, HN.out]; omega
          obtain ⟨l2, hl2⟩ : ∃ q, q + k = n := ⟨n - k, by omega⟩
          have el2 : (n : Int) - (k : Int) = (l2 : Int) := by omega
          have el2' : n - k = l2 := by omega
          obtain ⟨c2, hc2⟩ : ∃ q, q + k = cap := ⟨cap - k, by omega⟩
          have ec2' : cap - k = c2 := by omega
          have ec2 : (cap : Int) - (k : Int) = (c2 : Int) := by omega
          have hkc : (k : Int) ≤ (n : Int) := by omega
          have HL2 : Hid (l2 + k = n) := hl2
          clear OQ A1 O1 G1 hx hp HX HP hl2 hc2 hlv O2
          go_wp2
          go_loopg [5, 7] n (fun g2 v5 v7 wr2 => ∃ (kk k2 : Nat) (D : List Int), v5 = .int .i64 kk ∧ v7 = .int .i64 k2 ∧ 1 ≤ k2 ∧ k2 ≤ l2 ∧ kk < k + k2 ∧ n - (k + k2) ≤ g2 ∧ Hid (D.length = kk) ∧ Hid (CpB smI L D (k + k2)) ∧ Hid (OG (Value.int .i64) B 3 wr2 (.slice (some ⟨g, 0, none⟩) n cap) (D ++ L.drop kk)) ∧ Hid (w.grownBy wr2 (some g)))
          case atStart => exact ⟨k, 1, L.take k, rfl, rfl, Nat.le_refl _, by have := HL2.out; omega, by omega, by omega, HD, A2, O3, G2⟩
          case round =>
            clear A2 O3 G2 HD
            obtain ⟨kk, k2, D, rfl, rfl, h21, h22, hkk, hg2, HD, A2, O3, G2⟩ := hrel
            have hkl := HL2.out
            by_cases hlt2 : k2 < l2
            · have hlt2z : (k2 : Int) < (l2 : Int) := by omega
              obtain ⟨u, hu⟩ : ∃ x, L[k + k2]? = some x := ⟨_, List.getElem?_eq_getElem (by rw [HN.out]; omega)⟩
              obtain ⟨q, hq⟩ : ∃ p, L[k + k2 - 1]? = some p := ⟨_, List.getElem?_eq_getElem (by rw [HN.out]; omega)⟩
              obtain ⟨ol, hol⟩ : ∃ x, L[kk]? = some x := ⟨_, List.getElem?_eq_getElem (by rw [HN.out]; omega)⟩
              have HU : Hid (L[k + k2]? = some u) := hu
              have HQ : Hid (L[k + k2 - 1]? = some q) := hq
              have HOL : Hid (L[kk]? = some ol) := hol
              obtain ⟨kq, hkq⟩ : ∃ q, q + 1 = k2 := ⟨k2 - 1, by omega⟩
              have ekq : (k2 : Int) - 1 = (kq : Int) := by omega
              have hkqn : kq < l2 := by omega
              have hcu : (D ++ L.drop kk)[k + k2]? = some u := by rw [List.getElem?_append_right (by rw [HD.out]; omega), HD.out, List.getElem?_drop, ← hu]; congr 1; omega
              have hcq : (D ++ L.drop kk)[k + kq]? = some q := by rw [List.getElem?_append_right (by rw [HD.out]; omega), HD.out, List.getElem?_drop, ← hq]; congr 1; omega
              have hck : (D ++ L.drop kk)[kk]? = some ol := by rw [List.getElem?_append_right (by rw [HD.out]; omega), HD.out, List.getElem?_drop, ← hol]; congr 1; omega
              have HCK : Hid ((D ++ L.drop kk)[kk]? = some ol) := hck
              have HCU : Hid ((D ++ L.drop kk)[k + k2]? = some u) := hcu
              have HLC : Hid ((D ++ L.drop kk).length = n) := by show _ = _; rw [List.length_append, List.length_drop, HD.out, HN.out]; omega
              have hkkn : kk < n := by omega
              have hk2n : k + k2 < n := by omega
              obtain ⟨C, hC⟩ : ∃ C, C = D ++ L.drop kk := ⟨_, rfl⟩
              rw [← hC] at O3 hcu hcq HCK HCU HLC
              have HC : Hid (C = D ++ L.drop kk) := hC
              clear hkq hu hq hol hck hC hkl
              cases hlv : decide (cfI u q = 0) with
              | true =>
                obtain ⟨aNe2, haNe2⟩ : ∃ q, q = k2 := ⟨_, rfl⟩
                have eae2 : ((k2 : Int)).toNat = aNe2 := by omega
                have pae2 : (0 : Int) ≤ (k2 : Int) := by omega
                have bae2 : (k2 : Int) < (l2 : Int) := by omega
                have rae2 : IntKind.i64.wrap ((k2 : Int)) = (k2 : Int) := by rw [IntKind.wrap_i64]; omega
                obtain ⟨cNe2, hcNe2⟩ : ∃ q, q = kq := ⟨_, rfl⟩
                have ece2 : ((kq : Int)).toNat = cNe2 := by omega
                have pce2 : (0 : Int) ≤ (kq : Int) := by omega
                have bce2 : (kq : Int) < (l2 : Int) := by omega
                have rce2 : IntKind.i64.wrap ((kq : Int)) = (kq : Int) := by rw [IntKind.wrap_i64]; omega
                have lae2 : ∀ m os, (grow (wr.drewN m) os).cell? ⟨g, k + aNe2, none⟩ = some ((Value.int .i64) u) := by rw [haNe2]; exact O3.out.cl hcu
                have lce2 : ∀ m os, (grow (wr.drewN m) os).cell? ⟨g, k + cNe2, none⟩ = some ((Value.int .i64) q) := by rw [hcNe2]; exact O3.out.cl hcq
                have hce2 : ∀ m os, Calls Tryz.prog 77 (#[(Value.int .i64) u, (Value.int .i64) q] ++ #[]) (grow (wr.drewN m) os) fun e w' => e = .returned (.bool true) ∧ ∃ q os', w' = grow ((grow (wr.drewN m) os).drewN q) os' := fun m os => by
                  refine (sameI u q _).mono ?_
                  rintro e w' ⟨rfl, rfl⟩
                  exact ⟨by rw [hlv], 0, #[], by rw [grow_empty]; rfl⟩
                clear haNe2 hcNe2
                go_wp2_with fail
                go_quiet_grown (first | (go_at_fn 77; refine Calls.grown_of (hce2 _ _)))
                have OQ : Hid (OG (Value.int .i64) B 3 (grow (wr.drewN nq) osq) (.slice (some ⟨g, 0, none⟩) n cap) C ∧ wr.grownBy (grow (wr.drewN nq) osq) (some g)) := ⟨O3.out.grow nq osq, grown_grow _ _ _ _⟩
                clear lae2 lce2 hce2
                generalize grow (wr.drewN nq) osq = w2 at OQ ⊢
                clear nq osq
                clear eae2 ece2
                go_wp2
                go_roundg (n - (k + (k2 + 1)))
                case measure => have := HL2.out; omega
                case rel => exact ⟨kk, k2 + 1, D, rfl, by go_num, by omega, by omega, by omega, Nat.le_refl _, HD, A2.out.skip HU.out HQ.out hlv, by rw [← HC.out]; exact OQ.out.1, G2.out.trans OQ.out.2⟩
              | false =>
                obtain ⟨aNe3, haNe3⟩ : ∃ q, q = k2 := ⟨_, rfl⟩
                have eae3 : ((k2 : Int)).toNat = aNe3 := by omega
                have pae3 : (0 : Int) ≤ (k2 : Int) := by omega
                have bae3 : (k2 : Int) < (l2 : Int) := by omega
                have rae3 : IntKind.i64.wrap ((k2 : Int)) = (k2 : Int) := by rw [IntKind.wrap_i64]; omega
                obtain ⟨cNe3, hcNe3⟩ : ∃ q, q = kq := ⟨_, rfl⟩
                have ece3 : ((kq : Int)).toNat = cNe3 := by omega
                have pce3 : (0 : Int) ≤ (kq : Int) := by omega
                have bce3 : (kq : Int) < (l2 : Int) := by omega
                have rce3 : IntKind.i64.wrap ((kq : Int)) = (kq : Int) := by rw [IntKind.wrap_i64]; omega
                have lae3 : ∀ m os, (grow (wr.drewN m) os).cell? ⟨g, k + aNe3, none⟩ = some ((Value.int .i64) u) := by rw [haNe3]; exact O3.out.cl hcu
                have lce3 : ∀ m os, (grow (wr.drewN m) os).cell? ⟨g, k + cNe3, none⟩ = some ((Value.int .i64) q) := by rw [hcNe3]; exact O3.out.cl hcq
                have hce3 : ∀ m os, Calls Tryz.prog 77 (#[(Value.int .i64) u, (Value.int .i64) q] ++ #[]) (grow (wr.drewN m) os) fun e w' => e = .returned (.bool false) ∧ ∃ q os', w' = grow ((grow (wr.drewN m) os).drewN q) os' := fun m os => by
                  refine (sameI u q _).mono ?_
                  rintro e w' ⟨rfl, rfl⟩
                  exact ⟨by rw [hlv], 0, #[], by rw [grow_empty]; rfl⟩
                clear haNe3 hcNe3
                go_wp2_with fail
                go_quiet_grown (first | (go_at_fn 77; refine Calls.grown_of (hce3 _ _)))
                have OQ : Hid (OG (Value.int .i64) B 3 (grow (wr.drewN nq) osq) (.slice (some ⟨g, 0, none⟩) n cap) C ∧ wr.grownBy (grow (wr.drewN nq) osq) (some g)) := ⟨O3.out.grow nq osq, grown_grow _ _ _ _⟩
                clear lae3 lce3 hce3
                generalize grow (wr.drewN nq) osq = w2 at OQ ⊢
                clear nq osq
                clear eae3 ece3
                have c1 := (OQ.out.1.cell HCU.out).1
                have c2_ := (OQ.out.1.cell HCK.out).1
                have f2_ := (OQ.out.1.cell HCK.out).2
                obtain ⟨O4, G4⟩ := OQ.out.1.set HLC.out kk u
                have O4' : Hid (OG (Value.int .i64) B 3 (w2.setCell ⟨g, kk, none⟩ ((Value.int .i64) u)) (.slice (some ⟨g, 0, none⟩) n cap) ((D ++ [u]) ++ L.drop (kk + 1))) := by rw [HC.out, put_at HD.out HOL.out] at O4; exact O4
                have G4' : Hid (w.grownBy (w2.setCell ⟨g, kk, none⟩ ((Value.int .i64) u)) (some g)) := (G2.out.trans OQ.out.2).trans G4
                clear O4 G4
                have hkkz : (kk : Int) < (n : Int) := by omega
                have hk2z : (k2 : Int) < (l2 : Int) := hlt2z
                go_wp2
                go_roundg (n - (k + (k2 + 1)))
                case measure => have := HL2.out; omega
                case rel => exact ⟨kk + 1, k2 + 1, D ++ [u], by go_num, by go_num, by omega, by omega, by omega, Nat.le_refl _, by show _ = _; rw [List.length_append, HD.out]; rfl, A2.out.keep HU.out HQ.out hlv, O4', G4'⟩
            · have hlt2z : ¬ (k2 : Int) < (l2 : Int) := by omega
              have hDE : Hid (cpt smI L = D) := A2.out.done (by rw [HN.out]; omega)
              have HLC : (D ++ L.drop kk).length = n := by rw [List.length_append, List.length_drop, HD.out, HN.out]; omega
              have hgr := fun j (hj : j < n) => O3.out.cell (i := j) (List.getElem?_eq_getElem (by rw [HLC]; exact hj))
              obtain ⟨C', s1, s2, s3, s4⟩ := O3.out.sets (0 : Int) (n - kk) kk HLC
              have hcl : ∀ ty, (Builtin.clear_ #[23] ty #[.slice (some ⟨g, kk, none⟩) (n - kk) (cap - kk)]).run Tryz.prog wr = .ok (.tuple #[]) (wr.setCells g kk (List.replicate (n - kk) (.int .i64 0))) :=
                fun ty => Lib.run_clear_slice wr _ _ ty _ Tryz.underlying23 Tryz.zeroValue3 rfl rfl g kk _ _ (by omega) (fun j hj => by rw [(hgr (kk + j) (by omega)).1]; rfl) (fun j hj => (hgr (kk + j) (by omega)).2)
              have HS : Hid (OG (Value.int .i64) B 3 (wr.setCells g kk (List.replicate (n - kk) (.int .i64 0))) (.slice (some ⟨g, 0, none⟩) kk cap) D ∧ w.grownBy (wr.setCells g kk (List.replicate (n - kk) (.int .i64 0))) (some g)) := by
                refine ⟨?_, G2.out.trans s4⟩
                have := s1.cut (m := kk) (by omega)
                rw [s3, List.take_left' HD.out] at this
                exact this
              generalize wr.setCells g kk (List.replicate (n - kk) (.int .i64 0)) = w9 at hcl HS s1 s4
              obtain ⟨l9, hl9⟩ : ∃ q, q = n - kk := ⟨_, rfl⟩
              obtain ⟨c9, hc9⟩ : ∃ q, q = cap - kk := ⟨_, rfl⟩
              have el9 : (n : Int) - (kk : Int) = (l9 : Int) := by omega
              have ec9 : (cap : Int) - (kk : Int) = (c9 : Int) := by omega
              rw [← hl9, ← hc9] at hcl
              have el9' := hl9.symm
              have ec9' := hc9.symm
              have hkkz : (kk : Int) ≤ (n : Int) := by omega
              have hkkc : (kk : Int) ≤ (cap : Int) := by omega
              clear hgr s1 s2 s3 s4 HLC hkl A2 O3 G2 hl9 hc9
              go_wp2
              go_ret
              exact ⟨_, rfl, by rw [hDE.out]; exact HS.out.1, HS.out.2⟩
        | false =>
          obtain ⟨aNe4, haNe4⟩ : ∃ q, q = k := ⟨_, rfl⟩
          have eae4 : ((k : Int)).toNat = aNe4 := by omega
          have pae4 : (0 : Int) ≤ (k : Int) := by omega
          have bae4 : (k : Int) < (n : Int) := by omega
          have rae4 : IntKind.i64.wrap ((k : Int)) = (k : Int) := by rw [IntKind.wrap_i64]; omega
          obtain ⟨cNe4, hcNe4⟩ : ∃ q, q = kp := ⟨_, rfl⟩
          have ece4 : ((kp : Int)).toNat = cNe4 := by omega
          have pce4 : (0 : Int) ≤ (kp : Int) := by omega
          have bce4 : (kp : Int) < (n : Int) := by omega
          have rce4 : IntKind.i64.wrap ((kp : Int)) = (kp : Int) := by rw [IntKind.wrap_i64]; omega
          have lae4 : ∀ m os, (grow (wr.drewN m) os).cell? ⟨g, aNe4, none⟩ = some ((Value.int .i64) x) := by rw [haNe4]; exact O1.out.cl hx
          have lce4 : ∀ m os, (grow (wr.drewN m) os).cell? ⟨g, cNe4, none⟩ = some ((Value.int .i64) p) := by rw [hcNe4]; exact O1.out.cl hp
          have hce4 : ∀ m os, Calls Tryz.prog 77 (#[(Value.int .i64) x, (Value.int .i64) p] ++ #[]) (grow (wr.drewN m) os) fun e w' => e = .returned (.bool false) ∧ ∃ q os', w' = grow ((grow (wr.drewN m) os).drewN q) os' := fun m os => by
            refine (sameI x p _).mono ?_
            rintro e w' ⟨rfl, rfl⟩
            exact ⟨by rw [hlv], 0, #[], by rw [grow_empty]; rfl⟩
          clear haNe4 hcNe4
          go_wp2_with fail
          go_quiet_grown (first | (go_at_fn 77; refine Calls.grown_of (hce4 _ _)))
          have OQ : Hid (OG (Value.int .i64) B 3 (grow (wr.drewN nq) osq) (.slice (some ⟨g, 0, none⟩) n cap) L ∧ wr.grownBy (grow (wr.drewN nq) osq) (some g)) := ⟨O1.out.grow nq osq, grown_grow _ _ _ _⟩
          clear lae4 lce4 hce4
          generalize grow (wr.drewN nq) osq = w2 at OQ ⊢
          clear nq osq
          clear eae4 ece4
          go_wp2
          go_roundg (n - (k + 1))
          case measure => omega
          case rel => exact ⟨k + 1, by go_num, by omega, by omega, Nat.le_refl _, A1.out.next HX.out HP.out hlv, OQ.out.1, G1.out.trans OQ.out.2⟩
      · have hltz : ¬ (k : Int) < (n : Int) := by omega
        have HE : Hid (OG (Value.int .i64) B 3 wr (.slice (some ⟨g, 0, none⟩) n cap) (cpt smI L)) := by rw [A1.out.all (by rw [HN.out]; omega)]; exact O1
        clear A1 O1
        go_wp2
        go_ret
        exact ⟨_, rfl, HE.out, G1.out⟩
end Go.Proofs.YthdpomgpcblpeaaGreat

namespace Go.Proofs.YthdpomgpcblpeaaGreat
open Go.Shelf Go.RowKit Go.Lib Go.Sort
section
variable {α : Type}
def allS (eq : α → α → Bool) : List α → List α → Bool
  | [], [] => true
  | x :: a, y :: b => eq x y && allS eq a b
  | _, _ => false
theorem allS_len {eq : α → α → Bool} : ∀ (a b : List α), a.length ≠ b.length → allS eq a b = false
  | [], [], h => absurd rfl h
  | x :: a, y :: b, h => by rw [allS, allS_len a b (by simpa using h), Bool.and_false]
  | [], y :: b, _ => rfl
  | x :: a, [], _ => rfl
theorem allS_step {eq : α → α → Bool} {a b : List α} {i : Nat} {x y : α} (hx : a[i]? = some x) (hy : b[i]? = some y) : allS eq (a.drop i) (b.drop i) = (eq x y && allS eq (a.drop (i + 1)) (b.drop (i + 1))) := by
  rw [drop_cons hx, drop_cons hy, allS]
theorem allS_end {eq : α → α → Bool} {a b : List α} {i : Nat} (h1 : a.length ≤ i) (h2 : b.length ≤ i) : allS eq (a.drop i) (b.drop i) = true := by
  rw [List.drop_of_length_le h1, List.drop_of_length_le h2]; rfl
/-- k things are below, the others are not -/
structure Pos (lt : α → α → Bool) (L : List α) (x : α) (k : Nat) : Prop where
  le : k ≤ L.length
  lo : ∀ t y, t < k → L[t]? = some y → lt y x = true
  hi : ∀ t y, k ≤ t → L[t]? = some y → lt y x = false
theorem srt_mono {lt : α → α → Bool} (O : Ord (leOf lt)) {L : List α} (h : Srt (leOf lt) L) {s t : Nat} {x y z : α} (hst : s ≤ t) (hs : L[s]? = some y) (ht : L[t]? = some z) (hz : lt z x = true) : lt y x = true := by
  cases e : lt y x with
  | true => rfl
  | false =>
    obtain ⟨h1, rfl⟩ := List.getElem?_eq_some_iff.1 hs
    obtain ⟨h2, rfl⟩ := List.getElem?_eq_some_iff.1 ht
    have hle : leOf lt L[s] L[t] = true := by
      by_cases e2 : s = t
      · subst e2; exact O.refl _
      · exact (List.pairwise_iff_getElem.1 h) s t h1 h2 (by omega)
    have := O.trans _ _ _ (le_yes e) hle
    exact (le_off hz this).elim
end
section
variable {α : Type} {enc : α → Value}
/-- a row of rows that can be read -/
def RR (enc : α → Value) (w : World) (v : Value) (Ls : List (List α)) : Prop :=
  ∃ vs : List Value, RG id w v vs ∧ vs.length = Ls.length ∧ ∀ (i : Nat) (u : Value) (L : List α), vs[i]? = some u → Ls[i]? = some L → RG enc w u L
theorem flat_step {Ls : List (List α)} {i : Nat} {L : List α} (h : Ls[i]? = some L) : (Ls.take (i + 1)).flatten = (Ls.take i).flatten ++ L := by
  rw [take_snoc h, List.flatten_append]; simp
theorem flat_le (Ls : List (List α)) (i : Nat) : (Ls.take i).flatten.length ≤ Ls.flatten.length := by
  conv => rhs; rw [← List.take_append_drop i Ls]
  rw [List.flatten_append, List.length_append]
  omega
theorem OG.zeros (B e g : Nat) (w : World) (cap : Nat) (cur : Array Value) (hB : B ≤ g) (hg : w.heap[g]? = some (.cells cur e)) (hc : cur.size = cap) (hm : cap ≤ maxLen) : OG enc B e w (.slice (some ⟨g, 0, none⟩) 0 cap) [] :=
  ⟨rfl, .inr ⟨g, cap, cur, rfl, hB, hg, Nat.zero_le _, hm, by omega, by simp⟩⟩
end
end Go.Proofs.YthdpomgpcblpeaaGreat

namespace Go.Proofs.YthdpomgpcblpeaaGreat
open Go.Shelf Go.RowKit Go.Lib Go.Sort
def layGI_ren : Go.Shelf.Ren := ⟨fun | 4 => 33 | n => n, fun | 3 => 3 | 4 => 4 | 9 => 9 | 20 => 20 | 22 => 23 | 25 => 3 | n => n, fun | n => n⟩
theorem layGI : Go.Proofs.Lays8.n4 Tryz.prog layGI_ren := {
  mixed := by kernel_rfl
  f4 := ⟨Tryz.f33.name, by decide, Tryz.func33.trans (congrArg some (by kernel_rfl))⟩
  t0 := Tryz.underlying0
  a0 := Tryz.isAgg0
  z0 := Tryz.sizeOf0
  v0 := Tryz.zeroValue0
  t3 := Tryz.underlying3
  a3 := Tryz.isAgg3
  z3 := Tryz.sizeOf3
  v3 := Tryz.zeroValue3
  t4 := Tryz.underlying4
  a4 := Tryz.isAgg4
  z4 := Tryz.sizeOf4
  v4 := Tryz.zeroValue4
  t9 := Tryz.underlying9
  a9 := Tryz.isAgg9
  z9 := Tryz.sizeOf9
  v9 := Tryz.zeroValue9
  t20 := Tryz.underlying20
  a20 := Tryz.isAgg20
  z20 := Tryz.sizeOf20
  v20 := Tryz.zeroValue20
  t22 := Tryz.underlying23
  a22 := Tryz.isAgg23
  z22 := Tryz.sizeOf23
  v22 := Tryz.zeroValue23 }
theorem growNilI (n : Nat) (w : World) (hn : n ≤ 1048576000) : Calls Tryz.prog 33 #[.slice none 0 0, .int .i64 n] w fun e w' => ∃ u, e = .returned u ∧ OG (Value.int .i64) w.heap.size 3 w' u [] ∧ Below w.heap.size w w' := by
  by_cases h0 : n = 0
  · subst h0
    refine (Any8.slices_Grow_room layGI none 0 0 0 w (Nat.le_refl _) (by omega) (by omega) (Nat.le_refl _)).mono ?_
    rintro e w' ⟨rfl, rfl⟩
    exact ⟨_, rfl, OG.nil _ _ _, Below.refl _ _⟩
  · obtain ⟨i0, hi, hz0, hz1, hz2⟩ := info_parts infoI
    refine (Any8.slices_Grow_grow layGI i0 (.int .i64 0) hi hz0 (by omega) none 0 0 n [] w (Nat.le_refl _) (by omega) (by rw [hz2]; omega) (by omega) (by simp) (fun _ => rfl) (fun a h => by simp at h)).mono ?_
    rintro e w' ⟨rfl, rfl⟩
    have hge : n ≤ grownCap w (0 + n) 0 (layGI_ren.t 25) := by have := grownCap_ge w (0 + n) 0 (layGI_ren.t 25); omega
    have hle := grownCap_le_maxLen w (0 + n) 0 (layGI_ren.t 25) (by unfold maxLen; omega)
    generalize grownCap w (0 + n) 0 (layGI_ren.t 25) = G at *
    refine ⟨_, rfl, OG.zeros _ _ w.heap.size _ G _ (Nat.le_refl _) (by have := heap_alloc_new w.drew (.cells (([] : List Value).toArray ++ Builtin.zeroCells (Value.cells (.int .i64 0)) (0 + n - 0) ++ Builtin.zeroCells (Value.cells (.int .i64 0)) (G - (0 + n))) 3); exact this) ?_ hle, (Below.refl _ _).trans ?_⟩
    · simp [Builtin.zeroCells, Value.cells]; omega
    · exact ((Below.refl w.heap.size w).drew).alloc (Nat.le_refl _) _
set_option maxHeartbeats 4000000 in
set_option maxRecDepth 1000000 in
theorem concatI (v : Value) (Ls : List (List Int)) (w : World) (hv : RR (Value.int .i64) w v Ls) (hz : Ls.flatten.length ≤ 1048576) (hz2 : Ls.length ≤ 1048576) :
    Calls Tryz.prog 22 #[v] w fun e w' => ∃ u, e = .returned u ∧ OG (Value.int .i64) w.heap.size 3 w' u Ls.flatten ∧ Below w.heap.size w w' := by
  obtain ⟨vs, hrow, hlen, hall⟩ := hv
  have hrow0 := hrow
  obtain ⟨ao, cap, rfl, hc, hm, hnil, hcell⟩ := hrow
  unfold maxLen at hm
  obtain ⟨i0, hi, hz0, hz1, hz2'⟩ := info_parts infoI
  obtain ⟨n, hn⟩ : ∃ n, vs.length = n := ⟨_, rfl⟩
  rw [hn] at hc ⊢
  have HN : Hid (vs.length = n) := hn
  have HNL : Hid (Ls.length = n) := hlen.symm.trans hn
  have hn2 : n ≤ 1048576 := by omega
  have HC : Hid (∀ i x, vs[i]? = some x → ∃ g o, ao = some ⟨g, o, none⟩ ∧ w.cell? ⟨g, o + i, none⟩ = some x) := hcell
  have HA : Hid (∀ (i : Nat) (u : Value) (L : List Int), vs[i]? = some u → Ls[i]? = some L → RG (Value.int .i64) w u L) := hall
  have HF : Hid (∀ i, (Ls.take i).flatten.length ≤ 1048576) := fun i => Nat.le_trans (flat_le Ls i) hz
  have HE : Hid ((Ls.take n).flatten = Ls.flatten) := by show _ = _; rw [List.take_of_length_le (by rw [HNL.out]; exact Nat.le_refl _)]
  have HLT : Hid (∀ g o, ao = some ⟨g, o, none⟩ → 0 < n → g < w.heap.size) := fun g o e h => hrow0.lt (by rw [HN.out]; exact h) g (by rw [e]; rfl)
  clear hn hcell hall hlen hnil hrow0 hz hz2
  go_enter Tryz.func22, Tryz.ntmps22
  go_wp2
  go_loopg [3, 5, 11] n (fun g1 v3 _v5 v11 wr => ∃ i s : Nat, v3 = .int .i64 s ∧ v11 = .int .i64 i ∧ i ≤ n ∧ n - i ≤ g1 ∧ s ≤ 1048576 ∧ Hid ((Ls.take i).flatten.length = s) ∧ w = wr)
  case atStart => exact ⟨0, 0, rfl, rfl, Nat.zero_le _, by omega, by omega, rfl, rfl⟩
  case round =>
    obtain ⟨i, s, rfl, rfl, hin, hg1, hs, HS, rfl⟩ := hrel
    by_cases hlt : i < n
    · have hltz : (i : Int) < (n : Int) := by omega
      obtain ⟨u, hu⟩ : ∃ u, vs[i]? = some u := ⟨_, List.getElem?_eq_getElem (by rw [HN.out]; exact hlt)⟩
      obtain ⟨L, hL⟩ : ∃ u, Ls[i]? = some u := ⟨_, List.getElem?_eq_getElem (by rw [HNL.out]; exact hlt)⟩
      obtain ⟨g, o, rfl, hc0⟩ := HC.out i u hu
      obtain ⟨uo, uc, rfl⟩ := (HA.out i u L hu hL).sl
      have hfl := flat_step hL
      obtain ⟨l, hl⟩ : ∃ l, l = L.length := ⟨_, rfl⟩
      have hsl : (Ls.take (i + 1)).flatten.length = s + l := by rw [hfl, List.length_append, HS.out, hl]
      have hs2 : s + l ≤ 1048576 := by rw [← hsl]; exact HF.out (i + 1)
      have HSL : Hid ((Ls.take (i + 1)).flatten.length = s + l) := hsl
      rw [← hl] at hc0
      clear hu hL hl hfl hsl
      have hpos : ¬ ((s : Int) + (l : Int)) < 0 := by omega
      go_wp2
      go_roundg (n - (i + 1))
      case measure => omega
      case rel => exact ⟨i + 1, s + l, by go_num, by go_num, by omega, Nat.le_refl _, hs2, HSL, rfl⟩
    · have hltz : ¬ (i : Int) < (n : Int) := by omega
      clear HS hltz
      go_wp2_with (go_at_call 33; refine (growNilI s _ (by omega)).mono ?_; rintro e w1 ⟨v6, rfl, ho, hb⟩)
      have O0 : Hid (OG (Value.int .i64) w.heap.size 3 w1 v6 [] ∧ Below w.heap.size w w1) := ⟨ho, hb⟩
      clear ho hb
      go_loopg [6, 8, 27] n (fun g2 v6 _v8 v27 wr2 => ∃ j : Nat, v27 = .int .i64 j ∧ j ≤ n ∧ n - j ≤ g2 ∧ Hid (OG (Value.int .i64) w.heap.size 3 wr2 v6 (Ls.take j).flatten ∧ Below w.heap.size w wr2))
      case atStart => exact ⟨0, rfl, Nat.zero_le _, by omega, O0⟩
      case round =>
        clear O0
        obtain ⟨j, rfl, hjn, hg2, O1⟩ := hrel
        by_cases hlt2 : j < n
        · have hlt2z : (j : Int) < (n : Int) := by omega
          obtain ⟨u, hu⟩ : ∃ u, vs[j]? = some u := ⟨_, List.getElem?_eq_getElem (by rw [HN.out]; exact hlt2)⟩
          obtain ⟨L, hL⟩ : ∃ u, Ls[j]? = some u := ⟨_, List.getElem?_eq_getElem (by rw [HNL.out]; exact hlt2)⟩
          obtain ⟨g, o, rfl, hc0⟩ := HC.out j u hu
          have hglt := HLT.out g o rfl (by omega)
          have hc1 : wr.cell? ⟨g, o + j, none⟩ = some u := by rw [World.cell?_of_block (O1.out.2.block g hglt)]; exact hc0
          have HRU : Hid (RG (Value.int .i64) wr u L) := (HA.out j u L hu hL).below (Nat.le_refl _) O1.out.2
          obtain ⟨uo, uc, rfl⟩ := HRU.out.sl
          have hfl := flat_step hL
          have HFL : Hid ((Ls.take (j + 1)).flatten = (Ls.take j).flatten ++ L) := hfl
          have hsz : (Ls.take j).flatten.length + L.length ≤ 1048576 := by have := HF.out (j + 1); rw [hfl, List.length_append] at this; exact this
          have HSZ : Hid ((Ls.take j).flatten.length + L.length ≤ 1048576) := hsz
          have HBS : Hid (w.heap.size ≤ wr.heap.size) := O1.out.2.size
          clear hu hL hfl hsz hc0 hglt
          go_wp2_with (at_builtin; refine wpList_appG _ oneI rfl _ _ 23 rfl w.heap.size 3 i0 (.int .i64 0) 8 Tryz.underlying23 hi hz0 hz1 hz2' rfl _ _ (Ls.take j).flatten L rfl O1.out.1 rfl HRU.out (by have := HSZ.out; unfold maxLen; omega) (by have := HSZ.out; omega) HBS.out ?_)
          intro v1 w3 ho1 hg3
          have O2 : Hid (OG (Value.int .i64) w.heap.size 3 w3 v1 (Ls.take (j + 1)).flatten ∧ Below w.heap.size w w3) := ⟨by rw [HFL.out]; exact ho1, O1.out.1.grown O1.out.2 HBS.out hg3⟩
          clear ho1 hg3
          go_wp2
          go_roundg (n - (j + 1))
          case measure => omega
          case rel => exact ⟨j + 1, by go_num, by omega, Nat.le_refl _, O2⟩
        · have hlt2z : ¬ (j : Int) < (n : Int) := by omega
          have hj : j = n := by omega
          subst hj
          have O2 : Hid (OG (Value.int .i64) w.heap.size 3 _ _ Ls.flatten ∧ Below w.heap.size w _) := ⟨by rw [← HE.out]; exact O1.out.1, O1.out.2⟩
          clear O1
          go_wp2
          go_ret
          exact ⟨_, rfl, O2.out.1, O2.out.2⟩
end Go.Proofs.YthdpomgpcblpeaaGreat

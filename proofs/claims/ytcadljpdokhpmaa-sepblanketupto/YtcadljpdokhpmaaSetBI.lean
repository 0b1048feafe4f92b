/-
  Proved here: slices.CompactFunc at int, over a row of the call's own: what repeats its forerunner is left out.
-/
import Derived.Test.YtcadljpdokhpmaaSetCptAll
namespace Go.Proofs.Ytcadljpdokhpmaa
open Go.Shelf Go.RowKit Go.Lib Go.Sort
theorem entSI : ∀ args w, (callFunc 30 args).run Try.prog w = .ok (.enter 30 args) w := enters_of Try.func30 (by kernel_rfl) rfl
/-- the same thing -/
def smI (x y : Int) : Bool := decide (cfI x y = 0)
set_option maxHeartbeats 4000000 in
set_option maxRecDepth 1000000 in
theorem compactI (B : Nat) (v : Value) (L : List Int) (w : World) (h : OG (Value.int .i64) B 3 w v L) :
    Calls Try.prog 29 #[v, .func (.func 30) #[] #[]] w fun e w' => ∃ u, e = .returned u ∧ OG (Value.int .i64) B 3 w' u (cpt smI L) ∧ w.grownBy w' v.ownBlock := by
  have h0 := h
  obtain ⟨ao, cap, rfl, hao, hlc, hcm, -⟩ := h.sl
  unfold maxLen at hcm
  obtain ⟨n, hn⟩ : ∃ n, L.length = n := ⟨_, rfl⟩
  rw [hn] at h0 hao hlc ⊢
  have HN : Hid (L.length = n) := hn
  by_cases h2 : n < 2
  · have hz : (n : Int) < 2 := by omega
    have HO : Hid (OG (Value.int .i64) B 3 w (.slice ao n cap) (cpt smI L)) := by rw [cpt_small L (by omega)]; exact h0
    clear hn h h0 hao
    go_enter Try.func29, Try.ntmps29
    go_wp2
    go_ret
    exact ⟨_, rfl, HO.out, grownG_refl _ _⟩
  · have hz : ¬ (n : Int) < 2 := by omega
    obtain ⟨g, hgB, rfl⟩ := hao (by omega)
    have O0 : Hid (OG (Value.int .i64) B 3 w (.slice (some ⟨g, 0, none⟩) n cap) L) := h0
    have A0 : Hid (CpA smI L 1) := CpA.start (by omega)
    have ent := entSI
    have mixed : Try.prog.follows .mixedOrders = true := by kernel_rfl
    clear hn h h0 hao
    go_enter Try.func29, Try.ntmps29
    go_wp2
    go_loopg [5] n (fun g1 v5 wr => ∃ k : Nat, v5 = .int .i64 k ∧ 1 ≤ k ∧ k ≤ n ∧ n - k ≤ g1 ∧ Hid (CpA smI L k) ∧ Hid (OG (Value.int .i64) B 3 wr (.slice (some ⟨g, 0, none⟩) n cap) L) ∧ Hid (w.grownBy wr (some g)))
    case atStart => exact ⟨1, rfl, Nat.le_refl _, by omega, by omega, A0, O0, grownG_refl _ _⟩
    case round =>
      clear A0 O0
      obtain ⟨k, rfl, hk1, hkn, hg1, A1, O1, G1⟩ := hrel
      by_cases hlt : k < n
      · have hltz : (k : Int) < (n : Int) := by omega
        obtain ⟨x, hx⟩ : ∃ x, L[k]? = some x := ⟨_, List.getElem?_eq_getElem (by rw [HN.out]; exact hlt)⟩
        obtain ⟨p, hp⟩ : ∃ p, L[k - 1]? = some p := ⟨_, List.getElem?_eq_getElem (by rw [HN.out]; omega)⟩
        have HX : Hid (L[k]? = some x) := hx
        have HP : Hid (L[k - 1]? = some p) := hp
        obtain ⟨kp, hkp⟩ : ∃ q, q + 1 = k := ⟨k - 1, by omega⟩
        have ekp : (k : Int) - 1 = (kp : Int) := by omega
        have HKP : Hid (k - 1 = kp) := by show _ = _; omega
        have hkpn : kp < n := by omega
        rw [show k - 1 = kp by omega] at hp
        clear hkp
        cases hlv : decide (cfI x p = 0) with
        | true =>
          obtain ⟨aNe1, haNe1⟩ : ∃ q, q = k := ⟨_, rfl⟩
          have eae1 : ((k : Int)).toNat = aNe1 := by omega
          have pae1 : (0 : Int) ≤ (k : Int) := by omega
          have bae1 : (k : Int) < (n : Int) := by omega
          have rae1 : IntKind.i64.wrap ((k : Int)) = (k : Int) := by rw [IntKind.wrap_i64]; omega
          obtain ⟨cNe1, hcNe1⟩ : ∃ q, q = kp := ⟨_, rfl⟩
          have ece1 : ((kp : Int)).toNat = cNe1 := by omega
          have pce1 : (0 : Int) ≤ (kp : Int) := by omega
          have bce1 : (kp : Int) < (n : Int) := by omega
          have rce1 : IntKind.i64.wrap ((kp : Int)) = (kp : Int) := by rw [IntKind.wrap_i64]; omega
          have lae1 : ∀ m os, (grow (wr.drewN m) os).cell? ⟨g, aNe1, none⟩ = some ((Value.int .i64) x) := by rw [haNe1]; exact O1.out.cl hx
          have lce1 : ∀ m os, (grow (wr.drewN m) os).cell? ⟨g, cNe1, none⟩ = some ((Value.int .i64) p) := by rw [hcNe1]; exact O1.out.cl hp
          have hce1 : ∀ m os, Calls Try.prog 30 (#[(Value.int .i64) x, (Value.int .i64) p] ++ #[]) (grow (wr.drewN m) os) fun e w' => e = .returned (.bool true) ∧ ∃ q os', w' = grow ((grow (wr.drewN m) os).drewN q) os' := fun m os => by
            refine (sameI x p _).mono ?_
            rintro e w' ⟨rfl, rfl⟩
            exact ⟨by rw [hlv], 0, #[], by rw [grow_empty]; rfl⟩
          clear haNe1 hcNe1
          go_wp2_with fail
          go_quiet_grown (first | (go_at_fn 30; refine Calls.grown_of (hce1 _ _)))
          have OQ : Hid (OG (Value.int .i64) B 3 (grow (wr.drewN nq) osq) (.slice (some ⟨g, 0, none⟩) n cap) L ∧ wr.grownBy (grow (wr.drewN nq) osq) (some g)) := ⟨O1.out.grow nq osq, grown_grow _ _ _ _⟩
          clear lae1 lce1 hce1
          generalize grow (wr.drewN nq) osq = w2 at OQ ⊢
          clear nq osq
          clear eae1 ece1
          have A2 : Hid (CpB smI L (L.take k) (k + 1)) := A1.out.turn HX.out HP.out hlv
          have O2 : Hid (OG (Value.int .i64) B 3 w2 (.slice (some ⟨g, 0, none⟩) n cap) L) := OQ.out.1
          have G2 : Hid (w.grownBy w2 (some g)) := G1.out.trans OQ.out.2
          have O3 : Hid (OG (Value.int .i64) B 3 w2 (.slice (some ⟨g, 0, none⟩) n cap) (L.take k ++ L.drop k)) := by rw [List.take_append_drop]; exact O2
          have HD : Hid ((L.take k).length = k) := by show _ = _; rw [List.length_take, HN.out]; omega
          obtain ⟨l2, hl2⟩ : ∃ q, q + k = n := ⟨n - k, by omega⟩
          have el2 : (n : Int) - (k : Int) = (l2 : Int) := by omega
          have el2' : n - k = l2 := by omega
          obtain ⟨c2, hc2⟩ : ∃ q, q + k = cap := ⟨cap - k, by omega⟩
          have ec2' : cap - k = c2 := by omega
          have ec2 : (cap : Int) - (k : Int) = (c2 : Int) := by omega
          have hkc : (k : Int) ≤ (n : Int) := by omega
          have HL2 : Hid (l2 + k = n) := hl2
          clear OQ A1 O1 G1 hx hp HX HP hl2 hc2 hlv O2
          go_wp2
          go_loopg [5, 7] n (fun g2 v5 v7 wr2 => ∃ (kk k2 : Nat) (D : List Int), v5 = .int .i64 kk ∧ v7 = .int .i64 k2 ∧ 1 ≤ k2 ∧ k2 ≤ l2 ∧ kk < k + k2 ∧ n - (k + k2) ≤ g2 ∧ Hid (D.length = kk) ∧ Hid (CpB smI L D (k + k2)) ∧ Hid (OG (Value.int .i64) B 3 wr2 (.slice (some ⟨g, 0, none⟩) n cap) (D ++ L.drop kk)) ∧ Hid (w.grownBy wr2 (some g)))
          case atStart => exact ⟨k, 1, L.take k, rfl, rfl, Nat.le_refl _, by have := HL2.out; omega, by omega, by omega, HD, A2, O3, G2⟩
          case round =>
            clear A2 O3 G2 HD
            obtain ⟨kk, k2, D, rfl, rfl, h21, h22, hkk, hg2, HD, A2, O3, G2⟩ := hrel
            have hkl := HL2.out
            by_cases hlt2 : k2 < l2
            · have hlt2z : (k2 : Int) < (l2 : Int) := by omega
              obtain ⟨u, hu⟩ : ∃ x, L[k + k2]? = some x := ⟨_, List.getElem?_eq_getElem (by rw [HN.out]; omega)⟩
              obtain ⟨q, hq⟩ : ∃ p, L[k + k2 - 1]? = some p := ⟨_, List.getElem?_eq_getElem (by rw [HN.out]; omega)⟩
              obtain ⟨ol, hol⟩ : ∃ x, L[kk]? = some x := ⟨_, List.getElem?_eq_getElem (by rw [HN.out]; omega)⟩
              have HU : Hid (L[k + k2]? = some u) := hu
              have HQ : Hid (L[k + k2 - 1]? = some q) := hq
              have HOL : Hid (L[kk]? = some ol) := hol
              obtain ⟨kq, hkq⟩ : ∃ q, q + 1 = k2 := ⟨k2 - 1, by omega⟩
              have ekq : (k2 : Int) - 1 = (kq : Int) := by omega
              have hkqn : kq < l2 := by omega
              have hcu : (D ++ L.drop kk)[k + k2]? = some u := by rw [List.getElem?_append_right (by rw [HD.out]; omega), HD.out, List.getElem?_drop, ← hu]; congr 1; omega
              have hcq : (D ++ L.drop kk)[k + kq]? = some q := by rw [List.getElem?_append_right (by rw [HD.out]; omega), HD.out, List.getElem?_drop, ← hq]; congr 1; omega
              have hck : (D ++ L.drop kk)[kk]? = some ol := by rw [List.getElem?_append_right (by rw [HD.out]; omega), HD.out, List.getElem?_drop, ← hol]; congr 1; omega
              have HCK : Hid ((D ++ L.drop kk)[kk]? = some ol) := hck
              have HCU : Hid ((D ++ L.drop kk)[k + k2]? = some u) := hcu
              have HLC : Hid ((D ++ L.drop kk).length = n) := by show _ = _; rw [List.length_append, List.length_drop, HD.out, HN.out]; omega
              have hkkn : kk < n := by omega
              have hk2n : k + k2 < n := by omega
              obtain ⟨C, hC⟩ : ∃ C, C = D ++ L.drop kk := ⟨_, rfl⟩
              rw [← hC] at O3 hcu hcq HCK HCU HLC
              have HC : Hid (C = D ++ L.drop kk) := hC
              clear hkq hu hq hol hck hC hkl
              cases hlv : decide (cfI u q = 0) with
              | true =>
                obtain ⟨aNe2, haNe2⟩ : ∃ q, q = k2 := ⟨_, rfl⟩
                have eae2 : ((k2 : Int)).toNat = aNe2 := by omega
                have pae2 : (0 : Int) ≤ (k2 : Int) := by omega
                have bae2 : (k2 : Int) < (l2 : Int) := by omega
                have rae2 : IntKind.i64.wrap ((k2 : Int)) = (k2 : Int) := by rw [IntKind.wrap_i64]; omega
                obtain ⟨cNe2, hcNe2⟩ : ∃ q, q = kq := ⟨_, rfl⟩
                have ece2 : ((kq : Int)).toNat = cNe2 := by omega
                have pce2 : (0 : Int) ≤ (kq : Int) := by omega
                have bce2 : (kq : Int) < (l2 : Int) := by omega
                have rce2 : IntKind.i64.wrap ((kq : Int)) = (kq : Int) := by rw [IntKind.wrap_i64]; omega
                have lae2 : ∀ m os, (grow (wr.drewN m) os).cell? ⟨g, k + aNe2, none⟩ = some ((Value.int .i64) u) := by rw [haNe2]; exact O3.out.cl hcu
                have lce2 : ∀ m os, (grow (wr.drewN m) os).cell? ⟨g, k + cNe2, none⟩ = some ((Value.int .i64) q) := by rw [hcNe2]; exact O3.out.cl hcq
                have hce2 : ∀ m os, Calls Try.prog 30 (#[(Value.int .i64) u, (Value.int .i64) q] ++ #[]) (grow (wr.drewN m) os) fun e w' => e = .returned (.bool true) ∧ ∃ q os', w' = grow ((grow (wr.drewN m) os).drewN q) os' := fun m os => by
                  refine (sameI u q _).mono ?_
                  rintro e w' ⟨rfl, rfl⟩
                  exact ⟨by rw [hlv], 0, #[], by rw [grow_empty]; rfl⟩
                clear haNe2 hcNe2
                go_wp2_with fail
                go_quiet_grown (first | (go_at_fn 30; refine Calls.grown_of (hce2 _ _)))
                have OQ : Hid (OG (Value.int .i64) B 3 (grow (wr.drewN nq) osq) (.slice (some ⟨g, 0, none⟩) n cap) C ∧ wr.grownBy (grow (wr.drewN nq) osq) (some g)) := ⟨O3.out.grow nq osq, grown_grow _ _ _ _⟩
                clear lae2 lce2 hce2
                generalize grow (wr.drewN nq) osq = w2 at OQ ⊢
                clear nq osq
                clear eae2 ece2
                go_wp2
                go_roundg (n - (k + (k2 + 1)))
                case measure => have := HL2.out; omega
                case rel => exact ⟨kk, k2 + 1, D, rfl, by go_num, by omega, by omega, by omega, Nat.le_refl _, HD, A2.out.skip HU.out HQ.out hlv, by rw [← HC.out]; exact OQ.out.1, G2.out.trans OQ.out.2⟩
              | false =>
                obtain ⟨aNe3, haNe3⟩ : ∃ q, q = k2 := ⟨_, rfl⟩
                have eae3 : ((k2 : Int)).toNat = aNe3 := by omega
                have pae3 : (0 : Int) ≤ (k2 : Int) := by omega
                have bae3 : (k2 : Int) < (l2 : Int) := by omega
                have rae3 : IntKind.i64.wrap ((k2 : Int)) = (k2 : Int) := by rw [IntKind.wrap_i64]; omega
                obtain ⟨cNe3, hcNe3⟩ : ∃ q, q = kq := ⟨_, rfl⟩
                have ece3 : ((kq : Int)).toNat = cNe3 := by omega
                have pce3 : (0 : Int) ≤ (kq : Int) := by omega
                have bce3 : (kq : Int) < (l2 : Int) := by omega
                have rce3 : IntKind.i64.wrap ((kq : Int)) = (kq : Int) := by rw [IntKind.wrap_i64]; omega
                have lae3 : ∀ m os, (grow (wr.drewN m) os).cell? ⟨g, k + aNe3, none⟩ = some ((Value.int .i64) u) := by rw [haNe3]; exact O3.out.cl hcu
                have lce3 : ∀ m os, (grow (wr.drewN m) os).cell? ⟨g, k + cNe3, none⟩ = some ((Value.int .i64) q) := by rw [hcNe3]; exact O3.out.cl hcq
                have hce3 : ∀ m os, Calls Try.prog 30 (#[(Value.int .i64) u, (Value.int .i64) q] ++ #[]) (grow (wr.drewN m) os) fun e w' => e = .returned (.bool false) ∧ ∃ q os', w' = grow ((grow (wr.drewN m) os).drewN q) os' := fun m os => by
                  refine (sameI u q _).mono ?_
                  rintro e w' ⟨rfl, rfl⟩
                  exact ⟨by rw [hlv], 0, #[], by rw [grow_empty]; rfl⟩
                clear haNe3 hcNe3
                go_wp2_with fail
                go_quiet_grown (first | (go_at_fn 30; refine Calls.grown_of (hce3 _ _)))
                have OQ : Hid (OG (Value.int .i64) B 3 (grow (wr.drewN nq) osq) (.slice (some ⟨g, 0, none⟩) n cap) C ∧ wr.grownBy (grow (wr.drewN nq) osq) (some g)) := ⟨O3.out.grow nq osq, grown_grow _ _ _ _⟩
                clear lae3 lce3 hce3
                generalize grow (wr.drewN nq) osq = w2 at OQ ⊢
                clear nq osq
                clear eae3 ece3
                have c1 := (OQ.out.1.cell HCU.out).1
                have c2_ := (OQ.out.1.cell HCK.out).1
                have f2_ := (OQ.out.1.cell HCK.out).2
                obtain ⟨O4, G4⟩ := OQ.out.1.set HLC.out kk u
                have O4' : Hid (OG (Value.int .i64) B 3 (w2.setCell ⟨g, kk, none⟩ ((Value.int .i64) u)) (.slice (some ⟨g, 0, none⟩) n cap) ((D ++ [u]) ++ L.drop (kk + 1))) := by rw [HC.out, put_at HD.out HOL.out] at O4; exact O4
                have G4' : Hid (w.grownBy (w2.setCell ⟨g, kk, none⟩ ((Value.int .i64) u)) (some g)) := (G2.out.trans OQ.out.2).trans G4
                clear O4 G4
                have hkkz : (kk : Int) < (n : Int) := by omega
                have hk2z : (k2 : Int) < (l2 : Int) := hlt2z
                go_wp2
                go_roundg (n - (k + (k2 + 1)))
                case measure => have := HL2.out; omega
                case rel => exact ⟨kk + 1, k2 + 1, D ++ [u], by go_num, by go_num, by omega, by omega, by omega, Nat.le_refl _, by show _ = _; rw [List.length_append, HD.out]; rfl, A2.out.keep HU.out HQ.out hlv, O4', G4'⟩
            · have hlt2z : ¬ (k2 : Int) < (l2 : Int) := by omega
              have hDE : Hid (cpt smI L = D) := A2.out.done (by rw [HN.out]; omega)
              have HLC : (D ++ L.drop kk).length = n := by rw [List.length_append, List.length_drop, HD.out, HN.out]; omega
              have hgr := fun j (hj : j < n) => O3.out.cell (i := j) (List.getElem?_eq_getElem (by rw [HLC]; exact hj))
              obtain ⟨C', s1, s2, s3, s4⟩ := O3.out.sets (0 : Int) (n - kk) kk HLC
              have hcl : ∀ ty, (Builtin.clear_ #[24] ty #[.slice (some ⟨g, kk, none⟩) (n - kk) (cap - kk)]).run Try.prog wr = .ok (.tuple #[]) (wr.setCells g kk (List.replicate (n - kk) (.int .i64 0))) :=
                fun ty => Lib.run_clear_slice wr _ _ ty _ Try.underlying24 Try.zeroValue3 rfl rfl g kk _ _ (by omega) (fun j hj => by rw [(hgr (kk + j) (by omega)).1]; rfl) (fun j hj => (hgr (kk + j) (by omega)).2)
              have HS : Hid (OG (Value.int .i64) B 3 (wr.setCells g kk (List.replicate (n - kk) (.int .i64 0))) (.slice (some ⟨g, 0, none⟩) kk cap) D ∧ w.grownBy (wr.setCells g kk (List.replicate (n - kk) (.int .i64 0))) (some g)) := by
                refine ⟨?_, G2.out.trans s4⟩
                have := s1.cut (m := kk) (by omega)
                rw [s3, List.take_left' HD.out] at this
                exact this
              generalize wr.setCells g kk (List.replicate (n - kk) (.int .i64 0)) = w9 at hcl HS s1 s4
              obtain ⟨l9, hl9⟩ : ∃ q, q = n - kk := ⟨_, rfl⟩
              obtain ⟨c9, hc9⟩ : ∃ q, q = cap - kk := ⟨_, rfl⟩
              have el9 : (n : Int) - (kk : Int) = (l9 : Int) := by omega
              have ec9 : (cap : Int) - (kk : Int) = (c9 : Int) := by omega
              rw [← hl9, ← hc9] at hcl
              have el9' := hl9.symm
              have ec9' := hc9.symm
              have hkkz : (kk : Int) ≤ (n : Int) := by omega
              have hkkc : (kk : Int) ≤ (cap : Int) := by omega
              clear hgr s1 s2 s3 s4 HLC hkl A2 O3 G2 hl9 hc9
              go_wp2
              go_ret
              exact ⟨_, rfl, by rw [hDE.out]; exact HS.out.1, HS.out.2⟩
        | false =>
          obtain ⟨aNe4, haNe4⟩ : ∃ q, q = k := ⟨_, rfl⟩
          have eae4 : ((k : Int)).toNat = aNe4 := by omega
          have pae4 : (0 : Int) ≤ (k : Int) := by omega
          have bae4 : (k : Int) < (n : Int) := by omega
          have rae4 : IntKind.i64.wrap ((k : Int)) = (k : Int) := by rw [IntKind.wrap_i64]; omega
          obtain ⟨cNe4, hcNe4⟩ : ∃ q, q = kp := ⟨_, rfl⟩
          have ece4 : ((kp : Int)).toNat = cNe4 := by omega
          have pce4 : (0 : Int) ≤ (kp : Int) := by omega
          have bce4 : (kp : Int) < (n : Int) := by omega
          have rce4 : IntKind.i64.wrap ((kp : Int)) = (kp : Int) := by rw [IntKind.wrap_i64]; omega
          have lae4 : ∀ m os, (grow (wr.drewN m) os).cell? ⟨g, aNe4, none⟩ = some ((Value.int .i64) x) := by rw [haNe4]; exact O1.out.cl hx
          have lce4 : ∀ m os, (grow (wr.drewN m) os).cell? ⟨g, cNe4, none⟩ = some ((Value.int .i64) p) := by rw [hcNe4]; exact O1.out.cl hp
          have hce4 : ∀ m os, Calls Try.prog 30 (#[(Value.int .i64) x, (Value.int .i64) p] ++ #[]) (grow (wr.drewN m) os) fun e w' => e = .returned (.bool false) ∧ ∃ q os', w' = grow ((grow (wr.drewN m) os).drewN q) os' := fun m os => by
            refine (sameI x p _).mono ?_
            rintro e w' ⟨rfl, rfl⟩
            exact ⟨by rw [hlv], 0, #[], by rw [grow_empty]; rfl⟩
          clear haNe4 hcNe4
          go_wp2_with fail
          go_quiet_grown (first | (go_at_fn 30; refine Calls.grown_of (hce4 _ _)))
          have OQ : Hid (OG (Value.int .i64) B 3 (grow (wr.drewN nq) osq) (.slice (some ⟨g, 0, none⟩) n cap) L ∧ wr.grownBy (grow (wr.drewN nq) osq) (some g)) := ⟨O1.out.grow nq osq, grown_grow _ _ _ _⟩
          clear lae4 lce4 hce4
          generalize grow (wr.drewN nq) osq = w2 at OQ ⊢
          clear nq osq
          clear eae4 ece4
          go_wp2
          go_roundg (n - (k + 1))
          case measure => omega
          case rel => exact ⟨k + 1, by go_num, by omega, by omega, Nat.le_refl _, A1.out.next HX.out HP.out hlv, OQ.out.1, G1.out.trans OQ.out.2⟩
      · have hltz : ¬ (k : Int) < (n : Int) := by omega
        have HE : Hid (OG (Value.int .i64) B 3 wr (.slice (some ⟨g, 0, none⟩) n cap) (cpt smI L)) := by rw [A1.out.all (by rw [HN.out]; omega)]; exact O1
        clear A1 O1
        go_wp2
        go_ret
        exact ⟨_, rfl, HE.out, G1.out⟩
end Go.Proofs.Ytcadljpdokhpmaa

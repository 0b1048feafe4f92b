/-
  Proved here: slices.CompactFunc at float64, over a row of the call's own: what repeats its forerunner is left out.
-/
import Derived.Test.YtknibmehbplpbaaSetAF
import Derived.Test.YtknibmehbplpbaaSetCpt
namespace Go.Proofs.Ytknibmehbplpbaa
open Go.Shelf Go.RowKit Go.Lib Go.Sort
theorem run_store_f64 (P : Program) (w : World) (a : Addr) (m : Mode) (b : Nat) : (store a (.float .f64 b) m).run P w = stored P w a (.float .f64 b) m := run_store P w a _ m rfl
attribute [local go_sem] run_store_f64
theorem entSF : ∀ args w, (callFunc 57 args).run Try.prog w = .ok (.enter 57 args) w := enters_of Try.func57 (by kernel_rfl) rfl
/-- the same thing -/
def smF (x y : Nat) : Bool := decide (cfF x y = 0)
set_option maxHeartbeats 4000000 in
set_option maxRecDepth 1000000 in
theorem compactF (B : Nat) (v : Value) (L : List Nat) (w : World) (h : OG (Value.float .f64) B 48 w v L) :
    Calls Try.prog 56 #[v, .func (.func 57) #[] #[]] w fun e w' => ∃ u, e = .returned u ∧ OG (Value.float .f64) B 48 w' u (cpt smF L) ∧ w.grownBy w' v.ownBlock := by
  have h0 := h
  obtain ⟨ao, cap, rfl, hao, hlc, hcm, -⟩ := h.sl
  unfold maxLen at hcm
  obtain ⟨n, hn⟩ : ∃ n, L.length = n := ⟨_, rfl⟩
  rw [hn] at h0 hao hlc ⊢
  have HN : Hid (L.length = n) := hn
  by_cases h2 : n < 2
  · have hz : (n : Int) < 2 := by omega
    have HO : Hid (OG (Value.float .f64) B 48 w (.slice ao n cap) (cpt smF L)) := by rw [cpt_small L (by omega)]; exact h0
    clear hn h h0 hao
    go_enter Try.func56, Try.ntmps56
    go_wp2
    go_ret
    exact ⟨_, rfl, HO.out, grownG_refl _ _⟩
  · have hz : ¬ (n : Int) < 2 := by omega
    obtain ⟨g, hgB, rfl⟩ := hao (by omega)
    have O0 : Hid (OG (Value.float .f64) B 48 w (.slice (some ⟨g, 0, none⟩) n cap) L) := h0
    have A0 : Hid (CpA smF L 1) := CpA.start (by omega)
    have ent := entSF
    have mixed : Try.prog.follows .mixedOrders = true := by kernel_rfl
    clear hn h h0 hao
    go_enter Try.func56, Try.ntmps56
    go_wp2
    go_loopg [5] n (fun g1 v5 wr => ∃ k : Nat, v5 = .int .i64 k ∧ 1 ≤ k ∧ k ≤ n ∧ n - k ≤ g1 ∧ Hid (CpA smF L k) ∧ Hid (OG (Value.float .f64) B 48 wr (.slice (some ⟨g, 0, none⟩) n cap) L) ∧ Hid (w.grownBy wr (some g)))
    case atStart => exact ⟨1, rfl, Nat.le_refl _, by omega, by omega, A0, O0, grownG_refl _ _⟩
    case round =>
      clear A0 O0
      obtain ⟨k, rfl, hk1, hkn, hg1, A1, O1, G1⟩ := hrel
      by_cases hlt : k < n
      · have hltz : (k : Int) < (n : Int) := by omega
        obtain ⟨x, hx⟩ : ∃ x, L[k]? = some x := ⟨_, List.getElem?_eq_getElem (by rw [HN.out]; exact hlt)⟩
        obtain ⟨p, hp⟩ : ∃ p, L[k - 1]? = some p := ⟨_, List.getElem?_eq_getElem (by rw [HN.out]; omega)⟩
        have HX : Hid (L[k]? = some x) := hx
        have HP : Hid (L[k - 1]? = some p) := hp
        obtain ⟨kp, hkp⟩ : ∃ q, q + 1 = k := ⟨k - 1, by omega⟩
        have ekp : (k : Int) - 1 = (kp : Int) := by omega
        have HKP : Hid (k - 1 = kp) := by show _ = _; omega
        have hkpn : kp < n := by omega
        rw [show k - 1 = kp by omega] at hp
        clear hkp
        cases hlv : decide (cfF x p = 0) with
        | true =>
          obtain ⟨aNe9, haNe9⟩ : ∃ q, q = k := ⟨_, rfl⟩
          have eae9 : ((k : Int)).toNat = aNe9 := by omega
          have pae9 : (0 : Int) ≤ (k : Int) := by omega
          have bae9 : (k : Int) < (n : Int) := by omega
          have rae9 : IntKind.i64.wrap ((k : Int)) = (k : Int) := by rw [IntKind.wrap_i64]; omega
          obtain ⟨cNe9, hcNe9⟩ : ∃ q, q = kp := ⟨_, rfl⟩
          have ece9 : ((kp : Int)).toNat = cNe9 := by omega
          have pce9 : (0 : Int) ≤ (kp : Int) := by omega
          have bce9 : (kp : Int) < (n : Int) := by omega
          have rce9 : IntKind.i64.wrap ((kp : Int)) = (kp : Int) := by rw [IntKind.wrap_i64]; omega
          have lae9 : ∀ m os, (grow (wr.drewN m) os).cell? ⟨g, aNe9, none⟩ = some ((Value.float .f64) x) := by rw [haNe9]; exact O1.out.cl hx
          have lce9 : ∀ m os, (grow (wr.drewN m) os).cell? ⟨g, cNe9, none⟩ = some ((Value.float .f64) p) := by rw [hcNe9]; exact O1.out.cl hp
          have hce9 : ∀ m os, Calls Try.prog 57 (#[(Value.float .f64) x, (Value.float .f64) p] ++ #[]) (grow (wr.drewN m) os) fun e w' => e = .returned (.bool true) ∧ ∃ q os', w' = grow ((grow (wr.drewN m) os).drewN q) os' := fun m os => by
            refine (sameF x p _).mono ?_
            rintro e w' ⟨rfl, rfl⟩
            exact ⟨by rw [hlv], 0, #[], by rw [grow_empty]; rfl⟩
          clear haNe9 hcNe9
          go_wp2_with fail
          go_quiet_grown (first | (go_at_fn 57; refine Calls.grown_of (hce9 _ _)))
          have OQ : Hid (OG (Value.float .f64) B 48 (grow (wr.drewN nq) osq) (.slice (some ⟨g, 0, none⟩) n cap) L ∧ wr.grownBy (grow (wr.drewN nq) osq) (some g)) := ⟨O1.out.grow nq osq, grown_grow _ _ _ _⟩
          clear lae9 lce9 hce9
          generalize grow (wr.drewN nq) osq = w2 at OQ ⊢
          clear nq osq
          clear eae9 ece9
          have A2 : Hid (CpB smF L (L.take k) (k + 1)) := A1.out.turn HX.out HP.out hlv
          have O2 : Hid (OG (Value.float .f64) B 48 w2 (.slice (some ⟨g, 0, none⟩) n cap) L) := OQ.out.1
          have G2 : Hid (w.grownBy w2 (some g)) := G1.out.trans OQ.out.2
          have O3 : Hid (OG (Value.float .f64) B 48 w2 (.slice (some ⟨g, 0, none⟩) n cap) (L.take k ++ L.drop k)) := by rw [List.take_append_drop]; exact O2
          have HD : Hid ((L.take k).length = k) := by show _ = _; rw [List.length_take, HN.out]; omega
          obtain ⟨l2, hl2⟩ : ∃ q, q + k = n := ⟨n - k, by omega⟩
          have el2 : (n : Int) - (k : Int) = (l2 : Int) := by omega
          have el2' : n - k = l2 := by omega
          obtain ⟨c2, hc2⟩ : ∃ q, q + k = cap := ⟨cap - k, by omega⟩
          have ec2' : cap - k = c2 := by omega
          have ec2 : (cap : Int) - (k : Int) = (c2 : Int) := by omega
          have hkc : (k : Int) ≤ (n : Int) := by omega
          have HL2 : Hid (l2 + k = n) := hl2
          clear OQ A1 O1 G1 hx hp HX HP hl2 hc2 hlv O2
          go_wp2
          go_loopg [5, 7] n (fun g2 v5 v7 wr2 => ∃ (kk k2 : Nat) (D : List Nat), v5 = .int .i64 kk ∧ v7 = .int .i64 k2 ∧ 1 ≤ k2 ∧ k2 ≤ l2 ∧ kk < k + k2 ∧ n - (k + k2) ≤ g2 ∧ Hid (D.length = kk) ∧ Hid (CpB smF L D (k + k2)) ∧ Hid (OG (Value.float .f64) B 48 wr2 (.slice (some ⟨g, 0, none⟩) n cap) (D ++ L.drop kk)) ∧ Hid (w.grownBy wr2 (some g)))
          case atStart => exact ⟨k, 1, L.take k, rfl, rfl, Nat.le_refl _, by have := HL2.out; omega, by omega, by omega, HD, A2, O3, G2⟩
          case round =>
            clear A2 O3 G2 HD
            obtain ⟨kk, k2, D, rfl, rfl, h21, h22, hkk, hg2, HD, A2, O3, G2⟩ := hrel
            have hkl := HL2.out
            by_cases hlt2 : k2 < l2
            · have hlt2z : (k2 : Int) < (l2 : Int) := by omega
              obtain ⟨u, hu⟩ : ∃ x, L[k + k2]? = some x := ⟨_, List.getElem?_eq_getElem (by rw [HN.out]; omega)⟩
              obtain ⟨q, hq⟩ : ∃ p, L[k + k2 - 1]? = some p := ⟨_, List.getElem?_eq_getElem (by rw [HN.out]; omega)⟩
              obtain ⟨ol, hol⟩ : ∃ x, L[kk]? = some x := ⟨_, List.getElem?_eq_getElem (by rw [HN.out]; omega)⟩
              have HU : Hid (L[k + k2]? = some u) := hu
              have HQ : Hid (L[k + k2 - 1]? = some q) := hq
              have HOL : Hid (L[kk]? = some ol) := hol
              obtain ⟨kq, hkq⟩ : ∃ q, q + 1 = k2 := ⟨k2 - 1, by omega⟩
              have ekq : (k2 : Int) - 1 = (kq : Int) := by omega
              have hkqn : kq < l2 := by omega
              have hcu : (D ++ L.drop kk)[k + k2]? = some u := by rw [List.getElem?_append_right (by rw [HD.out]; omega), HD.out, List.getElem?_drop, ← hu]; congr 1; omega
              have hcq : (D ++ L.drop kk)[k + kq]? = some q := by rw [List.getElem?_append_right (by rw [HD.out]; omega), HD.out, List.getElem?_drop, ← hq]; congr 1; omega
              have hck : (D ++ L.drop kk)[kk]? = some ol := by rw [List.getElem?_append_right (by rw [HD.out]; omega), HD.out, List.getElem?_drop, ← hol]; congr 1; omega
              have HCK : Hid ((D ++ L.drop kk)[kk]? = some ol) := hck
              have HCU : Hid ((D ++ L.drop kk)[k + k2]? = some u) := hcu
              have HLC : Hid ((D ++ L.drop kk).length = n) := by show _ = _; rw [List.length_append, List.length_drop, HD.out, HN.out]; omega
              have hkkn : kk < n := by omega
              have hk2n : k + k2 < n := by omega
              obtain ⟨C, hC⟩ : ∃ C, C = D ++ L.drop kk := ⟨_, rfl⟩
              rw [← hC] at O3 hcu hcq HCK HCU HLC
              have HC : Hid (C = D ++ L.drop kk) := hC
              clear hkq hu hq hol hck hC hkl
              cases hlv : decide (cfF u q = 0) with
              | true =>
                obtain ⟨aNe10, haNe10⟩ : ∃ q, q = k2 := ⟨_, rfl⟩
                have eae10 : ((k2 : Int)).toNat = aNe10 := by omega
                have pae10 : (0 : Int) ≤ (k2 : Int) := by omega
                have bae10 : (k2 : Int) < (l2 : Int) := by omega
                have rae10 : IntKind.i64.wrap ((k2 : Int)) = (k2 : Int) := by rw [IntKind.wrap_i64]; omega
                obtain ⟨cNe10, hcNe10⟩ : ∃ q, q = kq := ⟨_, rfl⟩
                have ece10 : ((kq : Int)).toNat = cNe10 := by omega
                have pce10 : (0 : Int) ≤ (kq : Int) := by omega
                have bce10 : (kq : Int) < (l2 : Int) := by omega
                have rce10 : IntKind.i64.wrap ((kq : Int)) = (kq : Int) := by rw [IntKind.wrap_i64]; omega
                have lae10 : ∀ m os, (grow (wr.drewN m) os).cell? ⟨g, k + aNe10, none⟩ = some ((Value.float .f64) u) := by rw [haNe10]; exact O3.out.cl hcu
                have lce10 : ∀ m os, (grow (wr.drewN m) os).cell? ⟨g, k + cNe10, none⟩ = some ((Value.float .f64) q) := by rw [hcNe10]; exact O3.out.cl hcq
                have hce10 : ∀ m os, Calls Try.prog 57 (#[(Value.float .f64) u, (Value.float .f64) q] ++ #[]) (grow (wr.drewN m) os) fun e w' => e = .returned (.bool true) ∧ ∃ q os', w' = grow ((grow (wr.drewN m) os).drewN q) os' := fun m os => by
                  refine (sameF u q _).mono ?_
                  rintro e w' ⟨rfl, rfl⟩
                  exact ⟨by rw [hlv], 0, #[], by rw [grow_empty]; rfl⟩
                clear haNe10 hcNe10
                go_wp2_with fail
                go_quiet_grown (first | (go_at_fn 57; refine Calls.grown_of (hce10 _ _)))
                have OQ : Hid (OG (Value.float .f64) B 48 (grow (wr.drewN nq) osq) (.slice (some ⟨g, 0, none⟩) n cap) C ∧ wr.grownBy (grow (wr.drewN nq) osq) (some g)) := ⟨O3.out.grow nq osq, grown_grow _ _ _ _⟩
                clear lae10 lce10 hce10
                generalize grow (wr.drewN nq) osq = w2 at OQ ⊢
                clear nq osq
                clear eae10 ece10
                go_wp2
                go_roundg (n - (k + (k2 + 1)))
                case measure => have := HL2.out; omega
                case rel => exact ⟨kk, k2 + 1, D, rfl, by go_num, by omega, by omega, by omega, Nat.le_refl _, HD, A2.out.skip HU.out HQ.out hlv, by rw [← HC.out]; exact OQ.out.1, G2.out.trans OQ.out.2⟩
              | false =>
                obtain ⟨aNe11, haNe11⟩ : ∃ q, q = k2 := ⟨_, rfl⟩
                have eae11 : ((k2 : Int)).toNat = aNe11 := by omega
                have pae11 : (0 : Int) ≤ (k2 : Int) := by omega
                have bae11 : (k2 : Int) < (l2 : Int) := by omega
                have rae11 : IntKind.i64.wrap ((k2 : Int)) = (k2 : Int) := by rw [IntKind.wrap_i64]; omega
                obtain ⟨cNe11, hcNe11⟩ : ∃ q, q = kq := ⟨_, rfl⟩
                have ece11 : ((kq : Int)).toNat = cNe11 := by omega
                have pce11 : (0 : Int) ≤ (kq : Int) := by omega
                have bce11 : (kq : Int) < (l2 : Int) := by omega
                have rce11 : IntKind.i64.wrap ((kq : Int)) = (kq : Int) := by rw [IntKind.wrap_i64]; omega
                have lae11 : ∀ m os, (grow (wr.drewN m) os).cell? ⟨g, k + aNe11, none⟩ = some ((Value.float .f64) u) := by rw [haNe11]; exact O3.out.cl hcu
                have lce11 : ∀ m os, (grow (wr.drewN m) os).cell? ⟨g, k + cNe11, none⟩ = some ((Value.float .f64) q) := by rw [hcNe11]; exact O3.out.cl hcq
                have hce11 : ∀ m os, Calls Try.prog 57 (#[(Value.float .f64) u, (Value.float .f64) q] ++ #[]) (grow (wr.drewN m) os) fun e w' => e = .returned (.bool false) ∧ ∃ q os', w' = grow ((grow (wr.drewN m) os).drewN q) os' := fun m os => by
                  refine (sameF u q _).mono ?_
                  rintro e w' ⟨rfl, rfl⟩
                  exact ⟨by rw [hlv], 0, #[], by rw [grow_empty]; rfl⟩
                clear haNe11 hcNe11
                go_wp2_with fail
                go_quiet_grown (first | (go_at_fn 57; refine Calls.grown_of (hce11 _ _)))
                have OQ : Hid (OG (Value.float .f64) B 48 (grow (wr.drewN nq) osq) (.slice (some ⟨g, 0, none⟩) n cap) C ∧ wr.grownBy (grow (wr.drewN nq) osq) (some g)) := ⟨O3.out.grow nq osq, grown_grow _ _ _ _⟩
                clear lae11 lce11 hce11
                generalize grow (wr.drewN nq) osq = w2 at OQ ⊢
                clear nq osq
                clear eae11 ece11
                have c1 := (OQ.out.1.cell HCU.out).1
                have c2_ := (OQ.out.1.cell HCK.out).1
                have f2_ := (OQ.out.1.cell HCK.out).2
                obtain ⟨O4, G4⟩ := OQ.out.1.set HLC.out kk u
                have O4' : Hid (OG (Value.float .f64) B 48 (w2.setCell ⟨g, kk, none⟩ ((Value.float .f64) u)) (.slice (some ⟨g, 0, none⟩) n cap) ((D ++ [u]) ++ L.drop (kk + 1))) := by rw [HC.out, put_at HD.out HOL.out] at O4; exact O4
                have G4' : Hid (w.grownBy (w2.setCell ⟨g, kk, none⟩ ((Value.float .f64) u)) (some g)) := (G2.out.trans OQ.out.2).trans G4
                clear O4 G4
                have hkkz : (kk : Int) < (n : Int) := by omega
                have hk2z : (k2 : Int) < (l2 : Int) := hlt2z
                go_wp2
                go_roundg (n - (k + (k2 + 1)))
                case measure => have := HL2.out; omega
                case rel => exact ⟨kk + 1, k2 + 1, D ++ [u], by go_num, by go_num, by omega, by omega, by omega, Nat.le_refl _, by show _ = _; rw [List.length_append, HD.out]; rfl, A2.out.keep HU.out HQ.out hlv, O4', G4'⟩
            · have hlt2z : ¬ (k2 : Int) < (l2 : Int) := by omega
              have hDE : Hid (cpt smF L = D) := A2.out.done (by rw [HN.out]; omega)
              have HLC : (D ++ L.drop kk).length = n := by rw [List.length_append, List.length_drop, HD.out, HN.out]; omega
              have hgr := fun j (hj : j < n) => O3.out.cell (i := j) (List.getElem?_eq_getElem (by rw [HLC]; exact hj))
              obtain ⟨C', s1, s2, s3, s4⟩ := O3.out.sets (0 : Nat) (n - kk) kk HLC
              have hcl : ∀ ty, (Builtin.clear_ #[47] ty #[.slice (some ⟨g, kk, none⟩) (n - kk) (cap - kk)]).run Try.prog wr = .ok (.tuple #[]) (wr.setCells g kk (List.replicate (n - kk) (.float .f64 0))) :=
                fun ty => Lib.run_clear_slice wr _ _ ty _ Try.underlying47 Try.zeroValue48 rfl rfl g kk _ _ (by omega) (fun j hj => by rw [(hgr (kk + j) (by omega)).1]; rfl) (fun j hj => (hgr (kk + j) (by omega)).2)
              have HS : Hid (OG (Value.float .f64) B 48 (wr.setCells g kk (List.replicate (n - kk) (.float .f64 0))) (.slice (some ⟨g, 0, none⟩) kk cap) D ∧ w.grownBy (wr.setCells g kk (List.replicate (n - kk) (.float .f64 0))) (some g)) := by
                refine ⟨?_, G2.out.trans s4⟩
                have := s1.cut (m := kk) (by omega)
                rw [s3, List.take_left' HD.out] at this
                exact this
              generalize wr.setCells g kk (List.replicate (n - kk) (.float .f64 0)) = w9 at hcl HS s1 s4
              obtain ⟨l9, hl9⟩ : ∃ q, q = n - kk := ⟨_, rfl⟩
              obtain ⟨c9, hc9⟩ : ∃ q, q = cap - kk := ⟨_, rfl⟩
              have el9 : (n : Int) - (kk : Int) = (l9 : Int) := by omega
              have ec9 : (cap : Int) - (kk : Int) = (c9 : Int) := by omega
              rw [← hl9, ← hc9] at hcl
              have el9' := hl9.symm
              have ec9' := hc9.symm
              have hkkz : (kk : Int) ≤ (n : Int) := by omega
              have hkkc : (kk : Int) ≤ (cap : Int) := by omega
              clear hgr s1 s2 s3 s4 HLC hkl A2 O3 G2 hl9 hc9
              go_wp2
              go_ret
              exact ⟨_, rfl, by rw [hDE.out]; exact HS.out.1, HS.out.2⟩
        | false =>
          obtain ⟨aNe12, haNe12⟩ : ∃ q, q = k := ⟨_, rfl⟩
          have eae12 : ((k : Int)).toNat = aNe12 := by omega
          have pae12 : (0 : Int) ≤ (k : Int) := by omega
          have bae12 : (k : Int) < (n : Int) := by omega
          have rae12 : IntKind.i64.wrap ((k : Int)) = (k : Int) := by rw [IntKind.wrap_i64]; omega
          obtain ⟨cNe12, hcNe12⟩ : ∃ q, q = kp := ⟨_, rfl⟩
          have ece12 : ((kp : Int)).toNat = cNe12 := by omega
          have pce12 : (0 : Int) ≤ (kp : Int) := by omega
          have bce12 : (kp : Int) < (n : Int) := by omega
          have rce12 : IntKind.i64.wrap ((kp : Int)) = (kp : Int) := by rw [IntKind.wrap_i64]; omega
          have lae12 : ∀ m os, (grow (wr.drewN m) os).cell? ⟨g, aNe12, none⟩ = some ((Value.float .f64) x) := by rw [haNe12]; exact O1.out.cl hx
          have lce12 : ∀ m os, (grow (wr.drewN m) os).cell? ⟨g, cNe12, none⟩ = some ((Value.float .f64) p) := by rw [hcNe12]; exact O1.out.cl hp
          have hce12 : ∀ m os, Calls Try.prog 57 (#[(Value.float .f64) x, (Value.float .f64) p] ++ #[]) (grow (wr.drewN m) os) fun e w' => e = .returned (.bool false) ∧ ∃ q os', w' = grow ((grow (wr.drewN m) os).drewN q) os' := fun m os => by
            refine (sameF x p _).mono ?_
            rintro e w' ⟨rfl, rfl⟩
            exact ⟨by rw [hlv], 0, #[], by rw [grow_empty]; rfl⟩
          clear haNe12 hcNe12
          go_wp2_with fail
          go_quiet_grown (first | (go_at_fn 57; refine Calls.grown_of (hce12 _ _)))
          have OQ : Hid (OG (Value.float .f64) B 48 (grow (wr.drewN nq) osq) (.slice (some ⟨g, 0, none⟩) n cap) L ∧ wr.grownBy (grow (wr.drewN nq) osq) (some g)) := ⟨O1.out.grow nq osq, grown_grow _ _ _ _⟩
          clear lae12 lce12 hce12
          generalize grow (wr.drewN nq) osq = w2 at OQ ⊢
          clear nq osq
          clear eae12 ece12
          go_wp2
          go_roundg (n - (k + 1))
          case measure => omega
          case rel => exact ⟨k + 1, by go_num, by omega, by omega, Nat.le_refl _, A1.out.next HX.out HP.out hlv, OQ.out.1, G1.out.trans OQ.out.2⟩
      · have hltz : ¬ (k : Int) < (n : Int) := by omega
        have HE : Hid (OG (Value.float .f64) B 48 wr (.slice (some ⟨g, 0, none⟩) n cap) (cpt smF L)) := by rw [A1.out.all (by rw [HN.out]; omega)]; exact O1
        clear A1 O1
        go_wp2
        go_ret
        exact ⟨_, rfl, HE.out, G1.out⟩
end Go.Proofs.Ytknibmehbplpbaa

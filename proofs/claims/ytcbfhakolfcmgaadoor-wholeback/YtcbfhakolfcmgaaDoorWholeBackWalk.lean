/-
  Proved here: WholeBack of any number and any int returns true, and writes nothing that was there.
-/
import Derived.Test.YtcbfhakolfcmgaaDoorStrMath
import Derived.Test.YtcbfhakolfcmgaaDoorWholeSize
namespace Go.Proofs.YtcbfhakolfcmgaaDoor
open Go.RowKit

theorem nz_int {x : Nat} (h : 0 < x) : ((x : Int) == 0) = false := by
  have h1 : ¬ (x : Int) = 0 := by omega
  simpa using h1
theorem ne48 {c : Nat} (h : ¬ c = 48) : ((c : Int) == 48) = false := by
  have h1 : ¬ (c : Int) = 48 := by omega
  simpa using h1
theorem cmp_np {z : Int} (h : z ≤ 0) : cmpZ z 0 ≤ 0 := by unfold cmpZ; repeat' split; all_goals omega
theorem zt_neg {A : Int} (h : A < 0) : zt A = ⟨#[45]⟩ ++ txt A.natAbs := by unfold zt ztxt; rw [if_pos ⟨decide_eq_true h, by omega⟩]
theorem zt_pos {A : Int} (h : ¬ A < 0) : zt A = txt A.natAbs := by unfold zt ztxt; rw [if_neg (fun k => by have := of_decide_eq_true k.1; omega)]
theorem s_ext1 (t : ByteArray) : (⟨#[45]⟩ ++ t : ByteArray).extract 1 (⟨#[45]⟩ ++ t : ByteArray).size = t := by
  have h := strk_minus t
  have h2 := h.2
  unfold tail at h2
  rw [if_pos h.1] at h2
  exact h2
theorem s_ext0 (t : ByteArray) : (⟨#[45]⟩ ++ t : ByteArray).extract 0 1 = ⟨#[45]⟩ := by apply s_ext; rw [extract_list, s_app]; simp
theorem s_ext00 (t : ByteArray) : t.extract 0 0 = ⟨#[]⟩ := by apply s_ext; rw [extract_list]; simp
theorem s_assoc (a b c : ByteArray) : a ++ b ++ c = a ++ (b ++ c) := by apply s_ext; rw [s_app, s_app, s_app, s_app, List.append_assoc]
theorem s_nil (b : ByteArray) : (⟨#[]⟩ : ByteArray) ++ b = b := by apply s_ext; rw [s_app]; rfl

set_option maxRecDepth 100000 in
set_option maxHeartbeats 12800000 in
theorem wholeBack_top (na : Bool) (ao : Option Addr) (al ac : Nat) (xa : List Nat) (k : Int) (w1 : World) (ua : Num w1 (.slice ao al ac) xa) (_hk : (Lit.int .i64 k).wf = true) :
    Calls Tryd.prog 4 #[.agg #[.bool na, .slice ao al ac], .int .i64 k] w1 fun e w' => e = .returned (.bool true) ∧ Below w1.heap.size w1 w' := by
  obtain ⟨W1, hW1⟩ : ∃ W1, W1 = w1.alloc (.cells #[.bool na, .slice ao al ac] 25) := ⟨_, rfl⟩
  have q0 : ICell W1 (w1.heap.size) na (.slice ao al ac) := by rw [hW1]; exact (icell_new _ (by simp))
  have hb : Below w1.heap.size w1 W1 := by rw [hW1]; exact belowA w1 _
  replace ua := ua.below (Nat.le_refl _) hb
  have HW1 : Hid (W1 = w1.alloc (.cells #[.bool na, .slice ao al ac] 25)) := hW1
  clear hW1
  obtain ⟨g, hg⟩ : ∃ g, g = w1.heap.size := ⟨_, rfl⟩
  rw [← hg] at q0
  have HG : Hid (g = w1.heap.size) := hg
  go_enter Tryd.func4, Tryd.ntmps4
  go_wp2_with fail
  rw [← HW1.out, ← hg]
  clear HW1 hg
  refine (walive_yes _).mono ?_
  rintro e w2 ⟨rfl, b⟩
  replace q0 := q0.below b
  replace hb := bstep hb b
  replace ua := ua.below (Nat.le_refl _) b
  clear b
  obtain ⟨c0, d0⟩ := q0.cells
  go_wp2_with fail
  refine (lbig_any _ _ _ _ _).mono ?_
  rintro e w3 ⟨rfl, b⟩
  clear c0 d0
  replace q0 := q0.below b
  replace hb := bstep hb b
  replace ua := ua.below (Nat.le_refl _) b
  clear b
  by_cases ta : 30 < al
  · rw [decide_eq_true ta]
    have HE : Hid (Below w1.heap.size w1 w3) := hb
    clear hb ua q0
    go_wp2_with fail
    go_ret
    exact ⟨rfl, HE.out⟩
  rw [decide_eq_false ta]
  obtain ⟨ia, sa⟩ := few (n := na) ua ta
  clear ua ta
  obtain ⟨A, hA⟩ : ∃ z, z = zv na (val xa) := ⟨_, rfl⟩
  rw [← hA] at ia sa
  clear hA
  obtain ⟨N, hN15, hN⟩ := and15 k
  have sl := sa.len
  obtain ⟨n, hn⟩ : ∃ n, n = A.natAbs := ⟨_, rfl⟩
  rw [← hn] at sl
  obtain ⟨t, ht⟩ : ∃ t, t = txt n := ⟨_, rfl⟩
  have HD : Hid (DigOk t ∧ 0 < t.size) := by rw [ht]; exact x_dig n
  have HV : Hid (bval (dgs t) = n) := by rw [ht]; exact x_val n
  have hts : t.size ≤ 961 := by rw [ht]; exact txt_short sl
  have ht0 : 0 < t.size := HD.out.2
  have HF : Hid (1 < t.size → bt t 0 ≠ 48) := by rw [ht]; exact x_first
  have HZD : Hid (DigOk (zrs N ++ t) ∧ 0 < (zrs N ++ t).size) := by rw [ht]; exact zx_dig N n
  have HZV : Hid (bval (dgs (zrs N ++ t)) = n) := by rw [ht]; exact zx_val N n
  have HZN : Hid (t = txt A.natAbs) := by show _ = _; rw [ht, hn]
  have HN : Hid (n = A.natAbs) := hn
  clear hn ht sl
  have ht0b : ((t.size : Int) == 0) = false := nz_int ht0
  by_cases hA : A < 0
  · have HS0 : Hid (zt A = ⟨#[45]⟩ ++ t) := by show _ = _; rw [HZN.out]; exact zt_neg hA
    obtain ⟨S, hS⟩ : ∃ S, ⟨#[45]⟩ ++ t = S := ⟨_, rfl⟩
    have hSs : S.size = t.size + 1 := by rw [← hS, ByteArray.size_append]; show 1 + t.size = _; omega
    have hx1 : S.extract 1 (t.size + 1) = t := by rw [← hSs, ← hS]; exact s_ext1 t
    have hx0 : S.extract 0 1 = ⟨#[45]⟩ := by rw [← hS]; exact s_ext0 t
    have HZA : Hid (zv true n = A) := by show _ = _; rw [HN.out]; unfold zv; simp; omega
    have HST : Hid (strk S = true ∧ tail S = t) := by rw [← hS]; exact strk_minus t
    obtain ⟨M, hM⟩ : ∃ M : ByteArray, M = ⟨#[45]⟩ := ⟨_, rfl⟩
    have HM : Hid (M = ⟨#[45]⟩) := hM
    have hMs : M.size = 1 := by rw [hM]; rfl
    rw [← hM] at hx0
    clear hM
    obtain ⟨ZN, hZN⟩ : ∃ Z, zrs N = Z := ⟨_, rfl⟩
    have hZs : ZN.size = N := by rw [← hZN, zrs_size]
    obtain ⟨M2, hM2⟩ : ∃ U, M ++ ZN = U := ⟨_, rfl⟩
    obtain ⟨U, hU⟩ : ∃ U, M2 ++ t = U := ⟨_, rfl⟩
    have hM2s : M2.size = M.size + N := by rw [← hM2, ByteArray.size_append, hZs]
    have hUs : U.size = M2.size + t.size := by rw [← hU, ByteArray.size_append]
    have HU : Hid (strk U = true ∧ tail U = zrs N ++ t) := by
      rw [← hU, ← hM2, HM.out, s_assoc, hZN]
      exact strk_minus _
    have hD : ⟨#[45]⟩ ++ t = S := hS
    clear hS
    obtain ⟨F, hF⟩ : ∃ F, ⟨#[43]⟩ ++ S = F := ⟨_, rfl⟩
    have hFs : F.size = S.size + 1 := by rw [← hF, ByteArray.size_append]; show 1 + S.size = _; omega
    have HFP : Hid (⟨#[43]⟩ ++ S = F) := hF
    have HZN2 : Hid (zrs N = ZN) := hZN
    clear hZN
    obtain ⟨q0c, q0d⟩ := q0.cells
    go_wp2_with fail
    clear q0c q0d
    refine (c_text ia).mono ?_
    rw [HS0.out, hD]
    rintro e w10 ⟨rfl, b⟩
    replace ia := ia.below b
    replace q0 := q0.below b
    replace hb := bstep hb b
    clear b
    obtain ⟨q0c, q0d⟩ := q0.cells
    go_wp2_with fail
    clear q0c q0d
    refine (c_sign ia).mono ?_
    rw [cmpZ_lt hA]
    rintro e w11 ⟨rfl, b⟩
    replace ia := ia.below b
    replace q0 := q0.below b
    replace hb := bstep hb b
    clear b
    go_wp2_with fail
    go_loop [8, 9] (fun mv iv => ∃ i : Nat, i ≤ N ∧ mv = .string (zrs i) ∧ iv = .int .i64 (i : Int)) (fun _ iv => N - (intOf iv).toNat)
    case atStart => exact ⟨0, Nat.zero_le _, rfl, rfl⟩
    case round =>
      obtain ⟨i, hi, rfl, rfl⟩ := hrel
      by_cases hlt : i < N
      · have hlt2 : (i : Int) < (N : Int) := by omega
        have HZS : Hid (zrs i ++ ⟨#[48]⟩ = zrs (i + 1)) := zrs_succ i
        have hzi := zrs_size i
        obtain ⟨Z2, hZ2⟩ : ∃ Z, Z = zrs (i + 1) := ⟨_, rfl⟩
        have HZ2 : Hid (Z2 = zrs (i + 1)) := hZ2
        have hst : zrs i ++ ⟨#[48]⟩ = Z2 := by rw [hZ2]; exact HZS.out
        clear hZ2
        generalize zrs i = ZI at *
        clear hlt
        go_wp2_with fail
        go_round
        case rel => exact ⟨i + 1, by omega, by rw [HZ2.out], by go_num⟩
        case measure => simp [intOf]; omega
      · have hiN : i = N := by omega
        subst hiN
        rw [HZN2.out]
        have hlt2 : ¬ (i : Int) < (i : Int) := by omega
        clear hlt hi
        go_wp2_with fail
        refine (parse_of (z := A) HST.out.1 HST.out.2 HD.out (by rw [HV.out]; exact HZA.out) (by omega) _).mono ?_
        rintro e w12 ⟨v, rfl, hv, b⟩
        obtain ⟨bn, bo, bl, bc, rfl, ib⟩ := hv.see sa (by decide)
        clear hv
        replace ia := ia.below b
        replace q0 := q0.below b
        replace hb := bstep hb b
        clear b
        obtain ⟨W13, hW13⟩ : ∃ W, W = w12.alloc (.cells #[.bool bn, .slice bo bl bc] 25) := ⟨_, rfl⟩
        have p1 : ICell W13 w12.heap.size bn (.slice bo bl bc) := by rw [hW13]; exact icell_new _ rfl
        have b : Below w12.heap.size w12 W13 := by rw [hW13]; exact belowA _ _
        replace ia := ia.below b
        replace ib := ib.below b
        replace q0 := q0.below b
        replace hb := bstep hb b
        clear b
        obtain ⟨v1, hv1⟩ : ∃ v, v = w12.heap.size := ⟨_, rfl⟩
        rw [← hv1] at p1
        have HW13 : Hid (W13 = w12.alloc (.cells #[.bool bn, .slice bo bl bc] 25)) := hW13
        have Hv1 : Hid (v1 = w12.heap.size) := hv1
        clear hW13 hv1
        go_wp2_with fail
        rw [← HW13.out, ← Hv1.out]
        clear HW13 Hv1
        refine (parse_of (z := A) HU.out.1 HU.out.2 HZD.out (by rw [HZV.out]; exact HZA.out) (by omega) _).mono ?_
        rintro e w14 ⟨v, rfl, hv, b⟩
        obtain ⟨cn, co, cl, cc, rfl, ic⟩ := hv.see sa (by decide)
        clear hv
        replace ia := ia.below b
        replace ib := ib.below b
        replace q0 := q0.below b
        replace p1 := p1.below b
        replace hb := bstep hb b
        clear b
        obtain ⟨W15, hW15⟩ : ∃ W, W = w14.alloc (.cells #[.bool cn, .slice co cl cc] 25) := ⟨_, rfl⟩
        have p2 : ICell W15 w14.heap.size cn (.slice co cl cc) := by rw [hW15]; exact icell_new _ rfl
        have b : Below w14.heap.size w14 W15 := by rw [hW15]; exact belowA _ _
        replace ia := ia.below b
        replace ib := ib.below b
        replace ic := ic.below b
        replace q0 := q0.below b
        replace p1 := p1.below b
        replace hb := bstep hb b
        clear b
        obtain ⟨v2, hv2⟩ : ∃ v, v = w14.heap.size := ⟨_, rfl⟩
        rw [← hv2] at p2
        have HW15 : Hid (W15 = w14.alloc (.cells #[.bool cn, .slice co cl cc] 25)) := hW15
        have Hv2 : Hid (v2 = w14.heap.size) := hv2
        clear hW15 hv2
        go_wp2_with fail
        rw [← HW15.out, ← Hv2.out]
        clear HW15 Hv2
        obtain ⟨E, hE⟩ : ∃ E, E = zv true n := ⟨_, rfl⟩
        have HE0 : Hid (E = zv true n) := hE
        have sE : Sz E 30 := ⟨by rw [hE, zv_abs, HN.out]; exact sa.lt⟩
        have hEl : E ≤ 0 := by rw [hE]; unfold zv; simp
        have HEA : Hid ((E.natAbs : Int) = (A.natAbs : Int)) := by show _ = _; rw [hE, zv_abs, HN.out]
        clear hE
        refine (parse_of (z := E) HST.out.1 HST.out.2 HD.out (by rw [HV.out]; exact HE0.out.symm) (by omega) _).mono ?_
        rintro e w16 ⟨v, rfl, hv, b⟩
        obtain ⟨dn, do_, dl, dc, rfl, id_⟩ := hv.see sE (by decide)
        clear hv
        replace ia := ia.below b
        replace ib := ib.below b
        replace ic := ic.below b
        replace q0 := q0.below b
        replace p1 := p1.below b
        replace p2 := p2.below b
        replace hb := bstep hb b
        clear b
        obtain ⟨W17, hW17⟩ : ∃ W, W = w16.alloc (.cells #[.bool dn, .slice do_ dl dc] 25) := ⟨_, rfl⟩
        have p3 : ICell W17 w16.heap.size dn (.slice do_ dl dc) := by rw [hW17]; exact icell_new _ rfl
        have b : Below w16.heap.size w16 W17 := by rw [hW17]; exact belowA _ _
        replace ia := ia.below b
        replace ib := ib.below b
        replace ic := ic.below b
        replace id_ := id_.below b
        replace q0 := q0.below b
        replace p1 := p1.below b
        replace p2 := p2.below b
        replace hb := bstep hb b
        clear b
        obtain ⟨v3, hv3⟩ : ∃ v, v = w16.heap.size := ⟨_, rfl⟩
        rw [← hv3] at p3
        have HW17 : Hid (W17 = w16.alloc (.cells #[.bool dn, .slice do_ dl dc] 25)) := hW17
        have Hv3 : Hid (v3 = w16.heap.size) := hv3
        clear hW17 hv3
        go_wp2_with fail
        rw [← HW17.out, ← Hv3.out]
        clear HW17 Hv3
        have hp := parse_plus (s := S) (by rw [HFP.out]; omega) W17
        rw [HFP.out] at hp
        refine hp.mono ?_
        rintro e w18 ⟨rfl, b⟩
        clear hp
        replace ia := ia.below b
        replace ib := ib.below b
        replace ic := ic.below b
        replace id_ := id_.below b
        replace q0 := q0.below b
        replace p1 := p1.below b
        replace p2 := p2.below b
        replace p3 := p3.below b
        replace hb := bstep hb b
        clear b
        obtain ⟨W19, hW19⟩ : ∃ W, W = w18.alloc (.cells #[.bool false, .slice none 0 0] 25) := ⟨_, rfl⟩
        have b : Below w18.heap.size w18 W19 := by rw [hW19]; exact belowA _ _
        replace ia := ia.below b
        replace ib := ib.below b
        replace ic := ic.below b
        replace id_ := id_.below b
        replace q0 := q0.below b
        replace p1 := p1.below b
        replace p2 := p2.below b
        replace p3 := p3.below b
        replace hb := bstep hb b
        clear b
        have HW19 : Hid (W19 = w18.alloc (.cells #[.bool false, .slice none 0 0] 25)) := hW19
        clear hW19
        by_cases h1 : 1 < t.size
        · have hgt := bt_get (s := t) (i := 0) ht0
          obtain ⟨ch, hch⟩ : ∃ c, c = bt t 0 := ⟨_, rfl⟩
          have hc48 : ¬ ch = 48 := by rw [hch]; exact HF.out h1
          rw [← hch] at hgt
          have h1i : (1 : Int) < (t.size : Int) := by omega
          have hc48i : ((ch : Int) == 48) = false := ne48 hc48
          clear hch h1
          go_wp2_with fail
          rw [← HW19.out]
          clear HW19
          obtain ⟨cd, hcd⟩ : ∃ c, c = cmpZ E 0 := ⟨_, rfl⟩
          have HCD : Hid (cmpZ E 0 = cd) := hcd.symm
          have hcd0 : cd ≤ 0 := by rw [hcd]; exact cmp_np hEl
          clear hcd
          have Hb35 : Hid (decide ((E.natAbs : Int) = (A.natAbs : Int)) = true) := decide_eq_true (HEA.out)
          refine region_late [(2, fun w' => w'.cell? ⟨g, 0, none⟩ = some (.bool na) ∧ w'.cell? ⟨g, 1, none⟩ = some (.slice ao al ac)), (3, fun w' => w'.cell? ⟨v1, 0, none⟩ = some (.bool bn) ∧ w'.cell? ⟨v1, 1, none⟩ = some (.slice bo bl bc)), (7, fun w' => w'.cell? ⟨g, 0, none⟩ = some (.bool na) ∧ w'.cell? ⟨g, 1, none⟩ = some (.slice ao al ac)), (8, fun w' => w'.cell? ⟨v2, 0, none⟩ = some (.bool cn) ∧ w'.cell? ⟨v2, 1, none⟩ = some (.slice co cl cc)), (12, fun w' => w'.cell? ⟨v3, 0, none⟩ = some (.bool dn) ∧ w'.cell? ⟨v3, 1, none⟩ = some (.slice do_ dl dc)), (14, fun w' => w'.cell? ⟨g, 0, none⟩ = some (.bool na) ∧ w'.cell? ⟨g, 1, none⟩ = some (.slice ao al ac)), (19, fun w' => w'.cell? ⟨v3, 0, none⟩ = some (.bool dn) ∧ w'.cell? ⟨v3, 1, none⟩ = some (.slice do_ dl dc))] (by kernel_rfl) ?_
          have hHeld : AllL W19.drew [(2, fun w' => w'.cell? ⟨g, 0, none⟩ = some (.bool na) ∧ w'.cell? ⟨g, 1, none⟩ = some (.slice ao al ac)), (3, fun w' => w'.cell? ⟨v1, 0, none⟩ = some (.bool bn) ∧ w'.cell? ⟨v1, 1, none⟩ = some (.slice bo bl bc)), (7, fun w' => w'.cell? ⟨g, 0, none⟩ = some (.bool na) ∧ w'.cell? ⟨g, 1, none⟩ = some (.slice ao al ac)), (8, fun w' => w'.cell? ⟨v2, 0, none⟩ = some (.bool cn) ∧ w'.cell? ⟨v2, 1, none⟩ = some (.slice co cl cc)), (12, fun w' => w'.cell? ⟨v3, 0, none⟩ = some (.bool dn) ∧ w'.cell? ⟨v3, 1, none⟩ = some (.slice do_ dl dc)), (14, fun w' => w'.cell? ⟨g, 0, none⟩ = some (.bool na) ∧ w'.cell? ⟨g, 1, none⟩ = some (.slice ao al ac)), (19, fun w' => w'.cell? ⟨v3, 0, none⟩ = some (.bool dn) ∧ w'.cell? ⟨v3, 1, none⟩ = some (.slice do_ dl dc))] := ⟨(show ICell W19.drew (g) na (.slice ao al ac) from q0).cells, (show ICell W19.drew (v1) bn (.slice bo bl bc) from p1).cells, (show ICell W19.drew (g) na (.slice ao al ac) from q0).cells, (show ICell W19.drew (v2) cn (.slice co cl cc) from p2).cells, (show ICell W19.drew (v3) dn (.slice do_ dl dc) from p3).cells, (show ICell W19.drew (g) na (.slice ao al ac) from q0).cells, (show ICell W19.drew (v3) dn (.slice do_ dl dc) from p3).cells, trivial⟩
          refine late_free 0 (v := .bool true) rfl (by kernel_rfl) (by kernel_rfl) (by kernel_rfl) (by kernel_rfl) (by kernel_rfl) (by kernel_rfl) (fun _ _ _ h => h) (Or.inl ⟨by rfl, ?_⟩) hHeld ?_
          · (intro u _; go_simp)
          (try simp only [Act.put, List.setIfInBounds_toArray, List.set_cons_zero, List.set_cons_succ])
          refine late_free 1 (v := .bool true) rfl (by kernel_rfl) (by kernel_rfl) (by kernel_rfl) (by kernel_rfl) (by kernel_rfl) (by kernel_rfl) (fun _ _ _ h => h) (Or.inl ⟨by rfl, ?_⟩) hHeld ?_
          · (intro u _; go_simp)
          (try simp only [Act.put, List.setIfInBounds_toArray, List.set_cons_zero, List.set_cons_succ])
          refine late_take 2 (v := .agg #[.bool na, .slice ao al ac]) rfl (by kernel_rfl) (List.Mem.head _) (by kernel_rfl) (by kernel_rfl) (by kernel_rfl) (by kernel_rfl) (fun _ _ _ h => h) (Or.inl ⟨by rfl, ?_⟩) hHeld ?_
          · (intro u hu; (try dsimp only at hu); go_split_ands; go_simp)
          (try simp only [Act.put, List.setIfInBounds_toArray, List.set_cons_zero, List.set_cons_succ])
          refine late_take 3 (v := .agg #[.bool bn, .slice bo bl bc]) rfl (by kernel_rfl) (List.Mem.tail _ (List.Mem.head _)) (by kernel_rfl) (by kernel_rfl) (by kernel_rfl) (by kernel_rfl) (fun _ _ _ h => h) (Or.inl ⟨by rfl, ?_⟩) hHeld ?_
          · (intro u hu; (try dsimp only at hu); go_split_ands; go_simp)
          (try simp only [Act.put, List.setIfInBounds_toArray, List.set_cons_zero, List.set_cons_succ])
          refine late_step 4 (by kernel_rfl) rfl (fun K hK => ?_)
          go_simp
          refine (lequal_any (ia.below (below_drew' _)) (ib.below (below_drew' _))).mono ?_
          rw [show decide (A = A) = true from decide_eq_true rfl]
          rintro e w31 ⟨rfl, b31⟩
          have B31 : Below W19.heap.size W19 w31 := bstep (below_drew' _) b31
          clear hHeld
          have hHeld : AllL w31 [(2, fun w' => w'.cell? ⟨g, 0, none⟩ = some (.bool na) ∧ w'.cell? ⟨g, 1, none⟩ = some (.slice ao al ac)), (3, fun w' => w'.cell? ⟨v1, 0, none⟩ = some (.bool bn) ∧ w'.cell? ⟨v1, 1, none⟩ = some (.slice bo bl bc)), (7, fun w' => w'.cell? ⟨g, 0, none⟩ = some (.bool na) ∧ w'.cell? ⟨g, 1, none⟩ = some (.slice ao al ac)), (8, fun w' => w'.cell? ⟨v2, 0, none⟩ = some (.bool cn) ∧ w'.cell? ⟨v2, 1, none⟩ = some (.slice co cl cc)), (12, fun w' => w'.cell? ⟨v3, 0, none⟩ = some (.bool dn) ∧ w'.cell? ⟨v3, 1, none⟩ = some (.slice do_ dl dc)), (14, fun w' => w'.cell? ⟨g, 0, none⟩ = some (.bool na) ∧ w'.cell? ⟨g, 1, none⟩ = some (.slice ao al ac)), (19, fun w' => w'.cell? ⟨v3, 0, none⟩ = some (.bool dn) ∧ w'.cell? ⟨v3, 1, none⟩ = some (.slice do_ dl dc))] := ⟨(q0.below B31).cells, (p1.below B31).cells, (q0.below B31).cells, (p2.below B31).cells, (p3.below B31).cells, (q0.below B31).cells, (p3.below B31).cells, trivial⟩
          go_wp2_with fail
          refine hK.out _ _ (AllL.kept hHeld) ?_
          clear hK K
          (try simp only [Act.put, List.setIfInBounds_toArray, List.set_cons_zero, List.set_cons_succ])
          refine late_free 5 (v := .bool true) rfl (by kernel_rfl) (by kernel_rfl) (by kernel_rfl) (by kernel_rfl) (by kernel_rfl) (by kernel_rfl) (fun _ _ _ h => h) (Or.inl ⟨by rfl, ?_⟩) hHeld ?_
          · (intro u _; go_simp)
          (try simp only [Act.put, List.setIfInBounds_toArray, List.set_cons_zero, List.set_cons_succ])
          refine late_free 6 (v := .bool true) rfl (by kernel_rfl) (by kernel_rfl) (by kernel_rfl) (by kernel_rfl) (by kernel_rfl) (by kernel_rfl) (fun _ _ _ h => h) (Or.inl ⟨by rfl, ?_⟩) hHeld ?_
          · (intro u _; go_simp)
          (try simp only [Act.put, List.setIfInBounds_toArray, List.set_cons_zero, List.set_cons_succ])
          refine late_take 7 (v := .agg #[.bool na, .slice ao al ac]) rfl (by kernel_rfl) (List.Mem.tail _ (List.Mem.tail _ (List.Mem.head _))) (by kernel_rfl) (by kernel_rfl) (by kernel_rfl) (by kernel_rfl) (fun _ _ _ h => h) (Or.inl ⟨by rfl, ?_⟩) hHeld ?_
          · (intro u hu; (try dsimp only at hu); go_split_ands; go_simp)
          (try simp only [Act.put, List.setIfInBounds_toArray, List.set_cons_zero, List.set_cons_succ])
          refine late_take 8 (v := .agg #[.bool cn, .slice co cl cc]) rfl (by kernel_rfl) (List.Mem.tail _ (List.Mem.tail _ (List.Mem.tail _ (List.Mem.head _)))) (by kernel_rfl) (by kernel_rfl) (by kernel_rfl) (by kernel_rfl) (fun _ _ _ h => h) (Or.inl ⟨by rfl, ?_⟩) hHeld ?_
          · (intro u hu; (try dsimp only at hu); go_split_ands; go_simp)
          (try simp only [Act.put, List.setIfInBounds_toArray, List.set_cons_zero, List.set_cons_succ])
          refine late_step 9 (by kernel_rfl) rfl (fun K hK => ?_)
          go_simp
          refine (lequal_any ((ia.below (below_drew' _)).below b31) ((ic.below (below_drew' _)).below b31)).mono ?_
          rw [show decide (A = A) = true from decide_eq_true rfl]
          rintro e w32 ⟨rfl, b32⟩
          have B32 : Below W19.heap.size W19 w32 := bstep B31 b32
          clear hHeld
          have hHeld : AllL w32 [(2, fun w' => w'.cell? ⟨g, 0, none⟩ = some (.bool na) ∧ w'.cell? ⟨g, 1, none⟩ = some (.slice ao al ac)), (3, fun w' => w'.cell? ⟨v1, 0, none⟩ = some (.bool bn) ∧ w'.cell? ⟨v1, 1, none⟩ = some (.slice bo bl bc)), (7, fun w' => w'.cell? ⟨g, 0, none⟩ = some (.bool na) ∧ w'.cell? ⟨g, 1, none⟩ = some (.slice ao al ac)), (8, fun w' => w'.cell? ⟨v2, 0, none⟩ = some (.bool cn) ∧ w'.cell? ⟨v2, 1, none⟩ = some (.slice co cl cc)), (12, fun w' => w'.cell? ⟨v3, 0, none⟩ = some (.bool dn) ∧ w'.cell? ⟨v3, 1, none⟩ = some (.slice do_ dl dc)), (14, fun w' => w'.cell? ⟨g, 0, none⟩ = some (.bool na) ∧ w'.cell? ⟨g, 1, none⟩ = some (.slice ao al ac)), (19, fun w' => w'.cell? ⟨v3, 0, none⟩ = some (.bool dn) ∧ w'.cell? ⟨v3, 1, none⟩ = some (.slice do_ dl dc))] := ⟨(q0.below B32).cells, (p1.below B32).cells, (q0.below B32).cells, (p2.below B32).cells, (p3.below B32).cells, (q0.below B32).cells, (p3.below B32).cells, trivial⟩
          go_wp2_with fail
          refine hK.out _ _ (AllL.kept hHeld) ?_
          clear hK K
          (try simp only [Act.put, List.setIfInBounds_toArray, List.set_cons_zero, List.set_cons_succ])
          refine late_free 10 (v := .bool true) rfl (by kernel_rfl) (by kernel_rfl) (by kernel_rfl) (by kernel_rfl) (by kernel_rfl) (by kernel_rfl) (fun _ _ _ h => h) (Or.inl ⟨by rfl, ?_⟩) hHeld ?_
          · (intro u _; go_simp)
          (try simp only [Act.put, List.setIfInBounds_toArray, List.set_cons_zero, List.set_cons_succ])
          refine late_free 11 (v := .bool true) rfl (by kernel_rfl) (by kernel_rfl) (by kernel_rfl) (by kernel_rfl) (by kernel_rfl) (by kernel_rfl) (fun _ _ _ h => h) (Or.inl ⟨by rfl, ?_⟩) hHeld ?_
          · (intro u _; go_simp)
          (try simp only [Act.put, List.setIfInBounds_toArray, List.set_cons_zero, List.set_cons_succ])
          refine late_take 12 (v := .agg #[.bool dn, .slice do_ dl dc]) rfl (by kernel_rfl) (List.Mem.tail _ (List.Mem.tail _ (List.Mem.tail _ (List.Mem.tail _ (List.Mem.head _))))) (by kernel_rfl) (by kernel_rfl) (by kernel_rfl) (by kernel_rfl) (fun _ _ _ h => h) (Or.inl ⟨by rfl, ?_⟩) hHeld ?_
          · (intro u hu; (try dsimp only at hu); go_split_ands; go_simp)
          (try simp only [Act.put, List.setIfInBounds_toArray, List.set_cons_zero, List.set_cons_succ])
          refine late_take 14 (v := .agg #[.bool na, .slice ao al ac]) rfl (by kernel_rfl) (List.Mem.tail _ (List.Mem.tail _ (List.Mem.tail _ (List.Mem.tail _ (List.Mem.tail _ (List.Mem.head _)))))) (by kernel_rfl) (by kernel_rfl) (by kernel_rfl) (by kernel_rfl) (fun _ _ _ h => h) (Or.inl ⟨by rfl, ?_⟩) hHeld ?_
          · (intro u hu; (try dsimp only at hu); go_split_ands; go_simp)
          (try simp only [Act.put, List.setIfInBounds_toArray, List.set_cons_zero, List.set_cons_succ])
          refine late_step 13 (by kernel_rfl) rfl (fun K hK => ?_)
          go_simp
          refine (lsize_any (((id_.below (below_drew' _)).below b31).below b32)).mono ?_
          rintro e w33 ⟨rfl, im117, b33⟩
          have B33 : Below W19.heap.size W19 w33 := bstep B32 b33
          clear hHeld
          have hHeld : AllL w33 [(2, fun w' => w'.cell? ⟨g, 0, none⟩ = some (.bool na) ∧ w'.cell? ⟨g, 1, none⟩ = some (.slice ao al ac)), (3, fun w' => w'.cell? ⟨v1, 0, none⟩ = some (.bool bn) ∧ w'.cell? ⟨v1, 1, none⟩ = some (.slice bo bl bc)), (7, fun w' => w'.cell? ⟨g, 0, none⟩ = some (.bool na) ∧ w'.cell? ⟨g, 1, none⟩ = some (.slice ao al ac)), (8, fun w' => w'.cell? ⟨v2, 0, none⟩ = some (.bool cn) ∧ w'.cell? ⟨v2, 1, none⟩ = some (.slice co cl cc)), (12, fun w' => w'.cell? ⟨v3, 0, none⟩ = some (.bool dn) ∧ w'.cell? ⟨v3, 1, none⟩ = some (.slice do_ dl dc)), (14, fun w' => w'.cell? ⟨g, 0, none⟩ = some (.bool na) ∧ w'.cell? ⟨g, 1, none⟩ = some (.slice ao al ac)), (19, fun w' => w'.cell? ⟨v3, 0, none⟩ = some (.bool dn) ∧ w'.cell? ⟨v3, 1, none⟩ = some (.slice do_ dl dc))] := ⟨(q0.below B33).cells, (p1.below B33).cells, (q0.below B33).cells, (p2.below B33).cells, (p3.below B33).cells, (q0.below B33).cells, (p3.below B33).cells, trivial⟩
          go_wp2_with fail
          refine hK.out _ _ (AllL.kept hHeld) ?_
          clear hK K
          (try simp only [Act.put, List.setIfInBounds_toArray, List.set_cons_zero, List.set_cons_succ])
          refine late_step 15 (by kernel_rfl) rfl (fun K hK => ?_)
          go_simp
          refine (lsize_any ((((ia.below (below_drew' _)).below b31).below b32).below b33)).mono ?_
          rintro e w34 ⟨rfl, im119, b34⟩
          have B34 : Below W19.heap.size W19 w34 := bstep B33 b34
          clear hHeld
          have hHeld : AllL w34 [(2, fun w' => w'.cell? ⟨g, 0, none⟩ = some (.bool na) ∧ w'.cell? ⟨g, 1, none⟩ = some (.slice ao al ac)), (3, fun w' => w'.cell? ⟨v1, 0, none⟩ = some (.bool bn) ∧ w'.cell? ⟨v1, 1, none⟩ = some (.slice bo bl bc)), (7, fun w' => w'.cell? ⟨g, 0, none⟩ = some (.bool na) ∧ w'.cell? ⟨g, 1, none⟩ = some (.slice ao al ac)), (8, fun w' => w'.cell? ⟨v2, 0, none⟩ = some (.bool cn) ∧ w'.cell? ⟨v2, 1, none⟩ = some (.slice co cl cc)), (12, fun w' => w'.cell? ⟨v3, 0, none⟩ = some (.bool dn) ∧ w'.cell? ⟨v3, 1, none⟩ = some (.slice do_ dl dc)), (14, fun w' => w'.cell? ⟨g, 0, none⟩ = some (.bool na) ∧ w'.cell? ⟨g, 1, none⟩ = some (.slice ao al ac)), (19, fun w' => w'.cell? ⟨v3, 0, none⟩ = some (.bool dn) ∧ w'.cell? ⟨v3, 1, none⟩ = some (.slice do_ dl dc))] := ⟨(q0.below B34).cells, (p1.below B34).cells, (q0.below B34).cells, (p2.below B34).cells, (p3.below B34).cells, (q0.below B34).cells, (p3.below B34).cells, trivial⟩
          go_wp2_with fail
          refine hK.out _ _ (AllL.kept hHeld) ?_
          clear hK K
          (try simp only [Act.put, List.setIfInBounds_toArray, List.set_cons_zero, List.set_cons_succ])
          refine late_step 16 (by kernel_rfl) rfl (fun K hK => ?_)
          go_simp
          refine (lequal_any (im117.below b34) im119).mono ?_
          rw [Hb35.out]
          rintro e w35 ⟨rfl, b35⟩
          have B35 : Below W19.heap.size W19 w35 := bstep B34 b35
          clear hHeld
          have hHeld : AllL w35 [(2, fun w' => w'.cell? ⟨g, 0, none⟩ = some (.bool na) ∧ w'.cell? ⟨g, 1, none⟩ = some (.slice ao al ac)), (3, fun w' => w'.cell? ⟨v1, 0, none⟩ = some (.bool bn) ∧ w'.cell? ⟨v1, 1, none⟩ = some (.slice bo bl bc)), (7, fun w' => w'.cell? ⟨g, 0, none⟩ = some (.bool na) ∧ w'.cell? ⟨g, 1, none⟩ = some (.slice ao al ac)), (8, fun w' => w'.cell? ⟨v2, 0, none⟩ = some (.bool cn) ∧ w'.cell? ⟨v2, 1, none⟩ = some (.slice co cl cc)), (12, fun w' => w'.cell? ⟨v3, 0, none⟩ = some (.bool dn) ∧ w'.cell? ⟨v3, 1, none⟩ = some (.slice do_ dl dc)), (14, fun w' => w'.cell? ⟨g, 0, none⟩ = some (.bool na) ∧ w'.cell? ⟨g, 1, none⟩ = some (.slice ao al ac)), (19, fun w' => w'.cell? ⟨v3, 0, none⟩ = some (.bool dn) ∧ w'.cell? ⟨v3, 1, none⟩ = some (.slice do_ dl dc))] := ⟨(q0.below B35).cells, (p1.below B35).cells, (q0.below B35).cells, (p2.below B35).cells, (p3.below B35).cells, (q0.below B35).cells, (p3.below B35).cells, trivial⟩
          go_wp2_with fail
          refine hK.out _ _ (AllL.kept hHeld) ?_
          clear hK K
          (try simp only [Act.put, List.setIfInBounds_toArray, List.set_cons_zero, List.set_cons_succ])
          refine late_free 17 (v := .bool true) rfl (by kernel_rfl) (by kernel_rfl) (by kernel_rfl) (by kernel_rfl) (by kernel_rfl) (by kernel_rfl) (fun _ _ _ h => h) (Or.inl ⟨by rfl, ?_⟩) hHeld ?_
          · (intro u _; go_simp)
          (try simp only [Act.put, List.setIfInBounds_toArray, List.set_cons_zero, List.set_cons_succ])
          refine late_free 18 (v := .bool true) rfl (by kernel_rfl) (by kernel_rfl) (by kernel_rfl) (by kernel_rfl) (by kernel_rfl) (by kernel_rfl) (fun _ _ _ h => h) (Or.inl ⟨by rfl, ?_⟩) hHeld ?_
          · (intro u _; go_simp)
          (try simp only [Act.put, List.setIfInBounds_toArray, List.set_cons_zero, List.set_cons_succ])
          refine late_take 19 (v := .agg #[.bool dn, .slice do_ dl dc]) rfl (by kernel_rfl) (List.Mem.tail _ (List.Mem.tail _ (List.Mem.tail _ (List.Mem.tail _ (List.Mem.tail _ (List.Mem.tail _ (List.Mem.head _))))))) (by kernel_rfl) (by kernel_rfl) (by kernel_rfl) (by kernel_rfl) (fun _ _ _ h => h) (Or.inl ⟨by rfl, ?_⟩) hHeld ?_
          · (intro u hu; (try dsimp only at hu); go_split_ands; go_simp)
          (try simp only [Act.put, List.setIfInBounds_toArray, List.set_cons_zero, List.set_cons_succ])
          refine late_step 20 (by kernel_rfl) rfl (fun K hK => ?_)
          go_simp
          refine (c_sign ((((((id_.below (below_drew' _)).below b31).below b32).below b33).below b34).below b35)).mono ?_
          rw [HCD.out]
          rintro e w36 ⟨rfl, b36⟩
          have B36 : Below W19.heap.size W19 w36 := bstep B35 b36
          clear hHeld
          have hHeld : AllL w36 [(2, fun w' => w'.cell? ⟨g, 0, none⟩ = some (.bool na) ∧ w'.cell? ⟨g, 1, none⟩ = some (.slice ao al ac)), (3, fun w' => w'.cell? ⟨v1, 0, none⟩ = some (.bool bn) ∧ w'.cell? ⟨v1, 1, none⟩ = some (.slice bo bl bc)), (7, fun w' => w'.cell? ⟨g, 0, none⟩ = some (.bool na) ∧ w'.cell? ⟨g, 1, none⟩ = some (.slice ao al ac)), (8, fun w' => w'.cell? ⟨v2, 0, none⟩ = some (.bool cn) ∧ w'.cell? ⟨v2, 1, none⟩ = some (.slice co cl cc)), (12, fun w' => w'.cell? ⟨v3, 0, none⟩ = some (.bool dn) ∧ w'.cell? ⟨v3, 1, none⟩ = some (.slice do_ dl dc)), (14, fun w' => w'.cell? ⟨g, 0, none⟩ = some (.bool na) ∧ w'.cell? ⟨g, 1, none⟩ = some (.slice ao al ac)), (19, fun w' => w'.cell? ⟨v3, 0, none⟩ = some (.bool dn) ∧ w'.cell? ⟨v3, 1, none⟩ = some (.slice do_ dl dc))] := ⟨(q0.below B36).cells, (p1.below B36).cells, (q0.below B36).cells, (p2.below B36).cells, (p3.below B36).cells, (q0.below B36).cells, (p3.below B36).cells, trivial⟩
          go_wp2_with fail
          refine hK.out _ _ (AllL.kept hHeld) ?_
          clear hK K
          (try simp only [Act.put, List.setIfInBounds_toArray, List.set_cons_zero, List.set_cons_succ])
          refine late_free 21 (v := .bool true) rfl (by kernel_rfl) (by kernel_rfl) (by kernel_rfl) (by kernel_rfl) (by kernel_rfl) (by kernel_rfl) (fun _ _ _ h => h) (Or.inl ⟨by rfl, ?_⟩) hHeld ?_
          · (intro u _; go_simp)
          (try simp only [Act.put, List.setIfInBounds_toArray, List.set_cons_zero, List.set_cons_succ])
          refine late_free 22 (v := .bool true) rfl (by kernel_rfl) (by kernel_rfl) (by kernel_rfl) (by kernel_rfl) (by kernel_rfl) (by kernel_rfl) (fun _ _ _ h => h) (Or.inl ⟨by rfl, ?_⟩) hHeld ?_
          · (intro u _; go_simp)
          (try simp only [Act.put, List.setIfInBounds_toArray, List.set_cons_zero, List.set_cons_succ])
          refine late_step 23 (by kernel_rfl) rfl (fun K hK => ?_)
          go_simp
          refine hK.out _ _ ⟨Or.inl ⟨4, by kernel_rfl, by kernel_rfl⟩, Or.inl ⟨4, by kernel_rfl, by kernel_rfl⟩, Or.inl ⟨9, by kernel_rfl, by kernel_rfl⟩, Or.inl ⟨9, by kernel_rfl, by kernel_rfl⟩, Or.inl ⟨13, by kernel_rfl, by kernel_rfl⟩, Or.inl ⟨15, by kernel_rfl, by kernel_rfl⟩, Or.inl ⟨20, by kernel_rfl, by kernel_rfl⟩, trivial⟩ ?_
          clear hK K
          (try simp only [Act.put, List.setIfInBounds_toArray, List.set_cons_zero, List.set_cons_succ])
          refine late_done (by kernel_rfl) ?_ _
          clear hHeld
          have b := B36
          clear b31 b32 b33 b34 b35 b36 B31 B32 B33 B34 B35 B36
          replace ia := ia.below b
          replace ib := ib.below b
          replace ic := ic.below b
          replace id_ := id_.below b
          replace q0 := q0.below b
          replace p1 := p1.below b
          replace p2 := p2.below b
          replace p3 := p3.below b
          replace hb := bstep hb b
          clear b
          clear im117 im119
          have HE : Hid (Below w1.heap.size w1 w36) := hb
          clear hb ia ib ic id_ q0 p1 p2 p3
          go_wp2_with fail
          go_ret
          exact ⟨rfl, HE.out⟩
        · have h1i : ¬ (1 : Int) < (t.size : Int) := by omega
          clear h1
          go_wp2_with fail
          rw [← HW19.out]
          clear HW19
          obtain ⟨cd, hcd⟩ : ∃ c, c = cmpZ E 0 := ⟨_, rfl⟩
          have HCD : Hid (cmpZ E 0 = cd) := hcd.symm
          have hcd0 : cd ≤ 0 := by rw [hcd]; exact cmp_np hEl
          clear hcd
          have Hb35 : Hid (decide ((E.natAbs : Int) = (A.natAbs : Int)) = true) := decide_eq_true (HEA.out)
          refine region_late [(2, fun w' => w'.cell? ⟨g, 0, none⟩ = some (.bool na) ∧ w'.cell? ⟨g, 1, none⟩ = some (.slice ao al ac)), (3, fun w' => w'.cell? ⟨v1, 0, none⟩ = some (.bool bn) ∧ w'.cell? ⟨v1, 1, none⟩ = some (.slice bo bl bc)), (7, fun w' => w'.cell? ⟨g, 0, none⟩ = some (.bool na) ∧ w'.cell? ⟨g, 1, none⟩ = some (.slice ao al ac)), (8, fun w' => w'.cell? ⟨v2, 0, none⟩ = some (.bool cn) ∧ w'.cell? ⟨v2, 1, none⟩ = some (.slice co cl cc)), (12, fun w' => w'.cell? ⟨v3, 0, none⟩ = some (.bool dn) ∧ w'.cell? ⟨v3, 1, none⟩ = some (.slice do_ dl dc)), (14, fun w' => w'.cell? ⟨g, 0, none⟩ = some (.bool na) ∧ w'.cell? ⟨g, 1, none⟩ = some (.slice ao al ac)), (19, fun w' => w'.cell? ⟨v3, 0, none⟩ = some (.bool dn) ∧ w'.cell? ⟨v3, 1, none⟩ = some (.slice do_ dl dc))] (by kernel_rfl) ?_
          have hHeld : AllL W19.drew [(2, fun w' => w'.cell? ⟨g, 0, none⟩ = some (.bool na) ∧ w'.cell? ⟨g, 1, none⟩ = some (.slice ao al ac)), (3, fun w' => w'.cell? ⟨v1, 0, none⟩ = some (.bool bn) ∧ w'.cell? ⟨v1, 1, none⟩ = some (.slice bo bl bc)), (7, fun w' => w'.cell? ⟨g, 0, none⟩ = some (.bool na) ∧ w'.cell? ⟨g, 1, none⟩ = some (.slice ao al ac)), (8, fun w' => w'.cell? ⟨v2, 0, none⟩ = some (.bool cn) ∧ w'.cell? ⟨v2, 1, none⟩ = some (.slice co cl cc)), (12, fun w' => w'.cell? ⟨v3, 0, none⟩ = some (.bool dn) ∧ w'.cell? ⟨v3, 1, none⟩ = some (.slice do_ dl dc)), (14, fun w' => w'.cell? ⟨g, 0, none⟩ = some (.bool na) ∧ w'.cell? ⟨g, 1, none⟩ = some (.slice ao al ac)), (19, fun w' => w'.cell? ⟨v3, 0, none⟩ = some (.bool dn) ∧ w'.cell? ⟨v3, 1, none⟩ = some (.slice do_ dl dc))] := ⟨(show ICell W19.drew (g) na (.slice ao al ac) from q0).cells, (show ICell W19.drew (v1) bn (.slice bo bl bc) from p1).cells, (show ICell W19.drew (g) na (.slice ao al ac) from q0).cells, (show ICell W19.drew (v2) cn (.slice co cl cc) from p2).cells, (show ICell W19.drew (v3) dn (.slice do_ dl dc) from p3).cells, (show ICell W19.drew (g) na (.slice ao al ac) from q0).cells, (show ICell W19.drew (v3) dn (.slice do_ dl dc) from p3).cells, trivial⟩
          refine late_free 0 (v := .bool true) rfl (by kernel_rfl) (by kernel_rfl) (by kernel_rfl) (by kernel_rfl) (by kernel_rfl) (by kernel_rfl) (fun _ _ _ h => h) (Or.inl ⟨by rfl, ?_⟩) hHeld ?_
          · (intro u _; go_simp)
          (try simp only [Act.put, List.setIfInBounds_toArray, List.set_cons_zero, List.set_cons_succ])
          refine late_free 1 (v := .bool true) rfl (by kernel_rfl) (by kernel_rfl) (by kernel_rfl) (by kernel_rfl) (by kernel_rfl) (by kernel_rfl) (fun _ _ _ h => h) (Or.inl ⟨by rfl, ?_⟩) hHeld ?_
          · (intro u _; go_simp)
          (try simp only [Act.put, List.setIfInBounds_toArray, List.set_cons_zero, List.set_cons_succ])
          refine late_take 2 (v := .agg #[.bool na, .slice ao al ac]) rfl (by kernel_rfl) (List.Mem.head _) (by kernel_rfl) (by kernel_rfl) (by kernel_rfl) (by kernel_rfl) (fun _ _ _ h => h) (Or.inl ⟨by rfl, ?_⟩) hHeld ?_
          · (intro u hu; (try dsimp only at hu); go_split_ands; go_simp)
          (try simp only [Act.put, List.setIfInBounds_toArray, List.set_cons_zero, List.set_cons_succ])
          refine late_take 3 (v := .agg #[.bool bn, .slice bo bl bc]) rfl (by kernel_rfl) (List.Mem.tail _ (List.Mem.head _)) (by kernel_rfl) (by kernel_rfl) (by kernel_rfl) (by kernel_rfl) (fun _ _ _ h => h) (Or.inl ⟨by rfl, ?_⟩) hHeld ?_
          · (intro u hu; (try dsimp only at hu); go_split_ands; go_simp)
          (try simp only [Act.put, List.setIfInBounds_toArray, List.set_cons_zero, List.set_cons_succ])
          refine late_step 4 (by kernel_rfl) rfl (fun K hK => ?_)
          go_simp
          refine (lequal_any (ia.below (below_drew' _)) (ib.below (below_drew' _))).mono ?_
          rw [show decide (A = A) = true from decide_eq_true rfl]
          rintro e w31 ⟨rfl, b31⟩
          have B31 : Below W19.heap.size W19 w31 := bstep (below_drew' _) b31
          clear hHeld
          have hHeld : AllL w31 [(2, fun w' => w'.cell? ⟨g, 0, none⟩ = some (.bool na) ∧ w'.cell? ⟨g, 1, none⟩ = some (.slice ao al ac)), (3, fun w' => w'.cell? ⟨v1, 0, none⟩ = some (.bool bn) ∧ w'.cell? ⟨v1, 1, none⟩ = some (.slice bo bl bc)), (7, fun w' => w'.cell? ⟨g, 0, none⟩ = some (.bool na) ∧ w'.cell? ⟨g, 1, none⟩ = some (.slice ao al ac)), (8, fun w' => w'.cell? ⟨v2, 0, none⟩ = some (.bool cn) ∧ w'.cell? ⟨v2, 1, none⟩ = some (.slice co cl cc)), (12, fun w' => w'.cell? ⟨v3, 0, none⟩ = some (.bool dn) ∧ w'.cell? ⟨v3, 1, none⟩ = some (.slice do_ dl dc)), (14, fun w' => w'.cell? ⟨g, 0, none⟩ = some (.bool na) ∧ w'.cell? ⟨g, 1, none⟩ = some (.slice ao al ac)), (19, fun w' => w'.cell? ⟨v3, 0, none⟩ = some (.bool dn) ∧ w'.cell? ⟨v3, 1, none⟩ = some (.slice do_ dl dc))] := ⟨(q0.below B31).cells, (p1.below B31).cells, (q0.below B31).cells, (p2.below B31).cells, (p3.below B31).cells, (q0.below B31).cells, (p3.below B31).cells, trivial⟩
          go_wp2_with fail
          refine hK.out _ _ (AllL.kept hHeld) ?_
          clear hK K
          (try simp only [Act.put, List.setIfInBounds_toArray, List.set_cons_zero, List.set_cons_succ])
          refine late_free 5 (v := .bool true) rfl (by kernel_rfl) (by kernel_rfl) (by kernel_rfl) (by kernel_rfl) (by kernel_rfl) (by kernel_rfl) (fun _ _ _ h => h) (Or.inl ⟨by rfl, ?_⟩) hHeld ?_
          · (intro u _; go_simp)
          (try simp only [Act.put, List.setIfInBounds_toArray, List.set_cons_zero, List.set_cons_succ])
          refine late_free 6 (v := .bool true) rfl (by kernel_rfl) (by kernel_rfl) (by kernel_rfl) (by kernel_rfl) (by kernel_rfl) (by kernel_rfl) (fun _ _ _ h => h) (Or.inl ⟨by rfl, ?_⟩) hHeld ?_
          · (intro u _; go_simp)
          (try simp only [Act.put, List.setIfInBounds_toArray, List.set_cons_zero, List.set_cons_succ])
          refine late_take 7 (v := .agg #[.bool na, .slice ao al ac]) rfl (by kernel_rfl) (List.Mem.tail _ (List.Mem.tail _ (List.Mem.head _))) (by kernel_rfl) (by kernel_rfl) (by kernel_rfl) (by kernel_rfl) (fun _ _ _ h => h) (Or.inl ⟨by rfl, ?_⟩) hHeld ?_
          · (intro u hu; (try dsimp only at hu); go_split_ands; go_simp)
          (try simp only [Act.put, List.setIfInBounds_toArray, List.set_cons_zero, List.set_cons_succ])
          refine late_take 8 (v := .agg #[.bool cn, .slice co cl cc]) rfl (by kernel_rfl) (List.Mem.tail _ (List.Mem.tail _ (List.Mem.tail _ (List.Mem.head _)))) (by kernel_rfl) (by kernel_rfl) (by kernel_rfl) (by kernel_rfl) (fun _ _ _ h => h) (Or.inl ⟨by rfl, ?_⟩) hHeld ?_
          · (intro u hu; (try dsimp only at hu); go_split_ands; go_simp)
          (try simp only [Act.put, List.setIfInBounds_toArray, List.set_cons_zero, List.set_cons_succ])
          refine late_step 9 (by kernel_rfl) rfl (fun K hK => ?_)
          go_simp
          refine (lequal_any ((ia.below (below_drew' _)).below b31) ((ic.below (below_drew' _)).below b31)).mono ?_
          rw [show decide (A = A) = true from decide_eq_true rfl]
          rintro e w32 ⟨rfl, b32⟩
          have B32 : Below W19.heap.size W19 w32 := bstep B31 b32
          clear hHeld
          have hHeld : AllL w32 [(2, fun w' => w'.cell? ⟨g, 0, none⟩ = some (.bool na) ∧ w'.cell? ⟨g, 1, none⟩ = some (.slice ao al ac)), (3, fun w' => w'.cell? ⟨v1, 0, none⟩ = some (.bool bn) ∧ w'.cell? ⟨v1, 1, none⟩ = some (.slice bo bl bc)), (7, fun w' => w'.cell? ⟨g, 0, none⟩ = some (.bool na) ∧ w'.cell? ⟨g, 1, none⟩ = some (.slice ao al ac)), (8, fun w' => w'.cell? ⟨v2, 0, none⟩ = some (.bool cn) ∧ w'.cell? ⟨v2, 1, none⟩ = some (.slice co cl cc)), (12, fun w' => w'.cell? ⟨v3, 0, none⟩ = some (.bool dn) ∧ w'.cell? ⟨v3, 1, none⟩ = some (.slice do_ dl dc)), (14, fun w' => w'.cell? ⟨g, 0, none⟩ = some (.bool na) ∧ w'.cell? ⟨g, 1, none⟩ = some (.slice ao al ac)), (19, fun w' => w'.cell? ⟨v3, 0, none⟩ = some (.bool dn) ∧ w'.cell? ⟨v3, 1, none⟩ = some (.slice do_ dl dc))] := ⟨(q0.below B32).cells, (p1.below B32).cells, (q0.below B32).cells, (p2.below B32).cells, (p3.below B32).cells, (q0.below B32).cells, (p3.below B32).cells, trivial⟩
          go_wp2_with fail
          refine hK.out _ _ (AllL.kept hHeld) ?_
          clear hK K
          (try simp only [Act.put, List.setIfInBounds_toArray, List.set_cons_zero, List.set_cons_succ])
          refine late_free 10 (v := .bool true) rfl (by kernel_rfl) (by kernel_rfl) (by kernel_rfl) (by kernel_rfl) (by kernel_rfl) (by kernel_rfl) (fun _ _ _ h => h) (Or.inl ⟨by rfl, ?_⟩) hHeld ?_
          · (intro u _; go_simp)
          (try simp only [Act.put, List.setIfInBounds_toArray, List.set_cons_zero, List.set_cons_succ])
          refine late_free 11 (v := .bool true) rfl (by kernel_rfl) (by kernel_rfl) (by kernel_rfl) (by kernel_rfl) (by kernel_rfl) (by kernel_rfl) (fun _ _ _ h => h) (Or.inl ⟨by rfl, ?_⟩) hHeld ?_
          · (intro u _; go_simp)
          (try simp only [Act.put, List.setIfInBounds_toArray, List.set_cons_zero, List.set_cons_succ])
          refine late_take 12 (v := .agg #[.bool dn, .slice do_ dl dc]) rfl (by kernel_rfl) (List.Mem.tail _ (List.Mem.tail _ (List.Mem.tail _ (List.Mem.tail _ (List.Mem.head _))))) (by kernel_rfl) (by kernel_rfl) (by kernel_rfl) (by kernel_rfl) (fun _ _ _ h => h) (Or.inl ⟨by rfl, ?_⟩) hHeld ?_
          · (intro u hu; (try dsimp only at hu); go_split_ands; go_simp)
          (try simp only [Act.put, List.setIfInBounds_toArray, List.set_cons_zero, List.set_cons_succ])
          refine late_take 14 (v := .agg #[.bool na, .slice ao al ac]) rfl (by kernel_rfl) (List.Mem.tail _ (List.Mem.tail _ (List.Mem.tail _ (List.Mem.tail _ (List.Mem.tail _ (List.Mem.head _)))))) (by kernel_rfl) (by kernel_rfl) (by kernel_rfl) (by kernel_rfl) (fun _ _ _ h => h) (Or.inl ⟨by rfl, ?_⟩) hHeld ?_
          · (intro u hu; (try dsimp only at hu); go_split_ands; go_simp)
          (try simp only [Act.put, List.setIfInBounds_toArray, List.set_cons_zero, List.set_cons_succ])
          refine late_step 13 (by kernel_rfl) rfl (fun K hK => ?_)
          go_simp
          refine (lsize_any (((id_.below (below_drew' _)).below b31).below b32)).mono ?_
          rintro e w33 ⟨rfl, im117, b33⟩
          have B33 : Below W19.heap.size W19 w33 := bstep B32 b33
          clear hHeld
          have hHeld : AllL w33 [(2, fun w' => w'.cell? ⟨g, 0, none⟩ = some (.bool na) ∧ w'.cell? ⟨g, 1, none⟩ = some (.slice ao al ac)), (3, fun w' => w'.cell? ⟨v1, 0, none⟩ = some (.bool bn) ∧ w'.cell? ⟨v1, 1, none⟩ = some (.slice bo bl bc)), (7, fun w' => w'.cell? ⟨g, 0, none⟩ = some (.bool na) ∧ w'.cell? ⟨g, 1, none⟩ = some (.slice ao al ac)), (8, fun w' => w'.cell? ⟨v2, 0, none⟩ = some (.bool cn) ∧ w'.cell? ⟨v2, 1, none⟩ = some (.slice co cl cc)), (12, fun w' => w'.cell? ⟨v3, 0, none⟩ = some (.bool dn) ∧ w'.cell? ⟨v3, 1, none⟩ = some (.slice do_ dl dc)), (14, fun w' => w'.cell? ⟨g, 0, none⟩ = some (.bool na) ∧ w'.cell? ⟨g, 1, none⟩ = some (.slice ao al ac)), (19, fun w' => w'.cell? ⟨v3, 0, none⟩ = some (.bool dn) ∧ w'.cell? ⟨v3, 1, none⟩ = some (.slice do_ dl dc))] := ⟨(q0.below B33).cells, (p1.below B33).cells, (q0.below B33).cells, (p2.below B33).cells, (p3.below B33).cells, (q0.below B33).cells, (p3.below B33).cells, trivial⟩
          go_wp2_with fail
          refine hK.out _ _ (AllL.kept hHeld) ?_
          clear hK K
          (try simp only [Act.put, List.setIfInBounds_toArray, List.set_cons_zero, List.set_cons_succ])
          refine late_step 15 (by kernel_rfl) rfl (fun K hK => ?_)
          go_simp
          refine (lsize_any ((((ia.below (below_drew' _)).below b31).below b32).below b33)).mono ?_
          rintro e w34 ⟨rfl, im119, b34⟩
          have B34 : Below W19.heap.size W19 w34 := bstep B33 b34
          clear hHeld
          have hHeld : AllL w34 [(2, fun w' => w'.cell? ⟨g, 0, none⟩ = some (.bool na) ∧ w'.cell? ⟨g, 1, none⟩ = some (.slice ao al ac)), (3, fun w' => w'.cell? ⟨v1, 0, none⟩ = some (.bool bn) ∧ w'.cell? ⟨v1, 1, none⟩ = some (.slice bo bl bc)), (7, fun w' => w'.cell? ⟨g, 0, none⟩ = some (.bool na) ∧ w'.cell? ⟨g, 1, none⟩ = some (.slice ao al ac)), (8, fun w' => w'.cell? ⟨v2, 0, none⟩ = some (.bool cn) ∧ w'.cell? ⟨v2, 1, none⟩ = some (.slice co cl cc)), (12, fun w' => w'.cell? ⟨v3, 0, none⟩ = some (.bool dn) ∧ w'.cell? ⟨v3, 1, none⟩ = some (.slice do_ dl dc)), (14, fun w' => w'.cell? ⟨g, 0, none⟩ = some (.bool na) ∧ w'.cell? ⟨g, 1, none⟩ = some (.slice ao al ac)), (19, fun w' => w'.cell? ⟨v3, 0, none⟩ = some (.bool dn) ∧ w'.cell? ⟨v3, 1, none⟩ = some (.slice do_ dl dc))] := ⟨(q0.below B34).cells, (p1.below B34).cells, (q0.below B34).cells, (p2.below B34).cells, (p3.below B34).cells, (q0.below B34).cells, (p3.below B34).cells, trivial⟩
          go_wp2_with fail
          refine hK.out _ _ (AllL.kept hHeld) ?_
          clear hK K
          (try simp only [Act.put, List.setIfInBounds_toArray, List.set_cons_zero, List.set_cons_succ])
          refine late_step 16 (by kernel_rfl) rfl (fun K hK => ?_)
          go_simp
          refine (lequal_any (im117.below b34) im119).mono ?_
          rw [Hb35.out]
          rintro e w35 ⟨rfl, b35⟩
          have B35 : Below W19.heap.size W19 w35 := bstep B34 b35
          clear hHeld
          have hHeld : AllL w35 [(2, fun w' => w'.cell? ⟨g, 0, none⟩ = some (.bool na) ∧ w'.cell? ⟨g, 1, none⟩ = some (.slice ao al ac)), (3, fun w' => w'.cell? ⟨v1, 0, none⟩ = some (.bool bn) ∧ w'.cell? ⟨v1, 1, none⟩ = some (.slice bo bl bc)), (7, fun w' => w'.cell? ⟨g, 0, none⟩ = some (.bool na) ∧ w'.cell? ⟨g, 1, none⟩ = some (.slice ao al ac)), (8, fun w' => w'.cell? ⟨v2, 0, none⟩ = some (.bool cn) ∧ w'.cell? ⟨v2, 1, none⟩ = some (.slice co cl cc)), (12, fun w' => w'.cell? ⟨v3, 0, none⟩ = some (.bool dn) ∧ w'.cell? ⟨v3, 1, none⟩ = some (.slice do_ dl dc)), (14, fun w' => w'.cell? ⟨g, 0, none⟩ = some (.bool na) ∧ w'.cell? ⟨g, 1, none⟩ = some (.slice ao al ac)), (19, fun w' => w'.cell? ⟨v3, 0, none⟩ = some (.bool dn) ∧ w'.cell? ⟨v3, 1, none⟩ = some (.slice do_ dl dc))] := ⟨(q0.below B35).cells, (p1.below B35).cells, (q0.below B35).cells, (p2.below B35).cells, (p3.below B35).cells, (q0.below B35).cells, (p3.below B35).cells, trivial⟩
          go_wp2_with fail
          refine hK.out _ _ (AllL.kept hHeld) ?_
          clear hK K
          (try simp only [Act.put, List.setIfInBounds_toArray, List.set_cons_zero, List.set_cons_succ])
          refine late_free 17 (v := .bool true) rfl (by kernel_rfl) (by kernel_rfl) (by kernel_rfl) (by kernel_rfl) (by kernel_rfl) (by kernel_rfl) (fun _ _ _ h => h) (Or.inl ⟨by rfl, ?_⟩) hHeld ?_
          · (intro u _; go_simp)
          (try simp only [Act.put, List.setIfInBounds_toArray, List.set_cons_zero, List.set_cons_succ])
          refine late_free 18 (v := .bool true) rfl (by kernel_rfl) (by kernel_rfl) (by kernel_rfl) (by kernel_rfl) (by kernel_rfl) (by kernel_rfl) (fun _ _ _ h => h) (Or.inl ⟨by rfl, ?_⟩) hHeld ?_
          · (intro u _; go_simp)
          (try simp only [Act.put, List.setIfInBounds_toArray, List.set_cons_zero, List.set_cons_succ])
          refine late_take 19 (v := .agg #[.bool dn, .slice do_ dl dc]) rfl (by kernel_rfl) (List.Mem.tail _ (List.Mem.tail _ (List.Mem.tail _ (List.Mem.tail _ (List.Mem.tail _ (List.Mem.tail _ (List.Mem.head _))))))) (by kernel_rfl) (by kernel_rfl) (by kernel_rfl) (by kernel_rfl) (fun _ _ _ h => h) (Or.inl ⟨by rfl, ?_⟩) hHeld ?_
          · (intro u hu; (try dsimp only at hu); go_split_ands; go_simp)
          (try simp only [Act.put, List.setIfInBounds_toArray, List.set_cons_zero, List.set_cons_succ])
          refine late_step 20 (by kernel_rfl) rfl (fun K hK => ?_)
          go_simp
          refine (c_sign ((((((id_.below (below_drew' _)).below b31).below b32).below b33).below b34).below b35)).mono ?_
          rw [HCD.out]
          rintro e w36 ⟨rfl, b36⟩
          have B36 : Below W19.heap.size W19 w36 := bstep B35 b36
          clear hHeld
          have hHeld : AllL w36 [(2, fun w' => w'.cell? ⟨g, 0, none⟩ = some (.bool na) ∧ w'.cell? ⟨g, 1, none⟩ = some (.slice ao al ac)), (3, fun w' => w'.cell? ⟨v1, 0, none⟩ = some (.bool bn) ∧ w'.cell? ⟨v1, 1, none⟩ = some (.slice bo bl bc)), (7, fun w' => w'.cell? ⟨g, 0, none⟩ = some (.bool na) ∧ w'.cell? ⟨g, 1, none⟩ = some (.slice ao al ac)), (8, fun w' => w'.cell? ⟨v2, 0, none⟩ = some (.bool cn) ∧ w'.cell? ⟨v2, 1, none⟩ = some (.slice co cl cc)), (12, fun w' => w'.cell? ⟨v3, 0, none⟩ = some (.bool dn) ∧ w'.cell? ⟨v3, 1, none⟩ = some (.slice do_ dl dc)), (14, fun w' => w'.cell? ⟨g, 0, none⟩ = some (.bool na) ∧ w'.cell? ⟨g, 1, none⟩ = some (.slice ao al ac)), (19, fun w' => w'.cell? ⟨v3, 0, none⟩ = some (.bool dn) ∧ w'.cell? ⟨v3, 1, none⟩ = some (.slice do_ dl dc))] := ⟨(q0.below B36).cells, (p1.below B36).cells, (q0.below B36).cells, (p2.below B36).cells, (p3.below B36).cells, (q0.below B36).cells, (p3.below B36).cells, trivial⟩
          go_wp2_with fail
          refine hK.out _ _ (AllL.kept hHeld) ?_
          clear hK K
          (try simp only [Act.put, List.setIfInBounds_toArray, List.set_cons_zero, List.set_cons_succ])
          refine late_free 21 (v := .bool true) rfl (by kernel_rfl) (by kernel_rfl) (by kernel_rfl) (by kernel_rfl) (by kernel_rfl) (by kernel_rfl) (fun _ _ _ h => h) (Or.inl ⟨by rfl, ?_⟩) hHeld ?_
          · (intro u _; go_simp)
          (try simp only [Act.put, List.setIfInBounds_toArray, List.set_cons_zero, List.set_cons_succ])
          refine late_free 22 (v := .bool true) rfl (by kernel_rfl) (by kernel_rfl) (by kernel_rfl) (by kernel_rfl) (by kernel_rfl) (by kernel_rfl) (fun _ _ _ h => h) (Or.inl ⟨by rfl, ?_⟩) hHeld ?_
          · (intro u _; go_simp)
          (try simp only [Act.put, List.setIfInBounds_toArray, List.set_cons_zero, List.set_cons_succ])
          refine late_step 23 (by kernel_rfl) rfl (fun K hK => ?_)
          go_simp
          refine hK.out _ _ ⟨Or.inl ⟨4, by kernel_rfl, by kernel_rfl⟩, Or.inl ⟨4, by kernel_rfl, by kernel_rfl⟩, Or.inl ⟨9, by kernel_rfl, by kernel_rfl⟩, Or.inl ⟨9, by kernel_rfl, by kernel_rfl⟩, Or.inl ⟨13, by kernel_rfl, by kernel_rfl⟩, Or.inl ⟨15, by kernel_rfl, by kernel_rfl⟩, Or.inl ⟨20, by kernel_rfl, by kernel_rfl⟩, trivial⟩ ?_
          clear hK K
          (try simp only [Act.put, List.setIfInBounds_toArray, List.set_cons_zero, List.set_cons_succ])
          refine late_done (by kernel_rfl) ?_ _
          clear hHeld
          have b := B36
          clear b31 b32 b33 b34 b35 b36 B31 B32 B33 B34 B35 B36
          replace ia := ia.below b
          replace ib := ib.below b
          replace ic := ic.below b
          replace id_ := id_.below b
          replace q0 := q0.below b
          replace p1 := p1.below b
          replace p2 := p2.below b
          replace p3 := p3.below b
          replace hb := bstep hb b
          clear b
          clear im117 im119
          have HE : Hid (Below w1.heap.size w1 w36) := hb
          clear hb ia ib ic id_ q0 p1 p2 p3
          go_wp2_with fail
          go_ret
          exact ⟨rfl, HE.out⟩
  · have HS0 : Hid (zt A = t) := by show _ = _; rw [HZN.out]; exact zt_pos hA
    have HZA : Hid (zv false n = A) := by show _ = _; rw [HN.out]; unfold zv; simp; omega
    have HST : Hid (strk t = false ∧ tail t = t) := dig_first HD.out.1 HD.out.2
    obtain ⟨ZN, hZN⟩ : ∃ Z, zrs N = Z := ⟨_, rfl⟩
    have hZs : ZN.size = N := by rw [← hZN, zrs_size]
    obtain ⟨U, hU⟩ : ∃ U, ZN ++ t = U := ⟨_, rfl⟩
    have hUs : U.size = N + t.size := by rw [← hU, ByteArray.size_append, hZs]
    have HU : Hid (strk U = false ∧ tail U = zrs N ++ t) := by
      rw [← hU, hZN]
      have hz := HZD.out
      rw [hZN] at hz
      exact dig_first hz.1 hz.2
    obtain ⟨D, hD⟩ : ∃ D, ⟨#[45]⟩ ++ t = D := ⟨_, rfl⟩
    have hDs : D.size = t.size + 1 := by rw [← hD, ByteArray.size_append]; show 1 + t.size = _; omega
    have HDT : Hid (strk D = true ∧ tail D = t) := by rw [← hD]; exact strk_minus t
    obtain ⟨F, hF⟩ : ∃ F, ⟨#[43]⟩ ++ t = F := ⟨_, rfl⟩
    have hFs : F.size = t.size + 1 := by rw [← hF, ByteArray.size_append]; show 1 + t.size = _; omega
    have HFP : Hid (⟨#[43]⟩ ++ t = F) := hF
    have HZN2 : Hid (zrs N = ZN) := hZN
    clear hZN
    obtain ⟨q0c, q0d⟩ := q0.cells
    go_wp2_with fail
    clear q0c q0d
    refine (c_text ia).mono ?_
    rw [HS0.out]
    rintro e w10 ⟨rfl, b⟩
    replace ia := ia.below b
    replace q0 := q0.below b
    replace hb := bstep hb b
    clear b
    obtain ⟨q0c, q0d⟩ := q0.cells
    go_wp2_with fail
    clear q0c q0d
    refine (c_sign ia).mono ?_
    obtain ⟨cs, hcs⟩ : ∃ c, c = cmpZ A 0 := ⟨_, rfl⟩
    have hcs0 : ¬ cs < 0 := by rw [hcs]; unfold cmpZ; rw [if_neg (show ¬ A < 0 by omega)]; split <;> omega
    rw [← hcs]
    clear hcs
    rintro e w11 ⟨rfl, b⟩
    replace ia := ia.below b
    replace q0 := q0.below b
    replace hb := bstep hb b
    clear b
    go_wp2_with fail
    go_loop [8, 9] (fun mv iv => ∃ i : Nat, i ≤ N ∧ mv = .string (zrs i) ∧ iv = .int .i64 (i : Int)) (fun _ iv => N - (intOf iv).toNat)
    case atStart => exact ⟨0, Nat.zero_le _, rfl, rfl⟩
    case round =>
      obtain ⟨i, hi, rfl, rfl⟩ := hrel
      by_cases hlt : i < N
      · have hlt2 : (i : Int) < (N : Int) := by omega
        have HZS : Hid (zrs i ++ ⟨#[48]⟩ = zrs (i + 1)) := zrs_succ i
        have hzi := zrs_size i
        obtain ⟨Z2, hZ2⟩ : ∃ Z, Z = zrs (i + 1) := ⟨_, rfl⟩
        have HZ2 : Hid (Z2 = zrs (i + 1)) := hZ2
        have hst : zrs i ++ ⟨#[48]⟩ = Z2 := by rw [hZ2]; exact HZS.out
        clear hZ2
        generalize zrs i = ZI at *
        clear hlt
        go_wp2_with fail
        go_round
        case rel => exact ⟨i + 1, by omega, by rw [HZ2.out], by go_num⟩
        case measure => simp [intOf]; omega
      · have hiN : i = N := by omega
        subst hiN
        rw [HZN2.out]
        have hlt2 : ¬ (i : Int) < (i : Int) := by omega
        clear hlt hi
        go_wp2_with fail
        refine (parse_of (z := A) HST.out.1 HST.out.2 HD.out (by rw [HV.out]; exact HZA.out) (by omega) _).mono ?_
        rintro e w12 ⟨v, rfl, hv, b⟩
        obtain ⟨bn, bo, bl, bc, rfl, ib⟩ := hv.see sa (by decide)
        clear hv
        replace ia := ia.below b
        replace q0 := q0.below b
        replace hb := bstep hb b
        clear b
        obtain ⟨W13, hW13⟩ : ∃ W, W = w12.alloc (.cells #[.bool bn, .slice bo bl bc] 25) := ⟨_, rfl⟩
        have p1 : ICell W13 w12.heap.size bn (.slice bo bl bc) := by rw [hW13]; exact icell_new _ rfl
        have b : Below w12.heap.size w12 W13 := by rw [hW13]; exact belowA _ _
        replace ia := ia.below b
        replace ib := ib.below b
        replace q0 := q0.below b
        replace hb := bstep hb b
        clear b
        obtain ⟨v1, hv1⟩ : ∃ v, v = w12.heap.size := ⟨_, rfl⟩
        rw [← hv1] at p1
        have HW13 : Hid (W13 = w12.alloc (.cells #[.bool bn, .slice bo bl bc] 25)) := hW13
        have Hv1 : Hid (v1 = w12.heap.size) := hv1
        clear hW13 hv1
        go_wp2_with fail
        rw [← HW13.out, ← Hv1.out]
        clear HW13 Hv1
        refine (parse_of (z := A) HU.out.1 HU.out.2 HZD.out (by rw [HZV.out]; exact HZA.out) (by omega) _).mono ?_
        rintro e w14 ⟨v, rfl, hv, b⟩
        obtain ⟨cn, co, cl, cc, rfl, ic⟩ := hv.see sa (by decide)
        clear hv
        replace ia := ia.below b
        replace ib := ib.below b
        replace q0 := q0.below b
        replace p1 := p1.below b
        replace hb := bstep hb b
        clear b
        obtain ⟨W15, hW15⟩ : ∃ W, W = w14.alloc (.cells #[.bool cn, .slice co cl cc] 25) := ⟨_, rfl⟩
        have p2 : ICell W15 w14.heap.size cn (.slice co cl cc) := by rw [hW15]; exact icell_new _ rfl
        have b : Below w14.heap.size w14 W15 := by rw [hW15]; exact belowA _ _
        replace ia := ia.below b
        replace ib := ib.below b
        replace ic := ic.below b
        replace q0 := q0.below b
        replace p1 := p1.below b
        replace hb := bstep hb b
        clear b
        obtain ⟨v2, hv2⟩ : ∃ v, v = w14.heap.size := ⟨_, rfl⟩
        rw [← hv2] at p2
        have HW15 : Hid (W15 = w14.alloc (.cells #[.bool cn, .slice co cl cc] 25)) := hW15
        have Hv2 : Hid (v2 = w14.heap.size) := hv2
        clear hW15 hv2
        go_wp2_with fail
        rw [← HW15.out, ← Hv2.out]
        clear HW15 Hv2
        obtain ⟨E, hE⟩ : ∃ E, E = zv true n := ⟨_, rfl⟩
        have HE0 : Hid (E = zv true n) := hE
        have sE : Sz E 30 := ⟨by rw [hE, zv_abs, HN.out]; exact sa.lt⟩
        have hEl : E ≤ 0 := by rw [hE]; unfold zv; simp
        have HEA : Hid ((E.natAbs : Int) = (A.natAbs : Int)) := by show _ = _; rw [hE, zv_abs, HN.out]
        clear hE
        refine (parse_of (z := E) HDT.out.1 HDT.out.2 HD.out (by rw [HV.out]; exact HE0.out.symm) (by omega) _).mono ?_
        rintro e w16 ⟨v, rfl, hv, b⟩
        obtain ⟨dn, do_, dl, dc, rfl, id_⟩ := hv.see sE (by decide)
        clear hv
        replace ia := ia.below b
        replace ib := ib.below b
        replace ic := ic.below b
        replace q0 := q0.below b
        replace p1 := p1.below b
        replace p2 := p2.below b
        replace hb := bstep hb b
        clear b
        obtain ⟨W17, hW17⟩ : ∃ W, W = w16.alloc (.cells #[.bool dn, .slice do_ dl dc] 25) := ⟨_, rfl⟩
        have p3 : ICell W17 w16.heap.size dn (.slice do_ dl dc) := by rw [hW17]; exact icell_new _ rfl
        have b : Below w16.heap.size w16 W17 := by rw [hW17]; exact belowA _ _
        replace ia := ia.below b
        replace ib := ib.below b
        replace ic := ic.below b
        replace id_ := id_.below b
        replace q0 := q0.below b
        replace p1 := p1.below b
        replace p2 := p2.below b
        replace hb := bstep hb b
        clear b
        obtain ⟨v3, hv3⟩ : ∃ v, v = w16.heap.size := ⟨_, rfl⟩
        rw [← hv3] at p3
        have HW17 : Hid (W17 = w16.alloc (.cells #[.bool dn, .slice do_ dl dc] 25)) := hW17
        have Hv3 : Hid (v3 = w16.heap.size) := hv3
        clear hW17 hv3
        go_wp2_with fail
        rw [← HW17.out, ← Hv3.out]
        clear HW17 Hv3
        have hp := parse_plus (s := t) (by rw [HFP.out]; omega) W17
        rw [HFP.out] at hp
        refine hp.mono ?_
        rintro e w18 ⟨rfl, b⟩
        clear hp
        replace ia := ia.below b
        replace ib := ib.below b
        replace ic := ic.below b
        replace id_ := id_.below b
        replace q0 := q0.below b
        replace p1 := p1.below b
        replace p2 := p2.below b
        replace p3 := p3.below b
        replace hb := bstep hb b
        clear b
        obtain ⟨W19, hW19⟩ : ∃ W, W = w18.alloc (.cells #[.bool false, .slice none 0 0] 25) := ⟨_, rfl⟩
        have b : Below w18.heap.size w18 W19 := by rw [hW19]; exact belowA _ _
        replace ia := ia.below b
        replace ib := ib.below b
        replace ic := ic.below b
        replace id_ := id_.below b
        replace q0 := q0.below b
        replace p1 := p1.below b
        replace p2 := p2.below b
        replace p3 := p3.below b
        replace hb := bstep hb b
        clear b
        have HW19 : Hid (W19 = w18.alloc (.cells #[.bool false, .slice none 0 0] 25)) := hW19
        clear hW19
        by_cases h1 : 1 < t.size
        · have hgt := bt_get (s := t) (i := 0) ht0
          obtain ⟨ch, hch⟩ : ∃ c, c = bt t 0 := ⟨_, rfl⟩
          have hc48 : ¬ ch = 48 := by rw [hch]; exact HF.out h1
          rw [← hch] at hgt
          have h1i : (1 : Int) < (t.size : Int) := by omega
          have hc48i : ((ch : Int) == 48) = false := ne48 hc48
          clear hch h1
          go_wp2_with fail
          rw [← HW19.out]
          clear HW19
          obtain ⟨cd, hcd⟩ : ∃ c, c = cmpZ E 0 := ⟨_, rfl⟩
          have HCD : Hid (cmpZ E 0 = cd) := hcd.symm
          have hcd0 : cd ≤ 0 := by rw [hcd]; exact cmp_np hEl
          clear hcd
          have Hb35 : Hid (decide ((E.natAbs : Int) = (A.natAbs : Int)) = true) := decide_eq_true (HEA.out)
          refine region_late [(2, fun w' => w'.cell? ⟨g, 0, none⟩ = some (.bool na) ∧ w'.cell? ⟨g, 1, none⟩ = some (.slice ao al ac)), (3, fun w' => w'.cell? ⟨v1, 0, none⟩ = some (.bool bn) ∧ w'.cell? ⟨v1, 1, none⟩ = some (.slice bo bl bc)), (7, fun w' => w'.cell? ⟨g, 0, none⟩ = some (.bool na) ∧ w'.cell? ⟨g, 1, none⟩ = some (.slice ao al ac)), (8, fun w' => w'.cell? ⟨v2, 0, none⟩ = some (.bool cn) ∧ w'.cell? ⟨v2, 1, none⟩ = some (.slice co cl cc)), (12, fun w' => w'.cell? ⟨v3, 0, none⟩ = some (.bool dn) ∧ w'.cell? ⟨v3, 1, none⟩ = some (.slice do_ dl dc)), (14, fun w' => w'.cell? ⟨g, 0, none⟩ = some (.bool na) ∧ w'.cell? ⟨g, 1, none⟩ = some (.slice ao al ac)), (19, fun w' => w'.cell? ⟨v3, 0, none⟩ = some (.bool dn) ∧ w'.cell? ⟨v3, 1, none⟩ = some (.slice do_ dl dc))] (by kernel_rfl) ?_
          have hHeld : AllL W19.drew [(2, fun w' => w'.cell? ⟨g, 0, none⟩ = some (.bool na) ∧ w'.cell? ⟨g, 1, none⟩ = some (.slice ao al ac)), (3, fun w' => w'.cell? ⟨v1, 0, none⟩ = some (.bool bn) ∧ w'.cell? ⟨v1, 1, none⟩ = some (.slice bo bl bc)), (7, fun w' => w'.cell? ⟨g, 0, none⟩ = some (.bool na) ∧ w'.cell? ⟨g, 1, none⟩ = some (.slice ao al ac)), (8, fun w' => w'.cell? ⟨v2, 0, none⟩ = some (.bool cn) ∧ w'.cell? ⟨v2, 1, none⟩ = some (.slice co cl cc)), (12, fun w' => w'.cell? ⟨v3, 0, none⟩ = some (.bool dn) ∧ w'.cell? ⟨v3, 1, none⟩ = some (.slice do_ dl dc)), (14, fun w' => w'.cell? ⟨g, 0, none⟩ = some (.bool na) ∧ w'.cell? ⟨g, 1, none⟩ = some (.slice ao al ac)), (19, fun w' => w'.cell? ⟨v3, 0, none⟩ = some (.bool dn) ∧ w'.cell? ⟨v3, 1, none⟩ = some (.slice do_ dl dc))] := ⟨(show ICell W19.drew (g) na (.slice ao al ac) from q0).cells, (show ICell W19.drew (v1) bn (.slice bo bl bc) from p1).cells, (show ICell W19.drew (g) na (.slice ao al ac) from q0).cells, (show ICell W19.drew (v2) cn (.slice co cl cc) from p2).cells, (show ICell W19.drew (v3) dn (.slice do_ dl dc) from p3).cells, (show ICell W19.drew (g) na (.slice ao al ac) from q0).cells, (show ICell W19.drew (v3) dn (.slice do_ dl dc) from p3).cells, trivial⟩
          refine late_free 0 (v := .bool true) rfl (by kernel_rfl) (by kernel_rfl) (by kernel_rfl) (by kernel_rfl) (by kernel_rfl) (by kernel_rfl) (fun _ _ _ h => h) (Or.inl ⟨by rfl, ?_⟩) hHeld ?_
          · (intro u _; go_simp)
          (try simp only [Act.put, List.setIfInBounds_toArray, List.set_cons_zero, List.set_cons_succ])
          refine late_free 1 (v := .bool true) rfl (by kernel_rfl) (by kernel_rfl) (by kernel_rfl) (by kernel_rfl) (by kernel_rfl) (by kernel_rfl) (fun _ _ _ h => h) (Or.inl ⟨by rfl, ?_⟩) hHeld ?_
          · (intro u _; go_simp)
          (try simp only [Act.put, List.setIfInBounds_toArray, List.set_cons_zero, List.set_cons_succ])
          refine late_take 2 (v := .agg #[.bool na, .slice ao al ac]) rfl (by kernel_rfl) (List.Mem.head _) (by kernel_rfl) (by kernel_rfl) (by kernel_rfl) (by kernel_rfl) (fun _ _ _ h => h) (Or.inl ⟨by rfl, ?_⟩) hHeld ?_
          · (intro u hu; (try dsimp only at hu); go_split_ands; go_simp)
          (try simp only [Act.put, List.setIfInBounds_toArray, List.set_cons_zero, List.set_cons_succ])
          refine late_take 3 (v := .agg #[.bool bn, .slice bo bl bc]) rfl (by kernel_rfl) (List.Mem.tail _ (List.Mem.head _)) (by kernel_rfl) (by kernel_rfl) (by kernel_rfl) (by kernel_rfl) (fun _ _ _ h => h) (Or.inl ⟨by rfl, ?_⟩) hHeld ?_
          · (intro u hu; (try dsimp only at hu); go_split_ands; go_simp)
          (try simp only [Act.put, List.setIfInBounds_toArray, List.set_cons_zero, List.set_cons_succ])
          refine late_step 4 (by kernel_rfl) rfl (fun K hK => ?_)
          go_simp
          refine (lequal_any (ia.below (below_drew' _)) (ib.below (below_drew' _))).mono ?_
          rw [show decide (A = A) = true from decide_eq_true rfl]
          rintro e w31 ⟨rfl, b31⟩
          have B31 : Below W19.heap.size W19 w31 := bstep (below_drew' _) b31
          clear hHeld
          have hHeld : AllL w31 [(2, fun w' => w'.cell? ⟨g, 0, none⟩ = some (.bool na) ∧ w'.cell? ⟨g, 1, none⟩ = some (.slice ao al ac)), (3, fun w' => w'.cell? ⟨v1, 0, none⟩ = some (.bool bn) ∧ w'.cell? ⟨v1, 1, none⟩ = some (.slice bo bl bc)), (7, fun w' => w'.cell? ⟨g, 0, none⟩ = some (.bool na) ∧ w'.cell? ⟨g, 1, none⟩ = some (.slice ao al ac)), (8, fun w' => w'.cell? ⟨v2, 0, none⟩ = some (.bool cn) ∧ w'.cell? ⟨v2, 1, none⟩ = some (.slice co cl cc)), (12, fun w' => w'.cell? ⟨v3, 0, none⟩ = some (.bool dn) ∧ w'.cell? ⟨v3, 1, none⟩ = some (.slice do_ dl dc)), (14, fun w' => w'.cell? ⟨g, 0, none⟩ = some (.bool na) ∧ w'.cell? ⟨g, 1, none⟩ = some (.slice ao al ac)), (19, fun w' => w'.cell? ⟨v3, 0, none⟩ = some (.bool dn) ∧ w'.cell? ⟨v3, 1, none⟩ = some (.slice do_ dl dc))] := ⟨(q0.below B31).cells, (p1.below B31).cells, (q0.below B31).cells, (p2.below B31).cells, (p3.below B31).cells, (q0.below B31).cells, (p3.below B31).cells, trivial⟩
          go_wp2_with fail
          refine hK.out _ _ (AllL.kept hHeld) ?_
          clear hK K
          (try simp only [Act.put, List.setIfInBounds_toArray, List.set_cons_zero, List.set_cons_succ])
          refine late_free 5 (v := .bool true) rfl (by kernel_rfl) (by kernel_rfl) (by kernel_rfl) (by kernel_rfl) (by kernel_rfl) (by kernel_rfl) (fun _ _ _ h => h) (Or.inl ⟨by rfl, ?_⟩) hHeld ?_
          · (intro u _; go_simp)
          (try simp only [Act.put, List.setIfInBounds_toArray, List.set_cons_zero, List.set_cons_succ])
          refine late_free 6 (v := .bool true) rfl (by kernel_rfl) (by kernel_rfl) (by kernel_rfl) (by kernel_rfl) (by kernel_rfl) (by kernel_rfl) (fun _ _ _ h => h) (Or.inl ⟨by rfl, ?_⟩) hHeld ?_
          · (intro u _; go_simp)
          (try simp only [Act.put, List.setIfInBounds_toArray, List.set_cons_zero, List.set_cons_succ])
          refine late_take 7 (v := .agg #[.bool na, .slice ao al ac]) rfl (by kernel_rfl) (List.Mem.tail _ (List.Mem.tail _ (List.Mem.head _))) (by kernel_rfl) (by kernel_rfl) (by kernel_rfl) (by kernel_rfl) (fun _ _ _ h => h) (Or.inl ⟨by rfl, ?_⟩) hHeld ?_
          · (intro u hu; (try dsimp only at hu); go_split_ands; go_simp)
          (try simp only [Act.put, List.setIfInBounds_toArray, List.set_cons_zero, List.set_cons_succ])
          refine late_take 8 (v := .agg #[.bool cn, .slice co cl cc]) rfl (by kernel_rfl) (List.Mem.tail _ (List.Mem.tail _ (List.Mem.tail _ (List.Mem.head _)))) (by kernel_rfl) (by kernel_rfl) (by kernel_rfl) (by kernel_rfl) (fun _ _ _ h => h) (Or.inl ⟨by rfl, ?_⟩) hHeld ?_
          · (intro u hu; (try dsimp only at hu); go_split_ands; go_simp)
          (try simp only [Act.put, List.setIfInBounds_toArray, List.set_cons_zero, List.set_cons_succ])
          refine late_step 9 (by kernel_rfl) rfl (fun K hK => ?_)
          go_simp
          refine (lequal_any ((ia.below (below_drew' _)).below b31) ((ic.below (below_drew' _)).below b31)).mono ?_
          rw [show decide (A = A) = true from decide_eq_true rfl]
          rintro e w32 ⟨rfl, b32⟩
          have B32 : Below W19.heap.size W19 w32 := bstep B31 b32
          clear hHeld
          have hHeld : AllL w32 [(2, fun w' => w'.cell? ⟨g, 0, none⟩ = some (.bool na) ∧ w'.cell? ⟨g, 1, none⟩ = some (.slice ao al ac)), (3, fun w' => w'.cell? ⟨v1, 0, none⟩ = some (.bool bn) ∧ w'.cell? ⟨v1, 1, none⟩ = some (.slice bo bl bc)), (7, fun w' => w'.cell? ⟨g, 0, none⟩ = some (.bool na) ∧ w'.cell? ⟨g, 1, none⟩ = some (.slice ao al ac)), (8, fun w' => w'.cell? ⟨v2, 0, none⟩ = some (.bool cn) ∧ w'.cell? ⟨v2, 1, none⟩ = some (.slice co cl cc)), (12, fun w' => w'.cell? ⟨v3, 0, none⟩ = some (.bool dn) ∧ w'.cell? ⟨v3, 1, none⟩ = some (.slice do_ dl dc)), (14, fun w' => w'.cell? ⟨g, 0, none⟩ = some (.bool na) ∧ w'.cell? ⟨g, 1, none⟩ = some (.slice ao al ac)), (19, fun w' => w'.cell? ⟨v3, 0, none⟩ = some (.bool dn) ∧ w'.cell? ⟨v3, 1, none⟩ = some (.slice do_ dl dc))] := ⟨(q0.below B32).cells, (p1.below B32).cells, (q0.below B32).cells, (p2.below B32).cells, (p3.below B32).cells, (q0.below B32).cells, (p3.below B32).cells, trivial⟩
          go_wp2_with fail
          refine hK.out _ _ (AllL.kept hHeld) ?_
          clear hK K
          (try simp only [Act.put, List.setIfInBounds_toArray, List.set_cons_zero, List.set_cons_succ])
          refine late_free 10 (v := .bool true) rfl (by kernel_rfl) (by kernel_rfl) (by kernel_rfl) (by kernel_rfl) (by kernel_rfl) (by kernel_rfl) (fun _ _ _ h => h) (Or.inl ⟨by rfl, ?_⟩) hHeld ?_
          · (intro u _; go_simp)
          (try simp only [Act.put, List.setIfInBounds_toArray, List.set_cons_zero, List.set_cons_succ])
          refine late_free 11 (v := .bool true) rfl (by kernel_rfl) (by kernel_rfl) (by kernel_rfl) (by kernel_rfl) (by kernel_rfl) (by kernel_rfl) (fun _ _ _ h => h) (Or.inl ⟨by rfl, ?_⟩) hHeld ?_
          · (intro u _; go_simp)
          (try simp only [Act.put, List.setIfInBounds_toArray, List.set_cons_zero, List.set_cons_succ])
          refine late_take 12 (v := .agg #[.bool dn, .slice do_ dl dc]) rfl (by kernel_rfl) (List.Mem.tail _ (List.Mem.tail _ (List.Mem.tail _ (List.Mem.tail _ (List.Mem.head _))))) (by kernel_rfl) (by kernel_rfl) (by kernel_rfl) (by kernel_rfl) (fun _ _ _ h => h) (Or.inl ⟨by rfl, ?_⟩) hHeld ?_
          · (intro u hu; (try dsimp only at hu); go_split_ands; go_simp)
          (try simp only [Act.put, List.setIfInBounds_toArray, List.set_cons_zero, List.set_cons_succ])
          refine late_take 14 (v := .agg #[.bool na, .slice ao al ac]) rfl (by kernel_rfl) (List.Mem.tail _ (List.Mem.tail _ (List.Mem.tail _ (List.Mem.tail _ (List.Mem.tail _ (List.Mem.head _)))))) (by kernel_rfl) (by kernel_rfl) (by kernel_rfl) (by kernel_rfl) (fun _ _ _ h => h) (Or.inl ⟨by rfl, ?_⟩) hHeld ?_
          · (intro u hu; (try dsimp only at hu); go_split_ands; go_simp)
          (try simp only [Act.put, List.setIfInBounds_toArray, List.set_cons_zero, List.set_cons_succ])
          refine late_step 13 (by kernel_rfl) rfl (fun K hK => ?_)
          go_simp
          refine (lsize_any (((id_.below (below_drew' _)).below b31).below b32)).mono ?_
          rintro e w33 ⟨rfl, im117, b33⟩
          have B33 : Below W19.heap.size W19 w33 := bstep B32 b33
          clear hHeld
          have hHeld : AllL w33 [(2, fun w' => w'.cell? ⟨g, 0, none⟩ = some (.bool na) ∧ w'.cell? ⟨g, 1, none⟩ = some (.slice ao al ac)), (3, fun w' => w'.cell? ⟨v1, 0, none⟩ = some (.bool bn) ∧ w'.cell? ⟨v1, 1, none⟩ = some (.slice bo bl bc)), (7, fun w' => w'.cell? ⟨g, 0, none⟩ = some (.bool na) ∧ w'.cell? ⟨g, 1, none⟩ = some (.slice ao al ac)), (8, fun w' => w'.cell? ⟨v2, 0, none⟩ = some (.bool cn) ∧ w'.cell? ⟨v2, 1, none⟩ = some (.slice co cl cc)), (12, fun w' => w'.cell? ⟨v3, 0, none⟩ = some (.bool dn) ∧ w'.cell? ⟨v3, 1, none⟩ = some (.slice do_ dl dc)), (14, fun w' => w'.cell? ⟨g, 0, none⟩ = some (.bool na) ∧ w'.cell? ⟨g, 1, none⟩ = some (.slice ao al ac)), (19, fun w' => w'.cell? ⟨v3, 0, none⟩ = some (.bool dn) ∧ w'.cell? ⟨v3, 1, none⟩ = some (.slice do_ dl dc))] := ⟨(q0.below B33).cells, (p1.below B33).cells, (q0.below B33).cells, (p2.below B33).cells, (p3.below B33).cells, (q0.below B33).cells, (p3.below B33).cells, trivial⟩
          go_wp2_with fail
          refine hK.out _ _ (AllL.kept hHeld) ?_
          clear hK K
          (try simp only [Act.put, List.setIfInBounds_toArray, List.set_cons_zero, List.set_cons_succ])
          refine late_step 15 (by kernel_rfl) rfl (fun K hK => ?_)
          go_simp
          refine (lsize_any ((((ia.below (below_drew' _)).below b31).below b32).below b33)).mono ?_
          rintro e w34 ⟨rfl, im119, b34⟩
          have B34 : Below W19.heap.size W19 w34 := bstep B33 b34
          clear hHeld
          have hHeld : AllL w34 [(2, fun w' => w'.cell? ⟨g, 0, none⟩ = some (.bool na) ∧ w'.cell? ⟨g, 1, none⟩ = some (.slice ao al ac)), (3, fun w' => w'.cell? ⟨v1, 0, none⟩ = some (.bool bn) ∧ w'.cell? ⟨v1, 1, none⟩ = some (.slice bo bl bc)), (7, fun w' => w'.cell? ⟨g, 0, none⟩ = some (.bool na) ∧ w'.cell? ⟨g, 1, none⟩ = some (.slice ao al ac)), (8, fun w' => w'.cell? ⟨v2, 0, none⟩ = some (.bool cn) ∧ w'.cell? ⟨v2, 1, none⟩ = some (.slice co cl cc)), (12, fun w' => w'.cell? ⟨v3, 0, none⟩ = some (.bool dn) ∧ w'.cell? ⟨v3, 1, none⟩ = some (.slice do_ dl dc)), (14, fun w' => w'.cell? ⟨g, 0, none⟩ = some (.bool na) ∧ w'.cell? ⟨g, 1, none⟩ = some (.slice ao al ac)), (19, fun w' => w'.cell? ⟨v3, 0, none⟩ = some (.bool dn) ∧ w'.cell? ⟨v3, 1, none⟩ = some (.slice do_ dl dc))] := ⟨(q0.below B34).cells, (p1.below B34).cells, (q0.below B34).cells, (p2.below B34).cells, (p3.below B34).cells, (q0.below B34).cells, (p3.below B34).cells, trivial⟩
          go_wp2_with fail
          refine hK.out _ _ (AllL.kept hHeld) ?_
          clear hK K
          (try simp only [Act.put, List.setIfInBounds_toArray, List.set_cons_zero, List.set_cons_succ])
          refine late_step 16 (by kernel_rfl) rfl (fun K hK => ?_)
          go_simp
          refine (lequal_any (im117.below b34) im119).mono ?_
          rw [Hb35.out]
          rintro e w35 ⟨rfl, b35⟩
          have B35 : Below W19.heap.size W19 w35 := bstep B34 b35
          clear hHeld
          have hHeld : AllL w35 [(2, fun w' => w'.cell? ⟨g, 0, none⟩ = some (.bool na) ∧ w'.cell? ⟨g, 1, none⟩ = some (.slice ao al ac)), (3, fun w' => w'.cell? ⟨v1, 0, none⟩ = some (.bool bn) ∧ w'.cell? ⟨v1, 1, none⟩ = some (.slice bo bl bc)), (7, fun w' => w'.cell? ⟨g, 0, none⟩ = some (.bool na) ∧ w'.cell? ⟨g, 1, none⟩ = some (.slice ao al ac)), (8, fun w' => w'.cell? ⟨v2, 0, none⟩ = some (.bool cn) ∧ w'.cell? ⟨v2, 1, none⟩ = some (.slice co cl cc)), (12, fun w' => w'.cell? ⟨v3, 0, none⟩ = some (.bool dn) ∧ w'.cell? ⟨v3, 1, none⟩ = some (.slice do_ dl dc)), (14, fun w' => w'.cell? ⟨g, 0, none⟩ = some (.bool na) ∧ w'.cell? ⟨g, 1, none⟩ = some (.slice ao al ac)), (19, fun w' => w'.cell? ⟨v3, 0, none⟩ = some (.bool dn) ∧ w'.cell? ⟨v3, 1, none⟩ = some (.slice do_ dl dc))] := ⟨(q0.below B35).cells, (p1.below B35).cells, (q0.below B35).cells, (p2.below B35).cells, (p3.below B35).cells, (q0.below B35).cells, (p3.below B35).cells, trivial⟩
          go_wp2_with fail
          refine hK.out _ _ (AllL.kept hHeld) ?_
          clear hK K
          (try simp only [Act.put, List.setIfInBounds_toArray, List.set_cons_zero, List.set_cons_succ])
          refine late_free 17 (v := .bool true) rfl (by kernel_rfl) (by kernel_rfl) (by kernel_rfl) (by kernel_rfl) (by kernel_rfl) (by kernel_rfl) (fun _ _ _ h => h) (Or.inl ⟨by rfl, ?_⟩) hHeld ?_
          · (intro u _; go_simp)
          (try simp only [Act.put, List.setIfInBounds_toArray, List.set_cons_zero, List.set_cons_succ])
          refine late_free 18 (v := .bool true) rfl (by kernel_rfl) (by kernel_rfl) (by kernel_rfl) (by kernel_rfl) (by kernel_rfl) (by kernel_rfl) (fun _ _ _ h => h) (Or.inl ⟨by rfl, ?_⟩) hHeld ?_
          · (intro u _; go_simp)
          (try simp only [Act.put, List.setIfInBounds_toArray, List.set_cons_zero, List.set_cons_succ])
          refine late_take 19 (v := .agg #[.bool dn, .slice do_ dl dc]) rfl (by kernel_rfl) (List.Mem.tail _ (List.Mem.tail _ (List.Mem.tail _ (List.Mem.tail _ (List.Mem.tail _ (List.Mem.tail _ (List.Mem.head _))))))) (by kernel_rfl) (by kernel_rfl) (by kernel_rfl) (by kernel_rfl) (fun _ _ _ h => h) (Or.inl ⟨by rfl, ?_⟩) hHeld ?_
          · (intro u hu; (try dsimp only at hu); go_split_ands; go_simp)
          (try simp only [Act.put, List.setIfInBounds_toArray, List.set_cons_zero, List.set_cons_succ])
          refine late_step 20 (by kernel_rfl) rfl (fun K hK => ?_)
          go_simp
          refine (c_sign ((((((id_.below (below_drew' _)).below b31).below b32).below b33).below b34).below b35)).mono ?_
          rw [HCD.out]
          rintro e w36 ⟨rfl, b36⟩
          have B36 : Below W19.heap.size W19 w36 := bstep B35 b36
          clear hHeld
          have hHeld : AllL w36 [(2, fun w' => w'.cell? ⟨g, 0, none⟩ = some (.bool na) ∧ w'.cell? ⟨g, 1, none⟩ = some (.slice ao al ac)), (3, fun w' => w'.cell? ⟨v1, 0, none⟩ = some (.bool bn) ∧ w'.cell? ⟨v1, 1, none⟩ = some (.slice bo bl bc)), (7, fun w' => w'.cell? ⟨g, 0, none⟩ = some (.bool na) ∧ w'.cell? ⟨g, 1, none⟩ = some (.slice ao al ac)), (8, fun w' => w'.cell? ⟨v2, 0, none⟩ = some (.bool cn) ∧ w'.cell? ⟨v2, 1, none⟩ = some (.slice co cl cc)), (12, fun w' => w'.cell? ⟨v3, 0, none⟩ = some (.bool dn) ∧ w'.cell? ⟨v3, 1, none⟩ = some (.slice do_ dl dc)), (14, fun w' => w'.cell? ⟨g, 0, none⟩ = some (.bool na) ∧ w'.cell? ⟨g, 1, none⟩ = some (.slice ao al ac)), (19, fun w' => w'.cell? ⟨v3, 0, none⟩ = some (.bool dn) ∧ w'.cell? ⟨v3, 1, none⟩ = some (.slice do_ dl dc))] := ⟨(q0.below B36).cells, (p1.below B36).cells, (q0.below B36).cells, (p2.below B36).cells, (p3.below B36).cells, (q0.below B36).cells, (p3.below B36).cells, trivial⟩
          go_wp2_with fail
          refine hK.out _ _ (AllL.kept hHeld) ?_
          clear hK K
          (try simp only [Act.put, List.setIfInBounds_toArray, List.set_cons_zero, List.set_cons_succ])
          refine late_free 21 (v := .bool true) rfl (by kernel_rfl) (by kernel_rfl) (by kernel_rfl) (by kernel_rfl) (by kernel_rfl) (by kernel_rfl) (fun _ _ _ h => h) (Or.inl ⟨by rfl, ?_⟩) hHeld ?_
          · (intro u _; go_simp)
          (try simp only [Act.put, List.setIfInBounds_toArray, List.set_cons_zero, List.set_cons_succ])
          refine late_free 22 (v := .bool true) rfl (by kernel_rfl) (by kernel_rfl) (by kernel_rfl) (by kernel_rfl) (by kernel_rfl) (by kernel_rfl) (fun _ _ _ h => h) (Or.inl ⟨by rfl, ?_⟩) hHeld ?_
          · (intro u _; go_simp)
          (try simp only [Act.put, List.setIfInBounds_toArray, List.set_cons_zero, List.set_cons_succ])
          refine late_step 23 (by kernel_rfl) rfl (fun K hK => ?_)
          go_simp
          refine hK.out _ _ ⟨Or.inl ⟨4, by kernel_rfl, by kernel_rfl⟩, Or.inl ⟨4, by kernel_rfl, by kernel_rfl⟩, Or.inl ⟨9, by kernel_rfl, by kernel_rfl⟩, Or.inl ⟨9, by kernel_rfl, by kernel_rfl⟩, Or.inl ⟨13, by kernel_rfl, by kernel_rfl⟩, Or.inl ⟨15, by kernel_rfl, by kernel_rfl⟩, Or.inl ⟨20, by kernel_rfl, by kernel_rfl⟩, trivial⟩ ?_
          clear hK K
          (try simp only [Act.put, List.setIfInBounds_toArray, List.set_cons_zero, List.set_cons_succ])
          refine late_done (by kernel_rfl) ?_ _
          clear hHeld
          have b := B36
          clear b31 b32 b33 b34 b35 b36 B31 B32 B33 B34 B35 B36
          replace ia := ia.below b
          replace ib := ib.below b
          replace ic := ic.below b
          replace id_ := id_.below b
          replace q0 := q0.below b
          replace p1 := p1.below b
          replace p2 := p2.below b
          replace p3 := p3.below b
          replace hb := bstep hb b
          clear b
          clear im117 im119
          have HE : Hid (Below w1.heap.size w1 w36) := hb
          clear hb ia ib ic id_ q0 p1 p2 p3
          go_wp2_with fail
          go_ret
          exact ⟨rfl, HE.out⟩
        · have h1i : ¬ (1 : Int) < (t.size : Int) := by omega
          clear h1
          go_wp2_with fail
          rw [← HW19.out]
          clear HW19
          obtain ⟨cd, hcd⟩ : ∃ c, c = cmpZ E 0 := ⟨_, rfl⟩
          have HCD : Hid (cmpZ E 0 = cd) := hcd.symm
          have hcd0 : cd ≤ 0 := by rw [hcd]; exact cmp_np hEl
          clear hcd
          have Hb35 : Hid (decide ((E.natAbs : Int) = (A.natAbs : Int)) = true) := decide_eq_true (HEA.out)
          refine region_late [(2, fun w' => w'.cell? ⟨g, 0, none⟩ = some (.bool na) ∧ w'.cell? ⟨g, 1, none⟩ = some (.slice ao al ac)), (3, fun w' => w'.cell? ⟨v1, 0, none⟩ = some (.bool bn) ∧ w'.cell? ⟨v1, 1, none⟩ = some (.slice bo bl bc)), (7, fun w' => w'.cell? ⟨g, 0, none⟩ = some (.bool na) ∧ w'.cell? ⟨g, 1, none⟩ = some (.slice ao al ac)), (8, fun w' => w'.cell? ⟨v2, 0, none⟩ = some (.bool cn) ∧ w'.cell? ⟨v2, 1, none⟩ = some (.slice co cl cc)), (12, fun w' => w'.cell? ⟨v3, 0, none⟩ = some (.bool dn) ∧ w'.cell? ⟨v3, 1, none⟩ = some (.slice do_ dl dc)), (14, fun w' => w'.cell? ⟨g, 0, none⟩ = some (.bool na) ∧ w'.cell? ⟨g, 1, none⟩ = some (.slice ao al ac)), (19, fun w' => w'.cell? ⟨v3, 0, none⟩ = some (.bool dn) ∧ w'.cell? ⟨v3, 1, none⟩ = some (.slice do_ dl dc))] (by kernel_rfl) ?_
          have hHeld : AllL W19.drew [(2, fun w' => w'.cell? ⟨g, 0, none⟩ = some (.bool na) ∧ w'.cell? ⟨g, 1, none⟩ = some (.slice ao al ac)), (3, fun w' => w'.cell? ⟨v1, 0, none⟩ = some (.bool bn) ∧ w'.cell? ⟨v1, 1, none⟩ = some (.slice bo bl bc)), (7, fun w' => w'.cell? ⟨g, 0, none⟩ = some (.bool na) ∧ w'.cell? ⟨g, 1, none⟩ = some (.slice ao al ac)), (8, fun w' => w'.cell? ⟨v2, 0, none⟩ = some (.bool cn) ∧ w'.cell? ⟨v2, 1, none⟩ = some (.slice co cl cc)), (12, fun w' => w'.cell? ⟨v3, 0, none⟩ = some (.bool dn) ∧ w'.cell? ⟨v3, 1, none⟩ = some (.slice do_ dl dc)), (14, fun w' => w'.cell? ⟨g, 0, none⟩ = some (.bool na) ∧ w'.cell? ⟨g, 1, none⟩ = some (.slice ao al ac)), (19, fun w' => w'.cell? ⟨v3, 0, none⟩ = some (.bool dn) ∧ w'.cell? ⟨v3, 1, none⟩ = some (.slice do_ dl dc))] := ⟨(show ICell W19.drew (g) na (.slice ao al ac) from q0).cells, (show ICell W19.drew (v1) bn (.slice bo bl bc) from p1).cells, (show ICell W19.drew (g) na (.slice ao al ac) from q0).cells, (show ICell W19.drew (v2) cn (.slice co cl cc) from p2).cells, (show ICell W19.drew (v3) dn (.slice do_ dl dc) from p3).cells, (show ICell W19.drew (g) na (.slice ao al ac) from q0).cells, (show ICell W19.drew (v3) dn (.slice do_ dl dc) from p3).cells, trivial⟩
          refine late_free 0 (v := .bool true) rfl (by kernel_rfl) (by kernel_rfl) (by kernel_rfl) (by kernel_rfl) (by kernel_rfl) (by kernel_rfl) (fun _ _ _ h => h) (Or.inl ⟨by rfl, ?_⟩) hHeld ?_
          · (intro u _; go_simp)
          (try simp only [Act.put, List.setIfInBounds_toArray, List.set_cons_zero, List.set_cons_succ])
          refine late_free 1 (v := .bool true) rfl (by kernel_rfl) (by kernel_rfl) (by kernel_rfl) (by kernel_rfl) (by kernel_rfl) (by kernel_rfl) (fun _ _ _ h => h) (Or.inl ⟨by rfl, ?_⟩) hHeld ?_
          · (intro u _; go_simp)
          (try simp only [Act.put, List.setIfInBounds_toArray, List.set_cons_zero, List.set_cons_succ])
          refine late_take 2 (v := .agg #[.bool na, .slice ao al ac]) rfl (by kernel_rfl) (List.Mem.head _) (by kernel_rfl) (by kernel_rfl) (by kernel_rfl) (by kernel_rfl) (fun _ _ _ h => h) (Or.inl ⟨by rfl, ?_⟩) hHeld ?_
          · (intro u hu; (try dsimp only at hu); go_split_ands; go_simp)
          (try simp only [Act.put, List.setIfInBounds_toArray, List.set_cons_zero, List.set_cons_succ])
          refine late_take 3 (v := .agg #[.bool bn, .slice bo bl bc]) rfl (by kernel_rfl) (List.Mem.tail _ (List.Mem.head _)) (by kernel_rfl) (by kernel_rfl) (by kernel_rfl) (by kernel_rfl) (fun _ _ _ h => h) (Or.inl ⟨by rfl, ?_⟩) hHeld ?_
          · (intro u hu; (try dsimp only at hu); go_split_ands; go_simp)
          (try simp only [Act.put, List.setIfInBounds_toArray, List.set_cons_zero, List.set_cons_succ])
          refine late_step 4 (by kernel_rfl) rfl (fun K hK => ?_)
          go_simp
          refine (lequal_any (ia.below (below_drew' _)) (ib.below (below_drew' _))).mono ?_
          rw [show decide (A = A) = true from decide_eq_true rfl]
          rintro e w31 ⟨rfl, b31⟩
          have B31 : Below W19.heap.size W19 w31 := bstep (below_drew' _) b31
          clear hHeld
          have hHeld : AllL w31 [(2, fun w' => w'.cell? ⟨g, 0, none⟩ = some (.bool na) ∧ w'.cell? ⟨g, 1, none⟩ = some (.slice ao al ac)), (3, fun w' => w'.cell? ⟨v1, 0, none⟩ = some (.bool bn) ∧ w'.cell? ⟨v1, 1, none⟩ = some (.slice bo bl bc)), (7, fun w' => w'.cell? ⟨g, 0, none⟩ = some (.bool na) ∧ w'.cell? ⟨g, 1, none⟩ = some (.slice ao al ac)), (8, fun w' => w'.cell? ⟨v2, 0, none⟩ = some (.bool cn) ∧ w'.cell? ⟨v2, 1, none⟩ = some (.slice co cl cc)), (12, fun w' => w'.cell? ⟨v3, 0, none⟩ = some (.bool dn) ∧ w'.cell? ⟨v3, 1, none⟩ = some (.slice do_ dl dc)), (14, fun w' => w'.cell? ⟨g, 0, none⟩ = some (.bool na) ∧ w'.cell? ⟨g, 1, none⟩ = some (.slice ao al ac)), (19, fun w' => w'.cell? ⟨v3, 0, none⟩ = some (.bool dn) ∧ w'.cell? ⟨v3, 1, none⟩ = some (.slice do_ dl dc))] := ⟨(q0.below B31).cells, (p1.below B31).cells, (q0.below B31).cells, (p2.below B31).cells, (p3.below B31).cells, (q0.below B31).cells, (p3.below B31).cells, trivial⟩
          go_wp2_with fail
          refine hK.out _ _ (AllL.kept hHeld) ?_
          clear hK K
          (try simp only [Act.put, List.setIfInBounds_toArray, List.set_cons_zero, List.set_cons_succ])
          refine late_free 5 (v := .bool true) rfl (by kernel_rfl) (by kernel_rfl) (by kernel_rfl) (by kernel_rfl) (by kernel_rfl) (by kernel_rfl) (fun _ _ _ h => h) (Or.inl ⟨by rfl, ?_⟩) hHeld ?_
          · (intro u _; go_simp)
          (try simp only [Act.put, List.setIfInBounds_toArray, List.set_cons_zero, List.set_cons_succ])
          refine late_free 6 (v := .bool true) rfl (by kernel_rfl) (by kernel_rfl) (by kernel_rfl) (by kernel_rfl) (by kernel_rfl) (by kernel_rfl) (fun _ _ _ h => h) (Or.inl ⟨by rfl, ?_⟩) hHeld ?_
          · (intro u _; go_simp)
          (try simp only [Act.put, List.setIfInBounds_toArray, List.set_cons_zero, List.set_cons_succ])
          refine late_take 7 (v := .agg #[.bool na, .slice ao al ac]) rfl (by kernel_rfl) (List.Mem.tail _ (List.Mem.tail _ (List.Mem.head _))) (by kernel_rfl) (by kernel_rfl) (by kernel_rfl) (by kernel_rfl) (fun _ _ _ h => h) (Or.inl ⟨by rfl, ?_⟩) hHeld ?_
          · (intro u hu; (try dsimp only at hu); go_split_ands; go_simp)
          (try simp only [Act.put, List.setIfInBounds_toArray, List.set_cons_zero, List.set_cons_succ])
          refine late_take 8 (v := .agg #[.bool cn, .slice co cl cc]) rfl (by kernel_rfl) (List.Mem.tail _ (List.Mem.tail _ (List.Mem.tail _ (List.Mem.head _)))) (by kernel_rfl) (by kernel_rfl) (by kernel_rfl) (by kernel_rfl) (fun _ _ _ h => h) (Or.inl ⟨by rfl, ?_⟩) hHeld ?_
          · (intro u hu; (try dsimp only at hu); go_split_ands; go_simp)
          (try simp only [Act.put, List.setIfInBounds_toArray, List.set_cons_zero, List.set_cons_succ])
          refine late_step 9 (by kernel_rfl) rfl (fun K hK => ?_)
          go_simp
          refine (lequal_any ((ia.below (below_drew' _)).below b31) ((ic.below (below_drew' _)).below b31)).mono ?_
          rw [show decide (A = A) = true from decide_eq_true rfl]
          rintro e w32 ⟨rfl, b32⟩
          have B32 : Below W19.heap.size W19 w32 := bstep B31 b32
          clear hHeld
          have hHeld : AllL w32 [(2, fun w' => w'.cell? ⟨g, 0, none⟩ = some (.bool na) ∧ w'.cell? ⟨g, 1, none⟩ = some (.slice ao al ac)), (3, fun w' => w'.cell? ⟨v1, 0, none⟩ = some (.bool bn) ∧ w'.cell? ⟨v1, 1, none⟩ = some (.slice bo bl bc)), (7, fun w' => w'.cell? ⟨g, 0, none⟩ = some (.bool na) ∧ w'.cell? ⟨g, 1, none⟩ = some (.slice ao al ac)), (8, fun w' => w'.cell? ⟨v2, 0, none⟩ = some (.bool cn) ∧ w'.cell? ⟨v2, 1, none⟩ = some (.slice co cl cc)), (12, fun w' => w'.cell? ⟨v3, 0, none⟩ = some (.bool dn) ∧ w'.cell? ⟨v3, 1, none⟩ = some (.slice do_ dl dc)), (14, fun w' => w'.cell? ⟨g, 0, none⟩ = some (.bool na) ∧ w'.cell? ⟨g, 1, none⟩ = some (.slice ao al ac)), (19, fun w' => w'.cell? ⟨v3, 0, none⟩ = some (.bool dn) ∧ w'.cell? ⟨v3, 1, none⟩ = some (.slice do_ dl dc))] := ⟨(q0.below B32).cells, (p1.below B32).cells, (q0.below B32).cells, (p2.below B32).cells, (p3.below B32).cells, (q0.below B32).cells, (p3.below B32).cells, trivial⟩
          go_wp2_with fail
          refine hK.out _ _ (AllL.kept hHeld) ?_
          clear hK K
          (try simp only [Act.put, List.setIfInBounds_toArray, List.set_cons_zero, List.set_cons_succ])
          refine late_free 10 (v := .bool true) rfl (by kernel_rfl) (by kernel_rfl) (by kernel_rfl) (by kernel_rfl) (by kernel_rfl) (by kernel_rfl) (fun _ _ _ h => h) (Or.inl ⟨by rfl, ?_⟩) hHeld ?_
          · (intro u _; go_simp)
          (try simp only [Act.put, List.setIfInBounds_toArray, List.set_cons_zero, List.set_cons_succ])
          refine late_free 11 (v := .bool true) rfl (by kernel_rfl) (by kernel_rfl) (by kernel_rfl) (by kernel_rfl) (by kernel_rfl) (by kernel_rfl) (fun _ _ _ h => h) (Or.inl ⟨by rfl, ?_⟩) hHeld ?_
          · (intro u _; go_simp)
          (try simp only [Act.put, List.setIfInBounds_toArray, List.set_cons_zero, List.set_cons_succ])
          refine late_take 12 (v := .agg #[.bool dn, .slice do_ dl dc]) rfl (by kernel_rfl) (List.Mem.tail _ (List.Mem.tail _ (List.Mem.tail _ (List.Mem.tail _ (List.Mem.head _))))) (by kernel_rfl) (by kernel_rfl) (by kernel_rfl) (by kernel_rfl) (fun _ _ _ h => h) (Or.inl ⟨by rfl, ?_⟩) hHeld ?_
          · (intro u hu; (try dsimp only at hu); go_split_ands; go_simp)
          (try simp only [Act.put, List.setIfInBounds_toArray, List.set_cons_zero, List.set_cons_succ])
          refine late_take 14 (v := .agg #[.bool na, .slice ao al ac]) rfl (by kernel_rfl) (List.Mem.tail _ (List.Mem.tail _ (List.Mem.tail _ (List.Mem.tail _ (List.Mem.tail _ (List.Mem.head _)))))) (by kernel_rfl) (by kernel_rfl) (by kernel_rfl) (by kernel_rfl) (fun _ _ _ h => h) (Or.inl ⟨by rfl, ?_⟩) hHeld ?_
          · (intro u hu; (try dsimp only at hu); go_split_ands; go_simp)
          (try simp only [Act.put, List.setIfInBounds_toArray, List.set_cons_zero, List.set_cons_succ])
          refine late_step 13 (by kernel_rfl) rfl (fun K hK => ?_)
          go_simp
          refine (lsize_any (((id_.below (below_drew' _)).below b31).below b32)).mono ?_
          rintro e w33 ⟨rfl, im117, b33⟩
          have B33 : Below W19.heap.size W19 w33 := bstep B32 b33
          clear hHeld
          have hHeld : AllL w33 [(2, fun w' => w'.cell? ⟨g, 0, none⟩ = some (.bool na) ∧ w'.cell? ⟨g, 1, none⟩ = some (.slice ao al ac)), (3, fun w' => w'.cell? ⟨v1, 0, none⟩ = some (.bool bn) ∧ w'.cell? ⟨v1, 1, none⟩ = some (.slice bo bl bc)), (7, fun w' => w'.cell? ⟨g, 0, none⟩ = some (.bool na) ∧ w'.cell? ⟨g, 1, none⟩ = some (.slice ao al ac)), (8, fun w' => w'.cell? ⟨v2, 0, none⟩ = some (.bool cn) ∧ w'.cell? ⟨v2, 1, none⟩ = some (.slice co cl cc)), (12, fun w' => w'.cell? ⟨v3, 0, none⟩ = some (.bool dn) ∧ w'.cell? ⟨v3, 1, none⟩ = some (.slice do_ dl dc)), (14, fun w' => w'.cell? ⟨g, 0, none⟩ = some (.bool na) ∧ w'.cell? ⟨g, 1, none⟩ = some (.slice ao al ac)), (19, fun w' => w'.cell? ⟨v3, 0, none⟩ = some (.bool dn) ∧ w'.cell? ⟨v3, 1, none⟩ = some (.slice do_ dl dc))] := ⟨(q0.below B33).cells, (p1.below B33).cells, (q0.below B33).cells, (p2.below B33).cells, (p3.below B33).cells, (q0.below B33).cells, (p3.below B33).cells, trivial⟩
          go_wp2_with fail
          refine hK.out _ _ (AllL.kept hHeld) ?_
          clear hK K
          (try simp only [Act.put, List.setIfInBounds_toArray, List.set_cons_zero, List.set_cons_succ])
          refine late_step 15 (by kernel_rfl) rfl (fun K hK => ?_)
          go_simp
          refine (lsize_any ((((ia.below (below_drew' _)).below b31).below b32).below b33)).mono ?_
          rintro e w34 ⟨rfl, im119, b34⟩
          have B34 : Below W19.heap.size W19 w34 := bstep B33 b34
          clear hHeld
          have hHeld : AllL w34 [(2, fun w' => w'.cell? ⟨g, 0, none⟩ = some (.bool na) ∧ w'.cell? ⟨g, 1, none⟩ = some (.slice ao al ac)), (3, fun w' => w'.cell? ⟨v1, 0, none⟩ = some (.bool bn) ∧ w'.cell? ⟨v1, 1, none⟩ = some (.slice bo bl bc)), (7, fun w' => w'.cell? ⟨g, 0, none⟩ = some (.bool na) ∧ w'.cell? ⟨g, 1, none⟩ = some (.slice ao al ac)), (8, fun w' => w'.cell? ⟨v2, 0, none⟩ = some (.bool cn) ∧ w'.cell? ⟨v2, 1, none⟩ = some (.slice co cl cc)), (12, fun w' => w'.cell? ⟨v3, 0, none⟩ = some (.bool dn) ∧ w'.cell? ⟨v3, 1, none⟩ = some (.slice do_ dl dc)), (14, fun w' => w'.cell? ⟨g, 0, none⟩ = some (.bool na) ∧ w'.cell? ⟨g, 1, none⟩ = some (.slice ao al ac)), (19, fun w' => w'.cell? ⟨v3, 0, none⟩ = some (.bool dn) ∧ w'.cell? ⟨v3, 1, none⟩ = some (.slice do_ dl dc))] := ⟨(q0.below B34).cells, (p1.below B34).cells, (q0.below B34).cells, (p2.below B34).cells, (p3.below B34).cells, (q0.below B34).cells, (p3.below B34).cells, trivial⟩
          go_wp2_with fail
          refine hK.out _ _ (AllL.kept hHeld) ?_
          clear hK K
          (try simp only [Act.put, List.setIfInBounds_toArray, List.set_cons_zero, List.set_cons_succ])
          refine late_step 16 (by kernel_rfl) rfl (fun K hK => ?_)
          go_simp
          refine (lequal_any (im117.below b34) im119).mono ?_
          rw [Hb35.out]
          rintro e w35 ⟨rfl, b35⟩
          have B35 : Below W19.heap.size W19 w35 := bstep B34 b35
          clear hHeld
          have hHeld : AllL w35 [(2, fun w' => w'.cell? ⟨g, 0, none⟩ = some (.bool na) ∧ w'.cell? ⟨g, 1, none⟩ = some (.slice ao al ac)), (3, fun w' => w'.cell? ⟨v1, 0, none⟩ = some (.bool bn) ∧ w'.cell? ⟨v1, 1, none⟩ = some (.slice bo bl bc)), (7, fun w' => w'.cell? ⟨g, 0, none⟩ = some (.bool na) ∧ w'.cell? ⟨g, 1, none⟩ = some (.slice ao al ac)), (8, fun w' => w'.cell? ⟨v2, 0, none⟩ = some (.bool cn) ∧ w'.cell? ⟨v2, 1, none⟩ = some (.slice co cl cc)), (12, fun w' => w'.cell? ⟨v3, 0, none⟩ = some (.bool dn) ∧ w'.cell? ⟨v3, 1, none⟩ = some (.slice do_ dl dc)), (14, fun w' => w'.cell? ⟨g, 0, none⟩ = some (.bool na) ∧ w'.cell? ⟨g, 1, none⟩ = some (.slice ao al ac)), (19, fun w' => w'.cell? ⟨v3, 0, none⟩ = some (.bool dn) ∧ w'.cell? ⟨v3, 1, none⟩ = some (.slice do_ dl dc))] := ⟨(q0.below B35).cells, (p1.below B35).cells, (q0.below B35).cells, (p2.below B35).cells, (p3.below B35).cells, (q0.below B35).cells, (p3.below B35).cells, trivial⟩
          go_wp2_with fail
          refine hK.out _ _ (AllL.kept hHeld) ?_
          clear hK K
          (try simp only [Act.put, List.setIfInBounds_toArray, List.set_cons_zero, List.set_cons_succ])
          refine late_free 17 (v := .bool true) rfl (by kernel_rfl) (by kernel_rfl) (by kernel_rfl) (by kernel_rfl) (by kernel_rfl) (by kernel_rfl) (fun _ _ _ h => h) (Or.inl ⟨by rfl, ?_⟩) hHeld ?_
          · (intro u _; go_simp)
          (try simp only [Act.put, List.setIfInBounds_toArray, List.set_cons_zero, List.set_cons_succ])
          refine late_free 18 (v := .bool true) rfl (by kernel_rfl) (by kernel_rfl) (by kernel_rfl) (by kernel_rfl) (by kernel_rfl) (by kernel_rfl) (fun _ _ _ h => h) (Or.inl ⟨by rfl, ?_⟩) hHeld ?_
          · (intro u _; go_simp)
          (try simp only [Act.put, List.setIfInBounds_toArray, List.set_cons_zero, List.set_cons_succ])
          refine late_take 19 (v := .agg #[.bool dn, .slice do_ dl dc]) rfl (by kernel_rfl) (List.Mem.tail _ (List.Mem.tail _ (List.Mem.tail _ (List.Mem.tail _ (List.Mem.tail _ (List.Mem.tail _ (List.Mem.head _))))))) (by kernel_rfl) (by kernel_rfl) (by kernel_rfl) (by kernel_rfl) (fun _ _ _ h => h) (Or.inl ⟨by rfl, ?_⟩) hHeld ?_
          · (intro u hu; (try dsimp only at hu); go_split_ands; go_simp)
          (try simp only [Act.put, List.setIfInBounds_toArray, List.set_cons_zero, List.set_cons_succ])
          refine late_step 20 (by kernel_rfl) rfl (fun K hK => ?_)
          go_simp
          refine (c_sign ((((((id_.below (below_drew' _)).below b31).below b32).below b33).below b34).below b35)).mono ?_
          rw [HCD.out]
          rintro e w36 ⟨rfl, b36⟩
          have B36 : Below W19.heap.size W19 w36 := bstep B35 b36
          clear hHeld
          have hHeld : AllL w36 [(2, fun w' => w'.cell? ⟨g, 0, none⟩ = some (.bool na) ∧ w'.cell? ⟨g, 1, none⟩ = some (.slice ao al ac)), (3, fun w' => w'.cell? ⟨v1, 0, none⟩ = some (.bool bn) ∧ w'.cell? ⟨v1, 1, none⟩ = some (.slice bo bl bc)), (7, fun w' => w'.cell? ⟨g, 0, none⟩ = some (.bool na) ∧ w'.cell? ⟨g, 1, none⟩ = some (.slice ao al ac)), (8, fun w' => w'.cell? ⟨v2, 0, none⟩ = some (.bool cn) ∧ w'.cell? ⟨v2, 1, none⟩ = some (.slice co cl cc)), (12, fun w' => w'.cell? ⟨v3, 0, none⟩ = some (.bool dn) ∧ w'.cell? ⟨v3, 1, none⟩ = some (.slice do_ dl dc)), (14, fun w' => w'.cell? ⟨g, 0, none⟩ = some (.bool na) ∧ w'.cell? ⟨g, 1, none⟩ = some (.slice ao al ac)), (19, fun w' => w'.cell? ⟨v3, 0, none⟩ = some (.bool dn) ∧ w'.cell? ⟨v3, 1, none⟩ = some (.slice do_ dl dc))] := ⟨(q0.below B36).cells, (p1.below B36).cells, (q0.below B36).cells, (p2.below B36).cells, (p3.below B36).cells, (q0.below B36).cells, (p3.below B36).cells, trivial⟩
          go_wp2_with fail
          refine hK.out _ _ (AllL.kept hHeld) ?_
          clear hK K
          (try simp only [Act.put, List.setIfInBounds_toArray, List.set_cons_zero, List.set_cons_succ])
          refine late_free 21 (v := .bool true) rfl (by kernel_rfl) (by kernel_rfl) (by kernel_rfl) (by kernel_rfl) (by kernel_rfl) (by kernel_rfl) (fun _ _ _ h => h) (Or.inl ⟨by rfl, ?_⟩) hHeld ?_
          · (intro u _; go_simp)
          (try simp only [Act.put, List.setIfInBounds_toArray, List.set_cons_zero, List.set_cons_succ])
          refine late_free 22 (v := .bool true) rfl (by kernel_rfl) (by kernel_rfl) (by kernel_rfl) (by kernel_rfl) (by kernel_rfl) (by kernel_rfl) (fun _ _ _ h => h) (Or.inl ⟨by rfl, ?_⟩) hHeld ?_
          · (intro u _; go_simp)
          (try simp only [Act.put, List.setIfInBounds_toArray, List.set_cons_zero, List.set_cons_succ])
          refine late_step 23 (by kernel_rfl) rfl (fun K hK => ?_)
          go_simp
          refine hK.out _ _ ⟨Or.inl ⟨4, by kernel_rfl, by kernel_rfl⟩, Or.inl ⟨4, by kernel_rfl, by kernel_rfl⟩, Or.inl ⟨9, by kernel_rfl, by kernel_rfl⟩, Or.inl ⟨9, by kernel_rfl, by kernel_rfl⟩, Or.inl ⟨13, by kernel_rfl, by kernel_rfl⟩, Or.inl ⟨15, by kernel_rfl, by kernel_rfl⟩, Or.inl ⟨20, by kernel_rfl, by kernel_rfl⟩, trivial⟩ ?_
          clear hK K
          (try simp only [Act.put, List.setIfInBounds_toArray, List.set_cons_zero, List.set_cons_succ])
          refine late_done (by kernel_rfl) ?_ _
          clear hHeld
          have b := B36
          clear b31 b32 b33 b34 b35 b36 B31 B32 B33 B34 B35 B36
          replace ia := ia.below b
          replace ib := ib.below b
          replace ic := ic.below b
          replace id_ := id_.below b
          replace q0 := q0.below b
          replace p1 := p1.below b
          replace p2 := p2.below b
          replace p3 := p3.below b
          replace hb := bstep hb b
          clear b
          clear im117 im119
          have HE : Hid (Below w1.heap.size w1 w36) := hb
          clear hb ia ib ic id_ q0 p1 p2 p3
          go_wp2_with fail
          go_ret
          exact ⟨rfl, HE.out⟩
end Go.Proofs.YtcbfhakolfcmgaaDoor

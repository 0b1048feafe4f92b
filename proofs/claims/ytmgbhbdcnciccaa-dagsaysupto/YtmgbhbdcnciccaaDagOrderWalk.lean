/-
  Proved here: the law DagOrder returns true, whatever the parents, where each list is of at most 1048576 numbers.
-/
import Derived.Test.YtmgbhbdcnciccaaDagOrMAll
import Derived.Test.YtmgbhbdcnciccaaDagSmAll
import Derived.Test.YtmgbhbdcnciccaaDagManyAll
namespace Go.Proofs.Ytmgbhbdcnciccaa
set_option linter.unusedVariables false
open Go.RowKit
theorem ord_nil {P : List (List Int)} (h : ckE P ≠ 0) : ordL P = [] := by unfold ordL; rw [if_neg h]
theorem cy_nil {P : List (List Int)} (h : ckE P ≠ 42) : cyL P = [] := by unfold cyL; rw [if_neg h]
theorem ord_all {P : List (List Int)} (h : ckE P = 0) : ordL P = outL P ∧ (outL P).length = P.length := by
  refine ⟨by unfold ordL; rw [if_pos h], ?_⟩
  have hpn : Pts P.length ([] : List Int) := ⟨List.nodup_nil, by simp⟩
  have hP := ((out_all (P := P) P.length [] hpn).2.1).len
  have hP' : (outL P).length ≤ P.length := hP
  have hz := ck_zero h
  unfold ckE at h
  rw [if_pos hz] at h
  split at h
  · simp at h
  · omega
set_option maxRecDepth 100000 in
set_option maxHeartbeats 12800000 in
theorem dagOrder_top (pv : Value) (pvs : List Value) (P : List (List Int)) (w : World) (h : RRD w pv pvs P) (hbl : ∀ i, (P.getD i []).length ≤ 1048576) :
    Calls Try.prog 6 #[pv] w fun e w' => e = .returned (.bool true) ∧ Below w.heap.size w w' := by
  have CA : Hid _ := aliveD w
  obtain ⟨po, pn, pc, rfl⟩ : ∃ o n c, pv = .slice o n c := by obtain ⟨ao, cap, e⟩ := h.out.sl; exact ⟨_, _, _, e⟩
  have hn : P.length = pn := by rw [← h.len, h.out.len]
  have HR : Hid (∀ W, Below w.heap.size w W → RRD W (.slice po pn pc) pvs P) := fun W hW => h.below (Nat.le_refl _) hW
  have HN : Hid (P.length = pn) := hn
  have HBL0 : Hid (∀ i, (P.getD i []).length ≤ 1048576) := hbl
  clear h hn hbl
  go_enter Try.func6, Try.ntmps6
  go_wp2_with fail
  refine Calls.mono CA.out ?_
  clear CA
  rintro e w1 ⟨rfl, hw1⟩
  have HB1 : Hid (Below w.heap.size w w1) := hw1
  have CM : Hid _ := manyD _ pvs P w1 (HR.out w1 hw1) HBL0.out
  clear hw1
  go_wp2_with fail
  refine Calls.mono CM.out ?_
  clear CM
  rintro e y ⟨rfl, hy0⟩
  rw [hy0]
  clear hy0 y
  rcases hm : manyB P with _ | _
  case true =>
    clear hm
    go_wp2
    go_ret
    exact ⟨rfl, HB1.out⟩
  obtain ⟨hm1, hm2⟩ := many_noB hm
  rw [HN.out] at hm1
  have HBL : Hid (∀ i, (P.getD i []).length ≤ 100000) := fun i => by have := len_smB P i; omega
  have CO : Hid _ := orderD _ pvs P w1 (HR.out w1 HB1.out) pn HN.out (by omega) HBL.out
  clear hm hm2
  go_wp2_with fail
  refine Calls.mono CO.out ?_
  clear CO
  rintro e w2 ⟨lv, rfl, hl, hw2⟩
  have HB2 : Hid (Below w.heap.size w w2) := HB1.out.trans (hw2.mono HB1.out.size)
  have HL2 : Hid (RG (Value.int .i64) w2 lv (ordL P)) := hl.rg
  obtain ⟨lo, ln, lc, rfl⟩ : ∃ o n c, lv = .slice o n c := by obtain ⟨ao, cap, e⟩ := hl.rg.sl; exact ⟨_, _, _, e⟩
  have CY : Hid _ := cycleD _ pvs P w2 (HR.out w2 HB2.out) pn HN.out (by omega) HBL.out
  clear hl hw2 HB1
  obtain ⟨c, hc⟩ : ∃ c, c = ckE P := ⟨_, rfl⟩
  have HC : Hid (ckE P = c) := hc.symm
  have hcc : (c != c) = false := by simp
  rw [← hc]
  clear hc
  go_wp2_with fail
  refine Calls.mono CY.out ?_
  clear CY
  rintro e w3 ⟨cv, rfl, hcy, hw3⟩
  have HB3 : Hid (Below w.heap.size w w3) := HB2.out.trans (hw3.mono HB2.out.size)
  have HL3 : Hid (RG (Value.int .i64) w3 (.slice lo ln lc) (ordL P)) := HL2.out.below (Nat.le_refl _) hw3
  have HY3 : Hid (RG (Value.int .i64) w3 cv (cyL P)) := hcy.rg
  obtain ⟨ao, cap, e1, e2, _⟩ := hcy.sl
  have HYA : Hid (0 < (cyL P).length → ∃ g, ao = some ⟨g, 0, none⟩) := fun h => by obtain ⟨g, _, e⟩ := e2 h; exact ⟨g, e⟩
  obtain ⟨yn, hyn⟩ : ∃ n, n = (cyL P).length := ⟨_, rfl⟩
  rw [← hyn] at e1
  subst e1
  have HYN : Hid ((cyL P).length = yn) := hyn.symm
  have HLN : Hid ((ordL P).length = ln) := HL3.out.len
  have CK : Hid _ := checkD _ pvs P w3 (HR.out w3 HB3.out) pn HN.out (by omega) HBL.out
  clear hcy hw3 HB2 HL2 hyn e2
  go_wp2_with fail
  refine Calls.mono CK.out ?_
  clear CK
  rintro e w4 ⟨rfl, hw4⟩
  rw [HC.out]
  have HB4 : Hid (Below w.heap.size w w4) := HB3.out.trans (hw4.mono HB3.out.size)
  have HL4 : Hid (RG (Value.int .i64) w4 (.slice lo ln lc) (ordL P)) := HL3.out.below (Nat.le_refl _) hw4
  have HY4 : Hid (RG (Value.int .i64) w4 (.slice ao yn cap) (cyL P)) := HY3.out.below (Nat.le_refl _) hw4
  clear hw4 HB3 HL3 HY3
  by_cases hc0 : c = 0
  · subst hc0
    have ho := ord_all HC.out
    have hl0 : ln = pn := by rw [← HLN.out, ho.1, ho.2, HN.out]
    have hy0 : yn = 0 := by rw [← HYN.out, cy_nil (by rw [HC.out]; decide)]; rfl
    subst hl0
    subst hy0
    have HO : Hid (ordL P = outL P) := ho.1
    have HPL : Hid (∀ i, i < ln → ∃ k : Nat, plF (ordL P) (i : Int) = (k : Int) ∧ ∀ p ∈ P.getD i [], plF (ordL P) p < (k : Int)) := fun i hi => by
      rw [HO.out]; exact out_place ho.2 (by rw [HN.out]; exact hi)
    clear ho HYA
    go_wp2
    go_loopg [7, 8, 9] ln (fun g1 v7 _v8 _v9 wr => ∃ i : Nat, v7 = .int .i64 i ∧ i ≤ ln ∧ ln - i ≤ g1 ∧ wr = w4)
    case atStart => exact ⟨0, rfl, by omega, by omega, rfl⟩
    case round =>
      obtain ⟨i, rfl, hin, hg1, rfl⟩ := hrel
      by_cases hlt : i < ln
      · have hltz : (i : Int) < (ln : Int) := by omega
        obtain ⟨k, hk1, hk2⟩ := HPL.out i hlt
        have CP : Hid _ := placeD _ (ordL P) (i : Int) wr HL4.out
        obtain ⟨x, gp, op, hx1, rfl, hx2⟩ := (HR.out wr HB4.out).out.at hlt
        have hxr := (HR.out wr HB4.out).inn i x hx1
        obtain ⟨xo, xn, xc, rfl⟩ : ∃ o n c, x = .slice o n c := by obtain ⟨ao, cap, e⟩ := hxr.sl; exact ⟨_, _, _, e⟩
        change wr.cell? ⟨gp, op + i, none⟩ = some (.slice xo xn xc) at hx2
        have HXR : Hid (RG (Value.int .i64) wr (.slice xo xn xc) (P.getD i [])) := hxr
        have hxm : xn ≤ 100000 := by rw [← hxr.len]; exact HBL.out i
        have HK2 : Hid (∀ p ∈ P.getD i [], plF (ordL P) p < (k : Int)) := hk2
        have hk0 : ¬ (k : Int) < 0 := by omega
        clear hx1 hxr hk2
        go_wp2_with fail
        refine Calls.mono CP.out ?_
        clear CP
        rintro e z ⟨rfl, rfl⟩
        rw [hk1]
        clear hk1
        go_wp2
        go_loopg [9] xn (fun g2 v9 wq => ∃ j : Nat, v9 = .int .i64 j ∧ j ≤ xn ∧ xn - j ≤ g2 ∧ wq = z)
        case atStart => exact ⟨0, rfl, by omega, by omega, rfl⟩
        case round =>
          obtain ⟨j, rfl, hjn, hg2, rfl⟩ := hrel
          by_cases hlj : j < xn
          · have hljz : (j : Int) < (xn : Int) := by omega
            obtain ⟨y, gx, ox, hy1, rfl, hy2⟩ := HXR.out.at hlj
            have hyk := HK2.out y (List.mem_of_getElem? hy1)
            obtain ⟨q, hq⟩ : ∃ q, q = plF (ordL P) y := ⟨_, rfl⟩
            rw [← hq] at hyk
            have hyk2 : ¬ q ≥ (k : Int) := by omega
            have CQ : Hid _ := placeD _ (ordL P) y wr HL4.out
            rw [← hq] at CQ
            clear hy1 hq
            go_wp2_with fail
            refine Calls.mono CQ.out ?_
            clear CQ
            rintro e u ⟨rfl, rfl⟩
            go_wp2
            go_roundg (xn - (j + 1))
            case measure => omega
            case rel => exact ⟨j + 1, by first | rfl | go_num, by omega, Nat.le_refl _, rfl⟩
          · have hljz : ¬ (j : Int) < (xn : Int) := by omega
            go_wp2
            go_roundg (ln - (i + 1))
            case measure => omega
            case rel => exact ⟨i + 1, by first | rfl | go_num, by omega, Nat.le_refl _, rfl⟩
      · have hltz : ¬ (i : Int) < (ln : Int) := by omega
        go_wp2
        go_ret
        exact ⟨rfl, HB4.out⟩
  · by_cases hc42 : c = 42
    · subst hc42
      have hok := cyL_ok HC.out
      have hl0 : ln = 0 := by rw [← HLN.out, ord_nil (by rw [HC.out]; decide)]; rfl
      have hy0 : 0 < yn := by rw [← HYN.out]; exact hok.ne
      obtain ⟨gc, rfl⟩ := HYA.out hok.ne
      subst hl0
      have HOK : Hid (CyOk P (cyL P)) := hok
      have hyz : ((yn : Int) == 0) = false := by simp; omega
      have hpl : Pts pn (cyL P) := ⟨hok.nd, fun x hx => by
        obtain ⟨i, hi, e⟩ := List.getElem_of_mem hx
        obtain ⟨v, e2, hv⟩ := hok.pt i x (by rw [← e]; exact List.getElem?_eq_getElem hi)
        rw [HN.out] at hv
        omega⟩
      have hyp : yn ≤ pn := by rw [← HYN.out]; exact hpl.len
      clear hok hpl HYA HL4
      go_wp2
      go_loopg [10, 11] yn (fun g1 v10 _v11 wr => ∃ i : Nat, v10 = .int .i64 i ∧ i ≤ yn ∧ yn - i ≤ g1 ∧ Hid (RG (Value.int .i64) wr (.slice (some ⟨gc, 0, none⟩) yn cap) (cyL P)) ∧ Hid (Below w.heap.size w wr))
      case atStart => exact ⟨0, rfl, by omega, by omega, HY4, HB4⟩
      case round =>
        clear HY4 HB4
        obtain ⟨i, rfl, hin, hg1, HY4, HB4⟩ := hrel
        by_cases hlt : i < yn
        · have hltz : (i : Int) < (yn : Int) := by omega
          obtain ⟨q, hq⟩ : ∃ q, q = (i + 1) % yn := ⟨_, rfl⟩
          have hqy : q < yn := by rw [hq]; exact Nat.mod_lt _ hy0
          have hqz : (q : Int) < (yn : Int) := by omega
          have hrem : ((i : Int) + 1).tmod (yn : Int) = (q : Int) := by
            rw [hq, Int.tmod_eq_emod_of_nonneg (by omega)]
            simp only [Int.natCast_emod, Int.natCast_add, Int.natCast_one]
          obtain ⟨x, gx, ox, hx1, hx3, hx2⟩ := HY4.out.at hlt
          simp only [Option.some.injEq, Addr.mk.injEq, and_true] at hx3
          obtain ⟨rfl, rfl⟩ := hx3
          rw [Nat.zero_add] at hx2
          obtain ⟨y, gy, oy, hy1, hy3, hy2⟩ := HY4.out.at hqy
          simp only [Option.some.injEq, Addr.mk.injEq, and_true] at hy3
          obtain ⟨rfl, rfl⟩ := hy3
          rw [Nat.zero_add] at hy2
          obtain ⟨z, gz, oz, hz1, hz3, hz2⟩ := HY4.out.at hy0
          simp only [Option.some.injEq, Addr.mk.injEq, and_true] at hz3
          obtain ⟨rfl, rfl⟩ := hz3
          rw [Nat.zero_add] at hz2
          obtain ⟨v, rfl, hvn⟩ := HOK.out.pt i x hx1
          rw [HN.out] at hvn
          have hzx := HOK.out.ge i _ z hx1 hz1
          have hmem : y ∈ P.getD v [] := by
            have := HOK.out.nx i _ y hx1 (by rw [HYN.out, ← hq]; exact hy1)
            rwa [Int.toNat_natCast] at this
          have hnd : (v : Int) ∉ (cyL P).take i := by
            intro hm
            have h2 : ((cyL P).take (i + 1)).Nodup := HOK.out.nd.sublist (List.take_sublist _ _)
            rw [List.take_add_one, hx1] at h2
            simp only [Option.toList, List.nodup_append] at h2
            exact h2.2.2 _ hm _ (by simp) rfl
          obtain ⟨r, gp, op, hr1, rfl, hr2⟩ := (HR.out wr HB4.out).out.at hvn
          have hrr := (HR.out wr HB4.out).inn v r hr1
          obtain ⟨ro, rn, rc, rfl⟩ : ∃ o n c, r = .slice o n c := by obtain ⟨ao, cap, e⟩ := hrr.sl; exact ⟨_, _, _, e⟩
          change wr.cell? ⟨gp, op + v, none⟩ = some (.slice ro rn rc) at hr2
          have HRR : Hid (RG (Value.int .i64) wr (.slice ro rn rc) (P.getD v [])) := hrr
          have HMEM : Hid (y ∈ P.getD v []) := hmem
          have HND : Hid ((v : Int) ∉ (cyL P).take i) := hnd
          have hct : RG (Value.int .i64) wr (.slice (some ⟨gc, 0, none⟩) i cap) ((cyL P).take i) := HY4.out.cut (by omega)
          have HCT : Hid (RG (Value.int .i64) wr (.slice (some ⟨gc, 0, none⟩) i cap) ((cyL P).take i)) := hct
          have hv0 : ¬ (v : Int) < 0 := by omega
          have hvp : ¬ (v : Int) ≥ (pn : Int) := by omega
          have hvp2 : (v : Int) < (pn : Int) := by omega
          have hzx2 : ¬ (v : Int) < z := by omega
          have hcap := HY4.out.room
          unfold maxLen at hcap
          have hic : (i : Int) ≤ (cap : Int) := by omega
          clear hr1 hrr hmem hnd hct hx1 hy1 hz1 hq
          go_upto_region 31 with fail
          clear hrem hy2 hqz hqy
          have KEEP : ∀ u, Below wr.heap.size wr u → L4.AllL u [(3, fun w' => w'.cell? ⟨gc, i, none⟩ = some (.int .i64 ((v : Nat) : Int))), (9, fun w' => w'.cell? ⟨gc, i, none⟩ = some (.int .i64 ((v : Nat) : Int))), (19, fun w' => w'.cell? ⟨gc, i, none⟩ = some (.int .i64 ((v : Nat) : Int))), (21, fun w' => w'.cell? ⟨gp, op + v, none⟩ = some (.slice ro rn rc)), (33, fun w' => w'.cell? ⟨gc, i, none⟩ = some (.int .i64 ((v : Nat) : Int))), (40, fun w' => w'.cell? ⟨gc, i, none⟩ = some (.int .i64 ((v : Nat) : Int))), (43, fun w' => w'.cell? ⟨gc, 0, none⟩ = some (.int .i64 z))] := fun u hu => ⟨keepR hu hx2, keepR hu hx2, keepR hu hx2, keepR hu hr2, keepR hu hx2, keepR hu hx2, keepR hu hz2, trivial⟩
          refine L4.region_late [(3, fun w' => w'.cell? ⟨gc, i, none⟩ = some (.int .i64 ((v : Nat) : Int))), (9, fun w' => w'.cell? ⟨gc, i, none⟩ = some (.int .i64 ((v : Nat) : Int))), (19, fun w' => w'.cell? ⟨gc, i, none⟩ = some (.int .i64 ((v : Nat) : Int))), (21, fun w' => w'.cell? ⟨gp, op + v, none⟩ = some (.slice ro rn rc)), (33, fun w' => w'.cell? ⟨gc, i, none⟩ = some (.int .i64 ((v : Nat) : Int))), (40, fun w' => w'.cell? ⟨gc, i, none⟩ = some (.int .i64 ((v : Nat) : Int))), (43, fun w' => w'.cell? ⟨gc, 0, none⟩ = some (.int .i64 z))] (by kernel_rfl) ?_
          have B : Below wr.heap.size wr wr.drew := (Below.refl _ _).drew
          obtain ⟨w1, hw1⟩ : ∃ u, u = wr.drew := ⟨_, rfl⟩
          rw [← hw1] at B ⊢
          clear hw1
          have hHeld := KEEP _ B
          refine L4.late_free 0 (v := .slice (some ⟨gc, 0, none⟩) yn cap) rfl (by kernel_rfl) (by kernel_rfl) (by kernel_rfl) (by kernel_rfl) (by kernel_rfl) (by kernel_rfl) (fun _ _ _ h => h) (Or.inl ⟨by rfl, ?_⟩) hHeld ?_
          · (intro u _; go_simp)
          (try simp only [Act.put, List.setIfInBounds_toArray, List.set_cons_zero, List.set_cons_succ])
          refine L4.late_free 1 (v := .int .i64 ((i : Nat) : Int)) rfl (by kernel_rfl) (by kernel_rfl) (by kernel_rfl) (by kernel_rfl) (by kernel_rfl) (by kernel_rfl) (fun _ _ _ h => h) (Or.inl ⟨by rfl, ?_⟩) hHeld ?_
          · (intro u _; go_simp)
          (try simp only [Act.put, List.setIfInBounds_toArray, List.set_cons_zero, List.set_cons_succ])
          refine L4.late_free 2 (v := .pointer (some ⟨gc, i, none⟩)) rfl (by kernel_rfl) (by kernel_rfl) (by kernel_rfl) (by kernel_rfl) (by kernel_rfl) (by kernel_rfl) (fun _ _ _ h => h) (Or.inl ⟨by rfl, ?_⟩) hHeld ?_
          · (intro u _; go_simp)
          (try simp only [Act.put, List.setIfInBounds_toArray, List.set_cons_zero, List.set_cons_succ])
          refine L4.late_take 3 (v := .int .i64 ((v : Nat) : Int)) rfl (by kernel_rfl) (List.Mem.head _) (by kernel_rfl) (by kernel_rfl) (by kernel_rfl) (by kernel_rfl) (fun _ _ _ h => h) (Or.inl ⟨by rfl, ?_⟩) hHeld ?_
          · (intro u hu; (try dsimp only at hu); go_split_ands; go_simp)
          (try simp only [Act.put, List.setIfInBounds_toArray, List.set_cons_zero, List.set_cons_succ])
          refine L4.late_free 4 (v := .bool false) rfl (by kernel_rfl) (by kernel_rfl) (by kernel_rfl) (by kernel_rfl) (by kernel_rfl) (by kernel_rfl) (fun _ _ _ h => h) (Or.inl ⟨by rfl, ?_⟩) hHeld ?_
          · (intro u _; go_simp)
          (try simp only [Act.put, List.setIfInBounds_toArray, List.set_cons_zero, List.set_cons_succ])
          refine L4.late_free 5 (v := .bool false) rfl (by kernel_rfl) (by kernel_rfl) (by kernel_rfl) (by kernel_rfl) (by kernel_rfl) (by kernel_rfl) (fun _ _ _ h => h) (Or.inl ⟨by rfl, ?_⟩) hHeld ?_
          · (intro u _; go_simp)
          (try simp only [Act.put, List.setIfInBounds_toArray, List.set_cons_zero, List.set_cons_succ])
          refine L4.late_free 6 (v := .slice (some ⟨gc, 0, none⟩) yn cap) rfl (by kernel_rfl) (by kernel_rfl) (by kernel_rfl) (by kernel_rfl) (by kernel_rfl) (by kernel_rfl) (fun _ _ _ h => h) (Or.inl ⟨by rfl, ?_⟩) hHeld ?_
          · (intro u _; go_simp)
          (try simp only [Act.put, List.setIfInBounds_toArray, List.set_cons_zero, List.set_cons_succ])
          refine L4.late_free 7 (v := .int .i64 ((i : Nat) : Int)) rfl (by kernel_rfl) (by kernel_rfl) (by kernel_rfl) (by kernel_rfl) (by kernel_rfl) (by kernel_rfl) (fun _ _ _ h => h) (Or.inl ⟨by rfl, ?_⟩) hHeld ?_
          · (intro u _; go_simp)
          (try simp only [Act.put, List.setIfInBounds_toArray, List.set_cons_zero, List.set_cons_succ])
          refine L4.late_free 8 (v := .pointer (some ⟨gc, i, none⟩)) rfl (by kernel_rfl) (by kernel_rfl) (by kernel_rfl) (by kernel_rfl) (by kernel_rfl) (by kernel_rfl) (fun _ _ _ h => h) (Or.inl ⟨by rfl, ?_⟩) hHeld ?_
          · (intro u _; go_simp)
          (try simp only [Act.put, List.setIfInBounds_toArray, List.set_cons_zero, List.set_cons_succ])
          refine L4.late_take 9 (v := .int .i64 ((v : Nat) : Int)) rfl (by kernel_rfl) (List.Mem.tail _ (List.Mem.head _)) (by kernel_rfl) (by kernel_rfl) (by kernel_rfl) (by kernel_rfl) (fun _ _ _ h => h) (Or.inl ⟨by rfl, ?_⟩) hHeld ?_
          · (intro u hu; (try dsimp only at hu); go_split_ands; go_simp)
          (try simp only [Act.put, List.setIfInBounds_toArray, List.set_cons_zero, List.set_cons_succ])
          refine L4.late_free 10 (v := .slice (some ⟨gp, op, none⟩) pn pc) rfl (by kernel_rfl) (by kernel_rfl) (by kernel_rfl) (by kernel_rfl) (by kernel_rfl) (by kernel_rfl) (fun _ _ _ h => h) (Or.inl ⟨by rfl, ?_⟩) hHeld ?_
          · (intro u _; go_simp)
          (try simp only [Act.put, List.setIfInBounds_toArray, List.set_cons_zero, List.set_cons_succ])
          refine L4.late_free 11 (v := .int .i64 ((pn : Nat) : Int)) rfl (by kernel_rfl) (by kernel_rfl) (by kernel_rfl) (by kernel_rfl) (by kernel_rfl) (by kernel_rfl) (fun _ _ _ h => h) (Or.inl ⟨by rfl, ?_⟩) hHeld ?_
          · (intro u _; go_simp)
          (try simp only [Act.put, List.setIfInBounds_toArray, List.set_cons_zero, List.set_cons_succ])
          refine L4.late_free 12 (v := .bool false) rfl (by kernel_rfl) (by kernel_rfl) (by kernel_rfl) (by kernel_rfl) (by kernel_rfl) (by kernel_rfl) (fun _ _ _ h => h) (Or.inl ⟨by rfl, ?_⟩) hHeld ?_
          · (intro u _; go_simp)
          (try simp only [Act.put, List.setIfInBounds_toArray, List.set_cons_zero, List.set_cons_succ])
          refine L4.late_free 13 (v := .bool false) rfl (by kernel_rfl) (by kernel_rfl) (by kernel_rfl) (by kernel_rfl) (by kernel_rfl) (by kernel_rfl) (fun _ _ _ h => h) (Or.inl ⟨by rfl, ?_⟩) hHeld ?_
          · (intro u _; go_simp)
          (try simp only [Act.put, List.setIfInBounds_toArray, List.set_cons_zero, List.set_cons_succ])
          refine L4.late_free 14 (v := .bool false) rfl (by kernel_rfl) (by kernel_rfl) (by kernel_rfl) (by kernel_rfl) (by kernel_rfl) (by kernel_rfl) (fun _ _ _ h => h) (Or.inl ⟨by rfl, ?_⟩) hHeld ?_
          · (intro u _; go_simp)
          (try simp only [Act.put, List.setIfInBounds_toArray, List.set_cons_zero, List.set_cons_succ])
          refine L4.late_free 15 (v := .slice (some ⟨gp, op, none⟩) pn pc) rfl (by kernel_rfl) (by kernel_rfl) (by kernel_rfl) (by kernel_rfl) (by kernel_rfl) (by kernel_rfl) (fun _ _ _ h => h) (Or.inl ⟨by rfl, ?_⟩) hHeld ?_
          · (intro u _; go_simp)
          (try simp only [Act.put, List.setIfInBounds_toArray, List.set_cons_zero, List.set_cons_succ])
          refine L4.late_free 16 (v := .slice (some ⟨gc, 0, none⟩) yn cap) rfl (by kernel_rfl) (by kernel_rfl) (by kernel_rfl) (by kernel_rfl) (by kernel_rfl) (by kernel_rfl) (fun _ _ _ h => h) (Or.inl ⟨by rfl, ?_⟩) hHeld ?_
          · (intro u _; go_simp)
          (try simp only [Act.put, List.setIfInBounds_toArray, List.set_cons_zero, List.set_cons_succ])
          refine L4.late_free 17 (v := .int .i64 ((i : Nat) : Int)) rfl (by kernel_rfl) (by kernel_rfl) (by kernel_rfl) (by kernel_rfl) (by kernel_rfl) (by kernel_rfl) (fun _ _ _ h => h) (Or.inl ⟨by rfl, ?_⟩) hHeld ?_
          · (intro u _; go_simp)
          (try simp only [Act.put, List.setIfInBounds_toArray, List.set_cons_zero, List.set_cons_succ])
          refine L4.late_free 18 (v := .pointer (some ⟨gc, i, none⟩)) rfl (by kernel_rfl) (by kernel_rfl) (by kernel_rfl) (by kernel_rfl) (by kernel_rfl) (by kernel_rfl) (fun _ _ _ h => h) (Or.inl ⟨by rfl, ?_⟩) hHeld ?_
          · (intro u _; go_simp)
          (try simp only [Act.put, List.setIfInBounds_toArray, List.set_cons_zero, List.set_cons_succ])
          refine L4.late_take 19 (v := .int .i64 ((v : Nat) : Int)) rfl (by kernel_rfl) (List.Mem.tail _ (List.Mem.tail _ (List.Mem.head _))) (by kernel_rfl) (by kernel_rfl) (by kernel_rfl) (by kernel_rfl) (fun _ _ _ h => h) (Or.inl ⟨by rfl, ?_⟩) hHeld ?_
          · (intro u hu; (try dsimp only at hu); go_split_ands; go_simp)
          (try simp only [Act.put, List.setIfInBounds_toArray, List.set_cons_zero, List.set_cons_succ])
          refine L4.late_free 20 (v := .pointer (some ⟨gp, op + v, none⟩)) rfl (by kernel_rfl) (by kernel_rfl) (by kernel_rfl) (by kernel_rfl) (by kernel_rfl) (by kernel_rfl) (fun _ _ _ h => h) (Or.inl ⟨by rfl, ?_⟩) hHeld ?_
          · (intro u _; go_simp)
          (try simp only [Act.put, List.setIfInBounds_toArray, List.set_cons_zero, List.set_cons_succ])
          refine L4.late_take 21 (v := .slice ro rn rc) rfl (by kernel_rfl) (List.Mem.tail _ (List.Mem.tail _ (List.Mem.tail _ (List.Mem.head _)))) (by kernel_rfl) (by kernel_rfl) (by kernel_rfl) (by kernel_rfl) (fun _ _ _ h => h) (Or.inl ⟨by rfl, ?_⟩) hHeld ?_
          · (intro u hu; (try dsimp only at hu); go_split_ands; go_simp)
          (try simp only [Act.put, List.setIfInBounds_toArray, List.set_cons_zero, List.set_cons_succ])
          refine L4.late_free 22 (v := .int .i64 y) rfl (by kernel_rfl) (by kernel_rfl) (by kernel_rfl) (by kernel_rfl) (by kernel_rfl) (by kernel_rfl) (fun _ _ _ h => h) (Or.inl ⟨by rfl, ?_⟩) hHeld ?_
          · (intro u _; go_simp)
          (try simp only [Act.put, List.setIfInBounds_toArray, List.set_cons_zero, List.set_cons_succ])
          refine L4.late_step 23 (by kernel_rfl) rfl (fun K hK => ?_)
          go_simp
          refine (inD _ (P.getD v []) y _ (HRR.out.below (Nat.le_refl _) B)).mono ?_
          rintro e y2 ⟨rfl, hy2⟩
          rw [decide_eq_true HMEM.out]
          have c2 : Below w1.heap.size w1 y2 := by rw [hy2]; exact Below.refl _ _
          clear hy2
          have B := B.trans (c2.mono B.size)
          clear c2 hHeld
          have hHeld := KEEP _ B
          go_wp2_with fail
          refine hK.out _ _ (L4.AllL.kept hHeld) ?_
          clear hK K
          (try simp only [Act.put, List.setIfInBounds_toArray, List.set_cons_zero, List.set_cons_succ])
          refine L4.late_free 24 (v := .bool false) rfl (by kernel_rfl) (by kernel_rfl) (by kernel_rfl) (by kernel_rfl) (by kernel_rfl) (by kernel_rfl) (fun _ _ _ h => h) (Or.inl ⟨by rfl, ?_⟩) hHeld ?_
          · (intro u _; go_simp)
          (try simp only [Act.put, List.setIfInBounds_toArray, List.set_cons_zero, List.set_cons_succ])
          refine L4.late_free 25 (v := .bool false) rfl (by kernel_rfl) (by kernel_rfl) (by kernel_rfl) (by kernel_rfl) (by kernel_rfl) (by kernel_rfl) (fun _ _ _ h => h) (Or.inl ⟨by rfl, ?_⟩) hHeld ?_
          · (intro u _; go_simp)
          (try simp only [Act.put, List.setIfInBounds_toArray, List.set_cons_zero, List.set_cons_succ])
          refine L4.late_free 26 (v := .bool false) rfl (by kernel_rfl) (by kernel_rfl) (by kernel_rfl) (by kernel_rfl) (by kernel_rfl) (by kernel_rfl) (fun _ _ _ h => h) (Or.inl ⟨by rfl, ?_⟩) hHeld ?_
          · (intro u _; go_simp)
          (try simp only [Act.put, List.setIfInBounds_toArray, List.set_cons_zero, List.set_cons_succ])
          refine L4.late_free 27 (v := .slice (some ⟨gc, 0, none⟩) yn cap) rfl (by kernel_rfl) (by kernel_rfl) (by kernel_rfl) (by kernel_rfl) (by kernel_rfl) (by kernel_rfl) (fun _ _ _ h => h) (Or.inl ⟨by rfl, ?_⟩) hHeld ?_
          · (intro u _; go_simp)
          (try simp only [Act.put, List.setIfInBounds_toArray, List.set_cons_zero, List.set_cons_succ])
          refine L4.late_free 28 (v := .int .i64 ((i : Nat) : Int)) rfl (by kernel_rfl) (by kernel_rfl) (by kernel_rfl) (by kernel_rfl) (by kernel_rfl) (by kernel_rfl) (fun _ _ _ h => h) (Or.inl ⟨by rfl, ?_⟩) hHeld ?_
          · (intro u _; go_simp)
          (try simp only [Act.put, List.setIfInBounds_toArray, List.set_cons_zero, List.set_cons_succ])
          refine L4.late_free 29 (v := .slice (some ⟨gc, 0, none⟩) i cap) rfl (by kernel_rfl) (by kernel_rfl) (by kernel_rfl) (by kernel_rfl) (by kernel_rfl) (by kernel_rfl) (fun _ _ _ h => h) (Or.inl ⟨by rfl, ?_⟩) hHeld ?_
          · (intro u _; go_simp)
          (try simp only [Act.put, List.setIfInBounds_toArray, List.set_cons_zero, List.set_cons_succ])
          refine L4.late_free 30 (v := .slice (some ⟨gc, 0, none⟩) yn cap) rfl (by kernel_rfl) (by kernel_rfl) (by kernel_rfl) (by kernel_rfl) (by kernel_rfl) (by kernel_rfl) (fun _ _ _ h => h) (Or.inl ⟨by rfl, ?_⟩) hHeld ?_
          · (intro u _; go_simp)
          (try simp only [Act.put, List.setIfInBounds_toArray, List.set_cons_zero, List.set_cons_succ])
          refine L4.late_free 31 (v := .int .i64 ((i : Nat) : Int)) rfl (by kernel_rfl) (by kernel_rfl) (by kernel_rfl) (by kernel_rfl) (by kernel_rfl) (by kernel_rfl) (fun _ _ _ h => h) (Or.inl ⟨by rfl, ?_⟩) hHeld ?_
          · (intro u _; go_simp)
          (try simp only [Act.put, List.setIfInBounds_toArray, List.set_cons_zero, List.set_cons_succ])
          refine L4.late_free 32 (v := .pointer (some ⟨gc, i, none⟩)) rfl (by kernel_rfl) (by kernel_rfl) (by kernel_rfl) (by kernel_rfl) (by kernel_rfl) (by kernel_rfl) (fun _ _ _ h => h) (Or.inl ⟨by rfl, ?_⟩) hHeld ?_
          · (intro u _; go_simp)
          (try simp only [Act.put, List.setIfInBounds_toArray, List.set_cons_zero, List.set_cons_succ])
          refine L4.late_take 33 (v := .int .i64 ((v : Nat) : Int)) rfl (by kernel_rfl) (List.Mem.tail _ (List.Mem.tail _ (List.Mem.tail _ (List.Mem.tail _ (List.Mem.head _))))) (by kernel_rfl) (by kernel_rfl) (by kernel_rfl) (by kernel_rfl) (fun _ _ _ h => h) (Or.inl ⟨by rfl, ?_⟩) hHeld ?_
          · (intro u hu; (try dsimp only at hu); go_split_ands; go_simp)
          (try simp only [Act.put, List.setIfInBounds_toArray, List.set_cons_zero, List.set_cons_succ])
          refine L4.late_step 34 (by kernel_rfl) rfl (fun K hK => ?_)
          go_simp
          refine (inD _ ((cyL P).take i) (v : Int) _ (HCT.out.below (Nat.le_refl _) B)).mono ?_
          rintro e y3 ⟨rfl, hy3⟩
          rw [decide_eq_false HND.out]
          have c3 : Below y2.heap.size y2 y3 := by rw [hy3]; exact Below.refl _ _
          clear hy3
          have B := B.trans (c3.mono B.size)
          clear c3 hHeld
          have hHeld := KEEP _ B
          go_wp2_with fail
          refine hK.out _ _ (L4.AllL.kept hHeld) ?_
          clear hK K
          (try simp only [Act.put, List.setIfInBounds_toArray, List.set_cons_zero, List.set_cons_succ])
          refine L4.late_free 35 (v := .bool false) rfl (by kernel_rfl) (by kernel_rfl) (by kernel_rfl) (by kernel_rfl) (by kernel_rfl) (by kernel_rfl) (fun _ _ _ h => h) (Or.inl ⟨by rfl, ?_⟩) hHeld ?_
          · (intro u _; go_simp)
          (try simp only [Act.put, List.setIfInBounds_toArray, List.set_cons_zero, List.set_cons_succ])
          refine L4.late_free 36 (v := .bool false) rfl (by kernel_rfl) (by kernel_rfl) (by kernel_rfl) (by kernel_rfl) (by kernel_rfl) (by kernel_rfl) (fun _ _ _ h => h) (Or.inl ⟨by rfl, ?_⟩) hHeld ?_
          · (intro u _; go_simp)
          (try simp only [Act.put, List.setIfInBounds_toArray, List.set_cons_zero, List.set_cons_succ])
          refine L4.late_free 37 (v := .slice (some ⟨gc, 0, none⟩) yn cap) rfl (by kernel_rfl) (by kernel_rfl) (by kernel_rfl) (by kernel_rfl) (by kernel_rfl) (by kernel_rfl) (fun _ _ _ h => h) (Or.inl ⟨by rfl, ?_⟩) hHeld ?_
          · (intro u _; go_simp)
          (try simp only [Act.put, List.setIfInBounds_toArray, List.set_cons_zero, List.set_cons_succ])
          refine L4.late_free 38 (v := .int .i64 ((i : Nat) : Int)) rfl (by kernel_rfl) (by kernel_rfl) (by kernel_rfl) (by kernel_rfl) (by kernel_rfl) (by kernel_rfl) (fun _ _ _ h => h) (Or.inl ⟨by rfl, ?_⟩) hHeld ?_
          · (intro u _; go_simp)
          (try simp only [Act.put, List.setIfInBounds_toArray, List.set_cons_zero, List.set_cons_succ])
          refine L4.late_free 39 (v := .pointer (some ⟨gc, i, none⟩)) rfl (by kernel_rfl) (by kernel_rfl) (by kernel_rfl) (by kernel_rfl) (by kernel_rfl) (by kernel_rfl) (fun _ _ _ h => h) (Or.inl ⟨by rfl, ?_⟩) hHeld ?_
          · (intro u _; go_simp)
          (try simp only [Act.put, List.setIfInBounds_toArray, List.set_cons_zero, List.set_cons_succ])
          refine L4.late_take 40 (v := .int .i64 ((v : Nat) : Int)) rfl (by kernel_rfl) (List.Mem.tail _ (List.Mem.tail _ (List.Mem.tail _ (List.Mem.tail _ (List.Mem.tail _ (List.Mem.head _)))))) (by kernel_rfl) (by kernel_rfl) (by kernel_rfl) (by kernel_rfl) (fun _ _ _ h => h) (Or.inl ⟨by rfl, ?_⟩) hHeld ?_
          · (intro u hu; (try dsimp only at hu); go_split_ands; go_simp)
          (try simp only [Act.put, List.setIfInBounds_toArray, List.set_cons_zero, List.set_cons_succ])
          refine L4.late_free 41 (v := .slice (some ⟨gc, 0, none⟩) yn cap) rfl (by kernel_rfl) (by kernel_rfl) (by kernel_rfl) (by kernel_rfl) (by kernel_rfl) (by kernel_rfl) (fun _ _ _ h => h) (Or.inl ⟨by rfl, ?_⟩) hHeld ?_
          · (intro u _; go_simp)
          (try simp only [Act.put, List.setIfInBounds_toArray, List.set_cons_zero, List.set_cons_succ])
          refine L4.late_free 42 (v := .pointer (some ⟨gc, 0, none⟩)) rfl (by kernel_rfl) (by kernel_rfl) (by kernel_rfl) (by kernel_rfl) (by kernel_rfl) (by kernel_rfl) (fun _ _ _ h => h) (Or.inl ⟨by rfl, ?_⟩) hHeld ?_
          · (intro u _; go_simp)
          (try simp only [Act.put, List.setIfInBounds_toArray, List.set_cons_zero, List.set_cons_succ])
          refine L4.late_take 43 (v := .int .i64 z) rfl (by kernel_rfl) (List.Mem.tail _ (List.Mem.tail _ (List.Mem.tail _ (List.Mem.tail _ (List.Mem.tail _ (List.Mem.tail _ (List.Mem.head _))))))) (by kernel_rfl) (by kernel_rfl) (by kernel_rfl) (by kernel_rfl) (fun _ _ _ h => h) (Or.inl ⟨by rfl, ?_⟩) hHeld ?_
          · (intro u hu; (try dsimp only at hu); go_split_ands; go_simp)
          (try simp only [Act.put, List.setIfInBounds_toArray, List.set_cons_zero, List.set_cons_succ])
          refine L4.late_free 44 (v := .bool false) rfl (by kernel_rfl) (by kernel_rfl) (by kernel_rfl) (by kernel_rfl) (by kernel_rfl) (by kernel_rfl) (fun _ _ _ h => h) (Or.inl ⟨by rfl, ?_⟩) hHeld ?_
          · (intro u _; go_simp)
          (try simp only [Act.put, List.setIfInBounds_toArray, List.set_cons_zero, List.set_cons_succ])
          refine L4.late_free 45 (v := .bool false) rfl (by kernel_rfl) (by kernel_rfl) (by kernel_rfl) (by kernel_rfl) (by kernel_rfl) (by kernel_rfl) (fun _ _ _ h => h) (Or.inl ⟨by rfl, ?_⟩) hHeld ?_
          · (intro u _; go_simp)
          (try simp only [Act.put, List.setIfInBounds_toArray, List.set_cons_zero, List.set_cons_succ])
          refine L4.late_done (by kernel_rfl) ?_ _
          clear hHeld KEEP
          have HB5 : Hid (Below w.heap.size w y3) := HB4.out.trans (B.mono HB4.out.size)
          have HY5 : Hid (RG (Value.int .i64) y3 (.slice (some ⟨gc, 0, none⟩) yn cap) (cyL P)) := HY4.out.below (Nat.le_refl _) B
          clear B HB4 HY4 hx2 hz2 hr2 HRR HCT HMEM HND
          go_wp2
          go_roundg (yn - (i + 1))
          case measure => omega
          case rel => exact ⟨i + 1, by first | rfl | go_num, by omega, Nat.le_refl _, HY5, HB5⟩
        · have hltz : ¬ (i : Int) < (yn : Int) := by omega
          go_wp2
          go_ret
          exact ⟨rfl, HB4.out⟩
    · have hl0 : ln = 0 := by rw [← HLN.out, ord_nil (by rw [HC.out]; exact hc0)]; rfl
      have hy0 : yn = 0 := by rw [← HYN.out, cy_nil (by rw [HC.out]; exact hc42)]; rfl
      subst hl0
      subst hy0
      have h1 : (c != (0 : Int)) = true := by simpa using hc0
      have h2 : (c != (42 : Int)) = true := by simpa using hc42
      go_wp2
      go_ret
      exact ⟨rfl, HB4.out⟩
end Go.Proofs.Ytmgbhbdcnciccaa

/-
  Proved here: SetRises's own walk.
-/
import Derived.Test.YtphmamdmkhaemabSetOpen
namespace Go.Proofs.Ytphmamdmkhaemab
open Go.Shelf Go.RowKit Go.Lib Go.Sort

set_option maxHeartbeats 8000000 in
set_option maxRecDepth 1000000 in
theorem setRises_top (v : Value) (L : List Int) (w : World) (hv : RG (Value.int .i64) w v L) :
    Calls Try.prog 3 #[v] w fun e w' => e = .returned (.bool true) ∧ Below w.heap.size w w' := by
  obtain ⟨g, hg⟩ : ∃ g, g = w.heap.size := ⟨_, rfl⟩
  have HG : Hid (g = w.heap.size) := hg
  have hvg := hv
  obtain ⟨i0, hi, hz0, hz1, hz2⟩ := info_parts infoI
  obtain ⟨ao, cap, rfl, hc, hm, -⟩ := id hv
  unfold maxLen at hm
  obtain ⟨n, hn⟩ : ∃ n, L.length = n := ⟨_, rfl⟩
  rw [hn] at hc hv hvg ⊢
  rw [← hg]
  have HN : Hid (L.length = n) := hn
  have C0 := alive_any w
  have mixed : Try.prog.follows .mixedOrders = true := by kernel_rfl
  clear hn
  go_enter Try.func3, Try.ntmps3
  go_wp2_with fail
  refine C0.mono ?_
  rintro e w1 ⟨rfl, b1⟩
  rw [← hg] at b1
  clear C0
  have hv1 := hvg.below (by omega) b1
  have z1 : g ≤ w1.heap.size := by have := b1.size; omega
  clear hg hvg hv
  by_cases hbig : n > 1000
  · have hbz : (n : Int) > 1000 := by omega
    have hbd : decide ((n : Int) > 1000) = true := decide_eq_true hbz
    go_wp2
    go_ret
    exact ⟨rfl, b1⟩
  · have hbz : ¬ (n : Int) > 1000 := by omega
    have hbd : decide ((n : Int) > 1000) = false := decide_eq_false hbz
    have C1 := setOfI _ L w1 hv1 (by rw [HN.out]; omega)
    have hlen : (ofI L).length ≤ 1000 := by have := ofI_len L; have := HN.out; omega
    have HL : Hid ((ofI L).length ≤ 1000) := hlen
    clear hlen
    go_wp2_with fail
    refine C1.mono ?_
    rintro e w2 ⟨u, rfl, ho2, b2⟩
    have hv2 := hv1.below (Nat.le_refl _) b2
    have b2 := b1.trans (b2.mono z1)
    have z2 : g ≤ w2.heap.size := by have := b2.size; have := HG.out; omega
    have ru := ho2.rg
    obtain ⟨uo, uc, rfl, -⟩ := ho2.sl
    obtain ⟨m, hmm⟩ : ∃ n, (ofI L).length = n := ⟨_, rfl⟩
    rw [hmm] at ru ⊢
    have HM : Hid ((ofI L).length = m) := hmm
    have hm1000 : m ≤ 1000 := by have := HL.out; omega
    obtain ⟨W3, hW3⟩ : ∃ W3, W3 = w2.alloc (.cells #[.slice uo m uc] 25) := ⟨_, rfl⟩
    obtain ⟨s, hs⟩ : ∃ s, s = w2.heap.size := ⟨_, rfl⟩
    have sc : SCell 25 W3 s (.slice uo m uc) := by rw [hW3, hs]; exact SCell.new w2 rfl
    have b3 : Below g w W3 := by rw [hW3]; exact b2.alloc z2 _
    have ru3 : RG (Value.int .i64) W3 (.slice uo m uc) (ofI L) := by rw [hW3]; exact ru.alloc _
    have hv3 : RG (Value.int .i64) W3 (.slice ao n cap) L := by rw [hW3]; exact hv2.alloc _
    have HW3 : Hid (W3 = w2.alloc (.cells #[.slice uo m uc] 25)) := hW3
    have HS : Hid (s = w2.heap.size) := hs
    have cs := sc.cell
    have z3 : g ≤ W3.heap.size := by have := b3.size; have := HG.out; omega
    have C2 := setListI _ _ W3 ru3 (by have := HM.out; omega)
    clear hW3 hs b2 ru C1 hmm ho2 hv1 b1 z1 hv2 z2
    go_upto_region 5 with fail
    rw [← HW3.out, ← HS.out]
    clear HW3 HS
    go_wp2_with fail
    refine C2.mono ?_
    rintro e w5 ⟨lv, rfl, ho5, b5⟩
    clear C2 cs
    have rl := ho5.rg
    have sc := sc.below b5
    have ru5 := ru3.below (Nat.le_refl _) b5
    have hv5 := hv3.below (Nat.le_refl _) b5
    have b5' := b3.trans (b5.mono z3)
    have z5 : g ≤ w5.heap.size := by have := b5'.size; have := HG.out; omega
    obtain ⟨lo, lc, rfl, -⟩ := ho5.sl
    obtain ⟨_, _, e0, hlc, hlm, -, -⟩ := id rl
    cases e0
    unfold maxLen at hlm
    rw [HM.out] at rl hlc ⊢
    have RL : Hid (RG (Value.int .i64) w5 (.slice lo m lc) (ofI L)) := rl
    have RU : Hid (RG (Value.int .i64) w5 (.slice uo m uc) (ofI L)) := ru5
    have RV : Hid (RG (Value.int .i64) w5 (.slice ao n cap) L) := hv5
    have SC : Hid (SCell 25 w5 s (.slice uo m uc)) := sc
    have HB5 : Hid (Below g w w5) := b5'
    have HRS : Hid (Rise (ofI L)) := rs_rise.1 (ofI_rs L)
    clear rl ru5 hv5 sc b5' b5 ho5 b3 ru3 hv3 z3
    have cellL : ∀ W, Below w5.heap.size w5 W → ∀ i, i < m → ∃ x gg o, (ofI L)[i]? = some x ∧ lo = some ⟨gg, o, none⟩ ∧ W.cell? ⟨gg, o + i, none⟩ = some (.int .i64 x) := fun W h i hi => (RL.out.below (Nat.le_refl _) h).at hi
    have cellV : ∀ W, Below w5.heap.size w5 W → ∀ i, i < n → ∃ x gg o, L[i]? = some x ∧ ao = some ⟨gg, o, none⟩ ∧ W.cell? ⟨gg, o + i, none⟩ = some (.int .i64 x) := fun W h i hi => (RV.out.below (Nat.le_refl _) h).at hi
    have CL : Hid _ := cellL
    have CV : Hid _ := cellV
    clear cellL cellV
    go_wp2
    go_loopg [6] m (fun g1 v6 wr => ∃ i : Nat, v6 = .int .i64 i ∧ 1 ≤ i ∧ (i ≤ m ∨ i = 1) ∧ m - i ≤ g1 ∧ Hid (Below w5.heap.size w5 wr))
    case atStart => exact ⟨1, rfl, Nat.le_refl _, Or.inr rfl, by omega, Below.refl _ _⟩
    case round =>
      obtain ⟨i, rfl, hi1, him, hg1, HW⟩ := hrel
      by_cases hlt : i < m
      · have hltz : (i : Int) < (m : Int) := by omega
        obtain ⟨ip, hip⟩ : ∃ q, q + 1 = i := ⟨i - 1, by omega⟩
        have eip : (i : Int) - 1 = (ip : Int) := by omega
        have hipm : (ip : Int) < (m : Int) := by omega
        obtain ⟨x, gg, o, hx, e1, c1⟩ := CL.out _ HW.out i hlt
        subst e1
        obtain ⟨y, gg', o', hy, e2, c2⟩ := CL.out _ HW.out ip (by omega)
        cases e2
        have hlt2 : y < x := by
          obtain ⟨h1, rfl⟩ := List.getElem?_eq_some_iff.1 hx
          obtain ⟨h2, rfl⟩ := List.getElem?_eq_some_iff.1 hy
          exact (List.pairwise_iff_getElem.1 HRS.out) ip i h2 h1 (by omega)
        have hle : decide (x ≤ y) = false := decide_eq_false (by omega)
        have hle2 : ¬ x ≤ y := by omega
        have HIP : Hid (ip + 1 = i) := hip
        clear hx hy hip
        go_wp2_with fail
        go_big_region_o
        go_wp2
        go_roundg (m - (i + 1))
        case measure => omega
        case rel => exact ⟨i + 1, by go_num, by omega, by omega, Nat.le_refl _, HW.out.drew⟩
      · have hltz : ¬ (i : Int) < (m : Int) := by omega
        have enm : ((n : Int) - 1) = ((n : Int) - 1) := rfl
        clear enm
        go_wp2
        go_loopg [7, 8] n (fun g2 v7 v8 wr2 => ∃ (j : Nat) (vb : Value), vb = v7 ∧ v8 = .int .i64 ((j : Int) - 1) ∧ j ≤ n ∧ j ≤ g2 ∧ Hid (OG (Value.int .i64) w5.heap.size 3 wr2 vb (bk (L.drop j))) ∧ Hid (Below w5.heap.size w5 wr2))
        case atStart => exact ⟨n, _, rfl, by go_num, Nat.le_refl _, Nat.le_refl _, by rw [List.drop_of_length_le (by rw [HN.out]; exact Nat.le_refl _)]; exact OG.nil _ _ _, HW⟩
        case round =>
          clear HW hltz him hi1 hg1
          obtain ⟨j, vb, rfl, rfl, hjn, hg2, HO, HW⟩ := hrel
          by_cases hj0 : j = 0
          · subst hj0
            have HOB : Hid (OG (Value.int .i64) w5.heap.size 3 wr vb (bk L)) := by have := HO.out; rw [List.drop_zero] at this; exact this
            clear HO
            go_wp2
            go_loopg [9, 10, 11] m (fun g3 v9 _v10 _v11 wr3 => ∃ i : Nat, v9 = .int .i64 i ∧ i ≤ m ∧ m - i ≤ g3 ∧ Hid (OG (Value.int .i64) w5.heap.size 3 wr3 vb (bk L)) ∧ Hid (Below w5.heap.size w5 wr3))
            case atStart => exact ⟨0, rfl, Nat.zero_le _, by omega, HOB, HW⟩
            case round =>
              clear HOB HW
              obtain ⟨i, rfl, him, hg3, HOB, HW⟩ := hrel
              by_cases hlt : i < m
              · have hltz : (i : Int) < (m : Int) := by omega
                have HIN : Hid (∃ x, (ofI L)[i]? = some x ∧ x ∈ L) := by
                  obtain ⟨x, _, _, hx, _⟩ := CL.out _ HW.out i hlt
                  exact ⟨x, hx, (mem_ofI L x).1 (List.mem_of_getElem? hx)⟩
                go_wp2
                go_loopg [10, 11] n (fun g4 v10 v11 wr4 => ∃ (k : Nat) (bb : Bool), v11 = .int .i64 k ∧ v10 = .bool bb ∧ k ≤ n ∧ n - k ≤ g4 ∧ Hid (∀ x, (ofI L)[i]? = some x → bb = decide (x ∈ L.take k)) ∧ Hid (OG (Value.int .i64) w5.heap.size 3 wr4 vb (bk L)) ∧ Hid (Below w5.heap.size w5 wr4))
                case atStart => exact ⟨0, false, rfl, rfl, Nat.zero_le _, by omega, fun x _ => by simp, HOB, HW⟩
                case round =>
                  clear HOB HW
                  obtain ⟨k, bb, rfl, rfl, hkn, hg4, HBB, HOB, HW⟩ := hrel
                  by_cases hk : k < n
                  · have hkz : (k : Int) < (n : Int) := by omega
                    obtain ⟨x, gg, o, hx, e1, c1⟩ := CL.out _ HW.out i hlt
                    subst e1
                    obtain ⟨y, gg', o', hy, e2, c2⟩ := CV.out _ HW.out k hk
                    subst e2
                    have hb := HBB.out x hx
                    have HNX : Hid (∀ bb', bb' = (bb || decide (y = x)) → ∀ z, (ofI L)[i]? = some z → bb' = decide (z ∈ L.take (k + 1))) := fun bb' h z hz => by
                      rw [hx] at hz
                      cases hz
                      rw [h, hb, take_snoc hy]
                      simp only [List.mem_append, List.mem_singleton, Bool.decide_or]
                      congr 1
                      exact decide_eq_decide.2 eq_comm
                    clear hx hy hb HBB
                    cases bb with
                    | true =>
                      go_wp2_with fail
                      go_big_region_o
                      go_wp2
                      go_roundg (n - (k + 1))
                      case measure => omega
                      case rel => exact ⟨k + 1, true, by go_num, rfl, by omega, Nat.le_refl _, HNX.out true rfl, HOB.out.of_blocks (fun _ _ => rfl), HW.out.drew⟩
                    | false =>
                      by_cases hxy : y = x
                      · have hd : decide (y = x) = true := decide_eq_true hxy
                        have hd2 : (y == x) = true := by simpa using hxy
                        have HT : Hid (decide (y = x) = true) := hd
                        go_wp2_with fail
                        go_big_region_o
                        go_wp2
                        go_roundg (n - (k + 1))
                        case measure => omega
                        case rel => exact ⟨k + 1, true, by go_num, by first | rfl | simp [*], by omega, Nat.le_refl _, HNX.out true (by rw [HT.out]; rfl), HOB.out.of_blocks (fun _ _ => rfl), HW.out.drew⟩
                      · have hd : decide (y = x) = false := decide_eq_false hxy
                        have hd2 : (y == x) = false := by simpa using hxy
                        have HT : Hid (decide (y = x) = false) := hd
                        go_wp2_with fail
                        go_big_region_o
                        go_wp2
                        go_roundg (n - (k + 1))
                        case measure => omega
                        case rel => exact ⟨k + 1, false, by go_num, by first | rfl | simp [*], by omega, Nat.le_refl _, HNX.out false (by rw [HT.out]; rfl), HOB.out.of_blocks (fun _ _ => rfl), HW.out.drew⟩
                  · have hkz : ¬ (k : Int) < (n : Int) := by omega
                    obtain ⟨x, hx, hxL⟩ := HIN.out
                    have hbb : bb = true := by
                      rw [HBB.out x hx, List.take_of_length_le (by rw [HN.out]; omega)]
                      exact decide_eq_true hxL
                    subst hbb
                    clear hx hxL HBB HIN
                    go_wp2
                    go_roundg (m - (i + 1))
                    case measure => omega
                    case rel => exact ⟨i + 1, by go_num, by omega, Nat.le_refl _, HOB, HW⟩
              · have hltz : ¬ (i : Int) < (m : Int) := by omega
                have cs := (SC.out.below HW.out).cell
                have C8 := setLenI _ _ _ (RU.out.below (Nat.le_refl _) HW.out)
                rw [HM.out] at C8
                have OB := HOB.out
                have WB := HW.out
                clear HOB HW hltz
                go_wp2_with fail
                refine C8.mono ?_
                rintro e w7 ⟨rfl, b7⟩
                have ob7 := OB.below b7
                have wb7 := WB.trans (b7.mono WB.size)
                have C9 := setOfI _ _ w7 ob7.rg (by rw [len_bk]; have := HN.out; omega)
                rw [ofI_ext (L := bk L) (M := L) (mem_bk L)] at C9
                clear C8 cs OB WB b7
                go_wp2_with fail
                refine C9.mono ?_
                rintro e w8 ⟨u8, rfl, ho8, b8⟩
                have wb8 := wb7.trans (b8.mono wb7.size)
                have C10 := setListI _ _ w8 ho8.rg (by have := HM.out; omega)
                obtain ⟨u8o, u8c, hu8, -⟩ := ho8.sl
                rw [HM.out] at hu8
                subst hu8
                clear C9 ob7 wb7 b8 ho8
                go_wp2_with fail
                refine C10.mono ?_
                rintro e w9 ⟨u9, rfl, ho9, b9⟩
                have wb9 := wb8.trans (b9.mono wb8.size)
                have C11 := ints_below _ _ _ _ w9 ho9.rg (RL.out.below (Nat.le_refl _) wb9)
                rw [decide_eq_true (rfl : ofI L = ofI L)] at C11
                clear C10 wb8 b9 ho9
                go_wp2_with fail
                refine C11.mono ?_
                rintro e w10 ⟨rfl, b10⟩
                have HE : Hid (Below g w w10) := HB5.out.trans ((wb9.trans (b10.mono wb9.size)).mono z5)
                clear C11 wb9 b10
                go_wp2
                go_ret
                exact ⟨by first | rfl | simp, HE.out⟩
          · obtain ⟨q, hq⟩ : ∃ q, q + 1 = j := ⟨j - 1, by omega⟩
            have eq1 : (j : Int) - 1 = (q : Int) := by omega
            have hqn : (q : Int) < (n : Int) := by omega
            obtain ⟨x, gg, o, hx, e1, c1⟩ := CV.out _ HW.out q (by omega)
            subst e1
            have HDR : Hid (bk (L.drop q) = bk (L.drop j) ++ [x, x]) := by show _ = _; rw [drop_cons hx, bk_cons, hq]
            have HXM : Hid (hasI (ofI L) x = true) := by show _ = _; rw [hasI_mem]; exact decide_eq_true ((mem_ofI L x).2 (List.mem_of_getElem? hx))
            have HLB : Hid ((bk (L.drop j)).length ≤ 2000) := by show _ ≤ _; rw [len_bk, List.length_drop, HN.out]; omega
            have hqz : (0 : Int) ≤ (q : Int) := by omega
            have HQ : Hid (q + 1 = j) := hq
            have XEQ : Hid (∀ z, L[q]? = some z → z = x) := fun z hz => by rw [hx] at hz; cases hz; rfl
            clear hx hq
            rw [eq1]
            have KEEP : ∀ u, Below wr.heap.size wr u → L3.AllL u [(4, fun w' => w'.cell? ⟨gg, o + q, none⟩ = some (.int .i64 x)), (8, fun w' => w'.cell? ⟨gg, o + q, none⟩ = some (.int .i64 x))] := fun u hu => by
              have hc : u.cell? ⟨gg, o + q, none⟩ = some (.int .i64 x) := by rw [World.cell?_of_block (hu.block gg (cell_ltG c1))]; exact c1
              exact ⟨hc, hc, trivial⟩
            have HC1 : Hid (wr.cell? ⟨gg, o + q, none⟩ = some (.int .i64 x)) := c1
            clear c1
            go_wp2_with fail
            refine L3.region_late [(4, fun w' => w'.cell? ⟨gg, o + q, none⟩ = some (.int .i64 x)), (8, fun w' => w'.cell? ⟨gg, o + q, none⟩ = some (.int .i64 x))] (by kernel_rfl) ?_
            have B0 : Below wr.heap.size wr wr.drew := (Below.refl _ _).drew
            have O0 : OG (Value.int .i64) w5.heap.size 3 wr.drew vb (bk (L.drop j)) := HO.out.of_blocks (fun _ _ => rfl)
            obtain ⟨w6, hw6⟩ : ∃ u, u = wr.drew := ⟨_, rfl⟩
            rw [← hw6] at B0 O0 ⊢
            clear hw6
            have hHeld := KEEP _ B0
            refine L3.late_free 0 (v := vb) rfl (by kernel_rfl) (by kernel_rfl) (by kernel_rfl) (by kernel_rfl) (by kernel_rfl) (by kernel_rfl) (fun _ _ _ h => h) (Or.inl ⟨by rfl, ?_⟩) hHeld ?_
            · (intro u _; go_simp)
            (try simp only [Act.put, List.setIfInBounds_toArray, List.set_cons_zero, List.set_cons_succ])
            refine L3.late_free 1 (v := .slice (some ⟨gg, o, none⟩) n cap) rfl (by kernel_rfl) (by kernel_rfl) (by kernel_rfl) (by kernel_rfl) (by kernel_rfl) (by kernel_rfl) (fun _ _ _ h => h) (Or.inl ⟨by rfl, ?_⟩) hHeld ?_
            · (intro u _; go_simp)
            (try simp only [Act.put, List.setIfInBounds_toArray, List.set_cons_zero, List.set_cons_succ])
            refine L3.late_free 2 (v := .int .i64 q) rfl (by kernel_rfl) (by kernel_rfl) (by kernel_rfl) (by kernel_rfl) (by kernel_rfl) (by kernel_rfl) (fun _ _ _ h => h) (Or.inl ⟨by rfl, ?_⟩) hHeld ?_
            · (intro u _; go_simp)
            (try simp only [Act.put, List.setIfInBounds_toArray, List.set_cons_zero, List.set_cons_succ])
            refine L3.late_free 3 (v := .pointer (some ⟨gg, o + q, none⟩)) rfl (by kernel_rfl) (by kernel_rfl) (by kernel_rfl) (by kernel_rfl) (by kernel_rfl) (by kernel_rfl) (fun _ _ _ h => h) (Or.inl ⟨by rfl, ?_⟩) hHeld ?_
            · (intro u _; go_simp)
            (try simp only [Act.put, List.setIfInBounds_toArray, List.set_cons_zero, List.set_cons_succ])
            refine L3.late_take 4 (v := .int .i64 x) rfl (by kernel_rfl) (List.Mem.head _) (by kernel_rfl) (by kernel_rfl) (by kernel_rfl) (by kernel_rfl) (fun _ _ _ h => h) (Or.inl ⟨by rfl, ?_⟩) hHeld ?_
            · (intro u hu; (try dsimp only at hu); go_split_ands; go_simp)
            (try simp only [Act.put, List.setIfInBounds_toArray, List.set_cons_zero, List.set_cons_succ])
            refine L3.late_free 5 (v := .slice (some ⟨gg, o, none⟩) n cap) rfl (by kernel_rfl) (by kernel_rfl) (by kernel_rfl) (by kernel_rfl) (by kernel_rfl) (by kernel_rfl) (fun _ _ _ h => h) (Or.inl ⟨by rfl, ?_⟩) hHeld ?_
            · (intro u _; go_simp)
            (try simp only [Act.put, List.setIfInBounds_toArray, List.set_cons_zero, List.set_cons_succ])
            refine L3.late_free 6 (v := .int .i64 q) rfl (by kernel_rfl) (by kernel_rfl) (by kernel_rfl) (by kernel_rfl) (by kernel_rfl) (by kernel_rfl) (fun _ _ _ h => h) (Or.inl ⟨by rfl, ?_⟩) hHeld ?_
            · (intro u _; go_simp)
            (try simp only [Act.put, List.setIfInBounds_toArray, List.set_cons_zero, List.set_cons_succ])
            refine L3.late_free 7 (v := .pointer (some ⟨gg, o + q, none⟩)) rfl (by kernel_rfl) (by kernel_rfl) (by kernel_rfl) (by kernel_rfl) (by kernel_rfl) (by kernel_rfl) (fun _ _ _ h => h) (Or.inl ⟨by rfl, ?_⟩) hHeld ?_
            · (intro u _; go_simp)
            (try simp only [Act.put, List.setIfInBounds_toArray, List.set_cons_zero, List.set_cons_succ])
            refine L3.late_take 8 (v := .int .i64 x) rfl (by kernel_rfl) (List.Mem.tail _ (List.Mem.head _)) (by kernel_rfl) (by kernel_rfl) (by kernel_rfl) (by kernel_rfl) (fun _ _ _ h => h) (Or.inl ⟨by rfl, ?_⟩) hHeld ?_
            · (intro u hu; (try dsimp only at hu); go_split_ands; go_simp)
            (try simp only [Act.put, List.setIfInBounds_toArray, List.set_cons_zero, List.set_cons_succ])
            refine L3.late_step 9 (by kernel_rfl) rfl (fun K hK => ?_)
            go_simp
            obtain ⟨w7, hw7⟩ : ∃ u, u = w6.alloc (.cells #[.int .i64 x, .int .i64 x] 3) := ⟨_, rfl⟩
            have b7 : Below w6.heap.size w6 w7 := by rw [hw7]; exact (Below.refl _ _).alloc (Nat.le_refl _) _
            have B7 : Below wr.heap.size wr w7 := B0.trans (b7.mono B0.size)
            have O7 := O0.below b7
            have z6 : w5.heap.size ≤ w6.heap.size := Nat.le_trans HW.out.size B0.size
            have z7 : w5.heap.size ≤ w7.heap.size := Nat.le_trans z6 b7.size
            have rx : ∀ j u, [Value.int .i64 x, Value.int .i64 x][j]? = some u → w7.cell? ((⟨w6.heap.size, 0, none⟩ : Addr).add j) = some u := fun j u hj => by
              have hlit : OG (Value.int .i64) w6.heap.size 3 w7 (.slice (some ⟨w6.heap.size, 0, none⟩) 2 2) [x, x] := by rw [hw7]; exact OG.lit 3 w6 [x, x] (by unfold maxLen; simp)
              rw [Addr.add_lit, Nat.zero_add]
              match j, hj with
              | 0, hj => cases hj; exact (hlit.cell (i := 0) rfl).1
              | 1, hj => cases hj; exact (hlit.cell (i := 1) rfl).1
            rw [← hw7]
            clear hw7 hHeld b7
            have hHeld := KEEP _ B7
            refine hK.out _ _ (L3.AllL.kept hHeld) ?_
            clear hK K
            (try simp only [Act.put, List.setIfInBounds_toArray, List.set_cons_zero, List.set_cons_succ])
            refine L3.late_step 10 (by kernel_rfl) rfl (fun K hK => ?_)
            rw [if_pos (by rfl)]
            refine wp_append_own _ _ _ 22 rfl w5.heap.size 3 i0 (.int .i64 0) 1 8 Try.underlying22 hi hz0 hz1 hz2 rfl (by decide) _ (bk (L.drop j)).length ((bk (L.drop j)).map (Value.int .i64)) rfl O7 ⟨w6.heap.size, 0, none⟩ 2 2 [.int .i64 x, .int .i64 x] rfl rfl rx (fun u hu => by simp at hu; subst hu; rfl) (by have := HLB.out; unfold maxLen; omega) (by have := HLB.out; omega) z7 ?_
            intro vn w8 ho8 hg8 _
            have O8 : OG (Value.int .i64) w5.heap.size 3 w8 vn (bk (L.drop q)) := by
              rw [HDR.out]
              unfold OG
              rw [List.length_append, List.map_append]
              exact ho8
            have b8 : Below w5.heap.size w5 w8 := (HW.out.trans (B7.mono HW.out.size)).trans ((Below.refl w5.heap.size w7).grown hg8 z7 (fun k hk => (O7.lt k hk).1))
            have hHeld2 : L3.AllL w8 [(4, fun w' => w'.cell? ⟨gg, o + q, none⟩ = some (.int .i64 x)), (8, fun w' => w'.cell? ⟨gg, o + q, none⟩ = some (.int .i64 x))] := by
              have hc : w8.cell? ⟨gg, o + q, none⟩ = some (.int .i64 x) := by
                obtain ⟨x', gg', o', hx', e', c'⟩ := CV.out _ b8 q (by omega)
                cases e'
                obtain ⟨x2, gg2, o2, hx2, e2, c2⟩ := CV.out _ HW.out q (by omega)
                cases e2
                rw [hx'] at hx2
                cases hx2
                rw [HC1.out] at c2
                rw [c', c2]
              exact ⟨hc, hc, trivial⟩
            refine hK.out _ _ (L3.AllL.kept hHeld2) ?_
            clear hK K hHeld ho8 hg8 rx O7 B7 O0 B0
            (try simp only [Act.put, List.setIfInBounds_toArray, List.set_cons_zero, List.set_cons_succ])
            refine L3.late_step 11 (by kernel_rfl) rfl (fun K hK => ?_)
            go_simp
            refine hK.out _ _ (L3.AllL.kept hHeld2) ?_
            clear hK K hHeld2 KEEP
            (try simp only [Act.put, List.setIfInBounds_toArray, List.set_cons_zero, List.set_cons_succ])
            refine L3.late_done (by kernel_rfl) ?_ _
            have HO8 : Hid (OG (Value.int .i64) w5.heap.size 3 w8 vn (bk (L.drop q))) := O8
            have HB8 : Hid (Below w5.heap.size w5 w8) := b8
            clear HO HW HC1 O8 b8
            have s8 := SC.out.below HB8.out
            have KEEP : ∀ u, Below w8.heap.size w8 u → L3.AllL u [(0, fun w' => w'.cell? ⟨s, 0, none⟩ = some (.slice uo m uc)), (4, fun w' => w'.cell? ⟨gg, o + q, none⟩ = some (.int .i64 x))] := fun u hu => by
              obtain ⟨x', gg', o', hx', e', c'⟩ := CV.out _ (HB8.out.trans (hu.mono HB8.out.size)) q (by omega)
              cases e'
              have he : x' = x := XEQ.out x' hx'
              subst he
              exact ⟨(s8.below hu).cell, c', trivial⟩
            go_wp2_with fail
            refine L3.region_late [(0, fun w' => w'.cell? ⟨s, 0, none⟩ = some (.slice uo m uc)), (4, fun w' => w'.cell? ⟨gg, o + q, none⟩ = some (.int .i64 x))] (by kernel_rfl) ?_
            have B9 : Below w8.heap.size w8 w8.drew := (Below.refl _ _).drew
            have O9 : OG (Value.int .i64) w5.heap.size 3 w8.drew vn (bk (L.drop q)) := HO8.out.of_blocks (fun _ _ => rfl)
            obtain ⟨w9, hw9⟩ : ∃ u, u = w8.drew := ⟨_, rfl⟩
            rw [← hw9] at B9 O9 ⊢
            clear hw9
            have hHeld := KEEP _ B9
            refine L3.late_take 0 (v := .agg #[.slice uo m uc]) rfl (by kernel_rfl) (List.Mem.head _) (by kernel_rfl) (by kernel_rfl) (by kernel_rfl) (by kernel_rfl) (fun _ _ _ h => h) (Or.inl ⟨by rfl, ?_⟩) hHeld ?_
            · (intro u hu; (try dsimp only at hu); go_split_ands; go_simp)
            (try simp only [Act.put, List.setIfInBounds_toArray, List.set_cons_zero, List.set_cons_succ])
            refine L3.late_free 1 (v := .slice (some ⟨gg, o, none⟩) n cap) rfl (by kernel_rfl) (by kernel_rfl) (by kernel_rfl) (by kernel_rfl) (by kernel_rfl) (by kernel_rfl) (fun _ _ _ h => h) (Or.inl ⟨by rfl, ?_⟩) hHeld ?_
            · (intro u _; go_simp)
            (try simp only [Act.put, List.setIfInBounds_toArray, List.set_cons_zero, List.set_cons_succ])
            refine L3.late_free 2 (v := .int .i64 q) rfl (by kernel_rfl) (by kernel_rfl) (by kernel_rfl) (by kernel_rfl) (by kernel_rfl) (by kernel_rfl) (fun _ _ _ h => h) (Or.inl ⟨by rfl, ?_⟩) hHeld ?_
            · (intro u _; go_simp)
            (try simp only [Act.put, List.setIfInBounds_toArray, List.set_cons_zero, List.set_cons_succ])
            refine L3.late_free 3 (v := .pointer (some ⟨gg, o + q, none⟩)) rfl (by kernel_rfl) (by kernel_rfl) (by kernel_rfl) (by kernel_rfl) (by kernel_rfl) (by kernel_rfl) (fun _ _ _ h => h) (Or.inl ⟨by rfl, ?_⟩) hHeld ?_
            · (intro u _; go_simp)
            (try simp only [Act.put, List.setIfInBounds_toArray, List.set_cons_zero, List.set_cons_succ])
            refine L3.late_take 4 (v := .int .i64 x) rfl (by kernel_rfl) (List.Mem.tail _ (List.Mem.head _)) (by kernel_rfl) (by kernel_rfl) (by kernel_rfl) (by kernel_rfl) (fun _ _ _ h => h) (Or.inl ⟨by rfl, ?_⟩) hHeld ?_
            · (intro u hu; (try dsimp only at hu); go_split_ands; go_simp)
            (try simp only [Act.put, List.setIfInBounds_toArray, List.set_cons_zero, List.set_cons_succ])
            refine L3.late_step 5 (by kernel_rfl) rfl (fun K hK => ?_)
            go_simp
            have C3 := setHasI _ _ x w9 (RU.out.below (Nat.le_refl _) (HB8.out.trans (B9.mono HB8.out.size))) (rs_rise.2 HRS.out) (by have := HM.out; omega)
            rw [HXM.out] at C3
            refine C3.mono ?_
            rintro e w10 ⟨rfl, b10⟩
            have B10 := B9.trans (b10.mono B9.size)
            have O10 : Hid (OG (Value.int .i64) w5.heap.size 3 w10 vn (bk (L.drop q))) := O9.below b10
            have HB10 : Hid (Below w5.heap.size w5 w10) := HB8.out.trans (B10.mono HB8.out.size)
            clear hHeld C3
            have hHeld := KEEP _ B10
            go_wp2_with fail
            refine hK.out _ _ (L3.AllL.kept hHeld) ?_
            clear hK K
            (try simp only [Act.put, List.setIfInBounds_toArray, List.set_cons_zero, List.set_cons_succ])
            refine L3.late_free 6 (v := .bool false) rfl (by kernel_rfl) (by kernel_rfl) (by kernel_rfl) (by kernel_rfl) (by kernel_rfl) (by kernel_rfl) (fun _ _ _ h => h) (Or.inl ⟨by rfl, ?_⟩) hHeld ?_
            · (intro u _; go_simp)
            (try simp only [Act.put, List.setIfInBounds_toArray, List.set_cons_zero, List.set_cons_succ])
            refine L3.late_done (by kernel_rfl) ?_ _
            clear hHeld KEEP B10 b10 O9 B9 s8 HB8 HO8
            go_wp2
            go_roundg q
            case measure => have := HQ.out; omega
            case rel => exact ⟨q, vn, rfl, by go_num, by have := HQ.out; omega, Nat.le_refl _, O10, HB10⟩
end Go.Proofs.Ytphmamdmkhaemab

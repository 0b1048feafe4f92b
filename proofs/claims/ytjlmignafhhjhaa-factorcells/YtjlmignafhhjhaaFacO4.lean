/-
  Proved here: package factor's Same and Cell at int.
-/
import Derived.Test.YtjlmignafhhjhaaFacO1
namespace Go.Proofs.Ytjlmignafhhjhaa
set_option linter.unusedVariables false
open Go.RowKit Go.Shelf Go.Lib Go.Sort
set_option maxRecDepth 100000 in
set_option maxHeartbeats 12800000 in
theorem sameF (s z c s' z' c' : Value) (xs zs cs ys us ds : List Int) (w : World) (hs : RK .i64 w s xs) (hz : RK .i64 w z zs) (hc : RG (Value.int .i64) w c cs) (hs' : RK .i64 w s' ys) (hz' : RK .i64 w z' us) (hc' : RG (Value.int .i64) w c' ds) (ht : Tab xs zs cs.length) (ht' : Tab ys us ds.length) :
    Calls Try.prog 28 #[.iface 56 (.agg #[]), .agg #[s, z, c], .agg #[s', z', c']] w fun e w' => e = .returned (.bool (decide (xs = ys ∧ zs = us ∧ cs = ds))) ∧ Below w.heap.size w w' := by
  obtain ⟨sO, sN, sC, rfl⟩ : ∃ o n c, s = .slice o n c := by obtain ⟨ao, cap, e, -⟩ := hs; exact ⟨_, _, _, e⟩
  obtain ⟨zO, zN, zC, rfl⟩ : ∃ o n c, z = .slice o n c := by obtain ⟨ao, cap, e, -⟩ := hz; exact ⟨_, _, _, e⟩
  obtain ⟨pO, pN, pC, rfl⟩ : ∃ o n c, s' = .slice o n c := by obtain ⟨ao, cap, e, -⟩ := hs'; exact ⟨_, _, _, e⟩
  obtain ⟨qO, qN, qC, rfl⟩ : ∃ o n c, z' = .slice o n c := by obtain ⟨ao, cap, e, -⟩ := hz'; exact ⟨_, _, _, e⟩
  have hcr := hc
  have hcr' := hc'
  obtain ⟨co, cc, rfl, hc1, hc2, -, hcell⟩ := hc
  obtain ⟨co', cc', rfl, hc1', hc2', -, hcell'⟩ := hc'
  unfold maxLen at hc2 hc2'
  obtain ⟨W1, hW1⟩ : ∃ W1, W1 = (w.alloc (.cells #[.slice sO sN sC, .slice zO zN zC, .slice co cs.length cc] 34)).alloc (.cells #[.slice pO pN pC, .slice qO qN qC, .slice co' ds.length cc'] 34) := ⟨_, rfl⟩
  obtain ⟨g, hg⟩ : ∃ g, g = w.heap.size := ⟨_, rfl⟩
  have qa : BCell 34 W1 g (.slice sO sN sC) (.slice zO zN zC) (.slice co cs.length cc) := by rw [hW1]; exact (BCell.new w hg.symm).step _
  have qb : BCell 34 W1 (g + 1) (.slice pO pN pC) (.slice qO qN qC) (.slice co' ds.length cc') := by rw [hW1]; exact BCell.new _ (by simp [hg])
  have b0 : Below w.heap.size w W1 := by rw [hW1]; exact bstepB (belowB w _) (belowB _ _)
  have HCK : Hid (∀ u, Below w.heap.size w u → Calls Try.prog 52 #[.agg #[.slice sO sN sC, .slice zO zN zC, .slice co cs.length cc]] u fun e w' => e = .returned (.int .i64 0) ∧ Below u.heap.size u w') := fun u hu => by
    have := checkI (.slice sO sN sC) (.slice zO zN zC) xs zs co cs.length cc u (hs.below (Nat.le_refl _) hu) (hz.below (Nat.le_refl _) hu) (by omega)
    rw [chk_ok ht] at this; exact this
  have HCK' : Hid (∀ u, Below w.heap.size w u → Calls Try.prog 52 #[.agg #[.slice pO pN pC, .slice qO qN qC, .slice co' ds.length cc']] u fun e w' => e = .returned (.int .i64 0) ∧ Below u.heap.size u w') := fun u hu => by
    have := checkI (.slice pO pN pC) (.slice qO qN qC) ys us co' ds.length cc' u (hs'.below (Nat.le_refl _) hu) (hz'.below (Nat.le_refl _) hu) (by omega)
    rw [chk_ok ht'] at this; exact this
  have HE1 : Hid (∀ u, Below w.heap.size w u → Calls Try.prog 61 #[.slice sO sN sC, .slice pO pN pC] u fun e w' => e = .returned (.bool (decide (xs = ys))) ∧ Below u.heap.size u w') := fun u hu => (equalI _ _ xs ys u (hs.below (Nat.le_refl _) hu).rg (hs'.below (Nat.le_refl _) hu).rg).mono fun e w' ⟨h1, q, h2⟩ => ⟨h1, by rw [h2]; exact below_drewN (Below.refl _ _) q⟩
  have HE2 : Hid (∀ u, Below w.heap.size w u → Calls Try.prog 61 #[.slice zO zN zC, .slice qO qN qC] u fun e w' => e = .returned (.bool (decide (zs = us))) ∧ Below u.heap.size u w') := fun u hu => (equalI _ _ zs us u (hz.below (Nat.le_refl _) hu).rg (hz'.below (Nat.le_refl _) hu).rg).mono fun e w' ⟨h1, q, h2⟩ => ⟨h1, by rw [h2]; exact below_drewN (Below.refl _ _) q⟩
  have HLN : Hid (zs = us → cs.length = ds.length) := fun e => by have h1 := ht.cells; have h2 := ht'.cells; rw [e, h2] at h1; omega
  have HC : Hid (∀ i x, cs[i]? = some x → ∃ g o, co = some ⟨g, o, none⟩ ∧ w.cell? ⟨g, o + i, none⟩ = some (Value.int .i64 x)) := hcell
  have HC' : Hid (∀ i x, ds[i]? = some x → ∃ g o, co' = some ⟨g, o, none⟩ ∧ w.cell? ⟨g, o + i, none⟩ = some (Value.int .i64 x)) := hcell'
  obtain ⟨m, hm⟩ : ∃ m, cs.length = m := ⟨_, rfl⟩
  obtain ⟨m', hm'⟩ : ∃ m, ds.length = m := ⟨_, rfl⟩
  have HM : Hid (cs.length = m ∧ ds.length = m') := ⟨hm, hm'⟩
  rw [hm] at hc1 hW1 qa HCK HLN ⊢
  rw [hm'] at hc1' hW1 qb HCK' HLN ⊢
  obtain ⟨bb, hbb⟩ : ∃ b, b = decide (xs = ys ∧ zs = us ∧ cs = ds) := ⟨_, rfl⟩
  rw [← hbb]
  have HBB : Hid (bb = decide (xs = ys ∧ zs = us ∧ cs = ds)) := hbb
  have HB : Hid (Below w.heap.size w W1) := b0
  have HG : Hid (g = w.heap.size) := hg
  have HW1 : Hid (W1 = (w.alloc (.cells #[.slice sO sN sC, .slice zO zN zC, .slice co m cc] 34)).alloc (.cells #[.slice pO pN pC, .slice qO qN qC, .slice co' m' cc'] 34)) := hW1
  have HQA : Hid (BCell 34 W1 g (.slice sO sN sC) (.slice zO zN zC) (.slice co m cc)) := qa
  have HQB : Hid (BCell 34 W1 (g + 1) (.slice pO pN pC) (.slice qO qN qC) (.slice co' m' cc')) := qb
  clear hW1 hg b0 qa qb hs hz hs' hz' ht ht' hcell hcell' hm hm' hbb hcr hcr'
  go_enter Try.func28, Try.ntmps28
  go_upto_region 1 with fail
  rw [← HW1.out, ← HG.out]
  clear HW1
  obtain ⟨ca0, ca1, ca2⟩ := HQA.out.cells
  have C1 : Hid _ := HCK.out W1 HB.out
  go_wp2_with fail
  refine Calls.mono C1.out ?_
  rintro e w2 ⟨rfl, b2⟩
  clear ca0 ca1 ca2 C1
  obtain ⟨cb0, cb1, cb2⟩ := (HQB.out.below b2).cells
  have C2 : Hid _ := HCK'.out w2 (bstepB HB.out b2)
  have HB2 : Hid (Below W1.heap.size W1 w2) := b2
  clear b2
  go_wp2_with fail
  refine Calls.mono C2.out ?_
  rintro e w3 ⟨rfl, b3⟩
  clear cb0 cb1 cb2 C2
  have HB3 : Hid (Below W1.heap.size W1 w3) := bstepB HB2.out b3
  clear b3 HB2 HCK HCK'
  obtain ⟨ca0, ca1, ca2⟩ := (HQA.out.below HB3.out).cells
  obtain ⟨cb0, cb1, cb2⟩ := (HQB.out.below HB3.out).cells
  have C3 : Hid _ := HE1.out w3 (bstepB HB.out HB3.out)
  go_wp2_with fail
  refine Calls.mono C3.out ?_
  rintro e w4 ⟨rfl, b4⟩
  clear ca0 ca1 ca2 cb0 cb1 cb2 C3
  have HB4 : Hid (Below W1.heap.size W1 w4) := bstepB HB3.out b4
  clear b4 HB3 HE1
  by_cases hxy : xs = ys
  case neg =>
    rw [decide_eq_false hxy]
    have HB9 : Hid (bb = false) := HBB.out.trans (decide_eq_false fun h => hxy h.1)
    go_wp2
    go_ret
    exact ⟨by rw [HB9.out]; rfl, bstepB HB.out HB4.out⟩
  rw [decide_eq_true hxy]
  obtain ⟨ca0, ca1, ca2⟩ := (HQA.out.below HB4.out).cells
  obtain ⟨cb0, cb1, cb2⟩ := (HQB.out.below HB4.out).cells
  have C4 : Hid _ := HE2.out w4 (bstepB HB.out HB4.out)
  go_wp2_with fail
  refine Calls.mono C4.out ?_
  rintro e w5 ⟨rfl, b5⟩
  clear ca0 ca1 ca2 cb0 cb1 cb2 C4
  have HB5 : Hid (Below W1.heap.size W1 w5) := bstepB HB4.out b5
  clear b5 HB4 HE2
  by_cases hzu : zs = us
  case neg =>
    rw [decide_eq_false hzu]
    have HB9 : Hid (bb = false) := HBB.out.trans (decide_eq_false fun h => hzu h.2.1)
    go_wp2
    go_ret
    exact ⟨by rw [HB9.out]; rfl, bstepB HB.out HB5.out⟩
  rw [decide_eq_true hzu]
  have hmm := HLN.out hzu
  subst hmm
  have HB8 : Hid (bb = decide (cs.drop 0 = ds.drop 0)) := by show _ = _; rw [HBB.out]; simp [hxy, hzu]
  clear HLN hxy hzu HBB
  obtain ⟨ca0, ca1, ca2⟩ := (HQA.out.below HB5.out).cells
  go_wp2
  clear ca0 ca1 ca2
  go_loopg [7, 8, 38] m (fun g1 _v7 _v8 v38 wr => ∃ i : Nat, v38 = .int .i64 i ∧ i ≤ m ∧ m - i ≤ g1 ∧ Hid (bb = decide (cs.drop i = ds.drop i)) ∧ Hid (Below W1.heap.size W1 wr))
  case atStart => exact ⟨0, rfl, Nat.zero_le _, by omega, HB8, HB5⟩
  case round =>
    clear HB8 HB5
    obtain ⟨i, rfl, him, hg1, HBI, HBW⟩ := hrel
    have bw : Below w.heap.size w wr := bstepB HB.out HBW.out
    by_cases hlt : i < m
    · have hltz : (i : Int) < (m : Int) := by omega
      obtain ⟨x, hx⟩ : ∃ x, cs[i]? = some x := ⟨_, List.getElem?_eq_getElem (by rw [HM.out.1]; exact hlt)⟩
      obtain ⟨y, hy⟩ : ∃ x, ds[i]? = some x := ⟨_, List.getElem?_eq_getElem (by rw [HM.out.2]; exact hlt)⟩
      obtain ⟨g1_, o1, rfl, k1⟩ := HC.out i x hx
      obtain ⟨g2_, o2, rfl, k2⟩ := HC'.out i y hy
      have c1 := keepR bw k1
      have c2 := keepR bw k2
      obtain ⟨-, -, cb2⟩ := (HQB.out.below HBW.out).cells
      have HB2 : Hid (bb = decide (x = y ∧ cs.drop (i + 1) = ds.drop (i + 1))) := by
        show _ = _
        rw [HBI.out, drop_cons hx, drop_cons hy]
        simp
      clear hx hy k1 k2 HBI bw
      have hmeth := mIntsSameF
      have hent := entIntsSameF
      have hnl := nlIntsSameF
      go_upto_region 8 with fail
      have KEEP : ∀ u, Below wr.heap.size wr u → L4.AllL u [(3, fun w' => w'.cell? ⟨g + 1, 2, none⟩ = some (.slice (some ⟨g2_, o2, none⟩) m cc')), (6, fun w' => w'.cell? ⟨g2_, o2 + i, none⟩ = some (.int .i64 y))] := fun u hu => ⟨keepR hu cb2, keepR hu c2, trivial⟩
      refine L4.region_late [(3, fun w' => w'.cell? ⟨g + 1, 2, none⟩ = some (.slice (some ⟨g2_, o2, none⟩) m cc')), (6, fun w' => w'.cell? ⟨g2_, o2 + i, none⟩ = some (.int .i64 y))] (by kernel_rfl) ?_
      have B : Below wr.heap.size wr wr.drew := (Below.refl _ _).drew
      obtain ⟨w1, hw1⟩ : ∃ u, u = wr.drew := ⟨_, rfl⟩
      rw [← hw1] at B ⊢
      clear hw1
      have hHeld := KEEP _ B
      refine L4.late_free 0 (v := .iface 56 (.agg #[])) rfl (by kernel_rfl) (by kernel_rfl) (by kernel_rfl) (by kernel_rfl) (by kernel_rfl) (by kernel_rfl) (fun _ _ _ h => h) (Or.inl ⟨by rfl, ?_⟩) hHeld ?_
      · (intro u _; go_simp)
      (try simp only [Act.put, List.setIfInBounds_toArray, List.set_cons_zero, List.set_cons_succ])
      refine L4.late_free 1 (v := .int .i64 x) rfl (by kernel_rfl) (by kernel_rfl) (by kernel_rfl) (by kernel_rfl) (by kernel_rfl) (by kernel_rfl) (fun _ _ _ h => h) (Or.inl ⟨by rfl, ?_⟩) hHeld ?_
      · (intro u _; go_simp)
      (try simp only [Act.put, List.setIfInBounds_toArray, List.set_cons_zero, List.set_cons_succ])
      refine L4.late_free 2 (v := .pointer (some ⟨g + 1, 2, none⟩)) rfl (by kernel_rfl) (by kernel_rfl) (by kernel_rfl) (by kernel_rfl) (by kernel_rfl) (by kernel_rfl) (fun _ _ _ h => h) (Or.inl ⟨by rfl, ?_⟩) hHeld ?_
      · (intro u _; go_simp)
      (try simp only [Act.put, List.setIfInBounds_toArray, List.set_cons_zero, List.set_cons_succ])
      refine L4.late_take 3 (v := .slice (some ⟨g2_, o2, none⟩) m cc') rfl (by kernel_rfl) (List.Mem.head _) (by kernel_rfl) (by kernel_rfl) (by kernel_rfl) (by kernel_rfl) (fun _ _ _ h => h) (Or.inl ⟨by rfl, ?_⟩) hHeld ?_
      · (intro u hu; (try dsimp only at hu); go_split_ands; go_simp)
      (try simp only [Act.put, List.setIfInBounds_toArray, List.set_cons_zero, List.set_cons_succ])
      refine L4.late_free 4 (v := .int .i64 ((i : Nat) : Int)) rfl (by kernel_rfl) (by kernel_rfl) (by kernel_rfl) (by kernel_rfl) (by kernel_rfl) (by kernel_rfl) (fun _ _ _ h => h) (Or.inl ⟨by rfl, ?_⟩) hHeld ?_
      · (intro u _; go_simp)
      (try simp only [Act.put, List.setIfInBounds_toArray, List.set_cons_zero, List.set_cons_succ])
      refine L4.late_free 5 (v := .pointer (some ⟨g2_, o2 + i, none⟩)) rfl (by kernel_rfl) (by kernel_rfl) (by kernel_rfl) (by kernel_rfl) (by kernel_rfl) (by kernel_rfl) (fun _ _ _ h => h) (Or.inl ⟨by rfl, ?_⟩) hHeld ?_
      · (intro u _; go_simp)
      (try simp only [Act.put, List.setIfInBounds_toArray, List.set_cons_zero, List.set_cons_succ])
      refine L4.late_take 6 (v := .int .i64 y) rfl (by kernel_rfl) (List.Mem.tail _ (List.Mem.head _)) (by kernel_rfl) (by kernel_rfl) (by kernel_rfl) (by kernel_rfl) (fun _ _ _ h => h) (Or.inl ⟨by rfl, ?_⟩) hHeld ?_
      · (intro u hu; (try dsimp only at hu); go_split_ands; go_simp)
      (try simp only [Act.put, List.setIfInBounds_toArray, List.set_cons_zero, List.set_cons_succ])
      refine L4.late_free 7 (v := .func (.method "Same") #[.iface 56 (.agg #[])] #[]) rfl (by kernel_rfl) (by kernel_rfl) (by kernel_rfl) (by kernel_rfl) (by kernel_rfl) (by kernel_rfl) (fun _ _ _ h => h) (Or.inl ⟨by rfl, ?_⟩) hHeld ?_
      · (intro u _; go_simp)
      (try simp only [Act.put, List.setIfInBounds_toArray, List.set_cons_zero, List.set_cons_succ])
      refine L4.late_free 8 (v := .func (.method "Same") #[.iface 56 (.agg #[])] #[]) rfl (by kernel_rfl) (by kernel_rfl) (by kernel_rfl) (by kernel_rfl) (by kernel_rfl) (by kernel_rfl) (fun _ _ _ h => h) (Or.inl ⟨by rfl, ?_⟩) hHeld ?_
      · (intro u _; go_simp)
      (try simp only [Act.put, List.setIfInBounds_toArray, List.set_cons_zero, List.set_cons_succ])
      refine L4.late_free 9 (v := .iface 56 (.agg #[])) rfl (by kernel_rfl) (by kernel_rfl) (by kernel_rfl) (by kernel_rfl) (by kernel_rfl) (by kernel_rfl) (fun _ _ _ h => h) (Or.inl ⟨by rfl, ?_⟩) hHeld ?_
      · (intro u _; go_simp)
      (try simp only [Act.put, List.setIfInBounds_toArray, List.set_cons_zero, List.set_cons_succ])
      refine L4.late_step 10 (by kernel_rfl) rfl (fun K hK => ?_)
      go_simp
      refine (intsSameF x y _).mono ?_
      rintro e y2 ⟨rfl, c2⟩
      have B := B.trans (c2.mono B.size)
      clear c2 hHeld
      have hHeld := KEEP _ B
      go_wp2_with fail
      refine hK.out _ _ (L4.AllL.kept hHeld) ?_
      clear hK K
      (try simp only [Act.put, List.setIfInBounds_toArray, List.set_cons_zero, List.set_cons_succ])
      refine L4.late_free 11 (v := .bool (!(x == y))) rfl (by kernel_rfl) (by kernel_rfl) (by kernel_rfl) (by kernel_rfl) (by kernel_rfl) (by kernel_rfl) (fun _ _ _ h => h) (Or.inl ⟨by rfl, ?_⟩) hHeld ?_
      · (intro u _; go_simp)
      (try simp only [Act.put, List.setIfInBounds_toArray, List.set_cons_zero, List.set_cons_succ])
      refine L4.late_done (by kernel_rfl) ?_ _
      clear hHeld KEEP
      have HBN : Hid (Below W1.heap.size W1 y2) := bstepB HBW.out B
      clear B HBW c1 c2 cb2 hmeth hent hnl
      by_cases hxy : x = y
      · have hb : (!(x == y)) = false := by simp [hxy]
        rw [hb]
        have HB3 : Hid (bb = decide (cs.drop (i + 1) = ds.drop (i + 1))) := by show _ = _; rw [HB2.out]; simp [hxy]
        clear HB2 hxy hb
        go_wp2
        go_roundg (m - (i + 1))
        case measure => omega
        case rel => exact ⟨i + 1, by go_num, by omega, Nat.le_refl _, HB3, HBN⟩
      · have hb : (!(x == y)) = true := by simp [hxy]
        rw [hb]
        have HB3 : Hid (bb = false) := by show _ = _; rw [HB2.out]; simp [hxy]
        clear HB2 hxy hb
        go_wp2
        go_ret
        exact ⟨by rw [HB3.out]; rfl, bstepB HB.out HBN.out⟩
    · have hltz : ¬ (i : Int) < (m : Int) := by omega
      have HB3 : Hid (bb = true) := by show _ = _; rw [HBI.out, List.drop_of_length_le (by rw [HM.out.1]; omega), List.drop_of_length_le (by rw [HM.out.2]; omega)]; simp
      clear HBI
      go_wp2
      go_ret
      exact ⟨by rw [HB3.out]; rfl, bw⟩
set_option maxRecDepth 100000 in
set_option maxHeartbeats 6400000 in
theorem cellF (s z c vv : Value) (xs zs cs vs : List Int) (w : World) (hs : RK .i64 w s xs) (hz : RK .i64 w z zs) (hc : RG (Value.int .i64) w c cs) (hv : RK .i64 w vv vs) (ht : Tab xs zs cs.length) (hvl : vs.length = zs.length) (hvb : bad zs vs = false) :
    Calls Try.prog 31 #[.agg #[s, z, c], vv] w fun e w' => e = .returned (.tuple #[.int .i64 (cs.getD (pl zs vs zs.length).toNat 0), .int .i64 0]) ∧ Below w.heap.size w w' := by
  obtain ⟨W1, hW1⟩ : ∃ W1, W1 = w.alloc (.cells #[s, z, c] 34) := ⟨_, rfl⟩
  obtain ⟨g, hg⟩ : ∃ g, g = w.heap.size := ⟨_, rfl⟩
  have q0 : BCell 34 W1 g s z c := by rw [hW1]; exact BCell.new w hg.symm
  have b0 : Below w.heap.size w W1 := by rw [hW1]; exact belowB w _
  obtain ⟨co, cc, rfl, hc1, hc2, -, hcell⟩ := hc
  unfold maxLen at hc2
  have CK := checkI s z xs zs co cs.length cc W1 (hs.below (Nat.le_refl _) b0) (hz.below (Nat.le_refl _) b0) (by omega)
  rw [chk_ok ht] at CK
  have HCK : Hid _ := CK
  have hone := ht.ones
  have hneg : negs zs = false := by
    cases hh : negs zs with
    | false => rfl
    | true => obtain ⟨q, hq, e⟩ := List.any_eq_true.1 hh; have := hone q hq; simp [isNeg] at e; omega
  obtain ⟨e1, e2⟩ := cnt_ok hneg ht.many
  obtain ⟨a1, a2⟩ := at_ok e1 hvl hvb
  obtain ⟨p1, p2⟩ := pl_bd zs vs (bad_no hvb) zs.length (Nat.le_refl _)
  rw [List.take_length, ht.cells] at p2
  have HAT : Hid (∀ W, Below W1.heap.size W1 W → Calls Try.prog 62 #[z, vv] W fun e w' => e = .returned (.tuple #[.int .i64 (pl zs vs zs.length), .int .i64 0]) ∧ Below W.heap.size W w') := fun W hW => by
    have := atI z vv zs vs W (hz.below (Nat.le_refl _) (bstepB b0 hW)) (hv.below (Nat.le_refl _) (bstepB b0 hW))
    rw [a1, a2] at this
    exact this.mono fun e w' ⟨h1, q, h2⟩ => ⟨h1, by rw [h2]; exact below_drewN (Below.refl _ _) q⟩
  obtain ⟨j, hj⟩ : ∃ j : Nat, pl zs vs zs.length = (j : Int) := ⟨(pl zs vs zs.length).toNat, by omega⟩
  rw [hj] at HAT p2 ⊢
  have hjm : j < cs.length := by omega
  obtain ⟨x, hx⟩ : ∃ x, cs[j]? = some x := ⟨_, List.getElem?_eq_getElem hjm⟩
  have hxx : cs.getD (j : Int).toNat 0 = x := by rw [Int.toNat_natCast, List.getD_eq_getElem?_getD, hx]; rfl
  rw [hxx]
  obtain ⟨cg, cof, rfl, cx⟩ := hcell j x hx
  have HCX : Hid (w.cell? ⟨cg, cof + j, none⟩ = some (.int .i64 x)) := cx
  obtain ⟨m, hm⟩ : ∃ m, cs.length = m := ⟨_, rfl⟩
  rw [hm] at hW1 q0 HCK hc1 hjm ⊢
  have hjI : (j : Int) < (m : Int) := by omega
  have HW1 : Hid (W1 = w.alloc (.cells #[s, z, .slice (some ⟨cg, cof, none⟩) m cc] 34)) := hW1
  have HB : Hid (Below w.heap.size w W1) := b0
  have HG : Hid (g = w.heap.size) := hg
  have HQ : Hid (BCell 34 W1 g s z (.slice (some ⟨cg, cof, none⟩) m cc)) := q0
  clear hW1 hg b0 q0 hs hz ht CK hone hneg e1 e2 a1 a2 p1 p2 hj hx hxx cx hcell hm hv hvl hvb
  go_enter Try.func31, Try.ntmps31
  go_upto_region 1 with fail
  rw [← HW1.out, ← HG.out]
  clear HW1
  obtain ⟨c0, c1, c2⟩ := HQ.out.cells
  go_wp2_with fail
  refine Calls.mono HCK.out ?_
  rintro e w2 ⟨rfl, b2⟩
  clear c0 c1 c2 HCK
  obtain ⟨c0, c1, c2⟩ := (HQ.out.below b2).cells
  have C2 : Hid _ := HAT.out w2 b2
  have HB2 : Hid (Below W1.heap.size W1 w2) := b2
  clear b2 HAT
  go_wp2_with fail
  refine Calls.mono C2.out ?_
  rintro e w3 ⟨rfl, b3⟩
  clear c0 c1 c2 C2
  have HB3 : Hid (Below W1.heap.size W1 w3) := bstepB HB2.out b3
  obtain ⟨c0, c1, c2⟩ := (HQ.out.below HB3.out).cells
  have cx := keepR (bstepB HB.out HB3.out) HCX.out
  clear b3 HB2 HCX
  go_wp2
  go_ret2
  exact ⟨rfl, bstepB HB.out HB3.out⟩
end Go.Proofs.Ytjlmignafhhjhaa

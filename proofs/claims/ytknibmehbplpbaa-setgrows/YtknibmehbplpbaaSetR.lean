/-
  Proved here: the document's own answers of layer 11, for ints: Has, With, Of, Some, Join.
-/
import Derived.Test.YtknibmehbplpbaaSetSI
namespace Go.Proofs.Ytknibmehbplpbaa
open Go.Shelf Go.RowKit Go.Lib Go.Sort
theorem insR_lt {x y : Int} {l : List Int} (h : y < x) : insR x (y :: l) = y :: insR x l := by rw [insR, if_neg (by omega), if_neg (by omega)]
theorem insR_eq {x y : Int} {l : List Int} (h : y = x) : insR x (y :: l) = y :: l := by rw [insR, if_neg (by omega), if_pos h.symm]
theorem insR_gt {x y : Int} {l : List Int} (h : x < y) : insR x (y :: l) = x :: y :: l := by rw [insR, if_pos h]
theorem len_insR_le (x : Int) (l : List Int) : (insR x l).length ≤ l.length + 1 := by
  induction l with
  | nil => simp [insR]
  | cons y l ih =>
    rcases Int.lt_trichotomy y x with h | h | h
    · rw [insR_lt h]; simp only [List.length_cons]; omega
    · rw [insR_eq h]; simp
    · rw [insR_gt h]; simp
theorem len_joinR_le (l : List Int) : ∀ s : List Int, (joinR s l).length ≤ s.length + l.length := by
  refine snoc_ind (C := fun l => ∀ s : List Int, (joinR s l).length ≤ s.length + l.length) ?_ ?_ l
  · intro s; simp [joinR]
  · intro l x ih s
    rw [joinR_snoc, List.length_append]
    have := len_insR_le x (joinR s l)
    have := ih s
    simp only [List.length_cons, List.length_nil]
    omega
/-- what the document's answer leaves -/
def RE (w : World) (M : List Int) (e : Ending) (w' : World) : Prop := ∃ u, e = .returned u ∧ OG (Value.int .i64) w.heap.size 3 w' u M ∧ Below w.heap.size w w'
set_option maxHeartbeats 4000000 in
set_option maxRecDepth 1000000 in
theorem rHas (v : Value) (L : List Int) (x : Int) (w : World) (hv : RG (Value.int .i64) w v L) : Calls Try.prog 42 #[v, .int .i64 x] w fun e w' => e = .returned (.bool (decide (x ∈ L))) ∧ w' = w := by
  obtain ⟨ao, cap, rfl, hc, hm, -, hcell⟩ := hv
  unfold maxLen at hm
  obtain ⟨n, hn⟩ : ∃ n, L.length = n := ⟨_, rfl⟩
  rw [hn] at hc ⊢
  have HN : Hid (L.length = n) := hn
  have HC : Hid (∀ i x, L[i]? = some x → ∃ g o, ao = some ⟨g, o, none⟩ ∧ w.cell? ⟨g, o + i, none⟩ = some (Value.int .i64 x)) := hcell
  clear hn hcell
  obtain ⟨bb, hbb⟩ : ∃ b, b = decide (x ∈ L) := ⟨_, rfl⟩
  rw [← hbb]
  have HB : Hid (bb = decide (x ∈ L.drop 0)) := hbb
  clear hbb
  go_enter Try.func42, Try.ntmps42
  go_wp2
  go_loopg [5] n (fun g1 v wr => ∃ i : Nat, v = .int .i64 i ∧ i ≤ n ∧ n - i ≤ g1 ∧ Hid (bb = decide (x ∈ L.drop i)) ∧ w = wr)
  case atStart => exact ⟨0, rfl, Nat.zero_le _, by omega, HB, rfl⟩
  case round =>
    clear HB
    obtain ⟨i, rfl, hin, hg1, HB, rfl⟩ := hrel
    by_cases hlt : i < n
    · have hltz : (i : Int) < (n : Int) := by omega
      obtain ⟨y, hy⟩ : ∃ x, L[i]? = some x := ⟨_, List.getElem?_eq_getElem (by rw [HN.out]; exact hlt)⟩
      obtain ⟨g, o, rfl, hc0⟩ := HC.out i y hy
      have HB2 : Hid (bb = decide (x = y ∨ x ∈ L.drop (i + 1))) := by have := HB.out; rw [drop_cons hy] at this; simpa [Hid] using this
      clear hy HB
      by_cases hxy : y = x
      · have hd : decide (y = x) = true := decide_eq_true hxy
        have hd2 : (y == x) = true := by simpa using hxy
        have HB3 : Hid (bb = true) := HB2.out.trans (decide_eq_true (Or.inl hxy.symm))
        clear HB2
        go_wp2
        go_ret
        exact ⟨by rw [HB3.out]; rfl, rfl⟩
      · have hd : decide (y = x) = false := decide_eq_false hxy
        have hd2 : (y == x) = false := by simpa using hxy
        have HB3 : Hid (bb = decide (x ∈ L.drop (i + 1))) := by
          have h := HB2.out
          show _ = _
          rw [h]
          exact decide_eq_decide.2 ⟨fun h => h.resolve_left fun e => hxy e.symm, Or.inr⟩
        clear HB2
        go_wp2
        go_roundg (n - (i + 1))
        case measure => omega
        case rel => exact ⟨i + 1, by go_num, by omega, Nat.le_refl _, HB3, rfl⟩
    · have hltz : ¬ (i : Int) < (n : Int) := by omega
      have HB3 : Hid (bb = false) := by have := HB.out; rw [List.drop_of_length_le (by rw [HN.out]; omega)] at this; simpa [Hid] using this
      clear HB
      go_wp2
      go_ret
      exact ⟨by rw [HB3.out]; rfl, rfl⟩
set_option maxHeartbeats 4000000 in
set_option maxRecDepth 1000000 in
theorem rWith (v : Value) (L : List Int) (x : Int) (w : World) (hv : RG (Value.int .i64) w v L) (hz : L.length ≤ 1000000) : Calls Try.prog 9 #[v, .int .i64 x] w fun e w' => RE w (insR x L) e w' := by
  obtain ⟨i0, hi, hz0, hz1, hz2⟩ := info_parts infoI
  have hv0 := hv
  obtain ⟨ao, cap, rfl, hc, hm, -, -⟩ := hv
  unfold maxLen at hm
  obtain ⟨n, hn⟩ : ∃ n, L.length = n := ⟨_, rfl⟩
  rw [hn] at hc hv0 ⊢
  have HN : Hid (L.length = n) := hn
  have HC : Hid (∀ W, Below w.heap.size w W → ∀ i, i < n → ∃ x gg o, L[i]? = some x ∧ ao = some ⟨gg, o, none⟩ ∧ W.cell? ⟨gg, o + i, none⟩ = some (.int .i64 x)) := fun W h i hi => (hv0.below (Nat.le_refl _) h).at hi
  have hnz : n ≤ 1000000 := by omega
  clear hn hv0
  go_enter Try.func9, Try.ntmps9
  go_wp2
  go_loopg [5, 6, 7] n (fun g1 v5 v6 v7 wr => ∃ (i : Nat) (vt : Value) (bb : Bool) (D : List Int), vt = v5 ∧ v6 = .bool bb ∧ v7 = .int .i64 i ∧ i ≤ n ∧ n - i ≤ g1 ∧ Hid (D.length ≤ i + if bb then 1 else 0) ∧ Hid (if bb then D ++ L.drop i = insR x L else D ++ insR x (L.drop i) = insR x L) ∧ Hid (OG (Value.int .i64) w.heap.size 3 wr vt D) ∧ Hid (Below w.heap.size w wr))
  case atStart => exact ⟨0, _, false, [], rfl, rfl, rfl, Nat.zero_le _, by omega, Nat.zero_le _, rfl, OG.nil _ _ _, Below.refl _ _⟩
  case round =>
    obtain ⟨i, vt, bb, D, rfl, rfl, rfl, hin, hg1, HDL, HI, HO, HBW⟩ := hrel
    have HL : Hid (D.length ≤ 1000002) := by have := HDL.out; show _ ≤ _; split at this <;> omega
    by_cases hlt : i < n
    · have hltz : (i : Int) < (n : Int) := by omega
      obtain ⟨y, gg, o, hy, e1, c1⟩ := HC.out _ HBW.out i hlt
      subst e1
      have HY : Hid (L.drop i = y :: L.drop (i + 1)) := drop_cons hy
      clear hy
      cases bb with
      | true =>
        have HI2 : Hid ((D ++ [y]) ++ L.drop (i + 1) = insR x L) := by have h := HI.out; simp only [if_true] at h; rw [HY.out] at h; simpa [Hid] using h
        have Oa : Hid (OG (Value.int .i64) w.heap.size 3 (wr.alloc (.cells #[.int .i64 (y)] 3)) vt (D)) := HO.out.below ((Below.refl _ _).alloc (Nat.le_refl _) _)
        have Ra : Hid (RG (Value.int .i64) (wr.alloc (.cells #[.int .i64 (y)] 3)) (.slice (some ⟨wr.heap.size, 0, none⟩) 1 1) [y]) := (OG.lit (enc := (Value.int .i64)) 3 wr [y] (by unfold maxLen; simp)).rg
        have Za : Hid (w.heap.size ≤ (wr.alloc (.cells #[.int .i64 (y)] 3)).heap.size) := Nat.le_trans HBW.out.size (by simp)
        have Ba : Hid (Below w.heap.size w (wr.alloc (.cells #[.int .i64 (y)] 3))) := HBW.out.alloc HBW.out.size _
        go_wp2_with (at_builtin; refine wpList_appG _ oneI rfl _ _ 26 rfl w.heap.size 3 i0 (.int .i64 0) 8 Try.underlying26 hi hz0 hz1 hz2 rfl _ _ (D) [y] rfl Oa.out rfl Ra.out (by have := HL.out; unfold maxLen; simp only [List.length_cons, List.length_nil]; omega) (by have := HL.out; simp only [List.length_cons, List.length_nil]; omega) Za.out ?_)
        intro va wa hoa hga
        have Pa : Hid (OG (Value.int .i64) w.heap.size 3 wa va (D ++ [y])) := by first | exact hoa | simpa [Hid] using hoa
        have Qa : Hid (Below w.heap.size w wa) := Oa.out.grown Ba.out Za.out hga
        clear hoa hga Oa Ra Za Ba
        go_wp2
        go_roundg (n - (i + 1))
        case measure => omega
        case rel => exact ⟨i + 1, _, true, D ++ [y], rfl, rfl, by go_num, by omega, Nat.le_refl _, by show _ ≤ _; have := HDL.out; simp only [List.length_append, List.length_cons, List.length_nil, if_true] at this ⊢; omega, HI2, Pa, Qa⟩
      | false =>
        have HI0 : Hid (D ++ insR x (y :: L.drop (i + 1)) = insR x L) := by have h := HI.out; simp only [Bool.false_eq_true, if_false] at h; rw [HY.out] at h; exact h
        clear HI
        by_cases h1 : y < x
        · have h1a : ¬ x ≤ y := by omega
          have h1b : decide (y ≥ x) = false := decide_eq_false (by omega)
          have HI2 : Hid ((D ++ [y]) ++ insR x (L.drop (i + 1)) = insR x L) := by have h := HI0.out; rw [insR_lt h1] at h; simpa [Hid] using h
          have Ob : Hid (OG (Value.int .i64) w.heap.size 3 (wr.alloc (.cells #[.int .i64 (y)] 3)) vt (D)) := HO.out.below ((Below.refl _ _).alloc (Nat.le_refl _) _)
          have Rb : Hid (RG (Value.int .i64) (wr.alloc (.cells #[.int .i64 (y)] 3)) (.slice (some ⟨wr.heap.size, 0, none⟩) 1 1) [y]) := (OG.lit (enc := (Value.int .i64)) 3 wr [y] (by unfold maxLen; simp)).rg
          have Zb : Hid (w.heap.size ≤ (wr.alloc (.cells #[.int .i64 (y)] 3)).heap.size) := Nat.le_trans HBW.out.size (by simp)
          have Bb : Hid (Below w.heap.size w (wr.alloc (.cells #[.int .i64 (y)] 3))) := HBW.out.alloc HBW.out.size _
          go_wp2_with (at_builtin; refine wpList_appG _ oneI rfl _ _ 26 rfl w.heap.size 3 i0 (.int .i64 0) 8 Try.underlying26 hi hz0 hz1 hz2 rfl _ _ (D) [y] rfl Ob.out rfl Rb.out (by have := HL.out; unfold maxLen; simp only [List.length_cons, List.length_nil]; omega) (by have := HL.out; simp only [List.length_cons, List.length_nil]; omega) Zb.out ?_)
          intro vb wb hob hgb
          have Pb : Hid (OG (Value.int .i64) w.heap.size 3 wb vb (D ++ [y])) := by first | exact hob | simpa [Hid] using hob
          have Qb : Hid (Below w.heap.size w wb) := Ob.out.grown Bb.out Zb.out hgb
          clear hob hgb Ob Rb Zb Bb
          go_wp2
          go_roundg (n - (i + 1))
          case measure => omega
          case rel => exact ⟨i + 1, _, false, D ++ [y], rfl, rfl, by go_num, by omega, Nat.le_refl _, by show _ ≤ _; have := HDL.out; simp only [List.length_append, List.length_cons, List.length_nil, Bool.false_eq_true, if_false] at this ⊢; omega, HI2, Pb, Qb⟩
        · by_cases h2 : y = x
          · have h2a : x ≤ y := by omega
            have h2b : decide (y ≥ x) = true := decide_eq_true (by omega)
            have h2c : ¬ y > x := by omega
            have h2d : decide (y > x) = false := decide_eq_false h2c
            have HI2 : Hid ((D ++ [y]) ++ L.drop (i + 1) = insR x L) := by have h := HI0.out; rw [insR_eq h2] at h; simpa [Hid] using h
            have HYX : Hid (y = x) := h2
            clear h2
            have Oc : Hid (OG (Value.int .i64) w.heap.size 3 (wr.alloc (.cells #[.int .i64 (y)] 3)) vt (D)) := HO.out.below ((Below.refl _ _).alloc (Nat.le_refl _) _)
            have Rc : Hid (RG (Value.int .i64) (wr.alloc (.cells #[.int .i64 (y)] 3)) (.slice (some ⟨wr.heap.size, 0, none⟩) 1 1) [y]) := (OG.lit (enc := (Value.int .i64)) 3 wr [y] (by unfold maxLen; simp)).rg
            have Zc : Hid (w.heap.size ≤ (wr.alloc (.cells #[.int .i64 (y)] 3)).heap.size) := Nat.le_trans HBW.out.size (by simp)
            have Bc : Hid (Below w.heap.size w (wr.alloc (.cells #[.int .i64 (y)] 3))) := HBW.out.alloc HBW.out.size _
            go_wp2_with (at_builtin; refine wpList_appG _ oneI rfl _ _ 26 rfl w.heap.size 3 i0 (.int .i64 0) 8 Try.underlying26 hi hz0 hz1 hz2 rfl _ _ (D) [y] rfl Oc.out rfl Rc.out (by have := HL.out; unfold maxLen; simp only [List.length_cons, List.length_nil]; omega) (by have := HL.out; simp only [List.length_cons, List.length_nil]; omega) Zc.out ?_)
            intro vc wc hoc hgc
            have Pc : Hid (OG (Value.int .i64) w.heap.size 3 wc vc (D ++ [y])) := by first | exact hoc | simpa [Hid] using hoc
            have Qc : Hid (Below w.heap.size w wc) := Oc.out.grown Bc.out Zc.out hgc
            clear hoc hgc Oc Rc Zc Bc
            go_wp2
            go_roundg (n - (i + 1))
            case measure => omega
            case rel => exact ⟨i + 1, _, true, D ++ [y], rfl, rfl, by go_num, by omega, Nat.le_refl _, by show _ ≤ _; have := HDL.out; simp only [List.length_append, List.length_cons, List.length_nil, Bool.false_eq_true, if_false, if_true] at this ⊢; omega, HI2, Pc, Qc⟩
          · have h3 : x < y := by omega
            have h2a : x ≤ y := by omega
            have h2b : decide (y ≥ x) = true := decide_eq_true (by omega)
            have h2c : y > x := h3
            have h2d : decide (y > x) = true := decide_eq_true h2c
            have HI2 : Hid ((D ++ [x] ++ [y]) ++ L.drop (i + 1) = insR x L) := by have h := HI0.out; rw [insR_gt h3] at h; simpa [Hid] using h
            have HL2 : Hid ((D ++ [x]).length ≤ 1000003) := by have := HL.out; show _ ≤ _; rw [List.length_append]; simp; omega
            have HDL2 : Hid ((D ++ [x] ++ [y]).length ≤ i + 1 + if true then 1 else 0) := by have := HDL.out; show _ ≤ _; simp only [List.length_append, List.length_cons, List.length_nil, Bool.false_eq_true, if_false, if_true] at this ⊢; omega
            have Od : Hid (OG (Value.int .i64) w.heap.size 3 (wr.alloc (.cells #[.int .i64 (x)] 3)) vt (D)) := HO.out.below ((Below.refl _ _).alloc (Nat.le_refl _) _)
            have Rd : Hid (RG (Value.int .i64) (wr.alloc (.cells #[.int .i64 (x)] 3)) (.slice (some ⟨wr.heap.size, 0, none⟩) 1 1) [x]) := (OG.lit (enc := (Value.int .i64)) 3 wr [x] (by unfold maxLen; simp)).rg
            have Zd : Hid (w.heap.size ≤ (wr.alloc (.cells #[.int .i64 (x)] 3)).heap.size) := Nat.le_trans HBW.out.size (by simp)
            have Bd : Hid (Below w.heap.size w (wr.alloc (.cells #[.int .i64 (x)] 3))) := HBW.out.alloc HBW.out.size _
            go_wp2_with (at_builtin; refine wpList_appG _ oneI rfl _ _ 26 rfl w.heap.size 3 i0 (.int .i64 0) 8 Try.underlying26 hi hz0 hz1 hz2 rfl _ _ (D) [x] rfl Od.out rfl Rd.out (by have := HL.out; unfold maxLen; simp only [List.length_cons, List.length_nil]; omega) (by have := HL.out; simp only [List.length_cons, List.length_nil]; omega) Zd.out ?_)
            intro vd wd hod hgd
            have Pd : Hid (OG (Value.int .i64) w.heap.size 3 wd vd (D ++ [x])) := by first | exact hod | simpa [Hid] using hod
            have Qd : Hid (Below w.heap.size w wd) := Od.out.grown Bd.out Zd.out hgd
            clear hod hgd Od Rd Zd Bd
            have ce := (HC.out _ Qd.out i hlt)
            obtain ⟨y', gg', o', hy', e', c'⟩ := ce
            cases e'
            have hyy : y' = y := by have h := HY.out; rw [drop_cons hy'] at h; exact (List.cons.inj h).1
            subst hyy
            clear hy' c1
            have Oe : Hid (OG (Value.int .i64) w.heap.size 3 (wd.alloc (.cells #[.int .i64 (y')] 3)) vd (D ++ [x])) := Pd.out.below ((Below.refl _ _).alloc (Nat.le_refl _) _)
            have Re : Hid (RG (Value.int .i64) (wd.alloc (.cells #[.int .i64 (y')] 3)) (.slice (some ⟨wd.heap.size, 0, none⟩) 1 1) [y']) := (OG.lit (enc := (Value.int .i64)) 3 wd [y'] (by unfold maxLen; simp)).rg
            have Ze : Hid (w.heap.size ≤ (wd.alloc (.cells #[.int .i64 (y')] 3)).heap.size) := Nat.le_trans Qd.out.size (by simp)
            have Be : Hid (Below w.heap.size w (wd.alloc (.cells #[.int .i64 (y')] 3))) := Qd.out.alloc Qd.out.size _
            go_wp2_with (at_builtin; refine wpList_appG _ oneI rfl _ _ 26 rfl w.heap.size 3 i0 (.int .i64 0) 8 Try.underlying26 hi hz0 hz1 hz2 rfl _ _ (D ++ [x]) [y'] rfl Oe.out rfl Re.out (by have := HL2.out; unfold maxLen; simp only [List.length_cons, List.length_nil]; omega) (by have := HL2.out; simp only [List.length_cons, List.length_nil]; omega) Ze.out ?_)
            intro ve we hoe hge
            have Pe : Hid (OG (Value.int .i64) w.heap.size 3 we ve (D ++ [x] ++ [y'])) := by first | exact hoe | simpa [Hid] using hoe
            have Qe : Hid (Below w.heap.size w we) := Oe.out.grown Be.out Ze.out hge
            clear hoe hge Oe Re Ze Be
            go_wp2
            go_roundg (n - (i + 1))
            case measure => omega
            case rel => exact ⟨i + 1, _, true, D ++ [x] ++ [y'], rfl, rfl, by go_num, by omega, Nat.le_refl _, HDL2, HI2, Pe, Qe⟩
    · have hltz : ¬ (i : Int) < (n : Int) := by omega
      have hd : L.drop i = [] := List.drop_of_length_le (by rw [HN.out]; omega)
      cases bb with
      | true =>
        have HI2 : Hid (D = insR x L) := by have h := HI.out; simp only [if_true] at h; rw [hd, List.append_nil] at h; exact h
        clear HI hd
        go_wp2
        go_ret
        exact ⟨_, rfl, by rw [← HI2.out]; exact HO.out, HBW.out⟩
      | false =>
        have HI2 : Hid (D ++ [x] = insR x L) := by have h := HI.out; simp only [Bool.false_eq_true, if_false] at h; rw [hd] at h; exact h
        clear HI hd
        have Of : Hid (OG (Value.int .i64) w.heap.size 3 (wr.alloc (.cells #[.int .i64 (x)] 3)) vt (D)) := HO.out.below ((Below.refl _ _).alloc (Nat.le_refl _) _)
        have Rf : Hid (RG (Value.int .i64) (wr.alloc (.cells #[.int .i64 (x)] 3)) (.slice (some ⟨wr.heap.size, 0, none⟩) 1 1) [x]) := (OG.lit (enc := (Value.int .i64)) 3 wr [x] (by unfold maxLen; simp)).rg
        have Zf : Hid (w.heap.size ≤ (wr.alloc (.cells #[.int .i64 (x)] 3)).heap.size) := Nat.le_trans HBW.out.size (by simp)
        have Bf : Hid (Below w.heap.size w (wr.alloc (.cells #[.int .i64 (x)] 3))) := HBW.out.alloc HBW.out.size _
        go_wp2_with (at_builtin; refine wpList_appG _ oneI rfl _ _ 26 rfl w.heap.size 3 i0 (.int .i64 0) 8 Try.underlying26 hi hz0 hz1 hz2 rfl _ _ (D) [x] rfl Of.out rfl Rf.out (by have := HL.out; unfold maxLen; simp only [List.length_cons, List.length_nil]; omega) (by have := HL.out; simp only [List.length_cons, List.length_nil]; omega) Zf.out ?_)
        intro vf wf hof hgf
        have Pf : Hid (OG (Value.int .i64) w.heap.size 3 wf vf (D ++ [x])) := by first | exact hof | simpa [Hid] using hof
        have Qf : Hid (Below w.heap.size w wf) := Of.out.grown Bf.out Zf.out hgf
        clear hof hgf Of Rf Zf Bf
        go_wp2
        go_ret
        exact ⟨_, rfl, by rw [← HI2.out]; exact Pf.out, Qf.out⟩
set_option maxHeartbeats 4000000 in
set_option maxRecDepth 1000000 in
theorem rOf (v : Value) (L : List Int) (w : World) (hv : RG (Value.int .i64) w v L) (hz : L.length ≤ 10000) : Calls Try.prog 7 #[v] w fun e w' => RE w (ofR L) e w' := by
  obtain ⟨i0, hi, hz0, hz1, hz2⟩ := info_parts infoI
  have hv0 := hv
  obtain ⟨ao, cap, rfl, hc, hm, -, -⟩ := hv
  unfold maxLen at hm
  obtain ⟨n, hn⟩ : ∃ n, L.length = n := ⟨_, rfl⟩
  rw [hn] at hc hv0 ⊢
  have HN : Hid (L.length = n) := hn
  have HC : Hid (∀ W, Below w.heap.size w W → ∀ i, i < n → ∃ x gg o, L[i]? = some x ∧ ao = some ⟨gg, o, none⟩ ∧ W.cell? ⟨gg, o + i, none⟩ = some (.int .i64 x)) := fun W h i hi => (hv0.below (Nat.le_refl _) h).at hi
  have hnz : n ≤ 1000000 := by omega
  clear hn hv0
  have HJ : Hid (∀ i x, L[i]? = some x → ofR (L.take (i + 1)) = insR x (ofR (L.take i))) := fun i x h => by show joinR [] _ = _; rw [take_snoc h, joinR_snoc]; rfl
  have HLn : Hid (∀ i, i ≤ n → (ofR (L.take i)).length ≤ 10000) := fun i hi => by
    have h1 := ofI_len (L.take i)
    rw [ofI_eq, List.length_take] at h1
    have := HN.out
    omega
  go_enter Try.func7, Try.ntmps7
  go_wp2
  go_loopg [3, 4] n (fun g1 v3 v4 wr => ∃ (i : Nat) (vt : Value), vt = v3 ∧ v4 = .int .i64 i ∧ i ≤ n ∧ n - i ≤ g1 ∧ Hid (OG (Value.int .i64) w.heap.size 3 wr vt (ofR (L.take i))) ∧ Hid (Below w.heap.size w wr))
  case atStart => exact ⟨0, _, rfl, rfl, Nat.zero_le _, by omega, OG.nil _ _ _, Below.refl _ _⟩
  case round =>
    obtain ⟨i, vt, rfl, rfl, hin, hg1, HO, HBW⟩ := hrel
    by_cases hlt : i < n
    · have hltz : (i : Int) < (n : Int) := by omega
      obtain ⟨y, gg, o, hy, e1, c1⟩ := HC.out _ HBW.out i hlt
      subst e1
      have HY : Hid (ofR (L.take (i + 1)) = insR y (ofR (L.take i))) := HJ.out i y hy
      have C := rWith vt _ y wr HO.out.rg (by have := HLn.out i hin; omega)
      clear hy
      go_wp2_with fail
      refine C.mono ?_
      rintro e w2 ⟨u, rfl, ho, b⟩
      have O2 : Hid (OG (Value.int .i64) w.heap.size 3 w2 u (ofR (L.take (i + 1)))) := by rw [HY.out]; exact ho.mono HBW.out.size
      have B2 : Hid (Below w.heap.size w w2) := HBW.out.trans (b.mono HBW.out.size)
      clear C c1 ho b HO HBW
      go_wp2
      go_roundg (n - (i + 1))
      case measure => omega
      case rel => exact ⟨i + 1, _, rfl, by go_num, by omega, Nat.le_refl _, O2, B2⟩
    · have hltz : ¬ (i : Int) < (n : Int) := by omega
      have HE : Hid (ofR (L.take i) = ofR L) := by show _ = _; rw [List.take_of_length_le (by rw [HN.out]; omega)]
      go_wp2
      go_ret
      exact ⟨_, rfl, by rw [← HE.out]; exact HO.out, HBW.out⟩
/-- what the document's Join leaves -/
def RJ (w : World) (M : List Int) (e : Ending) (w' : World) : Prop := ∃ u, e = .returned u ∧ RG (Value.int .i64) w' u M ∧ Below w.heap.size w w'
set_option maxHeartbeats 4000000 in
set_option maxRecDepth 1000000 in
theorem rSome (v : Value) (L : List Int) (u : Value) (M : List Int) (bi : Bool) (w : World) (hv : RG (Value.int .i64) w v L) (hu : RG (Value.int .i64) w u M) (hz : L.length ≤ 10000) : Calls Try.prog 11 #[v, u, .bool bi] w fun e w' => RE w (L.filter fun z => decide (z ∈ M) == bi) e w' := by
  obtain ⟨i0, hi, hz0, hz1, hz2⟩ := info_parts infoI
  have hv0 := hv
  obtain ⟨ao, cap, rfl, hc, hm, -, -⟩ := hv
  unfold maxLen at hm
  obtain ⟨n, hn⟩ : ∃ n, L.length = n := ⟨_, rfl⟩
  rw [hn] at hc hv0 ⊢
  have HN : Hid (L.length = n) := hn
  have HC : Hid (∀ W, Below w.heap.size w W → ∀ i, i < n → ∃ x gg o, L[i]? = some x ∧ ao = some ⟨gg, o, none⟩ ∧ W.cell? ⟨gg, o + i, none⟩ = some (.int .i64 x)) := fun W h i hi => (hv0.below (Nat.le_refl _) h).at hi
  have hnz : n ≤ 1000000 := by omega
  clear hn hv0
  have HU : Hid (RG (Value.int .i64) w u M) := hu
  clear hu
  go_enter Try.func11, Try.ntmps11
  go_wp2
  go_loopg [7, 8] n (fun g1 v7 v8 wr => ∃ (i : Nat) (vt : Value), vt = v7 ∧ v8 = .int .i64 i ∧ i ≤ n ∧ n - i ≤ g1 ∧ Hid (OG (Value.int .i64) w.heap.size 3 wr vt ((L.take i).filter fun z => decide (z ∈ M) == bi)) ∧ Hid (Below w.heap.size w wr))
  case atStart => exact ⟨0, _, rfl, rfl, Nat.zero_le _, by omega, OG.nil _ _ _, Below.refl _ _⟩
  case round =>
    obtain ⟨i, vt, rfl, rfl, hin, hg1, HO, HBW⟩ := hrel
    have HL : Hid (((L.take i).filter fun z => decide (z ∈ M) == bi).length ≤ 10000) := Nat.le_trans (List.length_filter_le _ _) (by rw [List.length_take]; omega)
    by_cases hlt : i < n
    · have hltz : (i : Int) < (n : Int) := by omega
      obtain ⟨y, gg, o, hy, e1, c1⟩ := HC.out _ HBW.out i hlt
      subst e1
      have hf := filter_snoc (fun z => decide (z ∈ M) == bi) hy
      have C := rHas u M y wr (HU.out.below (Nat.le_refl _) HBW.out)
      obtain ⟨bm, hbm⟩ : ∃ b, b = decide (y ∈ M) := ⟨_, rfl⟩
      rw [← hbm] at C
      simp only [← hbm] at hf
      clear hy hbm
      go_wp2_with fail
      refine C.mono ?_
      rintro e w2 ⟨rfl, rfl⟩
      clear C
      cases hb : (bm == bi) with
      | true =>
        have HF : Hid ((L.take (i + 1)).filter (fun z => decide (z ∈ M) == bi) = (L.take i).filter (fun z => decide (z ∈ M) == bi) ++ [y]) := by rw [hb] at hf; exact hf
        have hbe : bm = bi := by simpa using hb
        subst hbe
        clear hf
        generalize ((L.take i).filter fun z => decide (z ∈ M) == bm) = D at *
        have Oa : Hid (OG (Value.int .i64) w.heap.size 3 (w2.alloc (.cells #[.int .i64 (y)] 3)) vt (D)) := HO.out.below ((Below.refl _ _).alloc (Nat.le_refl _) _)
        have Ra : Hid (RG (Value.int .i64) (w2.alloc (.cells #[.int .i64 (y)] 3)) (.slice (some ⟨w2.heap.size, 0, none⟩) 1 1) [y]) := (OG.lit (enc := (Value.int .i64)) 3 w2 [y] (by unfold maxLen; simp)).rg
        have Za : Hid (w.heap.size ≤ (w2.alloc (.cells #[.int .i64 (y)] 3)).heap.size) := Nat.le_trans HBW.out.size (by simp)
        have Ba : Hid (Below w.heap.size w (w2.alloc (.cells #[.int .i64 (y)] 3))) := HBW.out.alloc HBW.out.size _
        go_wp2_with (at_builtin; refine wpList_appG _ oneI rfl _ _ 26 rfl w.heap.size 3 i0 (.int .i64 0) 8 Try.underlying26 hi hz0 hz1 hz2 rfl _ _ (D) [y] rfl Oa.out rfl Ra.out (by have := HL.out; unfold maxLen; simp only [List.length_cons, List.length_nil]; omega) (by have := HL.out; simp only [List.length_cons, List.length_nil]; omega) Za.out ?_)
        intro va wa hoa hga
        have Pa : Hid (OG (Value.int .i64) w.heap.size 3 wa va (D ++ [y])) := by first | exact hoa | simpa [Hid] using hoa
        have Qa : Hid (Below w.heap.size w wa) := Oa.out.grown Ba.out Za.out hga
        clear hoa hga Oa Ra Za Ba
        go_wp2
        go_roundg (n - (i + 1))
        case measure => omega
        case rel => exact ⟨i + 1, _, rfl, by go_num, by omega, Nat.le_refl _, by rw [HF.out]; exact Pa, Qa⟩
      | false =>
        have HF : Hid ((L.take (i + 1)).filter (fun z => decide (z ∈ M) == bi) = (L.take i).filter (fun z => decide (z ∈ M) == bi)) := by rw [hb] at hf; simpa [Hid] using hf
        have hne : ¬ bm = bi := by simpa using hb
        clear hf
        go_wp2
        go_roundg (n - (i + 1))
        case measure => omega
        case rel => exact ⟨i + 1, _, rfl, by go_num, by omega, Nat.le_refl _, by rw [HF.out]; exact HO, HBW⟩
    · have hltz : ¬ (i : Int) < (n : Int) := by omega
      have HE : Hid ((L.take i).filter (fun z => decide (z ∈ M) == bi) = L.filter fun z => decide (z ∈ M) == bi) := by show _ = _; rw [List.take_of_length_le (by rw [HN.out]; omega)]
      go_wp2
      go_ret
      exact ⟨_, rfl, by rw [← HE.out]; exact HO.out, HBW.out⟩
end Go.Proofs.Ytknibmehbplpbaa

/-
  Proved here: the walk of LexEach.
-/
import Derived.Test.YtlemnbegblpllaaDoorLexEachA
import Derived.Test.YtlemnbegblpllaaDoorLexEachC
import Derived.Test.YtlemnbegblpllaaDoorLexPushAll
namespace Go.Proofs.YtlemnbegblpllaaDoor
open Go.RowKit Go.Shelf
attribute [local go_sem] Oper.semAt_some
set_option maxRecDepth 100000 in
set_option maxHeartbeats 6400000 in
theorem lexEach_top (s : ByteArray) (most : Int) (w : World) (m : Int) (hm : w.cell? ⟨1, 0, none⟩ = some (.int .i64 m)) (hg : ErrT w) (hbd : s.size ≤ 1048576) (_ : s.size ≤ maxLen) (hwf : (Lit.int .i64 most).wf = true) :
    Calls Tryd.prog 4 #[.string s, .int .i64 most] w fun e w' => e = .returned (.bool true) ∧ Below w.heap.size w w' := by
  have hmw : IntKind.i64.wrap most = most := by
    obtain ⟨q1, q2⟩ := i64_in hwf
    rw [IntKind.wrap_i64]; omega
  have hz : s.size < 4294967281 := by omega
  have h1w : 1 < w.heap.size := block_lt_of_cell hm
  have hA := fun w hm hg => (callsIn_wide (n := 3)).2 (awake_yes m w hm hg)
  have hk1 := fun w hm hg => (callsIn_wide (n := 3)).2 (walk_any s most m w hz hm hg hmw)
  have hk2 := fun w hm hg => (callsIn_wide (n := 3)).2 (walk_any s 0 m w hz hm hg rfl)
  have hea := fun w => (callsIn_wide (n := 3)).2 (each_any s w)
  have hal := fun w => (callsIn_wide (n := 3)).2 (allR_both s w hz)
  have hNz : (allF s 0).length < 4294967300 := Nat.lt_of_le_of_lt (tolds_len s _ _) (by omega)
  have HL : Hid _ := count_each s m hz w
  have HM : Hid _ := count_all s m hz w
  have hplt := fun i outs => @pre_lt s i outs
  refine (callsIn_wide (n := 4)).1 ?_
  obtain ⟨w0, hw0⟩ : ∃ W, w.alloc (.cells #[.int .i64 most] 3) = W := ⟨_, rfl⟩
  have b0 : Below w.heap.size w w0 := by rw [← hw0]; exact belowA1 _ _
  have hms : w0.heap[w.heap.size]? = some (.cells #[.int .i64 most] 3 (0, 0)) := by rw [← hw0]; exact heap_alloc_new w _
  have z0 : w0.heap.size = w.heap.size + 1 := by rw [← hw0]; simp
  have hm0 := keepB2 b0 hm
  have hg0 : ErrT w0 := keepB2 b0 hg
  have hA0 := hA w0 hm0 hg0
  clear hA
  refine callsIn_of_wp_marks Tryd.func4 rfl trivial ?_ rfl
  simp only [Tryd.ntmps4, List.size_toArray, List.length_cons, List.length_nil, Nat.reduceAdd, Nat.reduceSub, Array.replicate_succ, Array.replicate_zero, List.push_toArray, List.append_toArray, List.nil_append, List.cons_append]
  gi_wp2_with fail
  (try rw [hw0])
  refine ⟨trivial, ?_⟩
  refine hA0.mono ?_
  rintro e w1 ⟨rfl, b1⟩
  clear hA0 hw0
  have B1 := bstep1 b0 b1
  have ms1 : w1.heap[w.heap.size]? = some (.cells #[.int .i64 most] 3 (0, 0)) := by rw [b1.block _ (by omega)]; exact hms
  have hm1 := keepB2 b1 hm0
  have hg1 : ErrT w1 := keepB2 b1 hg0
  have z1 := b1.size
  have cm1 : w1.cell? ⟨w.heap.size, 0, none⟩ = some (.int .i64 most) := by simp [World.cell?, ms1]
  have k1 := hk1 w1 hm1 hg1
  clear hk1 hms hm0 hg0 b1 b0
  gi_wp2_with fail
  refine ⟨trivial, ?_⟩
  refine k1.mono ?_
  rintro e w2 ⟨rfl, b2⟩
  clear k1 cm1
  have B2 := bstep1 B1 b2
  have ms2 : w2.heap[w.heap.size]? = some (.cells #[.int .i64 most] 3 (0, 0)) := by rw [b2.block _ (by omega)]; exact ms1
  have hm2 := keepB2 b2 hm1
  have hg2 : ErrT w2 := keepB2 b2 hg1
  have z2 := b2.size
  have k2 := hk2 w2 hm2 hg2
  clear hk2 ms1 hm1 hg1 b2 B1
  gi_wp2_with fail
  refine ⟨trivial, ?_⟩
  refine k2.mono ?_
  rintro e w3 ⟨rfl, b3⟩
  clear k2
  have B3 := bstep1 B2 b3
  have ms3 : w3.heap[w.heap.size]? = some (.cells #[.int .i64 most] 3 (0, 0)) := by rw [b3.block _ (by omega)]; exact ms2
  have z3 := b3.size
  clear ms2 hm2 hg2 b3 B2 hg
  gi_wp2_with fail
  refine ⟨trivial, ?_⟩
  refine (hea _).mono ?_
  rintro e w4 ⟨rfl, rfl⟩
  clear hea
  obtain ⟨bx, hbx⟩ : ∃ b, w3.heap.size = b := ⟨_, rfl⟩
  rw [hbx]
  obtain ⟨W4, hW4⟩ : ∃ W, w3.alloc (.cells #[.string s] 9) = W := ⟨_, rfl⟩
  have b4 : Below w3.heap.size w3 W4 := by rw [← hW4]; exact belowA1 _ _
  have tb4 : W4.heap[bx]? = some (.cells #[.string s] 9 (0, 0)) := by rw [← hW4, ← hbx]; exact heap_alloc_new w3 _
  have z4 : W4.heap.size = bx + 1 := by rw [← hW4, ← hbx]; simp
  have ms4 : W4.heap[w.heap.size]? = some (.cells #[.int .i64 most] 3 (0, 0)) := by rw [b4.block _ (by omega)]; exact ms3
  have B4 := bstep1 B3 b4
  have hwbx : w.heap.size < bx := by omega
  (try rw [hW4])
  clear b4 ms3 B3 hW4 z0 z1 z2 z3 hbx
  have hfn : ∀ w, (binOp .eql 42 (.func (.func 24) #[] #[.pointer (some ⟨bx, 0, none⟩)]) .nilFunc).run Tryd.prog w = .ok (.bool false) w := fun _ => by kernel_rfl
  gi_wp2_with fail
  have m4 : W4.cell? ⟨1, 0, none⟩ = some (.int .i64 m) := keepB2 B4 hm
  have hst1 := CtC.start (d1 := W4.heap.size + 1) ms4 tb4 (.inl rfl) hwbx (by omega) (by omega) B4
  have hm4 : ∀ o o' o'', (((W4.alloc o).alloc o').alloc o'').cell? ⟨1, 0, none⟩ = some (.int .i64 m) := fun o o' o'' => keepB2 (bstep1 (bstep1 (belowA1 _ _) (belowA1 _ _)) (belowA1 _ _)) m4
  have hzz : (W4.alloc (.cells #[.int .i64 0] 3)).heap.size = bx + 2 := by simp [z4]
  simp only [z4, Nat.add_assoc, Nat.reduceAdd] at hst1
  refine range_call rfl (by decide) rfl trivial (enters_of Tryd.func24 (by kernel_rfl) rfl) (fun W => ∃ k lo, CtC w bx (bx + 1) (bx + 2) most s k lo W)
    (fun c W => c = .exit 0 ∧ ∃ k lo, CtC w bx (bx + 1) (bx + 2) most s k lo W) ?call ?done ?stop
  case call =>
    intro fn hfn
    simp only [hzz, List.append_toArray, List.cons_append, List.nil_append, Nat.add_assoc, Nat.reduceAdd, Nat.reduceSub]
    refine CallsIn.mono (HL.out bx (bx + 1) (bx + 2) most _ 0 ?rd _ (by simp [z4]) (hm4 _ _ _) (hst1 _)) ?fin
    case fin =>
      rintro e W2 ⟨hv, h1 | ⟨k, h1⟩⟩
      · exact ⟨hv, none, h1.rc, h1.df, _, _, h1⟩
      · exact ⟨hv, some (.exit 0), h1.rc, h1.df, rfl, _, _, h1⟩
    case rd =>
      intro lo' hlo i outs W1 tv ev hp hc hs
      have hk1 := hplt i outs hp
      have hnz2 : outs.length < 4294967300 := by omega
      obtain ⟨Go_, hGo⟩ : ∃ G : World → Prop, G = fun W' => CtC w bx (bx + 1) (bx + 2) most s (outs.length + 1) lo' W' ∧ W1.heap.size ≤ W'.heap.size ∧ ∀ k, (k = 1 ∨ bx + 1 + 3 ≤ k) → k < W1.heap.size → W'.heap[k]? = W1.heap[k]? := ⟨_, rfl⟩
      obtain ⟨Lv_, hLv⟩ : ∃ L : Code → World → Prop, L = fun c W' => c = .exit 0 ∧ CtC w bx (bx + 1) (bx + 2) most s (outs.length + 1) { lo' with state := .done, pending := some (.exit 0) } W' := ⟨_, rfl⟩
      refine (yield_round (Go_ := Go_) (Lv := Lv_) trivial hc.rc (by rw [hlo]; rfl) (by rw [hlo]; rfl) (by rw [hlo]; rfl) ?_).mono ?_
      case refine_2 =>
        rintro e W' (⟨rfl, h⟩ | ⟨rfl, c, h⟩)
        · rw [hGo] at h; exact .inl ⟨rfl, h⟩
        · rw [hLv] at h; exact .inr ⟨rfl, h.2⟩
      obtain ⟨WB, hWB⟩ : ∃ WB, W1.putObj (bx + 1 + 2) (.loop { lo' with state := .busy }) = WB := ⟨_, rfl⟩
      have hcB : CtC w bx (bx + 1) (bx + 2) most s outs.length { lo' with state := .busy } WB := by rw [← hWB]; exact hc.put _
      have hkB : ∀ k, k ≠ bx + 1 + 2 → WB.heap[k]? = W1.heap[k]? := fun k h1 => by rw [← hWB, World.putObj_heap_other h1]
      have zB : WB.heap.size = W1.heap.size := by rw [← hWB]; simp
      have HA : Hid (W1.heap[bx + 1 + 2]? = some (.loop lo')) := hc.rc
      have cn : WB.cell? ⟨bx + 1, 0, none⟩ = some (.int .i64 (outs.length : Int)) := by simp [World.cell?, hcB.nn]
      have fn4 : WB.frozen? ⟨bx + 1, 0, none⟩ = false := frozen_of_row WB _ 0 _ _ hcB.nn
      have cm : WB.cell? ⟨w.heap.size, 0, none⟩ = some (.int .i64 most) := by simp [World.cell?, hcB.ms]
      have hX := hcB.next
      have hcast : ((outs.length + 1 : Nat) : Int) = (outs.length : Int) + 1 := by omega
      rw [hcast] at hX
      obtain ⟨X, hXX⟩ : ∃ X, WB.setCell ⟨bx + 1, 0, none⟩ (.int .i64 ((outs.length : Int) + 1)) = X := ⟨_, rfl⟩
      have hkX : ∀ k, (k = 1 ∨ bx + 1 + 3 ≤ k) → X.heap[k]? = W1.heap[k]? := fun k hk => by rw [← hXX, Below.heap_setCell _ _ _ _ (show k ≠ bx + 1 by omega), hkB k (by omega)]
      have zX : X.heap.size = W1.heap.size := by rw [← hXX]; simpa [World.setCell] using zB
      rw [hXX] at hX
      have HX : Hid (WB.setCell ⟨bx + 1, 0, none⟩ (.int .i64 ((outs.length : Int) + 1)) = X) := hXX
      have HG : Hid (X.heap[bx + 1 + 2]? = some (.loop { lo' with state := .busy }) ∧ Go_ (X.putObj (bx + 1 + 2) (.loop lo')) ∧ Lv_ (.exit 0) (X.putObj (bx + 1 + 2) (.loop { lo' with state := .done, pending := some (.exit 0) }))) := by
        refine ⟨hX.rc, ?_, ?_⟩
        · rw [hGo]
          exact ⟨hX.put _, by simp; omega, fun k a b => by rw [World.putObj_heap_other (by omega), hkX k a]⟩
        · rw [hLv]
          exact ⟨rfl, hX.put _⟩
      clear hcB hc hGo hLv hkB HL HM hX hkX zX hXX hal hst1 hm4 m4
      subst hlo
      dsimp only [recOf] at HA HG hWB ⊢
      by_cases hmo : (outs.length : Int) + 1 = most
      · have hmb2 : ((outs.length : Int) + 1 == most) = true := by rw [hmo]; simp
        have HX2 : Hid (WB.setCell ⟨bx + 1, 0, none⟩ (.int .i64 most) = X) := by show _ = _; rw [← hmo]; exact HX.out
        gi_wp2_with fail
        refine ⟨HA.out, ?_⟩
        (try rw [hWB])
        clear hWB HA
        gi_wp2
        rw [HX2.out]
        exact ⟨HG.out.1, HG.out.2.2⟩
      · have hmb2 : ((outs.length : Int) + 1 == most) = false := beq_eq_false_iff_ne.2 hmo
        gi_wp2_with fail
        refine ⟨HA.out, ?_⟩
        (try rw [hWB])
        clear hWB HA
        gi_wp2
        rw [HX.out]
        exact ⟨HG.out.1, HG.out.2.1⟩
  case done =>
    rintro W2 lo ⟨k, lo', h1⟩ hdf hlt
    rw [hzz] at hdf hlt ⊢
    have h4 := h1.put lo
    show Exit.inBlock 0 _ _ _ (W2.putObj (bx + 2 + 1) (.loop lo))
    generalize W2.putObj (bx + 2 + 1) (.loop lo) = W3 at *
    have ms3 := h4.ms
    have tb3 := h4.tb
    have dd3 := h4.dd
    have B3 := h4.bel
    obtain ⟨c, hc⟩ : ∃ c, W3.heap.size = c := ⟨_, rfl⟩
    have hcl : bx + 3 < c := by rw [← hc]; exact heap_lt h4.rc
    have m3 : W3.cell? ⟨1, 0, none⟩ = some (.int .i64 m) := keepB2 B3 hm
    have hst2 := CtC.start (d1 := bx + 2) ms3 tb3 (.inr ⟨by omega, dd3⟩) hwbx (by omega) (by omega) B3
    have hm3 : ∀ o o' o'', (((W3.alloc o).alloc o').alloc o'').cell? ⟨1, 0, none⟩ = some (.int .i64 m) := fun o o' o'' => keepB2 (bstep1 (bstep1 (belowA1 _ _) (belowA1 _ _)) (belowA1 _ _)) m3
    have hz3 : (W3.alloc (.cells #[.int .i64 0] 3)).heap.size = c + 1 := by simp [hc]
    simp only [hc] at hst2
    clear h4 h1 hdf hlt hst1 hm4 m4 ms4 tb4 z4 B4 hzz
    gi_wp2_with fail
    refine range_call rfl (by decide) rfl trivial (enters_of Tryd.func24 (by kernel_rfl) rfl) (fun W => ∃ lo, CtC w bx c (bx + 2) most s (allF s 0).length lo W)
      (fun c W => False) ?call2 ?done2 ?stop2
    case call2 =>
      intro fn hfn
      simp only [hz3, List.append_toArray, List.cons_append, List.nil_append, Nat.add_assoc, Nat.reduceAdd, Nat.reduceSub]
      refine CallsIn.mono (HM.out bx c (bx + 2) most _ ?rd2 _ (by simp [hc]) (hm3 _ _ _) (hst2 _)) ?fin2
      case fin2 =>
        rintro e W2 ⟨hv, h1⟩
        exact ⟨hv, none, h1.rc, h1.df, _, h1⟩
      case rd2 =>
        intro lo' hlo i outs W1 tv ev hp hc hs
        have hk1 := hplt i outs hp
        have hnz2 : outs.length < 4294967300 := by omega
        obtain ⟨Go_, hGo⟩ : ∃ G : World → Prop, G = fun W' => CtC w bx (c) (bx + 2) most s (outs.length + 1) lo' W' ∧ W1.heap.size ≤ W'.heap.size ∧ ∀ k, (k = 1 ∨ c + 3 ≤ k) → k < W1.heap.size → W'.heap[k]? = W1.heap[k]? := ⟨_, rfl⟩
        obtain ⟨Lv_, hLv⟩ : ∃ L : Code → World → Prop, L = fun _ _ => False := ⟨_, rfl⟩
        refine (yield_round (Go_ := Go_) (Lv := Lv_) trivial hc.rc (by rw [hlo]; rfl) (by rw [hlo]; rfl) (by rw [hlo]; rfl) ?_).mono ?_
        case refine_2 =>
          rintro e W' (⟨rfl, h⟩ | ⟨rfl, c, h⟩)
          · rw [hGo] at h; exact ⟨rfl, h⟩
          · rw [hLv] at h; exact h.elim
        obtain ⟨WB, hWB⟩ : ∃ WB, W1.putObj (c + 2) (.loop { lo' with state := .busy }) = WB := ⟨_, rfl⟩
        have hcB : CtC w bx (c) (bx + 2) most s outs.length { lo' with state := .busy } WB := by rw [← hWB]; exact hc.put _
        have hkB : ∀ k, k ≠ c + 2 → WB.heap[k]? = W1.heap[k]? := fun k h1 => by rw [← hWB, World.putObj_heap_other h1]
        have zB : WB.heap.size = W1.heap.size := by rw [← hWB]; simp
        have HA : Hid (W1.heap[c + 2]? = some (.loop lo')) := hc.rc
        have cn : WB.cell? ⟨c, 0, none⟩ = some (.int .i64 (outs.length : Int)) := by simp [World.cell?, hcB.nn]
        have fn4 : WB.frozen? ⟨c, 0, none⟩ = false := frozen_of_row WB _ 0 _ _ hcB.nn
        have cm : WB.cell? ⟨w.heap.size, 0, none⟩ = some (.int .i64 most) := by simp [World.cell?, hcB.ms]
        have hX := hcB.next
        have hcast : ((outs.length + 1 : Nat) : Int) = (outs.length : Int) + 1 := by omega
        rw [hcast] at hX
        obtain ⟨X, hXX⟩ : ∃ X, WB.setCell ⟨c, 0, none⟩ (.int .i64 ((outs.length : Int) + 1)) = X := ⟨_, rfl⟩
        have hkX : ∀ k, (k = 1 ∨ c + 3 ≤ k) → X.heap[k]? = W1.heap[k]? := fun k hk => by rw [← hXX, Below.heap_setCell _ _ _ _ (show k ≠ c by omega), hkB k (by omega)]
        have zX : X.heap.size = W1.heap.size := by rw [← hXX]; simpa [World.setCell] using zB
        rw [hXX] at hX
        have HX : Hid (WB.setCell ⟨c, 0, none⟩ (.int .i64 ((outs.length : Int) + 1)) = X) := hXX
        have HG : Hid (X.heap[c + 2]? = some (.loop { lo' with state := .busy }) ∧ Go_ (X.putObj (c + 2) (.loop lo'))) := by
          refine ⟨hX.rc, ?_⟩
          · rw [hGo]
            exact ⟨hX.put _, by simp; omega, fun k a b => by rw [World.putObj_heap_other (by omega), hkX k a]⟩
        clear hcB hc hGo hLv hkB HL HM hX hkX zX hXX hal hst2 hm3 m3
        subst hlo
        dsimp only [recOf] at HA HG hWB ⊢
        gi_wp2_with fail
        refine ⟨HA.out, ?_⟩
        (try rw [hWB])
        clear hWB HA
        gi_wp2
        rw [HX.out]
        exact ⟨HG.out.1, HG.out.2⟩
    case stop2 =>
      rintro W2 lo c hF
      exact hF.elim
    case done2 =>
      rintro W2 lo ⟨lo', h1⟩ hdf hlt
      rw [hz3] at hdf hlt ⊢
      have h4 := h1.put lo
      show Exit.inBlock 2 _ _ _ (W2.putObj (c + 1 + 1) (.loop lo))
      generalize W2.putObj (c + 1 + 1) (.loop lo) = W5 at *
      have cn : W5.cell? ⟨c, 0, none⟩ = some (.int .i64 ((allF s 0).length : Int)) := by simp [World.cell?, h4.nn]
      have nn5 := h4.nn
      have df5 := h4.df
      have dd5 := h4.dd
      have B5 := h4.bel
      have hl5 := heap_lt h4.rc
      clear h4 h1 hdf hlt hst2 hm3 m3 ms3 tb3 dd3 B3 hc hz3 HL HM hplt
      gi_wp2_with fail
      refine ⟨trivial, ?_⟩
      refine (hal _).mono ?_
      rintro e w6 ⟨vw, rfl, hrw, b6, hlen⟩
      have htk := wO_toks (allF s 0)
      clear hal
      obtain ⟨ao, cp, hvw⟩ : ∃ ao cp, vw = .slice ao (wO (allF s 0)).length cp := by
        rcases Joins.ownsRow_forms hrw with ⟨h, h0⟩ | ⟨g, cap, h⟩
        · exact ⟨_, _, by rw [h, h0]⟩
        · exact ⟨_, _, h⟩
      subst hvw
      have hwl := wO_len (allF s 0)
      replace cn := keepB2 b6 cn
      have df6 : w6.heap[c + 1]? = some (.deferred (some [])) := by rw [b6.block _ (by omega)]; exact df5
      have dd6 : w6.heap[bx + 2]? = some (.deferred (some [])) := by rw [b6.block _ (by omega)]; exact dd5
      have B6 := bstep1 B5 b6
      have hl6 := b6.size
      clear hrw b6 nn5 df5 dd5 B5
      generalize fzOf (allF s 0) = z at *
      generalize (allF s 0).length = N at *
      generalize (wO (allF s 0)).length = M at *
      obtain ⟨c0, li0, co0, wd0⟩ := z
      unfold fV
      dsimp only at hlen ⊢
      obtain ⟨X6, hX6⟩ : ∃ X, w6.alloc (.cells #[.int .i64 0, .int .i64 0, .int .i64 0, .string ⟨#[]⟩] 26) = X := ⟨_, rfl⟩
      have d6 : Below w6.heap.size w6 X6 := by rw [← hX6]; exact belowA1 _ _
      have F6 : FtC X6 w6.heap.size (.int .i64 0) (.int .i64 0) (.int .i64 0) (.string ⟨#[]⟩) := by rw [← hX6]; exact ftc_new _ rfl
      obtain ⟨e0, e1, e2, e3⟩ := F6.cells
      have y0 := F6.thaw 0
      have y1 := F6.thaw 1
      have y2 := F6.thaw 2
      have y3 := F6.thaw 3
      have F7 := F6.write (.int .i64 c0) (.int .i64 li0) (.int .i64 co0) (.string wd0)
      obtain ⟨X7, hX7⟩ : ∃ X, (((X6.setCell ⟨w6.heap.size, 0, none⟩ (.int .i64 c0)).setCell ⟨w6.heap.size, 1, none⟩ (.int .i64 li0)).setCell ⟨w6.heap.size, 2, none⟩ (.int .i64 co0)).setCell ⟨w6.heap.size, 3, none⟩ (.string wd0) = X := ⟨_, rfl⟩
      have d7 : Below w6.heap.size w6 X7 := by
        rw [← hX7]
        exact (((d6.setCell (p := ⟨w6.heap.size, 0, none⟩) (Nat.le_refl _) _).setCell (p := ⟨w6.heap.size, 1, none⟩) (Nat.le_refl _) _).setCell (p := ⟨w6.heap.size, 2, none⟩) (Nat.le_refl _) _).setCell (p := ⟨w6.heap.size, 3, none⟩) (Nat.le_refl _) _
      rw [hX7] at F7
      replace cn := keepB2 d7 cn
      have df7 : X7.heap[c + 1]? = some (.deferred (some [])) := by rw [d7.block _ (by omega)]; exact df6
      have dd7 : X7.heap[bx + 2]? = some (.deferred (some [])) := by rw [d7.block _ (by omega)]; exact dd6
      have B7 := bstep1 B6 d7
      obtain ⟨f0, f1, f2, f3⟩ := F7.cells
      have HB : Hid (X7.heap[c + 1]? = some (.deferred (some [])) ∧ X7.heap[bx + 2]? = some (.deferred (some [])) ∧ Below w.heap.size w X7) := ⟨df7, dd7, B7⟩
      clear df7 dd7 B7 df6 dd6 B6 F7 d7
      by_cases hcc : c0 = 0
      · have hcb : (c0 != 0) = false := by rw [hcc]; rfl
        rw [if_pos hcc] at hlen
        clear hcc
        subst hlen
        gi_wp2
        (try rw [hX7])
        obtain ⟨q1, q2, q3⟩ := HB.out
        have q4 : (X7.putObj (c + 1) (.deferred none)).heap[bx + 2]? = some (.deferred (some [])) := by rw [World.putObj_heap_other (by omega)]; exact q2
        refine ⟨by simp, .inl ⟨_, _, rfl, run_takeDeferred q1, ⟨by simp, .inl ⟨_, _, rfl, run_takeDeferred q4, ?_⟩⟩⟩⟩
        exact ⟨.bool true, results_t1 (p := 4) rfl _ _ _ rfl, rfl, (q3.trans (below_put _ (by omega))).trans (below_put _ (by omega))⟩
      · have hcb : (c0 != 0) = true := by simp only [bne, beq_eq_false_iff_ne.2 hcc]; rfl
        rw [if_neg hcc] at hlen
        subst hlen
        gi_wp2
        (try rw [hX7])
        obtain ⟨q1, q2, q3⟩ := HB.out
        have q4 : (X7.putObj (c + 1) (.deferred none)).heap[bx + 2]? = some (.deferred (some [])) := by rw [World.putObj_heap_other (by omega)]; exact q2
        refine ⟨by simp, .inl ⟨_, _, rfl, run_takeDeferred q1, ⟨by simp, .inl ⟨_, _, rfl, run_takeDeferred q4, ?_⟩⟩⟩⟩
        exact ⟨.bool true, results_t1 (p := 4) rfl _ _ _ rfl, rfl, (q3.trans (below_put _ (by omega))).trans (below_put _ (by omega))⟩
  case stop =>
    rintro W2 lo cx ⟨rfl, k, lo', h1⟩ hdf hlt
    rw [hzz] at hdf hlt ⊢
    have h4 := h1.put lo
    show Code.wpIn _ _ _ _ _ _ (W2.putObj (bx + 2 + 1) (.loop lo))
    generalize W2.putObj (bx + 2 + 1) (.loop lo) = W3 at *
    have ms3 := h4.ms
    have tb3 := h4.tb
    have dd3 := h4.dd
    have B3 := h4.bel
    obtain ⟨c, hc⟩ : ∃ c, W3.heap.size = c := ⟨_, rfl⟩
    have hcl : bx + 3 < c := by rw [← hc]; exact heap_lt h4.rc
    have m3 : W3.cell? ⟨1, 0, none⟩ = some (.int .i64 m) := keepB2 B3 hm
    have hst2 := CtC.start (d1 := bx + 2) ms3 tb3 (.inr ⟨by omega, dd3⟩) hwbx (by omega) (by omega) B3
    have hm3 : ∀ o o' o'', (((W3.alloc o).alloc o').alloc o'').cell? ⟨1, 0, none⟩ = some (.int .i64 m) := fun o o' o'' => keepB2 (bstep1 (bstep1 (belowA1 _ _) (belowA1 _ _)) (belowA1 _ _)) m3
    have hz3 : (W3.alloc (.cells #[.int .i64 0] 3)).heap.size = c + 1 := by simp [hc]
    simp only [hc] at hst2
    clear h4 h1 hdf hlt hst1 hm4 m4 ms4 tb4 z4 B4 hzz
    gi_wp2_with fail
    refine range_call rfl (by decide) rfl trivial (enters_of Tryd.func24 (by kernel_rfl) rfl) (fun W => ∃ lo, CtC w bx c (bx + 2) most s (allF s 0).length lo W)
      (fun c W => False) ?call2 ?done2 ?stop2
    case call2 =>
      intro fn hfn
      simp only [hz3, List.append_toArray, List.cons_append, List.nil_append, Nat.add_assoc, Nat.reduceAdd, Nat.reduceSub]
      refine CallsIn.mono (HM.out bx c (bx + 2) most _ ?rd2 _ (by simp [hc]) (hm3 _ _ _) (hst2 _)) ?fin2
      case fin2 =>
        rintro e W2 ⟨hv, h1⟩
        exact ⟨hv, none, h1.rc, h1.df, _, h1⟩
      case rd2 =>
        intro lo' hlo i outs W1 tv ev hp hc hs
        have hk1 := hplt i outs hp
        have hnz2 : outs.length < 4294967300 := by omega
        obtain ⟨Go_, hGo⟩ : ∃ G : World → Prop, G = fun W' => CtC w bx (c) (bx + 2) most s (outs.length + 1) lo' W' ∧ W1.heap.size ≤ W'.heap.size ∧ ∀ k, (k = 1 ∨ c + 3 ≤ k) → k < W1.heap.size → W'.heap[k]? = W1.heap[k]? := ⟨_, rfl⟩
        obtain ⟨Lv_, hLv⟩ : ∃ L : Code → World → Prop, L = fun _ _ => False := ⟨_, rfl⟩
        refine (yield_round (Go_ := Go_) (Lv := Lv_) trivial hc.rc (by rw [hlo]; rfl) (by rw [hlo]; rfl) (by rw [hlo]; rfl) ?_).mono ?_
        case refine_2 =>
          rintro e W' (⟨rfl, h⟩ | ⟨rfl, c, h⟩)
          · rw [hGo] at h; exact ⟨rfl, h⟩
          · rw [hLv] at h; exact h.elim
        obtain ⟨WB, hWB⟩ : ∃ WB, W1.putObj (c + 2) (.loop { lo' with state := .busy }) = WB := ⟨_, rfl⟩
        have hcB : CtC w bx (c) (bx + 2) most s outs.length { lo' with state := .busy } WB := by rw [← hWB]; exact hc.put _
        have hkB : ∀ k, k ≠ c + 2 → WB.heap[k]? = W1.heap[k]? := fun k h1 => by rw [← hWB, World.putObj_heap_other h1]
        have zB : WB.heap.size = W1.heap.size := by rw [← hWB]; simp
        have HA : Hid (W1.heap[c + 2]? = some (.loop lo')) := hc.rc
        have cn : WB.cell? ⟨c, 0, none⟩ = some (.int .i64 (outs.length : Int)) := by simp [World.cell?, hcB.nn]
        have fn4 : WB.frozen? ⟨c, 0, none⟩ = false := frozen_of_row WB _ 0 _ _ hcB.nn
        have cm : WB.cell? ⟨w.heap.size, 0, none⟩ = some (.int .i64 most) := by simp [World.cell?, hcB.ms]
        have hX := hcB.next
        have hcast : ((outs.length + 1 : Nat) : Int) = (outs.length : Int) + 1 := by omega
        rw [hcast] at hX
        obtain ⟨X, hXX⟩ : ∃ X, WB.setCell ⟨c, 0, none⟩ (.int .i64 ((outs.length : Int) + 1)) = X := ⟨_, rfl⟩
        have hkX : ∀ k, (k = 1 ∨ c + 3 ≤ k) → X.heap[k]? = W1.heap[k]? := fun k hk => by rw [← hXX, Below.heap_setCell _ _ _ _ (show k ≠ c by omega), hkB k (by omega)]
        have zX : X.heap.size = W1.heap.size := by rw [← hXX]; simpa [World.setCell] using zB
        rw [hXX] at hX
        have HX : Hid (WB.setCell ⟨c, 0, none⟩ (.int .i64 ((outs.length : Int) + 1)) = X) := hXX
        have HG : Hid (X.heap[c + 2]? = some (.loop { lo' with state := .busy }) ∧ Go_ (X.putObj (c + 2) (.loop lo'))) := by
          refine ⟨hX.rc, ?_⟩
          · rw [hGo]
            exact ⟨hX.put _, by simp; omega, fun k a b => by rw [World.putObj_heap_other (by omega), hkX k a]⟩
        clear hcB hc hGo hLv hkB HL HM hX hkX zX hXX hal hst2 hm3 m3
        subst hlo
        dsimp only [recOf] at HA HG hWB ⊢
        gi_wp2_with fail
        refine ⟨HA.out, ?_⟩
        (try rw [hWB])
        clear hWB HA
        gi_wp2
        rw [HX.out]
        exact ⟨HG.out.1, HG.out.2⟩
    case stop2 =>
      rintro W2 lo c hF
      exact hF.elim
    case done2 =>
      rintro W2 lo ⟨lo', h1⟩ hdf hlt
      rw [hz3] at hdf hlt ⊢
      have h4 := h1.put lo
      show Exit.inBlock 2 _ _ _ (W2.putObj (c + 1 + 1) (.loop lo))
      generalize W2.putObj (c + 1 + 1) (.loop lo) = W5 at *
      have cn : W5.cell? ⟨c, 0, none⟩ = some (.int .i64 ((allF s 0).length : Int)) := by simp [World.cell?, h4.nn]
      have nn5 := h4.nn
      have df5 := h4.df
      have dd5 := h4.dd
      have B5 := h4.bel
      have hl5 := heap_lt h4.rc
      clear h4 h1 hdf hlt hst2 hm3 m3 ms3 tb3 dd3 B3 hc hz3 HL HM hplt
      gi_wp2_with fail
      refine ⟨trivial, ?_⟩
      refine (hal _).mono ?_
      rintro e w6 ⟨vw, rfl, hrw, b6, hlen⟩
      have htk := wO_toks (allF s 0)
      clear hal
      obtain ⟨ao, cp, hvw⟩ : ∃ ao cp, vw = .slice ao (wO (allF s 0)).length cp := by
        rcases Joins.ownsRow_forms hrw with ⟨h, h0⟩ | ⟨g, cap, h⟩
        · exact ⟨_, _, by rw [h, h0]⟩
        · exact ⟨_, _, h⟩
      subst hvw
      have hwl := wO_len (allF s 0)
      replace cn := keepB2 b6 cn
      have df6 : w6.heap[c + 1]? = some (.deferred (some [])) := by rw [b6.block _ (by omega)]; exact df5
      have dd6 : w6.heap[bx + 2]? = some (.deferred (some [])) := by rw [b6.block _ (by omega)]; exact dd5
      have B6 := bstep1 B5 b6
      have hl6 := b6.size
      clear hrw b6 nn5 df5 dd5 B5
      generalize fzOf (allF s 0) = z at *
      generalize (allF s 0).length = N at *
      generalize (wO (allF s 0)).length = M at *
      obtain ⟨c0, li0, co0, wd0⟩ := z
      unfold fV
      dsimp only at hlen ⊢
      obtain ⟨X6, hX6⟩ : ∃ X, w6.alloc (.cells #[.int .i64 0, .int .i64 0, .int .i64 0, .string ⟨#[]⟩] 26) = X := ⟨_, rfl⟩
      have d6 : Below w6.heap.size w6 X6 := by rw [← hX6]; exact belowA1 _ _
      have F6 : FtC X6 w6.heap.size (.int .i64 0) (.int .i64 0) (.int .i64 0) (.string ⟨#[]⟩) := by rw [← hX6]; exact ftc_new _ rfl
      obtain ⟨e0, e1, e2, e3⟩ := F6.cells
      have y0 := F6.thaw 0
      have y1 := F6.thaw 1
      have y2 := F6.thaw 2
      have y3 := F6.thaw 3
      have F7 := F6.write (.int .i64 c0) (.int .i64 li0) (.int .i64 co0) (.string wd0)
      obtain ⟨X7, hX7⟩ : ∃ X, (((X6.setCell ⟨w6.heap.size, 0, none⟩ (.int .i64 c0)).setCell ⟨w6.heap.size, 1, none⟩ (.int .i64 li0)).setCell ⟨w6.heap.size, 2, none⟩ (.int .i64 co0)).setCell ⟨w6.heap.size, 3, none⟩ (.string wd0) = X := ⟨_, rfl⟩
      have d7 : Below w6.heap.size w6 X7 := by
        rw [← hX7]
        exact (((d6.setCell (p := ⟨w6.heap.size, 0, none⟩) (Nat.le_refl _) _).setCell (p := ⟨w6.heap.size, 1, none⟩) (Nat.le_refl _) _).setCell (p := ⟨w6.heap.size, 2, none⟩) (Nat.le_refl _) _).setCell (p := ⟨w6.heap.size, 3, none⟩) (Nat.le_refl _) _
      rw [hX7] at F7
      replace cn := keepB2 d7 cn
      have df7 : X7.heap[c + 1]? = some (.deferred (some [])) := by rw [d7.block _ (by omega)]; exact df6
      have dd7 : X7.heap[bx + 2]? = some (.deferred (some [])) := by rw [d7.block _ (by omega)]; exact dd6
      have B7 := bstep1 B6 d7
      obtain ⟨f0, f1, f2, f3⟩ := F7.cells
      have HB : Hid (X7.heap[c + 1]? = some (.deferred (some [])) ∧ X7.heap[bx + 2]? = some (.deferred (some [])) ∧ Below w.heap.size w X7) := ⟨df7, dd7, B7⟩
      clear df7 dd7 B7 df6 dd6 B6 F7 d7
      by_cases hcc : c0 = 0
      · have hcb : (c0 != 0) = false := by rw [hcc]; rfl
        rw [if_pos hcc] at hlen
        clear hcc
        subst hlen
        gi_wp2
        (try rw [hX7])
        obtain ⟨q1, q2, q3⟩ := HB.out
        have q4 : (X7.putObj (c + 1) (.deferred none)).heap[bx + 2]? = some (.deferred (some [])) := by rw [World.putObj_heap_other (by omega)]; exact q2
        refine ⟨by simp, .inl ⟨_, _, rfl, run_takeDeferred q1, ⟨by simp, .inl ⟨_, _, rfl, run_takeDeferred q4, ?_⟩⟩⟩⟩
        exact ⟨.bool true, results_t1 (p := 4) rfl _ _ _ rfl, rfl, (q3.trans (below_put _ (by omega))).trans (below_put _ (by omega))⟩
      · have hcb : (c0 != 0) = true := by simp only [bne, beq_eq_false_iff_ne.2 hcc]; rfl
        rw [if_neg hcc] at hlen
        subst hlen
        gi_wp2
        (try rw [hX7])
        obtain ⟨q1, q2, q3⟩ := HB.out
        have q4 : (X7.putObj (c + 1) (.deferred none)).heap[bx + 2]? = some (.deferred (some [])) := by rw [World.putObj_heap_other (by omega)]; exact q2
        refine ⟨by simp, .inl ⟨_, _, rfl, run_takeDeferred q1, ⟨by simp, .inl ⟨_, _, rfl, run_takeDeferred q4, ?_⟩⟩⟩⟩
        exact ⟨.bool true, results_t1 (p := 4) rfl _ _ _ rfl, rfl, (q3.trans (below_put _ (by omega))).trans (below_put _ (by omega))⟩
end Go.Proofs.YtlemnbegblpllaaDoor

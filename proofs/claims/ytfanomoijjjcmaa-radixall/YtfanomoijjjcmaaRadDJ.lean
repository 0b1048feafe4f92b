/-
  Proved here: package radix's Digits at one type.
-/
import Derived.Test.YtfanomoijjjcmaaRadD
namespace Go.Proofs.Ytfanomoijjjcmaa
open Go.RowKit Go.Shelf
attribute [local go_sem] Oper.semAt_some

theorem Try.infoJ : (Try.prog.info? 21).map (fun i => (i.zero, i.size, i.bytes)) = some (some (.int .i32 0), 1, 4) := by kernel_rfl
set_option maxRecDepth 100000 in
set_option maxHeartbeats 6400000 in
theorem digitsJ (v : Value) (ss : List Int) (a : Int) (w : World) (hv : RK .i32 w v ss) (hz : ss.length ≤ 17592186044416) (ha1 : -9223372036854775808 ≤ a) (ha2 : a ≤ 9223372036854775807) :
    Calls Try.prog 25 #[v, .int .i64 a] w (DgEnd .i32 21 ss a w) := by
  have h1 := fun w hv => countJ v ss w hv
  have hk := fun q => (hv.below (Nat.le_refl _) ((Below.refl w.heap.size w).alloc (Nat.le_refl _) (.cells #[.int .i64 a] 3))).drewN q
  have hbx : ∀ q, ((w.alloc (.cells #[.int .i64 a] 3)).drewN q).cell? ⟨w.heap.size, 0, none⟩ = some (.int .i64 a) := fun q => by
    rw [World.cell?_of_block (w := w.alloc (.cells #[.int .i64 a] 3)) (by rw [heap_drewR]), World.cell?_alloc_at _ _ _ _ rfl]; rfl
  have hce := cntE_cases ss
  have hcb := cnt_bd ss
  by_cases hE : cntE ss = 0
  case neg =>
    obtain ⟨ao, cap, rfl, -⟩ := hv
    have hEb : (cntE ss != 0) = true := by simpa using hE
    have HD : Hid (dgE ss a = cntE ss) := by unfold dgE; exact if_pos hE
    have HE : Hid (cntE ss ≠ 0) := hE
    clear hce hE hcb
    go_enter Try.func25, Try.ntmps25
    go_wp2_with (go_at_call 36; refine (h1 _ (hk 0)).mono ?_; rintro e w' ⟨rfl, q, rfl⟩)
    go_ret2
    exact ⟨.inl ⟨by rw [HD.out]; exact HE.out, by rw [HD.out]; rfl⟩, below_drewR ((Below.refl _ _).alloc (Nat.le_refl _) _) q⟩
  clear hce
  by_cases hR : a < 0 ∨ cntN ss ≤ a
  · obtain ⟨ao, cap, rfl, -⟩ := hv
    have HD : Hid (dgE ss a = 3) := by unfold dgE; rw [if_neg (by simp [hE])]; exact if_pos hR
    rw [hE] at h1
    clear hE
    have hfin : ∀ q, DgEnd .i32 21 ss a w (.returned (.tuple #[.slice none 0 0, .int .i64 3])) ((w.alloc (.cells #[.int .i64 a] 3)).drewN q) := fun q =>
      ⟨.inl ⟨by rw [HD.out]; decide, by rw [HD.out]⟩, below_drewR ((Below.refl _ _).alloc (Nat.le_refl _) _) q⟩
    by_cases hneg : a < 0
    · clear hR
      go_enter Try.func25, Try.ntmps25
      go_wp2_with (go_at_call 36; refine (h1 _ (hk 0)).mono ?_; rintro e w' ⟨rfl, q, rfl⟩; have hcx := hbx q)
      go_ret2
      exact hfin _
    · have hge : cntN ss ≤ a := by omega
      clear hR
      go_enter Try.func25, Try.ntmps25
      go_wp2_with (go_at_call 36; refine (h1 _ (hk 0)).mono ?_; rintro e w' ⟨rfl, q, rfl⟩; have hcx := hbx q)
      go_ret2
      exact hfin _
  have hR1 : ¬ a < 0 := fun h => hR (.inl h)
  have hR2 : ¬ cntN ss ≤ a := fun h => hR (.inr h)
  obtain ⟨hneg, hpr, hcn⟩ := cntE_zero hE
  have hnul : nuls ss = false := by
    cases h : nuls ss with
    | false => rfl
    | true => rw [hcn, pr_zero ss (nuls_yes h)] at hR2; omega
  have hone := ones hneg hnul
  have HD : Hid (dgE ss a = 0) := by unfold dgE; rw [if_neg (by simp [hE])]; exact if_neg hR
  obtain ⟨n, hn⟩ : ∃ n, ss.length = n := ⟨_, rfl⟩
  have hv0 := hv
  obtain ⟨ao, cap, rfl, hc, hm, hnil, hbd, hcell⟩ := hv
  have hmx : ∀ i, i < ss.length → ss.getD i 0 ≤ 2147483647 := fun i hi => by have := (hbd i hi).2; rw [max_i32] at this; exact this
  clear hnil hcell hbd
  unfold maxLen at hm
  rw [hE] at h1
  rw [hn] at h1 hk hc hz hv0 ⊢
  have h1' := fun w hv => (callsIn_wide (n := 3)).2 (h1 w hv)
  have h2' := fun w => (callsIn_wide (n := 3)).2 (backwardJ ao n cap w)
  obtain ⟨i0, hi, hz0, hz1, hz2⟩ := info_parts Try.infoJ
  have HN : Hid (ss.length = n) := hn
  clear hn h1 hE hR hnul hneg
  refine (callsIn_wide (n := 4)).1 ?_
  refine callsIn_of_wp_marks Try.func25 rfl trivial ?_ rfl
  simp only [Try.ntmps25, List.size_toArray, List.length_cons, List.length_nil, Nat.reduceAdd, Nat.reduceSub, Array.replicate_succ, Array.replicate_zero, List.push_toArray, List.append_toArray, List.nil_append, List.cons_append]
  gi_wp2_with fail
  refine ⟨trivial, ?_⟩
  refine (h1' _ (hk 0)).mono ?_
  rintro e w2 ⟨rfl, q, rfl⟩
  have hcx := hbx q
  gi_wp2_with (gi_at_make; refine wpListIn_zeros _ rfl _ _ 32 rfl 21 i0 .i32 Try.underlying32 hi hz0 hz1 _ _ n rfl rfl (by rw [hz2]; omega) (by omega) ?_)
  refine ⟨trivial, ?_⟩
  refine (h2' _).mono ?_
  rintro e w3 ⟨rfl, rfl⟩
  gi_wp2_with fail
  clear h1' h2' hcx hi hz0 hz1 hz2
  obtain ⟨W0, hW0⟩ : ∃ W0, ((((w.alloc (.cells #[.int .i64 a] 3)).drewN q).alloc (.cells (Array.replicate n (.int .i32 0)) 21)).alloc (.cells #[.slice (some ⟨w.heap.size + 1, 0, none⟩) n n] 32)).alloc (.cells #[.slice ao n cap] 32) = W0 := ⟨_, rfl⟩
  have hsz0 : W0.heap.size = w.heap.size + 4 := by rw [← hW0]; simp
  rw [hW0]
  refine range_call rfl (by decide) rfl trivial (enters_of Try.func70 (by kernel_rfl) rfl) (fun W => ∃ lo, DgC .i32 21 32 w (.slice ao n cap) ss a w.heap.size lo n W) (fun _ _ => False) ?call ?done ?stop
  case stop => intro W2 lo c h; exact h.elim
  case call =>
    intro fn hfn
    have h0 : ∀ lo, DgC .i32 21 32 w (.slice ao n cap) ss a w.heap.size lo 0 ((W0.alloc (.deferred (some []))).alloc (.loop lo)) := fun lo => by
      have g0 : W0.heap[w.heap.size]? = some (.cells #[.int .i64 a] 3 (0, 0)) := by
        rw [← hW0, Below.heap_alloc _ _ _ (by simp <;> omega), Below.heap_alloc _ _ _ (by simp <;> omega), Below.heap_alloc _ _ _ (by simp <;> omega), heap_drewR]; exact heap_alloc_new w _
      have g1 : W0.heap[w.heap.size + 1]? = some (.cells (Array.replicate n (.int .i32 0)) 21 (0, 0)) := by
        have := heap_alloc_new ((w.alloc (.cells #[.int .i64 a] 3)).drewN q) (.cells (Array.replicate n (.int .i32 0)) 21)
        rw [← hW0, Below.heap_alloc _ _ _ (by simp <;> omega), Below.heap_alloc _ _ _ (by simp <;> omega)]
        rw [heap_drewR, World.size_alloc] at this; exact this
      have g2 : W0.heap[w.heap.size + 2]? = some (.cells #[.slice (some ⟨w.heap.size + 1, 0, none⟩) n n] 32 (0, 0)) := by
        have := heap_alloc_new (((w.alloc (.cells #[.int .i64 a] 3)).drewN q).alloc (.cells (Array.replicate n (.int .i32 0)) 21)) (.cells #[.slice (some ⟨w.heap.size + 1, 0, none⟩) n n] 32)
        rw [← hW0, Below.heap_alloc _ _ _ (by simp <;> omega)]
        rw [World.size_alloc, heap_drewR, World.size_alloc] at this; exact this
      have g3 : W0.heap[w.heap.size + 3]? = some (.cells #[.slice ao n cap] 32 (0, 0)) := by
        have := heap_alloc_new ((((w.alloc (.cells #[.int .i64 a] 3)).drewN q).alloc (.cells (Array.replicate n (.int .i32 0)) 21)).alloc (.cells #[.slice (some ⟨w.heap.size + 1, 0, none⟩) n n] 32)) (.cells #[.slice ao n cap] 32)
        rw [← hW0]
        rw [World.size_alloc, World.size_alloc, heap_drewR, World.size_alloc] at this; exact this
      have gB : Below w.heap.size w W0 := by
        rw [← hW0]
        exact (((below_drewR ((Below.refl _ _).alloc (Nat.le_refl _) _) q).alloc (by simp <;> omega) _).alloc (by simp <;> omega) _).alloc (by simp <;> omega) _
      have gd := heap_alloc_new W0 (.deferred (some []))
      have gl := heap_alloc_new (W0.alloc (.deferred (some []))) (.loop lo)
      rw [hsz0] at gd
      rw [World.size_alloc, hsz0] at gl
      refine ⟨?_, ?_, ?_, ?_, ?_, gl, (gB.alloc (by omega) _).alloc (by simp <;> omega) _⟩
      · rw [Below.heap_alloc _ _ _ (by simp [hsz0] <;> omega), Below.heap_alloc _ _ _ (by omega), g0]; simp [pr]
      · rw [Below.heap_alloc _ _ _ (by simp [hsz0] <;> omega), Below.heap_alloc _ _ _ (by omega), g1, rowK_zero, HN.out]; simp
      · rw [Below.heap_alloc _ _ _ (by simp [hsz0] <;> omega), Below.heap_alloc _ _ _ (by omega), g2, HN.out]
      · rw [Below.heap_alloc _ _ _ (by simp [hsz0] <;> omega), Below.heap_alloc _ _ _ (by omega), g3]
      · rw [Below.heap_alloc _ _ _ (by simp [hsz0] <;> omega), gd]
    have hJ : ∀ lo k W, DgC .i32 21 32 w (.slice ao n cap) ss a w.heap.size lo k W → W.cell? ⟨w.heap.size + 3, 0, none⟩ = some (.slice ao n cap) ∧ RK .i32 W (.slice ao n cap) ss := fun lo k W h =>
      ⟨by simp [World.cell?, h.src], hv0.below (Nat.le_refl _) h.bel⟩
    simp only [hsz0, List.append_toArray, List.cons_append, List.nil_append, Nat.add_assoc, Nat.reduceAdd, Nat.reduceSub]
    refine CallsIn.mono (backward1J 3 (by decide) (w.heap.size + 5) (w.heap.size + 3) (.slice ao n cap) ss _ (fun _ => False) (hJ _) ?rd _ (h0 _)) ?fin
    case fin =>
      rintro e W2 ⟨hv, h | hx⟩
      · exact ⟨hv, none, h.rcd, h.dfr, _, by rw [HN.out] at h; exact h⟩
      · exact hx.elim
    case rd =>
      refine with_rec (p := fun lo => ∀ k W, k < ss.length → DgC .i32 21 32 w (.slice ao n cap) ss a w.heap.size lo k W →
        YieldAt Fence.wide (3 - 1) Try.prog (w.heap.size + 5) #[.int .i64 ((ss.length - 1 - k : Nat) : Int), .int .i32 (ss.getD (ss.length - 1 - k) 0)] W fun e W' => (e = .returned (.bool true) ∧ DgC .i32 21 32 w (.slice ao n cap) ss a w.heap.size lo (k + 1) W') ∨ (e = .returned (.bool false) ∧ False)) _ ?_
      intro lo' hlo k W1 hkn hC
      obtain ⟨j, hj⟩ : ∃ j, ss.length - 1 - k = j := ⟨_, rfl⟩
      rw [hj]
      obtain ⟨Go_, hGo⟩ : ∃ G : World → Prop, G = fun W' => DgC .i32 21 32 w (.slice ao n cap) ss a w.heap.size lo' (k + 1) W' := ⟨_, rfl⟩
      refine (yield_round (Go_ := Go_) (Lv := fun _ _ => False) trivial hC.rcd (by rw [hlo]; rfl) (by rw [hlo]; rfl) (by rw [hlo]; rfl) ?_).mono ?_
      case refine_2 =>
        rintro e W' (⟨rfl, h⟩ | ⟨_, _, h⟩)
        · rw [hGo] at h; exact .inl ⟨rfl, h⟩
        · exact h.elim
      obtain ⟨WB, hWB⟩ : ∃ WB, W1.putObj (w.heap.size + 5) (.loop { lo' with state := .busy }) = WB := ⟨_, rfl⟩
      have hcB : DgC .i32 21 32 w (.slice ao n cap) ss a w.heap.size { lo' with state := .busy } k WB := by rw [← hWB]; exact hC.put _
      have HA : Hid (W1.heap[w.heap.size + 5]? = some (.loop lo')) := hC.rcd
      have HP : Hid (∀ X, DgC .i32 21 32 w (.slice ao n cap) ss a w.heap.size { lo' with state := .busy } (k + 1) X → X.heap[w.heap.size + 5]? = some (.loop { lo' with state := .busy }) ∧ Go_ (X.putObj (w.heap.size + 5) (.loop lo'))) := fun X h => ⟨h.rcd, by rw [hGo]; exact h.put _⟩
      have HX : Hid (∀ X, DgC .i32 21 32 w (.slice ao n cap) ss a w.heap.size { lo' with state := .busy } k X → _) := fun X h => DgC.next h hkn hone hj
      have HC : Hid (DgC .i32 21 32 w (.slice ao n cap) ss a w.heap.size { lo' with state := .busy } k WB) := hcB
      obtain ⟨c1, f1, c2, ⟨u, c3⟩, f3⟩ := hcB.cells hkn hj
      rw [HN.out] at c2
      have hjn : j < n := by have := HN.out; omega
      have hjz : (j : Int) < (n : Int) := by omega
      have hx1 : 1 ≤ ss.getD j 0 := by
        have hjl : j < ss.length := by rw [HN.out]; exact hjn
        rw [List.getD_eq_getElem?_getD, List.getElem?_eq_getElem hjl]; exact hone _ (List.getElem_mem hjl)
      have hx2 : ss.getD j 0 ≤ 2147483647 := hmx j (by rw [HN.out]; exact hjn)
      have hA0 : 0 ≤ a / pr (ss.drop (j + 1)) := Int.ediv_nonneg hR1 (by have := (pr_drop_le ss hone (j + 1)).1; omega)
      have hA1 : a / pr (ss.drop (j + 1)) ≤ 2147483647 := Int.le_trans (Int.ediv_le_self _ hR1) (by omega)
      clear hcB hC hGo hj hkn hk hbx hv0 hone hW0 h0 hJ
      generalize a / pr (ss.drop (j + 1)) = A at *
      generalize ss.getD j 0 = x at *
      have hd0 : 0 ≤ A % x := Int.emod_nonneg _ (by omega)
      have hd1 : A % x < x := Int.emod_lt_of_pos _ (by omega)
      have hd2 : A % x ≤ 2147483647 := by omega
      have he0 : 0 ≤ A / x := Int.ediv_nonneg hA0 (by omega)
      have he1 : A / x ≤ 2147483647 := Int.le_trans (Int.ediv_le_self _ hA0) hA1
      subst hlo
      dsimp only [recOf] at HA HC HP HX hWB ⊢
      gi_wp2_with fail
      refine ⟨HA.out, ?_⟩
      (try rw [hWB])
      clear hWB HA
      gi_wp2_with fail
      have hx0 : ¬ x = 0 := by omega
      have htm : A.tmod x = A % x := Int.tmod_eq_emod_of_nonneg hA0
      have hwr : IntKind.i32.wrap (A % x) = A % x := wrap_i32 (by omega) (by omega)
      have hxb : (x == 0) = false := beq_eq_false_iff_ne.2 hx0
      have hwx : IntKind.i64.wrap x = x := wrap_i64 (by omega) (by omega)
      apply wpIn_cut (w' := (WB.setCell ⟨w.heap.size + 1, j, none⟩ (.int .i32 (A % x))).drew)
      case h =>
        gi_region
        all_goals exact ⟨rfl, rfl, rfl⟩
      case k =>
        gi_wp2
        exact HP.out _ (HX.out _ (DgC.drew HC.out))
  case done =>
    rintro W2 lo ⟨lo2, hC⟩ hdf hlt
    rw [hsz0] at hdf hlt ⊢
    have h4 := hC.put lo
    show Exit.inBlock 0 _ _ _ (W2.putObj (w.heap.size + 5) (.loop lo))
    generalize W2.putObj (w.heap.size + 5) (.loop lo) = W3 at *
    have c2 : W3.cell? ⟨w.heap.size + 2, 0, none⟩ = some (.slice (some ⟨w.heap.size + 1, 0, none⟩) n n) := by have := h4.box; rw [HN.out] at this; simp [World.cell?, this]
    have hdf3 := h4.dfr
    have hrow := h4.row
    have hbel := h4.bel
    clear hC hdf hlt
    gi_wp2
    refine ⟨by simp, .inl ⟨_, _, rfl, run_takeDeferred hdf3, ?_⟩⟩
    have hfull := rowK_full ss a
    rw [HN.out] at hfull
    rw [hfull] at hrow
    refine ⟨_, results_t2 (p := 4) (q := 5) rfl _ _ _ _ rfl rfl, .inr ⟨HD.out, w.heap.size + 1, by rw [HN.out]; rfl, Nat.le_succ _, ?_⟩, hbel.trans ⟨rfl, rfl, rfl, by simp, fun q hq => World.putObj_heap_other (by omega)⟩⟩
    rw [World.putObj_heap_other (by omega)]
    exact hrow
end Go.Proofs.Ytfanomoijjjcmaa

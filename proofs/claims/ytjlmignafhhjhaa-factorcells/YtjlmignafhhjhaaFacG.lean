/-
  Proved here: package factor's walkOf.
-/
import Derived.Test.YtjlmignafhhjhaaFacF
namespace Go.Proofs.Ytjlmignafhhjhaa
set_option linter.unusedVariables false
open Go.RowKit Go.Shelf Go.Lib Go.Sort
attribute [local go_sem] Oper.semAt_some
set_option maxRecDepth 100000 in
set_option maxHeartbeats 12800000 in
theorem walkOf_any (u zv pv : Value) (U S Pt : List Int) (w : World) (hu : RK .i64 w u U) (hz : RK .i64 w zv S) (hp : RK .i64 w pv Pt) (hl : S.length = U.length) (hone : ∀ z ∈ S, 1 ≤ z) (hpr : pr S ≤ 2147483647) (hn2 : U.length ≤ 200000) (hpl : Pt.length ≤ 100000) :
    Calls Try.prog 35 #[u, zv, pv] w fun e w' => ∃ gw gv gs, e = .returned (.pointer (some ⟨gw, 0, none⟩)) ∧ WkS w' gw gv gs zv S (mask U Pt) 0 ∧ w.heap.size ≤ gw ∧ w.heap.size ≤ gv ∧ w.heap.size ≤ gs ∧ gw ≠ gv ∧ gs ≠ gw ∧ gs ≠ gv ∧ Below w.heap.size w w' := by
  obtain ⟨W1, hW1⟩ : ∃ W1, W1 = w.alloc (.cells #[zv] 22) := ⟨_, rfl⟩
  have b1 : Below w.heap.size w W1 := by rw [hW1]; exact belowB w _
  have s1 : W1.heap.size = w.heap.size + 1 := by rw [hW1]; simp
  have cz1 : W1.cell? ⟨w.heap.size, 0, none⟩ = some zv := by rw [hW1, World.cell?_alloc_at _ _ _ _ rfl]; rfl
  have hu1 := hu.below (Nat.le_refl _) b1
  have hz1 := hz.below (Nat.le_refl _) b1
  have C0 := siOfO (hp.below (Nat.le_refl _) b1).rg (k := 100000) hpl (Nat.le_refl _)
  have C0' := (callsIn_wide (n := 3)).2 C0
  clear C0
  obtain ⟨n, hn⟩ : ∃ n, U.length = n := ⟨_, rfl⟩
  have HN : Hid (U.length = n) := hn
  have HNS : Hid (S.length = n) := hl.trans hn
  obtain ⟨B, hB⟩ : ∃ B, mask U Pt = B := ⟨_, rfl⟩
  have hBl : S.length = B.length := by rw [← hB, mask_len]; exact hl
  have hBg : ∀ j, j < n → B.getD j false = decide (U.getD j 0 ∈ Pt) := fun j hj => by rw [← hB]; exact mask_get U Pt j (by rw [HN.out]; exact hj)
  rw [hB]
  clear hB
  obtain ⟨uo, uc, rfl, huc, hum, -, -, -⟩ := hu
  obtain ⟨zo, zc, rfl, hzc, hzm, -, -, -⟩ := hz
  unfold maxLen at hum hzm
  rw [hn] at hu1 huc hn2 ⊢
  rw [HNS.out] at hz1 hzc cz1 hW1 ⊢
  have h2' := fun w => (callsIn_wide (n := 3)).2 (backwardI uo n uc w)
  refine (callsIn_wide (n := 4)).1 ?_
  refine callsIn_of_wp_marks Try.func35 rfl trivial ?_ rfl
  simp only [Try.ntmps35, List.size_toArray, List.length_cons, List.length_nil, Nat.reduceAdd, Nat.reduceSub, Array.replicate_succ, Array.replicate_zero, List.push_toArray, List.append_toArray, List.nil_append, List.cons_append]
  have HW1 : Hid (W1 = w.alloc (.cells #[.slice zo n zc] 22)) := hW1
  clear hW1 hn
  gi_wp2_with fail
  rw [← HW1.out]
  clear HW1
  refine ⟨trivial, ?_⟩
  refine C0'.mono ?_
  rintro e W2 ⟨ho, hk, hcp, rfl, hSI, -, b2⟩
  clear C0'
  obtain ⟨hv, hhv⟩ : ∃ hv, hv = Value.slice ho hk hcp := ⟨_, rfl⟩
  have hSI' : SI W2 hv (ofR Pt) 100000 := by rw [hhv]; exact hSI
  have HHV : Hid (hv = Value.slice ho hk hcp) := hhv
  have hu2 := hu1.below (Nat.le_refl _) b2
  have hz2 := hz1.below (Nat.le_refl _) b2
  have cz2 := keepR b2 cz1
  have bw2 : Below w.heap.size w W2 := bstepB b1 b2
  have hs2 : w.heap.size + 1 ≤ W2.heap.size := by have := b2.size; omega
  clear hSI hhv hu1 hz1 cz1 b1 b2 s1
  obtain ⟨i0, hi, hz0, hz1', hz2'⟩ := info_parts infoI
  gi_wp2_with (gi_at_make; refine wpListIn_zeros _ rfl _ _ 22 rfl 3 i0 .i64 Try.underlying22 hi hz0 hz1' _ _ n rfl rfl (by rw [hz2']; omega) (by omega) ?_)
  refine ⟨trivial, ?_⟩
  refine (h2' _).mono ?_
  rintro e w3 ⟨rfl, rfl⟩
  gi_wp2_with fail
  rw [← HHV.out]
  clear h2' hi hz0 hz1' hz2'
  obtain ⟨h, hh⟩ : ∃ h, h = W2.heap.size := ⟨_, rfl⟩
  obtain ⟨W0, hW0⟩ : ∃ W0, ((((W2.alloc (.cells #[hv] 126)).alloc (.cells (Array.replicate n (.int .i64 0)) 3)).alloc (.cells #[.slice (some ⟨W2.heap.size + 1, 0, none⟩) n n] 22)).alloc (.cells #[.int .i64 1] 3)).alloc (.cells #[.slice uo n uc] 22) = W0 := ⟨_, rfl⟩
  have hsz0 : W0.heap.size = h + 5 := by rw [← hW0, hh]; simp
  rw [hW0]
  rw [← hh] at hs2 hW0 ⊢
  clear hp
  refine range_call rfl (by decide) rfl trivial (enters_of Try.func92 (by kernel_rfl) rfl) (fun W => ∃ lo, WoC W2 hv (.slice uo n uc) n (strd S B) (pm S B) h lo W) (fun _ _ => False) ?call ?done ?stop
  case stop => intro W2 lo c h; exact h.elim
  case call =>
    intro fn hfn
    have h0 : ∀ lo, WoC W2 hv (.slice uo n uc) n (strK S B 0) (pm (S.drop (n - 0)) (B.drop (n - 0))) h lo ((W0.alloc (.deferred (some []))).alloc (.loop lo)) := fun lo => by
      have hW := heap_alloc_new W2 (.cells #[hv] 126)
      have X1 : ((W2.alloc (.cells #[hv] 126))).heap.size = h + 1 := by rw [hh]; simp
      have X2 : ((W2.alloc (.cells #[hv] 126)).alloc (.cells (Array.replicate n (.int .i64 0)) 3)).heap.size = h + 2 := by rw [hh]; simp
      have X3 : (((W2.alloc (.cells #[hv] 126)).alloc (.cells (Array.replicate n (.int .i64 0)) 3)).alloc (.cells #[.slice (some ⟨h + 1, 0, none⟩) n n] 22)).heap.size = h + 3 := by rw [hh]; simp
      have X4 : ((((W2.alloc (.cells #[hv] 126)).alloc (.cells (Array.replicate n (.int .i64 0)) 3)).alloc (.cells #[.slice (some ⟨h + 1, 0, none⟩) n n] 22)).alloc (.cells #[.int .i64 1] 3)).heap.size = h + 4 := by rw [hh]; simp
      have g0 : W0.heap[h]? = some (.cells #[hv] 126 (0, 0)) := by
        rw [← hW0, Below.heap_alloc _ _ _ (by rw [X4]; omega), Below.heap_alloc _ _ _ (by rw [X3]; omega), Below.heap_alloc _ _ _ (by rw [X2]; omega), Below.heap_alloc _ _ _ (by rw [X1]; omega)]
        rw [← hh] at hW; exact hW
      have g1 : W0.heap[h + 1]? = some (.cells (Array.replicate n (.int .i64 0)) 3 (0, 0)) := by
        rw [← hW0, Below.heap_alloc _ _ _ (by rw [X4]; omega), Below.heap_alloc _ _ _ (by rw [X3]; omega), Below.heap_alloc _ _ _ (by rw [X2]; omega)]
        have := heap_alloc_new (W2.alloc (.cells #[hv] 126)) (.cells (Array.replicate n (.int .i64 0)) 3); rw [X1] at this; exact this
      have g2 : W0.heap[h + 2]? = some (.cells #[.slice (some ⟨h + 1, 0, none⟩) n n] 22 (0, 0)) := by
        rw [← hW0, Below.heap_alloc _ _ _ (by rw [X4]; omega), Below.heap_alloc _ _ _ (by rw [X3]; omega)]
        have := heap_alloc_new ((W2.alloc (.cells #[hv] 126)).alloc (.cells (Array.replicate n (.int .i64 0)) 3)) (.cells #[.slice (some ⟨h + 1, 0, none⟩) n n] 22); rw [X2] at this; exact this
      have g3 : W0.heap[h + 3]? = some (.cells #[.int .i64 1] 3 (0, 0)) := by
        rw [← hW0, Below.heap_alloc _ _ _ (by rw [X4]; omega)]
        have := heap_alloc_new (((W2.alloc (.cells #[hv] 126)).alloc (.cells (Array.replicate n (.int .i64 0)) 3)).alloc (.cells #[.slice (some ⟨h + 1, 0, none⟩) n n] 22)) (.cells #[.int .i64 1] 3); rw [X3] at this; exact this
      have g4 : W0.heap[h + 4]? = some (.cells #[.slice uo n uc] 22 (0, 0)) := by
        rw [← hW0]
        have := heap_alloc_new ((((W2.alloc (.cells #[hv] 126)).alloc (.cells (Array.replicate n (.int .i64 0)) 3)).alloc (.cells #[.slice (some ⟨h + 1, 0, none⟩) n n] 22)).alloc (.cells #[.int .i64 1] 3)) (.cells #[.slice uo n uc] 22); rw [X4] at this; exact this
      have gB : Below h W2 W0 := by
        rw [← hW0]
        exact (((((Below.refl h W2).alloc (by omega) _).alloc (by rw [X1]; omega) _).alloc (by rw [X2]; omega) _).alloc (by rw [X3]; omega) _).alloc (by rw [X4]; omega) _
      have gd := heap_alloc_new W0 (.deferred (some []))
      have gl := heap_alloc_new (W0.alloc (.deferred (some []))) (.loop lo)
      rw [hsz0] at gd
      rw [World.size_alloc, hsz0] at gl
      have eT : (strK S B 0).map (Value.int .i64) = List.replicate n (.int .i64 0) := by rw [strK_zero, HNS.out]; simp
      have eP : pm (S.drop (n - 0)) (B.drop (n - 0)) = 1 := by rw [Nat.sub_zero, List.drop_of_length_le (by rw [HNS.out]; exact Nat.le_refl _)]; rfl
      rw [eP]
      refine ⟨?_, ?_, ?_, ?_, ?_, ?_, gl, (gB.alloc (by omega) _).alloc (by simp <;> omega) _⟩
      · rw [Below.heap_alloc _ _ _ (by simp [hsz0] <;> omega), Below.heap_alloc _ _ _ (by omega), g0]
      · rw [Below.heap_alloc _ _ _ (by simp [hsz0] <;> omega), Below.heap_alloc _ _ _ (by omega), g1, eT]; simp
      · rw [Below.heap_alloc _ _ _ (by simp [hsz0] <;> omega), Below.heap_alloc _ _ _ (by omega), g2]
      · rw [Below.heap_alloc _ _ _ (by simp [hsz0] <;> omega), Below.heap_alloc _ _ _ (by omega), g3]
      · rw [Below.heap_alloc _ _ _ (by simp [hsz0] <;> omega), Below.heap_alloc _ _ _ (by omega), g4]
      · rw [Below.heap_alloc _ _ _ (by simp [hsz0] <;> omega), gd]
    have hJ : ∀ lo k W, WoC W2 hv (.slice uo n uc) n (strK S B k) (pm (S.drop (n - k)) (B.drop (n - k))) h lo W → W.cell? ⟨h + 4, 0, none⟩ = some (.slice uo n uc) ∧ RK .i64 W (.slice uo n uc) U := fun lo k W q =>
      ⟨by simp [World.cell?, q.src], hu2.below (by rw [hh]; exact Nat.le_refl _) q.bel⟩
    simp only [hsz0, List.append_toArray, List.cons_append, List.nil_append, Nat.add_assoc, Nat.reduceAdd, Nat.reduceSub]
    refine callsIn_recF ?_
    intro lo0 hlo0
    refine CallsIn.mono (backward1I 3 (by decide) (h + 6) (h + 4) (.slice uo n uc) U (fun k W => WoC W2 hv (.slice uo n uc) n (strK S B k) (pm (S.drop (n - k)) (B.drop (n - k))) h lo0 W) (fun _ => False) (hJ _) ?rd _ (h0 _)) ?fin
    case fin =>
      rintro e W3 ⟨hv, q | hx⟩
      · refine ⟨hv, none, by rw [q.rcd, hlo0]; rfl, q.dfr, lo0, ?_⟩
        have := q
        rw [HN.out, Nat.sub_self, ← HNS.out, strK_full S B hBl] at this
        rw [← HNS.out]
        exact this
      · exact hx.elim
    case rd =>
      intro k W3 hkn hC
      obtain ⟨lo', hlo'⟩ : ∃ lo', lo0 = lo' := ⟨_, rfl⟩
      rw [hlo'] at hC ⊢
      have hlo := hlo'.symm.trans hlo0
      clear hlo' hlo0
      rw [HN.out] at hkn
      obtain ⟨j, hj⟩ : ∃ j, U.length - 1 - k = j := ⟨_, rfl⟩
      rw [hj]
      rw [HN.out] at hj
      have hjn : j < n := by omega
      have hjS : j < S.length := by rw [HNS.out]; exact hjn
      have hk1 : n - k = j + 1 := by omega
      have hk2 : n - (k + 1) = j := by omega
      obtain ⟨Go_, hGo⟩ : ∃ G : World → Prop, G = fun W' => (WoC W2 hv (.slice uo n uc) n (strK S B (k + 1)) (pm (S.drop (n - (k + 1))) (B.drop (n - (k + 1)))) h lo' W') := ⟨_, rfl⟩
      refine (yield_round (Go_ := Go_) (Lv := fun _ _ => False) trivial hC.rcd (by rw [hlo]; rfl) (by rw [hlo]; rfl) (by rw [hlo]; rfl) ?_).mono ?_
      case refine_2 =>
        rintro e W' (⟨rfl, q⟩ | ⟨_, _, q⟩)
        · rw [hGo] at q; exact .inl ⟨rfl, q⟩
        · exact q.elim
      obtain ⟨WB, hWB⟩ : ∃ WB, W3.putObj (h + 6) (.loop { lo' with state := .busy }) = WB := ⟨_, rfl⟩
      have hcB : WoC W2 hv (.slice uo n uc) n (strK S B k) (pm (S.drop (n - k)) (B.drop (n - k))) h { lo' with state := .busy } WB := by rw [← hWB]; exact hC.put _
      have HA : Hid (W3.heap[h + 6]? = some (.loop lo')) := hC.rcd
      have HG : Hid (∀ X, WoC W2 hv (.slice uo n uc) n (strK S B (k + 1)) (pm (S.drop (n - (k + 1))) (B.drop (n - (k + 1)))) h { lo' with state := .busy } X → X.heap[h + 6]? = some (.loop { lo' with state := .busy }) ∧ Go_ (X.putObj (h + 6) (.loop lo'))) := fun X q => ⟨q.rcd, by rw [hGo]; exact q.put _⟩
      rw [hk2] at HG
      rw [hk1] at hcB
      have hst := strK_step S B k j (by rw [HNS.out]; exact hkn) (by rw [HNS.out]; exact hj)
      have hsg := strd_get S B j hBl hjS
      have hpd := pm_drop S B j hBl hjS
      have hpb := pm_bd (S.drop (j + 1)) (B.drop (j + 1)) (fun z hz => hone z (List.mem_of_mem_drop hz))
      have hpb0 := pm_bd (S.drop j) (B.drop j) (fun z hz => hone z (List.mem_of_mem_drop hz))
      have hpl1 := (pr_drop_le S hone (j + 1)).2
      have hpl0 := (pr_drop_le S hone j).2
      have hsame := fun hb => strK_same S B k j hBl (by rw [HNS.out]; exact hkn) (by rw [HNS.out]; exact hj) hb
      have hbj := hBg j hjn
      have hSIB := hSI'.rg.below (Nat.le_refl _) (hcB.bel.mono (by rw [hh]; exact Nat.le_refl _))
      have hSI2 : SI WB hv (ofR Pt) 100000 := ⟨hSI'.rg.below (B := h) (by rw [hh]; exact Nat.le_refl _) hcB.bel, hSI'.rise, hSI'.len⟩
      have hTl := strK_len S B k
      obtain ⟨c0, -⟩ := hcB.cells (j := j) (by rw [hTl]; exact hjS)
      have CH := siHas hSI2 (U.getD j 0) (by omega) (decide (U.getD j 0 ∈ Pt)) (by simp [mem_ofR])
      have czB : WB.cell? ⟨w.heap.size, 0, none⟩ = some (.slice zo n zc) := by rw [World.cell?_of_block (hcB.bel.block w.heap.size (by omega))]; exact cz2
      have hzB : RK .i64 WB (.slice zo n zc) S := hz2.below (B := h) (by rw [hh]; exact Nat.le_refl _) hcB.bel
      obtain ⟨p0, hp0⟩ : ∃ p0, pm (S.drop (j + 1)) (B.drop (j + 1)) = p0 := ⟨_, rfl⟩
      obtain ⟨x0, hx0⟩ : ∃ x0, S.getD j 0 = x0 := ⟨_, rfl⟩
      rw [hp0] at hcB hsg hpd hpb
      rw [hx0] at hpd
      obtain ⟨v0, hv0⟩ : ∃ v0, U.getD j 0 = v0 := ⟨_, rfl⟩
      rw [hv0] at hbj CH ⊢
      have HC : Hid (WoC W2 hv (.slice uo n uc) n (strK S B k) p0 h { lo' with state := .busy } WB) := hcB
      have HZB : Hid (RK .i64 WB (.slice zo n zc) S) := hzB
      clear hcB hC hGo hSIB hSI2 hW0 h0 hJ hzB
      have CH' := CallsIn.inRound (h + 6) ((callsIn_wide (n := 1)).2 CH)
      have hjI : (j : Int) < (n : Int) := by omega
      have HH : Hid (h = W2.heap.size) := hh
      clear hh
      subst hlo
      dsimp only [recOf] at HA HG HC hWB ⊢
      gi_wp2_with fail
      refine ⟨HA.out, ?_⟩
      (try rw [hWB])
      clear hWB HA CH
      obtain ⟨bb, hbb⟩ : ∃ b, b = decide (v0 ∈ Pt) := ⟨_, rfl⟩
      rw [← hbb] at CH' hbj
      clear hbb
      gi_wp2_with fail
      refine ⟨trivial, ?_⟩
      refine CH'.mono ?_
      rintro e WH ⟨rfl, bH⟩
      have hH := HC.out.below bH
      have czH := keepR bH czB
      have hzH := HZB.out.below (Nat.le_refl _) bH
      clear HC HZB czB c0 bH CH'
      cases bb with
      | false =>
        have q2 : ∀ lo, WoC W2 hv (.slice uo n uc) n (strK S B k) p0 h lo WH → WoC W2 hv (.slice uo n uc) n (strK S B (k + 1)) (pm (S.drop j) (B.drop j)) h lo WH := fun lo q => by
          rw [hsame hbj, hpd, hbj, if_neg (by simp)]
          exact q
        have HK : Hid _ := HG.out _ (q2 _ hH)
        clear hH hst hsg hpd hsame hzH q2 HG
        gi_wp2
        exact HK.out
      | true =>
        rw [hbj, if_pos rfl] at hsg hpd
        have hA := hH.setR j p0
        rw [← hsg, hst] at hA
        obtain ⟨c0, c1, c2, c3, f1, f3⟩ := hH.cells (j := j) (by rw [hTl]; exact hjS)
        obtain ⟨-, a1, a2, -, -, af3⟩ := hA.cells (j := j) (by rw [strK_len]; exact hjS)
        have hzA := hz2.below (B := h) (by rw [HH.out]; exact Nat.le_refl _) hA.bel
        have czA : (WH.setCell ⟨h + 1, j, none⟩ (.int .i64 ((strd S B).getD j 0))).cell? ⟨w.heap.size, 0, none⟩ = some (.slice zo n zc) := by rw [World.cell?_of_block (hA.bel.block w.heap.size (by omega))]; exact cz2
        rw [hsg] at hA a1 a2 af3 hzA czA
        obtain ⟨WA, hWA⟩ : ∃ u, WH.setCell ⟨h + 1, j, none⟩ (.int .i64 p0) = u := ⟨_, rfl⟩
        rw [hWA] at hA a1 a2 af3 hzA czA
        have HWA : Hid (WH.setCell ⟨h + 1, j, none⟩ (.int .i64 p0) = WA) := hWA
        obtain ⟨zao, zcc, ez, hzc1, hzm1, -, -, hzcell⟩ := hzA
        simp only [Value.slice.injEq] at ez
        obtain ⟨rfl, -, rfl⟩ := ez
        obtain ⟨zg, zof, rfl, cS⟩ := hzcell j hjS
        rw [hx0] at cS
        have e7 : pm (S.drop j) (B.drop j) = p0 * x0 := by rw [hpd, Int.mul_comm]
        have HF : Hid (∀ lo X, WoC W2 hv (.slice uo n uc) n (strK S B (k + 1)) (p0 * x0) h lo X → WoC W2 hv (.slice uo n uc) n (strK S B (k + 1)) (pm (S.drop j) (B.drop j)) h lo X) := fun lo X q => by rw [e7]; exact q
        have hw1 : IntKind.i64.wrap (p0 * x0) = p0 * x0 := wrap_i64 (by omega) (by omega)
        have hK := (hA.setP (p0 * x0)).drew
        have HK : Hid _ := HG.out _ (HF.out _ _ hK)
        clear hA hK hH hst hsg hsame hWA hzcell HG HF e7
        gi_wp2_with fail
        rw [HWA.out]
        clear HWA c0 c1 c2 c3 f1 f3 czH
  
        have KEEP : ∀ u, Below WA.heap.size WA u → L4.AllL u [(0, fun w' => w'.cell? ⟨h + 3, 0, none⟩ = some (.int .i64 p0)), (1, fun w' => w'.cell? ⟨w.heap.size, 0, none⟩ = some (.slice (some ⟨zg, zof, none⟩) n zc)), (4, fun w' => w'.cell? ⟨zg, zof + j, none⟩ = some (.int .i64 x0))] := fun u hu => ⟨keepR hu a2, keepR hu czA, keepR hu cS, trivial⟩
        apply round_cut [(0, fun w' => w'.cell? ⟨h + 3, 0, none⟩ = some (.int .i64 p0)), (1, fun w' => w'.cell? ⟨w.heap.size, 0, none⟩ = some (.slice (some ⟨zg, zof, none⟩) n zc)), (4, fun w' => w'.cell? ⟨zg, zof + j, none⟩ = some (.int .i64 x0))] (by kernel_rfl) (by kernel_rfl)
        case h =>
          have B' : Below WA.heap.size WA WA.drew := (Below.refl _ _).drew
          obtain ⟨w1, hw1⟩ : ∃ u, u = WA.drew := ⟨_, rfl⟩
          rw [← hw1] at B' ⊢
          have hHeld := KEEP _ B'
          refine L4.late_take 0 (v := .int .i64 p0) rfl (by kernel_rfl) (List.Mem.head _) (by kernel_rfl) (by kernel_rfl) (by kernel_rfl) (by kernel_rfl) (fun _ _ _ h => nomatch h.1) (Or.inl ⟨by rfl, ?_⟩) hHeld ?_
          · (intro u hu; (try dsimp only at hu); go_split_ands; go_simp)
          (try simp only [Act.put, List.setIfInBounds_toArray, List.set_cons_zero, List.set_cons_succ])
          refine L4.late_take 1 (v := .slice (some ⟨zg, zof, none⟩) n zc) rfl (by kernel_rfl) (List.Mem.tail _ (List.Mem.head _)) (by kernel_rfl) (by kernel_rfl) (by kernel_rfl) (by kernel_rfl) (fun _ _ _ h => nomatch h.1) (Or.inl ⟨by rfl, ?_⟩) hHeld ?_
          · (intro u hu; (try dsimp only at hu); go_split_ands; go_simp)
          (try simp only [Act.put, List.setIfInBounds_toArray, List.set_cons_zero, List.set_cons_succ])
          refine L4.late_free 2 (v := .int .i64 ((j : Nat) : Int)) rfl (by kernel_rfl) (by kernel_rfl) (by kernel_rfl) (by kernel_rfl) (by kernel_rfl) (by kernel_rfl) (fun _ _ _ h => nomatch h.1) (Or.inl ⟨by rfl, ?_⟩) hHeld ?_
          · (intro u _; go_simp)
          (try simp only [Act.put, List.setIfInBounds_toArray, List.set_cons_zero, List.set_cons_succ])
          refine L4.late_free 3 (v := .pointer (some ⟨zg, zof + j, none⟩)) rfl (by kernel_rfl) (by kernel_rfl) (by kernel_rfl) (by kernel_rfl) (by kernel_rfl) (by kernel_rfl) (fun _ _ _ h => nomatch h.1) (Or.inl ⟨by rfl, ?_⟩) hHeld ?_
          · (intro u _; go_simp)
          (try simp only [Act.put, List.setIfInBounds_toArray, List.set_cons_zero, List.set_cons_succ])
          refine L4.late_take 4 (v := .int .i64 x0) rfl (by kernel_rfl) (List.Mem.tail _ (List.Mem.tail _ (List.Mem.head _))) (by kernel_rfl) (by kernel_rfl) (by kernel_rfl) (by kernel_rfl) (fun _ _ _ h => nomatch h.1) (Or.inl ⟨by rfl, ?_⟩) hHeld ?_
          · (intro u hu; (try dsimp only at hu); go_split_ands; go_simp)
          (try simp only [Act.put, List.setIfInBounds_toArray, List.set_cons_zero, List.set_cons_succ])
          refine L4.late_free 5 (v := .int .i64 (p0 * x0)) rfl (by kernel_rfl) (by kernel_rfl) (by kernel_rfl) (by kernel_rfl) (by kernel_rfl) (by kernel_rfl) (fun _ _ _ h => nomatch h.1) (Or.inl ⟨by rfl, ?_⟩) hHeld ?_
          · (intro u _; go_simp)
          (try simp only [Act.put, List.setIfInBounds_toArray, List.set_cons_zero, List.set_cons_succ])
          refine L4.late_step 6 (by kernel_rfl) rfl (fun K hK => ?_)
          have cSt := keepR B' a2
          have fS : w1.frozen? ⟨h + 3, 0, none⟩ = false := by rw [hw1]; exact af3
          go_simp
          refine hK.out _ _ ⟨Or.inl ⟨6, by kernel_rfl, by kernel_rfl⟩, Or.inl ⟨6, by kernel_rfl, by kernel_rfl⟩, Or.inl ⟨6, by kernel_rfl, by kernel_rfl⟩, trivial⟩ ?_
          clear hK K
          (try simp only [Act.put, List.setIfInBounds_toArray, List.set_cons_zero, List.set_cons_succ])
          refine L4.late_done (by kernel_rfl) ?_ _
          subst hw1
          exact ⟨rfl, rfl, rfl⟩
        case k =>
          clear KEEP a1 a2 czA cS
          generalize (WA.setCell ⟨h + 3, 0, none⟩ (.int .i64 (p0 * x0))).drew = WX at *
          gi_wp2
          exact HK.out
  case done =>
    rintro W3 lo ⟨lo2, hC⟩ hdf hlt
    rw [hsz0] at hdf hlt ⊢
    have h4 := hC.put lo
    have HH : Hid (h = W2.heap.size) := hh
    show Exit.inBlock 0 _ _ _ (W3.putObj (h + 6) (.loop lo))
    generalize W3.putObj (h + 6) (.loop lo) = W4 at *
    have HR : Hid (WoC W2 hv (.slice uo n uc) n (strd S B) (pm S B) h lo W4) := h4
    have c4 : W4.cell? ⟨h + 2, 0, none⟩ = some (.slice (some ⟨h + 1, 0, none⟩) n n) := by simp [World.cell?, h4.box]
    have cz4 : W4.cell? ⟨w.heap.size, 0, none⟩ = some (.slice zo n zc) := by rw [World.cell?_of_block (h4.bel.block w.heap.size (by omega))]; exact cz2
    have hl4 : h + 6 < W4.heap.size := (Array.getElem?_eq_some_iff.1 h4.rcd).1
    clear hC hdf hlt h4 hh
    obtain ⟨i0, hi, hz0, hz1', hz2'⟩ := info_parts infoI
    gi_wp2_with fail
    have KEEP : ∀ u, Below W4.heap.size W4 u → L4.AllL u [(0, fun w' => w'.cell? ⟨w.heap.size, 0, none⟩ = some (.slice zo n zc)), (4, fun w' => w'.cell? ⟨h + 2, 0, none⟩ = some (.slice (some ⟨h + 1, 0, none⟩) n n))] := fun u hu => ⟨keepR hu cz4, keepR hu c4, trivial⟩
    apply wide_two (Fx := fun gv gw W => Below W4.heap.size W4 W ∧ W.heap[gw]? = some (.cells #[.slice zo n zc, .slice (some ⟨gv, 0, none⟩) n n, .slice (some ⟨h + 1, 0, none⟩) n n, .int .i64 0] 81 (0, 0)) ∧ W.heap[gv]? = some (.cells (Array.replicate n (.int .i64 0)) 3 (0, 0)) ∧ h + 6 < gv ∧ gv < gw) [(0, fun w' => w'.cell? ⟨w.heap.size, 0, none⟩ = some (.slice zo n zc)), (4, fun w' => w'.cell? ⟨h + 2, 0, none⟩ = some (.slice (some ⟨h + 1, 0, none⟩) n n))] (by kernel_rfl)
    case h =>
      have B' : Below W4.heap.size W4 W4.drew := (Below.refl _ _).drew
      obtain ⟨w2, hw2⟩ : ∃ u, u = W4.drew := ⟨_, rfl⟩
      rw [← hw2] at B' ⊢
      clear hw2
      have hHeld := KEEP _ B'
      refine L4.late_take 0 (v := .slice zo n zc) rfl (by kernel_rfl) (List.Mem.head _) (by kernel_rfl) (by kernel_rfl) (by kernel_rfl) (by kernel_rfl) (fun _ _ _ h => nomatch h.1) (Or.inl ⟨by rfl, ?_⟩) hHeld ?_
      · (intro u hu; (try dsimp only at hu); go_split_ands; go_simp)
      (try simp only [Act.put, List.setIfInBounds_toArray, List.set_cons_zero, List.set_cons_succ])
      refine L4.late_free 1 (v := .slice uo n uc) rfl (by kernel_rfl) (by kernel_rfl) (by kernel_rfl) (by kernel_rfl) (by kernel_rfl) (by kernel_rfl) (fun _ _ _ h => nomatch h.1) (Or.inl ⟨by rfl, ?_⟩) hHeld ?_
      · (intro u _; go_simp)
      (try simp only [Act.put, List.setIfInBounds_toArray, List.set_cons_zero, List.set_cons_succ])
      refine L4.late_free 2 (v := .int .i64 ((n : Nat) : Int)) rfl (by kernel_rfl) (by kernel_rfl) (by kernel_rfl) (by kernel_rfl) (by kernel_rfl) (by kernel_rfl) (fun _ _ _ h => nomatch h.1) (Or.inl ⟨by rfl, ?_⟩) hHeld ?_
      · (intro u _; go_simp)
      (try simp only [Act.put, List.setIfInBounds_toArray, List.set_cons_zero, List.set_cons_succ])
      refine L4.late_take 4 (v := .slice (some ⟨h + 1, 0, none⟩) n n) rfl (by kernel_rfl) (List.Mem.tail _ (List.Mem.head _)) (by kernel_rfl) (by kernel_rfl) (by kernel_rfl) (by kernel_rfl) (fun _ _ _ h => nomatch h.1) (Or.inl ⟨by rfl, ?_⟩) hHeld ?_
      · (intro u hu; (try dsimp only at hu); go_split_ands; go_simp)
      (try simp only [Act.put, List.setIfInBounds_toArray, List.set_cons_zero, List.set_cons_succ])
      refine L4.late_step 3 (by kernel_rfl) rfl (fun K hK => ?_)
      refine want_yes rfl ?_
      refine wp_zeros _ _ _ 22 rfl 3 i0 .i64 Try.underlying22 hi hz0 hz1' _ _ n rfl rfl (by rw [hz2']; omega) (by omega) ?_
      obtain ⟨y3, hy3⟩ : ∃ u, u = w2.alloc (.cells (Array.replicate n (.int .i64 0)) 3) := ⟨_, rfl⟩
      obtain ⟨gv, hgv⟩ : ∃ u, u = w2.heap.size := ⟨_, rfl⟩
      rw [← hy3, ← hgv]
      have c3 : Below w2.heap.size w2 y3 := by rw [hy3]; exact belowB _ _
      have ngv : y3.heap[gv]? = some (.cells (Array.replicate n (.int .i64 0)) 3 (0, 0)) := by rw [hy3, hgv]; exact heap_alloc_new _ _
      have lgv : h + 6 < gv := by rw [hgv]; have := B'.size; omega
      have zgv : gv < y3.heap.size := by rw [hy3, hgv]; simp
      clear hy3 hgv
      have B' := B'.trans (c3.mono B'.size)
      clear c3 hHeld
      have hHeld := KEEP _ B'
      refine hK.out _ _ (L4.AllL.kept hHeld) ?_
      clear hK K
      (try simp only [Act.put, List.setIfInBounds_toArray, List.set_cons_zero, List.set_cons_succ])
      refine L4.late_free 5 (v := .agg #[.slice zo n zc, .slice (some ⟨gv, 0, none⟩) n n, .slice (some ⟨h + 1, 0, none⟩) n n, .int .i64 0]) rfl (by kernel_rfl) (by kernel_rfl) (by kernel_rfl) (by kernel_rfl) (by kernel_rfl) (by kernel_rfl) (fun _ _ _ h => nomatch h.1) (Or.inl ⟨by rfl, ?_⟩) hHeld ?_
      · (intro u _; go_simp)
      (try simp only [Act.put, List.setIfInBounds_toArray, List.set_cons_zero, List.set_cons_succ])
      refine L4.late_step 6 (by kernel_rfl) rfl (fun K hK => ?_)
      go_simp
      obtain ⟨y4, hy4⟩ : ∃ u, u = y3.alloc (.cells #[.slice zo n zc, .slice (some ⟨gv, 0, none⟩) n n, .slice (some ⟨h + 1, 0, none⟩) n n, .int .i64 0] 81) := ⟨_, rfl⟩
      obtain ⟨gw, hgw⟩ : ∃ u, u = y3.heap.size := ⟨_, rfl⟩
      rw [← hy4, ← hgw]
      have c4 : Below y3.heap.size y3 y4 := by rw [hy4]; exact belowB _ _
      have ngw1 : y4.heap[gw]? = some (.cells #[.slice zo n zc, .slice (some ⟨gv, 0, none⟩) n n, .slice (some ⟨h + 1, 0, none⟩) n n, .int .i64 0] 81 (0, 0)) := by rw [hy4, hgw]; exact heap_alloc_new _ _
      have lgw : h + 6 < gw := by rw [hgw]; have := B'.size; omega
      have ngw : gv < gw := by rw [hgw]; exact zgv
      have ngv := (c4.block gv zgv).trans ngv
      clear hy4 hgw
      have B' := B'.trans (c4.mono B'.size)
      clear c4 hHeld
      have hHeld := KEEP _ B'
      refine hK.out _ _ (L4.AllL.kept hHeld) ?_
      clear hK K
      (try simp only [Act.put, List.setIfInBounds_toArray, List.set_cons_zero, List.set_cons_succ])
      refine L4.late_step 7 (by kernel_rfl) rfl (fun K hK => ?_)
      go_simp
      refine hK.out _ _ (L4.AllL.kept hHeld) ?_
      clear hK K
      (try simp only [Act.put, List.setIfInBounds_toArray, List.set_cons_zero, List.set_cons_succ])
      refine L4.late_done (by kernel_rfl) ?_ _
      exact ⟨rfl, gv, gw, rfl, B', ngw1, ngv, lgv, ngw⟩
    case k =>
      rintro gv gw WF ⟨B', k1, k2, k3, k4⟩
      have HB : Hid (Below W4.heap.size W4 WF) := B'
      have hdf3 : WF.heap[h + 5]? = some (.deferred (some [])) := by rw [B'.block _ (by omega)]; exact HR.out.dfr
      clear KEEP B'
      gi_wp2
      refine ⟨by simp, .inl ⟨_, _, rfl, run_takeDeferred hdf3, ?_⟩⟩
      refine ⟨_, results_t1F rfl _ _ _ rfl, gw, gv, h + 1, rfl, ⟨?_, ?_, ?_⟩, by omega, by omega, by omega, by omega, by omega, by omega, ?_⟩
      · rw [World.putObj_heap_other (by omega), HNS.out, dgs_zero, dot_zero]; exact k1
      · rw [World.putObj_heap_other (by omega), dgs_zero, HNS.out, k2]; simp
      · rw [World.putObj_heap_other (by omega), HB.out.block _ (by omega)]; exact HR.out.row
      · exact (bw2.trans ((HR.out.bel.trans (HB.out.mono (by omega))).mono (by omega))).trans ⟨rfl, rfl, rfl, by simp [World.putObj], fun q hq => World.putObj_heap_other (by omega)⟩
end Go.Proofs.Ytjlmignafhhjhaa

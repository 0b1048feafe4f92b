/-
  Proved here: package radix's step at one type.
-/
import Derived.Test.YtfanomoijjjcmaaRadL
namespace Go.Proofs.Ytfanomoijjjcmaa
open Go.RowKit Go.Shelf
attribute [local go_sem] Oper.semAt_some

set_option maxRecDepth 100000 in
set_option maxHeartbeats 6400000 in
theorem stepI (v : Value) (ss : List Int) (a : Int) (g : Nat) (w : World) (hv : RK .i64 w v ss) (hone : ∀ z ∈ ss, 1 ≤ z) (hg : g < w.heap.size) (hrow : w.heap[g]? = some (.cells ((dgs ss a).map (Value.int .i64)).toArray 3 (0, 0)))
    (hne : 0 < ss.length → ∀ b, v.ownBlock = some b → b ≠ g) :
    Calls Try.prog 63 #[v, .slice (some ⟨g, 0, none⟩) ss.length ss.length] w fun e w' => (∃ u, e = .returned u) ∧ w'.heap[g]? = some (.cells ((dgs ss (a + 1)).map (Value.int .i64)).toArray 3 (0, 0)) ∧ w.grownBy w' (some g) := by
  have hv0 := hv
  obtain ⟨ao, cap, rfl, hc, hm, hnil, hbd, hcell⟩ := hv
  have hmx : ∀ i, i < ss.length → ss.getD i 0 ≤ 9223372036854775807 := fun i hi => by have := (hbd i hi).2; rw [max_i64] at this; exact this
  clear hnil hcell hbd
  unfold maxLen at hm
  have h2' := fun w => (callsIn_wide (n := 3)).2 (backwardI ao ss.length cap w)
  refine (callsIn_wide (n := 4)).1 ?_
  refine callsIn_of_wp_marks Try.func63 rfl trivial ?_ rfl
  simp only [Try.ntmps63, List.size_toArray, List.length_cons, List.length_nil, Nat.reduceAdd, Nat.reduceSub, Array.replicate_succ, Array.replicate_zero, List.push_toArray, List.append_toArray, List.nil_append, List.cons_append]
  gi_wp2_with fail
  refine ⟨trivial, ?_⟩
  refine (h2' _).mono ?_
  rintro e w3 ⟨rfl, rfl⟩
  gi_wp2_with fail
  clear h2'
  obtain ⟨W0, hW0⟩ : ∃ W0, (w.alloc (.cells #[.slice (some ⟨g, 0, none⟩) ss.length ss.length] 25)).alloc (.cells #[.slice ao ss.length cap] 25) = W0 := ⟨_, rfl⟩
  have hsz0 : W0.heap.size = w.heap.size + 2 := by rw [← hW0]; simp
  rw [hW0]
  refine range_call rfl (by decide) rfl trivial (enters_of Try.func56 (by kernel_rfl) rfl) (fun W => ∃ lo, StC .i64 3 25 w (.slice ao ss.length cap) ss (dgs ss (a + 1)) g w.heap.size lo W) (fun c W => c = .ret ∧ ∃ lo, StC .i64 3 25 w (.slice ao ss.length cap) ss (dgs ss (a + 1)) g w.heap.size lo W) ?call ?done ?stop
  case call =>
    intro fn hfn
    have h0 : ∀ lo, StC .i64 3 25 w (.slice ao ss.length cap) ss (stR ss a (ss.length - 0)) g w.heap.size lo ((W0.alloc (.deferred (some []))).alloc (.loop lo)) := fun lo => by
      have g0 : W0.heap[g]? = some (.cells ((dgs ss a).map (Value.int .i64)).toArray 3 (0, 0)) := by
        rw [← hW0, Below.heap_alloc _ _ _ (by simp; omega), Below.heap_alloc _ _ _ hg]; exact hrow
      have g1 : W0.heap[w.heap.size]? = some (.cells #[.slice (some ⟨g, 0, none⟩) ss.length ss.length] 25 (0, 0)) := by
        rw [← hW0, Below.heap_alloc _ _ _ (by simp)]; exact heap_alloc_new w _
      have g2 : W0.heap[w.heap.size + 1]? = some (.cells #[.slice ao ss.length cap] 25 (0, 0)) := by
        have := heap_alloc_new (w.alloc (.cells #[.slice (some ⟨g, 0, none⟩) ss.length ss.length] 25)) (.cells #[.slice ao ss.length cap] 25)
        rw [← hW0]; rw [World.size_alloc] at this; exact this
      have gB : w.grownBy W0 (some g) := by rw [← hW0]; exact grown_trans (World.grownBy_alloc _ _ _) (World.grownBy_alloc _ _ _)
      have gd := heap_alloc_new W0 (.deferred (some []))
      have gl := heap_alloc_new (W0.alloc (.deferred (some []))) (.loop lo)
      rw [hsz0] at gd
      rw [World.size_alloc, hsz0] at gl
      refine ⟨?_, ?_, ?_, ?_, gl, grown_trans (grown_trans gB (World.grownBy_alloc _ _ _)) (World.grownBy_alloc _ _ _)⟩
      · rw [Below.heap_alloc _ _ _ (by simp [hsz0]; omega), Below.heap_alloc _ _ _ (by omega), g0, Nat.sub_zero, stR_all]
      · rw [Below.heap_alloc _ _ _ (by simp [hsz0]; omega), Below.heap_alloc _ _ _ (by omega), g1]
      · rw [Below.heap_alloc _ _ _ (by simp [hsz0] <;> omega), Below.heap_alloc _ _ _ (by omega), g2]
      · rw [Below.heap_alloc _ _ _ (by simp [hsz0] <;> omega), gd]
    have hJ : ∀ lo k W, (Hid (pr (ss.drop (ss.length - k)) ∣ a + 1) ∧ StC .i64 3 25 w (.slice ao ss.length cap) ss (stR ss a (ss.length - k)) g w.heap.size lo W) → W.cell? ⟨w.heap.size + 1, 0, none⟩ = some (.slice ao ss.length cap) ∧ RK .i64 W (.slice ao ss.length cap) ss := fun lo k W h =>
      ⟨by simp [World.cell?, h.2.src], hv0.kept' h.2.grn (fun g' hg' h0 b hb => by simp only [Option.some.injEq] at hg'; subst hg'; exact hne h0 b hb)⟩
    simp only [hsz0, List.append_toArray, List.cons_append, List.nil_append, Nat.add_assoc, Nat.reduceAdd, Nat.reduceSub]
    refine callsIn_rec ?_
    intro lo0 hlo0
    refine CallsIn.mono (backward1I 3 (by decide) (w.heap.size + 3) (w.heap.size + 1) (.slice ao ss.length cap) ss (fun k W => Hid (pr (ss.drop (ss.length - k)) ∣ a + 1) ∧ StC .i64 3 25 w (.slice ao ss.length cap) ss (stR ss a (ss.length - k)) g w.heap.size lo0 W) (fun W => StC .i64 3 25 w (.slice ao ss.length cap) ss (dgs ss (a + 1)) g w.heap.size { lo0 with state := .done, pending := some .ret } W) (hJ _) ?rd _ ⟨by show pr (ss.drop (ss.length - 0)) ∣ a + 1; rw [Nat.sub_zero]; exact last_dvd ss a, h0 _⟩) ?fin
    case fin =>
      rintro e W2 ⟨hv, h | hx⟩
      · refine ⟨hv, none, by rw [h.2.rcd, hlo0]; rfl, h.2.dfr, lo0, ?_⟩
        have := h.2
        rw [Nat.sub_self, stR_none] at this
        exact this
      · exact ⟨hv, some .ret, by rw [hx.rcd]; rfl, hx.dfr, rfl, _, hx⟩
    case rd =>
      intro k W1 hkn ⟨HD, hC⟩
      obtain ⟨lo', hlo'⟩ : ∃ lo', lo0 = lo' := ⟨_, rfl⟩
      rw [hlo'] at hC ⊢
      have hlo := hlo'.symm.trans hlo0
      clear hlo' hlo0
      obtain ⟨j, hj⟩ : ∃ j, ss.length - 1 - k = j := ⟨_, rfl⟩
      have hk1 : ss.length - k = j + 1 := by omega
      have hk2 : ss.length - (k + 1) = j := by omega
      rw [hj, hk2]
      rw [hk1] at HD hC
      have hjn : j < ss.length := by omega
      obtain ⟨Go_, hGo⟩ : ∃ G : World → Prop, G = fun W' => (Hid (pr (ss.drop j) ∣ a + 1) ∧ StC .i64 3 25 w (.slice ao ss.length cap) ss (stR ss a j) g w.heap.size lo' W') := ⟨_, rfl⟩
      obtain ⟨Lv_, hLv⟩ : ∃ G : Code → World → Prop, G = fun _ W' => StC .i64 3 25 w (.slice ao ss.length cap) ss (dgs ss (a + 1)) g w.heap.size { lo' with state := .done, pending := some .ret } W' := ⟨_, rfl⟩
      refine (yield_round (Go_ := Go_) (Lv := Lv_) trivial hC.rcd (by rw [hlo]; rfl) (by rw [hlo]; rfl) (by rw [hlo]; rfl) ?_).mono ?_
      case refine_2 =>
        rintro e W' (⟨rfl, h⟩ | ⟨rfl, c, h⟩)
        · rw [hGo] at h; exact .inl ⟨rfl, h⟩
        · rw [hLv] at h; exact .inr ⟨rfl, h⟩
      obtain ⟨WB, hWB⟩ : ∃ WB, W1.putObj (w.heap.size + 3) (.loop { lo' with state := .busy }) = WB := ⟨_, rfl⟩
      have hcB : StC .i64 3 25 w (.slice ao ss.length cap) ss (stR ss a (j + 1)) g w.heap.size { lo' with state := .busy } WB := by rw [← hWB]; exact hC.put hg (Nat.le_refl _) _
      have HA : Hid (W1.heap[w.heap.size + 3]? = some (.loop lo')) := hC.rcd
      have hget := stR_get ss a j hjn
      have hlen := stR_len ss a (j + 1)
      obtain ⟨c1, c2, f2⟩ := hcB.cells (j := j) (by rw [hlen]; exact hjn)
      rw [hget] at c2
      obtain ⟨d0, d1⟩ := dig_bd ss a hone j hjn
      have hx2 : ss.getD j 0 ≤ 9223372036854775807 := hmx j hjn
      have hset := hcB.set hg j (digAt ss a j + 1)
      obtain ⟨c3, c4, f4⟩ := hset.cells (j := j) (by rw [List.length_set, hlen]; exact hjn)
      rw [List.getD_eq_getElem?_getD, List.getElem?_set_self (by rw [hlen]; exact hjn), Option.getD_some] at c4
      have HS : Hid (StC .i64 3 25 w (.slice ao ss.length cap) ss ((stR ss a (j + 1)).set j (digAt ss a j + 1)) g w.heap.size { lo' with state := .busy } (WB.setCell ⟨g, j, none⟩ (.int .i64 (digAt ss a j + 1)))) := hset
      have hjI : (j : Int) < (ss.length : Int) := by omega
      by_cases h9 : digAt ss a j = ss.getD j 0 - 1
      · have HG : Hid (∀ X, StC .i64 3 25 w (.slice ao ss.length cap) ss (stR ss a j) g w.heap.size { lo' with state := .busy } X → X.heap[w.heap.size + 3]? = some (.loop { lo' with state := .busy }) ∧ Go_ (X.putObj (w.heap.size + 3) (.loop lo'))) := fun X h => ⟨h.rcd, by rw [hGo]; exact ⟨(next_nine hone hjn HD.out h9).1, h.put hg (Nat.le_refl _) _⟩⟩
        have HF : Hid (StC .i64 3 25 w (.slice ao ss.length cap) ss (stR ss a j) g w.heap.size { lo' with state := .busy } ((WB.setCell ⟨g, j, none⟩ (.int .i64 (digAt ss a j + 1))).setCell ⟨g, j, none⟩ (.int .i64 0))) := by
          have := hset.set hg j 0
          rw [List.set_set, stR_nine hone hjn HD.out h9] at this
          exact this
        have hnl : ¬ digAt ss a j + 1 < ss.getD j 0 := by omega
        clear hset hcB hC hGo hLv hget hlen hW0 h0 hJ hv0 hrow hone hmx h9 HS HD
        generalize digAt ss a j = z at *
        generalize ss.getD j 0 = x at *
        subst hlo
        dsimp only [recOf] at HA HG HF hWB ⊢
        gi_wp2_with fail
        refine ⟨HA.out, ?_⟩
        (try rw [hWB])
        clear hWB HA
        gi_wp2
        exact HG.out _ HF.out
      · have HG : Hid (∀ X, StC .i64 3 25 w (.slice ao ss.length cap) ss (dgs ss (a + 1)) g w.heap.size { lo' with state := .busy } X → X.heap[w.heap.size + 3]? = some (.loop { lo' with state := .busy }) ∧ Lv_ .ret (X.putObj (w.heap.size + 3) (.loop { lo' with state := .done, pending := some .ret }))) := fun X h => ⟨h.rcd, by rw [hLv]; exact h.put hg (Nat.le_refl _) _⟩
        have HF : Hid (StC .i64 3 25 w (.slice ao ss.length cap) ss (dgs ss (a + 1)) g w.heap.size { lo' with state := .busy } (WB.setCell ⟨g, j, none⟩ (.int .i64 (digAt ss a j + 1)))) := by
          have := hset
          rw [stR_more hone hjn HD.out h9] at this
          exact this
        have hnl : digAt ss a j + 1 < ss.getD j 0 := by omega
        clear hset hcB hC hGo hLv hget hlen hW0 h0 hJ hv0 hrow hone hmx h9 HS HD
        generalize digAt ss a j = z at *
        generalize ss.getD j 0 = x at *
        subst hlo
        dsimp only [recOf] at HA HG HF hWB ⊢
        gi_wp2_with fail
        refine ⟨HA.out, ?_⟩
        (try rw [hWB])
        clear hWB HA
        gi_wp2
        exact HG.out _ HF.out
  case done =>
    rintro W2 lo ⟨lo2, hC⟩ hdf hlt
    rw [hsz0] at hdf hlt ⊢
    have h4 := hC.put hg (Nat.le_refl _) lo
    show Exit.inBlock 0 _ _ _ (W2.putObj (w.heap.size + 3) (.loop lo))
    generalize W2.putObj (w.heap.size + 3) (.loop lo) = W3 at *
    have hdf3 := h4.dfr
    have HR : Hid (W3.heap[g]? = some (.cells ((dgs ss (a + 1)).map (Value.int .i64)).toArray 3 (0, 0)) ∧ w.grownBy W3 (some g)) := ⟨h4.row, h4.grn⟩
    clear hC hdf hlt h4
    gi_wp2
    refine ⟨by simp, .inl ⟨_, _, rfl, run_takeDeferred hdf3, ?_⟩⟩
    refine ⟨_, results_none rfl _ _ _, ⟨_, rfl⟩, ?_, ?_⟩
    · rw [World.putObj_heap_other (by omega)]; exact HR.out.1
    · exact ⟨HR.out.2.os, HR.out.2.tape, HR.out.2.output, by simpa using HR.out.2.size, fun q hq hr => by rw [World.putObj_heap_other (by omega)]; exact HR.out.2.block q hq hr⟩
  case stop =>
    rintro W2 lo c ⟨rfl, lo2, hC⟩ hdf hlt
    rw [hsz0] at hdf hlt ⊢
    have h4 := hC.put hg (Nat.le_refl _) lo
    generalize W2.putObj (w.heap.size + 3) (.loop lo) = W3 at *
    have hdf3 := h4.dfr
    have HR : Hid (W3.heap[g]? = some (.cells ((dgs ss (a + 1)).map (Value.int .i64)).toArray 3 (0, 0)) ∧ w.grownBy W3 (some g)) := ⟨h4.row, h4.grn⟩
    clear hC hdf hlt h4
    gi_wp2
    refine ⟨by simp, .inl ⟨_, _, rfl, run_takeDeferred hdf3, ?_⟩⟩
    refine ⟨_, results_none rfl _ _ _, ⟨_, rfl⟩, ?_, ?_⟩
    · rw [World.putObj_heap_other (by omega)]; exact HR.out.1
    · exact ⟨HR.out.2.os, HR.out.2.tape, HR.out.2.output, by simpa using HR.out.2.size, fun q hq hr => by rw [World.putObj_heap_other (by omega)]; exact HR.out.2.block q hq hr⟩
end Go.Proofs.Ytfanomoijjjcmaa

/-
  Proved here: the law's walked at one type.
-/
import Derived.Test.YtfanomoijjjcmaaRadN
namespace Go.Proofs.Ytfanomoijjjcmaa
open Go.RowKit Go.Shelf
attribute [local go_sem] Oper.semAt_some

theorem Try.infoLJ : (Try.prog.info? 32).map (fun i => (i.zero, i.size, i.bytes)) = some (some (.slice none 0 0), 1, 24) := by kernel_rfl
set_option maxRecDepth 100000 in
set_option maxHeartbeats 12800000 in
theorem walkedJ (v : Value) (zs : List Int) (left : Int) (w : World) (hv : RK .i32 w v zs) (hzl : zs.length ≤ 17592186043904) :
    Calls Try.prog 19 #[v, .int .i64 left] w fun e w' => e = .returned (.bool true) ∧ Below w.heap.size w w' := by
  have hin := hv.inK
  have hin64 : inK .i64 zs := inK_i64 hin (by decide) (by decide)
  have h77 : IntKind.i32.min ≤ 77 ∧ 77 ≤ IntKind.i32.max := by decide
  have hsv : ∃ vo vn vc, v = .slice vo vn vc := by obtain ⟨x, y, e, _⟩ := hv; exact ⟨_, _, _, e⟩
  obtain ⟨vo, vn, vc, rfl⟩ := hsv
  obtain ⟨W1, hW1⟩ : ∃ W, (w.alloc (.cells #[.int .i64 left] 3)).alloc (.cells #[.bool false] 4) = W := ⟨_, rfl⟩
  have b1 : Below w.heap.size w W1 := by rw [← hW1]; exact bstepR (belowA _ _) (belowA _ _)
  have z1 : W1.heap.size = w.heap.size + 2 := by rw [← hW1]; simp
  have hl1 : W1.heap[w.heap.size]? = some (.cells #[.int .i64 left] 3 (0, 0)) := by rw [← hW1, Below.heap_alloc _ _ _ (by simp)]; exact heap_alloc_new w _
  have hr1 : W1.heap[w.heap.size + 1]? = some (.cells #[.bool false] 4 (0, 0)) := by
    have := heap_alloc_new (w.alloc (.cells #[.int .i64 left] 3)) (.cells #[.bool false] 4)
    rw [World.size_alloc] at this; rw [← hW1]; exact this
  have HW1 : Hid ((w.alloc (.cells #[.int .i64 left] 3)).alloc (.cells #[.bool false] 4) = W1) := hW1
  clear hW1
  refine (callsIn_wide (n := 4)).1 ?_
  refine callsIn_of_wp_marks Try.func19 rfl trivial ?_ rfl
  simp only [Try.ntmps19, List.size_toArray, List.length_cons, List.length_nil, Nat.reduceAdd, Nat.reduceSub, Array.replicate_succ, Array.replicate_zero, List.push_toArray, List.append_toArray, List.nil_append, List.cons_append]
  gi_wp2_with fail
  refine ⟨trivial, ?_⟩
  (try rw [HW1.out])
  replace hv := hv.below (Nat.le_refl _) b1
  refine ((callsIn_wide (n := 3)).2 (roomyJ _ zs W1 hv hzl)).mono ?_
  rintro e w2 ⟨s, rfl, hS, b2⟩
  replace hv := hv.below (Nat.le_refl _) b2
  obtain ⟨gs, cs, rfl, hSO⟩ := id hS
  have hgs := World.ownsRow.lt hSO gs rfl
  clear hSO
  gi_wp2_with fail
  refine ⟨trivial, ?_⟩
  refine ((callsIn_wide (n := 3)).2 (plainJ _ zs w2 hv hzl)).mono ?_
  rintro e w3 ⟨pv, rfl, op, b3⟩
  obtain ⟨po, pc, rfl, -⟩ := op.sl
  have hpg := World.ownsRow.lt op
  replace hv := hv.below (Nat.le_refl _) b3
  replace hS := hS.below b3
  obtain ⟨W4, hW4⟩ : ∃ W, w3.alloc (.cells #[.slice po zs.length pc] 25) = W := ⟨_, rfl⟩
  have b4 : Below w3.heap.size w3 W4 := by rw [← hW4]; exact belowA _ _
  have z4 : W4.heap.size = w3.heap.size + 1 := by rw [← hW4]; simp
  have ho4 : W4.heap[w3.heap.size]? = some (.cells #[.slice po zs.length pc] 25 (0, 0)) := by rw [← hW4]; exact heap_alloc_new w3 _
  have co4 : W4.cell? ⟨w3.heap.size, 0, none⟩ = some (.slice po zs.length pc) := by simp [World.cell?, ho4]
  have HW4 : Hid (w3.alloc (.cells #[.slice po zs.length pc] 25) = W4) := hW4
  clear hW4
  have rp := (RK.of_own op hin64).below (Nat.le_refl _) b4
  replace hv := hv.below (Nat.le_refl _) b4
  replace hS := hS.below b4
  gi_wp2_with fail
  refine ⟨trivial, ?_⟩
  (try rw [HW4.out])
  refine ((callsIn_wide (n := 3)).2 (refCount _ zs W4 rp)).mono ?_
  rintro e w5 ⟨rfl, q5, rfl⟩
  have b5 := below_drewR (Below.refl W4.heap.size W4) q5
  have z5 : (W4.drewN q5).heap.size = w3.heap.size + 1 := by rw [heap_drewR, z4]
  generalize W4.drewN q5 = w5 at *
  obtain ⟨W6, hW6⟩ : ∃ W, w5.alloc (.cells #[.int .i64 (cntE zs)] 22) = W := ⟨_, rfl⟩
  have b6 : Below w5.heap.size w5 W6 := by rw [← hW6]; exact belowA _ _
  have z6 : W6.heap.size = w3.heap.size + 2 := by rw [← hW6]; simp [z5]
  have he6 : W6.heap[w3.heap.size + 1]? = some (.cells #[.int .i64 (cntE zs)] 22 (0, 0)) := by
    have := heap_alloc_new w5 (.cells #[.int .i64 (cntE zs)] 22)
    rw [z5] at this; rw [← hW6]; exact this
  have HW6 : Hid (w5.alloc (.cells #[.int .i64 (cntE zs)] 22) = W6) := hW6
  clear hW6
  have B46 : Below W4.heap.size W4 W6 := bstepR b5 b6
  replace rp := rp.below (Nat.le_refl _) B46
  replace hv := hv.below (Nat.le_refl _) B46
  replace hS := hS.below B46
  gi_wp2_with fail
  refine ⟨trivial, ?_⟩
  (try rw [HW6.out])
  refine ((callsIn_wide (n := 3)).2 (allJ _ zs W6 (hS.rk hin h77) hzl)).mono ?_
  rintro e w7 ⟨b, u, rfl, hb7, hc7, hou, hb0, hbz, hug, b7⟩
  replace rp := rp.below (Nat.le_refl _) b7
  replace hv := hv.below (Nat.le_refl _) b7
  replace hS := hS.below b7
  have ru := RK.of_own hou hin
  have hfn : ∀ w, (binOp .eql 71 (.func (.func 65) #[] #[.pointer (some ⟨b, 0, none⟩), .pointer (some ⟨b + 1, 0, none⟩)]) .nilFunc).run Try.prog w = .ok (.bool false) w := fun _ => by kernel_rfl
  gi_wp2_with fail
  refine ⟨trivial, ?_⟩
  refine ((callsIn_wide (n := 3)).2 (keptJ _ _ _ zs w7 hS hv hzl)).mono ?_
  rintro e w8 ⟨rfl, q8, rfl⟩
  have b8 := below_drewR (Below.refl w7.heap.size w7) q8
  have z8 : (w7.drewN q8).heap.size = b + 2 := by rw [heap_drewR, hbz]
  generalize w7.drewN q8 = w8 at *
  have hF : WkF .i32 32 w left zs w3.heap.size b (.slice po zs.length pc) u (b + 2) w8 := by
    have y2 := b2.size
    have y3 := b3.size
    have B2 := bstepR b1 b2
    have B3 := bstepR B2 b3
    have B4 := bstepR B3 b4
    have B6 := bstepR B4 B46
    have B7 := bstepR B6 b7
    have L : ∀ q, q < W6.heap.size → w8.heap[q]? = W6.heap[q]? := fun q hq => by rw [b8.block _ (by omega), b7.block _ hq]
    have L1 : ∀ q, q < w.heap.size + 2 → W6.heap[q]? = W1.heap[q]? := fun q hq => by rw [B46.block _ (by omega), b4.block _ (by omega), b3.block _ (by omega), b2.block _ (by omega)]
    refine ⟨?_, ?_, ?_, ?_, ?_, ?_, rp.below (Nat.le_refl _) b8, ru.below (Nat.le_refl _) b8, by omega, by omega, by omega, fun g hg => by have := hpg g hg; omega, hug, bstepR B7 b8⟩
    · rw [L _ (by omega), L1 _ (by omega)]; exact hl1
    · rw [L _ (by omega), L1 _ (by omega)]; exact hr1
    · rw [L _ (by omega), B46.block _ (by omega)]; exact ho4
    · rw [L _ (by omega)]; exact he6
    · rw [b8.block _ (by omega)]; exact hb7
    · rw [b8.block _ (by omega)]; exact hc7
  replace hS := hS.below b8
  have hgne : w.heap.size + 2 ≤ gs ∧ gs < w3.heap.size ∧ (∀ g, Value.ownBlock (.slice po zs.length pc) = some g → g ≠ gs) ∧ (∀ g, u.ownBlock = some g → g ≠ gs) := by
    have y3 := b3.size
    have h5 := World.ownsRow.lt hou
    exact ⟨by omega, by omega, fun g hg => by have := hpg g hg; omega, fun g hg => by have := h5 g hg; omega⟩
  obtain ⟨o, ho⟩ : ∃ o, w3.heap.size = o := ⟨_, rfl⟩
  rw [ho] at hF hgne
  clear b1 b2 b3 b4 b5 b6 b7 b8 B46 z1 z4 z5 z6 hl1 hr1 ho4 co4 he6 hb7 hc7 hou hug rp ru hv op hpg hin hin64 h77 hgs hbz hb0
  obtain ⟨g', cs', hge, hSO⟩ := hS
  simp only [Value.slice.injEq, Option.some.injEq, Addr.mk.injEq, and_true, true_and] at hge
  obtain ⟨rfl, rfl⟩ := hge
  obtain ⟨n, hn⟩ : ∃ n, zs.length = n := ⟨_, rfl⟩
  have hSO' : ∃ L : List Int, L.length = n + 5 ∧ OwnK .i32 W1.heap.size 21 w8 (.slice (some ⟨gs, 0, none⟩) (n + 5) cs) L := ⟨zs ++ List.replicate 5 77, by rw [List.length_append, List.length_replicate, hn], by rw [hn] at hSO; exact hSO⟩
  rw [hn] at hF hgne hzl ⊢
  have HN : Hid (zs.length = n) := hn
  clear hSO hn
  gi_wp2_with fail
  gi_loopw [10] (fun t wr => ∃ i : Nat, i ≤ n ∧ t = .int .i64 i ∧ (∃ L : List Int, L.length = n + 5 ∧ OwnK .i32 W1.heap.size 21 wr (.slice (some ⟨gs, 0, none⟩) (n + 5) cs) L) ∧ WkF .i32 32 w left zs o b (.slice po n pc) u (b + 2) wr ∧ wr.heap.size = b + 2) (fun t _ => n - (intOf t).toNat)
  case atStart => exact ⟨0, Nat.zero_le _, rfl, hSO', hF, z8⟩
  case round =>
    clear hSO' hF z8
    obtain ⟨i, hi, rfl, ⟨L, hL, hO⟩, hF, hsz⟩ := hrel
    by_cases hlt : i < n
    · have hltI : (i : Int) < (n : Int) := by omega
      obtain ⟨⟨z, c0⟩, f0⟩ := hO.cell (i := i) (by omega)
      have hst := hO.set hL i 1
      have HF : Hid ((∃ L : List Int, L.length = n + 5 ∧ OwnK .i32 W1.heap.size 21 (wr.setCell ⟨gs, i, none⟩ (.int .i32 1)) (.slice (some ⟨gs, 0, none⟩) (n + 5) cs) L) ∧ WkF .i32 32 w left zs o b (.slice po n pc) u (b + 2) (wr.setCell ⟨gs, i, none⟩ (.int .i32 1)) ∧ (wr.setCell ⟨gs, i, none⟩ (.int .i32 1)).heap.size = b + 2) :=
        ⟨⟨_, by rw [List.length_set]; exact hL, hst.1⟩, hF.set hgne.1 hgne.2.1 hgne.2.2.1 hgne.2.2.2 _ _, by rw [← hsz]; simp [World.setCell]⟩
      clear hst hO hF hL
      gi_wp2
      go_roundw
      case rel => exact ⟨i + 1, by omega, by go_num, HF.out.1, HF.out.2.1, HF.out.2.2⟩
      case measure => simp [intOf]; omega
    · have hltI : ¬ (i : Int) < (n : Int) := by omega
      clear hO hL
      have cE : wr.cell? ⟨o + 1, 0, none⟩ = some (.int .i64 (cntE zs)) := by simp [World.cell?, hF.err]
      by_cases hE : cntE zs = 0
      case neg =>
        have hEb : (cntE zs != 0) = true := by simpa using hE
        gi_wp2_with fail
        obtain ⟨WK, hWK⟩ : ∃ W, wr.alloc (.cells #[.int .i64 0] 3) = W := ⟨_, rfl⟩
        have zK : WK.heap.size = b + 3 := by rw [← hWK]; simp [hsz]
        have hcN := cntE_pos hE
        rw [hWK]
        refine range_call rfl (by decide) rfl trivial (enters_of Try.func65 (by kernel_rfl) rfl) (fun W => ∃ lo, WkC 3 wr (b + 2) (.int .i64 0) lo W) (fun _ _ => False) ?call ?done ?stop
        case stop => intro W2 lo c h; exact h.elim
        case call =>
          intro fn hfn
          simp only [zK, List.append_toArray, List.cons_append, List.nil_append, Nat.add_assoc, Nat.reduceAdd, Nat.reduceSub]
          refine callsIn_rec ?_
          intro lo0 hlo0
          have hst : WkC 3 wr (b + 2) (.int .i64 0) lo0 ((WK.alloc (.deferred (some []))).alloc (.loop lo0)) := by rw [← hWK]; exact WkC.start 3 wr hsz _ _
          have hKp : ∀ W, WkC 3 wr (b + 2) (.int .i64 0) lo0 W → WkF .i32 32 w left zs o b (.slice po n pc) u (b + 2) W := fun W h => hF.keep h.oth h.os h.tape h.output (by have := h.lt; omega)
          have hF2 := hKp _ hst
          refine CallsIn.mono (all1J (b + 4) b (b + 5) u zs (by rw [HN.out]; exact hzl) (fun k W => k = 0 ∧ WkC 3 wr (b + 2) (.int .i64 0) lo0 W) (fun _ => False) ?hJ ?hY _ (by simp [zK]) (by omega) hF2.bas hF2.cnt hF2.ru (fun g hg => by have := hF2.ub g hg; omega) (fun ob => ⟨rfl, hst.grow (r := none) (fun g hg => by cases hg) (World.grownBy_alloc _ _ _)⟩)) ?fin
          case hJ => exact fun k A B h _ hg => ⟨h.1, h.2.grow (fun g hg' => by have := Option.some.inj hg'; omega) hg⟩
          case hY => intro k A W d hk; rw [hcN] at hk; omega
          case fin =>
            rintro e W2 ⟨hx, h | h⟩
            · exact ⟨hx, none, by rw [h.2.rcd, hlo0]; rfl, h.2.dfr, lo0, h.2⟩
            · exact h.elim
        case done =>
          rintro W2 lo ⟨lo2, hC⟩ hdf hlt
          rw [zK] at hdf hlt ⊢
          have h4 := hC.put lo
          show Exit.inBlock 2 _ _ _ (W2.putObj (b + 2 + 2) (.loop lo))
          generalize W2.putObj (b + 2 + 2) (.loop lo) = W3 at *
          have hF3 : WkF .i32 32 w left zs o b (.slice po n pc) u (b + 2) W3 := hF.keep h4.oth h4.os h4.tape h4.output (by have := h4.lt; omega)
          have cE3 : W3.cell? ⟨o + 1, 0, none⟩ = some (.int .i64 (cntE zs)) := by simp [World.cell?, hF3.err]
          have cK3 : W3.cell? ⟨b + 2, 0, none⟩ = some (.int .i64 0) := by simp [World.cell?, h4.kbx]
          have cR3 : W3.cell? ⟨w.heap.size + 1, 0, none⟩ = some (.bool false) := by simp [World.cell?, hF3.res]
          have fR3 : W3.frozen? ⟨w.heap.size + 1, 0, none⟩ = false := frozen_of_row W3 _ 0 _ _ hF3.res
          have hEb2 : (cntE zs == 0) = false := beq_eq_false_iff_ne.2 hE
          have HB : Hid (W3.heap[b + 2 + 1]? = some (.deferred (some [])) ∧ Below w.heap.size w W3 ∧ w.heap.size + 1 < o ∧ o + 1 < b) := ⟨h4.dfr, hF3.bel, hF3.lo, hF3.lb⟩
          clear hC hdf hlt h4 hF3 hF hE
          gi_wp2
          obtain ⟨hdf3, hbl3, ho3, hb3⟩ := HB.out
          have hdfZ : (W3.setCell ⟨w.heap.size + 1, 0, none⟩ (.bool true)).heap[b + 3]? = some (.deferred (some [])) := by rw [Below.heap_setCell _ _ _ _ (show b + 3 ≠ w.heap.size + 1 by omega)]; exact hdf3
          refine ⟨by simp, .inl ⟨_, _, rfl, run_takeDeferred hdfZ, ?_⟩⟩
          refine ⟨_, results_c1 (p := 4) rfl _ _ (w.heap.size + 1) (.bool true) _ rfl ?_ Try.underlying4 rfl, rfl, (hbl3.setCell (p := ⟨w.heap.size + 1, 0, none⟩) (Nat.le_succ _) _).trans (below_putR _ (by omega))⟩
          rw [World.cell?_of_block (World.putObj_heap_other (show w.heap.size + 1 ≠ b + 3 by omega))]
          exact World.cell?_setCell_same' _ _ _ (by rw [cR3]; rfl)
      case pos =>
        rw [hE] at cE
        by_cases hbig : 2000 < cntN zs
        case pos =>
          gi_wp2_with fail
          obtain ⟨WK, hWK⟩ : ∃ W, wr.alloc (.cells #[.int .i64 0] 3) = W := ⟨_, rfl⟩
          have zK : WK.heap.size = b + 3 := by rw [← hWK]; simp [hsz]
          obtain ⟨hone, -, -⟩ := cnt_pos (zs := zs) (by omega)
          rw [hWK]
          refine range_call rfl (by decide) rfl trivial (enters_of Try.func65 (by kernel_rfl) rfl) (fun _ => False) (fun c W => c = .exit 2 ∧ ∃ lo, WkC 3 wr (b + 2) (.int .i64 20) lo W) ?call ?done ?stop
          case done => intro W2 lo h; exact h.elim
          case call =>
            intro fn hfn
            simp only [zK, List.append_toArray, List.cons_append, List.nil_append, Nat.add_assoc, Nat.reduceAdd, Nat.reduceSub]
            refine callsIn_rec ?_
            intro lo0 hlo0
            have hst : WkC 3 wr (b + 2) (.int .i64 ((0 : Nat) : Int)) lo0 ((WK.alloc (.deferred (some []))).alloc (.loop lo0)) := by rw [← hWK]; exact WkC.start 3 wr hsz _ _
            have hKp : ∀ kv lo1 W, WkC 3 wr (b + 2) kv lo1 W → WkF .i32 32 w left zs o b (.slice po n pc) u (b + 2) W := fun kv lo1 W h => hF.keep h.oth h.os h.tape h.output (by have := h.lt; omega)
            have hF2 := hKp _ _ _ hst
            refine CallsIn.mono (all1J (b + 4) b (b + 5) u zs (by rw [HN.out]; exact hzl) (fun k W => k ≤ 20 ∧ WkC 3 wr (b + 2) (.int .i64 (k : Int)) lo0 W) (fun W => WkC 3 wr (b + 2) (.int .i64 20) { lo0 with state := .done, pending := some (.exit 2) } W) ?hJ ?hY _ (by simp [zK]) (by omega) hF2.bas hF2.cnt hF2.ru (fun g hg => by have := hF2.ub g hg; omega) (fun ob => ⟨by omega, hst.grow (r := none) (fun g hg => by cases hg) (World.grownBy_alloc _ _ _)⟩)) ?fin
            case hJ => exact fun k A B h _ hg => ⟨h.1, h.2.grow (fun g hg' => by have := Option.some.inj hg'; omega) hg⟩
            case fin =>
              rintro e W2 ⟨hx, h | h⟩
              · have := h.1; omega
              · exact ⟨hx, some (.exit 2), by rw [h.rcd]; rfl, h.dfr, rfl, _, h⟩
            case hY =>
              intro k A W d hkc ⟨hk20, hCA⟩ hRA bA hO
              obtain ⟨lo', hlo'⟩ : ∃ lo', lo0 = lo' := ⟨_, rfl⟩
              rw [hlo'] at hCA ⊢
              have hlo := hlo'.symm.trans hlo0
              clear hlo' hlo0 hst hF2
              have hCW := hCA.grow (r := none) (fun g hg => by cases hg) (grown_of_below bA none)
              have hzW := bA.size
              obtain ⟨Go_, hGo⟩ : ∃ G : World → Prop, G = fun W' => (k + 1 ≤ 20 ∧ WkC 3 wr (b + 2) (.int .i64 ((k + 1 : Nat) : Int)) lo' W') ∧ W.heap.size ≤ W'.heap.size ∧ W'.heap[b]? = W.heap[b]? ∧ W'.heap[b + 1]? = W.heap[b + 1]? ∧ W'.heap[b + 5]? = W.heap[b + 5]? ∧ ∀ g, u.ownBlock = some g → W'.heap[g]? = W.heap[g]? := ⟨_, rfl⟩
              obtain ⟨Lv_, hLv⟩ : ∃ G : Code → World → Prop, G = fun c W' => c = .exit 2 ∧ WkC 3 wr (b + 2) (.int .i64 20) { lo' with state := .done, pending := some (.exit 2) } W' := ⟨_, rfl⟩
              refine (yield_round (Go_ := Go_) (Lv := Lv_) trivial hCW.rcd (by rw [hlo]; rfl) (by rw [hlo]; rfl) (by rw [hlo]; rfl) ?_).mono ?_
              case refine_2 =>
                rintro e W' (⟨rfl, h⟩ | ⟨rfl, c, h⟩)
                · rw [hGo] at h; exact .inl ⟨rfl, h⟩
                · rw [hLv] at h; exact .inr ⟨rfl, h.2⟩
              obtain ⟨WB, hWB⟩ : ∃ X, W.putObj (b + 4) (.loop { lo' with state := .busy }) = X := ⟨_, rfl⟩
              have hcB : WkC 3 wr (b + 2) (.int .i64 (k : Int)) { lo' with state := .busy } WB := by rw [← hWB]; exact hCW.put _
              have hLB : ∀ q, q ≠ b + 4 → WB.heap[q]? = W.heap[q]? := fun q hq => by rw [← hWB]; exact World.putObj_heap_other hq
              have hzB : WB.heap.size = W.heap.size := by rw [← hWB]; simp
              have hFB := hKp _ _ _ hcB
              have hdlt := World.ownsRow.lt hO
              have hinD : inK .i32 (dgs zs k) := fun i hi => by
                rw [dgs_len] at hi
                have h1 := dig_bd zs k hone i hi
                have h2 := hF.ru.inK i hi
                have h3 : IntKind.i32.min ≤ 0 := by decide
                rw [dgs_get zs k i hi]; omega
              have hin64 : inK .i64 (dgs zs k) := inK_i64 hinD (by decide) (by decide)
              have rdB := (RK.of_own hO hinD).of_blocks (fun g hg => hLB g (by have := hdlt g hg; omega))
              obtain ⟨do_, dc, rfl, -⟩ := hO.sl
              have hdE : dgE zs k = 0 := by
                obtain ⟨_, hE0, _⟩ := cnt_pos (zs := zs) (by omega)
                unfold dgE; rw [if_neg (by simp [hE0]), if_neg (by omega)]
              have hrD := refDigits _ zs k WB hFB.rpv (by rw [HN.out]; omega) (by omega) (by omega)
              have cO : WB.cell? ⟨o, 0, none⟩ = some (.slice po n pc) := by simp [World.cell?, hFB.own]
              have HA : Hid (W.heap[b + 4]? = some (.loop lo')) := hCW.rcd
              have HG : Hid (∀ X, WkC 3 wr (b + 2) (.int .i64 ((k + 1 : Nat) : Int)) { lo' with state := .busy } X → k + 1 ≤ 20 → W.heap.size ≤ X.heap.size → (∀ q, q < W.heap.size → q ≠ b + 2 → q ≠ b + 4 → X.heap[q]? = W.heap[q]?) → X.heap[b + 4]? = some (.loop { lo' with state := .busy }) ∧ Go_ (X.putObj (b + 4) (.loop lo'))) := fun X h h20 hz hq => by
                refine ⟨h.rcd, ?_⟩
                have hl4 := hCW.lt
                have hq' : ∀ q, q < W.heap.size → q ≠ b + 2 → q ≠ b + 4 → (X.putObj (b + 4) (.loop lo')).heap[q]? = W.heap[q]? := fun q h1 h2 h3 => by rw [World.putObj_heap_other h3]; exact hq q h1 h2 h3
                rw [hGo]
                exact ⟨⟨h20, h.put _⟩, by simpa using hz, hq' _ (by omega) (by omega) (by omega), hq' _ (by omega) (by omega) (by omega), hq' _ (by omega) (by omega) (by omega), fun g hg => hq' g (by have := hF.ub g hg; omega) (by have := hF.ub g hg; omega) (by have := hF.ub g hg; omega)⟩
              have HL : Hid (∀ X, WkC 3 wr (b + 2) (.int .i64 20) { lo' with state := .busy } X → X.heap[b + 4]? = some (.loop { lo' with state := .busy }) ∧ Lv_ (.exit 2) (X.putObj (b + 4) (.loop { lo' with state := .done, pending := some (.exit 2) }))) := fun X h => ⟨h.rcd, by rw [hLv]; exact ⟨rfl, h.put _⟩⟩
              rw [dgs_len, HN.out] at rdB ⊢
              have hlb := hF.lb
              have hKpW := hKp
              clear hGo hLv hCA hCW hRA bA hO hdlt hKp hFB hinD
              subst hlo
              dsimp only [recOf] at HA HG HL hcB hWB ⊢
              gi_wp2_with fail
              refine ⟨HA.out, ?_⟩
              (try rw [hWB])
              clear hWB HA
              gi_wp2_with fail
              refine ⟨trivial, ?_⟩
              refine (CallsIn.inRound _ (callsIn_wide.2 hrD)).mono ?_
              intro e w2 hdg
              obtain ⟨g, rfl, -, hrow, b2⟩ := hdg.yes hdE
              have rw2 : RK .i64 w2 (.slice (some ⟨g, 0, none⟩) n n) (dgs zs k) := by
                have := RK.of_row (cap := n) hrow hin64 (by rw [dgs_len, HN.out]; exact Nat.le_refl _) (by unfold maxLen; omega)
                rw [dgs_len, HN.out] at this; exact this
              rw [HN.out]
              have rd2 := rdB.below (Nat.le_refl _) b2
              have hc2 := hcB.grow (r := none) (fun g hg => by cases hg) (grown_of_below b2 none)
              have hz2 := b2.size
              have hL2 : ∀ q, q < W.heap.size → q ≠ b + 4 → w2.heap[q]? = W.heap[q]? := fun q h1 h2 => by rw [b2.block _ (by omega)]; exact hLB q h2
              have cK2 : w2.cell? ⟨b + 2, 0, none⟩ = some (.int .i64 (k : Int)) := by simp [World.cell?, hc2.kbx]
              have cE2 : w2.cell? ⟨o + 1, 0, none⟩ = some (.int .i64 0) := by
                have := (hKpW _ _ _ hc2).err; rw [hE] at this; simp [World.cell?, this]
              clear hdg hrow b2 hcB hrD rdB hLB cO
              by_cases hk : k = 20
              · subst hk
                have HX := HL.out _ hc2
                have HX' : Hid _ := HX
                clear HX hc2 HL HG
                gi_wp2
                exact HX'.out
              · have hkb : ((k : Int) == 20) = false := by rw [beq_eq_false_iff_ne]; omega
                have hkk : ((k : Int) != (k : Int)) = false := by simp
                clear hk
                gi_wp2_with fail
                refine ⟨trivial, ?_⟩
                refine (CallsIn.inRound _ (callsIn_wide.2 (sameJ _ _ (dgs zs k) w2 rd2 rw2))).mono ?_
                rintro e w3 ⟨rfl, q, rfl⟩
                have b3 := below_drewR (Below.refl w2.heap.size w2) q
                generalize w2.drewN q = w3 at *
                have hc3 := hc2.grow (r := none) (fun g hg => by cases hg) (grown_of_below b3 none)
                have cK3 : w3.cell? ⟨b + 2, 0, none⟩ = some (.int .i64 (k : Int)) := by simp [World.cell?, hc3.kbx]
                have fK3 : w3.frozen? ⟨b + 2, 0, none⟩ = false := frozen_of_row w3 _ 0 _ _ hc3.kbx
                have hz3 := b3.size
                have hk19 : k + 1 ≤ 20 := by
                  have h1 := beq_eq_false_iff_ne.1 hkb
                  omega
                have HX : Hid _ := HG.out _ (hc3.set (.int .i64 ((k + 1 : Nat) : Int))) hk19 (by simp [World.setCell]; omega) (fun q h1 h2 h3 => by rw [Below.heap_setCell _ _ _ _ h2, b3.block _ (by omega)]; exact hL2 q h1 h3)
                clear b3 hc3 hc2 HL HG rd2 rw2 hL2 cK2 cE2 hKpW
                gi_wp2
                exact HX.out
          case stop =>
            rintro W2 lo c ⟨rfl, lo2, hC⟩ hdf hlt
            rw [zK] at hdf hlt ⊢
            have h4 := hC.put lo
            show Code.wpIn _ _ _ _ _ _ (W2.putObj (b + 2 + 2) (.loop lo))
            generalize W2.putObj (b + 2 + 2) (.loop lo) = W3 at *
            have hF3 : WkF .i32 32 w left zs o b (.slice po n pc) u (b + 2) W3 := hF.keep h4.oth h4.os h4.tape h4.output (by have := h4.lt; omega)
            have cE3 : W3.cell? ⟨o + 1, 0, none⟩ = some (.int .i64 0) := by have := hF3.err; rw [hE] at this; simp [World.cell?, this]
            have cK3 : W3.cell? ⟨b + 2, 0, none⟩ = some (.int .i64 20) := by simp [World.cell?, h4.kbx]
            have cR3 : W3.cell? ⟨w.heap.size + 1, 0, none⟩ = some (.bool false) := by simp [World.cell?, hF3.res]
            have fR3 : W3.frozen? ⟨w.heap.size + 1, 0, none⟩ = false := frozen_of_row W3 _ 0 _ _ hF3.res
            have HB : Hid (W3.heap[b + 2 + 1]? = some (.deferred (some [])) ∧ Below w.heap.size w W3 ∧ w.heap.size + 1 < o ∧ o + 1 < b) := ⟨h4.dfr, hF3.bel, hF3.lo, hF3.lb⟩
            clear hC hdf hlt h4 hF3 hF hE
            gi_wp2
            obtain ⟨hdf3, hbl3, ho3, hb3⟩ := HB.out
            have hdfZ : (W3.setCell ⟨w.heap.size + 1, 0, none⟩ (.bool true)).heap[b + 3]? = some (.deferred (some [])) := by rw [Below.heap_setCell _ _ _ _ (show b + 3 ≠ w.heap.size + 1 by omega)]; exact hdf3
            refine ⟨by simp, .inl ⟨_, _, rfl, run_takeDeferred hdfZ, ?_⟩⟩
            refine ⟨_, results_c1 (p := 4) rfl _ _ (w.heap.size + 1) (.bool true) _ rfl ?_ Try.underlying4 rfl, rfl, (hbl3.setCell (p := ⟨w.heap.size + 1, 0, none⟩) (Nat.le_succ _) _).trans (below_putR _ (by omega))⟩
            rw [World.cell?_of_block (World.putObj_heap_other (show w.heap.size + 1 ≠ b + 3 by omega))]
            exact World.cell?_setCell_same' _ _ _ (by rw [cR3]; rfl)
        case neg =>
          gi_wp2_with fail
          obtain ⟨WK, hWK⟩ : ∃ W, wr.alloc (.cells #[.int .i64 0] 3) = W := ⟨_, rfl⟩
          have zK : WK.heap.size = b + 3 := by rw [← hWK]; simp [hsz]
          rw [hWK]
          refine range_call rfl (by decide) rfl trivial (enters_of Try.func65 (by kernel_rfl) rfl) (fun W => ∃ kv lo, WkC 3 wr (b + 2) kv lo W) (fun c W => c = .exit 4 ∧ ∃ kv lo, WkC 3 wr (b + 2) kv lo W) ?call ?done ?stop
          case call =>
            intro fn hfn
            simp only [zK, List.append_toArray, List.cons_append, List.nil_append, Nat.add_assoc, Nat.reduceAdd, Nat.reduceSub]
            refine callsIn_rec ?_
            intro lo0 hlo0
            have hst : WkC 3 wr (b + 2) (.int .i64 ((0 : Nat) : Int)) lo0 ((WK.alloc (.deferred (some []))).alloc (.loop lo0)) := by rw [← hWK]; exact WkC.start 3 wr hsz _ _
            have hKp : ∀ kv lo1 W, WkC 3 wr (b + 2) kv lo1 W → WkF .i32 32 w left zs o b (.slice po n pc) u (b + 2) W := fun kv lo1 W h => hF.keep h.oth h.os h.tape h.output (by have := h.lt; omega)
            have hF2 := hKp _ _ _ hst
            refine CallsIn.mono (all1J (b + 4) b (b + 5) u zs (by rw [HN.out]; exact hzl) (fun k W => WkC 3 wr (b + 2) (.int .i64 (k : Int)) lo0 W) (fun W => ∃ kv, WkC 3 wr (b + 2) kv { lo0 with state := .done, pending := some (.exit 4) } W) ?hJ ?hY _ (by simp [zK]) (by omega) hF2.bas hF2.cnt hF2.ru (fun g hg => by have := hF2.ub g hg; omega) (fun ob => hst.grow (r := none) (fun g hg => by cases hg) (World.grownBy_alloc _ _ _))) ?fin
            case hJ => exact fun k A B h _ hg => h.grow (fun g hg' => by have := Option.some.inj hg'; omega) hg
            case fin =>
              rintro e W2 ⟨hx, h | ⟨kv, h⟩⟩
              · exact ⟨hx, none, by rw [h.rcd, hlo0]; rfl, h.dfr, _, _, h⟩
              · exact ⟨hx, some (.exit 4), by rw [h.rcd]; rfl, h.dfr, rfl, _, _, h⟩
            case hY =>
              intro k A W d hkc hCA hRA bA hO
              obtain ⟨lo', hlo'⟩ : ∃ lo', lo0 = lo' := ⟨_, rfl⟩
              rw [hlo'] at hCA ⊢
              have hlo := hlo'.symm.trans hlo0
              clear hlo' hlo0 hst hF2
              have hCW := hCA.grow (r := none) (fun g hg => by cases hg) (grown_of_below bA none)
              have hzW := bA.size
              obtain ⟨Go_, hGo⟩ : ∃ G : World → Prop, G = fun W' => WkC 3 wr (b + 2) (.int .i64 ((k + 1 : Nat) : Int)) lo' W' ∧ W.heap.size ≤ W'.heap.size ∧ W'.heap[b]? = W.heap[b]? ∧ W'.heap[b + 1]? = W.heap[b + 1]? ∧ W'.heap[b + 5]? = W.heap[b + 5]? ∧ ∀ g, u.ownBlock = some g → W'.heap[g]? = W.heap[g]? := ⟨_, rfl⟩
              obtain ⟨Lv_, hLv⟩ : ∃ G : Code → World → Prop, G = fun c W' => c = .exit 4 ∧ ∃ kv, WkC 3 wr (b + 2) kv { lo' with state := .done, pending := some (.exit 4) } W' := ⟨_, rfl⟩
              refine (yield_round (Go_ := Go_) (Lv := Lv_) trivial hCW.rcd (by rw [hlo]; rfl) (by rw [hlo]; rfl) (by rw [hlo]; rfl) ?_).mono ?_
              case refine_2 =>
                rintro e W' (⟨rfl, h⟩ | ⟨rfl, c, h⟩)
                · rw [hGo] at h; exact .inl ⟨rfl, h⟩
                · rw [hLv] at h; exact .inr ⟨rfl, h.2⟩
              obtain ⟨WB, hWB⟩ : ∃ X, W.putObj (b + 4) (.loop { lo' with state := .busy }) = X := ⟨_, rfl⟩
              have hcB : WkC 3 wr (b + 2) (.int .i64 (k : Int)) { lo' with state := .busy } WB := by rw [← hWB]; exact hCW.put _
              have hLB : ∀ q, q ≠ b + 4 → WB.heap[q]? = W.heap[q]? := fun q hq => by rw [← hWB]; exact World.putObj_heap_other hq
              have hzB : WB.heap.size = W.heap.size := by rw [← hWB]; simp
              have hFB := hKp _ _ _ hcB
              have HA : Hid (W.heap[b + 4]? = some (.loop lo')) := hCW.rcd
              have HG : Hid (∀ X, WkC 3 wr (b + 2) (.int .i64 ((k + 1 : Nat) : Int)) { lo' with state := .busy } X → W.heap.size ≤ X.heap.size → (∀ q, q < W.heap.size → q ≠ b + 2 → q ≠ b + 4 → X.heap[q]? = W.heap[q]?) → X.heap[b + 4]? = some (.loop { lo' with state := .busy }) ∧ Go_ (X.putObj (b + 4) (.loop lo'))) := fun X h hz hq => by
                refine ⟨h.rcd, ?_⟩
                have hl4 := hCW.lt
                have hq' : ∀ q, q < W.heap.size → q ≠ b + 2 → q ≠ b + 4 → (X.putObj (b + 4) (.loop lo')).heap[q]? = W.heap[q]? := fun q h1 h2 h3 => by rw [World.putObj_heap_other h3]; exact hq q h1 h2 h3
                rw [hGo]
                exact ⟨h.put _, by simpa using hz, hq' _ (by omega) (by omega) (by omega), hq' _ (by omega) (by omega) (by omega), hq' _ (by omega) (by omega) (by omega), fun g hg => hq' g (by have := hF.ub g hg; omega) (by have := hF.ub g hg; omega) (by have := hF.ub g hg; omega)⟩
              have HL : Hid (∀ X, WkC 3 wr (b + 2) (.int .i64 (k : Int)) { lo' with state := .busy } X → X.heap[b + 4]? = some (.loop { lo' with state := .busy }) ∧ Lv_ (.exit 4) (X.putObj (b + 4) (.loop { lo' with state := .done, pending := some (.exit 4) }))) := fun X h => ⟨h.rcd, by rw [hLv]; exact ⟨rfl, _, h.put _⟩⟩
              have cK : WB.cell? ⟨b + 2, 0, none⟩ = some (.int .i64 (k : Int)) := by simp [World.cell?, hcB.kbx]
              have fK : WB.frozen? ⟨b + 2, 0, none⟩ = false := frozen_of_row WB _ 0 _ _ hcB.kbx
              have cL : WB.cell? ⟨w.heap.size, 0, none⟩ = some (.int .i64 left) := by simp [World.cell?, hFB.lft]
              have hcnt := cnt_bd zs
              obtain ⟨do_, dc, rfl, -⟩ := hO.sl
              by_cases hkl : (k : Int) = left
              · have HX : Hid _ := HL.out _ hcB
                have hkb : ((k : Int) == left) = true := by rw [hkl]; simp
                have HKL : Hid ((k : Int) = left) := hkl
                clear hGo hLv hCA hCW hRA bA hO hKp hFB HL HG hcB hkl hLB
                subst hlo
                dsimp only [recOf] at HA HX hWB ⊢
                gi_wp2_with fail
                refine ⟨HA.out, ?_⟩
                (try rw [hWB])
                clear hWB HA
                gi_wp2
                exact HX.out
              · have hkb : ((k : Int) == left) = false := beq_eq_false_iff_ne.2 hkl
                have hkk : ((k : Int) != (k : Int)) = false := by simp
                have HX : Hid _ := HG.out _ (hcB.set (.int .i64 ((k + 1 : Nat) : Int))) (by simp [World.setCell]; omega) (fun q h1 h2 h3 => by rw [Below.heap_setCell _ _ _ _ h2]; exact hLB q h3)
                clear hGo hLv hCA hCW hRA bA hO hKp hFB HL HG hcB hkl hLB
                subst hlo
                dsimp only [recOf] at HA HX hWB ⊢
                gi_wp2_with fail
                refine ⟨HA.out, ?_⟩
                (try rw [hWB])
                clear hWB HA
                gi_wp2
                exact HX.out
          case done =>
            rintro W2 lo ⟨kv, lo2, hC⟩ hdf hlt
            rw [zK] at hdf hlt ⊢
            have h4 := hC.put lo
            show Exit.inBlock 4 _ _ _ (W2.putObj (b + 2 + 2) (.loop lo))
            generalize W2.putObj (b + 2 + 2) (.loop lo) = W3 at *
            have hF3 : WkF .i32 32 w left zs o b (.slice po n pc) u (b + 2) W3 := hF.keep h4.oth h4.os h4.tape h4.output (by have := h4.lt; omega)
            have hD1 := h4.dfr
            have hN2 := h4.lt
            obtain ⟨M, hM⟩ : ∃ M, W3.heap.size = M := ⟨_, rfl⟩
            rw [hM] at hN2
            clear hC hdf hlt h4 hF
            gi_wp2_with fail
            obtain ⟨WK2, hWK2⟩ : ∃ W, W3.alloc (.cells #[.slice none 0 0] 73) = W := ⟨_, rfl⟩
            have zK2 : WK2.heap.size = M + 1 := by rw [← hWK2]; simp [hM]
            have hcb := cnt_bd zs
            obtain ⟨c, hcc⟩ : ∃ c : Nat, (cntN zs).toNat = c := ⟨_, rfl⟩
            have hcI : cntN zs = (c : Int) := by omega
            have hc2 : c ≤ 2000 := by omega
            obtain ⟨i1, hi1, hy0, hy1, hy2⟩ := info_parts Try.infoLJ
            obtain ⟨i0, hi0, hz0, hz1, hz2⟩ := info_parts Try.infoJ
            rw [hWK2]
            refine range_call rfl (by decide) rfl trivial (enters_of Try.func65 (by kernel_rfl) rfl) (fun W => ∃ av ds lo, WkC 73 W3 M av lo W ∧ AlR .i32 21 32 M zs c av ds W) (fun _ _ => False) ?call2 ?done2 ?stop2
            case stop2 => intro W2 lo c h; exact h.elim
            case call2 =>
              intro fn hfn
              simp only [zK2, List.append_toArray, List.cons_append, List.nil_append, Nat.add_assoc, Nat.reduceAdd, Nat.reduceSub]
              refine callsIn_rec ?_
              intro lo0 hlo0
              have hst : WkC 73 W3 M (.slice none 0 0) lo0 ((WK2.alloc (.deferred (some []))).alloc (.loop lo0)) := by rw [← hWK2]; exact WkC.start 73 W3 hM _ _
              have hKp : ∀ kv lo1 W, WkC 73 W3 M kv lo1 W → WkF .i32 32 w left zs o b (.slice po n pc) u (b + 2) W := fun kv lo1 W h => hF3.keep (fun q hq => h.oth q (by omega)) h.os h.tape h.output (by have := h.lt; omega)
              have hF2 := hKp _ _ _ hst
              refine CallsIn.mono (all1J (M + 2) b (M + 3) u zs (by rw [HN.out]; exact hzl) (fun k W => ∃ av ds, WkC 73 W3 M av lo0 W ∧ AlR .i32 21 32 M zs k av ds W) (fun _ => False) ?hJ ?hY _ (by simp [zK2]) (by omega) hF2.bas hF2.cnt hF2.ru (fun g hg => by have := hF2.ub g hg; omega) (fun ob => ⟨.slice none 0 0, [], hst.grow (r := none) (fun g hg => by cases hg) (World.grownBy_alloc _ _ _), ⟨World.ownsRow_nil _ _ _ _, fun i hi => absurd hi (Nat.not_lt_zero _)⟩⟩)) ?fin
              case hJ =>
                rintro k A B' ⟨av, ds, h1, h2⟩ hRR hg
                exact ⟨av, ds, h1.grow (fun g hg' => by have := Option.some.inj hg'; omega) hg, h2.blocks (fun g q1 q2 => hg.block g q2 (fun e => by have := Option.some.inj e; omega))⟩
              case fin =>
                rintro e W2 ⟨hx, ⟨av, ds, h1, h2⟩ | h⟩
                · rw [hcc] at h2
                  exact ⟨hx, none, by rw [h1.rcd, hlo0]; rfl, h1.dfr, av, ds, lo0, h1, h2⟩
                · exact h.elim
              case hY =>
                rintro k A W d hkc ⟨av, ds, hCA, hRA2⟩ hRA bA hO
                obtain ⟨lo', hlo'⟩ : ∃ lo', lo0 = lo' := ⟨_, rfl⟩
                rw [hlo'] at hCA ⊢
                have hlo := hlo'.symm.trans hlo0
                clear hlo' hlo0 hst hF2
                have hkc' : k < c := by omega
                have hCW := hCA.grow (r := none) (fun g hg => by cases hg) (grown_of_below bA none)
                have hRW := hRA2.blocks (fun g q1 q2 => bA.block g q2)
                have hzW := bA.size
                obtain ⟨hone, hE0, hNp⟩ := cnt_pos (zs := zs) (by omega)
                obtain ⟨Go_, hGo⟩ : ∃ G : World → Prop, G = fun W' => (∃ av ds, WkC 73 W3 M av lo' W' ∧ AlR .i32 21 32 M zs (k + 1) av ds W') ∧ W.heap.size ≤ W'.heap.size ∧ W'.heap[b]? = W.heap[b]? ∧ W'.heap[b + 1]? = W.heap[b + 1]? ∧ W'.heap[M + 3]? = W.heap[M + 3]? ∧ ∀ g, u.ownBlock = some g → W'.heap[g]? = W.heap[g]? := ⟨_, rfl⟩
                refine (yield_round (Go_ := Go_) (Lv := fun _ _ => False) trivial hCW.rcd (by rw [hlo]; rfl) (by rw [hlo]; rfl) (by rw [hlo]; rfl) ?_).mono ?_
                case refine_2 =>
                  rintro e W' (⟨rfl, h⟩ | ⟨rfl, c', h⟩)
                  · rw [hGo] at h; exact .inl ⟨rfl, h⟩
                  · exact h.elim
                obtain ⟨ao, acap, rfl⟩ := hRA2.form
                obtain ⟨WB, hWB⟩ : ∃ X, W.putObj (M + 2) (.loop { lo' with state := .busy }) = X := ⟨_, rfl⟩
                have hcB : WkC 73 W3 M (.slice ao k acap) { lo' with state := .busy } WB := by rw [← hWB]; exact hCW.put _
                have hLB : ∀ q, q ≠ M + 2 → WB.heap[q]? = W.heap[q]? := fun q hq => by rw [← hWB]; exact World.putObj_heap_other hq
                have hzB : WB.heap.size = W.heap.size := by rw [← hWB]; simp
                have hFB := hKp _ _ _ hcB
                have hdlt := World.ownsRow.lt hO
                have halt := World.ownsRow.lt hRA2.row
                have hinD : inK .i32 (dgs zs k) := fun i hi => by
                  rw [dgs_len] at hi
                  have h1 := dig_bd zs k hone i hi
                  have h2 := hF3.ru.inK i hi
                  have h3 : IntKind.i32.min ≤ 0 := by decide
                  rw [dgs_get zs k i hi]; omega
                have hin64 : inK .i64 (dgs zs k) := inK_i64 hinD (by decide) (by decide)
                have rdB := (RK.of_own hO hinD).of_blocks (fun g hg => hLB g (by have := hdlt g hg; omega))
                obtain ⟨do_, dc, rfl, hdsl, -⟩ := hO.sl
                have hdE : dgE zs k = 0 := by unfold dgE; rw [if_neg (by simp [hE0]), if_neg (by omega)]
                have hrD := refDigits _ zs k WB hFB.rpv (by rw [HN.out]; omega) (by omega) (by omega)
                have cO : WB.cell? ⟨o, 0, none⟩ = some (.slice po n pc) := by simp [World.cell?, hFB.own]
                have HA : Hid (W.heap[M + 2]? = some (.loop lo')) := hCW.rcd
                have hlb := hF3.lb
                -- what a round leaves
                have HFIN : Hid (∀ (y3 y5 X : World) (ob : Obj) (v' : Value) (r : Option Nat), WkC 73 W3 M (.slice ao k acap) { lo' with state := .busy } y3 → W.heap.size ≤ y3.heap.size → (∀ q, q < W.heap.size → q ≠ M + 2 → y3.heap[q]? = W.heap[q]?) →
                    y5.ownsRow (M + 4) 32 1 v' (k + 1) (ds ++ [.slice do_ (dgs zs k).length dc]) → (y3.alloc ob).grownBy y5 (Value.ownBlock (.slice ao k acap)) → (r = none ∨ (r = Value.ownBlock (.slice do_ (dgs zs k).length dc) ∧ k % 2 = 0)) → (y5.setCell ⟨M, 0, none⟩ v').grownBy X r →
                    X.heap[M + 2]? = some (.loop { lo' with state := .busy }) ∧ Go_ (X.putObj (M + 2) (.loop lo'))) := fun y3 y5 X ob v' r hc3 hz3 hq3 ho5 hg5 hr hX => by
                  have hs3 : (y3.alloc ob).heap.size = y3.heap.size + 1 := by simp
                  have hz5 := hg5.size
                  have hz6 : (y5.setCell ⟨M, 0, none⟩ v').heap.size = y5.heap.size := by simp [World.setCell]
                  have hzX := hX.size
                  have hl3 := hc3.lt
                  have hc5 : WkC 73 W3 M (.slice ao k acap) { lo' with state := .busy } y5 := (hc3.grow (r := none) (fun g hg => by cases hg) (World.grownBy_alloc _ _ _)).grow (fun g hg => by have := halt g hg; omega) hg5
                  have hrl : ∀ q, r = some q → A.heap.size ≤ q := fun q hq => by
                    rcases hr with h | ⟨h, _⟩
                    · rw [h] at hq; cases hq
                    · rw [h] at hq; exact (hdlt q hq).1
                  have hcX := (hc5.set v').grow (fun g hg => by have := hrl g hg; omega) hX
                  have h5 : ∀ q, q < W.heap.size → q ≠ M + 2 → some q ≠ Value.ownBlock (.slice ao k acap) → y5.heap[q]? = W.heap[q]? := fun q h1 h2 h3 => by rw [hg5.block q (by omega) h3, Below.heap_alloc _ _ _ (by omega)]; exact hq3 q h1 h2
                  have hAX := AlR.next (e := 21) (t := 32) (by decide) hRA2 hRA bA hO (fun q h1 h2 h3 => h5 q h1 (by omega) h3) ho5 hr hX (by omega)
                  have hq : ∀ q, q < M + 4 → q ≠ M → q ≠ M + 2 → (X.putObj (M + 2) (.loop lo')).heap[q]? = W.heap[q]? := fun q h1 h2 h3 => by
                    rw [World.putObj_heap_other h3, hX.block q (by omega) (fun e => by have := hrl q e.symm; omega), Below.heap_setCell _ _ _ _ h2]
                    exact h5 q (by omega) h3 (fun e => by have := halt q e.symm; omega)
                  refine ⟨hcX.rcd, ?_⟩
                  rw [hGo]
                  exact ⟨⟨v', _, hcX.put _, hAX.blocks (fun g q1 q2 => World.putObj_heap_other (by omega))⟩, by simp; omega, hq _ (by omega) (by omega) (by omega), hq _ (by omega) (by omega) (by omega), hq _ (by omega) (by omega) (by omega), fun g hg => hq g (by have := hF3.ub g hg; omega) (by have := hF3.ub g hg; omega) (by have := hF3.ub g hg; omega)⟩
                have HOD : Hid (∀ (y3 y5 : World) (ob : Obj) (v' : Value), W.heap.size ≤ y3.heap.size → (∀ q, q < W.heap.size → q ≠ M + 2 → y3.heap[q]? = W.heap[q]?) → (y3.alloc ob).grownBy y5 (Value.ownBlock (.slice ao k acap)) → OwnK .i32 A.heap.size 21 (y5.setCell ⟨M, 0, none⟩ v') (.slice do_ (dgs zs k).length dc) (dgs zs k)) := fun y3 y5 ob v' hz3 hq3 hg5 => by
                  have hs3 : (y3.alloc ob).heap.size = y3.heap.size + 1 := by simp
                  refine own_blocks hO fun g hg => ?_
                  have hgl := hdlt g hg
                  rw [Below.heap_setCell _ _ _ _ (show g ≠ M by omega), hg5.block g (by omega) (fun e => own_apart hO hRW.row (by decide) g hg e.symm), Below.heap_alloc _ _ _ (by omega)]
                  exact hq3 g hgl.2 (by omega)
                have HAF : Hid (∀ (y3 : World), W.heap.size ≤ y3.heap.size → (∀ q, q < W.heap.size → q ≠ M + 2 → y3.heap[q]? = W.heap[q]?) → y3.ownsRow (M + 4) 32 1 (.slice ao k acap) k ds) := fun y3 hz3 hq3 => own_blocks hRW.row fun g hg => hq3 g (by have := halt g hg; omega) (by have := halt g hg; omega)
                have HCM : Hid (∀ (y3 y5 : World) (ob : Obj), WkC 73 W3 M (.slice ao k acap) { lo' with state := .busy } y3 → (y3.alloc ob).grownBy y5 (Value.ownBlock (.slice ao k acap)) → y5.cell? ⟨M, 0, none⟩ = some (.slice ao k acap) ∧ y5.frozen? ⟨M, 0, none⟩ = false) := fun y3 y5 ob hc3 hg5 => by
                  have hc5 : WkC 73 W3 M (.slice ao k acap) { lo' with state := .busy } y5 := (hc3.grow (r := none) (fun g hg => by cases hg) (World.grownBy_alloc _ _ _)).grow (fun g hg => by have := halt g hg; omega) hg5
                  exact ⟨by simp [World.cell?, hc5.kbx], frozen_of_row y5 _ 0 _ _ hc5.kbx⟩
                have hAz : M + 4 ≤ A.heap.size := by omega
                rw [dgs_len, HN.out] at rdB HFIN HOD hdsl ⊢
                have HDS : Hid (0 < n → ∃ g, A.heap.size ≤ g ∧ do_ = some ⟨g, 0, none⟩) := hdsl
                have HDL : Hid (∀ g, Value.ownBlock (.slice do_ n dc) = some g → A.heap.size ≤ g) := fun g hg => by
                  have := hdlt g (by rw [dgs_len, HN.out]; exact hg); exact this.1
                clear hGo hCA hCW hRA bA hO hdlt hFB hinD hRA2 hRW halt hdsl
                have hzl44 : n ≤ 17592186043904 := hzl
                subst hlo
                dsimp only [recOf] at HA HFIN HCM hcB hWB ⊢
                gi_wp2_with fail
                refine ⟨HA.out, ?_⟩
                (try rw [hWB])
                clear hWB HA
                gi_wp2_with fail
                refine ⟨trivial, ?_⟩
                refine (CallsIn.inRound _ (callsIn_wide.2 hrD)).mono ?_
                intro e y2 hdg
                obtain ⟨g, rfl, -, hrow, b2⟩ := hdg.yes hdE
                have rw2 : RK .i64 y2 (.slice (some ⟨g, 0, none⟩) n n) (dgs zs k) := by
                  have := RK.of_row (cap := n) hrow hin64 (by rw [dgs_len, HN.out]; exact Nat.le_refl _) (by unfold maxLen; omega)
                  rw [dgs_len, HN.out] at this; exact this
                rw [HN.out]
                have rd2 := rdB.below (Nat.le_refl _) b2
                have hc2' := hcB.grow (r := none) (fun g hg => by cases hg) (grown_of_below b2 none)
                have hzy2 := b2.size
                have hL2 : ∀ q, q < W.heap.size → q ≠ M + 2 → y2.heap[q]? = W.heap[q]? := fun q h1 h2 => by rw [b2.block _ (by omega)]; exact hLB q h2
                have cA2 : y2.cell? ⟨M, 0, none⟩ = some (.slice ao k acap) := by simp [World.cell?, hc2'.kbx]
                have hkk : ((k : Int) != (k : Int)) = false := by simp
                clear hdg hrow b2 hcB hrD rdB hLB cO
                gi_wp2_with fail
                refine ⟨trivial, ?_⟩
                refine (CallsIn.inRound _ (callsIn_wide.2 (sameJ _ _ (dgs zs k) y2 rd2 rw2))).mono ?_
                rintro e y3 ⟨rfl, q, rfl⟩
                have b3 := below_drewR (Below.refl y2.heap.size y2) q
                generalize y2.drewN q = y3 at *
                have hc3 := hc2'.grow (r := none) (fun g hg => by cases hg) (grown_of_below b3 none)
                have hzy3 : W.heap.size ≤ y3.heap.size := by have := b3.size; omega
                have hL3 : ∀ q, q < W.heap.size → q ≠ M + 2 → y3.heap[q]? = W.heap[q]? := fun q h1 h2 => by rw [b3.block _ (by omega)]; exact hL2 q h1 h2
                have cA3 : y3.cell? ⟨M, 0, none⟩ = some (.slice ao k acap) := by simp [World.cell?, hc3.kbx]
                have hrow3 := HAF.out y3 hzy3 hL3
                have hB3 : ∀ ob, M + 4 ≤ (y3.alloc ob).heap.size := fun ob => by simp; omega
                have HF3 : Hid _ := fun y5 X ob v' r => HFIN.out y3 y5 X ob v' r hc3 hzy3 hL3
                have HO3 : Hid _ := fun y5 ob v' => HOD.out y3 y5 ob v' hzy3 hL3
                have HM3 : Hid _ := fun y5 ob => HCM.out y3 y5 ob hc3
                clear b3 hc2' hL2 cA2 rd2 rw2 hc3 HFIN HOD HCM HAF
                by_cases hpar : k % 2 = 0
                case neg =>
                  have hem : (k : Int) % 2 = 1 := by omega
                  have htm : (k : Int).tmod 2 = 1 := by rw [Int.tmod_eq_emod_of_nonneg (by omega)]; exact hem
                  gi_wp2_with (gi_at_builtin; refine wpListIn_append_own _ rfl _ _ 73 rfl (M + 4) 32 i1 (.slice none 0 0) 1 24 Try.underlying73 hi1 hy0 hy1 hy2 rfl (by decide) _ k ds rfl (hrow3.alloc _) ⟨y3.heap.size, 0, none⟩ 1 1 [.slice do_ n dc] rfl rfl (cell_oneR _ _ _) (fun x hx => by simp at hx; subst hx; rfl) (by unfold maxLen; omega) (by omega) (hB3 _) ?_; intro v' y5 ho5 hg5 _; obtain ⟨g', cap', rfl⟩ := ownsRow_succ ho5; obtain ⟨cM5, fM5⟩ := HM3.out y5 _ hg5; have HX : Hid _ := HF3.out y5 _ _ _ none ho5 hg5 (.inl rfl) (grown_refl _ _); clear ho5 hg5)
                  exact HX.out
                case pos =>
                  have hem : (k : Int) % 2 = 0 := by omega
                  have htm : (k : Int).tmod 2 = 0 := by rw [Int.tmod_eq_emod_of_nonneg (by omega)]; exact hem
                  gi_wp2_with (gi_at_builtin; refine wpListIn_append_own _ rfl _ _ 73 rfl (M + 4) 32 i1 (.slice none 0 0) 1 24 Try.underlying73 hi1 hy0 hy1 hy2 rfl (by decide) _ k ds rfl (hrow3.alloc _) ⟨y3.heap.size, 0, none⟩ 1 1 [.slice do_ n dc] rfl rfl (cell_oneR _ _ _) (fun x hx => by simp at hx; subst hx; rfl) (by unfold maxLen; omega) (by omega) (hB3 _) ?_; intro v' y5 ho5 hg5 _; obtain ⟨g', cap', rfl⟩ := ownsRow_succ ho5; obtain ⟨cM5, fM5⟩ := HM3.out y5 _ hg5; have HX : Hid _ := fun X => HF3.out y5 X _ _ (Value.ownBlock (.slice do_ n dc)) ho5 hg5 (.inr ⟨rfl, hpar⟩); have hod := HO3.out y5 _ (.slice (some ⟨g', 0, none⟩) (k + 1) cap') hg5; have hyz := hg5.size; clear ho5 hg5)
                  have hlenD : (dgs zs k).length = n := by rw [dgs_len, HN.out]
                  have hyA : A.heap.size ≤ (y5.setCell ⟨M, 0, none⟩ (.slice (some ⟨g', 0, none⟩) (k + 1) cap')).heap.size := by
                    rw [World.size_alloc] at hyz
                    simp [World.setCell]; omega
                  generalize y5.setCell ⟨M, 0, none⟩ (.slice (some ⟨g', 0, none⟩) (k + 1) cap') = y6 at *
                  clear cM5 fM5 cA3 hrow3 HM3 HO3 HF3 hL3 hyz
                  gi_loopw [23] (fun t wx => ∃ i : Nat, i ≤ n ∧ t = .int .i64 i ∧ (∃ L : List Int, L.length = n ∧ OwnK .i32 A.heap.size 21 wx (.slice do_ n dc) L) ∧ y6.grownBy wx (Value.ownBlock (.slice do_ n dc))) (fun t _ => n - (intOf t).toNat)
                  case atStart => exact ⟨0, Nat.zero_le _, rfl, ⟨_, hlenD, hod⟩, grown_refl _ _⟩
                  case round =>
                    clear hod hlenD
                    obtain ⟨i, hin, rfl, ⟨L, hL, hOL⟩, hgr⟩ := hrel
                    by_cases hlt : i < n
                    · have hltI : (i : Int) < (n : Int) := by omega
                      obtain ⟨gd, -, rfl⟩ := HDS.out (by omega)
                      obtain ⟨⟨z, c0⟩, f0⟩ := hOL.cell (i := i) (by omega)
                      have hst := hOL.set hL i 0
                      have HST : Hid ((∃ L : List Int, L.length = n ∧ OwnK .i32 A.heap.size 21 (wr.setCell ⟨gd, i, none⟩ (.int .i32 0)) (.slice (some ⟨gd, 0, none⟩) n dc) L) ∧ y6.grownBy (wr.setCell ⟨gd, i, none⟩ (.int .i32 0)) (Value.ownBlock (.slice (some ⟨gd, 0, none⟩) n dc))) := ⟨⟨_, by rw [List.length_set]; exact hL, hst.1⟩, grown_trans hgr hst.2⟩
                      clear hst hOL hgr hL
                      gi_wp2
                      go_roundw
                      case rel => exact ⟨i + 1, by omega, by go_num, HST.out.1, HST.out.2⟩
                      case measure => simp [intOf]; omega
                    · have hltI : ¬ (i : Int) < (n : Int) := by omega
                      have hlg : LgC A.heap.size 21 y6 (Value.ownBlock (.slice do_ n dc)) n 0 (.slice do_ n dc) wr := ⟨⟨_, by have := hOL; unfold OwnK at this; rw [hL] at this; exact this⟩, hgr, .inl rfl⟩
                      obtain ⟨xs, hrw⟩ := hlg.row
                      have HLG : Hid (LgC A.heap.size 21 y6 (Value.ownBlock (.slice do_ n dc)) n 0 (.slice do_ n dc) wr) := hlg
                      have HRW : Hid (wr.ownsRow A.heap.size 21 1 (.slice do_ n dc) n xs) := hrw
                      have hB4 : ∀ ob, A.heap.size ≤ (wr.alloc ob).heap.size := fun ob => by have := hgr.size; simp; omega
                      clear hlg hrw hOL hgr hL
                      gi_wp2_with (gi_at_builtin; refine wpListIn_pushR _ rfl _ _ 32 rfl A.heap.size 21 i0 (.int .i32 0) 4 Try.underlying32 hi0 hz0 hz1 hz2 rfl _ n xs rfl (HRW.out.alloc _) ⟨wr.heap.size, 0, none⟩ 1 1 [.int .i32 5] rfl rfl (cell_oneR _ _ _) (fun x hx => by simp at hx; subst hx; rfl) (by decide) (by unfold maxLen; omega) (by omega) (hB4 _) ?_)
                      intro v1 z1 ho1 hg1 hb1
                      have L1 := HLG.out.push ho1 hg1 (by simpa using hb1)
                      obtain ⟨xs1, hrw1⟩ := L1.row
                      have HL1 : Hid (LgC A.heap.size 21 y6 (Value.ownBlock (.slice do_ n dc)) n 1 v1 z1) := L1
                      have HR1 : Hid (z1.ownsRow A.heap.size 21 1 v1 (n + 1) xs1) := hrw1
                      have hB5 : ∀ ob, A.heap.size ≤ (z1.alloc ob).heap.size := fun ob => by have := L1.grn.size; simp; omega
                      clear ho1 hg1 hb1 L1 hrw1 HLG HRW
                      gi_wp2_with (gi_at_builtin; refine wpListIn_pushR _ rfl _ _ 32 rfl A.heap.size 21 i0 (.int .i32 0) 4 Try.underlying32 hi0 hz0 hz1 hz2 rfl _ (n + 1) xs1 rfl (HR1.out.alloc _) ⟨z1.heap.size, 0, none⟩ 1 1 [.int .i32 5] rfl rfl (cell_oneR _ _ _) (fun x hx => by simp at hx; subst hx; rfl) (by decide) (by unfold maxLen; omega) (by omega) (hB5 _) ?_)
                      intro v2 z2' ho2 hg2 hb2
                      have L2 := HL1.out.push ho2 hg2 (by simpa using hb2)
                      have HZ : Hid _ := HX.out _ L2.grn
                      clear ho2 hg2 hb2 L2 HL1 HR1 HX
                      gi_wp2
                      exact HZ.out
            case done2 =>
              rintro W4 lo ⟨av, ds, lo2, hC, hRl⟩ hdf hlt
              rw [zK2] at hdf hlt ⊢
              have h5 := hC.put lo
              have hR5 := hRl.blocks (W' := W4.putObj (M + 2) (.loop lo)) (fun g q1 q2 => World.putObj_heap_other (by omega))
              show Exit.inBlock 6 _ _ _ (W4.putObj (M + 2) (.loop lo))
              generalize W4.putObj (M + 2) (.loop lo) = W5 at *
              have hF5 : WkF .i32 32 w left zs o b (.slice po n pc) u (b + 2) W5 := hF3.keep (fun q hq => h5.oth q (by omega)) h5.os h5.tape h5.output (by have := h5.lt; omega)
              have hD15 : W5.heap[b + 3]? = some (.deferred (some [])) := by rw [h5.oth _ (by omega)]; exact hD1
              obtain ⟨ao, acap, rfl⟩ := hR5.form
              have cA : W5.cell? ⟨M, 0, none⟩ = some (.slice ao c acap) := by simp [World.cell?, h5.kbx]
              have cO : W5.cell? ⟨o, 0, none⟩ = some (.slice po n pc) := by simp [World.cell?, hF5.own]
              have cR : W5.cell? ⟨w.heap.size + 1, 0, none⟩ = some (.bool false) := by simp [World.cell?, hF5.res]
              have hrs := hF5.res
              have HB : Hid (W5.heap[M + 1]? = some (.deferred (some [])) ∧ W5.heap[b + 3]? = some (.deferred (some [])) ∧ Below w.heap.size w W5 ∧ w.heap.size + 1 < o ∧ o + 1 < b ∧ M + 2 < W5.heap.size) := ⟨h5.dfr, hD15, hF5.bel, hF5.lo, hF5.lb, h5.lt⟩
              have HRP : Hid (RK .i64 W5 (.slice po n pc) zs) := hF5.rpv
              have HRU : Hid (inK .i32 zs) := hF5.ru.inK
              have HAL : Hid (AlR .i32 21 32 M zs c (.slice ao c acap) ds W5) := hR5
              have hce : ((c : Int) == cntN zs) = true := by rw [hcI]; simp
              have HCP : Hid (0 < cntN zs → (∀ z ∈ zs, 1 ≤ z) ∧ cntE zs = 0 ∧ cntN zs = pr zs) := @cnt_pos zs
              have HCI : Hid (cntN zs = (c : Int)) := hcI
              clear hC hRl hdf hlt h5 hR5 hF5 hF3 hD1 hD15 hE hcb hcc hcI
              gi_wp2_with fail
              gi_loopw [24] (fun t wx => ∃ j : Nat, t = .int .i64 ((2 * j + 1 : Nat) : Int) ∧ 2 * j + 1 ≤ c + 2 ∧ Below W5.heap.size W5 wx) (fun t _ => c + 2 - (intOf t).toNat)
              case atStart => exact ⟨0, rfl, by omega, Below.refl _ _⟩
              case round =>
                obtain ⟨j, rfl, hjc, hbx⟩ := hrel
                have cA' := keepR hbx cA
                have cO' := keepR hbx cO
                have cR' := keepR hbx cR
                obtain ⟨i, hij⟩ : ∃ i, 2 * j + 1 = i := ⟨_, rfl⟩
                rw [hij] at hjc ⊢
                have hio : i % 2 = 1 := by omega
                by_cases hlt : i < c
                · have hltI : (i : Int) < (c : Int) := by omega
                  obtain ⟨hone, hE0, -⟩ := HCP.out (by rw [HCI.out]; omega)
                  have hdE : dgE zs i = 0 := by unfold dgE; rw [if_neg (by simp [hE0]), if_neg (by rw [HCI.out]; omega)]
                  have hinD : inK .i32 (dgs zs i) := fun x hx => by
                    rw [dgs_len] at hx
                    have h1 := dig_bd zs i hone x hx
                    have h2 := HRU.out x hx
                    have h3 : IntKind.i32.min ≤ 0 := by decide
                    rw [dgs_get zs i x hx]; omega
                  have hin64 : inK .i64 (dgs zs i) := inK_i64 hinD (by decide) (by decide)
                  obtain ⟨dv, hdv, hodv⟩ := HAL.out.odd i hlt hio
                  have rdv := (RK.of_own hodv hinD).below (Nat.le_refl _) hbx
                  obtain ⟨vo_, vc_, rfl, -⟩ := hodv.sl
                  rw [dgs_len, HN.out] at hdv rdv
                  have hga : ∃ ga, ao = some ⟨ga, 0, none⟩ := by
                    rcases HAL.out.row.2 with ⟨h, h0⟩ | ⟨ga, cap', cur, h, _⟩
                    · omega
                    · simp only [Value.slice.injEq] at h; exact ⟨ga, h.1⟩
                  obtain ⟨ga, rfl⟩ := hga
                  have cI : wr.cell? ⟨ga, i, none⟩ = some (.slice vo_ n vc_) := by
                    have := World.ownsRow.cellAt HAL.out.row i (by rw [Nat.mul_one]; exact hlt)
                    rw [hdv] at this
                    exact keepR hbx this
                  have hrD := (callsIn_wide (n := 3)).2 (refDigits _ zs i wr (HRP.out.below (Nat.le_refl _) hbx) (by rw [HN.out]; omega) (by omega) (by omega))
                  gi_wp2_with fail
                  refine ⟨trivial, ?_⟩
                  refine hrD.mono ?_
                  intro e y2 hdg
                  obtain ⟨g, rfl, -, hrow, b2⟩ := hdg.yes hdE
                  have rw2 : RK .i64 y2 (.slice (some ⟨g, 0, none⟩) n n) (dgs zs i) := by
                    have := RK.of_row (cap := n) hrow hin64 (by rw [dgs_len, HN.out]; exact Nat.le_refl _) (by unfold maxLen; omega)
                    rw [dgs_len, HN.out] at this; exact this
                  rw [HN.out]
                  have rd2 := rdv.below (Nat.le_refl _) b2
                  have cA2 := keepR b2 cA'
                  have cI2 := keepR b2 cI
                  have hb2 := bstepR hbx b2
                  clear hdg hrow b2 hrD rdv hdv hodv hinD hin64 cA' cO' cR' cI hbx hone
                  gi_wp2_with fail
                  refine ⟨trivial, ?_⟩
                  refine ((callsIn_wide (n := 3)).2 (sameJ _ _ (dgs zs i) y2 rd2 rw2)).mono ?_
                  rintro e y3 ⟨rfl, q, rfl⟩
                  have HB3 : Hid (Below W5.heap.size W5 (y2.drewN q)) := below_drewR hb2 q
                  generalize y2.drewN q = y3 at *
                  clear rd2 rw2 cA2 cI2 hb2
                  gi_wp2
                  go_roundw
                  case rel => exact ⟨j + 1, by rw [← hij]; go_num, by omega, HB3.out⟩
                  case measure => simp [intOf]; omega
                · have hltI : ¬ (i : Int) < (c : Int) := by omega
                  have hrs' : wr.heap[w.heap.size + 1]? = some (.cells #[.bool false] 4 (0, 0)) := by
                    rw [hbx.block _ (Array.getElem?_eq_some_iff.1 hrs).1]; exact hrs
                  have fR' : wr.frozen? ⟨w.heap.size + 1, 0, none⟩ = false := frozen_of_row wr _ 0 _ _ hrs'
                  have HBX : Hid (Below W5.heap.size W5 wr) := hbx
                  clear hbx hij cO'
                  gi_wp2
                  obtain ⟨e1, e2, e3, e4, e5, e6⟩ := HB.out
                  have f1 : (wr.setCell ⟨w.heap.size + 1, 0, none⟩ (.bool true)).heap[M + 1]? = some (.deferred (some [])) := by rw [Below.heap_setCell _ _ _ _ (show M + 1 ≠ w.heap.size + 1 by omega), HBX.out.block _ (by omega)]; exact e1
                  have f2 : ((wr.setCell ⟨w.heap.size + 1, 0, none⟩ (.bool true)).putObj (M + 1) (.deferred none)).heap[b + 3]? = some (.deferred (some [])) := by rw [World.putObj_heap_other (show b + 3 ≠ M + 1 by omega), Below.heap_setCell _ _ _ _ (show b + 3 ≠ w.heap.size + 1 by omega), HBX.out.block _ (by omega)]; exact e2
                  refine ⟨by simp, .inl ⟨_, _, rfl, run_takeDeferred f1, ⟨by simp, .inl ⟨_, _, rfl, run_takeDeferred f2, ?_⟩⟩⟩⟩
                  refine ⟨_, results_c1 (p := 4) rfl _ _ (w.heap.size + 1) (.bool true) _ rfl ?_ Try.underlying4 rfl, rfl, ((((e3.trans (HBX.out.mono e3.size)).setCell (p := ⟨w.heap.size + 1, 0, none⟩) (Nat.le_succ _) _).trans (below_putR _ (by omega))).trans (below_putR _ (by omega)))⟩
                  rw [World.cell?_of_block (World.putObj_heap_other (show w.heap.size + 1 ≠ b + 3 by omega)), World.cell?_of_block (World.putObj_heap_other (show w.heap.size + 1 ≠ M + 1 by omega))]
                  exact World.cell?_setCell_same' _ _ _ (by rw [cR']; rfl)
          case stop =>
            rintro W2 lo c ⟨rfl, kv, lo2, hC⟩ hdf hlt
            rw [zK] at hdf hlt ⊢
            have h4 := hC.put lo
            show Code.wpIn _ _ _ _ _ _ (W2.putObj (b + 2 + 2) (.loop lo))
            generalize W2.putObj (b + 2 + 2) (.loop lo) = W3 at *
            have hF3 : WkF .i32 32 w left zs o b (.slice po n pc) u (b + 2) W3 := hF.keep h4.oth h4.os h4.tape h4.output (by have := h4.lt; omega)
            have hD1 := h4.dfr
            have hN2 := h4.lt
            obtain ⟨M, hM⟩ : ∃ M, W3.heap.size = M := ⟨_, rfl⟩
            rw [hM] at hN2
            clear hC hdf hlt h4 hF
            gi_wp2_with fail
            obtain ⟨WK2, hWK2⟩ : ∃ W, W3.alloc (.cells #[.slice none 0 0] 73) = W := ⟨_, rfl⟩
            have zK2 : WK2.heap.size = M + 1 := by rw [← hWK2]; simp [hM]
            have hcb := cnt_bd zs
            obtain ⟨c, hcc⟩ : ∃ c : Nat, (cntN zs).toNat = c := ⟨_, rfl⟩
            have hcI : cntN zs = (c : Int) := by omega
            have hc2 : c ≤ 2000 := by omega
            obtain ⟨i1, hi1, hy0, hy1, hy2⟩ := info_parts Try.infoLJ
            obtain ⟨i0, hi0, hz0, hz1, hz2⟩ := info_parts Try.infoJ
            rw [hWK2]
            refine range_call rfl (by decide) rfl trivial (enters_of Try.func65 (by kernel_rfl) rfl) (fun W => ∃ av ds lo, WkC 73 W3 M av lo W ∧ AlR .i32 21 32 M zs c av ds W) (fun _ _ => False) ?call2 ?done2 ?stop2
            case stop2 => intro W2 lo c h; exact h.elim
            case call2 =>
              intro fn hfn
              simp only [zK2, List.append_toArray, List.cons_append, List.nil_append, Nat.add_assoc, Nat.reduceAdd, Nat.reduceSub]
              refine callsIn_rec ?_
              intro lo0 hlo0
              have hst : WkC 73 W3 M (.slice none 0 0) lo0 ((WK2.alloc (.deferred (some []))).alloc (.loop lo0)) := by rw [← hWK2]; exact WkC.start 73 W3 hM _ _
              have hKp : ∀ kv lo1 W, WkC 73 W3 M kv lo1 W → WkF .i32 32 w left zs o b (.slice po n pc) u (b + 2) W := fun kv lo1 W h => hF3.keep (fun q hq => h.oth q (by omega)) h.os h.tape h.output (by have := h.lt; omega)
              have hF2 := hKp _ _ _ hst
              refine CallsIn.mono (all1J (M + 2) b (M + 3) u zs (by rw [HN.out]; exact hzl) (fun k W => ∃ av ds, WkC 73 W3 M av lo0 W ∧ AlR .i32 21 32 M zs k av ds W) (fun _ => False) ?hJ ?hY _ (by simp [zK2]) (by omega) hF2.bas hF2.cnt hF2.ru (fun g hg => by have := hF2.ub g hg; omega) (fun ob => ⟨.slice none 0 0, [], hst.grow (r := none) (fun g hg => by cases hg) (World.grownBy_alloc _ _ _), ⟨World.ownsRow_nil _ _ _ _, fun i hi => absurd hi (Nat.not_lt_zero _)⟩⟩)) ?fin
              case hJ =>
                rintro k A B' ⟨av, ds, h1, h2⟩ hRR hg
                exact ⟨av, ds, h1.grow (fun g hg' => by have := Option.some.inj hg'; omega) hg, h2.blocks (fun g q1 q2 => hg.block g q2 (fun e => by have := Option.some.inj e; omega))⟩
              case fin =>
                rintro e W2 ⟨hx, ⟨av, ds, h1, h2⟩ | h⟩
                · rw [hcc] at h2
                  exact ⟨hx, none, by rw [h1.rcd, hlo0]; rfl, h1.dfr, av, ds, lo0, h1, h2⟩
                · exact h.elim
              case hY =>
                rintro k A W d hkc ⟨av, ds, hCA, hRA2⟩ hRA bA hO
                obtain ⟨lo', hlo'⟩ : ∃ lo', lo0 = lo' := ⟨_, rfl⟩
                rw [hlo'] at hCA ⊢
                have hlo := hlo'.symm.trans hlo0
                clear hlo' hlo0 hst hF2
                have hkc' : k < c := by omega
                have hCW := hCA.grow (r := none) (fun g hg => by cases hg) (grown_of_below bA none)
                have hRW := hRA2.blocks (fun g q1 q2 => bA.block g q2)
                have hzW := bA.size
                obtain ⟨hone, hE0, hNp⟩ := cnt_pos (zs := zs) (by omega)
                obtain ⟨Go_, hGo⟩ : ∃ G : World → Prop, G = fun W' => (∃ av ds, WkC 73 W3 M av lo' W' ∧ AlR .i32 21 32 M zs (k + 1) av ds W') ∧ W.heap.size ≤ W'.heap.size ∧ W'.heap[b]? = W.heap[b]? ∧ W'.heap[b + 1]? = W.heap[b + 1]? ∧ W'.heap[M + 3]? = W.heap[M + 3]? ∧ ∀ g, u.ownBlock = some g → W'.heap[g]? = W.heap[g]? := ⟨_, rfl⟩
                refine (yield_round (Go_ := Go_) (Lv := fun _ _ => False) trivial hCW.rcd (by rw [hlo]; rfl) (by rw [hlo]; rfl) (by rw [hlo]; rfl) ?_).mono ?_
                case refine_2 =>
                  rintro e W' (⟨rfl, h⟩ | ⟨rfl, c', h⟩)
                  · rw [hGo] at h; exact .inl ⟨rfl, h⟩
                  · exact h.elim
                obtain ⟨ao, acap, rfl⟩ := hRA2.form
                obtain ⟨WB, hWB⟩ : ∃ X, W.putObj (M + 2) (.loop { lo' with state := .busy }) = X := ⟨_, rfl⟩
                have hcB : WkC 73 W3 M (.slice ao k acap) { lo' with state := .busy } WB := by rw [← hWB]; exact hCW.put _
                have hLB : ∀ q, q ≠ M + 2 → WB.heap[q]? = W.heap[q]? := fun q hq => by rw [← hWB]; exact World.putObj_heap_other hq
                have hzB : WB.heap.size = W.heap.size := by rw [← hWB]; simp
                have hFB := hKp _ _ _ hcB
                have hdlt := World.ownsRow.lt hO
                have halt := World.ownsRow.lt hRA2.row
                have hinD : inK .i32 (dgs zs k) := fun i hi => by
                  rw [dgs_len] at hi
                  have h1 := dig_bd zs k hone i hi
                  have h2 := hF3.ru.inK i hi
                  have h3 : IntKind.i32.min ≤ 0 := by decide
                  rw [dgs_get zs k i hi]; omega
                have hin64 : inK .i64 (dgs zs k) := inK_i64 hinD (by decide) (by decide)
                have rdB := (RK.of_own hO hinD).of_blocks (fun g hg => hLB g (by have := hdlt g hg; omega))
                obtain ⟨do_, dc, rfl, hdsl, -⟩ := hO.sl
                have hdE : dgE zs k = 0 := by unfold dgE; rw [if_neg (by simp [hE0]), if_neg (by omega)]
                have hrD := refDigits _ zs k WB hFB.rpv (by rw [HN.out]; omega) (by omega) (by omega)
                have cO : WB.cell? ⟨o, 0, none⟩ = some (.slice po n pc) := by simp [World.cell?, hFB.own]
                have HA : Hid (W.heap[M + 2]? = some (.loop lo')) := hCW.rcd
                have hlb := hF3.lb
                -- what a round leaves
                have HFIN : Hid (∀ (y3 y5 X : World) (ob : Obj) (v' : Value) (r : Option Nat), WkC 73 W3 M (.slice ao k acap) { lo' with state := .busy } y3 → W.heap.size ≤ y3.heap.size → (∀ q, q < W.heap.size → q ≠ M + 2 → y3.heap[q]? = W.heap[q]?) →
                    y5.ownsRow (M + 4) 32 1 v' (k + 1) (ds ++ [.slice do_ (dgs zs k).length dc]) → (y3.alloc ob).grownBy y5 (Value.ownBlock (.slice ao k acap)) → (r = none ∨ (r = Value.ownBlock (.slice do_ (dgs zs k).length dc) ∧ k % 2 = 0)) → (y5.setCell ⟨M, 0, none⟩ v').grownBy X r →
                    X.heap[M + 2]? = some (.loop { lo' with state := .busy }) ∧ Go_ (X.putObj (M + 2) (.loop lo'))) := fun y3 y5 X ob v' r hc3 hz3 hq3 ho5 hg5 hr hX => by
                  have hs3 : (y3.alloc ob).heap.size = y3.heap.size + 1 := by simp
                  have hz5 := hg5.size
                  have hz6 : (y5.setCell ⟨M, 0, none⟩ v').heap.size = y5.heap.size := by simp [World.setCell]
                  have hzX := hX.size
                  have hl3 := hc3.lt
                  have hc5 : WkC 73 W3 M (.slice ao k acap) { lo' with state := .busy } y5 := (hc3.grow (r := none) (fun g hg => by cases hg) (World.grownBy_alloc _ _ _)).grow (fun g hg => by have := halt g hg; omega) hg5
                  have hrl : ∀ q, r = some q → A.heap.size ≤ q := fun q hq => by
                    rcases hr with h | ⟨h, _⟩
                    · rw [h] at hq; cases hq
                    · rw [h] at hq; exact (hdlt q hq).1
                  have hcX := (hc5.set v').grow (fun g hg => by have := hrl g hg; omega) hX
                  have h5 : ∀ q, q < W.heap.size → q ≠ M + 2 → some q ≠ Value.ownBlock (.slice ao k acap) → y5.heap[q]? = W.heap[q]? := fun q h1 h2 h3 => by rw [hg5.block q (by omega) h3, Below.heap_alloc _ _ _ (by omega)]; exact hq3 q h1 h2
                  have hAX := AlR.next (e := 21) (t := 32) (by decide) hRA2 hRA bA hO (fun q h1 h2 h3 => h5 q h1 (by omega) h3) ho5 hr hX (by omega)
                  have hq : ∀ q, q < M + 4 → q ≠ M → q ≠ M + 2 → (X.putObj (M + 2) (.loop lo')).heap[q]? = W.heap[q]? := fun q h1 h2 h3 => by
                    rw [World.putObj_heap_other h3, hX.block q (by omega) (fun e => by have := hrl q e.symm; omega), Below.heap_setCell _ _ _ _ h2]
                    exact h5 q (by omega) h3 (fun e => by have := halt q e.symm; omega)
                  refine ⟨hcX.rcd, ?_⟩
                  rw [hGo]
                  exact ⟨⟨v', _, hcX.put _, hAX.blocks (fun g q1 q2 => World.putObj_heap_other (by omega))⟩, by simp; omega, hq _ (by omega) (by omega) (by omega), hq _ (by omega) (by omega) (by omega), hq _ (by omega) (by omega) (by omega), fun g hg => hq g (by have := hF3.ub g hg; omega) (by have := hF3.ub g hg; omega) (by have := hF3.ub g hg; omega)⟩
                have HOD : Hid (∀ (y3 y5 : World) (ob : Obj) (v' : Value), W.heap.size ≤ y3.heap.size → (∀ q, q < W.heap.size → q ≠ M + 2 → y3.heap[q]? = W.heap[q]?) → (y3.alloc ob).grownBy y5 (Value.ownBlock (.slice ao k acap)) → OwnK .i32 A.heap.size 21 (y5.setCell ⟨M, 0, none⟩ v') (.slice do_ (dgs zs k).length dc) (dgs zs k)) := fun y3 y5 ob v' hz3 hq3 hg5 => by
                  have hs3 : (y3.alloc ob).heap.size = y3.heap.size + 1 := by simp
                  refine own_blocks hO fun g hg => ?_
                  have hgl := hdlt g hg
                  rw [Below.heap_setCell _ _ _ _ (show g ≠ M by omega), hg5.block g (by omega) (fun e => own_apart hO hRW.row (by decide) g hg e.symm), Below.heap_alloc _ _ _ (by omega)]
                  exact hq3 g hgl.2 (by omega)
                have HAF : Hid (∀ (y3 : World), W.heap.size ≤ y3.heap.size → (∀ q, q < W.heap.size → q ≠ M + 2 → y3.heap[q]? = W.heap[q]?) → y3.ownsRow (M + 4) 32 1 (.slice ao k acap) k ds) := fun y3 hz3 hq3 => own_blocks hRW.row fun g hg => hq3 g (by have := halt g hg; omega) (by have := halt g hg; omega)
                have HCM : Hid (∀ (y3 y5 : World) (ob : Obj), WkC 73 W3 M (.slice ao k acap) { lo' with state := .busy } y3 → (y3.alloc ob).grownBy y5 (Value.ownBlock (.slice ao k acap)) → y5.cell? ⟨M, 0, none⟩ = some (.slice ao k acap) ∧ y5.frozen? ⟨M, 0, none⟩ = false) := fun y3 y5 ob hc3 hg5 => by
                  have hc5 : WkC 73 W3 M (.slice ao k acap) { lo' with state := .busy } y5 := (hc3.grow (r := none) (fun g hg => by cases hg) (World.grownBy_alloc _ _ _)).grow (fun g hg => by have := halt g hg; omega) hg5
                  exact ⟨by simp [World.cell?, hc5.kbx], frozen_of_row y5 _ 0 _ _ hc5.kbx⟩
                have hAz : M + 4 ≤ A.heap.size := by omega
                rw [dgs_len, HN.out] at rdB HFIN HOD hdsl ⊢
                have HDS : Hid (0 < n → ∃ g, A.heap.size ≤ g ∧ do_ = some ⟨g, 0, none⟩) := hdsl
                have HDL : Hid (∀ g, Value.ownBlock (.slice do_ n dc) = some g → A.heap.size ≤ g) := fun g hg => by
                  have := hdlt g (by rw [dgs_len, HN.out]; exact hg); exact this.1
                clear hGo hCA hCW hRA bA hO hdlt hFB hinD hRA2 hRW halt hdsl
                have hzl44 : n ≤ 17592186043904 := hzl
                subst hlo
                dsimp only [recOf] at HA HFIN HCM hcB hWB ⊢
                gi_wp2_with fail
                refine ⟨HA.out, ?_⟩
                (try rw [hWB])
                clear hWB HA
                gi_wp2_with fail
                refine ⟨trivial, ?_⟩
                refine (CallsIn.inRound _ (callsIn_wide.2 hrD)).mono ?_
                intro e y2 hdg
                obtain ⟨g, rfl, -, hrow, b2⟩ := hdg.yes hdE
                have rw2 : RK .i64 y2 (.slice (some ⟨g, 0, none⟩) n n) (dgs zs k) := by
                  have := RK.of_row (cap := n) hrow hin64 (by rw [dgs_len, HN.out]; exact Nat.le_refl _) (by unfold maxLen; omega)
                  rw [dgs_len, HN.out] at this; exact this
                rw [HN.out]
                have rd2 := rdB.below (Nat.le_refl _) b2
                have hc2' := hcB.grow (r := none) (fun g hg => by cases hg) (grown_of_below b2 none)
                have hzy2 := b2.size
                have hL2 : ∀ q, q < W.heap.size → q ≠ M + 2 → y2.heap[q]? = W.heap[q]? := fun q h1 h2 => by rw [b2.block _ (by omega)]; exact hLB q h2
                have cA2 : y2.cell? ⟨M, 0, none⟩ = some (.slice ao k acap) := by simp [World.cell?, hc2'.kbx]
                have hkk : ((k : Int) != (k : Int)) = false := by simp
                clear hdg hrow b2 hcB hrD rdB hLB cO
                gi_wp2_with fail
                refine ⟨trivial, ?_⟩
                refine (CallsIn.inRound _ (callsIn_wide.2 (sameJ _ _ (dgs zs k) y2 rd2 rw2))).mono ?_
                rintro e y3 ⟨rfl, q, rfl⟩
                have b3 := below_drewR (Below.refl y2.heap.size y2) q
                generalize y2.drewN q = y3 at *
                have hc3 := hc2'.grow (r := none) (fun g hg => by cases hg) (grown_of_below b3 none)
                have hzy3 : W.heap.size ≤ y3.heap.size := by have := b3.size; omega
                have hL3 : ∀ q, q < W.heap.size → q ≠ M + 2 → y3.heap[q]? = W.heap[q]? := fun q h1 h2 => by rw [b3.block _ (by omega)]; exact hL2 q h1 h2
                have cA3 : y3.cell? ⟨M, 0, none⟩ = some (.slice ao k acap) := by simp [World.cell?, hc3.kbx]
                have hrow3 := HAF.out y3 hzy3 hL3
                have hB3 : ∀ ob, M + 4 ≤ (y3.alloc ob).heap.size := fun ob => by simp; omega
                have HF3 : Hid _ := fun y5 X ob v' r => HFIN.out y3 y5 X ob v' r hc3 hzy3 hL3
                have HO3 : Hid _ := fun y5 ob v' => HOD.out y3 y5 ob v' hzy3 hL3
                have HM3 : Hid _ := fun y5 ob => HCM.out y3 y5 ob hc3
                clear b3 hc2' hL2 cA2 rd2 rw2 hc3 HFIN HOD HCM HAF
                by_cases hpar : k % 2 = 0
                case neg =>
                  have hem : (k : Int) % 2 = 1 := by omega
                  have htm : (k : Int).tmod 2 = 1 := by rw [Int.tmod_eq_emod_of_nonneg (by omega)]; exact hem
                  gi_wp2_with (gi_at_builtin; refine wpListIn_append_own _ rfl _ _ 73 rfl (M + 4) 32 i1 (.slice none 0 0) 1 24 Try.underlying73 hi1 hy0 hy1 hy2 rfl (by decide) _ k ds rfl (hrow3.alloc _) ⟨y3.heap.size, 0, none⟩ 1 1 [.slice do_ n dc] rfl rfl (cell_oneR _ _ _) (fun x hx => by simp at hx; subst hx; rfl) (by unfold maxLen; omega) (by omega) (hB3 _) ?_; intro v' y5 ho5 hg5 _; obtain ⟨g', cap', rfl⟩ := ownsRow_succ ho5; obtain ⟨cM5, fM5⟩ := HM3.out y5 _ hg5; have HX : Hid _ := HF3.out y5 _ _ _ none ho5 hg5 (.inl rfl) (grown_refl _ _); clear ho5 hg5)
                  exact HX.out
                case pos =>
                  have hem : (k : Int) % 2 = 0 := by omega
                  have htm : (k : Int).tmod 2 = 0 := by rw [Int.tmod_eq_emod_of_nonneg (by omega)]; exact hem
                  gi_wp2_with (gi_at_builtin; refine wpListIn_append_own _ rfl _ _ 73 rfl (M + 4) 32 i1 (.slice none 0 0) 1 24 Try.underlying73 hi1 hy0 hy1 hy2 rfl (by decide) _ k ds rfl (hrow3.alloc _) ⟨y3.heap.size, 0, none⟩ 1 1 [.slice do_ n dc] rfl rfl (cell_oneR _ _ _) (fun x hx => by simp at hx; subst hx; rfl) (by unfold maxLen; omega) (by omega) (hB3 _) ?_; intro v' y5 ho5 hg5 _; obtain ⟨g', cap', rfl⟩ := ownsRow_succ ho5; obtain ⟨cM5, fM5⟩ := HM3.out y5 _ hg5; have HX : Hid _ := fun X => HF3.out y5 X _ _ (Value.ownBlock (.slice do_ n dc)) ho5 hg5 (.inr ⟨rfl, hpar⟩); have hod := HO3.out y5 _ (.slice (some ⟨g', 0, none⟩) (k + 1) cap') hg5; have hyz := hg5.size; clear ho5 hg5)
                  have hlenD : (dgs zs k).length = n := by rw [dgs_len, HN.out]
                  have hyA : A.heap.size ≤ (y5.setCell ⟨M, 0, none⟩ (.slice (some ⟨g', 0, none⟩) (k + 1) cap')).heap.size := by
                    rw [World.size_alloc] at hyz
                    simp [World.setCell]; omega
                  generalize y5.setCell ⟨M, 0, none⟩ (.slice (some ⟨g', 0, none⟩) (k + 1) cap') = y6 at *
                  clear cM5 fM5 cA3 hrow3 HM3 HO3 HF3 hL3 hyz
                  gi_loopw [23] (fun t wx => ∃ i : Nat, i ≤ n ∧ t = .int .i64 i ∧ (∃ L : List Int, L.length = n ∧ OwnK .i32 A.heap.size 21 wx (.slice do_ n dc) L) ∧ y6.grownBy wx (Value.ownBlock (.slice do_ n dc))) (fun t _ => n - (intOf t).toNat)
                  case atStart => exact ⟨0, Nat.zero_le _, rfl, ⟨_, hlenD, hod⟩, grown_refl _ _⟩
                  case round =>
                    clear hod hlenD
                    obtain ⟨i, hin, rfl, ⟨L, hL, hOL⟩, hgr⟩ := hrel
                    by_cases hlt : i < n
                    · have hltI : (i : Int) < (n : Int) := by omega
                      obtain ⟨gd, -, rfl⟩ := HDS.out (by omega)
                      obtain ⟨⟨z, c0⟩, f0⟩ := hOL.cell (i := i) (by omega)
                      have hst := hOL.set hL i 0
                      have HST : Hid ((∃ L : List Int, L.length = n ∧ OwnK .i32 A.heap.size 21 (wr.setCell ⟨gd, i, none⟩ (.int .i32 0)) (.slice (some ⟨gd, 0, none⟩) n dc) L) ∧ y6.grownBy (wr.setCell ⟨gd, i, none⟩ (.int .i32 0)) (Value.ownBlock (.slice (some ⟨gd, 0, none⟩) n dc))) := ⟨⟨_, by rw [List.length_set]; exact hL, hst.1⟩, grown_trans hgr hst.2⟩
                      clear hst hOL hgr hL
                      gi_wp2
                      go_roundw
                      case rel => exact ⟨i + 1, by omega, by go_num, HST.out.1, HST.out.2⟩
                      case measure => simp [intOf]; omega
                    · have hltI : ¬ (i : Int) < (n : Int) := by omega
                      have hlg : LgC A.heap.size 21 y6 (Value.ownBlock (.slice do_ n dc)) n 0 (.slice do_ n dc) wr := ⟨⟨_, by have := hOL; unfold OwnK at this; rw [hL] at this; exact this⟩, hgr, .inl rfl⟩
                      obtain ⟨xs, hrw⟩ := hlg.row
                      have HLG : Hid (LgC A.heap.size 21 y6 (Value.ownBlock (.slice do_ n dc)) n 0 (.slice do_ n dc) wr) := hlg
                      have HRW : Hid (wr.ownsRow A.heap.size 21 1 (.slice do_ n dc) n xs) := hrw
                      have hB4 : ∀ ob, A.heap.size ≤ (wr.alloc ob).heap.size := fun ob => by have := hgr.size; simp; omega
                      clear hlg hrw hOL hgr hL
                      gi_wp2_with (gi_at_builtin; refine wpListIn_pushR _ rfl _ _ 32 rfl A.heap.size 21 i0 (.int .i32 0) 4 Try.underlying32 hi0 hz0 hz1 hz2 rfl _ n xs rfl (HRW.out.alloc _) ⟨wr.heap.size, 0, none⟩ 1 1 [.int .i32 5] rfl rfl (cell_oneR _ _ _) (fun x hx => by simp at hx; subst hx; rfl) (by decide) (by unfold maxLen; omega) (by omega) (hB4 _) ?_)
                      intro v1 z1 ho1 hg1 hb1
                      have L1 := HLG.out.push ho1 hg1 (by simpa using hb1)
                      obtain ⟨xs1, hrw1⟩ := L1.row
                      have HL1 : Hid (LgC A.heap.size 21 y6 (Value.ownBlock (.slice do_ n dc)) n 1 v1 z1) := L1
                      have HR1 : Hid (z1.ownsRow A.heap.size 21 1 v1 (n + 1) xs1) := hrw1
                      have hB5 : ∀ ob, A.heap.size ≤ (z1.alloc ob).heap.size := fun ob => by have := L1.grn.size; simp; omega
                      clear ho1 hg1 hb1 L1 hrw1 HLG HRW
                      gi_wp2_with (gi_at_builtin; refine wpListIn_pushR _ rfl _ _ 32 rfl A.heap.size 21 i0 (.int .i32 0) 4 Try.underlying32 hi0 hz0 hz1 hz2 rfl _ (n + 1) xs1 rfl (HR1.out.alloc _) ⟨z1.heap.size, 0, none⟩ 1 1 [.int .i32 5] rfl rfl (cell_oneR _ _ _) (fun x hx => by simp at hx; subst hx; rfl) (by decide) (by unfold maxLen; omega) (by omega) (hB5 _) ?_)
                      intro v2 z2' ho2 hg2 hb2
                      have L2 := HL1.out.push ho2 hg2 (by simpa using hb2)
                      have HZ : Hid _ := HX.out _ L2.grn
                      clear ho2 hg2 hb2 L2 HL1 HR1 HX
                      gi_wp2
                      exact HZ.out
            case done2 =>
              rintro W4 lo ⟨av, ds, lo2, hC, hRl⟩ hdf hlt
              rw [zK2] at hdf hlt ⊢
              have h5 := hC.put lo
              have hR5 := hRl.blocks (W' := W4.putObj (M + 2) (.loop lo)) (fun g q1 q2 => World.putObj_heap_other (by omega))
              show Exit.inBlock 6 _ _ _ (W4.putObj (M + 2) (.loop lo))
              generalize W4.putObj (M + 2) (.loop lo) = W5 at *
              have hF5 : WkF .i32 32 w left zs o b (.slice po n pc) u (b + 2) W5 := hF3.keep (fun q hq => h5.oth q (by omega)) h5.os h5.tape h5.output (by have := h5.lt; omega)
              have hD15 : W5.heap[b + 3]? = some (.deferred (some [])) := by rw [h5.oth _ (by omega)]; exact hD1
              obtain ⟨ao, acap, rfl⟩ := hR5.form
              have cA : W5.cell? ⟨M, 0, none⟩ = some (.slice ao c acap) := by simp [World.cell?, h5.kbx]
              have cO : W5.cell? ⟨o, 0, none⟩ = some (.slice po n pc) := by simp [World.cell?, hF5.own]
              have cR : W5.cell? ⟨w.heap.size + 1, 0, none⟩ = some (.bool false) := by simp [World.cell?, hF5.res]
              have hrs := hF5.res
              have HB : Hid (W5.heap[M + 1]? = some (.deferred (some [])) ∧ W5.heap[b + 3]? = some (.deferred (some [])) ∧ Below w.heap.size w W5 ∧ w.heap.size + 1 < o ∧ o + 1 < b ∧ M + 2 < W5.heap.size) := ⟨h5.dfr, hD15, hF5.bel, hF5.lo, hF5.lb, h5.lt⟩
              have HRP : Hid (RK .i64 W5 (.slice po n pc) zs) := hF5.rpv
              have HRU : Hid (inK .i32 zs) := hF5.ru.inK
              have HAL : Hid (AlR .i32 21 32 M zs c (.slice ao c acap) ds W5) := hR5
              have hce : ((c : Int) == cntN zs) = true := by rw [hcI]; simp
              have HCP : Hid (0 < cntN zs → (∀ z ∈ zs, 1 ≤ z) ∧ cntE zs = 0 ∧ cntN zs = pr zs) := @cnt_pos zs
              have HCI : Hid (cntN zs = (c : Int)) := hcI
              clear hC hRl hdf hlt h5 hR5 hF5 hF3 hD1 hD15 hE hcb hcc hcI
              gi_wp2_with fail
              gi_loopw [24] (fun t wx => ∃ j : Nat, t = .int .i64 ((2 * j + 1 : Nat) : Int) ∧ 2 * j + 1 ≤ c + 2 ∧ Below W5.heap.size W5 wx) (fun t _ => c + 2 - (intOf t).toNat)
              case atStart => exact ⟨0, rfl, by omega, Below.refl _ _⟩
              case round =>
                obtain ⟨j, rfl, hjc, hbx⟩ := hrel
                have cA' := keepR hbx cA
                have cO' := keepR hbx cO
                have cR' := keepR hbx cR
                obtain ⟨i, hij⟩ : ∃ i, 2 * j + 1 = i := ⟨_, rfl⟩
                rw [hij] at hjc ⊢
                have hio : i % 2 = 1 := by omega
                by_cases hlt : i < c
                · have hltI : (i : Int) < (c : Int) := by omega
                  obtain ⟨hone, hE0, -⟩ := HCP.out (by rw [HCI.out]; omega)
                  have hdE : dgE zs i = 0 := by unfold dgE; rw [if_neg (by simp [hE0]), if_neg (by rw [HCI.out]; omega)]
                  have hinD : inK .i32 (dgs zs i) := fun x hx => by
                    rw [dgs_len] at hx
                    have h1 := dig_bd zs i hone x hx
                    have h2 := HRU.out x hx
                    have h3 : IntKind.i32.min ≤ 0 := by decide
                    rw [dgs_get zs i x hx]; omega
                  have hin64 : inK .i64 (dgs zs i) := inK_i64 hinD (by decide) (by decide)
                  obtain ⟨dv, hdv, hodv⟩ := HAL.out.odd i hlt hio
                  have rdv := (RK.of_own hodv hinD).below (Nat.le_refl _) hbx
                  obtain ⟨vo_, vc_, rfl, -⟩ := hodv.sl
                  rw [dgs_len, HN.out] at hdv rdv
                  have hga : ∃ ga, ao = some ⟨ga, 0, none⟩ := by
                    rcases HAL.out.row.2 with ⟨h, h0⟩ | ⟨ga, cap', cur, h, _⟩
                    · omega
                    · simp only [Value.slice.injEq] at h; exact ⟨ga, h.1⟩
                  obtain ⟨ga, rfl⟩ := hga
                  have cI : wr.cell? ⟨ga, i, none⟩ = some (.slice vo_ n vc_) := by
                    have := World.ownsRow.cellAt HAL.out.row i (by rw [Nat.mul_one]; exact hlt)
                    rw [hdv] at this
                    exact keepR hbx this
                  have hrD := (callsIn_wide (n := 3)).2 (refDigits _ zs i wr (HRP.out.below (Nat.le_refl _) hbx) (by rw [HN.out]; omega) (by omega) (by omega))
                  gi_wp2_with fail
                  refine ⟨trivial, ?_⟩
                  refine hrD.mono ?_
                  intro e y2 hdg
                  obtain ⟨g, rfl, -, hrow, b2⟩ := hdg.yes hdE
                  have rw2 : RK .i64 y2 (.slice (some ⟨g, 0, none⟩) n n) (dgs zs i) := by
                    have := RK.of_row (cap := n) hrow hin64 (by rw [dgs_len, HN.out]; exact Nat.le_refl _) (by unfold maxLen; omega)
                    rw [dgs_len, HN.out] at this; exact this
                  rw [HN.out]
                  have rd2 := rdv.below (Nat.le_refl _) b2
                  have cA2 := keepR b2 cA'
                  have cI2 := keepR b2 cI
                  have hb2 := bstepR hbx b2
                  clear hdg hrow b2 hrD rdv hdv hodv hinD hin64 cA' cO' cR' cI hbx hone
                  gi_wp2_with fail
                  refine ⟨trivial, ?_⟩
                  refine ((callsIn_wide (n := 3)).2 (sameJ _ _ (dgs zs i) y2 rd2 rw2)).mono ?_
                  rintro e y3 ⟨rfl, q, rfl⟩
                  have HB3 : Hid (Below W5.heap.size W5 (y2.drewN q)) := below_drewR hb2 q
                  generalize y2.drewN q = y3 at *
                  clear rd2 rw2 cA2 cI2 hb2
                  gi_wp2
                  go_roundw
                  case rel => exact ⟨j + 1, by rw [← hij]; go_num, by omega, HB3.out⟩
                  case measure => simp [intOf]; omega
                · have hltI : ¬ (i : Int) < (c : Int) := by omega
                  have hrs' : wr.heap[w.heap.size + 1]? = some (.cells #[.bool false] 4 (0, 0)) := by
                    rw [hbx.block _ (Array.getElem?_eq_some_iff.1 hrs).1]; exact hrs
                  have fR' : wr.frozen? ⟨w.heap.size + 1, 0, none⟩ = false := frozen_of_row wr _ 0 _ _ hrs'
                  have HBX : Hid (Below W5.heap.size W5 wr) := hbx
                  clear hbx hij cO'
                  gi_wp2
                  obtain ⟨e1, e2, e3, e4, e5, e6⟩ := HB.out
                  have f1 : (wr.setCell ⟨w.heap.size + 1, 0, none⟩ (.bool true)).heap[M + 1]? = some (.deferred (some [])) := by rw [Below.heap_setCell _ _ _ _ (show M + 1 ≠ w.heap.size + 1 by omega), HBX.out.block _ (by omega)]; exact e1
                  have f2 : ((wr.setCell ⟨w.heap.size + 1, 0, none⟩ (.bool true)).putObj (M + 1) (.deferred none)).heap[b + 3]? = some (.deferred (some [])) := by rw [World.putObj_heap_other (show b + 3 ≠ M + 1 by omega), Below.heap_setCell _ _ _ _ (show b + 3 ≠ w.heap.size + 1 by omega), HBX.out.block _ (by omega)]; exact e2
                  refine ⟨by simp, .inl ⟨_, _, rfl, run_takeDeferred f1, ⟨by simp, .inl ⟨_, _, rfl, run_takeDeferred f2, ?_⟩⟩⟩⟩
                  refine ⟨_, results_c1 (p := 4) rfl _ _ (w.heap.size + 1) (.bool true) _ rfl ?_ Try.underlying4 rfl, rfl, ((((e3.trans (HBX.out.mono e3.size)).setCell (p := ⟨w.heap.size + 1, 0, none⟩) (Nat.le_succ _) _).trans (below_putR _ (by omega))).trans (below_putR _ (by omega)))⟩
                  rw [World.cell?_of_block (World.putObj_heap_other (show w.heap.size + 1 ≠ b + 3 by omega)), World.cell?_of_block (World.putObj_heap_other (show w.heap.size + 1 ≠ M + 1 by omega))]
                  exact World.cell?_setCell_same' _ _ _ (by rw [cR']; rfl)
end Go.Proofs.Ytfanomoijjjcmaa

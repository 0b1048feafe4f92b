/-
  Proved here: what Scan of package lex answers.
-/
import Derived.Test.YtlemnbegblpllaaDoorLexScC
import Derived.Maps.AppendAt
import Derived.Lib.SmallJoins
namespace Go.Proofs.YtlemnbegblpllaaDoor
open Go.RowKit Go.Shelf
attribute [local go_sem] Oper.semAt_some

theorem Tryd.infoTok : (Tryd.prog.info? 38).map (fun i => (i.zero, i.size, i.bytes)) = some (some (.agg #[.int .i8 0, .string ⟨#[]⟩, .int .i64 0, .int .i64 0]), 4, 40) := by kernel_rfl
/-- Results of two cells that hold one value each. -/
theorem results_c1c1 {P : Program} {fn : Func} {p q : Tmp} {ty ty2 : TypeId} (h : fn.results = #[.cell p ty, .cell q ty2]) (tmps : Array Value) (w : World) (g g2 : Nat) (v v2 : Value) (d d2 : TypeDesc)
    (hp : tmps.getD p undef = .pointer (some ⟨g, 0, none⟩)) (hg : w.cell? ⟨g, 0, none⟩ = some v) (hq : tmps.getD q undef = .pointer (some ⟨g2, 0, none⟩)) (hg2 : w.cell? ⟨g2, 0, none⟩ = some v2)
    (hu : P.underlying ty = some d) (hd : (match d with | .struct _ | .array _ _ => true | _ => false) = false) (hu2 : P.underlying ty2 = some d2) (hd2 : (match d2 with | .struct _ | .array _ _ => true | _ => false) = false) :
    (results fn tmps).run P w = .ok (.tuple #[v, v2]) w := by
  have hp' : tmps[p]?.getD undef = .pointer (some ⟨g, 0, none⟩) := by simpa using hp
  have hq' : tmps[q]?.getD undef = .pointer (some ⟨g2, 0, none⟩) := by simpa using hq
  simp [results, h, hp', hq', asAddr, loadVar, isAgg, underlying, hu, hu2, Result.andThen]
  cases d <;> cases d2 <;> simp_all
theorem tkc_news {w : World} {g : Nat} {a b c d : Value} (h : TkC w g a b c d) : ∀ j u, [a, b, c, d][j]? = some u → w.cell? ((⟨g, 0, none⟩ : Addr).add j) = some u := by
  obtain ⟨h0, h1, h2, h3⟩ := h.cells
  intro j u hj
  match j, hj with
  | 0, hj => simp only [List.getElem?_cons_zero, Option.some.injEq] at hj; subst hj; exact h0
  | 1, hj => simp only [List.getElem?_cons_succ, List.getElem?_cons_zero, Option.some.injEq] at hj; subst hj; exact h1
  | 2, hj => simp only [List.getElem?_cons_succ, List.getElem?_cons_zero, Option.some.injEq] at hj; subst hj; exact h2
  | 3, hj => simp only [List.getElem?_cons_succ, List.getElem?_cons_zero, Option.some.injEq] at hj; subst hj; exact h3
  | n + 4, hj => simp at hj
set_option maxRecDepth 100000 in
set_option maxHeartbeats 6400000 in
theorem scan_any (s : ByteArray) (m : Int) (w : World) (hz : s.size < 4294967281) (hm : w.cell? ⟨1, 0, none⟩ = some (.int .i64 m)) :
    Calls Tryd.prog 11 #[.string s] w (ScEnd w (allF s 0)) := by
  refine (callsIn_wide (n := 4)).1 ?_
  have hea := fun w => (callsIn_wide (n := 3)).2 (each_any s w)
  have hmb : 1 < w.heap.size := block_lt_of_cell hm
  refine callsIn_of_wp_marks Tryd.func11 rfl trivial ?_ rfl
  simp only [Tryd.ntmps11, List.size_toArray, List.length_cons, List.length_nil, Nat.reduceAdd, Nat.reduceSub, Array.replicate_succ, Array.replicate_zero, List.push_toArray, List.append_toArray, List.nil_append, List.cons_append]
  gi_wp2_with fail
  refine ⟨trivial, ?_⟩
  refine (hea _).mono ?_
  rintro e w2 ⟨rfl, rfl⟩
  gi_wp2_with fail
  clear hea
  obtain ⟨W0, hW0⟩ : ∃ W0, (((w.alloc (.cells #[.slice none 0 0] 23)).alloc (.cells #[.nilIface] 30)).alloc (.cells #[.slice none 0 0] 23)).alloc (.cells #[.string s] 9) = W0 := ⟨_, rfl⟩
  have hz0 : W0.heap.size = w.heap.size + 4 := by rw [← hW0]; simp
  rw [hW0]
  refine range_call rfl (by decide) rfl trivial (enters_of Tryd.func24 (by kernel_rfl) rfl) (fun W => ∃ lo outs, fltOf outs = none ∧ allF s 0 = outs ∧ ScC w w.heap.size lo outs W) (fun c W => c = .ret ∧ ∃ lo, ScX w w.heap.size s lo W) ?call ?done ?stop
  case call =>
    intro fn hfn
    have hbx : ∀ o o', ((W0.alloc o).alloc o').cell? ⟨w.heap.size + 3, 0, none⟩ = some (.string s) := by
      intro o o'
      refine keepB2 (bstep1 (belowA1 _ _) (belowA1 _ _)) ?_
      rw [← hW0]
      rw [World.cell?_alloc_at _ _ _ _ (by simp)]; rfl
    simp only [hz0, List.append_toArray, List.cons_append, List.nil_append, Nat.add_assoc, Nat.reduceAdd, Nat.reduceSub]
    refine CallsIn.mono (scan_each s m hz w w.heap.size rfl _ ?tok ?flt _ (by simp [hz0]) hm (hbx _ _) (sc_start hW0 _)) ?fin
    case fin =>
      rintro e W2 ⟨hv, ⟨outs, h1, h2, h3⟩ | hx⟩
      · exact ⟨hv, none, h3.rcd, h3.dfr, _, outs, h1, h2, h3⟩
      · exact ⟨hv, some .ret, hx.rcd, hx.dfr, rfl, _, hx⟩
    case tok =>
      intro lo' hlo i outs W1 v k ms li co j hp hn hc hv hr h6
      obtain ⟨Go_, hGo⟩ : ∃ G : World → Prop, G = fun W' => ScC w w.heap.size lo' (outs ++ [.tok k ms li co j]) W' ∧ W1.heap.size ≤ W'.heap.size ∧ ∀ k, k < W1.heap.size → k ≠ w.heap.size + 2 → k ≠ w.heap.size + 5 → some k ≠ v.ownBlock → W'.heap[k]? = W1.heap[k]? := ⟨_, rfl⟩
      refine (yield_round (Go_ := Go_) (Lv := fun _ _ => False) trivial hc.rcd (by rw [hlo]; rfl) (by rw [hlo]; rfl) (by rw [hlo]; rfl) ?_).mono ?_
      case refine_2 =>
        rintro e W' (⟨rfl, h⟩ | ⟨_, _, h⟩)
        · rw [hGo] at h; exact ⟨rfl, h⟩
        · exact h.elim
      obtain ⟨WA, hWA⟩ : ∃ WA, W1.alloc (.cells #[.int .i8 k, .string ms, .int .i64 (li : Int), .int .i64 (co : Int)] 38) = WA := ⟨_, rfl⟩
      have bA : Below W1.heap.size W1 WA := by rw [← hWA]; exact belowA1 _ _
      have zA : WA.heap.size = W1.heap.size + 1 := by rw [← hWA]; simp
      have hcA := hc.below bA
      have hTA : TkC WA W1.heap.size (.int .i8 k) (.string ms) (.int .i64 (li : Int)) (.int .i64 (co : Int)) := by rw [← hWA]; exact tkc_new _ rfl
      obtain ⟨WB, hWB⟩ : ∃ WB, WA.putObj (w.heap.size + 5) (.loop { lo' with state := .busy }) = WB := ⟨_, rfl⟩
      have hcB : ScC w w.heap.size { lo' with state := .busy } outs WB := by rw [← hWB]; exact hcA.put _
      have zB : WB.heap.size = W1.heap.size + 1 := by rw [← hWB]; simp [zA]
      have hkB : ∀ q, q < W1.heap.size → q ≠ w.heap.size + 5 → WB.heap[q]? = W1.heap[q]? := fun q h1 h2 => by
        rw [← hWB, World.putObj_heap_other h2, bA.block _ h1]
      have hTB : TkC WB W1.heap.size (.int .i8 k) (.string ms) (.int .i64 (li : Int)) (.int .i64 (co : Int)) := by
        have := hc.lt
        unfold TkC; rw [← hWB, World.putObj_heap_other (by omega)]; exact hTA
      have hvB : WB.heap[w.heap.size + 2]? = some (.cells #[v] 23 (0, 0)) := by
        have := hc.lt
        rw [hkB _ (by omega) (by omega)]; exact hv
      have hrB : WB.ownsRow (w.heap.size + 7) 38 4 v outs.length (outs.flatMap tokCells) := by
        rw [← hWB]
        exact ownsRow_putObj (hr.kept (Off.of (g := w.heap.size) bA) (.inr fun e => by have := (hr.lt _ e).1; omega)) _ hcA.rcd rfl
      have HA : Hid (WA.heap[w.heap.size + 5]? = some (.loop lo')) := hcA.rcd
      have HC : Hid (ScC w w.heap.size { lo' with state := .busy } outs WB) := hcB
      have HP : Hid (∀ X : World, ScC w w.heap.size { lo' with state := .busy } (outs ++ [.tok k ms li co j]) X → W1.heap.size ≤ X.heap.size → (∀ q, q < W1.heap.size → q ≠ w.heap.size + 2 → q ≠ w.heap.size + 5 → some q ≠ v.ownBlock → X.heap[q]? = W1.heap[q]?) → X.heap[w.heap.size + 5]? = some (.loop { lo' with state := .busy }) ∧ Go_ (X.putObj (w.heap.size + 5) (.loop lo'))) := by
        intro X h1 h2 h3
        refine ⟨h1.rcd, ?_⟩
        rw [hGo]
        exact ⟨h1.put _, by simpa using h2, fun q g1 g2 g3 g4 => by rw [World.putObj_heap_other g3]; exact h3 q g1 g2 g3 g4⟩
      have hlen := hp.len
      have hle := hp.le
      have hcv := World.cell?_of_block (w := WB) (w' := WB) (a := ⟨w.heap.size + 2, 0, none⟩) rfl
      obtain ⟨t0, t1, t2, t3⟩ := hTB.cells
      have cv : WB.cell? ⟨w.heap.size + 2, 0, none⟩ = some v := by simp [World.cell?, hvB]
      have fv : WB.frozen? ⟨w.heap.size + 2, 0, none⟩ = false := frozen_of_row WB _ 0 _ _ hvB
      clear hcv hcA hcB hTA bA zA hc hGo
      subst hlo
      dsimp only [recOf] at HA HC HP hWB ⊢
      gi_wp2_with fail
      refine ⟨HA.out, ?_⟩
      (try rw [hWB])
      clear hWB HA hWA
      obtain ⟨WC, hWC⟩ : ∃ WC, WC = WB.alloc (.cells #[.int .i8 k, .string ms, .int .i64 (li : Int), .int .i64 (co : Int)] 38) := ⟨_, rfl⟩
      have bC : Below WB.heap.size WB WC := by rw [hWC]; exact belowA1 _ _
      have zC : WC.heap.size = W1.heap.size + 2 := by rw [hWC]; simp [zB]
      have hTC : TkC WC (W1.heap.size + 1) (.int .i8 k) (.string ms) (.int .i64 (li : Int)) (.int .i64 (co : Int)) := by rw [hWC]; exact tkc_new _ zB
      have hrC : WC.ownsRow (w.heap.size + 7) 38 4 v outs.length (outs.flatMap tokCells) := by rw [hWC]; exact hrB.alloc _
      have hvC : WC.heap[w.heap.size + 2]? = some (.cells #[v] 23 (0, 0)) := by rw [bC.block _ (heap_lt hvB)]; exact hvB
      have HC2 : Hid (ScC w w.heap.size _ outs WC) := HC.out.below bC
      have hnews := tkc_news hTC
      have HWC : Hid (WB.alloc (.cells #[.int .i8 k, .string ms, .int .i64 (li : Int), .int .i64 (co : Int)] 38) = WC) := hWC.symm
      have hk7 : ∀ q, q < W1.heap.size → q ≠ w.heap.size + 5 → WC.heap[q]? = W1.heap[q]? := fun q h1 h2 => by rw [bC.block _ (by omega)]; exact hkB q h1 h2
      clear hWC HC hrB hvB hTC bC hkB hv hr
      have cvC : WC.cell? ⟨w.heap.size + 2, 0, none⟩ = some v := by simp [World.cell?, hvC]
      have fvC : WC.frozen? ⟨w.heap.size + 2, 0, none⟩ = false := frozen_of_row WC _ 0 _ _ hvC
      have hne2 : some (w.heap.size + 2) ≠ v.ownBlock := (fun e => by have := (hrC.lt _ e.symm).1; omega)
      have hlt2 := heap_lt hvC
      obtain ⟨i0, hi, hz00, hz1, hz2⟩ := info_parts Tryd.infoTok
      gi_wp2_with (gi_at_builtin; rw [HWC.out]; refine wpListIn_append_own _ rfl _ _ 23 rfl (w.heap.size + 7) 38 i0 _ 4 40 Tryd.underlying23 hi hz00 hz1 hz2 rfl (by decide) _ _ _ rfl hrC ⟨W1.heap.size + 1, 0, none⟩ 1 1 [.int .i8 k, .string ms, .int .i64 (li : Int), .int .i64 (co : Int)] rfl rfl hnews (by simp [Value.oneCell']) (by simp [maxLen]; omega) (by omega) (by omega) ?_; intro v' w1 hown' hgrow _; obtain ⟨g', cap', rfl⟩ := ownsRow_succ hown'; have hb2 := hgrow.block _ hlt2 hne2; have hc1 := (World.cell?_of_block (a := ⟨w.heap.size + 2, 0, none⟩) hb2).trans cvC; have hf1 := (World.frozen?_of_block (a := ⟨w.heap.size + 2, 0, none⟩) hb2).trans fvC)
      refine HP.out _ (HC2.out.grown hvC hrC hgrow hown') ?_ ?_
      · have := hgrow.size; simp [World.setCell]; omega
      · intro q h1 h2 h3 h4
        rw [Below.heap_setCell _ _ _ _ h2, hgrow.block _ (by omega) h4, hk7 q h1 h3]
    case flt =>
      intro lo' hlo i outs W1 c li co wd fb hp hn hc hfb hF
      refine (yield_round (Go_ := fun _ => False) (Lv := fun q W' => q = .ret ∧ ScX w w.heap.size s { lo' with state := .done, pending := some .ret } W') trivial hc.rcd (by rw [hlo]; rfl) (by rw [hlo]; rfl) (by rw [hlo]; rfl) ?_).mono ?_
      case refine_2 =>
        rintro e W' (⟨_, h⟩ | ⟨rfl, _, rfl, h⟩)
        · exact h.elim
        · exact ⟨rfl, h⟩
      obtain ⟨WA, hWA⟩ : ∃ WA, W1.alloc (.cells #[.int .i8 0, .string ⟨#[]⟩, .int .i64 0, .int .i64 0] 38) = WA := ⟨_, rfl⟩
      have bA : Below W1.heap.size W1 WA := by rw [← hWA]; exact belowA1 _ _
      have hcA := hc.below bA
      have hFA := hF.below bA
      obtain ⟨WB, hWB⟩ : ∃ WB, WA.putObj (w.heap.size + 5) (.loop { lo' with state := .busy }) = WB := ⟨_, rfl⟩
      have hcB : ScC w w.heap.size { lo' with state := .busy } outs WB := by rw [← hWB]; exact hcA.put _
      have hFB : FtC WB fb (.int .i64 c) (.int .i64 (li : Int)) (.int .i64 (co : Int)) (.string wd) := by rw [← hWB]; exact hFA.putLoop hcA.rcd _
      have hr0 := hcB.r0
      have hr1 := hcB.r1
      have hne0 : fb ≠ w.heap.size := fun e => by rw [e] at hFB; unfold FtC at hFB; rw [hr0] at hFB; cases hFB
      have hne1 : fb ≠ w.heap.size + 1 := fun e => by rw [e] at hFB; unfold FtC at hFB; rw [hr1] at hFB; cases hFB
      have c0 : WB.cell? ⟨w.heap.size, 0, none⟩ = some (.slice none 0 0) := by simp [World.cell?, hr0]
      have c1 : WB.cell? ⟨w.heap.size + 1, 0, none⟩ = some .nilIface := by simp [World.cell?, hr1]
      have f0 : WB.frozen? ⟨w.heap.size, 0, none⟩ = false := frozen_of_row WB _ 0 _ _ hr0
      have f1 : WB.frozen? ⟨w.heap.size + 1, 0, none⟩ = false := frozen_of_row WB _ 0 _ _ hr1
      obtain ⟨WZ, hWZ⟩ : ∃ WZ, WZ = (WB.setCell ⟨w.heap.size, 0, none⟩ (.slice none 0 0)).setCell ⟨w.heap.size + 1, 0, none⟩ (.iface 50 (.pointer (some ⟨fb, 0, none⟩))) := ⟨_, rfl⟩
      have hX : ScX w w.heap.size s { lo' with state := .busy } WZ := by
        rw [hWZ]
        have hs : ∀ q, q ≠ w.heap.size → q ≠ w.heap.size + 1 → ((WB.setCell ⟨w.heap.size, 0, none⟩ (.slice none 0 0)).setCell ⟨w.heap.size + 1, 0, none⟩ (.iface 50 (.pointer (some ⟨fb, 0, none⟩)))).heap[q]? = WB.heap[q]? := fun q h1 h2 => by rw [Below.heap_setCell _ _ _ _ h2, Below.heap_setCell _ _ _ _ h1]
        refine ⟨⟨outs, i, c, li, co, wd, fb, hp, hn, hfb, (hFB.set (p := ⟨w.heap.size, 0, none⟩) hne0 _).set (p := ⟨w.heap.size + 1, 0, none⟩) hne1 _, ?_⟩, ?_, by rw [hs _ (by omega) (by omega)]; exact hcB.rcd, by rw [hs _ (by omega) (by omega)]; exact hcB.dfr, (hcB.bel.setCell (p := ⟨w.heap.size, 0, none⟩) (Nat.le_refl _) _).setCell (p := ⟨w.heap.size + 1, 0, none⟩) (Nat.le_succ _) _⟩
        · rw [heap_setCell_same _ (w.heap.size + 1) 0 _ _ _ (by rw [Below.heap_setCell _ _ _ _ (show w.heap.size + 1 ≠ w.heap.size by omega)]; exact hr1)]; rfl
        · rw [Below.heap_setCell _ _ _ _ (show w.heap.size ≠ w.heap.size + 1 by omega), heap_setCell_same WB w.heap.size 0 _ _ _ hr0]; rfl
      have HX : Hid (WZ.heap[w.heap.size + 5]? = some (.loop { lo' with state := .busy }) ∧ (Code.ret = .ret ∧ ScX w w.heap.size s { lo' with state := .done, pending := some .ret } (WZ.putObj (w.heap.size + 5) (.loop { lo' with state := .done, pending := some .ret })))) := ⟨hX.rcd, rfl, hX.put _⟩
      have HWA : Hid (W1.alloc (.cells #[.int .i8 0, .string ⟨#[]⟩, .int .i64 0, .int .i64 0] 38) = WA) := hWA
      have HA : Hid (WA.heap[w.heap.size + 5]? = some (.loop lo')) := hcA.rcd
      have HZ : Hid (WZ = (WB.setCell ⟨w.heap.size, 0, none⟩ (.slice none 0 0)).setCell ⟨w.heap.size + 1, 0, none⟩ (.iface 50 (.pointer (some ⟨fb, 0, none⟩)))) := hWZ
      clear hWA hWZ hX hcA hcB hFA hFB hF hc bA hr0 hr1 hne0 hne1
      subst hlo
      dsimp only [recOf] at HA HX hWB ⊢
      gi_wp2_with fail
      rw [HWA.out]
      refine ⟨HA.out, ?_⟩
      (try rw [hWB])
      clear hWB HA HWA
      gi_wp2_with fail
      rw [← HZ.out]
      exact ⟨HX.out.1, rfl, HX.out.2.2⟩
  case done =>
    rintro W2 lo ⟨lo', outs, h1, h2, h3⟩ hdf hlt
    rw [hz0] at hdf hlt ⊢
    have h4 := h3.put lo
    show Exit.inBlock 0 _ _ _ (W2.putObj (w.heap.size + 5) (.loop lo))
    generalize W2.putObj (w.heap.size + 5) (.loop lo) = W3 at *
    obtain ⟨v, hv, hr⟩ := h4.row
    have hr0 := h4.r0
    have hr1 := h4.r1
    have c0 : W3.cell? ⟨w.heap.size, 0, none⟩ = some (.slice none 0 0) := by simp [World.cell?, hr0]
    have c1 : W3.cell? ⟨w.heap.size + 1, 0, none⟩ = some .nilIface := by simp [World.cell?, hr1]
    have c2 : W3.cell? ⟨w.heap.size + 2, 0, none⟩ = some v := by simp [World.cell?, hv]
    have f0 : W3.frozen? ⟨w.heap.size, 0, none⟩ = false := frozen_of_row W3 _ 0 _ _ hr0
    have f1 : W3.frozen? ⟨w.heap.size + 1, 0, none⟩ = false := frozen_of_row W3 _ 0 _ _ hr1
    have hdf3 := h4.dfr
    obtain ⟨ao, ln, cp, rfl⟩ : ∃ ao ln cp, v = .slice ao ln cp := by
      rcases Joins.ownsRow_forms hr with ⟨h, _⟩ | ⟨g, cap, h⟩
      · exact ⟨_, _, _, h⟩
      · exact ⟨_, _, _, h⟩
    gi_wp2
    have hdf4 : ((W3.setCell ⟨w.heap.size, 0, none⟩ (.slice ao ln cp)).setCell ⟨w.heap.size + 1, 0, none⟩ .nilIface).heap[w.heap.size + 4]? = some (.deferred (some [])) := by
      rw [Below.heap_setCell _ _ _ _ (show w.heap.size + 4 ≠ w.heap.size + 1 by omega), Below.heap_setCell _ _ _ _ (show w.heap.size + 4 ≠ w.heap.size by omega)]; exact hdf3
    refine ⟨by simp, .inl ⟨_, _, rfl, run_takeDeferred hdf4, ?_⟩⟩
    obtain ⟨W5, hW5⟩ : ∃ W5, W5 = ((W3.setCell ⟨w.heap.size, 0, none⟩ (.slice ao ln cp)).setCell ⟨w.heap.size + 1, 0, none⟩ .nilIface).putObj (w.heap.size + 4) (.deferred none) := ⟨_, rfl⟩
    have k0 : W5.cell? ⟨w.heap.size, 0, none⟩ = some (.slice ao ln cp) := by
      rw [hW5, World.cell?_of_block (World.putObj_heap_other (show w.heap.size ≠ w.heap.size + 4 by omega)), World.cell?_of_block (Below.heap_setCell _ _ _ _ (show w.heap.size ≠ w.heap.size + 1 by omega))]
      exact World.cell?_setCell_same' _ _ _ (by rw [c0]; rfl)
    have k1 : W5.cell? ⟨w.heap.size + 1, 0, none⟩ = some .nilIface := by
      rw [hW5, World.cell?_of_block (World.putObj_heap_other (show w.heap.size + 1 ≠ w.heap.size + 4 by omega))]
      refine World.cell?_setCell_same' _ _ _ ?_
      rw [World.cell?_of_block (Below.heap_setCell _ _ _ _ (show w.heap.size + 1 ≠ w.heap.size by omega)), c1]
      rfl
    have kb : Below w.heap.size w W5 := by
      rw [hW5]
      exact ((h4.bel.setCell (p := ⟨w.heap.size, 0, none⟩) (Nat.le_refl _) _).setCell (p := ⟨w.heap.size + 1, 0, none⟩) (Nat.le_succ _) _).trans (below_put _ (by omega))
    have kr : W5.ownsRow w.heap.size 38 4 (.slice ao ln cp) outs.length (outs.flatMap tokCells) := by
      rw [hW5]
      exact Joins.ownsRow_le (ownsRow_putObj (ownsRow_setCell_below (ownsRow_setCell_below hr (a := ⟨w.heap.size, 0, none⟩) (by show w.heap.size < w.heap.size + 7; omega) _) (a := ⟨w.heap.size + 1, 0, none⟩) (by show w.heap.size + 1 < w.heap.size + 7; omega) _) _ hdf4 rfl) (by omega)
    rw [← hW5]
    exact ⟨_, results_c1c1 (p := 2) (q := 3) rfl _ _ w.heap.size (w.heap.size + 1) _ _ _ _ rfl k0 rfl k1 Tryd.underlying23 rfl Tryd.underlying30 rfl, kb, .inl ⟨by rw [h2]; exact h1, _, rfl, by rw [h2]; exact kr⟩⟩
  case stop =>
    rintro W2 lo c ⟨rfl, lo', hx⟩ hdf hlt
    rw [hz0] at hdf hlt ⊢
    have h4 := hx.put lo
    show Code.wpIn _ _ _ _ _ _ (W2.putObj (w.heap.size + 5) (.loop lo))
    generalize W2.putObj (w.heap.size + 5) (.loop lo) = W3 at *
    obtain ⟨outs, i, c, li, co, wd, fb, hp, hn, hfb, hF, hr1⟩ := h4.flt
    have hr0 := h4.r0
    have hdf3 := h4.dfr
    gi_wp2
    refine ⟨by simp, .inl ⟨_, _, rfl, run_takeDeferred hdf3, ?_⟩⟩
    obtain ⟨W5, hW5⟩ : ∃ W5, W5 = W3.putObj (w.heap.size + 4) (.deferred none) := ⟨_, rfl⟩
    have k0 : W5.cell? ⟨w.heap.size, 0, none⟩ = some (.slice none 0 0) := by
      rw [hW5, World.cell?_of_block (World.putObj_heap_other (show w.heap.size ≠ w.heap.size + 4 by omega))]
      simp [World.cell?, hr0]
    have k1 : W5.cell? ⟨w.heap.size + 1, 0, none⟩ = some (.iface 50 (.pointer (some ⟨fb, 0, none⟩))) := by
      rw [hW5, World.cell?_of_block (World.putObj_heap_other (show w.heap.size + 1 ≠ w.heap.size + 4 by omega))]
      simp [World.cell?, hr1]
    have kb : Below w.heap.size w W5 := by
      rw [hW5]
      exact h4.bel.trans (below_put _ (by omega))
    have kf : FtC W5 fb (.int .i64 c) (.int .i64 (li : Int)) (.int .i64 (co : Int)) (.string wd) := by
      rw [hW5]
      unfold FtC at *
      rw [World.putObj_heap_other]
      · exact hF
      · intro e
        rw [e, hdf3] at hF
        cases hF
    rw [← hW5]
    refine ⟨_, results_c1c1 (p := 2) (q := 3) rfl _ _ w.heap.size (w.heap.size + 1) _ _ _ _ rfl k0 rfl k1 Tryd.underlying23 rfl Tryd.underlying30 rfl, kb, .inr ⟨c, li, co, wd, fb, ?_, hfb, rfl, kf⟩⟩
    have hl : (nextOut s i).last = true := by rw [hn]; rfl
    rw [hp.last hl, fltOf_toks _ _ hp.toks, hn]
    rfl
end Go.Proofs.YtlemnbegblpllaaDoor

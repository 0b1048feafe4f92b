/-
  Proved here: the law's walk over Each.
-/
import Derived.Test.YtlemnbegblpllaaDoorLexQuietAll
namespace Go.Proofs.YtlemnbegblpllaaDoor
open Go.RowKit Go.Shelf
attribute [local go_sem] Oper.semAt_some

/-- The result of a cell that holds one value. -/
theorem results_c1 {P : Program} {fn : Func} {p : Tmp} {ty : TypeId} (h : fn.results = #[.cell p ty]) (tmps : Array Value) (w : World) (g : Nat) (v : Value) (d : TypeDesc)
    (hp : tmps.getD p undef = .pointer (some ⟨g, 0, none⟩)) (hg : w.cell? ⟨g, 0, none⟩ = some v)
    (hu : P.underlying ty = some d) (hd : (match d with | .struct _ | .array _ _ => true | _ => false) = false) :
    (results fn tmps).run P w = .ok v w := by
  have hp' : tmps[p]?.getD undef = .pointer (some ⟨g, 0, none⟩) := by simpa using hp
  simp [results, h, hp', asAddr, loadVar, isAgg, underlying, hu, Result.andThen]
  cases d <;> simp_all
set_option maxRecDepth 100000 in
set_option maxHeartbeats 6400000 in
theorem walk_any (s : ByteArray) (most : Int) (m : Int) (w : World) (hz : s.size < 4294967281) (hm : w.cell? ⟨1, 0, none⟩ = some (.int .i64 m)) (hg : ErrT w) (hmw : IntKind.i64.wrap most = most) :
    Calls Tryd.prog 14 #[.string s, .int .i64 most] w fun e w' => e = .returned (.bool true) ∧ Below w.heap.size w w' := by
  refine (callsIn_wide (n := 4)).1 ?_
  have hea := fun w => (callsIn_wide (n := 3)).2 (each_any s w)
  have hal := fun w => (callsIn_wide (n := 3)).2 (allR_both s w hz)
  have hmb : 1 < w.heap.size := block_lt_of_cell hm
  have hNz : (allF s 0).length < 4294967300 := Nat.lt_of_le_of_lt (tolds_len s _ _) (by omega)
  have htk := wO_toks (allF s 0)
  have hwl := wO_len (allF s 0)
  have hplt := fun i outs => @pre_lt s i outs
  have hpt := fun i outs => @pre_tok s i outs
  have hpf := fun i outs => @pre_flt s i outs
  have hel := walk_each s m hz w (Nat.lt_trans Nat.zero_lt_one hmb)
  have HL : Hid _ := hel
  clear hel
  generalize allF s 0 = al at *
  generalize wO al = wo at *
  generalize fzOf al = z at *
  obtain ⟨c0, li0, co0, wd0⟩ := z
  unfold fV at hal
  dsimp only at hal
  obtain ⟨w0, hw0⟩ : ∃ W, W = (w.alloc (.cells #[.int .i64 most] 3)).alloc (.cells #[.bool false] 4) := ⟨_, rfl⟩
  have b0 : Below w.heap.size w w0 := by rw [hw0]; exact bstep1 (belowA1 _ _) (belowA1 _ _)
  have z0 : w0.heap.size = w.heap.size + 2 := by rw [hw0]; simp
  have hms : w0.heap[w.heap.size]? = some (.cells #[.int .i64 most] 3 (0, 0)) := by rw [hw0, Below.heap_alloc _ _ _ (by simp)]; exact heap_alloc_new w _
  have hrs : w0.heap[w.heap.size + 1]? = some (.cells #[.bool false] 4 (0, 0)) := by
    have := heap_alloc_new (w.alloc (.cells #[.int .i64 most] 3)) (.cells #[.bool false] 4)
    rw [World.size_alloc] at this
    rw [hw0]; exact this
  have HW0 : Hid ((w.alloc (.cells #[.int .i64 most] 3)).alloc (.cells #[.bool false] 4) = w0) := hw0.symm
  clear hw0
  refine callsIn_of_wp_marks Tryd.func14 rfl trivial ?_ rfl
  simp only [Tryd.ntmps14, List.size_toArray, List.length_cons, List.length_nil, Nat.reduceAdd, Nat.reduceSub, Array.replicate_succ, Array.replicate_zero, List.push_toArray, List.append_toArray, List.nil_append, List.cons_append]
  gi_wp2_with fail
  refine ⟨trivial, ?_⟩
  rw [HW0.out]
  refine (hal _).mono ?_
  rintro e w2 ⟨vw, rfl, hrw, b2, hlen⟩
  clear hal HW0
  have hT2 := TR.of_row htk hrw
  have hvl := hT2.lt
  obtain ⟨q, hq⟩ : ∃ q, w2.heap.size = q := ⟨_, rfl⟩
  have hz2 := b2.size
  -- the boxes of want and f
  obtain ⟨W3, hW3⟩ : ∃ W, (w2.alloc (.cells #[.slice none 0 0] 23)).alloc (.cells #[.int .i64 0, .int .i64 0, .int .i64 0, .string ⟨#[]⟩] 26) = W := ⟨_, rfl⟩
  obtain ⟨ao, ln, cp, hvw⟩ : ∃ ao ln cp, vw = .slice ao ln cp := by
    rcases Joins.ownsRow_forms hrw with ⟨h, _⟩ | ⟨g, cap, h⟩
    · exact ⟨_, _, _, h⟩
    · exact ⟨_, _, _, h⟩
  have b3 : Below w2.heap.size w2 W3 := by rw [← hW3]; exact bstep1 (belowA1 _ _) (belowA1 _ _)
  have hwt3 : W3.heap[w2.heap.size]? = some (.cells #[.slice none 0 0] 23 (0, 0)) := by rw [← hW3, Below.heap_alloc _ _ _ (by simp)]; exact heap_alloc_new w2 _
  have hft3 : FtC W3 (w2.heap.size + 1) (.int .i64 0) (.int .i64 0) (.int .i64 0) (.string ⟨#[]⟩) := by rw [← hW3]; exact ftc_new _ (by simp)
  subst hvw
  rw [hq] at hwt3 hft3
  have hc0 : W3.cell? ⟨q, 0, none⟩ = some (.slice none 0 0) := by simp [World.cell?, hwt3]
  have hf0 : W3.frozen? ⟨q, 0, none⟩ = false := frozen_of_row W3 _ 0 _ _ hwt3
  obtain ⟨t0, t1, t2, t3⟩ := hft3.cells
  have y0 := hft3.thaw 0
  have y1 := hft3.thaw 1
  have y2 := hft3.thaw 2
  have y3 := hft3.thaw 3
  have hft4 := hft3.write (.int .i64 c0) (.int .i64 li0) (.int .i64 co0) (.string wd0)
  obtain ⟨W4, hW4⟩ : ∃ W, W = ((((W3.setCell ⟨q, 0, none⟩ (.slice ao ln cp)).setCell ⟨q + 1, 0, none⟩ (.int .i64 c0)).setCell ⟨q + 1, 1, none⟩ (.int .i64 li0)).setCell ⟨q + 1, 2, none⟩ (.int .i64 co0)).setCell ⟨q + 1, 3, none⟩ (.string wd0) := ⟨_, rfl⟩
  have HW4 : Hid (((((W3.setCell ⟨q, 0, none⟩ (.slice ao ln cp)).setCell ⟨q + 1, 0, none⟩ (.int .i64 c0)).setCell ⟨q + 1, 1, none⟩ (.int .i64 li0)).setCell ⟨q + 1, 2, none⟩ (.int .i64 co0)).setCell ⟨q + 1, 3, none⟩ (.string wd0) = W4) := hW4.symm
  have hz4 : W4.heap.size = q + 2 := by rw [hW4]; simp only [World.setCell]; simp [← hW3, hq]
  have hft : FtC W4 (q + 1) (.int .i64 c0) (.int .i64 li0) (.int .i64 co0) (.string wd0) := by
    rw [hW4]
    exact (hft3.set (p := ⟨q, 0, none⟩) (by show q + 1 ≠ q; omega) (.slice ao ln cp)).write _ _ _ _
  have hwt : W4.heap[q]? = some (.cells #[.slice ao ln cp] 23 (0, 0)) := by
    rw [hW4, Below.heap_setCell _ _ _ _ (show q ≠ q + 1 by omega), Below.heap_setCell _ _ _ _ (show q ≠ q + 1 by omega), Below.heap_setCell _ _ _ _ (show q ≠ q + 1 by omega), Below.heap_setCell _ _ _ _ (show q ≠ q + 1 by omega), heap_setCell_same W3 q 0 _ _ _ hwt3]
    rfl
  have b4 : Below w2.heap.size w2 W4 := by
    rw [hW4]
    exact ((((b3.setCell (p := ⟨q, 0, none⟩) (by rw [hq]; exact Nat.le_refl _) _).setCell (p := ⟨q + 1, 0, none⟩) (by rw [hq]; exact Nat.le_succ _) _).setCell (p := ⟨q + 1, 1, none⟩) (by rw [hq]; exact Nat.le_succ _) _).setCell (p := ⟨q + 1, 2, none⟩) (by rw [hq]; exact Nat.le_succ _) _).setCell (p := ⟨q + 1, 3, none⟩) (by rw [hq]; exact Nat.le_succ _) _
  clear hW4 hft4
  gi_wp2_with fail
  rw [HW4.out]
  clear HW4 t0 t1 t2 t3 y0 y1 y2 y3 hc0 hf0 hft3 hwt3 b3 hW3
  refine ⟨trivial, ?_⟩
  refine (hea _).mono ?_
  rintro e w5 ⟨rfl, rfl⟩
  clear hea
  have hln : ln = wo.length := by
    rcases Joins.ownsRow_forms hrw with ⟨h, h0⟩ | ⟨g, cap, h⟩
    · simp only [Value.slice.injEq] at h; omega
    · simp only [Value.slice.injEq] at h; exact h.2.1
  have cw : W4.cell? ⟨q, 0, none⟩ = some (.slice ao ln cp) := by simp [World.cell?, hwt]
  obtain ⟨f0, f1, f2, f3⟩ := hft.cells
  have T4 := hT2.below b4
  have B4 : Below w.heap.size w W4 := b0.trans ((b2.mono (by omega)).trans (b4.mono (by omega)))
  have ms4 : W4.heap[w.heap.size]? = some (.cells #[.int .i64 most] 3 (0, 0)) := by rw [b4.block _ (by omega), b2.block _ (by omega)]; exact hms
  have rs4 : W4.heap[w.heap.size + 1]? = some (.cells #[.bool false] 4 (0, 0)) := by rw [b4.block _ (by omega), b2.block _ (by omega)]; exact hrs
  have E4 : ErrT W4 := keepB2 B4 hg
  have m4 : W4.cell? ⟨1, 0, none⟩ = some (.int .i64 m) := keepB2 B4 hm
  have bq : w.heap.size + 1 < q := by omega
  have hvl2 : ∀ g, (Value.slice ao ln cp).ownBlock = some g → g < q := fun g h => by have := hvl g h; omega
  obtain ⟨W5, hW5⟩ : ∃ W, W4.alloc (.cells #[.string s] 9) = W := ⟨_, rfl⟩
  have b5 : Below W4.heap.size W4 W5 := by rw [← hW5]; exact belowA1 _ _
  have hz5 : W5.heap.size = q + 3 := by rw [← hW5]; simp [hz4]
  have hbx : W5.cell? ⟨q + 2, 0, none⟩ = some (.string s) := by rw [← hW5, World.cell?_alloc_at _ _ _ _ (by simp [hz4])]; rfl
  have cw5 := keepB2 b5 cw
  replace f0 := keepB2 b5 f0
  clear f1 f2 f3 b4 b2 hm hg hms hrs hT2 hvl hrw hz2 z0
  rw [hW5, hz4]
  have hfn : ∀ w, (binOp .eql 42 (.func (.func 24) #[] #[.pointer (some ⟨q + 2, 0, none⟩)]) .nilFunc).run Tryd.prog w = .ok (.bool false) w := fun _ => by kernel_rfl
  by_cases hcc : c0 = 0
  · have hcb : (c0 != 0) = false := by rw [hcc]; rfl
    have hN : al.length = wo.length := by rw [hlen, if_pos hcc]
    have HN : Hid ((wo.length : Int) = (al.length : Int)) := by show _ = _; rw [hN]
    have hwz : wo.length < 4294967300 := by omega
    clear hlen hwl hN
    gi_wp2_with fail
    have hNi := HN.out
    obtain ⟨W6, hW6⟩ : ∃ W, (W5.alloc (.cells #[.int .i64 (wo.length : Int)] 3)).alloc (.cells #[.int .i64 0] 3) = W := ⟨_, rfl⟩
    have b6 : Below W5.heap.size W5 W6 := by rw [← hW6]; exact bstep1 (belowA1 _ _) (belowA1 _ _)
    have hz6 : W6.heap.size = q + 5 := by rw [← hW6]; simp [hz5]
    have al6 : W6.heap[q + 3]? = some (.cells #[.int .i64 (al.length : Int)] 3 (0, 0)) := by
      have := heap_alloc_new W5 (.cells #[.int .i64 (wo.length : Int)] 3)
      rw [hz5] at this
      rw [← hW6, Below.heap_alloc _ _ _ (by simp [hz5]), this, hNi]
    have nn6 : W6.heap[q + 4]? = some (.cells #[.int .i64 ((0 : Nat) : Int)] 3 (0, 0)) := by
      have := heap_alloc_new (W5.alloc (.cells #[.int .i64 (wo.length : Int)] 3)) (.cells #[.int .i64 0] 3)
      rw [World.size_alloc, hz5] at this
      rw [← hW6, this]
      rfl
    rw [hW6]
    have b46 : Below W4.heap.size W4 W6 := bstep1 b5 b6
    refine range_call rfl (by decide) rfl trivial (enters_of Tryd.func24 (by kernel_rfl) rfl) (fun W => ∃ lo, WkC w q most (.slice ao ln cp) (c0, li0, co0, wd0) wo al.length al.length lo W ∧ ∀ k : Nat, 1 ≤ k → k ≤ al.length → (k : Int) ≠ most)
      (fun c W => c = .exit 0 ∧ ∃ lo k, 1 ≤ k ∧ k ≤ al.length ∧ ((k : Nat) : Int) = most ∧ WkC w q most (.slice ao ln cp) (c0, li0, co0, wd0) wo al.length k lo W) ?call ?done ?stop
    case call =>
      intro fn hfn
      have hst : ∀ lo, WkC w q most (.slice ao ln cp) (c0, li0, co0, wd0) wo al.length 0 lo ((W6.alloc (.deferred (some []))).alloc (.loop lo)) := by
        intro lo
        have b7 : Below W6.heap.size W6 ((W6.alloc (.deferred (some []))).alloc (.loop lo)) := bstep1 (belowA1 _ _) (belowA1 _ _)
        have b47 := bstep1 b46 b7
        refine ⟨by rw [b47.block _ (by omega)]; exact ms4, by rw [b47.block _ (by omega)]; exact rs4, by rw [b47.block _ (by omega)]; exact hwt, by unfold FtC; rw [b47.block _ (by omega)]; exact hft, by rw [b7.block _ (by omega)]; exact al6, by rw [b7.block _ (by omega)]; exact nn6, ?_, ?_, T4.below b47, hvl2, bq, bstep1 B4 b47, keepB2 b47 E4⟩
        · rw [Below.heap_alloc _ _ _ (by simp [hz6])]
          have := heap_alloc_new W6 (.deferred (some []))
          rw [hz6] at this
          exact this
        · have := heap_alloc_new (W6.alloc (.deferred (some []))) (.loop lo)
          rw [World.size_alloc, hz6] at this
          exact this
      have hbx7 : ∀ o o', ((W6.alloc o).alloc o').cell? ⟨q + 2, 0, none⟩ = some (.string s) := fun o o' => keepB2 (bstep1 b6 (bstep1 (belowA1 _ _) (belowA1 _ _))) hbx
      have hm7 : ∀ o o', ((W6.alloc o).alloc o').cell? ⟨1, 0, none⟩ = some (.int .i64 m) := fun o o' => keepB2 (bstep1 b46 (bstep1 (belowA1 _ _) (belowA1 _ _))) m4
      simp only [hz6, List.append_toArray, List.cons_append, List.nil_append, Nat.add_assoc, Nat.reduceAdd, Nat.reduceSub]
      refine CallsIn.mono (HL.out q most (.slice ao ln cp) (c0, li0, co0, wd0) wo _ 0 ?rd _ (by simp [hz6]) (hbx7 _ _) (hm7 _ _) (hst _)) ?fin
      case fin =>
        rintro e W2 ⟨hv, ⟨h1, h2⟩ | ⟨k, h1, h2, h3, h4⟩⟩
        · exact ⟨hv, none, h1.rc, h1.df, _, h1, h2⟩
        · exact ⟨hv, some (.exit 0), h4.rc, h4.df, rfl, _, k, h1, h2, h3, h4⟩
      case rd =>
        intro lo' hlo i outs W1 tv ev hp ht hc hs
        have hk1 := hplt i outs hp
        have hpt1 := hpt i outs hp
        have hpf1 := fun c li co wd => @hpf i outs hp c li co wd
        obtain ⟨Go_, hGo⟩ : ∃ G : World → Prop, G = fun W' => WkC w q most (.slice ao ln cp) (c0, li0, co0, wd0) wo al.length (outs.length + 1) lo' W' ∧ ((outs.length + 1 : Nat) : Int) ≠ most ∧ W1.heap.size ≤ W'.heap.size ∧ ∀ k, (k = 1 ∨ q + 7 ≤ k) → k < W1.heap.size → W'.heap[k]? = W1.heap[k]? := ⟨_, rfl⟩
        obtain ⟨Lv_, hLv⟩ : ∃ L : Code → World → Prop, L = fun c W' => c = .exit 0 ∧ ((outs.length + 1 : Nat) : Int) = most ∧ WkC w q most (.slice ao ln cp) (c0, li0, co0, wd0) wo al.length (outs.length + 1) { lo' with state := .done, pending := some (.exit 0) } W' := ⟨_, rfl⟩
        refine (yield_round (Go_ := Go_) (Lv := Lv_) trivial hc.rc (by rw [hlo]; rfl) (by rw [hlo]; rfl) (by rw [hlo]; rfl) ?_).mono ?_
        case refine_2 =>
          rintro e W' (⟨rfl, h⟩ | ⟨rfl, c, h⟩)
          · rw [hGo] at h; exact .inl ⟨rfl, h⟩
          · rw [hLv] at h; exact .inr ⟨rfl, h.2⟩
        have h0w : 0 < w.heap.size := by omega
        generalize nextOut s i = O at *
        cases O with
        | flt c li co wd =>
          obtain ⟨_, hzz, hc9⟩ := hpf1 c li co wd rfl
          simp only [Prod.mk.injEq] at hzz
          exact absurd (hzz.1.symm.trans hcc) hc9
        | tok k ms li co j =>
          obtain ⟨rfl, rfl⟩ := ht
          have hgt := hpt1 rfl
          clear hpt1 hpf1 hp
          obtain ⟨WA, hWA⟩ : ∃ WA, W1.alloc (.cells #[.int .i8 k, .string ms, .int .i64 (li : Int), .int .i64 (co : Int)] 38) = WA := ⟨_, rfl⟩
          have bA : Below W1.heap.size W1 WA := by rw [← hWA]; exact belowA1 _ _
          have zA : WA.heap.size = W1.heap.size + 1 := by rw [← hWA]; simp
          have hcA := hc.off h0w (Off.of bA)
          have hTA : TkC WA W1.heap.size (.int .i8 k) (.string ms) (.int .i64 (li : Int)) (.int .i64 (co : Int)) := by rw [← hWA]; exact tkc_new _ rfl
          obtain ⟨WB, hWB⟩ : ∃ WB, WA.putObj (q + 6) (.loop { lo' with state := .busy }) = WB := ⟨_, rfl⟩
          have hcB : WkC w q most (.slice ao ln cp) (c0, li0, co0, wd0) wo al.length outs.length { lo' with state := .busy } WB := by rw [← hWB]; exact hcA.put h0w _
          have hkB : ∀ k, k ≠ q + 6 → k < W1.heap.size → WB.heap[k]? = W1.heap[k]? := fun k h1 h2 => by rw [← hWB, World.putObj_heap_other h1, bA.block _ h2]
          have zB : WB.heap.size = W1.heap.size + 1 := by rw [← hWB]; simp [zA]
          have hTB : TkC WB W1.heap.size (.int .i8 k) (.string ms) (.int .i64 (li : Int)) (.int .i64 (co : Int)) := by
            unfold TkC; rw [← hWB, World.putObj_heap_other (by omega)]; exact hTA
          have htd := CallsIn.inRound (q + 6) ((callsIn_wide (n := 1)).2 (told_nil WB))
          have HA : Hid (WA.heap[q + 6]? = some (.loop lo')) := hcA.rc
          have HC : Hid (WkC w q most (.slice ao ln cp) (c0, li0, co0, wd0) wo al.length outs.length { lo' with state := .busy } WB) := hcB
          have HG : Hid (∀ X, WkC w q most (.slice ao ln cp) (c0, li0, co0, wd0) wo al.length (outs.length + 1) { lo' with state := .busy } X → WB.heap.size ≤ X.heap.size → (∀ k, (k = 1 ∨ q + 7 ≤ k) → k < W1.heap.size → X.heap[k]? = WB.heap[k]?) → (((outs.length + 1 : Nat) : Int) ≠ most → X.heap[q + 6]? = some (.loop { lo' with state := .busy }) ∧ Go_ (X.putObj (q + 6) (.loop lo'))) ∧ (((outs.length + 1 : Nat) : Int) = most → X.heap[q + 6]? = some (.loop { lo' with state := .busy }) ∧ Lv_ (.exit 0) (X.putObj (q + 6) (.loop { lo' with state := .done, pending := some (.exit 0) })))) := by
            intro X h1 h2 h3
            refine ⟨fun h4 => ⟨h1.rc, ?_⟩, fun h4 => ⟨h1.rc, ?_⟩⟩
            · rw [hGo]
              exact ⟨h1.put h0w _, h4, by simp; omega, fun k a b => by rw [World.putObj_heap_other (by omega), h3 k a b, hkB k (by omega) b]⟩
            · rw [hLv]
              exact ⟨rfl, h4, h1.put h0w _⟩
          clear hcA hcB hTA bA zA hc hGo hLv hkB HL hbx7 hm7 hst
          subst hlo
          dsimp only [recOf] at HA HC HG hWB ⊢
          gi_wp2_with fail
          refine ⟨HA.out, ?_⟩
          (try rw [hWB])
          clear hWB HA hWA
          gi_wp2_with fail
          refine ⟨trivial, ?_⟩
          refine htd.mono ?_
          rintro e w3 ⟨rfl, b3⟩
          clear htd
          obtain ⟨X3, hX3⟩ : ∃ X, w3.alloc (.cells #[.int .i64 0, .int .i64 0, .int .i64 0, .string ⟨#[]⟩] 26) = X := ⟨_, rfl⟩
          have d3 : Below w3.heap.size w3 X3 := by rw [← hX3]; exact belowA1 _ _
          have hG3 : FtC X3 w3.heap.size (.int .i64 0) (.int .i64 0) (.int .i64 0) (.string ⟨#[]⟩) := by rw [← hX3]; exact ftc_new _ rfl
          obtain ⟨X4, hX4⟩ : ∃ X, (((X3.setCell ⟨w3.heap.size, 0, none⟩ (.int .i64 0)).setCell ⟨w3.heap.size, 1, none⟩ (.int .i64 0)).setCell ⟨w3.heap.size, 2, none⟩ (.int .i64 0)).setCell ⟨w3.heap.size, 3, none⟩ (.string ⟨#[]⟩) = X := ⟨_, rfl⟩
          have d4 : Below WB.heap.size WB X4 := by
            have hle := b3.size
            rw [← hX4]
            exact ((((bstep1 b3 d3).setCell (p := ⟨w3.heap.size, 0, none⟩) hle _).setCell (p := ⟨w3.heap.size, 1, none⟩) hle _).setCell (p := ⟨w3.heap.size, 2, none⟩) hle _).setCell (p := ⟨w3.heap.size, 3, none⟩) hle _
          have hC4 := HC.out.off h0w (Off.of d4)
          have hT4 := hTB.below d4
          obtain ⟨e0, e1, e2, e3⟩ := hG3.cells
          have y0 := hG3.thaw 0
          have y1 := hG3.thaw 1
          have y2 := hG3.thaw 2
          have y3 := hG3.thaw 3
          obtain ⟨t0, t1, t2, t3⟩ := hT4.cells
          have cn : X4.cell? ⟨q + 4, 0, none⟩ = some (.int .i64 (outs.length : Int)) := by simp [World.cell?, hC4.nn]
          have fn4 : X4.frozen? ⟨q + 4, 0, none⟩ = false := frozen_of_row X4 _ 0 _ _ hC4.nn
          have ca : X4.cell? ⟨q + 3, 0, none⟩ = some (.int .i64 (al.length : Int)) := by simp [World.cell?, hC4.al]
          have cm : X4.cell? ⟨w.heap.size, 0, none⟩ = some (.int .i64 most) := by simp [World.cell?, hC4.ms]
          have cwt : X4.cell? ⟨q, 0, none⟩ = some (.slice ao ln cp) := by simp [World.cell?, hC4.wt]
          have hge : ¬ (al.length : Int) ≤ (outs.length : Int) := by omega
          obtain ⟨g, hao, hln2, hrow⟩ : ∃ g, ao = some ⟨g, 0, none⟩ ∧ ln = wo.length ∧ X4.cell? ⟨g, outs.length * 4, none⟩ = some (.int .i8 k) ∧ X4.cell? ⟨g, outs.length * 4 + 1, none⟩ = some (.string ms) ∧ X4.cell? ⟨g, outs.length * 4 + 2, none⟩ = some (.int .i64 (li : Int)) ∧ X4.cell? ⟨g, outs.length * 4 + 3, none⟩ = some (.int .i64 (co : Int)) := by
            rcases hC4.tr.form with ⟨_, h⟩ | ⟨g, cap, h, _, h2⟩
            · rw [h] at hgt; cases hgt
            · simp only [Value.slice.injEq] at h
              exact ⟨g, h.1, h.2.1, h2 _ _ _ _ _ _ hgt⟩
          obtain ⟨r0, r1, r2, r3⟩ := hrow
          have hlw : (outs.length : Int) < (ln : Int) := by
            have h := (List.getElem?_eq_some_iff.1 hgt).1
            omega
          have hnl : ¬ (outs.length : Int) = (ln : Int) := by omega
          have hnz2 : outs.length < 4294967300 := by omega
          subst hao
          have HC4 : Hid (WkC w q most (.slice (some ⟨g, 0, none⟩) ln cp) (c0, li0, co0, wd0) wo al.length outs.length _ X4) := hC4
          have HD4 : Hid (Below WB.heap.size WB X4) := d4
          clear hC4 HC hgt hTB hT4 hG3 d3 d4 b3
          gi_wp2_with fail
          refine round_quiet (by kernel_rfl) (by kernel_rfl) (by kernel_rfl) ?_
          repeat (quiet_step (fail))
          refine wpQuiet_nil ?_
          intro _ hw'
          obtain ⟨nq, hw''⟩ := hw'
          subst hw''
          have D := below_drewN (Below.refl X4.heap.size X4) nq
          have hCY := HC4.out.off h0w (Off.of D)
          have dY : Below WB.heap.size WB (X4.drewN nq) := bstep1 HD4.out D
          clear HC4 HD4 D hX3 hX4 e0 e1 e2 e3 y0 y1 y2 y3 t0 t1 t2 t3 r0 r1 r2 r3 cn fn4 ca cm cwt
          generalize X4.drewN nq = Y at *
          have cn : Y.cell? ⟨q + 4, 0, none⟩ = some (.int .i64 (outs.length : Int)) := by simp [World.cell?, hCY.nn]
          have fn4 : Y.frozen? ⟨q + 4, 0, none⟩ = false := frozen_of_row Y _ 0 _ _ hCY.nn
          have cm : Y.cell? ⟨w.heap.size, 0, none⟩ = some (.int .i64 most) := by simp [World.cell?, hCY.ms]
          have cwt : Y.cell? ⟨q, 0, none⟩ = some (.slice (some ⟨g, 0, none⟩) ln cp) := by simp [World.cell?, hCY.wt]
          have hbq := hCY.bq
          have hX := hCY.next h0w
          have HGX := HG.out _ hX (by have := dY.size; simpa [World.setCell] using this) (fun k' a b => by rw [Below.heap_setCell _ _ _ _ (show k' ≠ q + 4 by omega), dY.block _ (by omega)])
          have hcast : ((outs.length + 1 : Nat) : Int) = (outs.length : Int) + 1 := by omega
          rw [hcast] at HGX
          have HGY : Hid _ := HGX
          clear HGX hX hCY dY HG
          by_cases hmo : (outs.length : Int) + 1 = most
          · have hmb2 : ((outs.length : Int) + 1 == most) = true := by rw [hmo]; simp
            have hz9 := HGY.out.2 hmo
            rw [hmo] at hz9
            have HZ : Hid _ := hz9
            clear hz9 HGY
            gi_wp2
            exact HZ.out
          · have hmb2 : ((outs.length : Int) + 1 == most) = false := beq_eq_false_iff_ne.2 hmo
            gi_wp2
            exact HGY.out.1 hmo
    case done =>
      clear hNi HN hW6 HL
      rintro W2 lo ⟨lo', h1, h2⟩ hdf hlt
      rw [hz6] at hdf hlt ⊢
      have h0w : 0 < w.heap.size := by omega
      have h4 := h1.put h0w lo
      show Exit.inBlock 0 _ _ _ (W2.putObj (q + 6) (.loop lo))
      generalize W2.putObj (q + 6) (.loop lo) = W3 at *
      have cn : W3.cell? ⟨q + 4, 0, none⟩ = some (.int .i64 (al.length : Int)) := by simp [World.cell?, h4.nn]
      have ca : W3.cell? ⟨q + 3, 0, none⟩ = some (.int .i64 (al.length : Int)) := by simp [World.cell?, h4.al]
      have cm : W3.cell? ⟨w.heap.size, 0, none⟩ = some (.int .i64 most) := by simp [World.cell?, h4.ms]
      have cr : W3.cell? ⟨w.heap.size + 1, 0, none⟩ = some (.bool false) := by simp [World.cell?, h4.rs]
      have fr : W3.frozen? ⟨w.heap.size + 1, 0, none⟩ = false := frozen_of_row W3 _ 0 _ _ h4.rs
      by_cases hm1 : 1 ≤ most
      · have hmx : (al.length : Int) < most := by
          rcases Int.lt_or_le (al.length : Int) most with h | h
          · exact h
          · exact absurd (show ((most.toNat : Nat) : Int) = most by omega) (h2 most.toNat (by omega) (by omega))
        have hwN : IntKind.i64.wrap (al.length : Int) = (al.length : Int) := by rw [IntKind.wrap_i64]; omega
        have HB : Hid (W3.heap[q + 5]? = some (.deferred (some [])) ∧ Below w.heap.size w W3 ∧ w.heap.size + 1 < q) := ⟨h4.df, h4.bel, h4.bq⟩
        clear h4 h1 h2 hdf hlt hplt hpt hpf htk hNz
        generalize (al.length : Int) = N at *
        have hg1 : ¬ most < N := by omega
        have hg2 : ¬ most ≤ N := by omega
        have hg3 : min most N = N := by omega
        gi_wp2
        obtain ⟨hdf3, hbl3, hbq3⟩ := HB.out
        have hdfZ : (W3.setCell ⟨w.heap.size + 1, 0, none⟩ (.bool true)).heap[q + 5]? = some (.deferred (some [])) := by rw [Below.heap_setCell _ _ _ _ (show q + 5 ≠ w.heap.size + 1 by omega)]; exact hdf3
        refine ⟨by simp, .inl ⟨_, _, rfl, run_takeDeferred hdfZ, ?_⟩⟩
        refine ⟨_, results_c1 (p := 4) rfl _ _ (w.heap.size + 1) (.bool true) _ rfl ?_ Tryd.underlying4 rfl, rfl, (hbl3.setCell (p := ⟨w.heap.size + 1, 0, none⟩) (Nat.le_succ _) _).trans (below_put _ (by omega))⟩
        rw [World.cell?_of_block (World.putObj_heap_other (show w.heap.size + 1 ≠ q + 5 by omega))]
        exact World.cell?_setCell_same' _ _ _ (by rw [cr]; rfl)
      · have hm2 : most < 1 := by omega
        have HB : Hid (W3.heap[q + 5]? = some (.deferred (some [])) ∧ Below w.heap.size w W3 ∧ w.heap.size + 1 < q) := ⟨h4.df, h4.bel, h4.bq⟩
        clear h4 h1 h2 hdf hlt hplt hpt hpf htk hNz
        gi_wp2
        obtain ⟨hdf3, hbl3, hbq3⟩ := HB.out
        have hdfZ : (W3.setCell ⟨w.heap.size + 1, 0, none⟩ (.bool true)).heap[q + 5]? = some (.deferred (some [])) := by rw [Below.heap_setCell _ _ _ _ (show q + 5 ≠ w.heap.size + 1 by omega)]; exact hdf3
        refine ⟨by simp, .inl ⟨_, _, rfl, run_takeDeferred hdfZ, ?_⟩⟩
        refine ⟨_, results_c1 (p := 4) rfl _ _ (w.heap.size + 1) (.bool true) _ rfl ?_ Tryd.underlying4 rfl, rfl, (hbl3.setCell (p := ⟨w.heap.size + 1, 0, none⟩) (Nat.le_succ _) _).trans (below_put _ (by omega))⟩
        rw [World.cell?_of_block (World.putObj_heap_other (show w.heap.size + 1 ≠ q + 5 by omega))]
        exact World.cell?_setCell_same' _ _ _ (by rw [cr]; rfl)
    case stop =>
      clear hNi HN hW6 HL
      rintro W2 lo c ⟨rfl, lo', k, h1, h2, h3, h5⟩ hdf hlt
      rw [hz6] at hdf hlt ⊢
      have h0w : 0 < w.heap.size := by omega
      have h4 := h5.put h0w lo
      show Code.wpIn _ _ _ _ _ _ (W2.putObj (q + 6) (.loop lo))
      generalize W2.putObj (q + 6) (.loop lo) = W3 at *
      have cn : W3.cell? ⟨q + 4, 0, none⟩ = some (.int .i64 most) := by rw [← h3]; simp [World.cell?, h4.nn]
      have ca : W3.cell? ⟨q + 3, 0, none⟩ = some (.int .i64 (al.length : Int)) := by simp [World.cell?, h4.al]
      have cm : W3.cell? ⟨w.heap.size, 0, none⟩ = some (.int .i64 most) := by simp [World.cell?, h4.ms]
      have cr : W3.cell? ⟨w.heap.size + 1, 0, none⟩ = some (.bool false) := by simp [World.cell?, h4.rs]
      have fr : W3.frozen? ⟨w.heap.size + 1, 0, none⟩ = false := frozen_of_row W3 _ 0 _ _ h4.rs
      have hm1 : 1 ≤ most := by omega
      have hmx : most ≤ (al.length : Int) := by omega
      · have hwN : IntKind.i64.wrap (al.length : Int) = (al.length : Int) := by rw [IntKind.wrap_i64]; omega
        have HB : Hid (W3.heap[q + 5]? = some (.deferred (some [])) ∧ Below w.heap.size w W3 ∧ w.heap.size + 1 < q) := ⟨h4.df, h4.bel, h4.bq⟩
        clear h4 h5 h1 h2 h3 hdf hlt hplt hpt hpf htk hNz
        generalize (al.length : Int) = N at *
        have hg1 : ¬ N < most := by omega
        have hg3 : min most N = most := by omega
        gi_wp2
        obtain ⟨hdf3, hbl3, hbq3⟩ := HB.out
        have hdfZ : (W3.setCell ⟨w.heap.size + 1, 0, none⟩ (.bool true)).heap[q + 5]? = some (.deferred (some [])) := by rw [Below.heap_setCell _ _ _ _ (show q + 5 ≠ w.heap.size + 1 by omega)]; exact hdf3
        refine ⟨by simp, .inl ⟨_, _, rfl, run_takeDeferred hdfZ, ?_⟩⟩
        refine ⟨_, results_c1 (p := 4) rfl _ _ (w.heap.size + 1) (.bool true) _ rfl ?_ Tryd.underlying4 rfl, rfl, (hbl3.setCell (p := ⟨w.heap.size + 1, 0, none⟩) (Nat.le_succ _) _).trans (below_put _ (by omega))⟩
        rw [World.cell?_of_block (World.putObj_heap_other (show w.heap.size + 1 ≠ q + 5 by omega))]
        exact World.cell?_setCell_same' _ _ _ (by rw [cr]; rfl)
  · have hcb : (c0 != 0) = true := by simp only [bne, beq_eq_false_iff_ne.2 hcc]; rfl
    have hN : al.length = wo.length + 1 := by rw [hlen, if_neg hcc]
    have HN : Hid ((wo.length : Int) + 1 = (al.length : Int)) := by show _ = _; omega
    have hwz : wo.length < 4294967300 := by omega
    clear hlen hwl hN
    gi_wp2_with fail
    have hNi := HN.out
    obtain ⟨W6, hW6⟩ : ∃ W, (W5.alloc (.cells #[.int .i64 ((wo.length : Int) + 1)] 3)).alloc (.cells #[.int .i64 0] 3) = W := ⟨_, rfl⟩
    have b6 : Below W5.heap.size W5 W6 := by rw [← hW6]; exact bstep1 (belowA1 _ _) (belowA1 _ _)
    have hz6 : W6.heap.size = q + 5 := by rw [← hW6]; simp [hz5]
    have al6 : W6.heap[q + 3]? = some (.cells #[.int .i64 (al.length : Int)] 3 (0, 0)) := by
      have := heap_alloc_new W5 (.cells #[.int .i64 ((wo.length : Int) + 1)] 3)
      rw [hz5] at this
      rw [← hW6, Below.heap_alloc _ _ _ (by simp [hz5]), this, hNi]
    have nn6 : W6.heap[q + 4]? = some (.cells #[.int .i64 ((0 : Nat) : Int)] 3 (0, 0)) := by
      have := heap_alloc_new (W5.alloc (.cells #[.int .i64 ((wo.length : Int) + 1)] 3)) (.cells #[.int .i64 0] 3)
      rw [World.size_alloc, hz5] at this
      rw [← hW6, this]
      rfl
    rw [hW6]
    have b46 : Below W4.heap.size W4 W6 := bstep1 b5 b6
    refine range_call rfl (by decide) rfl trivial (enters_of Tryd.func24 (by kernel_rfl) rfl) (fun W => ∃ lo, WkC w q most (.slice ao ln cp) (c0, li0, co0, wd0) wo al.length al.length lo W ∧ ∀ k : Nat, 1 ≤ k → k ≤ al.length → (k : Int) ≠ most)
      (fun c W => c = .exit 0 ∧ ∃ lo k, 1 ≤ k ∧ k ≤ al.length ∧ ((k : Nat) : Int) = most ∧ WkC w q most (.slice ao ln cp) (c0, li0, co0, wd0) wo al.length k lo W) ?call ?done ?stop
    case call =>
      intro fn hfn
      have hst : ∀ lo, WkC w q most (.slice ao ln cp) (c0, li0, co0, wd0) wo al.length 0 lo ((W6.alloc (.deferred (some []))).alloc (.loop lo)) := by
        intro lo
        have b7 : Below W6.heap.size W6 ((W6.alloc (.deferred (some []))).alloc (.loop lo)) := bstep1 (belowA1 _ _) (belowA1 _ _)
        have b47 := bstep1 b46 b7
        refine ⟨by rw [b47.block _ (by omega)]; exact ms4, by rw [b47.block _ (by omega)]; exact rs4, by rw [b47.block _ (by omega)]; exact hwt, by unfold FtC; rw [b47.block _ (by omega)]; exact hft, by rw [b7.block _ (by omega)]; exact al6, by rw [b7.block _ (by omega)]; exact nn6, ?_, ?_, T4.below b47, hvl2, bq, bstep1 B4 b47, keepB2 b47 E4⟩
        · rw [Below.heap_alloc _ _ _ (by simp [hz6])]
          have := heap_alloc_new W6 (.deferred (some []))
          rw [hz6] at this
          exact this
        · have := heap_alloc_new (W6.alloc (.deferred (some []))) (.loop lo)
          rw [World.size_alloc, hz6] at this
          exact this
      have hbx7 : ∀ o o', ((W6.alloc o).alloc o').cell? ⟨q + 2, 0, none⟩ = some (.string s) := fun o o' => keepB2 (bstep1 b6 (bstep1 (belowA1 _ _) (belowA1 _ _))) hbx
      have hm7 : ∀ o o', ((W6.alloc o).alloc o').cell? ⟨1, 0, none⟩ = some (.int .i64 m) := fun o o' => keepB2 (bstep1 b46 (bstep1 (belowA1 _ _) (belowA1 _ _))) m4
      simp only [hz6, List.append_toArray, List.cons_append, List.nil_append, Nat.add_assoc, Nat.reduceAdd, Nat.reduceSub]
      refine CallsIn.mono (HL.out q most (.slice ao ln cp) (c0, li0, co0, wd0) wo _ 0 ?rd _ (by simp [hz6]) (hbx7 _ _) (hm7 _ _) (hst _)) ?fin
      case fin =>
        rintro e W2 ⟨hv, ⟨h1, h2⟩ | ⟨k, h1, h2, h3, h4⟩⟩
        · exact ⟨hv, none, h1.rc, h1.df, _, h1, h2⟩
        · exact ⟨hv, some (.exit 0), h4.rc, h4.df, rfl, _, k, h1, h2, h3, h4⟩
      case rd =>
        intro lo' hlo i outs W1 tv ev hp ht hc hs
        have hk1 := hplt i outs hp
        have hpt1 := hpt i outs hp
        have hpf1 := fun c li co wd => @hpf i outs hp c li co wd
        obtain ⟨Go_, hGo⟩ : ∃ G : World → Prop, G = fun W' => WkC w q most (.slice ao ln cp) (c0, li0, co0, wd0) wo al.length (outs.length + 1) lo' W' ∧ ((outs.length + 1 : Nat) : Int) ≠ most ∧ W1.heap.size ≤ W'.heap.size ∧ ∀ k, (k = 1 ∨ q + 7 ≤ k) → k < W1.heap.size → W'.heap[k]? = W1.heap[k]? := ⟨_, rfl⟩
        obtain ⟨Lv_, hLv⟩ : ∃ L : Code → World → Prop, L = fun c W' => c = .exit 0 ∧ ((outs.length + 1 : Nat) : Int) = most ∧ WkC w q most (.slice ao ln cp) (c0, li0, co0, wd0) wo al.length (outs.length + 1) { lo' with state := .done, pending := some (.exit 0) } W' := ⟨_, rfl⟩
        refine (yield_round (Go_ := Go_) (Lv := Lv_) trivial hc.rc (by rw [hlo]; rfl) (by rw [hlo]; rfl) (by rw [hlo]; rfl) ?_).mono ?_
        case refine_2 =>
          rintro e W' (⟨rfl, h⟩ | ⟨rfl, c, h⟩)
          · rw [hGo] at h; exact .inl ⟨rfl, h⟩
          · rw [hLv] at h; exact .inr ⟨rfl, h.2⟩
        have h0w : 0 < w.heap.size := by omega
        generalize nextOut s i = O at *
        cases O with
        | flt c li co wd =>
          obtain ⟨rfl, fb, hfb, rfl, hF1⟩ := ht
          obtain ⟨hwo, hzz, hc9⟩ := hpf1 c li co wd rfl
          simp only [Prod.mk.injEq] at hzz
          obtain ⟨rfl, rfl, rfl, rfl⟩ := hzz
          clear hpt1 hpf1 hp
          obtain ⟨WA, hWA⟩ : ∃ WA, W1.alloc (.cells #[.int .i8 0, .string ⟨#[]⟩, .int .i64 0, .int .i64 0] 38) = WA := ⟨_, rfl⟩
          have bA : Below W1.heap.size W1 WA := by rw [← hWA]; exact belowA1 _ _
          have zA : WA.heap.size = W1.heap.size + 1 := by rw [← hWA]; simp
          have hcA := hc.off h0w (Off.of bA)
          have hTA : TkC WA W1.heap.size (.int .i8 0) (.string ⟨#[]⟩) (.int .i64 0) (.int .i64 0) := by rw [← hWA]; exact tkc_new _ rfl
          obtain ⟨WB, hWB⟩ : ∃ WB, WA.putObj (q + 6) (.loop { lo' with state := .busy }) = WB := ⟨_, rfl⟩
          have hcB : WkC w q most (.slice ao ln cp) (c0, (li : Int), (co : Int), wd0) wo al.length outs.length { lo' with state := .busy } WB := by rw [← hWB]; exact hcA.put h0w _
          have hkB : ∀ k, k ≠ q + 6 → k < W1.heap.size → WB.heap[k]? = W1.heap[k]? := fun k h1 h2 => by rw [← hWB, World.putObj_heap_other h1, bA.block _ h2]
          have zB : WB.heap.size = W1.heap.size + 1 := by rw [← hWB]; simp [zA]
          have hTB : TkC WB W1.heap.size (.int .i8 0) (.string ⟨#[]⟩) (.int .i64 0) (.int .i64 0) := by
            unfold TkC; rw [← hWB, World.putObj_heap_other (by omega)]; exact hTA
          have hFB : FtC WB fb (.int .i64 c0) (.int .i64 (li : Int)) (.int .i64 (co : Int)) (.string wd0) := by rw [← hWB]; exact (hF1.below bA).putLoop hcA.rc _
          have htd := CallsIn.inRound (q + 6) ((callsIn_wide (n := 1)).2 (told_flt fb _ _ _ _ WB hFB hc9 hcB.er))
          have HA : Hid (WA.heap[q + 6]? = some (.loop lo')) := hcA.rc
          have HWA : Hid (W1.alloc (.cells #[.int .i8 0, .string ⟨#[]⟩, .int .i64 0, .int .i64 0] 38) = WA) := hWA
          have HC : Hid (WkC w q most (.slice ao ln cp) (c0, (li : Int), (co : Int), wd0) wo al.length outs.length { lo' with state := .busy } WB) := hcB
          have HG : Hid (∀ X, WkC w q most (.slice ao ln cp) (c0, (li : Int), (co : Int), wd0) wo al.length (outs.length + 1) { lo' with state := .busy } X → WB.heap.size ≤ X.heap.size → (∀ k, (k = 1 ∨ q + 7 ≤ k) → k < W1.heap.size → X.heap[k]? = WB.heap[k]?) → (((outs.length + 1 : Nat) : Int) ≠ most → X.heap[q + 6]? = some (.loop { lo' with state := .busy }) ∧ Go_ (X.putObj (q + 6) (.loop lo'))) ∧ (((outs.length + 1 : Nat) : Int) = most → X.heap[q + 6]? = some (.loop { lo' with state := .busy }) ∧ Lv_ (.exit 0) (X.putObj (q + 6) (.loop { lo' with state := .done, pending := some (.exit 0) })))) := by
            intro X h1 h2 h3
            refine ⟨fun h4 => ⟨h1.rc, ?_⟩, fun h4 => ⟨h1.rc, ?_⟩⟩
            · rw [hGo]
              exact ⟨h1.put h0w _, h4, by simp; omega, fun k a b => by rw [World.putObj_heap_other (by omega), h3 k a b, hkB k (by omega) b]⟩
            · rw [hLv]
              exact ⟨rfl, h4, h1.put h0w _⟩
          clear hWA hcA hcB hTA bA zA hc hGo hLv hkB HL hbx7 hm7 hst hF1 hFB
          subst hlo
          dsimp only [recOf] at HA HC HG hWB ⊢
          gi_wp2_with fail
          rw [HWA.out]
          refine ⟨HA.out, ?_⟩
          (try rw [hWB])
          clear hWB HA HWA
          gi_wp2_with fail
          refine ⟨trivial, ?_⟩
          refine htd.mono ?_
          rintro e w3 ⟨rfl, b3⟩
          clear htd
          obtain ⟨X3, hX3⟩ : ∃ X, w3.alloc (.cells #[.int .i64 c0, .int .i64 (li : Int), .int .i64 (co : Int), .string wd0] 26) = X := ⟨_, rfl⟩
          have d3 : Below w3.heap.size w3 X3 := by rw [← hX3]; exact belowA1 _ _
          have hG3 : FtC X3 w3.heap.size (.int .i64 c0) (.int .i64 (li : Int)) (.int .i64 (co : Int)) (.string wd0) := by rw [← hX3]; exact ftc_new _ rfl
          have d4 : Below WB.heap.size WB X3 := bstep1 b3 d3
          have hC4 := HC.out.off h0w (Off.of d4)
          have hT4 := hTB.below d4
          have cn : X3.cell? ⟨q + 4, 0, none⟩ = some (.int .i64 (outs.length : Int)) := by simp [World.cell?, hC4.nn]
          have ca : X3.cell? ⟨q + 3, 0, none⟩ = some (.int .i64 (al.length : Int)) := by simp [World.cell?, hC4.al]
          have cwt : X3.cell? ⟨q, 0, none⟩ = some (.slice ao ln cp) := by simp [World.cell?, hC4.wt]
          have hge : ¬ (al.length : Int) ≤ (outs.length : Int) := by omega
          have HLN : Hid (ln = outs.length) := by
            show _ = _
            rcases hC4.tr.form with ⟨h, h9⟩ | ⟨g, cap, h, _, _⟩
            · simp only [Value.slice.injEq] at h; rw [← hwo, h9]; exact h.2.1
            · simp only [Value.slice.injEq] at h; rw [← hwo]; exact h.2.1
          have HLW : Hid (¬ outs.length < wo.length) := by rw [hwo]; exact Nat.lt_irrefl _
          have HEQ : Hid ((outs.length : Int) = (wo.length : Int)) := by rw [hwo]; rfl
          have hnz2 : outs.length < 4294967300 := by omega
          have HC4 : Hid (WkC w q most (.slice ao ln cp) (c0, (li : Int), (co : Int), wd0) wo al.length outs.length _ X3) := hC4
          have HD4 : Hid (Below WB.heap.size WB X3) := d4
          have HT4 : Hid (TkC X3 W1.heap.size (.int .i8 0) (.string ⟨#[]⟩) (.int .i64 0) (.int .i64 0)) := hT4
          have HG3 : Hid (FtC X3 w3.heap.size (.int .i64 c0) (.int .i64 (li : Int)) (.int .i64 (co : Int)) (.string wd0)) := hG3
          clear hC4 HC hTB hT4 hG3 d3 d4 b3 HLN hwo hNi
          gi_wp2_with fail
          refine round_quiet (by kernel_rfl) (by kernel_rfl) (by kernel_rfl) ?_
          iterate 5 quiet_step (fail)
          iterate 11 (refine wpQuiet_step (fun K hK => ?_); go_simp; first | (rw [if_neg HLW.out]; refine hK _ ?_; clear hK K) | (refine hK _ ?_; clear hK K))
          refine wpQuiet_nil ?_
          intro _ hw'
          obtain ⟨nq, hw''⟩ := hw'
          subst hw''
          have D := below_drewN (Below.refl X3.heap.size X3) nq
          have hCY := HC4.out.off h0w (Off.of D)
          have dY : Below WB.heap.size WB (X3.drewN nq) := bstep1 HD4.out D
          have hTY := HT4.out.below D
          have hGY := HG3.out.below D
          clear HC4 HD4 D hX3 cn ca cwt HT4 HG3
          generalize X3.drewN nq = Y at *
          have cn : Y.cell? ⟨q + 4, 0, none⟩ = some (.int .i64 (outs.length : Int)) := by simp [World.cell?, hCY.nn]
          have fn4 : Y.frozen? ⟨q + 4, 0, none⟩ = false := frozen_of_row Y _ 0 _ _ hCY.nn
          have cm : Y.cell? ⟨w.heap.size, 0, none⟩ = some (.int .i64 most) := by simp [World.cell?, hCY.ms]
          have cwt : Y.cell? ⟨q, 0, none⟩ = some (.slice ao ln cp) := by simp [World.cell?, hCY.wt]
          obtain ⟨t0, t1, t2, t3⟩ := hTY.cells
          obtain ⟨g0, g1, g2, g3⟩ := hGY.cells
          obtain ⟨p0, p1, p2, p3⟩ := hCY.ft.cells
          dsimp only at p0 p1 p2 p3
          have hbq := hCY.bq
          have hX := hCY.next h0w
          have HGX := HG.out _ hX (by have := dY.size; simpa [World.setCell] using this) (fun k' a b => by rw [Below.heap_setCell _ _ _ _ (show k' ≠ q + 4 by omega), dY.block _ (by omega)])
          have hcast : ((outs.length + 1 : Nat) : Int) = (outs.length : Int) + 1 := by omega
          rw [hcast, HEQ.out] at HGX
          have HGY : Hid _ := HGX
          clear HGX hX hCY dY HG hTY hGY
          by_cases hmo : (wo.length : Int) + 1 = most
          · have hmb2 : ((wo.length : Int) + 1 == most) = true := by rw [hmo]; simp
            gi_wp2
            rw [show Y.setCell ⟨q + 4, 0, none⟩ (.int .i64 most) = Y.setCell ⟨q + 4, 0, none⟩ (.int .i64 ((wo.length : Int) + 1)) by rw [hmo]]
            exact HGY.out.2 hmo
          · have hmb2 : ((wo.length : Int) + 1 == most) = false := beq_eq_false_iff_ne.2 hmo
            gi_wp2
            exact HGY.out.1 hmo
        | tok k ms li co j =>
          obtain ⟨rfl, rfl⟩ := ht
          have hgt := hpt1 rfl
          clear hpt1 hpf1 hp
          obtain ⟨WA, hWA⟩ : ∃ WA, W1.alloc (.cells #[.int .i8 k, .string ms, .int .i64 (li : Int), .int .i64 (co : Int)] 38) = WA := ⟨_, rfl⟩
          have bA : Below W1.heap.size W1 WA := by rw [← hWA]; exact belowA1 _ _
          have zA : WA.heap.size = W1.heap.size + 1 := by rw [← hWA]; simp
          have hcA := hc.off h0w (Off.of bA)
          have hTA : TkC WA W1.heap.size (.int .i8 k) (.string ms) (.int .i64 (li : Int)) (.int .i64 (co : Int)) := by rw [← hWA]; exact tkc_new _ rfl
          obtain ⟨WB, hWB⟩ : ∃ WB, WA.putObj (q + 6) (.loop { lo' with state := .busy }) = WB := ⟨_, rfl⟩
          have hcB : WkC w q most (.slice ao ln cp) (c0, li0, co0, wd0) wo al.length outs.length { lo' with state := .busy } WB := by rw [← hWB]; exact hcA.put h0w _
          have hkB : ∀ k, k ≠ q + 6 → k < W1.heap.size → WB.heap[k]? = W1.heap[k]? := fun k h1 h2 => by rw [← hWB, World.putObj_heap_other h1, bA.block _ h2]
          have zB : WB.heap.size = W1.heap.size + 1 := by rw [← hWB]; simp [zA]
          have hTB : TkC WB W1.heap.size (.int .i8 k) (.string ms) (.int .i64 (li : Int)) (.int .i64 (co : Int)) := by
            unfold TkC; rw [← hWB, World.putObj_heap_other (by omega)]; exact hTA
          have htd := CallsIn.inRound (q + 6) ((callsIn_wide (n := 1)).2 (told_nil WB))
          have HA : Hid (WA.heap[q + 6]? = some (.loop lo')) := hcA.rc
          have HC : Hid (WkC w q most (.slice ao ln cp) (c0, li0, co0, wd0) wo al.length outs.length { lo' with state := .busy } WB) := hcB
          have HG : Hid (∀ X, WkC w q most (.slice ao ln cp) (c0, li0, co0, wd0) wo al.length (outs.length + 1) { lo' with state := .busy } X → WB.heap.size ≤ X.heap.size → (∀ k, (k = 1 ∨ q + 7 ≤ k) → k < W1.heap.size → X.heap[k]? = WB.heap[k]?) → (((outs.length + 1 : Nat) : Int) ≠ most → X.heap[q + 6]? = some (.loop { lo' with state := .busy }) ∧ Go_ (X.putObj (q + 6) (.loop lo'))) ∧ (((outs.length + 1 : Nat) : Int) = most → X.heap[q + 6]? = some (.loop { lo' with state := .busy }) ∧ Lv_ (.exit 0) (X.putObj (q + 6) (.loop { lo' with state := .done, pending := some (.exit 0) })))) := by
            intro X h1 h2 h3
            refine ⟨fun h4 => ⟨h1.rc, ?_⟩, fun h4 => ⟨h1.rc, ?_⟩⟩
            · rw [hGo]
              exact ⟨h1.put h0w _, h4, by simp; omega, fun k a b => by rw [World.putObj_heap_other (by omega), h3 k a b, hkB k (by omega) b]⟩
            · rw [hLv]
              exact ⟨rfl, h4, h1.put h0w _⟩
          clear hcA hcB hTA bA zA hc hGo hLv hkB HL hbx7 hm7 hst
          subst hlo
          dsimp only [recOf] at HA HC HG hWB ⊢
          gi_wp2_with fail
          refine ⟨HA.out, ?_⟩
          (try rw [hWB])
          clear hWB HA hWA
          gi_wp2_with fail
          refine ⟨trivial, ?_⟩
          refine htd.mono ?_
          rintro e w3 ⟨rfl, b3⟩
          clear htd
          obtain ⟨X3, hX3⟩ : ∃ X, w3.alloc (.cells #[.int .i64 0, .int .i64 0, .int .i64 0, .string ⟨#[]⟩] 26) = X := ⟨_, rfl⟩
          have d3 : Below w3.heap.size w3 X3 := by rw [← hX3]; exact belowA1 _ _
          have hG3 : FtC X3 w3.heap.size (.int .i64 0) (.int .i64 0) (.int .i64 0) (.string ⟨#[]⟩) := by rw [← hX3]; exact ftc_new _ rfl
          obtain ⟨X4, hX4⟩ : ∃ X, (((X3.setCell ⟨w3.heap.size, 0, none⟩ (.int .i64 0)).setCell ⟨w3.heap.size, 1, none⟩ (.int .i64 0)).setCell ⟨w3.heap.size, 2, none⟩ (.int .i64 0)).setCell ⟨w3.heap.size, 3, none⟩ (.string ⟨#[]⟩) = X := ⟨_, rfl⟩
          have d4 : Below WB.heap.size WB X4 := by
            have hle := b3.size
            rw [← hX4]
            exact ((((bstep1 b3 d3).setCell (p := ⟨w3.heap.size, 0, none⟩) hle _).setCell (p := ⟨w3.heap.size, 1, none⟩) hle _).setCell (p := ⟨w3.heap.size, 2, none⟩) hle _).setCell (p := ⟨w3.heap.size, 3, none⟩) hle _
          have hC4 := HC.out.off h0w (Off.of d4)
          have hT4 := hTB.below d4
          obtain ⟨e0, e1, e2, e3⟩ := hG3.cells
          have y0 := hG3.thaw 0
          have y1 := hG3.thaw 1
          have y2 := hG3.thaw 2
          have y3 := hG3.thaw 3
          obtain ⟨t0, t1, t2, t3⟩ := hT4.cells
          have cn : X4.cell? ⟨q + 4, 0, none⟩ = some (.int .i64 (outs.length : Int)) := by simp [World.cell?, hC4.nn]
          have fn4 : X4.frozen? ⟨q + 4, 0, none⟩ = false := frozen_of_row X4 _ 0 _ _ hC4.nn
          have ca : X4.cell? ⟨q + 3, 0, none⟩ = some (.int .i64 (al.length : Int)) := by simp [World.cell?, hC4.al]
          have cm : X4.cell? ⟨w.heap.size, 0, none⟩ = some (.int .i64 most) := by simp [World.cell?, hC4.ms]
          have cwt : X4.cell? ⟨q, 0, none⟩ = some (.slice ao ln cp) := by simp [World.cell?, hC4.wt]
          have hge : ¬ (al.length : Int) ≤ (outs.length : Int) := by omega
          obtain ⟨g, hao, hln2, hrow⟩ : ∃ g, ao = some ⟨g, 0, none⟩ ∧ ln = wo.length ∧ X4.cell? ⟨g, outs.length * 4, none⟩ = some (.int .i8 k) ∧ X4.cell? ⟨g, outs.length * 4 + 1, none⟩ = some (.string ms) ∧ X4.cell? ⟨g, outs.length * 4 + 2, none⟩ = some (.int .i64 (li : Int)) ∧ X4.cell? ⟨g, outs.length * 4 + 3, none⟩ = some (.int .i64 (co : Int)) := by
            rcases hC4.tr.form with ⟨_, h⟩ | ⟨g, cap, h, _, h2⟩
            · rw [h] at hgt; cases hgt
            · simp only [Value.slice.injEq] at h
              exact ⟨g, h.1, h.2.1, h2 _ _ _ _ _ _ hgt⟩
          obtain ⟨r0, r1, r2, r3⟩ := hrow
          have hlw : (outs.length : Int) < (ln : Int) := by
            have h := (List.getElem?_eq_some_iff.1 hgt).1
            omega
          have hnl : ¬ (outs.length : Int) = (ln : Int) := by omega
          have hlw2 : outs.length < wo.length := (List.getElem?_eq_some_iff.1 hgt).1
          have hnz2 : outs.length < 4294967300 := by omega
          subst hao
          have HC4 : Hid (WkC w q most (.slice (some ⟨g, 0, none⟩) ln cp) (c0, li0, co0, wd0) wo al.length outs.length _ X4) := hC4
          have HD4 : Hid (Below WB.heap.size WB X4) := d4
          clear hC4 HC hgt hTB hT4 hG3 d3 d4 b3
          gi_wp2_with fail
          refine round_quiet (by kernel_rfl) (by kernel_rfl) (by kernel_rfl) ?_
          repeat (quiet_step (fail))
          refine wpQuiet_nil ?_
          intro _ hw'
          obtain ⟨nq, hw''⟩ := hw'
          subst hw''
          have D := below_drewN (Below.refl X4.heap.size X4) nq
          have hCY := HC4.out.off h0w (Off.of D)
          have dY : Below WB.heap.size WB (X4.drewN nq) := bstep1 HD4.out D
          clear HC4 HD4 D hX3 hX4 e0 e1 e2 e3 y0 y1 y2 y3 t0 t1 t2 t3 r0 r1 r2 r3 cn fn4 ca cm cwt
          generalize X4.drewN nq = Y at *
          have cn : Y.cell? ⟨q + 4, 0, none⟩ = some (.int .i64 (outs.length : Int)) := by simp [World.cell?, hCY.nn]
          have fn4 : Y.frozen? ⟨q + 4, 0, none⟩ = false := frozen_of_row Y _ 0 _ _ hCY.nn
          have cm : Y.cell? ⟨w.heap.size, 0, none⟩ = some (.int .i64 most) := by simp [World.cell?, hCY.ms]
          have cwt : Y.cell? ⟨q, 0, none⟩ = some (.slice (some ⟨g, 0, none⟩) ln cp) := by simp [World.cell?, hCY.wt]
          have hbq := hCY.bq
          have hX := hCY.next h0w
          have HGX := HG.out _ hX (by have := dY.size; simpa [World.setCell] using this) (fun k' a b => by rw [Below.heap_setCell _ _ _ _ (show k' ≠ q + 4 by omega), dY.block _ (by omega)])
          have hcast : ((outs.length + 1 : Nat) : Int) = (outs.length : Int) + 1 := by omega
          rw [hcast] at HGX
          have HGY : Hid _ := HGX
          clear HGX hX hCY dY HG
          by_cases hmo : (outs.length : Int) + 1 = most
          · have hmb2 : ((outs.length : Int) + 1 == most) = true := by rw [hmo]; simp
            have hz9 := HGY.out.2 hmo
            rw [hmo] at hz9
            have HZ : Hid _ := hz9
            clear hz9 HGY
            gi_wp2
            exact HZ.out
          · have hmb2 : ((outs.length : Int) + 1 == most) = false := beq_eq_false_iff_ne.2 hmo
            gi_wp2
            exact HGY.out.1 hmo
    case done =>
      clear hNi HN hW6 HL
      rintro W2 lo ⟨lo', h1, h2⟩ hdf hlt
      rw [hz6] at hdf hlt ⊢
      have h0w : 0 < w.heap.size := by omega
      have h4 := h1.put h0w lo
      show Exit.inBlock 0 _ _ _ (W2.putObj (q + 6) (.loop lo))
      generalize W2.putObj (q + 6) (.loop lo) = W3 at *
      have cn : W3.cell? ⟨q + 4, 0, none⟩ = some (.int .i64 (al.length : Int)) := by simp [World.cell?, h4.nn]
      have ca : W3.cell? ⟨q + 3, 0, none⟩ = some (.int .i64 (al.length : Int)) := by simp [World.cell?, h4.al]
      have cm : W3.cell? ⟨w.heap.size, 0, none⟩ = some (.int .i64 most) := by simp [World.cell?, h4.ms]
      have cr : W3.cell? ⟨w.heap.size + 1, 0, none⟩ = some (.bool false) := by simp [World.cell?, h4.rs]
      have fr : W3.frozen? ⟨w.heap.size + 1, 0, none⟩ = false := frozen_of_row W3 _ 0 _ _ h4.rs
      by_cases hm1 : 1 ≤ most
      · have hmx : (al.length : Int) < most := by
          rcases Int.lt_or_le (al.length : Int) most with h | h
          · exact h
          · exact absurd (show ((most.toNat : Nat) : Int) = most by omega) (h2 most.toNat (by omega) (by omega))
        have hwN : IntKind.i64.wrap (al.length : Int) = (al.length : Int) := by rw [IntKind.wrap_i64]; omega
        have HB : Hid (W3.heap[q + 5]? = some (.deferred (some [])) ∧ Below w.heap.size w W3 ∧ w.heap.size + 1 < q) := ⟨h4.df, h4.bel, h4.bq⟩
        clear h4 h1 h2 hdf hlt hplt hpt hpf htk hNz
        generalize (al.length : Int) = N at *
        have hg1 : ¬ most < N := by omega
        have hg2 : ¬ most ≤ N := by omega
        have hg3 : min most N = N := by omega
        gi_wp2
        obtain ⟨hdf3, hbl3, hbq3⟩ := HB.out
        have hdfZ : (W3.setCell ⟨w.heap.size + 1, 0, none⟩ (.bool true)).heap[q + 5]? = some (.deferred (some [])) := by rw [Below.heap_setCell _ _ _ _ (show q + 5 ≠ w.heap.size + 1 by omega)]; exact hdf3
        refine ⟨by simp, .inl ⟨_, _, rfl, run_takeDeferred hdfZ, ?_⟩⟩
        refine ⟨_, results_c1 (p := 4) rfl _ _ (w.heap.size + 1) (.bool true) _ rfl ?_ Tryd.underlying4 rfl, rfl, (hbl3.setCell (p := ⟨w.heap.size + 1, 0, none⟩) (Nat.le_succ _) _).trans (below_put _ (by omega))⟩
        rw [World.cell?_of_block (World.putObj_heap_other (show w.heap.size + 1 ≠ q + 5 by omega))]
        exact World.cell?_setCell_same' _ _ _ (by rw [cr]; rfl)
      · have hm2 : most < 1 := by omega
        have HB : Hid (W3.heap[q + 5]? = some (.deferred (some [])) ∧ Below w.heap.size w W3 ∧ w.heap.size + 1 < q) := ⟨h4.df, h4.bel, h4.bq⟩
        clear h4 h1 h2 hdf hlt hplt hpt hpf htk hNz
        gi_wp2
        obtain ⟨hdf3, hbl3, hbq3⟩ := HB.out
        have hdfZ : (W3.setCell ⟨w.heap.size + 1, 0, none⟩ (.bool true)).heap[q + 5]? = some (.deferred (some [])) := by rw [Below.heap_setCell _ _ _ _ (show q + 5 ≠ w.heap.size + 1 by omega)]; exact hdf3
        refine ⟨by simp, .inl ⟨_, _, rfl, run_takeDeferred hdfZ, ?_⟩⟩
        refine ⟨_, results_c1 (p := 4) rfl _ _ (w.heap.size + 1) (.bool true) _ rfl ?_ Tryd.underlying4 rfl, rfl, (hbl3.setCell (p := ⟨w.heap.size + 1, 0, none⟩) (Nat.le_succ _) _).trans (below_put _ (by omega))⟩
        rw [World.cell?_of_block (World.putObj_heap_other (show w.heap.size + 1 ≠ q + 5 by omega))]
        exact World.cell?_setCell_same' _ _ _ (by rw [cr]; rfl)
    case stop =>
      clear hNi HN hW6 HL
      rintro W2 lo c ⟨rfl, lo', k, h1, h2, h3, h5⟩ hdf hlt
      rw [hz6] at hdf hlt ⊢
      have h0w : 0 < w.heap.size := by omega
      have h4 := h5.put h0w lo
      show Code.wpIn _ _ _ _ _ _ (W2.putObj (q + 6) (.loop lo))
      generalize W2.putObj (q + 6) (.loop lo) = W3 at *
      have cn : W3.cell? ⟨q + 4, 0, none⟩ = some (.int .i64 most) := by rw [← h3]; simp [World.cell?, h4.nn]
      have ca : W3.cell? ⟨q + 3, 0, none⟩ = some (.int .i64 (al.length : Int)) := by simp [World.cell?, h4.al]
      have cm : W3.cell? ⟨w.heap.size, 0, none⟩ = some (.int .i64 most) := by simp [World.cell?, h4.ms]
      have cr : W3.cell? ⟨w.heap.size + 1, 0, none⟩ = some (.bool false) := by simp [World.cell?, h4.rs]
      have fr : W3.frozen? ⟨w.heap.size + 1, 0, none⟩ = false := frozen_of_row W3 _ 0 _ _ h4.rs
      have hm1 : 1 ≤ most := by omega
      have hmx : most ≤ (al.length : Int) := by omega
      · have hwN : IntKind.i64.wrap (al.length : Int) = (al.length : Int) := by rw [IntKind.wrap_i64]; omega
        have HB : Hid (W3.heap[q + 5]? = some (.deferred (some [])) ∧ Below w.heap.size w W3 ∧ w.heap.size + 1 < q) := ⟨h4.df, h4.bel, h4.bq⟩
        clear h4 h5 h1 h2 h3 hdf hlt hplt hpt hpf htk hNz
        generalize (al.length : Int) = N at *
        have hg1 : ¬ N < most := by omega
        have hg3 : min most N = most := by omega
        gi_wp2
        obtain ⟨hdf3, hbl3, hbq3⟩ := HB.out
        have hdfZ : (W3.setCell ⟨w.heap.size + 1, 0, none⟩ (.bool true)).heap[q + 5]? = some (.deferred (some [])) := by rw [Below.heap_setCell _ _ _ _ (show q + 5 ≠ w.heap.size + 1 by omega)]; exact hdf3
        refine ⟨by simp, .inl ⟨_, _, rfl, run_takeDeferred hdfZ, ?_⟩⟩
        refine ⟨_, results_c1 (p := 4) rfl _ _ (w.heap.size + 1) (.bool true) _ rfl ?_ Tryd.underlying4 rfl, rfl, (hbl3.setCell (p := ⟨w.heap.size + 1, 0, none⟩) (Nat.le_succ _) _).trans (below_put _ (by omega))⟩
        rw [World.cell?_of_block (World.putObj_heap_other (show w.heap.size + 1 ≠ q + 5 by omega))]
        exact World.cell?_setCell_same' _ _ _ (by rw [cr]; rfl)
end Go.Proofs.YtlemnbegblpllaaDoor

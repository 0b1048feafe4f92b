/-
  Proved here: the law LexScan, walked.
-/
import Derived.Test.YtjiolinhkadoaaaDoorLexPush
namespace Go.Proofs.YtjiolinhkadoaaaDoor
open Go.RowKit
/-- What is at hand between the steps of the law: three rows that are read, one that is written. -/
structure Rows3 (w : World) (m : Int) (v1 vb vm va : Value) (o1 o2 : List Out) (W : World) : Prop where
  r1 : TR W v1 o1
  rb : TR W vb o2
  rm : TR W vm o2
  n1 : va.ownBlock = none ∨ v1.ownBlock ≠ va.ownBlock
  nb : va.ownBlock = none ∨ vb.ownBlock ≠ va.ownBlock
  nm : va.ownBlock = none ∨ vm.ownBlock ≠ va.ownBlock
  hm : W.cell? ⟨1, 0, none⟩ = some (.int .i64 m)
  bel : Below w.heap.size w W
theorem ne_set {v va : Value} {g : Nat} (h : va.ownBlock = none ∨ v.ownBlock ≠ va.ownBlock) (hg : va.ownBlock = some g) : v.ownBlock ≠ some g := by
  rcases h with h | h
  · rw [h] at hg; cases hg
  · rw [hg] at h; exact h
theorem ne_row {v va : Value} (h : va.ownBlock = none ∨ v.ownBlock ≠ va.ownBlock) : v.ownBlock = none ∨ v.ownBlock ≠ va.ownBlock := by
  rcases h with h | h
  · rcases hv : v.ownBlock with _ | g
    · exact .inl rfl
    · rw [h]; exact .inr (fun e => by cases e)
  · exact .inr h
theorem Rows3.set {w : World} {m : Int} {v1 vb vm va : Value} {o1 o2 : List Out} {W : World} (h : Rows3 w m v1 vb vm va o1 o2 W) {p : Addr} (hp : va.ownBlock = some p.block) (hw : w.heap.size ≤ p.block) (h1 : 1 < w.heap.size) (u : Value) : Rows3 w m v1 vb vm va o1 o2 (W.setCell p u) :=
  ⟨h.r1.set (ne_set h.n1 hp) u, h.rb.set (ne_set h.nb hp) u, h.rm.set (ne_set h.nm hp) u, h.n1, h.nb, h.nm, by rw [World.cell?_of_block (Below.heap_setCell _ _ _ _ (show 1 ≠ p.block by omega))]; exact h.hm, h.bel.setCell hw u⟩
theorem Rows3.below {w : World} {m : Int} {v1 vb vm va : Value} {o1 o2 : List Out} {W W' : World} (h : Rows3 w m v1 vb vm va o1 o2 W) (hb : Below W.heap.size W W') : Rows3 w m v1 vb vm va o1 o2 W' :=
  ⟨h.r1.below hb, h.rb.below hb, h.rm.below hb, h.n1, h.nb, h.nm, keepB2 hb h.hm, bstep1 h.bel hb⟩
theorem ne_new {v va v' : Value} {o : List Out} {W : World} (h : va.ownBlock = none ∨ v.ownBlock ≠ va.ownBlock) (hT : TR W v o) (hn : v'.ownBlock = va.ownBlock ∨ ∀ g, v'.ownBlock = some g → W.heap.size ≤ g) : v'.ownBlock = none ∨ v.ownBlock ≠ v'.ownBlock := by
  rcases hn with hn | hn
  · rw [hn]; exact h
  · rcases hv : v'.ownBlock with _ | g
    · exact .inl rfl
    · exact .inr fun e => by have h1 := hn g hv; have h2 := hT.lt g e; omega
theorem Rows3.grown {w : World} {m : Int} {v1 vb vm va v' : Value} {o1 o2 : List Out} {W W' : World} (h : Rows3 w m v1 vb vm va o1 o2 W) (hg : W.grownBy W' va.ownBlock) (hw : ∀ g, va.ownBlock = some g → w.heap.size ≤ g) (h1 : 1 < w.heap.size) (hn : v'.ownBlock = va.ownBlock ∨ ∀ g, v'.ownBlock = some g → W.heap.size ≤ g) : Rows3 w m v1 vb vm v' o1 o2 W' := by
  have hk : ∀ k, k < w.heap.size → W'.heap[k]? = W.heap[k]? := fun k hk => hg.block k (Nat.lt_of_lt_of_le hk h.bel.size) (fun e => by have := hw k e.symm; omega)
  exact ⟨h.r1.grown hg (ne_row h.n1), h.rb.grown hg (ne_row h.nb), h.rm.grown hg (ne_row h.nm), ne_new h.n1 h.r1 hn, ne_new h.nb h.rb hn, ne_new h.nm h.rm hn, by rw [World.cell?_of_block (hk 1 h1)]; exact h.hm, h.bel.trans ⟨hg.os, hg.tape, hg.output, hg.size, hk⟩⟩
set_option maxRecDepth 100000 in
set_option maxHeartbeats 6400000 in
theorem lexScan_top (t o : ByteArray) (w : World) (m : Int) (hm : w.cell? ⟨1, 0, none⟩ = some (.int .i64 m)) (hg : ErrT w) (hbd : t.size + o.size ≤ 1048576) (_ : t.size ≤ maxLen) (_ : o.size ≤ maxLen) :
    Calls Tryd.prog 3 #[.string t, .string o] w fun e w' => e = .returned (.bool true) ∧ Below w.heap.size w w' := by
  have h1w : 1 < w.heap.size := block_lt_of_cell hm
  have hA := awake_yes m w hm hg
  have R1 := fun w => scanR_both t w (by omega)
  have R2 := fun w => scanR_both o w (by omega)
  have S1 := fun w hm => scan_both t m w (by omega) hm
  have S2 := fun w hm => scan_both o m w (by omega) hm
  have hl1 : (outsOf (allF t 0)).length < 1048580 := Nat.lt_of_le_of_lt (Nat.le_trans (outsOf_len _) (tolds_len t _ _)) (by omega)
  have hl2 : (outsOf (allF o 0)).length < 1048580 := Nat.lt_of_le_of_lt (Nat.le_trans (outsOf_len _) (tolds_len o _ _)) (by omega)
  have ht1 := outsOf_toks (allF t 0)
  have ht2 := outsOf_toks (allF o 0)
  generalize outsOf (allF t 0) = o1 at *
  generalize outsOf (allF o 0) = o2 at *
  generalize fzOf (allF t 0) = z1 at *
  generalize fzOf (allF o 0) = z2 at *
  obtain ⟨c1, li1, co1, wd1⟩ := z1
  obtain ⟨c2, li2, co2, wd2⟩ := z2
  unfold fV at R1 R2 S1 S2
  dsimp only at R1 R2 S1 S2
  obtain ⟨i0, hi0, hz00, hz1, hz2⟩ := info_parts Tryd.infoTok
  go_enter Tryd.func3, Tryd.ntmps3
  go_wp2_with fail
  refine hA.mono ?_
  rintro e w1 ⟨rfl, b1⟩
  clear hA
  have hm1 := keepB2 b1 hm
  have hg1 : ErrT w1 := keepB2 b1 hg
  clear hm hg
  go_wp2_with fail
  refine (R1 _).mono ?_
  rintro e w2 ⟨v1, rfl, hr1, b2⟩
  clear R1
  have hm2 := keepB2 b2 hm1
  have hg2 : ErrT w2 := keepB2 b2 hg1
  have T1 := TR.of_row ht1 hr1
  have B2 := bstep1 b1 b2
  clear hm1 hg1 b1 b2 hr1
  obtain ⟨X2, hX2⟩ : ∃ X, w2.alloc (.cells #[.int .i64 c1, .int .i64 li1, .int .i64 co1, .string wd1] 26) = X := ⟨_, rfl⟩
  have d2 : Below w2.heap.size w2 X2 := by rw [← hX2]; exact belowA1 _ _
  have F1 : FtC X2 w2.heap.size (.int .i64 c1) (.int .i64 li1) (.int .i64 co1) (.string wd1) := by rw [← hX2]; exact ftc_new _ rfl
  replace hm2 := keepB2 d2 hm2
  replace hg2 : ErrT X2 := keepB2 d2 hg2
  replace T1 := T1.below d2
  replace B2 := bstep1 B2 d2
  have hv1 := T1.lt
  have hwX : w.heap.size ≤ X2.heap.size := B2.size
  have s1 := S1 X2 hm2
  go_wp2_with fail
  refine s1.mono ?_
  rintro e w3 ⟨va, ev1, rfl, hra, b3, htold1⟩
  clear s1
  have hm3 := keepB2 b3 hm2
  have hg3 : ErrT w3 := keepB2 b3 hg2
  have htd := htold1 hg3
  clear htold1
  replace T1 := T1.below b3
  replace F1 := F1.below b3
  replace B2 := bstep1 B2 b3
  have hsz : X2.heap.size ≤ w3.heap.size := b3.size
  have hal : ∀ g, va.ownBlock = some g → X2.heap.size ≤ g := fun g h => (hra.lt g h).1
  go_wp2_with fail
  refine htd.mono ?_
  rintro e w4 ⟨rfl, b4⟩
  clear htd
  obtain ⟨X4, hX4⟩ : ∃ X, w4.alloc (.cells #[.int .i64 c1, .int .i64 li1, .int .i64 co1, .string wd1] 26) = X := ⟨_, rfl⟩
  have d4 : Below w4.heap.size w4 X4 := by rw [← hX4]; exact belowA1 _ _
  have b5 : Below w3.heap.size w3 X4 := bstep1 b4 d4
  have G1 : FtC X4 w4.heap.size (.int .i64 c1) (.int .i64 li1) (.int .i64 co1) (.string wd1) := by rw [← hX4]; exact ftc_new _ rfl
  have hm5 := keepB2 b5 hm3
  have hg5 : ErrT X4 := keepB2 b5 hg3
  have hra5 : X4.ownsRow X2.heap.size 38 4 va o1.length (o1.flatMap tokCells) := hra.kept (Off.of (g := w3.heap.size) b5) (.inr fun e => by have := (hra.lt _ e).2; omega)
  replace T1 := T1.below b5
  replace F1 := F1.below b5
  replace B2 := bstep1 B2 b5
  replace hsz := Nat.le_trans hsz b5.size
  clear hm3 hg3 hra b4 d4 b5 hm2 hg2 d2 b3
  have TA := TR.of_row ht1 hra5
  have sm1 := sameR_yes va v1 o1 X4 TA T1 (by omega)
  have HF : Hid (FtC X4 w2.heap.size (.int .i64 c1) (.int .i64 li1) (.int .i64 co1) (.string wd1)) := F1
  obtain ⟨f0, f1, f2, f3⟩ := F1.cells
  obtain ⟨g0, g1, g2, g3⟩ := G1.cells
  go_wp2_with fail
  refine sm1.mono ?_
  rintro e w6 ⟨rfl, b6⟩
  clear sm1 f0 f1 f2 f3 g0 g1 g2 g3 HF F1 G1
  have hm6 := keepB2 b6 hm5
  have hg6 : ErrT w6 := keepB2 b6 hg5
  have hra6 : w6.ownsRow X2.heap.size 38 4 va o1.length (o1.flatMap tokCells) := hra5.kept (Off.of (g := X4.heap.size) b6) (.inr fun e => by have := (hra5.lt _ e).2; omega)
  replace T1 := T1.below b6
  replace B2 := bstep1 B2 b6
  replace hsz := Nat.le_trans hsz b6.size
  clear hm5 hg5 hra5 b6 TA
  have s2 := S2 w6 hm6
  go_wp2_with fail
  refine s2.mono ?_
  rintro e w7 ⟨vb, ev2, rfl, hrb, b7, htold2⟩
  clear s2
  have hm7 := keepB2 b7 hm6
  have hg7 : ErrT w7 := keepB2 b7 hg6
  have htd := htold2 hg7
  clear htold2
  have hbl : ∀ g, vb.ownBlock = some g → w6.heap.size ≤ g := fun g h => (hrb.lt g h).1
  have hau : ∀ g, va.ownBlock = some g → g < w6.heap.size := fun g h => (hra6.lt g h).2
  have hra7 : w7.ownsRow X2.heap.size 38 4 va o1.length (o1.flatMap tokCells) := hra6.kept (Off.of (g := w6.heap.size) b7) (.inr fun e => by have := (hra6.lt _ e).2; omega)
  have TB := TR.of_row ht2 hrb
  replace T1 := T1.below b7
  replace B2 := bstep1 B2 b7
  replace hsz := Nat.le_trans hsz b7.size
  have hs67 := b7.size
  clear hm6 hg6 hra6 hrb b7
  go_wp2_with fail
  refine htd.mono ?_
  rintro e w8 ⟨rfl, b8⟩
  clear htd
  obtain ⟨X8, hX8⟩ : ∃ X, w8.alloc (.cells #[.int .i64 c2, .int .i64 li2, .int .i64 co2, .string wd2] 26) = X := ⟨_, rfl⟩
  have d8 : Below w8.heap.size w8 X8 := by rw [← hX8]; exact belowA1 _ _
  have b9 : Below w7.heap.size w7 X8 := bstep1 b8 d8
  have F2 : FtC X8 w8.heap.size (.int .i64 c2) (.int .i64 li2) (.int .i64 co2) (.string wd2) := by rw [← hX8]; exact ftc_new _ rfl
  have hm9 := keepB2 b9 hm7
  have hra9 : X8.ownsRow X2.heap.size 38 4 va o1.length (o1.flatMap tokCells) := hra7.kept (Off.of (g := w7.heap.size) b9) (.inr fun e => by have := (hra7.lt _ e).2; omega)
  replace T1 := T1.below b9
  replace TB := TB.below b9
  replace B2 := bstep1 B2 b9
  replace hsz := Nat.le_trans hsz b9.size
  have hs69 := Nat.le_trans hs67 b9.size
  clear hm7 hg7 hra7 b8 d8 b9 hs67
  go_wp2_with fail
  refine (R2 _).mono ?_
  rintro e w10 ⟨vm, rfl, hrm, b10⟩
  clear R2
  obtain ⟨X10, hX10⟩ : ∃ X, w10.alloc (.cells #[.int .i64 c2, .int .i64 li2, .int .i64 co2, .string wd2] 26) = X := ⟨_, rfl⟩
  have d10 : Below w10.heap.size w10 X10 := by rw [← hX10]; exact belowA1 _ _
  have b11 : Below X8.heap.size X8 X10 := bstep1 b10 d10
  have G2 : FtC X10 w10.heap.size (.int .i64 c2) (.int .i64 li2) (.int .i64 co2) (.string wd2) := by rw [← hX10]; exact ftc_new _ rfl
  have hml : ∀ g, vm.ownBlock = some g → X8.heap.size ≤ g := fun g h => (hrm.lt g h).1
  have TM := (TR.of_row ht2 hrm).below d10
  have hm11 := keepB2 b11 hm9
  have hra11 : X10.ownsRow X2.heap.size 38 4 va o1.length (o1.flatMap tokCells) := hra9.kept (Off.of (g := X8.heap.size) b11) (.inr fun e => by have := (hra9.lt _ e).2; omega)
  replace T1 := T1.below b11
  replace TB := TB.below b11
  replace F2 := F2.below b11
  replace B2 := bstep1 B2 b11
  replace hsz := Nat.le_trans hsz b11.size
  clear hm9 hra9 hrm b10 d10 b11
  have sm2 := sameR_yes vb vm o2 X10 TB TM (by omega)
  obtain ⟨f0, f1, f2, f3⟩ := F2.cells
  obtain ⟨g0, g1, g2, g3⟩ := G2.cells
  go_wp2_with fail
  refine sm2.mono ?_
  rintro e w12 ⟨rfl, b12⟩
  clear sm2 f0 f1 f2 f3 g0 g1 g2 g3 F2 G2
  have hra12 : w12.ownsRow X2.heap.size 38 4 va o1.length (o1.flatMap tokCells) := hra11.kept (Off.of (g := X10.heap.size) b12) (.inr fun e => by have := (hra11.lt _ e).2; omega)
  have H12 : Rows3 w m v1 vb vm va o1 o2 w12 := by
    refine ⟨T1.below b12, TB.below b12, TM.below b12, ?_, ?_, ?_, keepB2 b12 hm11, bstep1 B2 b12⟩
    · rcases hva : va.ownBlock with _ | g
      · exact .inl rfl
      · exact .inr fun e => by have h1 := hv1 g e; have h2 := hal g hva; omega
    · rcases hva : va.ownBlock with _ | g
      · exact .inl rfl
      · exact .inr fun e => by have h1 := hbl g e; have h2 := hau g hva; omega
    · rcases hva : va.ownBlock with _ | g
      · exact .inl rfl
      · exact .inr fun e => by have h1 := hml g e; have h2 := hau g hva; omega
  replace hsz := Nat.le_trans hsz b12.size
  clear T1 TB TM B2 hm11 hra11 b12 hv1 hal hbl hau hml hs69
  obtain ⟨n, hn⟩ : ∃ n, n = o1.length := ⟨_, rfl⟩
  obtain ⟨ao, cap, hva⟩ : ∃ ao cap, va = .slice ao n cap := by
    rw [hn]
    rcases Joins.ownsRow_forms hra12 with ⟨h, h0⟩ | ⟨g, cap, h⟩
    · exact ⟨_, _, by rw [h, h0]⟩
    · exact ⟨_, _, h⟩
  subst hva
  rw [← hn] at hra12
  have hnz : n < 1048580 := by omega
  obtain ⟨B, hB⟩ : ∃ B, B = X2.heap.size := ⟨_, rfl⟩
  rw [← hB] at hra12 hsz hwX
  clear hn hB hX2 hX4 hX8 hX10
  go_wp2_with fail
  go_loopw [18] (fun t wr => ∃ (i : Nat) (xs : List Value), i ≤ n ∧ t = .int .i64 i ∧ wr.ownsRow B 38 4 (.slice ao n cap) n xs ∧ Rows3 w m v1 vb vm (.slice ao n cap) o1 o2 wr ∧ B ≤ wr.heap.size) (fun t _ => n - (intOf t).toNat)
  case atStart => exact ⟨0, _, Nat.zero_le _, rfl, hra12, H12, hsz⟩
  case round =>
    clear hra12 H12 hsz
    obtain ⟨i, xs, hin, rfl, hr, H, hs⟩ := hrel
    by_cases hlt : i < n
    · have hge : (i : Int) < (n : Int) := by omega
      obtain ⟨g, cap2, hq⟩ := Joins.ownsRow_form hr (by omega)
      simp only [Value.slice.injEq, true_and] at hq
      obtain ⟨rfl, _⟩ := hq
      have hgB : B ≤ g := (hr.lt g rfl).1
      have hl := hr.1
      have hc : ∀ r, r < 4 → wr.cell? ⟨g, i * 4 + r, none⟩ = some (xs[i * 4 + r]?.getD undef) := fun r hr4 => by
        rw [hr.cellAt (i * 4 + r) (by omega), List.getElem?_eq_getElem (by omega)]
        rfl
      have k0 := hc 0 (by omega)
      rw [Nat.add_zero] at k0
      have k1 := hc 1 (by omega)
      have k2 := hc 2 (by omega)
      have k3 := hc 3 (by omega)
      have y0 := hr.frozenAt (i * 4)
      have y1 := hr.frozenAt (i * 4 + 1)
      have y2 := hr.frozenAt (i * 4 + 2)
      have y3 := hr.frozenAt (i * 4 + 3)
      have hr2 := ((((hr.stored (i * 4) (.int .i8 9)).1.stored (i * 4 + 1) (.string ⟨#[]⟩)).1.stored (i * 4 + 2) (.int .i64 0)).1.stored (i * 4 + 3) (.int .i64 0)).1
      have H2 := (((H.set (p := ⟨g, i * 4, none⟩) rfl (Nat.le_trans hwX hgB) h1w (.int .i8 9)).set (p := ⟨g, i * 4 + 1, none⟩) rfl (Nat.le_trans hwX hgB) h1w (.string ⟨#[]⟩)).set (p := ⟨g, i * 4 + 2, none⟩) rfl (Nat.le_trans hwX hgB) h1w (.int .i64 0)).set (p := ⟨g, i * 4 + 3, none⟩) rfl (Nat.le_trans hwX hgB) h1w (.int .i64 0)
      have HR : Hid (World.ownsRow _ B 38 4 (.slice (some ⟨g, 0, none⟩) n cap) n _) := hr2
      have HH : Hid (Rows3 w m v1 vb vm (.slice (some ⟨g, 0, none⟩) n cap) o1 o2 _) := H2
      have HS : Hid (B ≤ ((((wr.setCell ⟨g, i * 4, none⟩ (.int .i8 9)).setCell ⟨g, i * 4 + 1, none⟩ (.string ⟨#[]⟩)).setCell ⟨g, i * 4 + 2, none⟩ (.int .i64 0)).setCell ⟨g, i * 4 + 3, none⟩ (.int .i64 0)).heap.size) := by show _ ≤ _; simpa [World.setCell] using hs
      clear hr2 H2 hr H hc hl S1 S2 hs
      go_wp2
      go_roundw
      case rel => exact ⟨i + 1, _, by omega, by go_num, HR.out, HH.out, HS.out⟩
      case measure => simp [intOf]; omega
    · have hge : ¬ (i : Int) < (n : Int) := by omega
      go_wp2_with fail
      go_loopw [8, 19] (fun sl t wr => ∃ (i : Nat) (va : Value) (xs : List Value), i ≤ 30 ∧ sl = va ∧ t = .int .i64 i ∧ wr.ownsRow B 38 4 va (n + i) xs ∧ Rows3 w m v1 vb vm va o1 o2 wr ∧ B ≤ wr.heap.size) (fun _ t _ => 30 - (intOf t).toNat)
      case atStart => exact ⟨0, _, xs, by omega, rfl, rfl, hr, H, hs⟩
      case round =>
        clear hr H hs hlt hge hin
        obtain ⟨i, va, xs, hin, hv, rfl, hr, H, hs⟩ := hrel
        replace hv := hv.symm
        subst hv
        by_cases hlt : i < 30
        · have hge : (i : Int) < 30 := by omega
          obtain ⟨w6, hw6⟩ : ∃ w6, w6 = wr.alloc (.cells #[.int .i8 8, .string ⟨#[]⟩, .int .i64 0, .int .i64 0] 38) := ⟨_, rfl⟩
          have b6 : Below wr.heap.size wr w6 := by rw [hw6]; exact belowA1 _ _
          have hT6 : TkC w6 wr.heap.size (.int .i8 8) (.string ⟨#[]⟩) (.int .i64 0) (.int .i64 0) := by rw [hw6]; exact tkc_new _ rfl
          have hnews := tkc_news hT6
          have hr6 : w6.ownsRow B 38 4 va (n + i) xs := by rw [hw6]; exact hr.alloc _
          have hs6 : B ≤ w6.heap.size := Nat.le_trans hs b6.size
          have H6 := H.below b6
          have HW6 : Hid (wr.alloc (.cells #[.int .i8 8, .string ⟨#[]⟩, .int .i64 0, .int .i64 0] 38) = w6) := hw6.symm
          have hm1 : n + i + 1 ≤ maxLen := by unfold maxLen; omega
          have hm2 : (n + i + 1) * 40 ≤ 140737488355328 := by omega
          have hwv : ∀ g, va.ownBlock = some g → w.heap.size ≤ g := fun g h => Nat.le_trans hwX (hr.lt g h).1
          have HH : Hid (Rows3 w m v1 vb vm va o1 o2 w6) := H6
          clear hw6 hT6 b6 hr H hs H6 S1 S2
          go_wp2_with (at_builtin; rw [HW6.out]; refine wpList_push4 _ rfl _ _ 23 rfl B 38 i0 _ 40 Tryd.underlying23 hi0 hz00 hz1 hz2 rfl _ _ _ rfl hr6 ⟨wr.heap.size, 0, none⟩ 1 1 [.int .i8 8, .string ⟨#[]⟩, .int .i64 0, .int .i64 0] rfl rfl hnews (by simp [Value.oneCell']) (by decide) hm1 hm2 hs6 ?_; intro v' w7 hown' hgrow hnew)
          exact ⟨⟨i + 1, v', _, by omega, rfl, by go_num, hown', HH.out.grown hgrow hwv h1w hnew, Nat.le_trans hs6 hgrow.size⟩, by simp [intOf]; omega⟩
        · have hge : ¬ (i : Int) < 30 := by omega
          have s3 := S1 wr H.hm
          clear S1 S2 hr
          go_wp2_with fail
          refine s3.mono ?_
          rintro e w13 ⟨vc, ev3, rfl, hrc, b13, _⟩
          clear s3
          have TC := TR.of_row ht1 hrc
          have H13 := H.below b13
          clear hrc H b13 hs
          have sm3 := sameR_yes vb vm o2 w13 H13.rb H13.rm (by omega)
          go_wp2_with fail
          refine sm3.mono ?_
          rintro e w14 ⟨rfl, b14⟩
          clear sm3
          have sm4 := sameR_yes vc v1 o1 w14 (TC.below b14) (H13.below b14).r1 (by omega)
          go_wp2_with fail
          refine sm4.mono ?_
          rintro e w15 ⟨rfl, b15⟩
          clear sm4
          go_wp2
          go_ret
          exact ⟨rfl, bstep1 (H13.below b14).bel b15⟩
end Go.Proofs.YtjiolinhkadoaaaDoor

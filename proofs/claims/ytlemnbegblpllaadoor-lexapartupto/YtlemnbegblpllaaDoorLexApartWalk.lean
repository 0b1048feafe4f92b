/-
  Proved here: the walk of LexApart.
-/
import Derived.Test.YtlemnbegblpllaaDoorLexApartBAll
import Derived.Deep.RegionHeld3
import Derived.Deep.DrawnRows
namespace Go.Proofs.YtlemnbegblpllaaDoor
open Go.RowKit
attribute [local go_sem ↓] Go.wp_at_zero Go.wp_at_succ
theorem Tryd.infoIA : (Tryd.prog.info? 3).map (fun i => (i.zero, i.size, i.bytes)) = some (some (.int .i64 0), 1, 8) := by kernel_rfl
set_option maxRecDepth 100000 in
set_option maxHeartbeats 6400000 in
theorem lexApart_top (s : ByteArray) (vb : Value) (zs : List Int) (w : World) (m : Int) (hm : w.cell? ⟨1, 0, none⟩ = some (.int .i64 m)) (hg : ErrT w) (hbd : s.size ≤ 1048576) (_ : s.size ≤ maxLen) (hvb : IR w vb zs) :
    Calls Tryd.prog 6 #[.string s, vb] w fun e w' => e = .returned (.bool true) ∧ Below w.heap.size w w' := by
  have h1w : 1 < w.heap.size := block_lt_of_cell hm
  have hA := awake_yes m w hm hg
  have S1 := fun w hm => scan_any s m w (by omega) hm
  obtain ⟨bo, bc, rfl, hbl, hbv, hbcell⟩ := hvb
  obtain ⟨i0, hi0, hz0, hz1, hz2⟩ := info_parts Tryd.infoIA
  go_enter Tryd.func6, Tryd.ntmps6
  go_wp2_with fail
  refine hA.mono ?_
  rintro e w1 ⟨rfl, b1⟩
  clear hA
  have hm1 := keepB2 b1 hm
  have hsz1 : ¬ (1048576 : Int) < (s.size : Int) := by omega
  have s1 := S1 w1 hm1
  clear S1
  go_wp2_with fail
  refine s1.mono ?_
  rintro e w2 ⟨b2, ⟨hf, vl, rfl, hrl⟩ | ⟨c, li, co, wd, fb, hf, hfb, rfl, hF⟩⟩
  rotate_left
  · go_wp2
    go_ret
    exact ⟨rfl, bstep1 b1 b2⟩
  have B2 := bstep1 b1 b2
  clear s1
  obtain ⟨al, hal⟩ : ∃ al, al = allF s 0 := ⟨_, rfl⟩
  rw [← hal] at hf hrl
  have hpos := src_pos hal
  have htk := fltOf_none al hf
  have hsrc := src_all hal hf (gkF zs)
  have hall := @apart_all s al hal hf (gkF zs) _ rfl
  have hnl : al.length < 1048580 := by rw [hal]; exact Nat.lt_of_le_of_lt (tolds_len s _ _) (by omega)
  clear hal hf
  obtain ⟨n, hn⟩ : ∃ n, n = al.length := ⟨_, rfl⟩
  have TL := TR.of_row htk hrl
  obtain ⟨gl, cl, hvl⟩ : ∃ gl cl, vl = .slice (some ⟨gl, 0, none⟩) n cl := by
    rw [hn]
    rcases TL.form with ⟨_, h0⟩ | ⟨g, cap, h, _, _⟩
    · rw [h0] at hpos; exact absurd hpos (by decide)
    · exact ⟨_, _, h⟩
  subst hvl
  have hlv := TL.lt
  rw [← hn] at hnl hpos
  have HN : Hid (n = al.length) := hn
  have hn0 : ((n : Int) == 0) = false := ne_beq (by omega)
  obtain ⟨W3, hW3⟩ : ∃ W, w2.alloc (.cells gapCells 9) = W := ⟨_, rfl⟩
  have b3 : Below w2.heap.size w2 W3 := by rw [← hW3]; exact belowA1 _ _
  have z3 : W3.heap.size = w2.heap.size + 1 := by rw [← hW3]; simp
  have gp3 : W3.heap[w2.heap.size]? = some (.cells gapCells 9 (0, 0)) := by rw [← hW3]; exact heap_alloc_new w2 _
  have H0 : ApC w W3.heap.size w2.heap.size (.slice (some ⟨gl, 0, none⟩) n cl) (.slice none 0 0) al [] W3 :=
    ⟨TL.below b3, gp3, World.ownsRow_nil _ _ _ _, bstep1 B2 b3, Nat.le_refl _, fun g h => by have := hlv g h; omega, by omega, by have := B2.size; omega⟩
  have HW3 : Hid (w2.alloc (.cells gapCells 9) = W3) := hW3
  clear hrl hn hW3 b1 b2 B2 b3 gp3 TL hlv hm1 hg
  go_wp2_with fail
  have eW3 := HW3.out
  unfold gapCells at eW3
  rw [eW3]
  clear eW3 HW3 hsz1 hn0
  obtain ⟨gb, hgb⟩ : ∃ gb, gb = w2.heap.size := ⟨_, rfl⟩
  obtain ⟨B, hB⟩ : ∃ B, B = W3.heap.size := ⟨_, rfl⟩
  rw [← hgb, ← hB] at H0
  rw [← hgb]
  clear hB z3 hgb
  obtain ⟨f, hf⟩ : ∃ f, f = pcF al (gkF zs) := ⟨_, rfl⟩
  have hmono := fun i d => aw_mono f i d
  rw [← hf] at hall
  have HF : Hid (f = pcF al (gkF zs)) := hf
  clear hf
  obtain ⟨hall1, ⟨lic, lco, lj, hlast⟩, husz⟩ := hall
  have hU : ∀ i, i ≤ n → (awTo f i).size ≤ 16777300 := fun i hi => by
    have h1 := hmono i (n - i)
    rw [show i + (n - i) = n by omega] at h1
    rw [← HN.out] at husz
    omega
  go_loopw [9, 10, 11] (fun u st t wr => ∃ (i : Nat) (sv : Value), i ≤ n ∧ u = .string (awTo f i) ∧ st = sv ∧ t = .int .i64 i ∧ ApC w B gb (.slice (some ⟨gl, 0, none⟩) n cl) sv al ((List.range i).map fun j => (awTo f j).size) wr) (fun _ _ t _ => n - (intOf t).toNat)
  case atStart => exact ⟨0, _, Nat.zero_le _, rfl, rfl, rfl, H0⟩
  case round =>
    clear H0
    obtain ⟨i, sv, hin, rfl, hsv, rfl, H⟩ := hrel
    replace hsv := hsv.symm
    subst hsv
    by_cases hlt : i < n
    · have hge : (i : Int) < (n : Int) := by omega
      obtain ⟨pos, a, k, ms, li, co, j, hS⟩ := hsrc i (by rw [← HN.out]; exact hlt)
      obtain ⟨K, hK⟩ : ∃ K, K = gkF zs i := ⟨_, rfl⟩
      have hK6 : K < 6 := by rw [hK]; exact gk_lt zs i
      have hgc := gap_cell H.gp hK6
      have hfi : f i = wrB k ms ++ gapOf K := by rw [HF.out]; unfold pcF; rw [hS.is, hK]; rfl
      have HS : Hid (awTo f (i + 1) = awTo f i ++ wrB k ms ++ gapOf K) := by show awTo f i ++ f i = _; rw [hfi, ByteArray.append_assoc]
      have hu1 := hU i hin
      have hu2 := hU (i + 1) hlt
      rw [aw_succ, hfi, ByteArray.size_append] at hu2
      have hmsz : ms.size ≤ 35184372088832 := by
        rcases word_kinds hS.wd with ⟨_, h1⟩ | ⟨h1, _, h2⟩ | ⟨h1, h2⟩
        · rw [h1]; decide
        · have h3 := word_adv hS.la hS.wd (by rw [h1]; decide)
          omega
        · have e : wrB k ms = ms := if_neg h2
          rw [e] at hu2; omega
      have hwr := fun w => written_any k ms (li : Int) (co : Int) w hmsz
      obtain ⟨c0, c1, c2, c3⟩ : wr.cell? ⟨gl, i * 4, none⟩ = some (.int .i8 k) ∧ wr.cell? ⟨gl, i * 4 + 1, none⟩ = some (.string ms) ∧ wr.cell? ⟨gl, i * 4 + 2, none⟩ = some (.int .i64 (li : Int)) ∧ wr.cell? ⟨gl, i * 4 + 3, none⟩ = some (.int .i64 (co : Int)) := by
        rcases H.tl.form with ⟨h, _⟩ | ⟨g', cap', h, _, h2⟩
        · simp only [Value.slice.injEq] at h; cases h.1
        · simp only [Value.slice.injEq, Option.some.injEq, Addr.mk.injEq, and_true] at h
          rw [h.1]
          exact h2 i k ms li co j hS.is
      clear c0 c1 c2 c3 hgc
      have hcase : (¬ (i : Int) < (zs.length : Int) ∧ K = 0) ∨ (∃ g o z t, bo = some ⟨g, o, none⟩ ∧ (i : Int) < (zs.length : Int) ∧ wr.cell? ⟨g, o + i, none⟩ = some (.int .i64 z) ∧ z.tmod 6 = t ∧ t < 0 ∧ -6 < t ∧ t + 6 = (K : Int)) ∨ (∃ g o z, bo = some ⟨g, o, none⟩ ∧ (i : Int) < (zs.length : Int) ∧ wr.cell? ⟨g, o + i, none⟩ = some (.int .i64 z) ∧ z.tmod 6 = (K : Int)) := by
        by_cases hi : i < zs.length
        · obtain ⟨g, o, h1, h2⟩ := hbcell i hi
          have h3 := keepB2 H.bel h2
          have h4 := rem_six (zs.getD i 0)
          have h5 : K = (zs.getD i 0 % 6).toNat := by rw [hK]; exact if_pos hi
          generalize zs.getD i 0 = z at *
          by_cases h6 : z.tmod 6 < 0
          · exact .inr (.inl ⟨g, o, z, _, h1, by omega, h3, rfl, h6, h4.1, by omega⟩)
          · exact .inr (.inr ⟨g, o, z, h1, by omega, h3, by omega⟩)
        · exact .inl ⟨by omega, by rw [hK]; exact if_neg hi⟩
      have HSI : Hid (al[i]? = some (.tok k ms li co j)) := hS.is
      clear hK hfi hS hbcell hsrc
      have hlen : ((List.range i).map fun j => (awTo f j).size).length = i := by simp
      have hst := H.st
      rw [hlen] at hst
      have hB := H.hB
      have hm1 : i + 1 ≤ maxLen := by unfold maxLen; omega
      obtain ⟨usz, husz1⟩ : ∃ q, q = (awTo f i).size := ⟨_, rfl⟩
      have H6 := H.below (belowA1 wr (.cells #[.int .i64 (usz : Int)] 3))
      have hB6 : B ≤ (wr.alloc (.cells #[.int .i64 (usz : Int)] 3)).heap.size := H6.hB
      have HH : Hid (ApC w B gb (.slice (some ⟨gl, 0, none⟩) n cl) sv al ((List.range i).map fun j => (awTo f j).size) (wr.alloc (.cells #[.int .i64 (usz : Int)] 3))) := H6
      have HU : Hid (usz = (awTo f i).size) := husz1
      have HST : Hid (wr.ownsRow B 3 1 sv i (((List.range i).map fun j => (awTo f j).size).map nI)) := hst
      clear H H6 hst
      rw [husz1] at hB6
      clear husz1
      rcases hcase with ⟨hq, rfl⟩ | ⟨g, o, z, t, rfl, hq, hzc, htm, ht0, ht6, htK⟩ | ⟨g, o, z, rfl, hq, hzc, htK⟩
      · go_wp2_with (at_builtin; refine wpList_push _ rfl _ _ 46 rfl B 3 i0 (.int .i64 0) 8 Tryd.underlying46 hi0 hz0 hz1 hz2 rfl _ i _ rfl (HST.out.alloc _) ⟨wr.heap.size, 0, none⟩ 1 1 [.int .i64 ((awTo f i).size : Int)] rfl rfl (cell_one_new _ _ _) (fun u hu => by simp at hu; subst hu; rfl) (by decide) hm1 (by omega) hB6 ?_; intro sv' w7 hown' hgrow hkp hnew)
        have H7 := HH.out
        rw [HU.out] at H7
        have H8 := H7.push (x := (awTo f i).size) hgrow (by rw [hlen]; exact hown')
        clear H7 hown' hgrow hkp hnew HH HU HST hB6 hlen
        obtain ⟨c0, c1, c2, c3⟩ : w7.cell? ⟨gl, i * 4, none⟩ = some (.int .i8 k) ∧ w7.cell? ⟨gl, i * 4 + 1, none⟩ = some (.string ms) ∧ w7.cell? ⟨gl, i * 4 + 2, none⟩ = some (.int .i64 (li : Int)) ∧ w7.cell? ⟨gl, i * 4 + 3, none⟩ = some (.int .i64 (co : Int)) := by
          rcases H8.tl.form with ⟨h, _⟩ | ⟨g', cap', h, _, h2⟩
          · simp only [Value.slice.injEq] at h; cases h.1
          · simp only [Value.slice.injEq, Option.some.injEq, Addr.mk.injEq, and_true] at h
            rw [h.1]
            exact h2 i k ms li co j HSI.out
        have hgc := gap_cell H8.gp hK6
        have er : ((List.range i).map fun j => (awTo f j).size) ++ [(awTo f i).size] = (List.range (i + 1)).map fun j => (awTo f j).size := by rw [List.range_succ, List.map_append]; rfl
        rw [er] at H8
        have HH8 : Hid (ApC w B gb (.slice (some ⟨gl, 0, none⟩) n cl) sv' al _ w7) := H8
        clear H8 er
        obtain ⟨gap, hgap⟩ : ∃ q, q = gapOf 0 := ⟨_, rfl⟩
        obtain ⟨ui, hui⟩ : ∃ q, q = awTo f i := ⟨_, rfl⟩
        obtain ⟨wk, hwk⟩ : ∃ q, q = wrB k ms := ⟨_, rfl⟩
        rw [← hgap] at hgc hu2 HS
        rw [← hui] at hu1 hu2 HS ⊢
        rw [← hwk] at hu2 HS hwr
        clear hgap hui hwk
        have hv1 : ¬ 9223372036854775807 < ui.size + wk.size := by omega
        have hv2 : ¬ 9223372036854775807 < ui.size + wk.size + gap.size := by omega
        go_region_held3 (fun w' => w'.cell? ⟨gl, i * 4, none⟩ = some (.int .i8 k) ∧ w'.cell? ⟨gl, i * 4 + 1, none⟩ = some (.string ms) ∧ w'.cell? ⟨gl, i * 4 + 2, none⟩ = some (.int .i64 (li : Int)) ∧ w'.cell? ⟨gl, i * 4 + 3, none⟩ = some (.int .i64 (co : Int)) ∧ w'.cell? ⟨gb, 0, none⟩ = some (.string gap)) (((try dsimp only); go_split_ands; refine ⟨?_, ?_, ?_, ?_, ?_⟩ <;> first | exact keepB2 (by with_reducible assumption) (by with_reducible assumption) | go_keep)) ((go_at_call 21; refine (hwr _).mono ?_; rintro e w8 ⟨rfl, b8⟩))
        have H9 := (HH8.out.below (below_drew1 w7)).below b8
        have HH9 : Hid (ApC w B gb (.slice (some ⟨gl, 0, none⟩) n cl) sv' al _ w8) := H9
        clear H9 HH8 c0 c1 c2 c3 hgc
        go_wp2
        go_roundw
        case rel => exact ⟨i + 1, sv', by omega, by rw [HS.out], rfl, by go_num, HH9.out⟩
        case measure => simp [intOf]; omega
      · go_wp2_with (at_builtin; refine wpList_push _ rfl _ _ 46 rfl B 3 i0 (.int .i64 0) 8 Tryd.underlying46 hi0 hz0 hz1 hz2 rfl _ i _ rfl (HST.out.alloc _) ⟨wr.heap.size, 0, none⟩ 1 1 [.int .i64 ((awTo f i).size : Int)] rfl rfl (cell_one_new _ _ _) (fun u hu => by simp at hu; subst hu; rfl) (by decide) hm1 (by omega) hB6 ?_; intro sv' w7 hown' hgrow hkp hnew)
        have H7 := HH.out
        rw [HU.out] at H7
        have H8 := H7.push (x := (awTo f i).size) hgrow (by rw [hlen]; exact hown')
        clear H7 hown' hgrow hkp hnew HH HU HST hB6 hlen
        obtain ⟨c0, c1, c2, c3⟩ : w7.cell? ⟨gl, i * 4, none⟩ = some (.int .i8 k) ∧ w7.cell? ⟨gl, i * 4 + 1, none⟩ = some (.string ms) ∧ w7.cell? ⟨gl, i * 4 + 2, none⟩ = some (.int .i64 (li : Int)) ∧ w7.cell? ⟨gl, i * 4 + 3, none⟩ = some (.int .i64 (co : Int)) := by
          rcases H8.tl.form with ⟨h, _⟩ | ⟨g', cap', h, _, h2⟩
          · simp only [Value.slice.injEq] at h; cases h.1
          · simp only [Value.slice.injEq, Option.some.injEq, Addr.mk.injEq, and_true] at h
            rw [h.1]
            exact h2 i k ms li co j HSI.out
        have hgc := gap_cell H8.gp hK6
        have er : ((List.range i).map fun j => (awTo f j).size) ++ [(awTo f i).size] = (List.range (i + 1)).map fun j => (awTo f j).size := by rw [List.range_succ, List.map_append]; rfl
        rw [er] at H8
        have HH8 : Hid (ApC w B gb (.slice (some ⟨gl, 0, none⟩) n cl) sv' al _ w7) := H8
        clear H8 er
        obtain ⟨gap, hgap⟩ : ∃ q, q = gapOf K := ⟨_, rfl⟩
        obtain ⟨ui, hui⟩ : ∃ q, q = awTo f i := ⟨_, rfl⟩
        obtain ⟨wk, hwk⟩ : ∃ q, q = wrB k ms := ⟨_, rfl⟩
        rw [← hgap] at hgc hu2 HS
        rw [← hui] at hu1 hu2 HS ⊢
        rw [← hwk] at hu2 HS hwr
        clear hgap hui hwk
        have hKi : (K : Int) < 6 := by omega
        have hv1 : ¬ 9223372036854775807 < ui.size + wk.size := by omega
        have hv2 : ¬ 9223372036854775807 < ui.size + wk.size + gap.size := by omega
        go_region_held3 (fun w' => w'.cell? ⟨gl, i * 4, none⟩ = some (.int .i8 k) ∧ w'.cell? ⟨gl, i * 4 + 1, none⟩ = some (.string ms) ∧ w'.cell? ⟨gl, i * 4 + 2, none⟩ = some (.int .i64 (li : Int)) ∧ w'.cell? ⟨gl, i * 4 + 3, none⟩ = some (.int .i64 (co : Int)) ∧ w'.cell? ⟨gb, K, none⟩ = some (.string gap)) (((try dsimp only); go_split_ands; refine ⟨?_, ?_, ?_, ?_, ?_⟩ <;> first | exact keepB2 (by with_reducible assumption) (by with_reducible assumption) | go_keep)) ((go_at_call 21; refine (hwr _).mono ?_; rintro e w8 ⟨rfl, b8⟩))
        have H9 := (HH8.out.below (below_drew1 w7)).below b8
        have HH9 : Hid (ApC w B gb (.slice (some ⟨gl, 0, none⟩) n cl) sv' al _ w8) := H9
        clear H9 HH8 c0 c1 c2 c3 hgc
        go_wp2
        go_roundw
        case rel => exact ⟨i + 1, sv', by omega, by rw [HS.out], rfl, by go_num, HH9.out⟩
        case measure => simp [intOf]; omega
      · go_wp2_with (at_builtin; refine wpList_push _ rfl _ _ 46 rfl B 3 i0 (.int .i64 0) 8 Tryd.underlying46 hi0 hz0 hz1 hz2 rfl _ i _ rfl (HST.out.alloc _) ⟨wr.heap.size, 0, none⟩ 1 1 [.int .i64 ((awTo f i).size : Int)] rfl rfl (cell_one_new _ _ _) (fun u hu => by simp at hu; subst hu; rfl) (by decide) hm1 (by omega) hB6 ?_; intro sv' w7 hown' hgrow hkp hnew)
        have H7 := HH.out
        rw [HU.out] at H7
        have H8 := H7.push (x := (awTo f i).size) hgrow (by rw [hlen]; exact hown')
        clear H7 hown' hgrow hkp hnew HH HU HST hB6 hlen
        obtain ⟨c0, c1, c2, c3⟩ : w7.cell? ⟨gl, i * 4, none⟩ = some (.int .i8 k) ∧ w7.cell? ⟨gl, i * 4 + 1, none⟩ = some (.string ms) ∧ w7.cell? ⟨gl, i * 4 + 2, none⟩ = some (.int .i64 (li : Int)) ∧ w7.cell? ⟨gl, i * 4 + 3, none⟩ = some (.int .i64 (co : Int)) := by
          rcases H8.tl.form with ⟨h, _⟩ | ⟨g', cap', h, _, h2⟩
          · simp only [Value.slice.injEq] at h; cases h.1
          · simp only [Value.slice.injEq, Option.some.injEq, Addr.mk.injEq, and_true] at h
            rw [h.1]
            exact h2 i k ms li co j HSI.out
        have hgc := gap_cell H8.gp hK6
        have er : ((List.range i).map fun j => (awTo f j).size) ++ [(awTo f i).size] = (List.range (i + 1)).map fun j => (awTo f j).size := by rw [List.range_succ, List.map_append]; rfl
        rw [er] at H8
        have HH8 : Hid (ApC w B gb (.slice (some ⟨gl, 0, none⟩) n cl) sv' al _ w7) := H8
        clear H8 er
        obtain ⟨gap, hgap⟩ : ∃ q, q = gapOf K := ⟨_, rfl⟩
        obtain ⟨ui, hui⟩ : ∃ q, q = awTo f i := ⟨_, rfl⟩
        obtain ⟨wk, hwk⟩ : ∃ q, q = wrB k ms := ⟨_, rfl⟩
        rw [← hgap] at hgc hu2 HS
        rw [← hui] at hu1 hu2 HS ⊢
        rw [← hwk] at hu2 HS hwr
        clear hgap hui hwk
        have hKi : (K : Int) < 6 := by omega
        have hv1 : ¬ 9223372036854775807 < ui.size + wk.size := by omega
        have hv2 : ¬ 9223372036854775807 < ui.size + wk.size + gap.size := by omega
        go_region_held3 (fun w' => w'.cell? ⟨gl, i * 4, none⟩ = some (.int .i8 k) ∧ w'.cell? ⟨gl, i * 4 + 1, none⟩ = some (.string ms) ∧ w'.cell? ⟨gl, i * 4 + 2, none⟩ = some (.int .i64 (li : Int)) ∧ w'.cell? ⟨gl, i * 4 + 3, none⟩ = some (.int .i64 (co : Int)) ∧ w'.cell? ⟨gb, K, none⟩ = some (.string gap)) (((try dsimp only); go_split_ands; refine ⟨?_, ?_, ?_, ?_, ?_⟩ <;> first | exact keepB2 (by with_reducible assumption) (by with_reducible assumption) | go_keep)) ((go_at_call 21; refine (hwr _).mono ?_; rintro e w8 ⟨rfl, b8⟩))
        have H9 := (HH8.out.below (below_drew1 w7)).below b8
        have HH9 : Hid (ApC w B gb (.slice (some ⟨gl, 0, none⟩) n cl) sv' al _ w8) := H9
        clear H9 HH8 c0 c1 c2 c3 hgc
        go_wp2
        go_roundw
        case rel => exact ⟨i + 1, sv', by omega, by rw [HS.out], rfl, by go_num, HH9.out⟩
        case measure => simp [intOf]; omega
    · have hge : ¬ (i : Int) < (n : Int) := by omega
      obtain rfl : i = n := by omega
      clear hsrc hbcell hbv hbl hlt hmono
      have hu9 := hU i (Nat.le_refl _)
      obtain ⟨u, hu⟩ : ∃ u, u = awTo f i := ⟨_, rfl⟩
      rw [← HN.out, ← hu] at hall1
      rw [← HN.out] at hlast
      rw [← hu] at hu9 ⊢
      have hm3 := keepB2 H.bel hm
      have s2 := scan_any u m wr (by omega) hm3
      have hF2 : fltOf (allF u 0) = none := by
        rw [hall1, fltOf_toks _ _ (fun o ho => by obtain ⟨j, _, rfl⟩ := List.mem_map.1 ho; unfold nwO; split <;> rfl)]
        rfl
      have hlen2 : (allF u 0).length = i := by rw [hall1]; simp; omega
      obtain ⟨al2, hal2⟩ : ∃ q, q = allF u 0 := ⟨_, rfl⟩
      rw [← hal2] at hall1 hF2 hlen2 s2
      have HX : Hid (al2 = (List.range (i - 1)).map (nwO al (gkF zs) u) ++ [.tok 0 ⟨#[]⟩ (lineOf u u.size) (colOf u u.size) u.size] ∧ al[i - 1]? = some (.tok 0 ⟨#[]⟩ lic lco lj) ∧ al2.length = i ∧ u = awTo f i ∧ fltOf al2 = none) := ⟨hall1, hlast, hlen2, hu, hF2⟩
      clear hall1 hlast hlen2 hu hF2 hal2 hU husz
      go_wp2_with fail
      refine s2.mono ?_
      rintro e w4 ⟨b4, ⟨_, vm, rfl, hrm⟩ | ⟨c, li, co, wd, fb, hf, _⟩⟩
      rotate_left
      · rw [HX.out.2.2.2.2] at hf; cases hf
      clear s2 hm3
      obtain ⟨hall1, hlast, hlen2, hu, hF2⟩ := HX.out
      have TM := TR.of_row (fltOf_none _ hF2) hrm
      rw [hlen2] at hrm
      obtain ⟨gm, cm, hvm⟩ : ∃ gm cm, vm = .slice (some ⟨gm, 0, none⟩) i cm := by
        rcases TM.form with ⟨_, h0⟩ | ⟨g, cap, h, _, _⟩
        · rw [h0] at hlen2; simp at hlen2; omega
        · rw [hlen2] at h; exact ⟨_, _, h⟩
      subst hvm
      have H4 := H.below b4
      clear H hrm
      have hgetM : ∀ (q : Nat), q < i - 1 → al2[q]? = some (nwO al (gkF zs) u q) := fun q hq => by
        rw [hall1, List.getElem?_append_left (by simp; omega)]
        simp [hq]
      have hgetE : al2[i - 1]? = some (.tok 0 ⟨#[]⟩ (lineOf u u.size) (colOf u u.size) u.size) := by
        rw [hall1, List.getElem?_append_right (by simp)]
        simp
      have lk := alike_yes gl cl gm cm i al al2 w4 H4.tl TM HN.out hlen2.symm (by omega) (by
        intro q k ms li co j k2 ms2 li2 co2 j2 h1 h2
        have hq : q < al.length := (List.getElem?_eq_some_iff.1 h1).1
        rw [← HN.out] at hq
        rcases Nat.lt_or_ge q (i - 1) with h | h
        · rw [hgetM q h] at h2
          unfold nwO at h2
          rw [h1] at h2
          simp only [Option.some.injEq, Out.tok.injEq] at h2
          exact ⟨h2.1, h2.2.1⟩
        · obtain rfl : q = i - 1 := by omega
          rw [hlast] at h1
          rw [hgetE] at h2
          simp only [Option.some.injEq, Out.tok.injEq] at h1 h2
          exact ⟨by rw [← h1.1, ← h2.1], by rw [← h1.2.1, ← h2.2.1]⟩)
      have HM : Hid _ := hgetM
      have HE : Hid _ := hgetE
      clear hgetM hgetE hall1 hlast hlen2 hu hF2
      go_wp2_with fail
      refine lk.mono ?_
      rintro e w5 ⟨rfl, b5⟩
      clear lk
      have H5 := H4.below b5
      replace TM := TM.below b5
      clear H4 b4 b5
      obtain ⟨N, hN⟩ : ∃ N, i = N + 1 := ⟨i - 1, by omega⟩
      have HN2 := HN.out
      have hgM := HM.out
      have hgE := HE.out
      have huu := HX.out.2.2.2.1
      have hst := H5.st
      rw [List.length_map, List.length_range] at hst
      have htl := H5.tl.toks
      have hB5 := H5.bel
      clear HM HE HX HN H5
      subst hN
      rw [Nat.add_sub_cancel] at hgM hgE
      obtain ⟨gs, cs, hsv⟩ := Joins.ownsRow_form hst (by omega)
      subst hsv
      have hP : ∀ q, q ≤ N → (awTo f q).size ≤ u.size := fun q hq => by
        rw [huu]
        have := aw_mono f q (N + 1 - q)
        rw [show q + (N + 1 - q) = N + 1 by omega] at this
        exact this
      have hstc : ∀ q, q ≤ N → w5.cell? ⟨gs, q, none⟩ = some (.int .i64 ((awTo f q).size : Int)) := fun q hq => by
        rw [hst.cellAt q (by omega)]
        simp [nI, show q < N + 1 by omega]
      have hmc : ∀ q, q < N → w5.cell? ⟨gm, q * 4 + 2, none⟩ = some (.int .i64 (lineOf u (awTo f q).size : Nat)) ∧ w5.cell? ⟨gm, q * 4 + 3, none⟩ = some (.int .i64 (colOf u (awTo f q).size : Nat)) := fun q hq => by
        have h1 := hgM q hq
        have hq2 : q < al.length := by omega
        have h2 := htl _ (List.getElem_mem hq2)
        have h3 : al[q]? = some al[q] := List.getElem?_eq_getElem hq2
        unfold nwO at h1
        rw [h3] at h1
        cases ho : al[q] with
        | flt c li co wd => rw [ho] at h2; cases h2
        | tok k ms li co j =>
          rw [ho] at h1
          rcases TM.form with ⟨h, _⟩ | ⟨g', cap', h, _, h4⟩
          · simp only [Value.slice.injEq] at h; cases h.1
          · simp only [Value.slice.injEq, Option.some.injEq, Addr.mk.injEq, and_true] at h
            rw [h.1, HF.out]
            exact (h4 q _ _ _ _ _ h1).2.2
      have hmE : w5.cell? ⟨gm, N * 4, none⟩ = some (.int .i8 0) := by
        rcases TM.form with ⟨h, _⟩ | ⟨g', cap', h, _, h4⟩
        · simp only [Value.slice.injEq] at h; cases h.1
        · simp only [Value.slice.injEq, Option.some.injEq, Addr.mk.injEq, and_true] at h
          rw [h.1]
          exact (h4 N _ _ _ _ _ hgE).1
      have HB5 : Hid (Below w.heap.size w w5) := hB5
      clear hgM hgE huu hst htl hB5 TM HN2 HF hm
      generalize hPP : (fun q => (awTo f q).size) = P at *
      have hP' : ∀ q, (awTo f q).size = P q := fun q => by rw [← hPP]
      simp only [hP'] at hP hstc hmc
      clear hPP hP'
      go_wp2_with fail
      go_loopw [14] (fun t wr => ∃ q : Nat, q ≤ N ∧ t = .int .i64 q ∧ wr = w5) (fun t _ => N - (intOf t).toNat)
      case atStart => exact ⟨0, Nat.zero_le _, rfl, rfl⟩
      case round =>
        obtain ⟨q, hqN, rfl, hw⟩ := hrel
        replace hw := hw.symm
        subst hw
        by_cases hlt : q < N
        · have hge : (q : Int) < (N : Int) := by omega
          have hqi : (q : Int) < (N : Int) + 1 := by omega
          have hs1 := hstc q hqN
          obtain ⟨m2, m3⟩ := hmc q hlt
          have hp1 := hP q hqN
          clear hstc hmc hP hmE
          generalize P q = pq at *
          have HM2 : Hid (w5.cell? ⟨gm, q * 4 + 2, none⟩ = some (.int .i64 (lineOf u pq : Nat)) ∧ w5.cell? ⟨gm, q * 4 + 3, none⟩ = some (.int .i64 (colOf u pq : Nat))) := ⟨m2, m3⟩
          clear m2 m3
          go_wp2_with fail
          go_loopw [15, 16, 17] (fun li co t wr2 => ∃ x : Nat, x ≤ pq ∧ li = .int .i64 (lineOf u x : Nat) ∧ co = .int .i64 (colOf u x : Nat) ∧ t = .int .i64 x ∧ wr2 = w5) (fun _ _ t _ => pq - (intOf t).toNat)
          case atStart => exact ⟨0, Nat.zero_le _, rfl, rfl, rfl, rfl⟩
          case round =>
            obtain ⟨x, hx, rfl, rfl, rfl, hw⟩ := hrel
            replace hw := hw.symm
            subst hw
            have hl := (line_le u x).1
            have hc := col_le u x
            by_cases hxlt : x < pq
            · have hxge : (x : Int) < (pq : Int) := by omega
              have hks : x < u.size := by omega
              have hb : u[x].toNat = atB u x := by unfold atB; rw [dif_pos hks]; rfl
              by_cases h10 : atB u x = 10
              · obtain ⟨e1, e2⟩ := col_nl h10
                have HE : Hid (lineOf u (x + 1) = lineOf u x + 1 ∧ colOf u (x + 1) = 1) := ⟨e1, e2⟩
                have x10 : ((u[x].toNat : Int) == 10) = true := by rw [hb, h10]; rfl
                clear hb h10 e1 e2
                generalize lineOf u x = li at *
                generalize colOf u x = co at *
                go_wp2
                go_roundw
                case rel => exact ⟨x + 1, by omega, by rw [HE.out.1]; go_num, by rw [HE.out.2]; rfl, by go_num, by first | trivial | rfl⟩
                case measure => simp [intOf]; omega
              · obtain ⟨e1, e2⟩ := col_no h10
                have HE : Hid (lineOf u (x + 1) = lineOf u x ∧ colOf u (x + 1) = colOf u x + 1) := ⟨e1, e2⟩
                have x10 : ((u[x].toNat : Int) == 10) = false := by rw [hb]; exact nat_beq h10
                clear hb h10 e1 e2
                generalize lineOf u x = li at *
                generalize colOf u x = co at *
                go_wp2
                go_roundw
                case rel => exact ⟨x + 1, by omega, by rw [HE.out.1], by rw [HE.out.2]; go_num, by go_num, by first | trivial | rfl⟩
                case measure => simp [intOf]; omega
            · have hxge : ¬ (x : Int) < (pq : Int) := by omega
              obtain rfl : x = pq := by omega
              obtain ⟨m2, m3⟩ := HM2.out
              generalize lineOf u x = li at *
              generalize colOf u x = co at *
              clear hl hc
              go_wp2
              go_roundw
              case rel => exact ⟨q + 1, by omega, by go_num, by first | trivial | rfl⟩
              case measure => simp [intOf]; omega
        · have hge : ¬ (q : Int) < (N : Int) := by omega
          clear hstc hmc hP
          go_wp2
          go_ret
          exact ⟨rfl, HB5.out⟩
end Go.Proofs.YtlemnbegblpllaaDoor

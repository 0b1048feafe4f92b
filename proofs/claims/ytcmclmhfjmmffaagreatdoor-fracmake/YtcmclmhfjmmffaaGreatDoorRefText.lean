/-
  Proved here: what the plain way's Text answers.
-/
import Derived.Test.YtcmclmhfjmmffaaGreatDoorTextAll
import Derived.Test.YtcmclmhfjmmffaaGreatDoorRefTenAll
namespace Go.Proofs.YtcmclmhfjmmffaaGreatDoor
open Go.RowKit

theorem digit_at {d : Nat} (h : d < 10) : (({ data := #[48, 49, 50, 51, 52, 53, 54, 55, 56, 57] } : ByteArray)[d]'h).toNat = 48 + d := by
  rcases (show d = 0 ∨ d = 1 ∨ d = 2 ∨ d = 3 ∨ d = 4 ∨ d = 5 ∨ d = 6 ∨ d = 7 ∨ d = 8 ∨ d = 9 by omega) with rfl | rfl | rfl | rfl | rfl | rfl | rfl | rfl | rfl | rfl <;> rfl
theorem dec_parts {ds : List Nat} {v N : Nat} (h : ds ++ dec v = dec N) : dval ds + 10 ^ ds.length * v = N := by
  rw [← dval_dec N, ← h, dval_append, dval_dec]
theorem snoc_getD (ds : List Nat) (j : Nat) (h : j < ds.length) : (ds.drop j).reverse = (ds.drop (j + 1)).reverse ++ [ds.getD j 0] := by
  rw [List.drop_eq_getElem_cons h, List.reverse_cons, List.getD_eq_getElem?_getD, List.getElem?_eq_getElem h]; rfl

set_option maxRecDepth 100000 in
set_option maxHeartbeats 6400000 in
theorem text_ref (u : Value) (xs : List Nat) (w : World) (h : Num w u xs) (hlen : xs.length ≤ 1000000) :
    Calls Tryz.prog 90 #[u] w fun e w' => e = .returned (.string (txt (val xs))) ∧ Below w.heap.size w w' := by
  obtain ⟨iY, hiY, hzY0, hzY1, hzY2⟩ := info_parts Tryz.infoY
  obtain ⟨N, hN⟩ : ∃ N, N = val xs := ⟨_, rfl⟩
  have HNL : Hid (N < 4294967296 ^ xs.length) := by rw [hN]; exact val_lt h.1
  have hll : (lim N).length ≤ 1000000 := by have := lim_short h; rw [← hN] at this; omega
  rw [← hN]
  go_enter Tryz.func90, Tryz.ntmps90
  go_wp2_with fail
  refine (norm_ref _ _ _ h (by omega)).mono ?_
  rintro e w1 ⟨r, rfl, hor, hb1⟩
  rw [← hN] at hor
  clear h hN
  obtain ⟨ro, rc, rfl, hro, hrl, hrm⟩ := hor.ao
  by_cases hN0 : N = 0
  · have hl0 : (lim N).length = 0 := by rw [hN0]; rfl
    rw [hl0] at hor ⊢
    have HE : Hid ((.returned (.string ⟨#[48]⟩) : Ending) = .returned (.string (txt N)) ∧ Below w.heap.size w w1) := ⟨by rw [hN0]; rfl, hb1⟩
    clear hor hb1 hro hl0 hN0
    go_wp2_with fail
    go_ret
    exact HE.out
  · obtain ⟨n0, hn0⟩ : ∃ n0, n0 = (lim N).length := ⟨_, rfl⟩
    rw [← hn0] at hor hro hrl hll ⊢
    have hnn : ¬ (n0 : Int) = 0 := by
      intro h0
      apply hN0
      rw [← val_lim N, List.length_eq_zero_iff.1 (show (lim N).length = 0 by omega)]; rfl
    have hn00 : ((n0 : Int) == 0) = false := by simp; omega
    have HST : Hid (Own w.heap.size 69 w1 (.slice ro n0 rc) (lim N) ∧ Below w.heap.size w w1) := ⟨hor, hb1⟩
    have HN0 : Hid (N ≠ 0) := hN0
    clear hor hb1 hN0 hro hn0
    go_wp2_with fail
    go_loopw [3, 4] (fun rv dv wr => ∃ (v : Nat) (ds : List Nat), Own w.heap.size 69 wr rv (lim v) ∧ v ≤ N ∧ OwnY w.heap.size wr dv (chars ds) ∧ ds ++ dec v = dec N ∧ ds.length ≤ 32 * xs.length + 1 ∧ Below w.heap.size w wr) (fun rv _ wr => valAt wr rv)
    case atStart => exact ⟨N, [], HST.out.1, Nat.le_refl _, OwnY.of_nil _ _, rfl, by simp, HST.out.2⟩
    case round =>
      clear HST hnn
      obtain ⟨v, ds, how, hvN, hoy, hsum, hdl, hbel⟩ := hrel
      have HS : Hid (ds ++ dec v = dec N) := hsum
      clear hsum
      obtain ⟨ao, cap, rfl, hao, hlc, hcm⟩ := how.ao
      have HM : Hid (valAt wr (.slice ao (lim v).length cap) = v) := by show _ = _; rw [valAt_eq how.num, val_lim]
      have hvl : (lim v).length ≤ 1000000 := by
        have := lim_len_le (Nat.lt_of_le_of_lt hvN HNL.out); omega
      obtain ⟨n, hn⟩ : ∃ n, n = (lim v).length := ⟨_, rfl⟩
      rw [← hn] at how hao hlc HM ⊢
      have HN : Hid (n = (lim v).length) := hn
      have hbw : w.heap.size ≤ wr.heap.size := hbel.size
      clear hn
      by_cases hn0 : 0 < n
      · have hn0' : (0 : Int) < (n : Int) := by omega
        have hv0 : v ≠ 0 := by intro h0; rw [h0] at HN; have := HN.out; simp [lim_zero] at this; omega
        have hdl2 : ds.length ≤ 32 * xs.length := dig_lt (dec_parts HS.out) hv0 HNL.out
        go_wp2_with fail
        refine (ten_ref _ _ _ how.num hvl).mono ?_
        rw [val_lim]
        rintro e w2 ⟨o, rfl, hoo, hb2⟩
        obtain ⟨d, hd⟩ : ∃ d, d = v % 10 := ⟨_, rfl⟩
        rw [← hd]
        have hd10 : d < 10 := by omega
        have hd10' : (d : Int) < 10 := by omega
        have hdg := digit_at hd10
        obtain ⟨c, hc⟩ : ∃ c, c = 48 + d := ⟨_, rfl⟩
        rw [← hc] at hdg
        have HD : Hid (d = v % 10 ∧ c = 48 + d) := ⟨hd, hc⟩
        have hoy2 := hoy.below hb2
        have hbel2 := hbel.trans (hb2.mono hbw)
        have hoo2 := hoo.mono hbw
        have hbw2 : w.heap.size ≤ w2.heap.size := hbel2.size
        clear hd hc how hoy hbel hb2 hbw hoo hao
        obtain ⟨m, hm⟩ : ∃ m, m = (chars ds).length := ⟨_, rfl⟩
        have hmb : m ≤ 40000000 := by rw [hm, chars_len]; omega
        have HO : Hid (w2.ownsRow w.heap.size 5 1 u4 m ((chars ds).map Y)) := by show _; rw [hm]; exact hoy2
        have HMM : Hid (m = (chars ds).length) := hm
        clear hm
        have hB3 : w.heap.size ≤ (w2.alloc (.cells #[.int .u8 (c : Int)] 5)).heap.size := by simp; omega
        go_wp2_with (at_builtin; refine wpList_push _ rfl _ _ 94 rfl w.heap.size 5 iY (.int .u8 0) 1 Tryz.underlying94 hiY hzY0 hzY1 hzY2 rfl _ m ((chars ds).map Y) rfl (HO.out.alloc _) ⟨w2.heap.size, 0, none⟩ 1 1 [.int .u8 (c : Int)] rfl rfl (cell_one_new _ _ _) (fun u hu => by simp at hu; subst hu; rfl) (by decide) (by unfold maxLen; omega) (by omega) hB3 ?_)
        intro v' w5 ho hgr _ _
        have hne4 : o.ownBlock = none ∨ o.ownBlock ≠ u4.ownBlock := own_types hoo2.2 hoy2 (by decide)
        have R := push_ownY (d := c) hoy2 hbel2 hbw2 (by rw [← HMM.out, show Y c = .int .u8 (c : Int) from rfl]; exact ho) hgr
        have hor5 : Own w.heap.size 69 w5 o (lim (v / 10)) := (hoo2.alloc _).grown hgr hne4
        clear ho hgr hoy2 hbel2 hbw2 HO hB3 hoo2 hne4
        go_wp2
        go_roundw
        case rel =>
          have hD := HD.out
          refine ⟨v / 10, ds ++ [d], hor5, by omega, by rw [chars_append, show chars [d] = [c] by simp [chars]; omega]; exact R.1, ?_, by rw [List.length_append]; simp; omega, R.2.1⟩
          rw [List.append_assoc, ← HS.out, dec_pos hv0, hD.1]; rfl
        case measure => rw [valAt_eq hor5.num, val_lim, HM.out]; omega
      · have hn0' : ¬ (0 : Int) < (n : Int) := by omega
        have hv0 : v = 0 := by
          rw [← val_lim v, List.length_eq_zero_iff.1 (show (lim v).length = 0 by rw [← HN.out]; omega)]; rfl
        subst hv0
        have hS := HS.out
        rw [dec_zero, List.append_nil] at hS
        have hds : ds.length ≠ 0 := by
          intro h0
          rw [List.length_eq_zero_iff.1 h0] at hS
          exact dec_ne HN0.out hS.symm
        have HS2 : Hid (ds = dec N) := hS
        clear hS HS how hao HM
        have hsh : ∃ g cap', u4 = .slice (some ⟨g, 0, none⟩) ds.length cap' ∧ ds.length ≤ cap' ∧ cap' ≤ 9223372036854775807 := by
          rcases hoy.2 with ⟨_, h2⟩ | ⟨g', cap', cur, h1, h3, h4, h5, h6, h7, h8⟩
          · rw [chars_len] at h2; exact absurd h2 hds
          · rw [chars_len] at h1 h5; exact ⟨g', cap', h1, h5, h6⟩
        obtain ⟨g, cp, rfl, hcp, hcpm⟩ := hsh
        obtain ⟨L, hL⟩ : ∃ L, L = ds.length := ⟨_, rfl⟩
        rw [← hL] at hoy hcp hds hdl ⊢
        have HL : Hid (L = ds.length) := hL
        have HST : Hid (OwnY w.heap.size wr (.slice (some ⟨g, 0, none⟩) L cp) (chars ds) ∧ Below w.heap.size w wr) := ⟨hoy, hbel⟩
        obtain ⟨B2, hB2⟩ : ∃ B2, B2 = wr.heap.size := ⟨_, rfl⟩
        have hgB : g < B2 := by
          obtain ⟨_, _, cur, h1, _⟩ := hoy.heap
          rw [hB2]; exact (Array.getElem?_eq_some_iff.1 h1).1
        have hwB : w.heap.size ≤ B2 := by rw [hB2]; exact hbw
        have HB2 : Hid (B2 ≤ wr.heap.size) := by rw [hB2]; exact Nat.le_refl _
        clear hoy hbel hL hbw hB2
        go_wp2_with fail
        go_loopw [6, 7] (fun ov iv wq => ∃ (i : Nat), i ≤ L ∧ iv = .int .i64 ((i : Int) - 1) ∧ OwnY w.heap.size wq (.slice (some ⟨g, 0, none⟩) L cp) (chars ds) ∧ OwnY B2 wq ov (chars (ds.drop i).reverse) ∧ Below w.heap.size w wq ∧ B2 ≤ wq.heap.size) (fun _ iv _ => (intOf iv + 1).toNat)
        case atStart =>
          refine ⟨L, Nat.le_refl _, rfl, HST.out.1, ?_, HST.out.2, HB2.out⟩
          rw [List.drop_of_length_le (by rw [HL.out]; exact Nat.le_refl _)]
          exact OwnY.of_nil _ _
        case round =>
          clear HST
          obtain ⟨i, hiL, rfl, hog, hov, hbelq, hwq⟩ := hrel
          by_cases hi0 : 0 < i
          · obtain ⟨j, rfl⟩ : ∃ j, i = j + 1 := ⟨i - 1, by omega⟩
            rw [show ((j + 1 : Nat) : Int) - 1 = (j : Int) by omega]
            have hge : (0 : Int) ≤ (j : Int) := by omega
            have hjL : (j : Int) < (L : Int) := by omega
            obtain ⟨cg, _⟩ := hog.cell (k := j) (by rw [chars_len, ← HL.out]; omega)
            obtain ⟨c, hc⟩ : ∃ c, c = (chars ds).getD j 0 := ⟨_, rfl⟩
            rw [← hc] at cg
            have HC : Hid (c = 48 + ds.getD j 0) := by
              show _ = _
              have hjl : j < ds.length := by rw [← HL.out]; omega
              rw [hc, chars, List.getD_eq_getElem?_getD, List.getElem?_map, List.getElem?_eq_getElem hjl, List.getD_eq_getElem?_getD, List.getElem?_eq_getElem hjl]; rfl
            obtain ⟨m, hm⟩ : ∃ m, m = (chars (ds.drop (j + 1)).reverse).length := ⟨_, rfl⟩
            have hmb : m ≤ 40000000 := by rw [hm, chars_len, List.length_reverse, List.length_drop, ← HL.out]; omega
            have HO : Hid (wr.ownsRow B2 5 1 u6 m ((chars (ds.drop (j + 1)).reverse).map Y)) := by show _; rw [hm]; exact hov
            have HMM : Hid (m = (chars (ds.drop (j + 1)).reverse).length) := hm
            clear hm hc
            have hB3 : B2 ≤ (wr.alloc (.cells #[.int .u8 (c : Int)] 5)).heap.size := by simp; omega
            go_wp2_with (at_builtin; refine wpList_push _ rfl _ _ 94 rfl B2 5 iY (.int .u8 0) 1 Tryz.underlying94 hiY hzY0 hzY1 hzY2 rfl _ m ((chars (ds.drop (j + 1)).reverse).map Y) rfl (HO.out.alloc _) ⟨wr.heap.size, 0, none⟩ 1 1 [.int .u8 (c : Int)] rfl rfl (cell_one_new _ _ _) (fun u hu => by simp at hu; subst hu; rfl) (by decide) (by unfold maxLen; omega) (by omega) hB3 ?_)
            intro v' w5 ho hgr _ _
            have hne : (Value.slice (some ⟨g, 0, none⟩) L cp).ownBlock = none ∨ (Value.slice (some ⟨g, 0, none⟩) L cp).ownBlock ≠ u6.ownBlock := by
              right
              intro he
              have := (World.ownsRow.lt hov g he.symm).1
              omega
            have R := push_ownY (w := wr) (d := c) hov (Below.refl _ _) hwq (by rw [← HMM.out, show Y c = .int .u8 (c : Int) from rfl]; exact ho) hgr
            have hog5 : OwnY w.heap.size w5 (.slice (some ⟨g, 0, none⟩) L cp) (chars ds) := (hog.below ((Below.refl _ _).alloc (Nat.le_refl _) _)).grown hgr hne
            have hbel5 : Below w.heap.size w w5 := hbelq.trans (R.2.1.mono hwB)
            clear ho hgr hov hbelq HO hB3 hog hne
            go_wp2
            go_roundw
            case rel =>
              refine ⟨j, by omega, by go_num, hog5, ?_, hbel5, R.2.2⟩
              rw [snoc_getD ds j (by rw [← HL.out]; omega), chars_append, show chars [ds.getD j 0] = [c] by simp only [chars, List.map_cons, List.map_nil]; rw [HC.out]]
              exact R.1
            case measure => simp [intOf]
          · have hi1 : i = 0 := by omega
            subst hi1
            have hge : ¬ (0 : Int) ≤ ((0 : Nat) : Int) - 1 := by omega
            rw [List.drop_zero, HS2.out] at hov
            have hsh2 : ∃ g' cp', u6 = .slice (some ⟨g', 0, none⟩) L cp' := by
              rcases hov.2 with ⟨_, h2⟩ | ⟨g', cap', cur, h1, _⟩
              · rw [chars_len, List.length_reverse, ← HS2.out, ← HL.out] at h2; exact absurd h2 hds
              · rw [chars_len, List.length_reverse, ← HS2.out, ← HL.out] at h1; exact ⟨g', cap', h1⟩
            obtain ⟨g', cp', rfl⟩ := hsh2
            have hlr : (chars (dec N).reverse).length = L := by rw [chars_len, List.length_reverse, ← HS2.out, ← HL.out]
            have hcv := run_convert_bytes_arg (P := Tryz.prog) wr 94 5 Tryz.underlying94 Tryz.underlying5 g' 0 L cp' ((chars (dec N).reverse).map fun (x : Nat) => (x : Int)) (by rw [List.length_map, hlr]) (fun i hi => by
              have := (hov.cell (k := i) (by rw [hlr]; exact hi)).1
              rw [Nat.zero_add, this]
              congr 2
              rw [List.getD_eq_getElem?_getD, List.getD_eq_getElem?_getD, List.getElem?_map]
              cases (chars (dec N).reverse)[i]? <;> rfl) 9 Tryz.underlying9
            have htx : strOfNums ((chars (dec N).reverse).map fun (x : Nat) => (x : Int)) = txt N := by
              unfold txt wri; rw [if_neg HN0.out]
            rw [htx] at hcv
            have HE : Hid (Below w.heap.size w wr) := hbelq
            clear htx hov hog hbelq hlr
            go_wp2_with fail
            go_ret
            exact ⟨rfl, HE.out⟩
end Go.Proofs.YtcmclmhfjmmffaaGreatDoor

/-
  Proved here: what Parse of the document's layer 3 answers of any text (of at most 400 bytes).
-/
import Derived.Test.YtcmclmhfjmmffaaGreatDoorParse3
namespace Go.Proofs.YtcmclmhfjmmffaaGreatDoor
open Go.RowKit

set_option maxRecDepth 100000 in
set_option maxHeartbeats 3200000 in
theorem digits3 (s : ByteArray) (w : World) (hs : s.size ≤ 1000000) : Calls Tryz.prog 85 #[.string s] w fun e w' => e = .returned (.bool (decide (okB s))) ∧ w' = w := by
  go_enter Tryz.func85, Tryz.ntmps85
  go_wp2_with fail
  go_loopw [3] (fun t wr => ∃ i : Nat, i ≤ s.size ∧ t = .int .i64 i ∧ (∀ j, j < i → 48 ≤ bt s j ∧ bt s j ≤ 57) ∧ wr = w) (fun t _ => s.size - (intOf t).toNat)
  case atStart => exact ⟨0, Nat.zero_le _, rfl, fun j hj => absurd hj (Nat.not_lt_zero _), rfl⟩
  case round =>
    obtain ⟨i, hi, rfl, hall, hw⟩ := hrel
    replace hw := hw.symm
    subst hw
    by_cases hlt : i < s.size
    · have hge : (i : Int) < (s.size : Int) := by omega
      have hgt := bt_get hlt
      obtain ⟨c, hc⟩ : ∃ c, c = bt s i := ⟨_, rfl⟩
      rw [← hc] at hgt
      by_cases h1 : c < 48
      · have h1' : (c : Int) < 48 := by omega
        have HN : Hid (decide (okB s) = false) := decide_eq_false fun h => by have := (h.1 i hlt).1; omega
        clear hall hc
        go_wp2
        go_ret
        exact ⟨by rw [HN.out]; rfl, rfl⟩
      · have h1' : ¬ (c : Int) < 48 := by omega
        by_cases h2 : 57 < c
        · have h2' : (57 : Int) < (c : Int) := by omega
          have HN : Hid (decide (okB s) = false) := decide_eq_false fun h => by have := (h.1 i hlt).2; omega
          clear hall hc
          go_wp2
          go_ret
          exact ⟨by rw [HN.out]; rfl, rfl⟩
        · have h2' : ¬ (57 : Int) < (c : Int) := by omega
          have HA : Hid (∀ j, j < i + 1 → 48 ≤ bt s j ∧ bt s j ≤ 57) := fun j hj => by
            rcases Nat.lt_or_ge j i with h | h
            · exact hall j h
            · rw [show j = i by omega]; omega
          clear hall hc
          go_wp2
          go_roundw
          case rel => exact ⟨i + 1, by omega, by go_num, HA.out, by first | trivial | rfl⟩
          case measure => simp [intOf]; omega
    · have hge : ¬ (i : Int) < (s.size : Int) := by omega
      obtain rfl : i = s.size := by omega
      have HN : Hid (decide (okB s) = decide (0 < s.size)) := by
        show _ = _
        rw [decide_eq_decide]
        exact ⟨fun h => h.2, fun h => ⟨hall, h⟩⟩
      clear hall
      go_wp2
      go_ret
      exact ⟨by rw [HN.out]; simp, rfl⟩
theorem bt_ext {s : ByteArray} {a b i : Nat} (_ : b ≤ s.size) (hi : i < b - a) : bt (s.extract a b) i = bt s (a + i) := by
  unfold bt
  rw [extract_list, List.getD_eq_getElem?_getD, List.getD_eq_getElem?_getD, List.getElem?_take_of_lt hi, List.getElem?_drop]
theorem ext_ext {s : ByteArray} {a b : Nat} (c d : Nat) (hd : d ≤ b - a) : (s.extract a b).extract c d = s.extract (a + c) (a + d) := by
  apply s_ext
  rw [extract_list, extract_list, extract_list, List.drop_take, List.take_take, List.drop_drop]
  congr 1
  omega
theorem tail_yes {s : ByteArray} (h : strk s = true) : tail s = s.extract 1 s.size := by unfold tail; rw [if_pos h]
theorem tail_not {s : ByteArray} (h : strk s = false) : tail s = s := by unfold tail; rw [h]; rfl
theorem strk_iff {s : ByteArray} : strk s = true ↔ 0 < s.size ∧ bt s 0 = 45 := by
  by_cases h : 0 < s.size
  · rw [strk_bt h]; simp [h]
  · constructor
    · intro h2; unfold strk at h2; rw [decide_eq_false h] at h2; cases h2
    · intro h2; exact absurd h2.1 h
theorem sp_tail {s top bot : ByteArray} {st : Bool} (h : SP s top bot st) : SP (tail s) (tail top) bot st ∧ strk top = strk s := by
  cases st with
  | false =>
    obtain ⟨rfl, rfl, hno⟩ := h
    refine ⟨⟨rfl, rfl, ?_⟩, rfl⟩
    cases hk : strk top with
    | false => rw [tail_not hk]; exact hno
    | true =>
      rw [tail_yes hk]
      intro i hi
      rw [ByteArray.size_extract] at hi
      rw [bt_ext (Nat.le_refl _) (by omega)]
      exact hno _ (by omega)
  | true =>
    obtain ⟨k, h1, h2, h3, rfl, rfl⟩ := h
    have hz : (s.extract 0 k).size = k := by rw [ByteArray.size_extract]; omega
    cases hk : strk s with
    | false =>
      have ht : strk (s.extract 0 k) = false := by
        cases ht : strk (s.extract 0 k) with
        | false => rfl
        | true =>
          obtain ⟨a1, a2⟩ := strk_iff.1 ht
          rw [hz] at a1
          rw [bt_ext (by omega) (by omega)] at a2
          have : strk s = true := strk_iff.2 ⟨by omega, a2⟩
          rw [hk] at this; cases this
      rw [tail_not hk, tail_not ht]
      exact ⟨⟨k, h1, h2, h3, rfl, rfl⟩, ht⟩
    | true =>
      obtain ⟨a1, a2⟩ := strk_iff.1 hk
      have hk1 : 1 ≤ k := by
        rcases Nat.eq_zero_or_pos k with h | h
        · rw [h, a2] at h2; exact absurd h2 (by decide)
        · exact h
      have ht : strk (s.extract 0 k) = true := strk_iff.2 ⟨by rw [hz]; exact hk1, by rw [bt_ext (by omega) (by omega)]; exact a2⟩
      have hs1 : (s.extract 1 s.size).size = s.size - 1 := by rw [ByteArray.size_extract]; omega
      rw [tail_yes hk, tail_yes ht, hz]
      refine ⟨⟨k - 1, by omega, ?_, fun i hi => ?_, ?_, ?_⟩, ht⟩
      · rw [bt_ext (Nat.le_refl _) (by omega), show 1 + (k - 1) = k by omega]; exact h2
      · rw [bt_ext (Nat.le_refl _) (by omega)]; exact h3 _ (by omega)
      · rw [ext_ext 1 k (by omega), ext_ext 0 (k - 1) (by omega), show 0 + 1 = 1 + 0 by omega, show 0 + k = 1 + (k - 1) by omega]
      · rw [hs1, ext_ext (k - 1 + 1) (s.size - 1) (by omega), show 1 + (k - 1 + 1) = k + 1 by omega, show 1 + (s.size - 1) = s.size by omega]
set_option maxRecDepth 100000 in
set_option maxHeartbeats 6400000 in
theorem rparse_empty_f00 {s top bot : ByteArray} (w : World) (h : SP s top bot false) (hs : s.size ≤ 400) (hts0 : top.size ≤ 400) (hbs : (botF bot false).size ≤ 400) (h0 : ¬ 0 < s.size) (hkv : strk s = false) (ha : ¬ okT top) : Calls Tryz.prog 48 #[.string s] w fun e w' => PT w top (botF bot false) e w' := by
  obtain ⟨t, ht⟩ : ∃ t, t = tail s := ⟨_, rfl⟩
  obtain ⟨hsp, hsk⟩ := sp_tail h
  obtain ⟨A, hA⟩ : ∃ A, A = tail top := ⟨_, rfl⟩
  obtain ⟨Bt, hBt⟩ : ∃ B, B = botF bot false := ⟨_, rfl⟩
  rw [← ht, ← hA] at hsp
  rw [← hBt] at hbs ⊢
  have hts : t.size ≤ 400 := by rw [ht]; exact Nat.le_trans (tail_le s) hs
  have hAs : A.size ≤ 400 := by rw [hA]; exact Nat.le_trans (tail_le top) hts0
  have hd1 := fun w => digits3 A w (by omega)
  have hd2 := fun w => digits3 Bt w (by omega)
  have e1 : decide (okB A) = false := decide_eq_false (by rw [hA]; exact ha)
  rw [e1] at hd1
  have HNO : Hid (¬ (okT top ∧ okB Bt)) := fun hh => ha hh.1
  have h0i : ¬ (0 : Int) < (s.size : Int) := by omega
  have hts2 : t = s := by rw [ht]; exact tail_not hkv
  subst hts2
  clear ht hsk hkv e1
  obtain ⟨hAt, _, hno⟩ := hsp
  clear hA
  have hBo : Bt = ⟨#[49]⟩ := hBt
  clear hBt
  subst hAt
  have HA2 : Hid (True) := trivial
  obtain ⟨W1, hW1⟩ : ∃ W1, W1 = w.alloc (.cells #[.bool false, .slice none 0 0, .slice none 0 0] 27) := ⟨_, rfl⟩
  have qR : QCell W1 (w.heap.size) false (.slice none 0 0) (.slice none 0 0) := by rw [hW1]; exact (qcell_new _ (by simp))
  have hb : Below w.heap.size w W1 := by rw [hW1]; exact belowA w _
  have hsz : w.heap.size < W1.heap.size := by rw [hW1]; simp
  have HW1 : Hid (W1 = w.alloc (.cells #[.bool false, .slice none 0 0, .slice none 0 0] 27)) := hW1
  clear hW1
  go_enter Tryz.func48, Tryz.ntmps48
  go_wp2_with fail
  rw [← HW1.out]
  clear HW1
  obtain ⟨g, hg⟩ : ∃ g, g = w.heap.size := ⟨_, rfl⟩
  rw [← hg] at qR hsz ⊢
  have HG : Hid (g = w.heap.size) := hg
  clear hg
  obtain ⟨cqR0, cqR1, cqR2⟩ := qR.cells
  go_loopw [5, 6, 7] (fun x y v wr => ∃ i : Nat, i ≤ A.size ∧ x = .string A ∧ y = .string ⟨#[49]⟩ ∧ v = .int .i64 i ∧ wr = W1) (fun _ _ v _ => A.size - (intOf v).toNat)
  case atStart => exact ⟨0, Nat.zero_le _, rfl, rfl, rfl, rfl⟩
  case round =>
    obtain ⟨i, hin, rfl, rfl, rfl, hwr⟩ := hrel
    replace hwr := hwr.symm
    subst hwr
    by_cases hlt : i < A.size
    · have hge : (i : Int) < (A.size : Int) := by omega
      have hg2 := bt_get hlt
      have h47 : ((bt A i : Int) == 47) = false := by have := hno i hlt; simp; omega
      obtain ⟨cc, hcc⟩ : ∃ c, c = bt A i := ⟨_, rfl⟩
      rw [← hcc] at hg2 h47
      clear hcc hno
      go_wp2
      go_roundw
      case rel => exact ⟨i + 1, by omega, rfl, rfl, by go_num, by first | trivial | rfl⟩
      case measure => simp [intOf]; omega
    · have hge : ¬ (i : Int) < (A.size : Int) := by omega
      clear hno
      subst hBo
      go_wp2_with fail
      refine (hd1 _).mono ?_
      rintro e w2 ⟨rfl, hw2⟩
      rw [hw2]
      clear hd1 hw2
      go_wp2_with fail
      refine (hd2 _).mono ?_
      rintro e w3 ⟨rfl, hw3⟩
      rw [hw3]
      clear hd2 hw3
      obtain ⟨cqR0, cqR1, cqR2⟩ := qR.cells
      clear cqR0 cqR1 cqR2
      have HE : Hid (Below w.heap.size w (((W1.setCell ⟨g, 0, none⟩ (.bool false)).setCell ⟨g, 1, none⟩ (.slice none 0 0)).setCell ⟨g, 2, none⟩ (.slice none 0 0))) := iend3 hb (by rw [HG.out]; omega)
      have HW : Hid (QCell (((W1.setCell ⟨g, 0, none⟩ (.bool false)).setCell ⟨g, 1, none⟩ (.slice none 0 0)).setCell ⟨g, 2, none⟩ (.slice none 0 0)) (g) false (.slice none 0 0) (.slice none 0 0)) := qR.write _ _ _
      obtain ⟨y0, y1, y2⟩ := qR.cells
      have f0 := qR.thaw 0
      have f1 := qR.thaw 1
      have f2 := qR.thaw 2
      have HPH : Hid _ := pt_no HNO.out HE.out
      clear hb hsz qR
      go_wp2_with fail
      (try simp only [Exit.inBlock, Exit.then])
      exact bodyPost_ret (results_ct (p := 2) (u := 3) rfl _ _ (g) 27 _ (0, 0) _ rfl HW.out Tryz.underlying27 rfl (by kernel_rfl)) rfl HPH.out
set_option maxRecDepth 100000 in
set_option maxHeartbeats 6400000 in
theorem rparse_minus_f00 {s top bot : ByteArray} (w : World) (h : SP s top bot false) (hs : s.size ≤ 400) (hts0 : top.size ≤ 400) (hbs : (botF bot false).size ≤ 400) (h0 : 0 < s.size) (hkk : bt s 0 = 45) (hkv : strk s = true) (ha : ¬ okT top) : Calls Tryz.prog 48 #[.string s] w fun e w' => PT w top (botF bot false) e w' := by
  obtain ⟨t, ht⟩ : ∃ t, t = tail s := ⟨_, rfl⟩
  obtain ⟨hsp, hsk⟩ := sp_tail h
  obtain ⟨A, hA⟩ : ∃ A, A = tail top := ⟨_, rfl⟩
  obtain ⟨Bt, hBt⟩ : ∃ B, B = botF bot false := ⟨_, rfl⟩
  rw [← ht, ← hA] at hsp
  rw [← hBt] at hbs ⊢
  have hts : t.size ≤ 400 := by rw [ht]; exact Nat.le_trans (tail_le s) hs
  have hAs : A.size ≤ 400 := by rw [hA]; exact Nat.le_trans (tail_le top) hts0
  have hd1 := fun w => digits3 A w (by omega)
  have hd2 := fun w => digits3 Bt w (by omega)
  have e1 : decide (okB A) = false := decide_eq_false (by rw [hA]; exact ha)
  rw [e1] at hd1
  have HNO : Hid (¬ (okT top ∧ okB Bt)) := fun hh => ha hh.1
  have h0i : (0 : Int) < (s.size : Int) := by omega
  have hgt := bt_get (s := s) (i := 0) h0
  obtain ⟨c, hc⟩ : ∃ c, c = bt s 0 := ⟨_, rfl⟩
  rw [← hc] at hgt
  have hc45 : c = 45 := hc.trans hkk
  subst hc45
  have h1i : (1 : Int) ≤ (s.size : Int) := by omega
  clear hc hkk
  have hx1 : s.extract 1 s.size = t := by rw [ht]; exact (tail_yes hkv).symm
  clear ht hsk hkv e1
  obtain ⟨hAt, _, hno⟩ := hsp
  clear hA
  have hBo : Bt = ⟨#[49]⟩ := hBt
  clear hBt
  subst hAt
  have HA2 : Hid (True) := trivial
  obtain ⟨W1, hW1⟩ : ∃ W1, W1 = w.alloc (.cells #[.bool false, .slice none 0 0, .slice none 0 0] 27) := ⟨_, rfl⟩
  have qR : QCell W1 (w.heap.size) false (.slice none 0 0) (.slice none 0 0) := by rw [hW1]; exact (qcell_new _ (by simp))
  have hb : Below w.heap.size w W1 := by rw [hW1]; exact belowA w _
  have hsz : w.heap.size < W1.heap.size := by rw [hW1]; simp
  have HW1 : Hid (W1 = w.alloc (.cells #[.bool false, .slice none 0 0, .slice none 0 0] 27)) := hW1
  clear hW1
  go_enter Tryz.func48, Tryz.ntmps48
  go_wp2_with fail
  rw [← HW1.out]
  clear HW1
  obtain ⟨g, hg⟩ : ∃ g, g = w.heap.size := ⟨_, rfl⟩
  rw [← hg] at qR hsz ⊢
  have HG : Hid (g = w.heap.size) := hg
  clear hg
  obtain ⟨cqR0, cqR1, cqR2⟩ := qR.cells
  go_loopw [5, 6, 7] (fun x y v wr => ∃ i : Nat, i ≤ A.size ∧ x = .string A ∧ y = .string ⟨#[49]⟩ ∧ v = .int .i64 i ∧ wr = W1) (fun _ _ v _ => A.size - (intOf v).toNat)
  case atStart => exact ⟨0, Nat.zero_le _, rfl, rfl, rfl, rfl⟩
  case round =>
    obtain ⟨i, hin, rfl, rfl, rfl, hwr⟩ := hrel
    replace hwr := hwr.symm
    subst hwr
    by_cases hlt : i < A.size
    · have hge : (i : Int) < (A.size : Int) := by omega
      have hg2 := bt_get hlt
      have h47 : ((bt A i : Int) == 47) = false := by have := hno i hlt; simp; omega
      obtain ⟨cc, hcc⟩ : ∃ c, c = bt A i := ⟨_, rfl⟩
      rw [← hcc] at hg2 h47
      clear hcc hno
      go_wp2
      go_roundw
      case rel => exact ⟨i + 1, by omega, rfl, rfl, by go_num, by first | trivial | rfl⟩
      case measure => simp [intOf]; omega
    · have hge : ¬ (i : Int) < (A.size : Int) := by omega
      clear hno
      subst hBo
      go_wp2_with fail
      refine (hd1 _).mono ?_
      rintro e w2 ⟨rfl, hw2⟩
      rw [hw2]
      clear hd1 hw2
      go_wp2_with fail
      refine (hd2 _).mono ?_
      rintro e w3 ⟨rfl, hw3⟩
      rw [hw3]
      clear hd2 hw3
      obtain ⟨cqR0, cqR1, cqR2⟩ := qR.cells
      clear cqR0 cqR1 cqR2
      have HE : Hid (Below w.heap.size w (((W1.setCell ⟨g, 0, none⟩ (.bool false)).setCell ⟨g, 1, none⟩ (.slice none 0 0)).setCell ⟨g, 2, none⟩ (.slice none 0 0))) := iend3 hb (by rw [HG.out]; omega)
      have HW : Hid (QCell (((W1.setCell ⟨g, 0, none⟩ (.bool false)).setCell ⟨g, 1, none⟩ (.slice none 0 0)).setCell ⟨g, 2, none⟩ (.slice none 0 0)) (g) false (.slice none 0 0) (.slice none 0 0)) := qR.write _ _ _
      obtain ⟨y0, y1, y2⟩ := qR.cells
      have f0 := qR.thaw 0
      have f1 := qR.thaw 1
      have f2 := qR.thaw 2
      have HPH : Hid _ := pt_no HNO.out HE.out
      clear hb hsz qR
      go_wp2_with fail
      (try simp only [Exit.inBlock, Exit.then])
      exact bodyPost_ret (results_ct (p := 2) (u := 3) rfl _ _ (g) 27 _ (0, 0) _ rfl HW.out Tryz.underlying27 rfl (by kernel_rfl)) rfl HPH.out
set_option maxRecDepth 100000 in
set_option maxHeartbeats 6400000 in
theorem rparse_minus_f10 {s top bot : ByteArray} (w : World) (h : SP s top bot false) (hs : s.size ≤ 400) (hts0 : top.size ≤ 400) (hbs : (botF bot false).size ≤ 400) (h0 : 0 < s.size) (hkk : bt s 0 = 45) (hkv : strk s = true) (ha : okT top) (hb2 : ¬ okB (botF bot false)) : Calls Tryz.prog 48 #[.string s] w fun e w' => PT w top (botF bot false) e w' := by
  obtain ⟨t, ht⟩ : ∃ t, t = tail s := ⟨_, rfl⟩
  obtain ⟨hsp, hsk⟩ := sp_tail h
  obtain ⟨A, hA⟩ : ∃ A, A = tail top := ⟨_, rfl⟩
  obtain ⟨Bt, hBt⟩ : ∃ B, B = botF bot false := ⟨_, rfl⟩
  rw [← ht, ← hA] at hsp
  rw [← hBt] at hbs ⊢
  have hts : t.size ≤ 400 := by rw [ht]; exact Nat.le_trans (tail_le s) hs
  have hAs : A.size ≤ 400 := by rw [hA]; exact Nat.le_trans (tail_le top) hts0
  have hd1 := fun w => digits3 A w (by omega)
  have hd2 := fun w => digits3 Bt w (by omega)
  have e1 : decide (okB A) = true := decide_eq_true (by rw [hA]; exact ha)
  rw [e1] at hd1
  have e2 : decide (okB Bt) = false := decide_eq_false (by rw [hBt]; exact hb2)
  rw [e2] at hd2
  clear e2
  have HNO : Hid (¬ (okT top ∧ okB Bt)) := by rw [hBt]; exact fun hh => hb2 hh.2
  have h0i : (0 : Int) < (s.size : Int) := by omega
  have hgt := bt_get (s := s) (i := 0) h0
  obtain ⟨c, hc⟩ : ∃ c, c = bt s 0 := ⟨_, rfl⟩
  rw [← hc] at hgt
  have hc45 : c = 45 := hc.trans hkk
  subst hc45
  have h1i : (1 : Int) ≤ (s.size : Int) := by omega
  clear hc hkk
  have hx1 : s.extract 1 s.size = t := by rw [ht]; exact (tail_yes hkv).symm
  clear ht hsk hkv e1
  obtain ⟨hAt, _, hno⟩ := hsp
  clear hA
  have hBo : Bt = ⟨#[49]⟩ := hBt
  clear hBt
  subst hAt
  have HA2 : Hid (True) := trivial
  obtain ⟨W1, hW1⟩ : ∃ W1, W1 = w.alloc (.cells #[.bool false, .slice none 0 0, .slice none 0 0] 27) := ⟨_, rfl⟩
  have qR : QCell W1 (w.heap.size) false (.slice none 0 0) (.slice none 0 0) := by rw [hW1]; exact (qcell_new _ (by simp))
  have hb : Below w.heap.size w W1 := by rw [hW1]; exact belowA w _
  have hsz : w.heap.size < W1.heap.size := by rw [hW1]; simp
  have HW1 : Hid (W1 = w.alloc (.cells #[.bool false, .slice none 0 0, .slice none 0 0] 27)) := hW1
  clear hW1
  go_enter Tryz.func48, Tryz.ntmps48
  go_wp2_with fail
  rw [← HW1.out]
  clear HW1
  obtain ⟨g, hg⟩ : ∃ g, g = w.heap.size := ⟨_, rfl⟩
  rw [← hg] at qR hsz ⊢
  have HG : Hid (g = w.heap.size) := hg
  clear hg
  obtain ⟨cqR0, cqR1, cqR2⟩ := qR.cells
  go_loopw [5, 6, 7] (fun x y v wr => ∃ i : Nat, i ≤ A.size ∧ x = .string A ∧ y = .string ⟨#[49]⟩ ∧ v = .int .i64 i ∧ wr = W1) (fun _ _ v _ => A.size - (intOf v).toNat)
  case atStart => exact ⟨0, Nat.zero_le _, rfl, rfl, rfl, rfl⟩
  case round =>
    obtain ⟨i, hin, rfl, rfl, rfl, hwr⟩ := hrel
    replace hwr := hwr.symm
    subst hwr
    by_cases hlt : i < A.size
    · have hge : (i : Int) < (A.size : Int) := by omega
      have hg2 := bt_get hlt
      have h47 : ((bt A i : Int) == 47) = false := by have := hno i hlt; simp; omega
      obtain ⟨cc, hcc⟩ : ∃ c, c = bt A i := ⟨_, rfl⟩
      rw [← hcc] at hg2 h47
      clear hcc hno
      go_wp2
      go_roundw
      case rel => exact ⟨i + 1, by omega, rfl, rfl, by go_num, by first | trivial | rfl⟩
      case measure => simp [intOf]; omega
    · have hge : ¬ (i : Int) < (A.size : Int) := by omega
      clear hno
      subst hBo
      go_wp2_with fail
      refine (hd1 _).mono ?_
      rintro e w2 ⟨rfl, hw2⟩
      rw [hw2]
      clear hd1 hw2
      go_wp2_with fail
      refine (hd2 _).mono ?_
      rintro e w3 ⟨rfl, hw3⟩
      rw [hw3]
      clear hd2 hw3
      obtain ⟨cqR0, cqR1, cqR2⟩ := qR.cells
      clear cqR0 cqR1 cqR2
      have HE : Hid (Below w.heap.size w (((W1.setCell ⟨g, 0, none⟩ (.bool false)).setCell ⟨g, 1, none⟩ (.slice none 0 0)).setCell ⟨g, 2, none⟩ (.slice none 0 0))) := iend3 hb (by rw [HG.out]; omega)
      have HW : Hid (QCell (((W1.setCell ⟨g, 0, none⟩ (.bool false)).setCell ⟨g, 1, none⟩ (.slice none 0 0)).setCell ⟨g, 2, none⟩ (.slice none 0 0)) (g) false (.slice none 0 0) (.slice none 0 0)) := qR.write _ _ _
      obtain ⟨y0, y1, y2⟩ := qR.cells
      have f0 := qR.thaw 0
      have f1 := qR.thaw 1
      have f2 := qR.thaw 2
      have HPH : Hid _ := pt_no HNO.out HE.out
      clear hb hsz qR
      go_wp2_with fail
      (try simp only [Exit.inBlock, Exit.then])
      exact bodyPost_ret (results_ct (p := 2) (u := 3) rfl _ _ (g) 27 _ (0, 0) _ rfl HW.out Tryz.underlying27 rfl (by kernel_rfl)) rfl HPH.out
set_option maxRecDepth 100000 in
set_option maxHeartbeats 6400000 in
theorem rparse_minus_f11 {s top bot : ByteArray} (w : World) (h : SP s top bot false) (hs : s.size ≤ 400) (hts0 : top.size ≤ 400) (hbs : (botF bot false).size ≤ 400) (h0 : 0 < s.size) (hkk : bt s 0 = 45) (hkv : strk s = true) (ha : okT top) (hb2 : okB (botF bot false)) : Calls Tryz.prog 48 #[.string s] w fun e w' => PT w top (botF bot false) e w' := by
  obtain ⟨t, ht⟩ : ∃ t, t = tail s := ⟨_, rfl⟩
  obtain ⟨hsp, hsk⟩ := sp_tail h
  obtain ⟨A, hA⟩ : ∃ A, A = tail top := ⟨_, rfl⟩
  obtain ⟨Bt, hBt⟩ : ∃ B, B = botF bot false := ⟨_, rfl⟩
  rw [← ht, ← hA] at hsp
  rw [← hBt] at hbs ⊢
  have hts : t.size ≤ 400 := by rw [ht]; exact Nat.le_trans (tail_le s) hs
  have hAs : A.size ≤ 400 := by rw [hA]; exact Nat.le_trans (tail_le top) hts0
  have hd1 := fun w => digits3 A w (by omega)
  have hd2 := fun w => digits3 Bt w (by omega)
  have e1 : decide (okB A) = true := decide_eq_true (by rw [hA]; exact ha)
  rw [e1] at hd1
  have e2 : decide (okB Bt) = true := decide_eq_true (by rw [hBt]; exact hb2)
  rw [e2] at hd2
  clear e2
  have hkA : okB A := by rw [hA]; exact ha
  have hkB : okB Bt := by rw [hBt]; exact hb2
  have hp1 := fun w => parse_ref A w (by omega)
  have hp2 := fun w => parse_ref Bt w (by omega)
  unfold ParseEnd at hp1 hp2
  simp only [if_pos (show DigOk A ∧ 0 < A.size from hkA)] at hp1
  simp only [if_pos (show DigOk Bt ∧ 0 < Bt.size from hkB)] at hp2
  have HPY : Hid (∀ e w', TEx w (nS (pz top) (pQ Bt)) (nE (pQ Bt)) (nM (pz top) (pQ Bt)) (nD (pz top) (pQ Bt)) e w' → PT w top Bt e w') := fun e w' => pt_yes ⟨ha, hkB⟩
  have HLP : Hid ((lim (bval (dgs A))).length ≤ 50 ∧ (lim (bval (dgs Bt))).length ≤ 50) := ⟨lim_len_le (dgs_lt hkA.1 50 (by omega)), lim_len_le (dgs_lt hkB.1 50 (by omega))⟩
  have HP : Hid (zv true (bval (dgs A)) = pz top) := by show _ = _; rw [show pz top = zv (strk top) (bval (dgs (tail top))) from if_pos ha, hsk, hkv, hA]
  have HQ : Hid (zv false (bval (dgs Bt)) = pQ Bt) := rfl
  clear hkA hkB
  generalize pz top = p at *
  generalize pQ Bt = q at *
  generalize bval (dgs A) = va at *
  generalize bval (dgs Bt) = vb at *
  have h0i : (0 : Int) < (s.size : Int) := by omega
  have hgt := bt_get (s := s) (i := 0) h0
  obtain ⟨c, hc⟩ : ∃ c, c = bt s 0 := ⟨_, rfl⟩
  rw [← hc] at hgt
  have hc45 : c = 45 := hc.trans hkk
  subst hc45
  have h1i : (1 : Int) ≤ (s.size : Int) := by omega
  clear hc hkk
  have hx1 : s.extract 1 s.size = t := by rw [ht]; exact (tail_yes hkv).symm
  clear ht hsk hkv e1
  obtain ⟨hAt, _, hno⟩ := hsp
  clear hA
  have hBo : Bt = ⟨#[49]⟩ := hBt
  clear hBt
  subst hAt
  have HA2 : Hid (True) := trivial
  obtain ⟨W1, hW1⟩ : ∃ W1, W1 = w.alloc (.cells #[.bool false, .slice none 0 0, .slice none 0 0] 27) := ⟨_, rfl⟩
  have qR : QCell W1 (w.heap.size) false (.slice none 0 0) (.slice none 0 0) := by rw [hW1]; exact (qcell_new _ (by simp))
  have hb : Below w.heap.size w W1 := by rw [hW1]; exact belowA w _
  have hsz : w.heap.size < W1.heap.size := by rw [hW1]; simp
  have HW1 : Hid (W1 = w.alloc (.cells #[.bool false, .slice none 0 0, .slice none 0 0] 27)) := hW1
  clear hW1
  go_enter Tryz.func48, Tryz.ntmps48
  go_wp2_with fail
  rw [← HW1.out]
  clear HW1
  obtain ⟨g, hg⟩ : ∃ g, g = w.heap.size := ⟨_, rfl⟩
  rw [← hg] at qR hsz ⊢
  have HG : Hid (g = w.heap.size) := hg
  clear hg
  obtain ⟨cqR0, cqR1, cqR2⟩ := qR.cells
  go_loopw [5, 6, 7] (fun x y v wr => ∃ i : Nat, i ≤ A.size ∧ x = .string A ∧ y = .string ⟨#[49]⟩ ∧ v = .int .i64 i ∧ wr = W1) (fun _ _ v _ => A.size - (intOf v).toNat)
  case atStart => exact ⟨0, Nat.zero_le _, rfl, rfl, rfl, rfl⟩
  case round =>
    obtain ⟨i, hin, rfl, rfl, rfl, hwr⟩ := hrel
    replace hwr := hwr.symm
    subst hwr
    by_cases hlt : i < A.size
    · have hge : (i : Int) < (A.size : Int) := by omega
      have hg2 := bt_get hlt
      have h47 : ((bt A i : Int) == 47) = false := by have := hno i hlt; simp; omega
      obtain ⟨cc, hcc⟩ : ∃ c, c = bt A i := ⟨_, rfl⟩
      rw [← hcc] at hg2 h47
      clear hcc hno
      go_wp2
      go_roundw
      case rel => exact ⟨i + 1, by omega, rfl, rfl, by go_num, by first | trivial | rfl⟩
      case measure => simp [intOf]; omega
    · have hge : ¬ (i : Int) < (A.size : Int) := by omega
      clear hno
      subst hBo
      go_wp2_with fail
      refine (hd1 _).mono ?_
      rintro e w2 ⟨rfl, hw2⟩
      rw [hw2]
      clear hd1 hw2
      go_wp2_with fail
      refine (hd2 _).mono ?_
      rintro e w3 ⟨rfl, hw3⟩
      rw [hw3]
      clear hd2 hw3
      obtain ⟨cqR0, cqR1, cqR2⟩ := qR.cells
      go_wp2_with fail
      clear cqR0 cqR1 cqR2
      refine (hp1 _).mono ?_
      rintro e w2 ⟨u, rfl, hu, b⟩
      clear hp1
      obtain ⟨ao, al, ac, rfl⟩ := hu.sl
      have ua := hu.num
      clear hu
      replace qR := qR.below b
      replace hb := bstep hb b
      replace hsz := Nat.lt_of_lt_of_le hsz b.size
      clear b
      obtain ⟨cqR0, cqR1, cqR2⟩ := qR.cells
      go_wp2_with fail
      clear cqR0 cqR1 cqR2
      refine (hp2 _).mono ?_
      rintro e w3 ⟨u, rfl, hu, b⟩
      clear hp2
      obtain ⟨bo, bl, bc, rfl⟩ := hu.sl
      have ub := hu.num
      clear hu
      replace ua := ua.below (Nat.le_refl _) b
      replace qR := qR.below b
      replace hb := bstep hb b
      replace hsz := Nat.lt_of_lt_of_le hsz b.size
      clear b
      obtain ⟨cqR0, cqR1, cqR2⟩ := qR.cells
      go_wp2_with fail
      clear cqR0 cqR1 cqR2
      refine (whole3 bo bl bc _).mono ?_
      rintro e w4 ⟨rfl, b⟩
      replace ua := ua.below (Nat.le_refl _) b
      replace ub := ub.below (Nat.le_refl _) b
      replace qR := qR.below b
      replace hb := bstep hb b
      replace hsz := Nat.lt_of_lt_of_le hsz b.size
      clear b
      obtain ⟨cqR0, cqR1, cqR2⟩ := qR.cells
      go_wp2_with fail
      clear cqR0 cqR1 cqR2
      have ia : IB w4 (.agg #[.bool true, .slice ao al ac]) p 300 := ⟨_, _, _, _, _, rfl, ua, Nat.le_trans HLP.out.1 (by decide), by rw [val_lim]; exact HP.out⟩
      have ib : IB w4 (.agg #[.bool false, .slice bo bl bc]) q 300 := ⟨_, _, _, _, _, rfl, ub, Nat.le_trans HLP.out.2 (by decide), by rw [val_lim]; exact HQ.out⟩
      have hq := (newR ia ib).mono fun _ _ h => h.x
      clear ia ib
      have hszz := hsz
      refine (hq).mono ?_
      rintro e w5 ⟨mo, mc, dO, dC, rfl, hm, hd, hap, b⟩
      clear hq
      replace ua := ua.below (Nat.le_refl _) b
      replace ub := ub.below (Nat.le_refl _) b
      replace qR := qR.below b
      replace hb := bstep hb b
      replace hsz := Nat.lt_of_lt_of_le hsz b.size
      clear b
      have HE : Hid (TEx w (nS p q) (nE q) (nM p q) (nD p q) (.returned (.tuple #[.agg #[.bool (nS p q), .slice mo (nM p q).length mc, .slice dO (nD p q).length dC], .int .i64 (nE q)])) (((w5.setCell ⟨g, 0, none⟩ (.bool (nS p q))).setCell ⟨g, 1, none⟩ (.slice mo (nM p q).length mc)).setCell ⟨g, 2, none⟩ (.slice dO (nD p q).length dC))) := tex_done (by rw [HG.out]; omega) hm hd hap hszz hb
      have HW : Hid (QCell (((w5.setCell ⟨g, 0, none⟩ (.bool (nS p q))).setCell ⟨g, 1, none⟩ (.slice mo (nM p q).length mc)).setCell ⟨g, 2, none⟩ (.slice dO (nD p q).length dC)) (g) (nS p q) (.slice mo (nM p q).length mc) (.slice dO (nD p q).length dC)) := qR.write _ _ _
      obtain ⟨y0, y1, y2⟩ := qR.cells
      have f0 := qR.thaw 0
      have f1 := qR.thaw 1
      have f2 := qR.thaw 2
      have HPT := HPY.out _ _ HE.out
      have HPH : Hid _ := HPT
      clear HPT HE hap hm hd HPY
      generalize (nM p q).length = lm at *
      generalize (nD p q).length = ld at *
      generalize nS p q = s1 at *
      generalize nE q = e1 at *
      clear hb hsz hszz qR ua ub
      go_wp2_with fail
      (try simp only [Exit.inBlock, Exit.then])
      exact bodyPost_ret (results_ct (p := 2) (u := 3) rfl _ _ (g) 27 _ (0, 0) _ rfl HW.out Tryz.underlying27 rfl (by kernel_rfl)) rfl HPH.out
set_option maxRecDepth 100000 in
set_option maxHeartbeats 6400000 in
theorem rparse_minus_t00 {s top bot : ByteArray} (w : World) (h : SP s top bot true) (hs : s.size ≤ 400) (hts0 : top.size ≤ 400) (hbs : (botF bot true).size ≤ 400) (h0 : 0 < s.size) (hkk : bt s 0 = 45) (hkv : strk s = true) (ha : ¬ okT top) : Calls Tryz.prog 48 #[.string s] w fun e w' => PT w top (botF bot true) e w' := by
  obtain ⟨t, ht⟩ : ∃ t, t = tail s := ⟨_, rfl⟩
  obtain ⟨hsp, hsk⟩ := sp_tail h
  obtain ⟨A, hA⟩ : ∃ A, A = tail top := ⟨_, rfl⟩
  obtain ⟨Bt, hBt⟩ : ∃ B, B = botF bot true := ⟨_, rfl⟩
  rw [← ht, ← hA] at hsp
  rw [← hBt] at hbs ⊢
  have hts : t.size ≤ 400 := by rw [ht]; exact Nat.le_trans (tail_le s) hs
  have hAs : A.size ≤ 400 := by rw [hA]; exact Nat.le_trans (tail_le top) hts0
  have hd1 := fun w => digits3 A w (by omega)
  have hd2 := fun w => digits3 Bt w (by omega)
  have e1 : decide (okB A) = false := decide_eq_false (by rw [hA]; exact ha)
  rw [e1] at hd1
  have HNO : Hid (¬ (okT top ∧ okB Bt)) := fun hh => ha hh.1
  have h0i : (0 : Int) < (s.size : Int) := by omega
  have hgt := bt_get (s := s) (i := 0) h0
  obtain ⟨c, hc⟩ : ∃ c, c = bt s 0 := ⟨_, rfl⟩
  rw [← hc] at hgt
  have hc45 : c = 45 := hc.trans hkk
  subst hc45
  have h1i : (1 : Int) ≤ (s.size : Int) := by omega
  clear hc hkk
  have hx1 : s.extract 1 s.size = t := by rw [ht]; exact (tail_yes hkv).symm
  clear ht hsk hkv e1
  obtain ⟨k, hk1, hk2, hk3, hAt, hbot⟩ := hsp
  have hBo : Bt = bot := hBt
  rw [hbot] at hBo
  clear hBt hbot hA
  have HA2 : Hid (True) := trivial
  obtain ⟨W1, hW1⟩ : ∃ W1, W1 = w.alloc (.cells #[.bool false, .slice none 0 0, .slice none 0 0] 27) := ⟨_, rfl⟩
  have qR : QCell W1 (w.heap.size) false (.slice none 0 0) (.slice none 0 0) := by rw [hW1]; exact (qcell_new _ (by simp))
  have hb : Below w.heap.size w W1 := by rw [hW1]; exact belowA w _
  have hsz : w.heap.size < W1.heap.size := by rw [hW1]; simp
  have HW1 : Hid (W1 = w.alloc (.cells #[.bool false, .slice none 0 0, .slice none 0 0] 27)) := hW1
  clear hW1
  go_enter Tryz.func48, Tryz.ntmps48
  go_wp2_with fail
  rw [← HW1.out]
  clear HW1
  obtain ⟨g, hg⟩ : ∃ g, g = w.heap.size := ⟨_, rfl⟩
  rw [← hg] at qR hsz ⊢
  have HG : Hid (g = w.heap.size) := hg
  clear hg
  obtain ⟨cqR0, cqR1, cqR2⟩ := qR.cells
  go_loopw [5, 6, 7] (fun x y v wr => ∃ i : Nat, i ≤ k ∧ x = .string t ∧ y = .string ⟨#[49]⟩ ∧ v = .int .i64 i ∧ wr = W1) (fun _ _ v _ => t.size - (intOf v).toNat)
  case atStart => exact ⟨0, Nat.zero_le _, rfl, rfl, rfl, rfl⟩
  case round =>
    obtain ⟨i, hin, rfl, rfl, rfl, hwr⟩ := hrel
    replace hwr := hwr.symm
    subst hwr
    have hkt : k < t.size := hk1
    have hlt : i < t.size := by omega
    have hge : (i : Int) < (t.size : Int) := by omega
    have hg2 := bt_get hlt
    by_cases hik : i < k
    · have h47 : ((bt t i : Int) == 47) = false := by have := hk3 i hik; simp; omega
      obtain ⟨cc, hcc⟩ : ∃ c, c = bt t i := ⟨_, rfl⟩
      rw [← hcc] at hg2 h47
      clear hcc hk3 hk2 hAt hBo
      go_wp2
      go_roundw
      case rel => exact ⟨i + 1, by omega, rfl, rfl, by go_num, by first | trivial | rfl⟩
      case measure => simp [intOf]; omega
    · obtain rfl : i = k := by omega
      rw [hk2] at hg2
      have hle1 : (i : Int) ≤ (t.size : Int) := by omega
      have hle2 : (i : Int) + 1 ≤ (t.size : Int) := by omega
      clear hk3 hk2
      have hAt2 := hAt.symm
      have hBo2 := hBo.symm
      clear hAt hBo
      go_wp2_with fail
      refine (hd1 _).mono ?_
      rintro e w2 ⟨rfl, hw2⟩
      rw [hw2]
      clear hd1 hw2
      go_wp2_with fail
      refine (hd2 _).mono ?_
      rintro e w3 ⟨rfl, hw3⟩
      rw [hw3]
      clear hd2 hw3
      obtain ⟨cqR0, cqR1, cqR2⟩ := qR.cells
      clear cqR0 cqR1 cqR2
      have HE : Hid (Below w.heap.size w (((W1.setCell ⟨g, 0, none⟩ (.bool false)).setCell ⟨g, 1, none⟩ (.slice none 0 0)).setCell ⟨g, 2, none⟩ (.slice none 0 0))) := iend3 hb (by rw [HG.out]; omega)
      have HW : Hid (QCell (((W1.setCell ⟨g, 0, none⟩ (.bool false)).setCell ⟨g, 1, none⟩ (.slice none 0 0)).setCell ⟨g, 2, none⟩ (.slice none 0 0)) (g) false (.slice none 0 0) (.slice none 0 0)) := qR.write _ _ _
      obtain ⟨y0, y1, y2⟩ := qR.cells
      have f0 := qR.thaw 0
      have f1 := qR.thaw 1
      have f2 := qR.thaw 2
      have HPH : Hid _ := pt_no HNO.out HE.out
      clear hb hsz qR
      go_wp2_with fail
      (try simp only [Exit.inBlock, Exit.then])
      exact bodyPost_ret (results_ct (p := 2) (u := 3) rfl _ _ (g) 27 _ (0, 0) _ rfl HW.out Tryz.underlying27 rfl (by kernel_rfl)) rfl HPH.out
set_option maxRecDepth 100000 in
set_option maxHeartbeats 6400000 in
theorem rparse_minus_t10 {s top bot : ByteArray} (w : World) (h : SP s top bot true) (hs : s.size ≤ 400) (hts0 : top.size ≤ 400) (hbs : (botF bot true).size ≤ 400) (h0 : 0 < s.size) (hkk : bt s 0 = 45) (hkv : strk s = true) (ha : okT top) (hb2 : ¬ okB (botF bot true)) : Calls Tryz.prog 48 #[.string s] w fun e w' => PT w top (botF bot true) e w' := by
  obtain ⟨t, ht⟩ : ∃ t, t = tail s := ⟨_, rfl⟩
  obtain ⟨hsp, hsk⟩ := sp_tail h
  obtain ⟨A, hA⟩ : ∃ A, A = tail top := ⟨_, rfl⟩
  obtain ⟨Bt, hBt⟩ : ∃ B, B = botF bot true := ⟨_, rfl⟩
  rw [← ht, ← hA] at hsp
  rw [← hBt] at hbs ⊢
  have hts : t.size ≤ 400 := by rw [ht]; exact Nat.le_trans (tail_le s) hs
  have hAs : A.size ≤ 400 := by rw [hA]; exact Nat.le_trans (tail_le top) hts0
  have hd1 := fun w => digits3 A w (by omega)
  have hd2 := fun w => digits3 Bt w (by omega)
  have e1 : decide (okB A) = true := decide_eq_true (by rw [hA]; exact ha)
  rw [e1] at hd1
  have e2 : decide (okB Bt) = false := decide_eq_false (by rw [hBt]; exact hb2)
  rw [e2] at hd2
  clear e2
  have HNO : Hid (¬ (okT top ∧ okB Bt)) := by rw [hBt]; exact fun hh => hb2 hh.2
  have h0i : (0 : Int) < (s.size : Int) := by omega
  have hgt := bt_get (s := s) (i := 0) h0
  obtain ⟨c, hc⟩ : ∃ c, c = bt s 0 := ⟨_, rfl⟩
  rw [← hc] at hgt
  have hc45 : c = 45 := hc.trans hkk
  subst hc45
  have h1i : (1 : Int) ≤ (s.size : Int) := by omega
  clear hc hkk
  have hx1 : s.extract 1 s.size = t := by rw [ht]; exact (tail_yes hkv).symm
  clear ht hsk hkv e1
  obtain ⟨k, hk1, hk2, hk3, hAt, hbot⟩ := hsp
  have hBo : Bt = bot := hBt
  rw [hbot] at hBo
  clear hBt hbot hA
  have HA2 : Hid (True) := trivial
  obtain ⟨W1, hW1⟩ : ∃ W1, W1 = w.alloc (.cells #[.bool false, .slice none 0 0, .slice none 0 0] 27) := ⟨_, rfl⟩
  have qR : QCell W1 (w.heap.size) false (.slice none 0 0) (.slice none 0 0) := by rw [hW1]; exact (qcell_new _ (by simp))
  have hb : Below w.heap.size w W1 := by rw [hW1]; exact belowA w _
  have hsz : w.heap.size < W1.heap.size := by rw [hW1]; simp
  have HW1 : Hid (W1 = w.alloc (.cells #[.bool false, .slice none 0 0, .slice none 0 0] 27)) := hW1
  clear hW1
  go_enter Tryz.func48, Tryz.ntmps48
  go_wp2_with fail
  rw [← HW1.out]
  clear HW1
  obtain ⟨g, hg⟩ : ∃ g, g = w.heap.size := ⟨_, rfl⟩
  rw [← hg] at qR hsz ⊢
  have HG : Hid (g = w.heap.size) := hg
  clear hg
  obtain ⟨cqR0, cqR1, cqR2⟩ := qR.cells
  go_loopw [5, 6, 7] (fun x y v wr => ∃ i : Nat, i ≤ k ∧ x = .string t ∧ y = .string ⟨#[49]⟩ ∧ v = .int .i64 i ∧ wr = W1) (fun _ _ v _ => t.size - (intOf v).toNat)
  case atStart => exact ⟨0, Nat.zero_le _, rfl, rfl, rfl, rfl⟩
  case round =>
    obtain ⟨i, hin, rfl, rfl, rfl, hwr⟩ := hrel
    replace hwr := hwr.symm
    subst hwr
    have hkt : k < t.size := hk1
    have hlt : i < t.size := by omega
    have hge : (i : Int) < (t.size : Int) := by omega
    have hg2 := bt_get hlt
    by_cases hik : i < k
    · have h47 : ((bt t i : Int) == 47) = false := by have := hk3 i hik; simp; omega
      obtain ⟨cc, hcc⟩ : ∃ c, c = bt t i := ⟨_, rfl⟩
      rw [← hcc] at hg2 h47
      clear hcc hk3 hk2 hAt hBo
      go_wp2
      go_roundw
      case rel => exact ⟨i + 1, by omega, rfl, rfl, by go_num, by first | trivial | rfl⟩
      case measure => simp [intOf]; omega
    · obtain rfl : i = k := by omega
      rw [hk2] at hg2
      have hle1 : (i : Int) ≤ (t.size : Int) := by omega
      have hle2 : (i : Int) + 1 ≤ (t.size : Int) := by omega
      clear hk3 hk2
      have hAt2 := hAt.symm
      have hBo2 := hBo.symm
      clear hAt hBo
      go_wp2_with fail
      refine (hd1 _).mono ?_
      rintro e w2 ⟨rfl, hw2⟩
      rw [hw2]
      clear hd1 hw2
      go_wp2_with fail
      refine (hd2 _).mono ?_
      rintro e w3 ⟨rfl, hw3⟩
      rw [hw3]
      clear hd2 hw3
      obtain ⟨cqR0, cqR1, cqR2⟩ := qR.cells
      clear cqR0 cqR1 cqR2
      have HE : Hid (Below w.heap.size w (((W1.setCell ⟨g, 0, none⟩ (.bool false)).setCell ⟨g, 1, none⟩ (.slice none 0 0)).setCell ⟨g, 2, none⟩ (.slice none 0 0))) := iend3 hb (by rw [HG.out]; omega)
      have HW : Hid (QCell (((W1.setCell ⟨g, 0, none⟩ (.bool false)).setCell ⟨g, 1, none⟩ (.slice none 0 0)).setCell ⟨g, 2, none⟩ (.slice none 0 0)) (g) false (.slice none 0 0) (.slice none 0 0)) := qR.write _ _ _
      obtain ⟨y0, y1, y2⟩ := qR.cells
      have f0 := qR.thaw 0
      have f1 := qR.thaw 1
      have f2 := qR.thaw 2
      have HPH : Hid _ := pt_no HNO.out HE.out
      clear hb hsz qR
      go_wp2_with fail
      (try simp only [Exit.inBlock, Exit.then])
      exact bodyPost_ret (results_ct (p := 2) (u := 3) rfl _ _ (g) 27 _ (0, 0) _ rfl HW.out Tryz.underlying27 rfl (by kernel_rfl)) rfl HPH.out
set_option maxRecDepth 100000 in
set_option maxHeartbeats 6400000 in
theorem rparse_minus_t11 {s top bot : ByteArray} (w : World) (h : SP s top bot true) (hs : s.size ≤ 400) (hts0 : top.size ≤ 400) (hbs : (botF bot true).size ≤ 400) (h0 : 0 < s.size) (hkk : bt s 0 = 45) (hkv : strk s = true) (ha : okT top) (hb2 : okB (botF bot true)) : Calls Tryz.prog 48 #[.string s] w fun e w' => PT w top (botF bot true) e w' := by
  obtain ⟨t, ht⟩ : ∃ t, t = tail s := ⟨_, rfl⟩
  obtain ⟨hsp, hsk⟩ := sp_tail h
  obtain ⟨A, hA⟩ : ∃ A, A = tail top := ⟨_, rfl⟩
  obtain ⟨Bt, hBt⟩ : ∃ B, B = botF bot true := ⟨_, rfl⟩
  rw [← ht, ← hA] at hsp
  rw [← hBt] at hbs ⊢
  have hts : t.size ≤ 400 := by rw [ht]; exact Nat.le_trans (tail_le s) hs
  have hAs : A.size ≤ 400 := by rw [hA]; exact Nat.le_trans (tail_le top) hts0
  have hd1 := fun w => digits3 A w (by omega)
  have hd2 := fun w => digits3 Bt w (by omega)
  have e1 : decide (okB A) = true := decide_eq_true (by rw [hA]; exact ha)
  rw [e1] at hd1
  have e2 : decide (okB Bt) = true := decide_eq_true (by rw [hBt]; exact hb2)
  rw [e2] at hd2
  clear e2
  have hkA : okB A := by rw [hA]; exact ha
  have hkB : okB Bt := by rw [hBt]; exact hb2
  have hp1 := fun w => parse_ref A w (by omega)
  have hp2 := fun w => parse_ref Bt w (by omega)
  unfold ParseEnd at hp1 hp2
  simp only [if_pos (show DigOk A ∧ 0 < A.size from hkA)] at hp1
  simp only [if_pos (show DigOk Bt ∧ 0 < Bt.size from hkB)] at hp2
  have HPY : Hid (∀ e w', TEx w (nS (pz top) (pQ Bt)) (nE (pQ Bt)) (nM (pz top) (pQ Bt)) (nD (pz top) (pQ Bt)) e w' → PT w top Bt e w') := fun e w' => pt_yes ⟨ha, hkB⟩
  have HLP : Hid ((lim (bval (dgs A))).length ≤ 50 ∧ (lim (bval (dgs Bt))).length ≤ 50) := ⟨lim_len_le (dgs_lt hkA.1 50 (by omega)), lim_len_le (dgs_lt hkB.1 50 (by omega))⟩
  have HP : Hid (zv true (bval (dgs A)) = pz top) := by show _ = _; rw [show pz top = zv (strk top) (bval (dgs (tail top))) from if_pos ha, hsk, hkv, hA]
  have HQ : Hid (zv false (bval (dgs Bt)) = pQ Bt) := rfl
  clear hkA hkB
  generalize pz top = p at *
  generalize pQ Bt = q at *
  generalize bval (dgs A) = va at *
  generalize bval (dgs Bt) = vb at *
  have h0i : (0 : Int) < (s.size : Int) := by omega
  have hgt := bt_get (s := s) (i := 0) h0
  obtain ⟨c, hc⟩ : ∃ c, c = bt s 0 := ⟨_, rfl⟩
  rw [← hc] at hgt
  have hc45 : c = 45 := hc.trans hkk
  subst hc45
  have h1i : (1 : Int) ≤ (s.size : Int) := by omega
  clear hc hkk
  have hx1 : s.extract 1 s.size = t := by rw [ht]; exact (tail_yes hkv).symm
  clear ht hsk hkv e1
  obtain ⟨k, hk1, hk2, hk3, hAt, hbot⟩ := hsp
  have hBo : Bt = bot := hBt
  rw [hbot] at hBo
  clear hBt hbot hA
  have HA2 : Hid (True) := trivial
  obtain ⟨W1, hW1⟩ : ∃ W1, W1 = w.alloc (.cells #[.bool false, .slice none 0 0, .slice none 0 0] 27) := ⟨_, rfl⟩
  have qR : QCell W1 (w.heap.size) false (.slice none 0 0) (.slice none 0 0) := by rw [hW1]; exact (qcell_new _ (by simp))
  have hb : Below w.heap.size w W1 := by rw [hW1]; exact belowA w _
  have hsz : w.heap.size < W1.heap.size := by rw [hW1]; simp
  have HW1 : Hid (W1 = w.alloc (.cells #[.bool false, .slice none 0 0, .slice none 0 0] 27)) := hW1
  clear hW1
  go_enter Tryz.func48, Tryz.ntmps48
  go_wp2_with fail
  rw [← HW1.out]
  clear HW1
  obtain ⟨g, hg⟩ : ∃ g, g = w.heap.size := ⟨_, rfl⟩
  rw [← hg] at qR hsz ⊢
  have HG : Hid (g = w.heap.size) := hg
  clear hg
  obtain ⟨cqR0, cqR1, cqR2⟩ := qR.cells
  go_loopw [5, 6, 7] (fun x y v wr => ∃ i : Nat, i ≤ k ∧ x = .string t ∧ y = .string ⟨#[49]⟩ ∧ v = .int .i64 i ∧ wr = W1) (fun _ _ v _ => t.size - (intOf v).toNat)
  case atStart => exact ⟨0, Nat.zero_le _, rfl, rfl, rfl, rfl⟩
  case round =>
    obtain ⟨i, hin, rfl, rfl, rfl, hwr⟩ := hrel
    replace hwr := hwr.symm
    subst hwr
    have hkt : k < t.size := hk1
    have hlt : i < t.size := by omega
    have hge : (i : Int) < (t.size : Int) := by omega
    have hg2 := bt_get hlt
    by_cases hik : i < k
    · have h47 : ((bt t i : Int) == 47) = false := by have := hk3 i hik; simp; omega
      obtain ⟨cc, hcc⟩ : ∃ c, c = bt t i := ⟨_, rfl⟩
      rw [← hcc] at hg2 h47
      clear hcc hk3 hk2 hAt hBo
      go_wp2
      go_roundw
      case rel => exact ⟨i + 1, by omega, rfl, rfl, by go_num, by first | trivial | rfl⟩
      case measure => simp [intOf]; omega
    · obtain rfl : i = k := by omega
      rw [hk2] at hg2
      have hle1 : (i : Int) ≤ (t.size : Int) := by omega
      have hle2 : (i : Int) + 1 ≤ (t.size : Int) := by omega
      clear hk3 hk2
      have hAt2 := hAt.symm
      have hBo2 := hBo.symm
      clear hAt hBo
      go_wp2_with fail
      refine (hd1 _).mono ?_
      rintro e w2 ⟨rfl, hw2⟩
      rw [hw2]
      clear hd1 hw2
      go_wp2_with fail
      refine (hd2 _).mono ?_
      rintro e w3 ⟨rfl, hw3⟩
      rw [hw3]
      clear hd2 hw3
      obtain ⟨cqR0, cqR1, cqR2⟩ := qR.cells
      go_wp2_with fail
      clear cqR0 cqR1 cqR2
      refine (hp1 _).mono ?_
      rintro e w2 ⟨u, rfl, hu, b⟩
      clear hp1
      obtain ⟨ao, al, ac, rfl⟩ := hu.sl
      have ua := hu.num
      clear hu
      replace qR := qR.below b
      replace hb := bstep hb b
      replace hsz := Nat.lt_of_lt_of_le hsz b.size
      clear b
      obtain ⟨cqR0, cqR1, cqR2⟩ := qR.cells
      go_wp2_with fail
      clear cqR0 cqR1 cqR2
      refine (hp2 _).mono ?_
      rintro e w3 ⟨u, rfl, hu, b⟩
      clear hp2
      obtain ⟨bo, bl, bc, rfl⟩ := hu.sl
      have ub := hu.num
      clear hu
      replace ua := ua.below (Nat.le_refl _) b
      replace qR := qR.below b
      replace hb := bstep hb b
      replace hsz := Nat.lt_of_lt_of_le hsz b.size
      clear b
      obtain ⟨cqR0, cqR1, cqR2⟩ := qR.cells
      go_wp2_with fail
      clear cqR0 cqR1 cqR2
      refine (whole3 bo bl bc _).mono ?_
      rintro e w4 ⟨rfl, b⟩
      replace ua := ua.below (Nat.le_refl _) b
      replace ub := ub.below (Nat.le_refl _) b
      replace qR := qR.below b
      replace hb := bstep hb b
      replace hsz := Nat.lt_of_lt_of_le hsz b.size
      clear b
      obtain ⟨cqR0, cqR1, cqR2⟩ := qR.cells
      go_wp2_with fail
      clear cqR0 cqR1 cqR2
      have ia : IB w4 (.agg #[.bool true, .slice ao al ac]) p 300 := ⟨_, _, _, _, _, rfl, ua, Nat.le_trans HLP.out.1 (by decide), by rw [val_lim]; exact HP.out⟩
      have ib : IB w4 (.agg #[.bool false, .slice bo bl bc]) q 300 := ⟨_, _, _, _, _, rfl, ub, Nat.le_trans HLP.out.2 (by decide), by rw [val_lim]; exact HQ.out⟩
      have hq := (newR ia ib).mono fun _ _ h => h.x
      clear ia ib
      have hszz := hsz
      refine (hq).mono ?_
      rintro e w5 ⟨mo, mc, dO, dC, rfl, hm, hd, hap, b⟩
      clear hq
      replace ua := ua.below (Nat.le_refl _) b
      replace ub := ub.below (Nat.le_refl _) b
      replace qR := qR.below b
      replace hb := bstep hb b
      replace hsz := Nat.lt_of_lt_of_le hsz b.size
      clear b
      have HE : Hid (TEx w (nS p q) (nE q) (nM p q) (nD p q) (.returned (.tuple #[.agg #[.bool (nS p q), .slice mo (nM p q).length mc, .slice dO (nD p q).length dC], .int .i64 (nE q)])) (((w5.setCell ⟨g, 0, none⟩ (.bool (nS p q))).setCell ⟨g, 1, none⟩ (.slice mo (nM p q).length mc)).setCell ⟨g, 2, none⟩ (.slice dO (nD p q).length dC))) := tex_done (by rw [HG.out]; omega) hm hd hap hszz hb
      have HW : Hid (QCell (((w5.setCell ⟨g, 0, none⟩ (.bool (nS p q))).setCell ⟨g, 1, none⟩ (.slice mo (nM p q).length mc)).setCell ⟨g, 2, none⟩ (.slice dO (nD p q).length dC)) (g) (nS p q) (.slice mo (nM p q).length mc) (.slice dO (nD p q).length dC)) := qR.write _ _ _
      obtain ⟨y0, y1, y2⟩ := qR.cells
      have f0 := qR.thaw 0
      have f1 := qR.thaw 1
      have f2 := qR.thaw 2
      have HPT := HPY.out _ _ HE.out
      have HPH : Hid _ := HPT
      clear HPT HE hap hm hd HPY
      generalize (nM p q).length = lm at *
      generalize (nD p q).length = ld at *
      generalize nS p q = s1 at *
      generalize nE q = e1 at *
      clear hb hsz hszz qR ua ub
      go_wp2_with fail
      (try simp only [Exit.inBlock, Exit.then])
      exact bodyPost_ret (results_ct (p := 2) (u := 3) rfl _ _ (g) 27 _ (0, 0) _ rfl HW.out Tryz.underlying27 rfl (by kernel_rfl)) rfl HPH.out
set_option maxRecDepth 100000 in
set_option maxHeartbeats 6400000 in
theorem rparse_plain_f00 {s top bot : ByteArray} (w : World) (h : SP s top bot false) (hs : s.size ≤ 400) (hts0 : top.size ≤ 400) (hbs : (botF bot false).size ≤ 400) (h0 : 0 < s.size) (hkk : ¬ bt s 0 = 45) (hkv : strk s = false) (ha : ¬ okT top) : Calls Tryz.prog 48 #[.string s] w fun e w' => PT w top (botF bot false) e w' := by
  obtain ⟨t, ht⟩ : ∃ t, t = tail s := ⟨_, rfl⟩
  obtain ⟨hsp, hsk⟩ := sp_tail h
  obtain ⟨A, hA⟩ : ∃ A, A = tail top := ⟨_, rfl⟩
  obtain ⟨Bt, hBt⟩ : ∃ B, B = botF bot false := ⟨_, rfl⟩
  rw [← ht, ← hA] at hsp
  rw [← hBt] at hbs ⊢
  have hts : t.size ≤ 400 := by rw [ht]; exact Nat.le_trans (tail_le s) hs
  have hAs : A.size ≤ 400 := by rw [hA]; exact Nat.le_trans (tail_le top) hts0
  have hd1 := fun w => digits3 A w (by omega)
  have hd2 := fun w => digits3 Bt w (by omega)
  have e1 : decide (okB A) = false := decide_eq_false (by rw [hA]; exact ha)
  rw [e1] at hd1
  have HNO : Hid (¬ (okT top ∧ okB Bt)) := fun hh => ha hh.1
  have h0i : (0 : Int) < (s.size : Int) := by omega
  have hgt := bt_get (s := s) (i := 0) h0
  obtain ⟨c, hc⟩ : ∃ c, c = bt s 0 := ⟨_, rfl⟩
  rw [← hc] at hgt
  have hc45 : ((c : Int) == 45) = false := by have h9 : ¬ (c : Int) = 45 := (by have : ¬ c = 45 := (by rw [hc]; exact hkk); omega); simpa using h9
  clear hc hkk
  have hts2 : t = s := by rw [ht]; exact tail_not hkv
  subst hts2
  clear ht hsk hkv e1
  obtain ⟨hAt, _, hno⟩ := hsp
  clear hA
  have hBo : Bt = ⟨#[49]⟩ := hBt
  clear hBt
  subst hAt
  have HA2 : Hid (True) := trivial
  obtain ⟨W1, hW1⟩ : ∃ W1, W1 = w.alloc (.cells #[.bool false, .slice none 0 0, .slice none 0 0] 27) := ⟨_, rfl⟩
  have qR : QCell W1 (w.heap.size) false (.slice none 0 0) (.slice none 0 0) := by rw [hW1]; exact (qcell_new _ (by simp))
  have hb : Below w.heap.size w W1 := by rw [hW1]; exact belowA w _
  have hsz : w.heap.size < W1.heap.size := by rw [hW1]; simp
  have HW1 : Hid (W1 = w.alloc (.cells #[.bool false, .slice none 0 0, .slice none 0 0] 27)) := hW1
  clear hW1
  go_enter Tryz.func48, Tryz.ntmps48
  go_wp2_with fail
  rw [← HW1.out]
  clear HW1
  obtain ⟨g, hg⟩ : ∃ g, g = w.heap.size := ⟨_, rfl⟩
  rw [← hg] at qR hsz ⊢
  have HG : Hid (g = w.heap.size) := hg
  clear hg
  obtain ⟨cqR0, cqR1, cqR2⟩ := qR.cells
  go_loopw [5, 6, 7] (fun x y v wr => ∃ i : Nat, i ≤ A.size ∧ x = .string A ∧ y = .string ⟨#[49]⟩ ∧ v = .int .i64 i ∧ wr = W1) (fun _ _ v _ => A.size - (intOf v).toNat)
  case atStart => exact ⟨0, Nat.zero_le _, rfl, rfl, rfl, rfl⟩
  case round =>
    obtain ⟨i, hin, rfl, rfl, rfl, hwr⟩ := hrel
    replace hwr := hwr.symm
    subst hwr
    by_cases hlt : i < A.size
    · have hge : (i : Int) < (A.size : Int) := by omega
      have hg2 := bt_get hlt
      have h47 : ((bt A i : Int) == 47) = false := by have := hno i hlt; simp; omega
      obtain ⟨cc, hcc⟩ : ∃ c, c = bt A i := ⟨_, rfl⟩
      rw [← hcc] at hg2 h47
      clear hcc hno
      go_wp2
      go_roundw
      case rel => exact ⟨i + 1, by omega, rfl, rfl, by go_num, by first | trivial | rfl⟩
      case measure => simp [intOf]; omega
    · have hge : ¬ (i : Int) < (A.size : Int) := by omega
      clear hno
      subst hBo
      go_wp2_with fail
      refine (hd1 _).mono ?_
      rintro e w2 ⟨rfl, hw2⟩
      rw [hw2]
      clear hd1 hw2
      go_wp2_with fail
      refine (hd2 _).mono ?_
      rintro e w3 ⟨rfl, hw3⟩
      rw [hw3]
      clear hd2 hw3
      obtain ⟨cqR0, cqR1, cqR2⟩ := qR.cells
      clear cqR0 cqR1 cqR2
      have HE : Hid (Below w.heap.size w (((W1.setCell ⟨g, 0, none⟩ (.bool false)).setCell ⟨g, 1, none⟩ (.slice none 0 0)).setCell ⟨g, 2, none⟩ (.slice none 0 0))) := iend3 hb (by rw [HG.out]; omega)
      have HW : Hid (QCell (((W1.setCell ⟨g, 0, none⟩ (.bool false)).setCell ⟨g, 1, none⟩ (.slice none 0 0)).setCell ⟨g, 2, none⟩ (.slice none 0 0)) (g) false (.slice none 0 0) (.slice none 0 0)) := qR.write _ _ _
      obtain ⟨y0, y1, y2⟩ := qR.cells
      have f0 := qR.thaw 0
      have f1 := qR.thaw 1
      have f2 := qR.thaw 2
      have HPH : Hid _ := pt_no HNO.out HE.out
      clear hb hsz qR
      go_wp2_with fail
      (try simp only [Exit.inBlock, Exit.then])
      exact bodyPost_ret (results_ct (p := 2) (u := 3) rfl _ _ (g) 27 _ (0, 0) _ rfl HW.out Tryz.underlying27 rfl (by kernel_rfl)) rfl HPH.out
set_option maxRecDepth 100000 in
set_option maxHeartbeats 6400000 in
theorem rparse_plain_f10 {s top bot : ByteArray} (w : World) (h : SP s top bot false) (hs : s.size ≤ 400) (hts0 : top.size ≤ 400) (hbs : (botF bot false).size ≤ 400) (h0 : 0 < s.size) (hkk : ¬ bt s 0 = 45) (hkv : strk s = false) (ha : okT top) (hb2 : ¬ okB (botF bot false)) : Calls Tryz.prog 48 #[.string s] w fun e w' => PT w top (botF bot false) e w' := by
  obtain ⟨t, ht⟩ : ∃ t, t = tail s := ⟨_, rfl⟩
  obtain ⟨hsp, hsk⟩ := sp_tail h
  obtain ⟨A, hA⟩ : ∃ A, A = tail top := ⟨_, rfl⟩
  obtain ⟨Bt, hBt⟩ : ∃ B, B = botF bot false := ⟨_, rfl⟩
  rw [← ht, ← hA] at hsp
  rw [← hBt] at hbs ⊢
  have hts : t.size ≤ 400 := by rw [ht]; exact Nat.le_trans (tail_le s) hs
  have hAs : A.size ≤ 400 := by rw [hA]; exact Nat.le_trans (tail_le top) hts0
  have hd1 := fun w => digits3 A w (by omega)
  have hd2 := fun w => digits3 Bt w (by omega)
  have e1 : decide (okB A) = true := decide_eq_true (by rw [hA]; exact ha)
  rw [e1] at hd1
  have e2 : decide (okB Bt) = false := decide_eq_false (by rw [hBt]; exact hb2)
  rw [e2] at hd2
  clear e2
  have HNO : Hid (¬ (okT top ∧ okB Bt)) := by rw [hBt]; exact fun hh => hb2 hh.2
  have h0i : (0 : Int) < (s.size : Int) := by omega
  have hgt := bt_get (s := s) (i := 0) h0
  obtain ⟨c, hc⟩ : ∃ c, c = bt s 0 := ⟨_, rfl⟩
  rw [← hc] at hgt
  have hc45 : ((c : Int) == 45) = false := by have h9 : ¬ (c : Int) = 45 := (by have : ¬ c = 45 := (by rw [hc]; exact hkk); omega); simpa using h9
  clear hc hkk
  have hts2 : t = s := by rw [ht]; exact tail_not hkv
  subst hts2
  clear ht hsk hkv e1
  obtain ⟨hAt, _, hno⟩ := hsp
  clear hA
  have hBo : Bt = ⟨#[49]⟩ := hBt
  clear hBt
  subst hAt
  have HA2 : Hid (True) := trivial
  obtain ⟨W1, hW1⟩ : ∃ W1, W1 = w.alloc (.cells #[.bool false, .slice none 0 0, .slice none 0 0] 27) := ⟨_, rfl⟩
  have qR : QCell W1 (w.heap.size) false (.slice none 0 0) (.slice none 0 0) := by rw [hW1]; exact (qcell_new _ (by simp))
  have hb : Below w.heap.size w W1 := by rw [hW1]; exact belowA w _
  have hsz : w.heap.size < W1.heap.size := by rw [hW1]; simp
  have HW1 : Hid (W1 = w.alloc (.cells #[.bool false, .slice none 0 0, .slice none 0 0] 27)) := hW1
  clear hW1
  go_enter Tryz.func48, Tryz.ntmps48
  go_wp2_with fail
  rw [← HW1.out]
  clear HW1
  obtain ⟨g, hg⟩ : ∃ g, g = w.heap.size := ⟨_, rfl⟩
  rw [← hg] at qR hsz ⊢
  have HG : Hid (g = w.heap.size) := hg
  clear hg
  obtain ⟨cqR0, cqR1, cqR2⟩ := qR.cells
  go_loopw [5, 6, 7] (fun x y v wr => ∃ i : Nat, i ≤ A.size ∧ x = .string A ∧ y = .string ⟨#[49]⟩ ∧ v = .int .i64 i ∧ wr = W1) (fun _ _ v _ => A.size - (intOf v).toNat)
  case atStart => exact ⟨0, Nat.zero_le _, rfl, rfl, rfl, rfl⟩
  case round =>
    obtain ⟨i, hin, rfl, rfl, rfl, hwr⟩ := hrel
    replace hwr := hwr.symm
    subst hwr
    by_cases hlt : i < A.size
    · have hge : (i : Int) < (A.size : Int) := by omega
      have hg2 := bt_get hlt
      have h47 : ((bt A i : Int) == 47) = false := by have := hno i hlt; simp; omega
      obtain ⟨cc, hcc⟩ : ∃ c, c = bt A i := ⟨_, rfl⟩
      rw [← hcc] at hg2 h47
      clear hcc hno
      go_wp2
      go_roundw
      case rel => exact ⟨i + 1, by omega, rfl, rfl, by go_num, by first | trivial | rfl⟩
      case measure => simp [intOf]; omega
    · have hge : ¬ (i : Int) < (A.size : Int) := by omega
      clear hno
      subst hBo
      go_wp2_with fail
      refine (hd1 _).mono ?_
      rintro e w2 ⟨rfl, hw2⟩
      rw [hw2]
      clear hd1 hw2
      go_wp2_with fail
      refine (hd2 _).mono ?_
      rintro e w3 ⟨rfl, hw3⟩
      rw [hw3]
      clear hd2 hw3
      obtain ⟨cqR0, cqR1, cqR2⟩ := qR.cells
      clear cqR0 cqR1 cqR2
      have HE : Hid (Below w.heap.size w (((W1.setCell ⟨g, 0, none⟩ (.bool false)).setCell ⟨g, 1, none⟩ (.slice none 0 0)).setCell ⟨g, 2, none⟩ (.slice none 0 0))) := iend3 hb (by rw [HG.out]; omega)
      have HW : Hid (QCell (((W1.setCell ⟨g, 0, none⟩ (.bool false)).setCell ⟨g, 1, none⟩ (.slice none 0 0)).setCell ⟨g, 2, none⟩ (.slice none 0 0)) (g) false (.slice none 0 0) (.slice none 0 0)) := qR.write _ _ _
      obtain ⟨y0, y1, y2⟩ := qR.cells
      have f0 := qR.thaw 0
      have f1 := qR.thaw 1
      have f2 := qR.thaw 2
      have HPH : Hid _ := pt_no HNO.out HE.out
      clear hb hsz qR
      go_wp2_with fail
      (try simp only [Exit.inBlock, Exit.then])
      exact bodyPost_ret (results_ct (p := 2) (u := 3) rfl _ _ (g) 27 _ (0, 0) _ rfl HW.out Tryz.underlying27 rfl (by kernel_rfl)) rfl HPH.out
set_option maxRecDepth 100000 in
set_option maxHeartbeats 6400000 in
theorem rparse_plain_f11 {s top bot : ByteArray} (w : World) (h : SP s top bot false) (hs : s.size ≤ 400) (hts0 : top.size ≤ 400) (hbs : (botF bot false).size ≤ 400) (h0 : 0 < s.size) (hkk : ¬ bt s 0 = 45) (hkv : strk s = false) (ha : okT top) (hb2 : okB (botF bot false)) : Calls Tryz.prog 48 #[.string s] w fun e w' => PT w top (botF bot false) e w' := by
  obtain ⟨t, ht⟩ : ∃ t, t = tail s := ⟨_, rfl⟩
  obtain ⟨hsp, hsk⟩ := sp_tail h
  obtain ⟨A, hA⟩ : ∃ A, A = tail top := ⟨_, rfl⟩
  obtain ⟨Bt, hBt⟩ : ∃ B, B = botF bot false := ⟨_, rfl⟩
  rw [← ht, ← hA] at hsp
  rw [← hBt] at hbs ⊢
  have hts : t.size ≤ 400 := by rw [ht]; exact Nat.le_trans (tail_le s) hs
  have hAs : A.size ≤ 400 := by rw [hA]; exact Nat.le_trans (tail_le top) hts0
  have hd1 := fun w => digits3 A w (by omega)
  have hd2 := fun w => digits3 Bt w (by omega)
  have e1 : decide (okB A) = true := decide_eq_true (by rw [hA]; exact ha)
  rw [e1] at hd1
  have e2 : decide (okB Bt) = true := decide_eq_true (by rw [hBt]; exact hb2)
  rw [e2] at hd2
  clear e2
  have hkA : okB A := by rw [hA]; exact ha
  have hkB : okB Bt := by rw [hBt]; exact hb2
  have hp1 := fun w => parse_ref A w (by omega)
  have hp2 := fun w => parse_ref Bt w (by omega)
  unfold ParseEnd at hp1 hp2
  simp only [if_pos (show DigOk A ∧ 0 < A.size from hkA)] at hp1
  simp only [if_pos (show DigOk Bt ∧ 0 < Bt.size from hkB)] at hp2
  have HPY : Hid (∀ e w', TEx w (nS (pz top) (pQ Bt)) (nE (pQ Bt)) (nM (pz top) (pQ Bt)) (nD (pz top) (pQ Bt)) e w' → PT w top Bt e w') := fun e w' => pt_yes ⟨ha, hkB⟩
  have HLP : Hid ((lim (bval (dgs A))).length ≤ 50 ∧ (lim (bval (dgs Bt))).length ≤ 50) := ⟨lim_len_le (dgs_lt hkA.1 50 (by omega)), lim_len_le (dgs_lt hkB.1 50 (by omega))⟩
  have HP : Hid (zv false (bval (dgs A)) = pz top) := by show _ = _; rw [show pz top = zv (strk top) (bval (dgs (tail top))) from if_pos ha, hsk, hkv, hA]
  have HQ : Hid (zv false (bval (dgs Bt)) = pQ Bt) := rfl
  clear hkA hkB
  generalize pz top = p at *
  generalize pQ Bt = q at *
  generalize bval (dgs A) = va at *
  generalize bval (dgs Bt) = vb at *
  have h0i : (0 : Int) < (s.size : Int) := by omega
  have hgt := bt_get (s := s) (i := 0) h0
  obtain ⟨c, hc⟩ : ∃ c, c = bt s 0 := ⟨_, rfl⟩
  rw [← hc] at hgt
  have hc45 : ((c : Int) == 45) = false := by have h9 : ¬ (c : Int) = 45 := (by have : ¬ c = 45 := (by rw [hc]; exact hkk); omega); simpa using h9
  clear hc hkk
  have hts2 : t = s := by rw [ht]; exact tail_not hkv
  subst hts2
  clear ht hsk hkv e1
  obtain ⟨hAt, _, hno⟩ := hsp
  clear hA
  have hBo : Bt = ⟨#[49]⟩ := hBt
  clear hBt
  subst hAt
  have HA2 : Hid (True) := trivial
  obtain ⟨W1, hW1⟩ : ∃ W1, W1 = w.alloc (.cells #[.bool false, .slice none 0 0, .slice none 0 0] 27) := ⟨_, rfl⟩
  have qR : QCell W1 (w.heap.size) false (.slice none 0 0) (.slice none 0 0) := by rw [hW1]; exact (qcell_new _ (by simp))
  have hb : Below w.heap.size w W1 := by rw [hW1]; exact belowA w _
  have hsz : w.heap.size < W1.heap.size := by rw [hW1]; simp
  have HW1 : Hid (W1 = w.alloc (.cells #[.bool false, .slice none 0 0, .slice none 0 0] 27)) := hW1
  clear hW1
  go_enter Tryz.func48, Tryz.ntmps48
  go_wp2_with fail
  rw [← HW1.out]
  clear HW1
  obtain ⟨g, hg⟩ : ∃ g, g = w.heap.size := ⟨_, rfl⟩
  rw [← hg] at qR hsz ⊢
  have HG : Hid (g = w.heap.size) := hg
  clear hg
  obtain ⟨cqR0, cqR1, cqR2⟩ := qR.cells
  go_loopw [5, 6, 7] (fun x y v wr => ∃ i : Nat, i ≤ A.size ∧ x = .string A ∧ y = .string ⟨#[49]⟩ ∧ v = .int .i64 i ∧ wr = W1) (fun _ _ v _ => A.size - (intOf v).toNat)
  case atStart => exact ⟨0, Nat.zero_le _, rfl, rfl, rfl, rfl⟩
  case round =>
    obtain ⟨i, hin, rfl, rfl, rfl, hwr⟩ := hrel
    replace hwr := hwr.symm
    subst hwr
    by_cases hlt : i < A.size
    · have hge : (i : Int) < (A.size : Int) := by omega
      have hg2 := bt_get hlt
      have h47 : ((bt A i : Int) == 47) = false := by have := hno i hlt; simp; omega
      obtain ⟨cc, hcc⟩ : ∃ c, c = bt A i := ⟨_, rfl⟩
      rw [← hcc] at hg2 h47
      clear hcc hno
      go_wp2
      go_roundw
      case rel => exact ⟨i + 1, by omega, rfl, rfl, by go_num, by first | trivial | rfl⟩
      case measure => simp [intOf]; omega
    · have hge : ¬ (i : Int) < (A.size : Int) := by omega
      clear hno
      subst hBo
      go_wp2_with fail
      refine (hd1 _).mono ?_
      rintro e w2 ⟨rfl, hw2⟩
      rw [hw2]
      clear hd1 hw2
      go_wp2_with fail
      refine (hd2 _).mono ?_
      rintro e w3 ⟨rfl, hw3⟩
      rw [hw3]
      clear hd2 hw3
      obtain ⟨cqR0, cqR1, cqR2⟩ := qR.cells
      go_wp2_with fail
      clear cqR0 cqR1 cqR2
      refine (hp1 _).mono ?_
      rintro e w2 ⟨u, rfl, hu, b⟩
      clear hp1
      obtain ⟨ao, al, ac, rfl⟩ := hu.sl
      have ua := hu.num
      clear hu
      replace qR := qR.below b
      replace hb := bstep hb b
      replace hsz := Nat.lt_of_lt_of_le hsz b.size
      clear b
      obtain ⟨cqR0, cqR1, cqR2⟩ := qR.cells
      go_wp2_with fail
      clear cqR0 cqR1 cqR2
      refine (hp2 _).mono ?_
      rintro e w3 ⟨u, rfl, hu, b⟩
      clear hp2
      obtain ⟨bo, bl, bc, rfl⟩ := hu.sl
      have ub := hu.num
      clear hu
      replace ua := ua.below (Nat.le_refl _) b
      replace qR := qR.below b
      replace hb := bstep hb b
      replace hsz := Nat.lt_of_lt_of_le hsz b.size
      clear b
      obtain ⟨cqR0, cqR1, cqR2⟩ := qR.cells
      go_wp2_with fail
      clear cqR0 cqR1 cqR2
      refine (whole3 bo bl bc _).mono ?_
      rintro e w4 ⟨rfl, b⟩
      replace ua := ua.below (Nat.le_refl _) b
      replace ub := ub.below (Nat.le_refl _) b
      replace qR := qR.below b
      replace hb := bstep hb b
      replace hsz := Nat.lt_of_lt_of_le hsz b.size
      clear b
      obtain ⟨cqR0, cqR1, cqR2⟩ := qR.cells
      go_wp2_with fail
      clear cqR0 cqR1 cqR2
      have ia : IB w4 (.agg #[.bool false, .slice ao al ac]) p 300 := ⟨_, _, _, _, _, rfl, ua, Nat.le_trans HLP.out.1 (by decide), by rw [val_lim]; exact HP.out⟩
      have ib : IB w4 (.agg #[.bool false, .slice bo bl bc]) q 300 := ⟨_, _, _, _, _, rfl, ub, Nat.le_trans HLP.out.2 (by decide), by rw [val_lim]; exact HQ.out⟩
      have hq := (newR ia ib).mono fun _ _ h => h.x
      clear ia ib
      have hszz := hsz
      refine (hq).mono ?_
      rintro e w5 ⟨mo, mc, dO, dC, rfl, hm, hd, hap, b⟩
      clear hq
      replace ua := ua.below (Nat.le_refl _) b
      replace ub := ub.below (Nat.le_refl _) b
      replace qR := qR.below b
      replace hb := bstep hb b
      replace hsz := Nat.lt_of_lt_of_le hsz b.size
      clear b
      have HE : Hid (TEx w (nS p q) (nE q) (nM p q) (nD p q) (.returned (.tuple #[.agg #[.bool (nS p q), .slice mo (nM p q).length mc, .slice dO (nD p q).length dC], .int .i64 (nE q)])) (((w5.setCell ⟨g, 0, none⟩ (.bool (nS p q))).setCell ⟨g, 1, none⟩ (.slice mo (nM p q).length mc)).setCell ⟨g, 2, none⟩ (.slice dO (nD p q).length dC))) := tex_done (by rw [HG.out]; omega) hm hd hap hszz hb
      have HW : Hid (QCell (((w5.setCell ⟨g, 0, none⟩ (.bool (nS p q))).setCell ⟨g, 1, none⟩ (.slice mo (nM p q).length mc)).setCell ⟨g, 2, none⟩ (.slice dO (nD p q).length dC)) (g) (nS p q) (.slice mo (nM p q).length mc) (.slice dO (nD p q).length dC)) := qR.write _ _ _
      obtain ⟨y0, y1, y2⟩ := qR.cells
      have f0 := qR.thaw 0
      have f1 := qR.thaw 1
      have f2 := qR.thaw 2
      have HPT := HPY.out _ _ HE.out
      have HPH : Hid _ := HPT
      clear HPT HE hap hm hd HPY
      generalize (nM p q).length = lm at *
      generalize (nD p q).length = ld at *
      generalize nS p q = s1 at *
      generalize nE q = e1 at *
      clear hb hsz hszz qR ua ub
      go_wp2_with fail
      (try simp only [Exit.inBlock, Exit.then])
      exact bodyPost_ret (results_ct (p := 2) (u := 3) rfl _ _ (g) 27 _ (0, 0) _ rfl HW.out Tryz.underlying27 rfl (by kernel_rfl)) rfl HPH.out
set_option maxRecDepth 100000 in
set_option maxHeartbeats 6400000 in
theorem rparse_plain_t00 {s top bot : ByteArray} (w : World) (h : SP s top bot true) (hs : s.size ≤ 400) (hts0 : top.size ≤ 400) (hbs : (botF bot true).size ≤ 400) (h0 : 0 < s.size) (hkk : ¬ bt s 0 = 45) (hkv : strk s = false) (ha : ¬ okT top) : Calls Tryz.prog 48 #[.string s] w fun e w' => PT w top (botF bot true) e w' := by
  obtain ⟨t, ht⟩ : ∃ t, t = tail s := ⟨_, rfl⟩
  obtain ⟨hsp, hsk⟩ := sp_tail h
  obtain ⟨A, hA⟩ : ∃ A, A = tail top := ⟨_, rfl⟩
  obtain ⟨Bt, hBt⟩ : ∃ B, B = botF bot true := ⟨_, rfl⟩
  rw [← ht, ← hA] at hsp
  rw [← hBt] at hbs ⊢
  have hts : t.size ≤ 400 := by rw [ht]; exact Nat.le_trans (tail_le s) hs
  have hAs : A.size ≤ 400 := by rw [hA]; exact Nat.le_trans (tail_le top) hts0
  have hd1 := fun w => digits3 A w (by omega)
  have hd2 := fun w => digits3 Bt w (by omega)
  have e1 : decide (okB A) = false := decide_eq_false (by rw [hA]; exact ha)
  rw [e1] at hd1
  have HNO : Hid (¬ (okT top ∧ okB Bt)) := fun hh => ha hh.1
  have h0i : (0 : Int) < (s.size : Int) := by omega
  have hgt := bt_get (s := s) (i := 0) h0
  obtain ⟨c, hc⟩ : ∃ c, c = bt s 0 := ⟨_, rfl⟩
  rw [← hc] at hgt
  have hc45 : ((c : Int) == 45) = false := by have h9 : ¬ (c : Int) = 45 := (by have : ¬ c = 45 := (by rw [hc]; exact hkk); omega); simpa using h9
  clear hc hkk
  have hts2 : t = s := by rw [ht]; exact tail_not hkv
  subst hts2
  clear ht hsk hkv e1
  obtain ⟨k, hk1, hk2, hk3, hAt, hbot⟩ := hsp
  have hBo : Bt = bot := hBt
  rw [hbot] at hBo
  clear hBt hbot hA
  have HA2 : Hid (True) := trivial
  obtain ⟨W1, hW1⟩ : ∃ W1, W1 = w.alloc (.cells #[.bool false, .slice none 0 0, .slice none 0 0] 27) := ⟨_, rfl⟩
  have qR : QCell W1 (w.heap.size) false (.slice none 0 0) (.slice none 0 0) := by rw [hW1]; exact (qcell_new _ (by simp))
  have hb : Below w.heap.size w W1 := by rw [hW1]; exact belowA w _
  have hsz : w.heap.size < W1.heap.size := by rw [hW1]; simp
  have HW1 : Hid (W1 = w.alloc (.cells #[.bool false, .slice none 0 0, .slice none 0 0] 27)) := hW1
  clear hW1
  go_enter Tryz.func48, Tryz.ntmps48
  go_wp2_with fail
  rw [← HW1.out]
  clear HW1
  obtain ⟨g, hg⟩ : ∃ g, g = w.heap.size := ⟨_, rfl⟩
  rw [← hg] at qR hsz ⊢
  have HG : Hid (g = w.heap.size) := hg
  clear hg
  obtain ⟨cqR0, cqR1, cqR2⟩ := qR.cells
  go_loopw [5, 6, 7] (fun x y v wr => ∃ i : Nat, i ≤ k ∧ x = .string t ∧ y = .string ⟨#[49]⟩ ∧ v = .int .i64 i ∧ wr = W1) (fun _ _ v _ => t.size - (intOf v).toNat)
  case atStart => exact ⟨0, Nat.zero_le _, rfl, rfl, rfl, rfl⟩
  case round =>
    obtain ⟨i, hin, rfl, rfl, rfl, hwr⟩ := hrel
    replace hwr := hwr.symm
    subst hwr
    have hkt : k < t.size := hk1
    have hlt : i < t.size := by omega
    have hge : (i : Int) < (t.size : Int) := by omega
    have hg2 := bt_get hlt
    by_cases hik : i < k
    · have h47 : ((bt t i : Int) == 47) = false := by have := hk3 i hik; simp; omega
      obtain ⟨cc, hcc⟩ : ∃ c, c = bt t i := ⟨_, rfl⟩
      rw [← hcc] at hg2 h47
      clear hcc hk3 hk2 hAt hBo
      go_wp2
      go_roundw
      case rel => exact ⟨i + 1, by omega, rfl, rfl, by go_num, by first | trivial | rfl⟩
      case measure => simp [intOf]; omega
    · obtain rfl : i = k := by omega
      rw [hk2] at hg2
      have hle1 : (i : Int) ≤ (t.size : Int) := by omega
      have hle2 : (i : Int) + 1 ≤ (t.size : Int) := by omega
      clear hk3 hk2
      have hAt2 := hAt.symm
      have hBo2 := hBo.symm
      clear hAt hBo
      go_wp2_with fail
      refine (hd1 _).mono ?_
      rintro e w2 ⟨rfl, hw2⟩
      rw [hw2]
      clear hd1 hw2
      go_wp2_with fail
      refine (hd2 _).mono ?_
      rintro e w3 ⟨rfl, hw3⟩
      rw [hw3]
      clear hd2 hw3
      obtain ⟨cqR0, cqR1, cqR2⟩ := qR.cells
      clear cqR0 cqR1 cqR2
      have HE : Hid (Below w.heap.size w (((W1.setCell ⟨g, 0, none⟩ (.bool false)).setCell ⟨g, 1, none⟩ (.slice none 0 0)).setCell ⟨g, 2, none⟩ (.slice none 0 0))) := iend3 hb (by rw [HG.out]; omega)
      have HW : Hid (QCell (((W1.setCell ⟨g, 0, none⟩ (.bool false)).setCell ⟨g, 1, none⟩ (.slice none 0 0)).setCell ⟨g, 2, none⟩ (.slice none 0 0)) (g) false (.slice none 0 0) (.slice none 0 0)) := qR.write _ _ _
      obtain ⟨y0, y1, y2⟩ := qR.cells
      have f0 := qR.thaw 0
      have f1 := qR.thaw 1
      have f2 := qR.thaw 2
      have HPH : Hid _ := pt_no HNO.out HE.out
      clear hb hsz qR
      go_wp2_with fail
      (try simp only [Exit.inBlock, Exit.then])
      exact bodyPost_ret (results_ct (p := 2) (u := 3) rfl _ _ (g) 27 _ (0, 0) _ rfl HW.out Tryz.underlying27 rfl (by kernel_rfl)) rfl HPH.out
set_option maxRecDepth 100000 in
set_option maxHeartbeats 6400000 in
theorem rparse_plain_t10 {s top bot : ByteArray} (w : World) (h : SP s top bot true) (hs : s.size ≤ 400) (hts0 : top.size ≤ 400) (hbs : (botF bot true).size ≤ 400) (h0 : 0 < s.size) (hkk : ¬ bt s 0 = 45) (hkv : strk s = false) (ha : okT top) (hb2 : ¬ okB (botF bot true)) : Calls Tryz.prog 48 #[.string s] w fun e w' => PT w top (botF bot true) e w' := by
  obtain ⟨t, ht⟩ : ∃ t, t = tail s := ⟨_, rfl⟩
  obtain ⟨hsp, hsk⟩ := sp_tail h
  obtain ⟨A, hA⟩ : ∃ A, A = tail top := ⟨_, rfl⟩
  obtain ⟨Bt, hBt⟩ : ∃ B, B = botF bot true := ⟨_, rfl⟩
  rw [← ht, ← hA] at hsp
  rw [← hBt] at hbs ⊢
  have hts : t.size ≤ 400 := by rw [ht]; exact Nat.le_trans (tail_le s) hs
  have hAs : A.size ≤ 400 := by rw [hA]; exact Nat.le_trans (tail_le top) hts0
  have hd1 := fun w => digits3 A w (by omega)
  have hd2 := fun w => digits3 Bt w (by omega)
  have e1 : decide (okB A) = true := decide_eq_true (by rw [hA]; exact ha)
  rw [e1] at hd1
  have e2 : decide (okB Bt) = false := decide_eq_false (by rw [hBt]; exact hb2)
  rw [e2] at hd2
  clear e2
  have HNO : Hid (¬ (okT top ∧ okB Bt)) := by rw [hBt]; exact fun hh => hb2 hh.2
  have h0i : (0 : Int) < (s.size : Int) := by omega
  have hgt := bt_get (s := s) (i := 0) h0
  obtain ⟨c, hc⟩ : ∃ c, c = bt s 0 := ⟨_, rfl⟩
  rw [← hc] at hgt
  have hc45 : ((c : Int) == 45) = false := by have h9 : ¬ (c : Int) = 45 := (by have : ¬ c = 45 := (by rw [hc]; exact hkk); omega); simpa using h9
  clear hc hkk
  have hts2 : t = s := by rw [ht]; exact tail_not hkv
  subst hts2
  clear ht hsk hkv e1
  obtain ⟨k, hk1, hk2, hk3, hAt, hbot⟩ := hsp
  have hBo : Bt = bot := hBt
  rw [hbot] at hBo
  clear hBt hbot hA
  have HA2 : Hid (True) := trivial
  obtain ⟨W1, hW1⟩ : ∃ W1, W1 = w.alloc (.cells #[.bool false, .slice none 0 0, .slice none 0 0] 27) := ⟨_, rfl⟩
  have qR : QCell W1 (w.heap.size) false (.slice none 0 0) (.slice none 0 0) := by rw [hW1]; exact (qcell_new _ (by simp))
  have hb : Below w.heap.size w W1 := by rw [hW1]; exact belowA w _
  have hsz : w.heap.size < W1.heap.size := by rw [hW1]; simp
  have HW1 : Hid (W1 = w.alloc (.cells #[.bool false, .slice none 0 0, .slice none 0 0] 27)) := hW1
  clear hW1
  go_enter Tryz.func48, Tryz.ntmps48
  go_wp2_with fail
  rw [← HW1.out]
  clear HW1
  obtain ⟨g, hg⟩ : ∃ g, g = w.heap.size := ⟨_, rfl⟩
  rw [← hg] at qR hsz ⊢
  have HG : Hid (g = w.heap.size) := hg
  clear hg
  obtain ⟨cqR0, cqR1, cqR2⟩ := qR.cells
  go_loopw [5, 6, 7] (fun x y v wr => ∃ i : Nat, i ≤ k ∧ x = .string t ∧ y = .string ⟨#[49]⟩ ∧ v = .int .i64 i ∧ wr = W1) (fun _ _ v _ => t.size - (intOf v).toNat)
  case atStart => exact ⟨0, Nat.zero_le _, rfl, rfl, rfl, rfl⟩
  case round =>
    obtain ⟨i, hin, rfl, rfl, rfl, hwr⟩ := hrel
    replace hwr := hwr.symm
    subst hwr
    have hkt : k < t.size := hk1
    have hlt : i < t.size := by omega
    have hge : (i : Int) < (t.size : Int) := by omega
    have hg2 := bt_get hlt
    by_cases hik : i < k
    · have h47 : ((bt t i : Int) == 47) = false := by have := hk3 i hik; simp; omega
      obtain ⟨cc, hcc⟩ : ∃ c, c = bt t i := ⟨_, rfl⟩
      rw [← hcc] at hg2 h47
      clear hcc hk3 hk2 hAt hBo
      go_wp2
      go_roundw
      case rel => exact ⟨i + 1, by omega, rfl, rfl, by go_num, by first | trivial | rfl⟩
      case measure => simp [intOf]; omega
    · obtain rfl : i = k := by omega
      rw [hk2] at hg2
      have hle1 : (i : Int) ≤ (t.size : Int) := by omega
      have hle2 : (i : Int) + 1 ≤ (t.size : Int) := by omega
      clear hk3 hk2
      have hAt2 := hAt.symm
      have hBo2 := hBo.symm
      clear hAt hBo
      go_wp2_with fail
      refine (hd1 _).mono ?_
      rintro e w2 ⟨rfl, hw2⟩
      rw [hw2]
      clear hd1 hw2
      go_wp2_with fail
      refine (hd2 _).mono ?_
      rintro e w3 ⟨rfl, hw3⟩
      rw [hw3]
      clear hd2 hw3
      obtain ⟨cqR0, cqR1, cqR2⟩ := qR.cells
      clear cqR0 cqR1 cqR2
      have HE : Hid (Below w.heap.size w (((W1.setCell ⟨g, 0, none⟩ (.bool false)).setCell ⟨g, 1, none⟩ (.slice none 0 0)).setCell ⟨g, 2, none⟩ (.slice none 0 0))) := iend3 hb (by rw [HG.out]; omega)
      have HW : Hid (QCell (((W1.setCell ⟨g, 0, none⟩ (.bool false)).setCell ⟨g, 1, none⟩ (.slice none 0 0)).setCell ⟨g, 2, none⟩ (.slice none 0 0)) (g) false (.slice none 0 0) (.slice none 0 0)) := qR.write _ _ _
      obtain ⟨y0, y1, y2⟩ := qR.cells
      have f0 := qR.thaw 0
      have f1 := qR.thaw 1
      have f2 := qR.thaw 2
      have HPH : Hid _ := pt_no HNO.out HE.out
      clear hb hsz qR
      go_wp2_with fail
      (try simp only [Exit.inBlock, Exit.then])
      exact bodyPost_ret (results_ct (p := 2) (u := 3) rfl _ _ (g) 27 _ (0, 0) _ rfl HW.out Tryz.underlying27 rfl (by kernel_rfl)) rfl HPH.out
set_option maxRecDepth 100000 in
set_option maxHeartbeats 6400000 in
theorem rparse_plain_t11 {s top bot : ByteArray} (w : World) (h : SP s top bot true) (hs : s.size ≤ 400) (hts0 : top.size ≤ 400) (hbs : (botF bot true).size ≤ 400) (h0 : 0 < s.size) (hkk : ¬ bt s 0 = 45) (hkv : strk s = false) (ha : okT top) (hb2 : okB (botF bot true)) : Calls Tryz.prog 48 #[.string s] w fun e w' => PT w top (botF bot true) e w' := by
  obtain ⟨t, ht⟩ : ∃ t, t = tail s := ⟨_, rfl⟩
  obtain ⟨hsp, hsk⟩ := sp_tail h
  obtain ⟨A, hA⟩ : ∃ A, A = tail top := ⟨_, rfl⟩
  obtain ⟨Bt, hBt⟩ : ∃ B, B = botF bot true := ⟨_, rfl⟩
  rw [← ht, ← hA] at hsp
  rw [← hBt] at hbs ⊢
  have hts : t.size ≤ 400 := by rw [ht]; exact Nat.le_trans (tail_le s) hs
  have hAs : A.size ≤ 400 := by rw [hA]; exact Nat.le_trans (tail_le top) hts0
  have hd1 := fun w => digits3 A w (by omega)
  have hd2 := fun w => digits3 Bt w (by omega)
  have e1 : decide (okB A) = true := decide_eq_true (by rw [hA]; exact ha)
  rw [e1] at hd1
  have e2 : decide (okB Bt) = true := decide_eq_true (by rw [hBt]; exact hb2)
  rw [e2] at hd2
  clear e2
  have hkA : okB A := by rw [hA]; exact ha
  have hkB : okB Bt := by rw [hBt]; exact hb2
  have hp1 := fun w => parse_ref A w (by omega)
  have hp2 := fun w => parse_ref Bt w (by omega)
  unfold ParseEnd at hp1 hp2
  simp only [if_pos (show DigOk A ∧ 0 < A.size from hkA)] at hp1
  simp only [if_pos (show DigOk Bt ∧ 0 < Bt.size from hkB)] at hp2
  have HPY : Hid (∀ e w', TEx w (nS (pz top) (pQ Bt)) (nE (pQ Bt)) (nM (pz top) (pQ Bt)) (nD (pz top) (pQ Bt)) e w' → PT w top Bt e w') := fun e w' => pt_yes ⟨ha, hkB⟩
  have HLP : Hid ((lim (bval (dgs A))).length ≤ 50 ∧ (lim (bval (dgs Bt))).length ≤ 50) := ⟨lim_len_le (dgs_lt hkA.1 50 (by omega)), lim_len_le (dgs_lt hkB.1 50 (by omega))⟩
  have HP : Hid (zv false (bval (dgs A)) = pz top) := by show _ = _; rw [show pz top = zv (strk top) (bval (dgs (tail top))) from if_pos ha, hsk, hkv, hA]
  have HQ : Hid (zv false (bval (dgs Bt)) = pQ Bt) := rfl
  clear hkA hkB
  generalize pz top = p at *
  generalize pQ Bt = q at *
  generalize bval (dgs A) = va at *
  generalize bval (dgs Bt) = vb at *
  have h0i : (0 : Int) < (s.size : Int) := by omega
  have hgt := bt_get (s := s) (i := 0) h0
  obtain ⟨c, hc⟩ : ∃ c, c = bt s 0 := ⟨_, rfl⟩
  rw [← hc] at hgt
  have hc45 : ((c : Int) == 45) = false := by have h9 : ¬ (c : Int) = 45 := (by have : ¬ c = 45 := (by rw [hc]; exact hkk); omega); simpa using h9
  clear hc hkk
  have hts2 : t = s := by rw [ht]; exact tail_not hkv
  subst hts2
  clear ht hsk hkv e1
  obtain ⟨k, hk1, hk2, hk3, hAt, hbot⟩ := hsp
  have hBo : Bt = bot := hBt
  rw [hbot] at hBo
  clear hBt hbot hA
  have HA2 : Hid (True) := trivial
  obtain ⟨W1, hW1⟩ : ∃ W1, W1 = w.alloc (.cells #[.bool false, .slice none 0 0, .slice none 0 0] 27) := ⟨_, rfl⟩
  have qR : QCell W1 (w.heap.size) false (.slice none 0 0) (.slice none 0 0) := by rw [hW1]; exact (qcell_new _ (by simp))
  have hb : Below w.heap.size w W1 := by rw [hW1]; exact belowA w _
  have hsz : w.heap.size < W1.heap.size := by rw [hW1]; simp
  have HW1 : Hid (W1 = w.alloc (.cells #[.bool false, .slice none 0 0, .slice none 0 0] 27)) := hW1
  clear hW1
  go_enter Tryz.func48, Tryz.ntmps48
  go_wp2_with fail
  rw [← HW1.out]
  clear HW1
  obtain ⟨g, hg⟩ : ∃ g, g = w.heap.size := ⟨_, rfl⟩
  rw [← hg] at qR hsz ⊢
  have HG : Hid (g = w.heap.size) := hg
  clear hg
  obtain ⟨cqR0, cqR1, cqR2⟩ := qR.cells
  go_loopw [5, 6, 7] (fun x y v wr => ∃ i : Nat, i ≤ k ∧ x = .string t ∧ y = .string ⟨#[49]⟩ ∧ v = .int .i64 i ∧ wr = W1) (fun _ _ v _ => t.size - (intOf v).toNat)
  case atStart => exact ⟨0, Nat.zero_le _, rfl, rfl, rfl, rfl⟩
  case round =>
    obtain ⟨i, hin, rfl, rfl, rfl, hwr⟩ := hrel
    replace hwr := hwr.symm
    subst hwr
    have hkt : k < t.size := hk1
    have hlt : i < t.size := by omega
    have hge : (i : Int) < (t.size : Int) := by omega
    have hg2 := bt_get hlt
    by_cases hik : i < k
    · have h47 : ((bt t i : Int) == 47) = false := by have := hk3 i hik; simp; omega
      obtain ⟨cc, hcc⟩ : ∃ c, c = bt t i := ⟨_, rfl⟩
      rw [← hcc] at hg2 h47
      clear hcc hk3 hk2 hAt hBo
      go_wp2
      go_roundw
      case rel => exact ⟨i + 1, by omega, rfl, rfl, by go_num, by first | trivial | rfl⟩
      case measure => simp [intOf]; omega
    · obtain rfl : i = k := by omega
      rw [hk2] at hg2
      have hle1 : (i : Int) ≤ (t.size : Int) := by omega
      have hle2 : (i : Int) + 1 ≤ (t.size : Int) := by omega
      clear hk3 hk2
      have hAt2 := hAt.symm
      have hBo2 := hBo.symm
      clear hAt hBo
      go_wp2_with fail
      refine (hd1 _).mono ?_
      rintro e w2 ⟨rfl, hw2⟩
      rw [hw2]
      clear hd1 hw2
      go_wp2_with fail
      refine (hd2 _).mono ?_
      rintro e w3 ⟨rfl, hw3⟩
      rw [hw3]
      clear hd2 hw3
      obtain ⟨cqR0, cqR1, cqR2⟩ := qR.cells
      go_wp2_with fail
      clear cqR0 cqR1 cqR2
      refine (hp1 _).mono ?_
      rintro e w2 ⟨u, rfl, hu, b⟩
      clear hp1
      obtain ⟨ao, al, ac, rfl⟩ := hu.sl
      have ua := hu.num
      clear hu
      replace qR := qR.below b
      replace hb := bstep hb b
      replace hsz := Nat.lt_of_lt_of_le hsz b.size
      clear b
      obtain ⟨cqR0, cqR1, cqR2⟩ := qR.cells
      go_wp2_with fail
      clear cqR0 cqR1 cqR2
      refine (hp2 _).mono ?_
      rintro e w3 ⟨u, rfl, hu, b⟩
      clear hp2
      obtain ⟨bo, bl, bc, rfl⟩ := hu.sl
      have ub := hu.num
      clear hu
      replace ua := ua.below (Nat.le_refl _) b
      replace qR := qR.below b
      replace hb := bstep hb b
      replace hsz := Nat.lt_of_lt_of_le hsz b.size
      clear b
      obtain ⟨cqR0, cqR1, cqR2⟩ := qR.cells
      go_wp2_with fail
      clear cqR0 cqR1 cqR2
      refine (whole3 bo bl bc _).mono ?_
      rintro e w4 ⟨rfl, b⟩
      replace ua := ua.below (Nat.le_refl _) b
      replace ub := ub.below (Nat.le_refl _) b
      replace qR := qR.below b
      replace hb := bstep hb b
      replace hsz := Nat.lt_of_lt_of_le hsz b.size
      clear b
      obtain ⟨cqR0, cqR1, cqR2⟩ := qR.cells
      go_wp2_with fail
      clear cqR0 cqR1 cqR2
      have ia : IB w4 (.agg #[.bool false, .slice ao al ac]) p 300 := ⟨_, _, _, _, _, rfl, ua, Nat.le_trans HLP.out.1 (by decide), by rw [val_lim]; exact HP.out⟩
      have ib : IB w4 (.agg #[.bool false, .slice bo bl bc]) q 300 := ⟨_, _, _, _, _, rfl, ub, Nat.le_trans HLP.out.2 (by decide), by rw [val_lim]; exact HQ.out⟩
      have hq := (newR ia ib).mono fun _ _ h => h.x
      clear ia ib
      have hszz := hsz
      refine (hq).mono ?_
      rintro e w5 ⟨mo, mc, dO, dC, rfl, hm, hd, hap, b⟩
      clear hq
      replace ua := ua.below (Nat.le_refl _) b
      replace ub := ub.below (Nat.le_refl _) b
      replace qR := qR.below b
      replace hb := bstep hb b
      replace hsz := Nat.lt_of_lt_of_le hsz b.size
      clear b
      have HE : Hid (TEx w (nS p q) (nE q) (nM p q) (nD p q) (.returned (.tuple #[.agg #[.bool (nS p q), .slice mo (nM p q).length mc, .slice dO (nD p q).length dC], .int .i64 (nE q)])) (((w5.setCell ⟨g, 0, none⟩ (.bool (nS p q))).setCell ⟨g, 1, none⟩ (.slice mo (nM p q).length mc)).setCell ⟨g, 2, none⟩ (.slice dO (nD p q).length dC))) := tex_done (by rw [HG.out]; omega) hm hd hap hszz hb
      have HW : Hid (QCell (((w5.setCell ⟨g, 0, none⟩ (.bool (nS p q))).setCell ⟨g, 1, none⟩ (.slice mo (nM p q).length mc)).setCell ⟨g, 2, none⟩ (.slice dO (nD p q).length dC)) (g) (nS p q) (.slice mo (nM p q).length mc) (.slice dO (nD p q).length dC)) := qR.write _ _ _
      obtain ⟨y0, y1, y2⟩ := qR.cells
      have f0 := qR.thaw 0
      have f1 := qR.thaw 1
      have f2 := qR.thaw 2
      have HPT := HPY.out _ _ HE.out
      have HPH : Hid _ := HPT
      clear HPT HE hap hm hd HPY
      generalize (nM p q).length = lm at *
      generalize (nD p q).length = ld at *
      generalize nS p q = s1 at *
      generalize nE q = e1 at *
      clear hb hsz hszz qR ua ub
      go_wp2_with fail
      (try simp only [Exit.inBlock, Exit.then])
      exact bodyPost_ret (results_ct (p := 2) (u := 3) rfl _ _ (g) 27 _ (0, 0) _ rfl HW.out Tryz.underlying27 rfl (by kernel_rfl)) rfl HPH.out
theorem rparse {s top bot : ByteArray} {st : Bool} (w : World) (h : SP s top bot st) (hs : s.size ≤ 400) : Calls Tryz.prog 48 #[.string s] w fun e w' => PT w top (botF bot st) e w' := by
  obtain ⟨h1, h2⟩ := sp_sizes h hs
  by_cases h0 : 0 < s.size
  · by_cases hkk : bt s 0 = 45
    · have hkv : strk s = true := strk_iff.2 ⟨h0, hkk⟩
      cases st with
      | false =>
        by_cases ha : okT top
        · by_cases hb : okB (botF bot false)
          · exact rparse_minus_f11 w h hs h1 h2 h0 hkk hkv ha hb
          · exact rparse_minus_f10 w h hs h1 h2 h0 hkk hkv ha hb
        · exact rparse_minus_f00 w h hs h1 h2 h0 hkk hkv ha
      | true =>
        by_cases ha : okT top
        · by_cases hb : okB (botF bot true)
          · exact rparse_minus_t11 w h hs h1 h2 h0 hkk hkv ha hb
          · exact rparse_minus_t10 w h hs h1 h2 h0 hkk hkv ha hb
        · exact rparse_minus_t00 w h hs h1 h2 h0 hkk hkv ha
    · have hkv : strk s = false := Bool.eq_false_iff.2 fun e => hkk (strk_iff.1 e).2
      cases st with
      | false =>
        by_cases ha : okT top
        · by_cases hb : okB (botF bot false)
          · exact rparse_plain_f11 w h hs h1 h2 h0 hkk hkv ha hb
          · exact rparse_plain_f10 w h hs h1 h2 h0 hkk hkv ha hb
        · exact rparse_plain_f00 w h hs h1 h2 h0 hkk hkv ha
      | true =>
        by_cases ha : okT top
        · by_cases hb : okB (botF bot true)
          · exact rparse_plain_t11 w h hs h1 h2 h0 hkk hkv ha hb
          · exact rparse_plain_t10 w h hs h1 h2 h0 hkk hkv ha hb
        · exact rparse_plain_t00 w h hs h1 h2 h0 hkk hkv ha
  · have hkv : strk s = false := Bool.eq_false_iff.2 fun e => h0 (strk_iff.1 e).1
    have hst : st = false := by
      cases st with
      | false => rfl
      | true => obtain ⟨k, hk, _⟩ := h; omega
    subst hst
    have ha : ¬ okT top := by
      obtain ⟨rfl, _, _⟩ := h
      intro ha
      have := ha.2
      rw [tail_not hkv] at this
      exact h0 this
    exact rparse_empty_f00 w h hs h1 h2 h0 hkv ha
end Go.Proofs.YtcmclmhfjmmffaaGreatDoor

/-
  Proved here: what Quote of package lex answers.
-/
import Derived.Test.YtlemnbegblpllaaDoorLexP
namespace Go.Proofs.YtlemnbegblpllaaDoor
open Go.RowKit

theorem index_mem (c : UInt8) : ∀ l : List UInt8, -1 ≤ Lib.indexByte l c ∧ (0 ≤ Lib.indexByte l c ↔ c ∈ l)
  | [] => ⟨Int.le_refl _, fun h => absurd (show (0 : Int) ≤ -1 from h) (by decide), fun h => by cases h⟩
  | b :: l => by
    obtain ⟨h1, h2⟩ := index_mem c l
    unfold Lib.indexByte
    by_cases hb : (b == c) = true
    · rw [if_pos hb]
      exact ⟨by decide, fun _ => by rw [eq_of_beq hb]; exact List.mem_cons_self .., fun _ => Int.le_refl _⟩
    · rw [if_neg hb]
      have hne : c ≠ b := fun e => hb (by rw [e]; simp)
      by_cases hm : (Lib.indexByte l c == -1) = true
      · rw [if_pos hm]
        have hm' : Lib.indexByte l c = -1 := eq_of_beq hm
        exact ⟨Int.le_refl _, fun h => absurd h (by decide), fun h => by
          rcases List.mem_cons.1 h with h | h
          · exact absurd h hne
          · have := h2.2 h; omega⟩
      · rw [if_neg hm]
        have hm' : Lib.indexByte l c ≠ -1 := fun e => hm (by rw [e]; rfl)
        exact ⟨by omega, fun _ => List.mem_cons_of_mem _ (h2.1 (by omega)), fun _ => by omega⟩
theorem nl_mem (s : ByteArray) : (0 ≤ Lib.indexByte s.data.toList 10) ↔ ∃ j, j < s.size ∧ atB s j = 10 := by
  rw [(index_mem 10 s.data.toList).2, List.mem_iff_getElem]
  constructor
  · rintro ⟨j, hj, he⟩
    refine ⟨j, hj, ?_⟩
    rw [atB_list, List.getElem?_eq_getElem hj, he]
    rfl
  · rintro ⟨j, hj, he⟩
    have hj' : j < s.data.toList.length := hj
    refine ⟨j, hj', ?_⟩
    rw [atB_list, List.getElem?_eq_getElem hj'] at he
    exact UInt8.toNat_inj.1 he
theorem ownY_one (w : World) (b : Nat) : OwnY w.heap.size (w.alloc (.cells #[.int .u8 (b : Int)] 5)) (.slice (some ⟨w.heap.size, 0, none⟩) 1 1) [b] :=
  ⟨rfl, .inr ⟨w.heap.size, 1, #[.int .u8 (b : Int)], rfl, Nat.le_refl _, heap_alloc_new w _, Nat.le_refl _, by decide, rfl, rfl⟩⟩

set_option maxRecDepth 100000 in
set_option maxHeartbeats 6400000 in
theorem quote_any (s : ByteArray) (w : World) (hs : s.size ≤ 35184372088832) :
    Calls Tryd.prog 19 #[.string s] w fun e w' => e = .returned (.string (quoteF s)) ∧ Below w.heap.size w w' := by
  obtain ⟨iY, hiY, hzY0, hzY1, hzY2⟩ := info_parts Tryd.infoYL
  have hct := fun w => Tryd.strings_Contains_one s 10 w
  by_cases hnl : ∃ j, j < s.size ∧ atB s j = 10
  · have HE : Hid (quoteF s = ⟨#[]⟩) := if_pos hnl
    rw [decide_eq_true ((nl_mem s).2 hnl)] at hct
    clear hnl
    go_enter Tryd.func19, Tryd.ntmps19
    go_wp2_with fail
    refine (hct _).mono ?_
    rintro e w1 ⟨rfl, rfl⟩
    clear hct
    go_wp2
    go_ret
    exact ⟨by rw [HE.out]; rfl, Below.refl _ _⟩
  · have HE : Hid (quoteF s = bts (qTo s s.size ++ [34])) := if_neg hnl
    rw [decide_eq_false (fun h => hnl ((nl_mem s).1 h))] at hct
    clear hnl
    go_enter Tryd.func19, Tryd.ntmps19
    go_wp2_with fail
    refine (hct _).mono ?_
    rintro e w1 ⟨rfl, hw1⟩
    rw [hw1]
    clear hct hw1 w1
    go_wp2_with fail
    go_loopw [3, 10] (fun q t wr => ∃ k : Nat, k ≤ s.size ∧ t = .int .i64 k ∧ OwnY w.heap.size wr q (qTo s k) ∧ Below w.heap.size w wr ∧ w.heap.size ≤ wr.heap.size) (fun _ t _ => s.size - (intOf t).toNat)
    case atStart => exact ⟨0, Nat.zero_le _, rfl, ownY_one w 34, belowA1 w _, by simp⟩
    case round =>
      obtain ⟨k, hk, rfl, hoy, hbel, hB⟩ := hrel
      have hql := qTo_len s k
      by_cases hlt : k < s.size
      · have hge : (k : Int) < (s.size : Int) := by omega
        have hb : s[k].toNat = atB s k := by unfold atB; rw [dif_pos hlt]; rfl
        by_cases hq : atB s k = 34 ∨ atB s k = 92
        · have HQ : Hid (qTo s k ++ [92] ++ [s[k].toNat] = qTo s (k + 1)) := by show _ = qTo s k ++ qb (atB s k); rw [show qb (atB s k) = [92] ++ [atB s k] from if_pos hq, hb, ← List.append_assoc]
          have hor : ((s[k].toNat : Int) == 34) = true ∨ (((s[k].toNat : Int) == 34) = false ∧ ((s[k].toNat : Int) == 92) = true) := by rw [hb]; exact hq.elim (fun h => Or.inl (by rw [h]; rfl)) (fun h => Or.inr ⟨by rw [h]; rfl, by rw [h]; rfl⟩)
          clear hb hq
          rcases hor with y1 | ⟨y1, y2⟩
          · obtain ⟨m1, hm1⟩ : ∃ m1, m1 = (qTo s k).length := ⟨_, rfl⟩
            have HM : Hid ((qTo s k).length = m1) := hm1.symm
            rw [← hm1] at hql
            skip
            have HO1 : Hid (wr.ownsRow w.heap.size 5 1 u3 m1 ((qTo s k).map Y)) := by show _; rw [hm1]; exact hoy
            have HHY1 : Hid (m1 = (qTo s k).length ∧ OwnY w.heap.size wr u3 (qTo s k) ∧ Below w.heap.size w wr ∧ w.heap.size ≤ wr.heap.size) := ⟨hm1, hoy, hbel, hB⟩
            have hB3 : w.heap.size ≤ (wr.alloc (.cells #[.int .u8 92] 5)).heap.size := by simp; omega
            clear hm1 hoy hbel
            go_wp2_with (at_builtin; refine wpList_push _ rfl _ _ 66 rfl w.heap.size 5 iY (.int .u8 0) 1 Tryd.underlying66 hiY hzY0 hzY1 hzY2 rfl _ m1 ((qTo s k).map Y) rfl (HO1.out.alloc _) ⟨wr.heap.size, 0, none⟩ 1 1 [.int .u8 92] rfl rfl (cell_one_new _ _ _) (fun u hu => by simp at hu; subst hu; rfl) (by decide) (by unfold maxLen; omega) (by omega) hB3 ?_)
            intro v5 w5 ho hgr _ _
            have R := push_ownY (d := 92) HHY1.out.2.1 HHY1.out.2.2.1 HHY1.out.2.2.2 (by rw [← HHY1.out.1]; exact ho) hgr
            clear ho hgr HO1 hB3 HHY1 hB
            obtain ⟨hoy, hbel, hB⟩ := R
            have hql2 : (qTo s k ++ [92]).length ≤ m1 + 1 := by rw [List.length_append]; have := HM.out; simp; omega
            obtain ⟨l2, hl2⟩ : ∃ l2, l2 = qTo s k ++ [92] := ⟨_, rfl⟩
            rw [← hl2] at hql2 hoy
            have HQ2 : Hid (l2 ++ [s[k].toNat] = qTo s (k + 1)) := by show _ = _; rw [hl2]; exact HQ.out
            clear hl2 HQ
            obtain ⟨m2, hm2⟩ : ∃ m2, m2 = l2.length := ⟨_, rfl⟩
            rw [← hm2] at hql2
            have HO2 : Hid (w5.ownsRow w.heap.size 5 1 v5 m2 ((l2).map Y)) := by show _; rw [hm2]; exact hoy
            have HHY2 : Hid (m2 = (l2).length ∧ OwnY w.heap.size w5 v5 (l2) ∧ Below w.heap.size w w5 ∧ w.heap.size ≤ w5.heap.size) := ⟨hm2, hoy, hbel, hB⟩
            have hB3 : w.heap.size ≤ (w5.alloc (.cells #[.int .u8 (s[k].toNat : Int)] 5)).heap.size := by simp; omega
            clear hm2 hoy hbel
            go_wp2_with (at_builtin; refine wpList_push _ rfl _ _ 66 rfl w.heap.size 5 iY (.int .u8 0) 1 Tryd.underlying66 hiY hzY0 hzY1 hzY2 rfl _ m2 ((l2).map Y) rfl (HO2.out.alloc _) ⟨w5.heap.size, 0, none⟩ 1 1 [.int .u8 (s[k].toNat : Int)] rfl rfl (cell_one_new _ _ _) (fun u hu => by simp at hu; subst hu; rfl) (by decide) (by unfold maxLen; omega) (by omega) hB3 ?_)
            intro v6 w6 ho hgr _ _
            have R := push_ownY (d := s[k].toNat) HHY2.out.2.1 HHY2.out.2.2.1 HHY2.out.2.2.2 (by rw [← HHY2.out.1]; exact ho) hgr
            clear ho hgr HO2 hB3 HHY2 hB
            obtain ⟨hoy, hbel, hB⟩ := R
            have HF : Hid (OwnY w.heap.size w6 v6 (l2 ++ [s[k].toNat]) ∧ Below w.heap.size w w6 ∧ w.heap.size ≤ w6.heap.size) := ⟨hoy, hbel, hB⟩
            clear hoy hbel hB
            go_wp2
            go_roundw
            case rel => exact ⟨k + 1, by omega, by go_num, by rw [← HQ2.out]; exact HF.out.1, HF.out.2⟩
            case measure => simp [intOf]; omega
          · obtain ⟨m1, hm1⟩ : ∃ m1, m1 = (qTo s k).length := ⟨_, rfl⟩
            have HM : Hid ((qTo s k).length = m1) := hm1.symm
            rw [← hm1] at hql
            skip
            have HO1 : Hid (wr.ownsRow w.heap.size 5 1 u3 m1 ((qTo s k).map Y)) := by show _; rw [hm1]; exact hoy
            have HHY1 : Hid (m1 = (qTo s k).length ∧ OwnY w.heap.size wr u3 (qTo s k) ∧ Below w.heap.size w wr ∧ w.heap.size ≤ wr.heap.size) := ⟨hm1, hoy, hbel, hB⟩
            have hB3 : w.heap.size ≤ (wr.alloc (.cells #[.int .u8 92] 5)).heap.size := by simp; omega
            clear hm1 hoy hbel
            go_wp2_with (at_builtin; refine wpList_push _ rfl _ _ 66 rfl w.heap.size 5 iY (.int .u8 0) 1 Tryd.underlying66 hiY hzY0 hzY1 hzY2 rfl _ m1 ((qTo s k).map Y) rfl (HO1.out.alloc _) ⟨wr.heap.size, 0, none⟩ 1 1 [.int .u8 92] rfl rfl (cell_one_new _ _ _) (fun u hu => by simp at hu; subst hu; rfl) (by decide) (by unfold maxLen; omega) (by omega) hB3 ?_)
            intro v5 w5 ho hgr _ _
            have R := push_ownY (d := 92) HHY1.out.2.1 HHY1.out.2.2.1 HHY1.out.2.2.2 (by rw [← HHY1.out.1]; exact ho) hgr
            clear ho hgr HO1 hB3 HHY1 hB
            obtain ⟨hoy, hbel, hB⟩ := R
            have hql2 : (qTo s k ++ [92]).length ≤ m1 + 1 := by rw [List.length_append]; have := HM.out; simp; omega
            obtain ⟨l2, hl2⟩ : ∃ l2, l2 = qTo s k ++ [92] := ⟨_, rfl⟩
            rw [← hl2] at hql2 hoy
            have HQ2 : Hid (l2 ++ [s[k].toNat] = qTo s (k + 1)) := by show _ = _; rw [hl2]; exact HQ.out
            clear hl2 HQ
            obtain ⟨m2, hm2⟩ : ∃ m2, m2 = l2.length := ⟨_, rfl⟩
            rw [← hm2] at hql2
            have HO2 : Hid (w5.ownsRow w.heap.size 5 1 v5 m2 ((l2).map Y)) := by show _; rw [hm2]; exact hoy
            have HHY2 : Hid (m2 = (l2).length ∧ OwnY w.heap.size w5 v5 (l2) ∧ Below w.heap.size w w5 ∧ w.heap.size ≤ w5.heap.size) := ⟨hm2, hoy, hbel, hB⟩
            have hB3 : w.heap.size ≤ (w5.alloc (.cells #[.int .u8 (s[k].toNat : Int)] 5)).heap.size := by simp; omega
            clear hm2 hoy hbel
            go_wp2_with (at_builtin; refine wpList_push _ rfl _ _ 66 rfl w.heap.size 5 iY (.int .u8 0) 1 Tryd.underlying66 hiY hzY0 hzY1 hzY2 rfl _ m2 ((l2).map Y) rfl (HO2.out.alloc _) ⟨w5.heap.size, 0, none⟩ 1 1 [.int .u8 (s[k].toNat : Int)] rfl rfl (cell_one_new _ _ _) (fun u hu => by simp at hu; subst hu; rfl) (by decide) (by unfold maxLen; omega) (by omega) hB3 ?_)
            intro v6 w6 ho hgr _ _
            have R := push_ownY (d := s[k].toNat) HHY2.out.2.1 HHY2.out.2.2.1 HHY2.out.2.2.2 (by rw [← HHY2.out.1]; exact ho) hgr
            clear ho hgr HO2 hB3 HHY2 hB
            obtain ⟨hoy, hbel, hB⟩ := R
            have HF : Hid (OwnY w.heap.size w6 v6 (l2 ++ [s[k].toNat]) ∧ Below w.heap.size w w6 ∧ w.heap.size ≤ w6.heap.size) := ⟨hoy, hbel, hB⟩
            clear hoy hbel hB
            go_wp2
            go_roundw
            case rel => exact ⟨k + 1, by omega, by go_num, by rw [← HQ2.out]; exact HF.out.1, HF.out.2⟩
            case measure => simp [intOf]; omega
        · have HQ : Hid (qTo s k ++ [s[k].toNat] = qTo s (k + 1)) := by show _ = qTo s k ++ qb (atB s k); rw [show qb (atB s k) = [atB s k] from if_neg hq, hb]
          have y1 : ((s[k].toNat : Int) == 34) = false := by rw [hb]; exact nat_beq (fun e => hq (Or.inl e))
          have y2 : ((s[k].toNat : Int) == 92) = false := by rw [hb]; exact nat_beq (fun e => hq (Or.inr e))
          clear hb hq
          obtain ⟨m1, hm1⟩ : ∃ m1, m1 = (qTo s k).length := ⟨_, rfl⟩
          rw [← hm1] at hql
          have HO1 : Hid (wr.ownsRow w.heap.size 5 1 u3 m1 ((qTo s k).map Y)) := by show _; rw [hm1]; exact hoy
          have HHY1 : Hid (m1 = (qTo s k).length ∧ OwnY w.heap.size wr u3 (qTo s k) ∧ Below w.heap.size w wr ∧ w.heap.size ≤ wr.heap.size) := ⟨hm1, hoy, hbel, hB⟩
          have hB3 : w.heap.size ≤ (wr.alloc (.cells #[.int .u8 (s[k].toNat : Int)] 5)).heap.size := by simp; omega
          clear hm1 hoy hbel
          go_wp2_with (at_builtin; refine wpList_push _ rfl _ _ 66 rfl w.heap.size 5 iY (.int .u8 0) 1 Tryd.underlying66 hiY hzY0 hzY1 hzY2 rfl _ m1 ((qTo s k).map Y) rfl (HO1.out.alloc _) ⟨wr.heap.size, 0, none⟩ 1 1 [.int .u8 (s[k].toNat : Int)] rfl rfl (cell_one_new _ _ _) (fun u hu => by simp at hu; subst hu; rfl) (by decide) (by unfold maxLen; omega) (by omega) hB3 ?_)
          intro v5 w5 ho hgr _ _
          have R := push_ownY (d := s[k].toNat) HHY1.out.2.1 HHY1.out.2.2.1 HHY1.out.2.2.2 (by rw [← HHY1.out.1]; exact ho) hgr
          clear ho hgr HO1 hB3 HHY1 hB
          obtain ⟨hoy, hbel, hB⟩ := R
          have HF : Hid (OwnY w.heap.size w5 v5 (qTo s k ++ [s[k].toNat]) ∧ Below w.heap.size w w5 ∧ w.heap.size ≤ w5.heap.size) := ⟨hoy, hbel, hB⟩
          clear hoy hbel hB
          go_wp2
          go_roundw
          case rel => exact ⟨k + 1, by omega, by go_num, by rw [← HQ.out]; exact HF.out.1, HF.out.2⟩
          case measure => simp [intOf]; omega
      · have hge : ¬ (k : Int) < (s.size : Int) := by omega
        obtain rfl : k = s.size := by omega
        obtain ⟨m1, hm1⟩ : ∃ m1, m1 = (qTo s s.size).length := ⟨_, rfl⟩
        rw [← hm1] at hql
        have HO1 : Hid (wr.ownsRow w.heap.size 5 1 u3 m1 ((qTo s s.size).map Y)) := by show _; rw [hm1]; exact hoy
        have HHY1 : Hid (m1 = (qTo s s.size).length ∧ OwnY w.heap.size wr u3 (qTo s s.size) ∧ Below w.heap.size w wr ∧ w.heap.size ≤ wr.heap.size) := ⟨hm1, hoy, hbel, hB⟩
        have hB3 : w.heap.size ≤ (wr.alloc (.cells #[.int .u8 34] 5)).heap.size := by simp; omega
        clear hm1 hoy hbel
        go_wp2_with (at_builtin; refine wpList_push _ rfl _ _ 66 rfl w.heap.size 5 iY (.int .u8 0) 1 Tryd.underlying66 hiY hzY0 hzY1 hzY2 rfl _ m1 ((qTo s s.size).map Y) rfl (HO1.out.alloc _) ⟨wr.heap.size, 0, none⟩ 1 1 [.int .u8 34] rfl rfl (cell_one_new _ _ _) (fun u hu => by simp at hu; subst hu; rfl) (by decide) (by unfold maxLen; omega) (by omega) hB3 ?_)
        intro v5 w5 ho hgr _ _
        have R := push_ownY (d := 34) HHY1.out.2.1 HHY1.out.2.2.1 HHY1.out.2.2.2 (by rw [← HHY1.out.1]; exact ho) hgr
        clear ho hgr HO1 hB3 HHY1 hB
        obtain ⟨hoy, hbel, hB⟩ := R
        have hcv := conv_own hoy
        have HF : Hid (Below w.heap.size w w5) := hbel
        clear hoy hbel hB
        rw [← HE.out] at hcv
        go_wp2
        go_ret
        exact ⟨rfl, HF.out⟩
end Go.Proofs.YtlemnbegblpllaaDoor

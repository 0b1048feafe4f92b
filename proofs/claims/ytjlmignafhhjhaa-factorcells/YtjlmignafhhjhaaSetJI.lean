/-
  Proved here: package set at int: Join.
-/
import Derived.Test.YtjlmignafhhjhaaSetGIAll
import Derived.Test.YtjlmignafhhjhaaSetHAll
namespace Go.Proofs.Ytjlmignafhhjhaa
open Go.Shelf Go.RowKit Go.Lib Go.Sort
/-- what two rising lists make -/
def joinI (L M : List Int) : List Int := jn (ltOf cfI) fndI L M
theorem joinI_len (L M : List Int) : (joinI L M).length ≤ L.length + M.length := jn_len L M
theorem rs_dropI {L : List Int} (h : Rs (ltOf cfI) L) (k : Nat) : Rs (ltOf cfI) (L.drop k) := List.Pairwise.sublist (List.drop_sublist k L) h
set_option maxHeartbeats 4000000 in
set_option maxRecDepth 1000000 in
theorem setJoinI (v u : Value) (L M : List Int) (w : World) (hv : RG (Value.int .i64) w v L) (hu : RG (Value.int .i64) w u M) (hR : Rs (ltOf cfI) M) (hz : L.length ≤ 200000) (hz2 : M.length ≤ 200000) :
    Calls Try.prog 64 #[.agg #[v], .agg #[u]] w fun e w' => MkEI w (joinI L M) e w' := by
  obtain ⟨W1, hW1⟩ : ∃ W1, W1 = ((w.alloc (.cells #[v] 126)).alloc (.cells #[u] 126)).alloc (.cells #[.slice none 0 0] 126) := ⟨_, rfl⟩
  have s0 : SCell 126 W1 w.heap.size v := by rw [hW1]; exact ((SCell.new w rfl).step _).step _
  have s1 : SCell 126 W1 (w.heap.size + 1) u := by rw [hW1]; exact (SCell.new _ (by simp)).step _
  have s2 : SCell 126 W1 (w.heap.size + 2) (.slice none 0 0) := by rw [hW1]; exact SCell.new _ (by simp)
  have b0 : Below w.heap.size w W1 := by rw [hW1]; exact (((Below.refl _ _).alloc (Nat.le_refl _) _).alloc (by simp) _).alloc (by simp; omega) _
  have z0 : W1.heap.size = w.heap.size + 3 := by rw [hW1]; simp
  have HW1 : Hid (W1 = ((w.alloc (.cells #[v] 126)).alloc (.cells #[u] 126)).alloc (.cells #[.slice none 0 0] 126)) := hW1
  have HU : Hid (RG (Value.int .i64) W1 u M) := hu.below (Nat.le_refl _) b0
  have hv1 := hv.below (Nat.le_refl _) b0
  obtain ⟨i0, hi, hz0, hz1, hz2'⟩ := info_parts infoI
  obtain ⟨g, hg⟩ : ∃ g, g = w.heap.size := ⟨_, rfl⟩
  have HG : Hid (g = w.heap.size) := hg
  rw [← hg] at s0 s1 s2 z0
  obtain ⟨uo, uc, rfl, huc, hum, -, -⟩ := id hu
  obtain ⟨ao, cap, rfl, hc, hm, -, -⟩ := id hv1
  unfold maxLen at hm hum
  obtain ⟨n, hn⟩ : ∃ n, L.length = n := ⟨_, rfl⟩
  obtain ⟨m, hmm⟩ : ∃ n, M.length = n := ⟨_, rfl⟩
  rw [hn] at s0 HW1 hv1 hz hc
  rw [hmm] at s1 HW1 HU hz2 huc
  have hnv : (Value.slice ao L.length cap) = .slice ao n cap := by rw [hn]
  have hnu : (Value.slice uo M.length uc) = .slice uo m uc := by rw [hmm]
  rw [hnv, hnu]
  have HN : Hid (L.length = n) := hn
  have HM : Hid (M.length = m) := hmm
  have HC : Hid (∀ W, Below W1.heap.size W1 W → ∀ i, i < n → ∃ x gg o, L[i]? = some x ∧ ao = some ⟨gg, o, none⟩ ∧ W.cell? ⟨gg, o + i, none⟩ = some ((Value.int .i64) x)) := fun W h i hi => (hv1.below (Nat.le_refl _) h).at hi
  have S2 : Hid (SCell 126 W1 (g + 2) (.slice none 0 0)) := s2
  have HB : Hid (Below g w W1) := by rw [hg]; exact b0
  have HZ : Hid (W1.heap.size = g + 3) := z0
  have HJL : Hid ((joinI L M).length ≤ n + m) := by have := joinI_len L M; have h1 := HN.out; have h2 := HM.out; show _ ≤ _; omega
  have c0 := s0.cell
  have c1 := s1.cell
  have HR : Hid (Rs (ltOf cfI) M) := hR
  obtain ⟨cc, hcc⟩ : ∃ c, c = n + m := ⟨_, rfl⟩
  have ecc : (n : Int) + (m : Int) = (cc : Int) := by omega
  have wcc : IntKind.i64.wrap (cc : Int) = (cc : Int) := by rw [IntKind.wrap_i64]; omega
  have hmk : ∀ w : World, (Instr.makeSlice 22 (.int .i64 0) (.int .i64 (cc : Int))).run Try.prog w = .ok (.slice (some ⟨w.heap.size, 0, none⟩) 0 cc) (w.alloc (.cells (madeCells #[(.int .i64 0)] cc) 3)) := fun w => by
    have := run_make (P := Try.prog) w 22 3 i0 (.int .i64 0) Try.underlying22 hi hz0 .i64 .i64 0 (cc : Int) (by omega) (by omega) (by rw [hz2']; omega) (by omega)
    rw [hz1, Nat.mul_one] at this
    exact this
  have HO0 : Hid (OG (Value.int .i64) W1.heap.size 3 (W1.alloc (.cells (madeCells #[(.int .i64 0)] cc) 3)) (.slice (some ⟨W1.heap.size, 0, none⟩) 0 cc) []) := OG.zeros _ _ W1.heap.size _ cc _ (Nat.le_refl _) (heap_alloc_new W1 _) (by simp [madeCells]) (by unfold maxLen; omega)
  have HB0 : Hid (Below W1.heap.size W1 (W1.alloc (.cells (madeCells #[(.int .i64 0)] cc) 3))) := (Below.refl _ _).alloc (Nat.le_refl _) _
  have HCC : Hid (cc = n + m) := hcc
  have sA := s0.step (.cells (madeCells #[(.int .i64 0)] cc) 3)
  have sB := s1.step (.cells (madeCells #[(.int .i64 0)] cc) 3)
  have d0 := sA.cell
  have d1 := sB.cell
  obtain ⟨W2, hW2⟩ : ∃ W2, W2 = W1.alloc (.cells (madeCells #[(.int .i64 0)] cc) 3) := ⟨_, rfl⟩
  rw [← hW2] at HO0 HB0 d0 d1
  have HW2 : Hid (W2 = W1.alloc (.cells (madeCells #[(.int .i64 0)] cc) 3)) := hW2
  obtain ⟨g2, hg2⟩ : ∃ g2, g2 = W1.heap.size := ⟨_, rfl⟩
  have HG2 : Hid (g2 = W1.heap.size) := hg2
  rw [← hg2] at HO0
  clear hW1 hv hu hn hmm hnv hnu s0 s1 s2 b0 z0 hv1 hR hcc sA sB hW2
  go_enter Try.func64, Try.ntmps64
  go_upto_region 1 with fail
  rw [← HW1.out, ← HG.out]
  clear HW1 hg
  go_upto_region 2 with fail
  rw [← HW2.out, ← HG2.out]
  clear HW2 hg2 c0 c1 hmk
  go_wp2
  clear d0 d1
  go_loopg [5, 6, 8, 9, 10, 24] n (fun g1 v5 v6 _v8 _v9 _v10 v24 wr => ∃ (i rl rc : Nat) (ro : Option Addr) (va : Value) (D Rr : List Int), va = v5 ∧ v6 = .slice ro rl rc ∧ v24 = .int .i64 i ∧ i ≤ n ∧ n - i ≤ g1 ∧ rl ≤ m ∧ Hid (Rr.length = rl) ∧ Hid (Rs (ltOf cfI) Rr) ∧ Hid (D ++ joinI (L.drop i) Rr = joinI L M) ∧ Hid (∀ W, Below W1.heap.size W1 W → RG (Value.int .i64) W (.slice ro rl rc) Rr) ∧ Hid (OG (Value.int .i64) g2 3 wr va D) ∧ Hid (Below W1.heap.size W1 wr))
  case atStart => exact ⟨0, m, uc, uo, _, [], M, rfl, rfl, rfl, Nat.zero_le _, by omega, Nat.le_refl _, HM, HR, rfl, fun W h => HU.out.below (Nat.le_refl _) h, HO0, HB0⟩
  case round =>
    clear HO0 HB0
    obtain ⟨i, rl, rc, ro, va, D, Rr, rfl, rfl, rfl, hin, hg1, hrm, HRL, HRS, HJ, HRR, HO, HBW⟩ := hrel
    have hDl : D.length ≤ n + m := by have h1 := HJL.out; rw [← HJ.out, List.length_append] at h1; omega
    by_cases hlt : i < n
    · have hltz : (i : Int) < (n : Int) := by omega
      obtain ⟨x, gg, o, hx, e1, hc0⟩ := HC.out _ HBW.out i hlt
      subst e1
      have rr := HRR.out _ HBW.out
      obtain ⟨_, _, e2, hrc, hrcm, hrnil, -⟩ := id rr
      have hrl := HRL.out
      rw [hrl] at e2 hrc
      cases e2
      unfold maxLen at hrcm
      have C := searchI _ Rr x wr rr (HRS.out.srt ordI) (by omega)
      have HX : Hid (L.drop i = x :: L.drop (i + 1)) := drop_cons hx
      clear hx hrl
      go_wp2_with fail
      refine C.mono ?_
      rintro e w2 ⟨k, rfl, hP, q, hq⟩
      have b2 : Below wr.heap.size wr w2 := by rw [hq]; exact below_drewN (Below.refl _ _) q
      have hk : k ≤ rl := by have := hP.le; have := HRL.out; omega
      have hpk := pF_pos hP
      have hkr : fndI Rr x k = true → k < rl := fun h => by
        rcases Nat.lt_or_ge k rl with h1 | h1
        · exact h1
        · rw [fndI_off (by have := HRL.out; omega)] at h
          exact absurd h (by simp)
      have HJ2 : Hid (D ++ (Rr.take k ++ x :: joinI (L.drop (i + 1)) (if fndI Rr x k then Rr.drop (k + 1) else Rr.drop k)) = joinI L M) := by
        have h1 := HJ.out
        rw [HX.out] at h1
        unfold joinI at h1 ⊢
        rw [jn, ← hpk] at h1
        exact h1
      have hcut := cutI ro rl rc k hk hrc (by omega) hrnil
      obtain ⟨bo, c2, hfrom, hfr⟩ := fromI ro rl rc k Rr hk hrc (by omega) hrnil
      have O2 := HO.out.below b2
      have B2 := HBW.out.trans (b2.mono HBW.out.size)
      have RT : Hid (RG (Value.int .i64) w2 (.slice ro k rc) (Rr.take k)) := (HRR.out _ B2).cut hk
      have RD : Hid (∀ W, Below W1.heap.size W1 W → RG (Value.int .i64) W (.slice bo (rl - k) c2) (Rr.drop k)) := fun W h => hfr W (HRR.out W h)
      have HTK : Hid ((Rr.take k).length = k) := by show _ = _; rw [List.length_take]; have := HRL.out; omega
      have ZZ : Hid (g2 ≤ w2.heap.size) := by rw [HG2.out]; exact B2.size
      have HO2 : Hid (OG (Value.int .i64) g2 3 w2 va D) := O2
      have HB2 : Hid (Below W1.heap.size W1 w2) := B2
      have hkz : (0 : Int) ≤ (k : Int) := by omega
      have HHB : Hid (Below g2 W1 w2) := by rw [HG2.out]; exact B2
      obtain ⟨bb, hbb⟩ : ∃ bb, bb = fndI Rr x k := ⟨_, rfl⟩
      rw [← hbb] at hkr HJ2 ⊢
      have HKR : Hid (bb = true → k < rl) := hkr
      clear C hc0 hq b2 hP hpk hkr hfr O2 B2 HO HBW rr hbb HJ
      go_wp2_with (at_builtin; refine wpList_appG _ oneI rfl _ _ 22 rfl g2 3 i0 (.int .i64 0) 8 Try.underlying22 hi hz0 hz1 hz2' rfl _ _ D (Rr.take k) rfl HO2.out rfl RT.out (by have := HTK.out; unfold maxLen; omega) (by have := HTK.out; omega) ZZ.out ?_)
      intro v3 w3 ho3 hg3
      have B3 := HO2.out.grown HHB.out ZZ.out hg3
      have Z3 : g2 ≤ w3.heap.size := by have := B3.size; have h2 := HG2.out; omega
      have O4 : Hid (OG (Value.int .i64) g2 3 (w3.alloc (.cells #[(Value.int .i64) x] 3)) v3 (D ++ Rr.take k)) := ho3.below ((Below.refl _ _).alloc (Nat.le_refl _) _)
      have R4 : Hid (RG (Value.int .i64) (w3.alloc (.cells #[(Value.int .i64) x] 3)) (.slice (some ⟨w3.heap.size, 0, none⟩) 1 1) [x]) := (OG.lit (enc := (Value.int .i64)) 3 w3 [x] (by unfold maxLen; simp)).rg
      have Z4 : Hid (g2 ≤ (w3.alloc (.cells #[(Value.int .i64) x] 3)).heap.size) := Nat.le_trans Z3 (by simp)
      have B4 : Hid (Below g2 W1 (w3.alloc (.cells #[(Value.int .i64) x] 3))) := B3.alloc Z3 _
      have HL4 : Hid ((D ++ Rr.take k).length ≤ n + 2 * m) := by show _ ≤ _; rw [List.length_append, HTK.out]; omega
      clear ho3 hg3 B3 Z3 HO2 HB2 HHB RT
      go_wp2_with (at_builtin; refine wpList_appG _ oneI rfl _ _ 22 rfl g2 3 i0 (.int .i64 0) 8 Try.underlying22 hi hz0 hz1 hz2' rfl _ _ (D ++ Rr.take k) [x] rfl O4.out rfl R4.out (by have := HL4.out; unfold maxLen; simp only [List.length_cons, List.length_nil]; omega) (by have := HL4.out; simp only [List.length_cons, List.length_nil]; omega) Z4.out ?_)
      intro v5 w5 ho5 hg5
      have B5 : Hid (Below W1.heap.size W1 w5) := by have := O4.out.grown B4.out Z4.out hg5; rwa [HG2.out] at this
      have O5 : Hid (OG (Value.int .i64) g2 3 w5 v5 (D ++ Rr.take k ++ [x])) := by first | exact ho5 | (rw [List.append_assoc]; exact ho5)
      clear ho5 hg5 O4 R4 Z4 B4 HL4 ZZ
      obtain ⟨l2, hl2⟩ : ∃ l, l = rl - k := ⟨_, rfl⟩
      rw [← hl2] at hfrom RD
      have HL2 : Hid (l2 = rl - k) := hl2
      have hl2m : l2 ≤ m := by omega
      have HDL : Hid ((Rr.drop k).length = l2) := by show _ = _; rw [List.length_drop, HRL.out]; omega
      clear hl2
      cases bb with
      | true =>
        have hkl := HKR.out rfl
        have rd := RD.out _ (Below.refl _ W1)
        obtain ⟨_, _, e3, hc2, hc2m, hbnil, -⟩ := id rd
        have hdl := HDL.out
        rw [hdl] at e3 hc2
        cases e3
        unfold maxLen at hc2m
        have h1l : 1 ≤ l2 := by have := HL2.out; omega
        obtain ⟨bo2, c3, hfrom2, hfr2⟩ := fromI bo l2 c2 1 (Rr.drop k) h1l hc2 (by omega) hbnil
        have hf1 : ((1 : Nat) : Int) = 1 := rfl
        rw [hf1] at hfrom2
        have RD2 : Hid (∀ W, Below W1.heap.size W1 W → RG (Value.int .i64) W (.slice bo2 (l2 - 1) c3) (Rr.drop (k + 1))) := fun W h => by have := hfr2 W (RD.out W h); rwa [List.drop_drop] at this
        have HJ3 : Hid ((D ++ Rr.take k ++ [x]) ++ joinI (L.drop (i + 1)) (Rr.drop (k + 1)) = joinI L M) := by have := HJ2.out; simpa [Hid] using this
        have HDL2 : Hid ((Rr.drop (k + 1)).length = l2 - 1) := by show _ = _; rw [List.length_drop, HRL.out]; have := HL2.out; omega
        obtain ⟨l3, hl3⟩ : ∃ l, l = l2 - 1 := ⟨_, rfl⟩
        rw [← hl3] at hfrom2 RD2 HDL2
        have hl3m : l3 ≤ m := by omega
        clear hf1 hl3 rd hdl hc2 hbnil hfr2 RD HJ2 HKR hc2m
        go_wp2
        go_roundg (n - (i + 1))
        case measure => omega
        case rel => exact ⟨i + 1, l3, c3, bo2, v5, D ++ Rr.take k ++ [x], Rr.drop (k + 1), rfl, rfl, by go_num, by omega, Nat.le_refl _, hl3m, HDL2, rs_dropI HRS.out _, HJ3, RD2, O5, B5⟩
      | false =>
        have HJ3 : Hid ((D ++ Rr.take k ++ [x]) ++ joinI (L.drop (i + 1)) (Rr.drop k) = joinI L M) := by have := HJ2.out; simpa [Hid] using this
        clear HJ2 HKR
        go_wp2
        go_roundg (n - (i + 1))
        case measure => omega
        case rel => exact ⟨i + 1, l2, c2, bo, v5, D ++ Rr.take k ++ [x], Rr.drop k, rfl, rfl, by go_num, by omega, Nat.le_refl _, hl2m, HDL, rs_dropI HRS.out _, HJ3, RD, O5, B5⟩
    · have hltz : ¬ (i : Int) < (n : Int) := by omega
      have HE : Hid (D ++ Rr = joinI L M) := by have := HJ.out; rw [List.drop_of_length_le (by rw [HN.out]; omega)] at this; exact this
      have RT : Hid (RG (Value.int .i64) wr (.slice ro rl rc) Rr) := HRR.out _ HBW.out
      have ZZ : Hid (g2 ≤ wr.heap.size) := by rw [HG2.out]; exact HBW.out.size
      have HHB : Hid (Below g2 W1 wr) := by rw [HG2.out]; exact HBW.out
      clear HJ HBW hltz
      go_wp2_with (at_builtin; refine wpList_appG _ oneI rfl _ _ 22 rfl g2 3 i0 (.int .i64 0) 8 Try.underlying22 hi hz0 hz1 hz2' rfl _ _ D Rr rfl HO.out rfl RT.out (by have := HRL.out; unfold maxLen; omega) (by have := HRL.out; omega) ZZ.out ?_)
      intro v3 w3 ho3 hg3
      have B3 : Below W1.heap.size W1 w3 := by have := HO.out.grown HHB.out ZZ.out hg3; rwa [HG2.out] at this
      rw [HE.out] at ho3
      obtain ⟨eo, ec, he, -⟩ := ho3.sl
      obtain ⟨el, hel⟩ : ∃ l, l = (joinI L M).length := ⟨_, rfl⟩
      rw [← hel] at he
      subst he
      have s6 := S2.out.below B3
      have c6 := s6.cell
      have f6 := s6.thaw
      have HW : Hid (SCell 126 (w3.setCell ⟨g + 2, 0, none⟩ (.slice eo el ec)) (g + 2) (.slice eo el ec)) := s6.write _
      have HBE : Hid (Below g w (w3.setCell ⟨g + 2, 0, none⟩ (.slice eo el ec))) := (HB.out.trans (B3.mono (by rw [HZ.out]; omega))).setCell (p := ⟨g + 2, 0, none⟩) (by show g ≤ g + 2; omega) _
      have HRE : Hid (OG (Value.int .i64) g 3 (w3.setCell ⟨g + 2, 0, none⟩ (.slice eo el ec)) (.slice eo el ec) (joinI L M)) := OG.of_blocks (ho3.mono (by rw [HG2.out, HZ.out]; omega)) fun j hj => Below.heap_setCell _ _ _ _ (by have h1 := (ho3.lt j hj).1; rw [HG2.out, HZ.out] at h1; show j ≠ g + 2; omega)
      clear s6 ho3 hel B3 hg3 HO RT
      go_wp2_with fail
      (try simp only [Exit.inBlock, Exit.then])
      exact bodyPost_ret (results_cell_row rfl _ _ (g + 2) 126 _ (0, 0) _ rfl HW.out Try.underlying126 rfl (by kernel_rfl)) rfl ⟨_, rfl, by rw [← HG.out]; exact HRE.out, by rw [← HG.out]; exact HBE.out⟩
end Go.Proofs.Ytjlmignafhhjhaa

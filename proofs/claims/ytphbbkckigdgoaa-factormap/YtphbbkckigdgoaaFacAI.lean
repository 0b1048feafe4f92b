/-
  Proved here: package factor's Check and sizeOf at one type.
-/
import Derived.Test.YtphbbkckigdgoaaFacB
namespace Go.Proofs.Ytphbbkckigdgoaa
set_option linter.unusedVariables false
open Go.RowKit Go.Shelf Go.Lib Go.Sort
set_option maxRecDepth 100000 in
set_option maxHeartbeats 6400000 in
theorem checkI (s z : Value) (xs zs : List Int) (co : Option Addr) (m cc : Nat) (w : World) (hs : RK .i64 w s xs) (hz : RK .i64 w z zs) (hm : m ≤ 9223372036854775807) :
    Calls Try.prog 17 #[.agg #[s, z, .slice co m cc]] w fun e w' => e = .returned (.int .i64 (chkE xs zs m)) ∧ Below w.heap.size w w' := by
  obtain ⟨W1, hW1⟩ : ∃ W1, W1 = w.alloc (.cells #[s, z, .slice co m cc] 24) := ⟨_, rfl⟩
  obtain ⟨g, hg⟩ : ∃ g, g = w.heap.size := ⟨_, rfl⟩
  have q0 : BCell 24 W1 g s z (.slice co m cc) := by rw [hW1]; exact BCell.new w hg.symm
  have b0 : Below w.heap.size w W1 := by rw [hW1]; exact belowB w _
  have hs1 := hs.below (Nat.le_refl _) b0
  have hz1 := hz.below (Nat.le_refl _) b0
  have HZ : Hid (RK .i64 W1 z zs) := hz1
  obtain ⟨sao, sc, rfl, hsc, hsm, -, hsb, hscell⟩ := hs1
  obtain ⟨zao, zc, rfl, hzc, hzm, -, hzb, hzcell⟩ := hz1
  unfold maxLen at hsm hzm
  have HW1 : Hid (W1 = w.alloc (.cells #[.slice sao xs.length sc, .slice zao zs.length zc, .slice co m cc] 24)) := hW1
  have HB : Hid (Below w.heap.size w W1) := b0
  have HG : Hid (g = w.heap.size) := hg
  clear hW1 hg hs hz b0
  obtain ⟨n, hn⟩ : ∃ n, xs.length = n := ⟨_, rfl⟩
  obtain ⟨k, hk⟩ : ∃ n, zs.length = n := ⟨_, rfl⟩
  have HN : Hid (xs.length = n) := hn
  have HK : Hid (zs.length = k) := hk
  rw [hn] at hsc hsb hscell q0 HW1 ⊢
  rw [hk] at hzc hzb hzcell q0 HZ HW1 ⊢
  obtain ⟨r, hr⟩ : ∃ r, r = chkE xs zs m := ⟨_, rfl⟩
  rw [← hr]
  have HR : Hid (r = chkE xs zs m) := hr
  clear hn hk hr hsb hzb
  obtain ⟨cq0, cq1, cq2⟩ := q0.cells
  clear q0
  by_cases hkn : k = n
  case neg =>
    have HR2 : Hid (r = 60) := by show r = 60; rw [HR.out]; unfold chkE; rw [if_pos (by rw [HN.out, HK.out]; exact hkn)]
    have hne : ((k : Int) != (n : Int)) = true := by simp; omega
    clear hscell hzcell HR hkn
    go_enter Try.func17, Try.ntmps17
    go_upto_region 1 with fail
    rw [← HW1.out, ← HG.out]
    go_wp2
    go_ret
    exact ⟨by rw [HR2.out]; rfl, HB.out⟩
  subst hkn
  have HL : Hid (zs.length = xs.length) := HK.out.trans HN.out.symm
  have HSC : Hid (∀ i, i < k → ∃ g o, sao = some ⟨g, o, none⟩ ∧ W1.cell? ⟨g, o + i, none⟩ = some (.int .i64 (xs.getD i 0))) := hscell
  have HZC : Hid (∀ i, i < k → ∃ g o, zao = some ⟨g, o, none⟩ ∧ W1.cell? ⟨g, o + i, none⟩ = some (.int .i64 (zs.getD i 0))) := hzcell
  clear hscell hzcell
  have heq : ((k : Int) != (k : Int)) = false := by simp
  go_enter Try.func17, Try.ntmps17
  go_upto_region 1 with fail
  rw [← HW1.out, ← HG.out]
  clear HW1
  go_wp2
  clear heq
  go_loopg [3, 4, 5, 18] k (fun g1 v3 _v4 _v5 v18 wr => ∃ (i : Nat) (p : Int), v18 = .int .i64 i ∧ v3 = .int .i64 p ∧ i ≤ k ∧ k - i ≤ g1 ∧ Hid (okS (-1) xs zs = okS p (xs.drop i) (zs.drop i)) ∧ W1 = wr)
  case atStart => exact ⟨0, -1, rfl, rfl, Nat.zero_le _, by omega, rfl, rfl⟩
  case round =>
    obtain ⟨i, p, rfl, rfl, hik, hg1, HO, rfl⟩ := hrel
    by_cases hlt : i < k
    · have hltz : (i : Int) < (k : Int) := by omega
      obtain ⟨g2, o2, rfl, c2⟩ := HSC.out i hlt
      obtain ⟨g3, o3, rfl, c3⟩ := HZC.out i hlt
      have HO2 : Hid (okS (-1) xs zs = (decide (p < xs.getD i 0) && decide (1 ≤ zs.getD i 0) && okS (xs.getD i 0) (xs.drop (i + 1)) (zs.drop (i + 1)))) := by
        show _ = _
        rw [HO.out]
        have h1 : i < xs.length := by rw [HN.out]; exact hlt
        have h2 : i < zs.length := by rw [HK.out]; exact hlt
        exact okS_step (by simp [List.getD_eq_getElem?_getD, h1]) (by simp [List.getD_eq_getElem?_getD, h2])
      clear HO
      generalize xs.getD i 0 = x at *
      generalize zs.getD i 0 = y at *
      by_cases hx : x ≤ p
      · have HR2 : Hid (r = 60) := by
          show r = 60
          rw [HR.out]; unfold chkE; rw [if_neg (by rw [HL.out]; simp), if_pos (by rw [HO2.out, decide_eq_false (show ¬ p < x by omega)]; rfl)]
        clear HO2 HR
        have hxb : decide (x ≤ p) = true := decide_eq_true hx
        go_wp2
        go_ret
        exact ⟨by rw [HR2.out]; rfl, HB.out⟩
      · have hxb : decide (x ≤ p) = false := decide_eq_false hx
        by_cases hy : y < 1
        · have HR2 : Hid (r = 60) := by
            show r = 60
            rw [HR.out]; unfold chkE; rw [if_neg (by rw [HL.out]; simp), if_pos (by rw [HO2.out, decide_eq_false (show ¬ 1 ≤ y by omega)]; simp)]
          clear HO2 HR
          have hyb : decide (y < 1) = true := decide_eq_true hy
          go_wp2
          go_ret
          exact ⟨by rw [HR2.out]; rfl, HB.out⟩
        · have hyb : decide (y < 1) = false := decide_eq_false hy
          have HO3 : Hid (okS (-1) xs zs = okS x (xs.drop (i + 1)) (zs.drop (i + 1))) := by
            show _ = _
            rw [HO2.out, decide_eq_true (show p < x by omega), decide_eq_true (show 1 ≤ y by omega)]; rfl
          clear HO2
          go_wp2
          go_roundg (k - (i + 1))
          case measure => omega
          case rel => exact ⟨i + 1, x, by go_num, rfl, by omega, Nat.le_refl _, HO3, rfl⟩
    · have hltz : ¬ (i : Int) < (k : Int) := by omega
      have HOK : Hid (okS (-1) xs zs = true) := by show _ = true; rw [HO.out]; exact okS_end (by rw [HN.out]; omega)
      clear HO HSC HZC
      have hbd := cnt_bd zs
      by_cases hE : cntE zs = 0
      · by_cases hc : cntN zs = (m : Int)
        · have HR2 : Hid (r = 0) := by
            show r = 0
            rw [HR.out]; unfold chkE; rw [if_neg (by rw [HL.out]; simp), if_neg (by rw [HOK.out]; simp), if_neg (by simpa using hE), if_neg (by simpa using hc)]
          have C := countI _ zs W1 HZ.out
          rw [hE, hc] at C
          have HC : Hid _ := C
          clear HR hE hc C hbd hltz
          have hne : ((m : Int) != (m : Int)) = false := by simp
          go_wp2_with (go_at_call 21; refine Calls.mono HC.out ?_; rintro e w' ⟨rfl, q, rfl⟩; have cq9 := cell_drewF cq2 q)
          go_ret
          exact ⟨by rw [HR2.out]; rfl, below_drewN HB.out q⟩
        · have HR2 : Hid (r = 60) := by
            show r = 60
            rw [HR.out]; unfold chkE; rw [if_neg (by rw [HL.out]; simp), if_neg (by rw [HOK.out]; simp), if_neg (by simpa using hE), if_pos hc]
          have C := countI _ zs W1 HZ.out
          rw [hE] at C
          obtain ⟨u, hu⟩ : ∃ u, u = cntN zs := ⟨_, rfl⟩
          rw [← hu] at C hc hbd
          have HC : Hid _ := C
          clear HR hE C hu hltz
          have hne : ((m : Int) != u) = true := by simpa using fun h => hc h.symm
          clear hc
          go_wp2_with (go_at_call 21; refine Calls.mono HC.out ?_; rintro e w' ⟨rfl, q, rfl⟩; have cq9 := cell_drewF cq2 q)
          go_ret
          exact ⟨by rw [HR2.out]; rfl, below_drewN HB.out q⟩
      · have HR2 : Hid (r = cntE zs) := by
          show r = cntE zs
          rw [HR.out]; unfold chkE; rw [if_neg (by rw [HL.out]; simp), if_neg (by rw [HOK.out]; simp), if_pos (by simpa using hE)]
        have C := countI _ zs W1 HZ.out
        obtain ⟨u, hu⟩ : ∃ u, u = cntE zs := ⟨_, rfl⟩
        rw [← hu] at C hE HR2
        have HC : Hid _ := C
        have hne : (u != 0) = true := by simpa using hE
        clear HR hE C hu hltz
        go_wp2_with (go_at_call 21; refine Calls.mono HC.out ?_; rintro e w' ⟨rfl, q, rfl⟩)
        go_ret
        exact ⟨by rw [HR2.out]; rfl, below_drewN HB.out q⟩
end Go.Proofs.Ytphbbkckigdgoaa

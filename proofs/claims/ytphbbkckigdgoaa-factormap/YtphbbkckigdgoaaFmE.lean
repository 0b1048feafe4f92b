/-
  Proved here: the document's own Check of a table's shape.
-/
import Derived.Test.YtphbbkckigdgoaaFacB
import Derived.Test.YtphbbkckigdgoaaFacMath
import Derived.Test.YtphbbkckigdgoaaRadI
namespace Go.Proofs.Ytphbbkckigdgoaa
set_option linter.unusedVariables false
open Go.RowKit Go.Shelf Go.Lib Go.Sort
set_option maxRecDepth 100000 in
set_option maxHeartbeats 6400000 in
theorem refCheck13 (s z : Value) (xs zs : List Int) (m : Nat) (w : World) (hs : RK .i64 w s xs) (hz : RK .i64 w z zs) (hm : m ≤ 9223372036854775807) :
    Calls Try.prog 5 #[.agg #[s, z, .int .i64 m]] w fun e w' => e = .returned (.int .i64 (chkE xs zs m)) ∧ Below w.heap.size w w' := by
  obtain ⟨W1, hW1⟩ : ∃ W1, W1 = w.alloc (.cells #[s, z, .int .i64 m] 29) := ⟨_, rfl⟩
  obtain ⟨g, hg⟩ : ∃ g, g = w.heap.size := ⟨_, rfl⟩
  have q0 : BCell 29 W1 g s z (.int .i64 m) := by rw [hW1]; exact BCell.new w hg.symm
  have b0 : Below w.heap.size w W1 := by rw [hW1]; exact belowB w _
  have hs1 := hs.below (Nat.le_refl _) b0
  have hz1 := hz.below (Nat.le_refl _) b0
  have HZ : Hid (RK .i64 W1 z zs) := hz1
  obtain ⟨sao, sc, rfl, hsc, hsm, -, hsb, hscell⟩ := hs1
  obtain ⟨zao, zc, rfl, hzc, hzm, -, hzb, hzcell⟩ := hz1
  unfold maxLen at hsm hzm
  have HW1 : Hid (W1 = w.alloc (.cells #[.slice sao xs.length sc, .slice zao zs.length zc, .int .i64 m] 29)) := hW1
  have HB : Hid (Below w.heap.size w W1) := b0
  have HG : Hid (g = w.heap.size) := hg
  clear hW1 hg hs hz b0
  obtain ⟨n, hn⟩ : ∃ n, xs.length = n := ⟨_, rfl⟩
  obtain ⟨k, hk⟩ : ∃ n, zs.length = n := ⟨_, rfl⟩
  have HN : Hid (xs.length = n) := hn
  have HK : Hid (zs.length = k) := hk
  rw [hn] at hsc hsb hscell q0 HW1 ⊢
  rw [hk] at hzc hzb hzcell q0 HZ HW1 ⊢
  obtain ⟨r, hr⟩ : ∃ r, r = chkE xs zs m := ⟨_, rfl⟩
  rw [← hr]
  have HR : Hid (r = chkE xs zs m) := hr
  clear hn hk hr hsb hzb
  obtain ⟨cq0, cq1, cq2⟩ := q0.cells
  clear q0
  by_cases hkn : k = n
  case neg =>
    have HR2 : Hid (r = 60) := by show r = 60; rw [HR.out]; unfold chkE; rw [if_pos (by rw [HN.out, HK.out]; exact hkn)]
    have hne : ((n : Int) != (k : Int)) = true := by simp; omega
    clear hscell hzcell HR hkn
    go_enter Try.func5, Try.ntmps5
    go_upto_region 1 with fail
    rw [← HW1.out, ← HG.out]
    go_wp2
    go_ret
    exact ⟨by rw [HR2.out]; rfl, HB.out⟩
  subst hkn
  have HL : Hid (zs.length = xs.length) := HK.out.trans HN.out.symm
  have HSC : Hid (∀ i, i < k → ∃ g o, sao = some ⟨g, o, none⟩ ∧ W1.cell? ⟨g, o + i, none⟩ = some (.int .i64 (xs.getD i 0))) := hscell
  have HZC : Hid (∀ i, i < k → ∃ g o, zao = some ⟨g, o, none⟩ ∧ W1.cell? ⟨g, o + i, none⟩ = some (.int .i64 (zs.getD i 0))) := hzcell
  clear hscell hzcell
  have heq : ((k : Int) != (k : Int)) = false := by simp
  go_enter Try.func5, Try.ntmps5
  go_upto_region 1 with fail
  rw [← HW1.out, ← HG.out]
  clear HW1
  go_wp2
  clear heq
  go_loopg [3] k (fun g1 v3 wr => ∃ (i : Nat) (p : Int), v3 = .int .i64 i ∧ i ≤ k ∧ k - i ≤ g1 ∧ Hid (p = if i = 0 then -1 else xs.getD (i - 1) 0) ∧ -1 ≤ p ∧ Hid (okS (-1) xs zs = okS p (xs.drop i) (zs.drop i)) ∧ ∃ q, wr = W1.drewN q)
  case atStart => exact ⟨0, -1, rfl, Nat.zero_le _, by omega, rfl, by omega, rfl, 0, rfl⟩
  case round =>
    obtain ⟨i, p, rfl, hik, hg1, HPV, hp1, HO, q, rfl⟩ := hrel
    by_cases hlt : i < k
    · have hltz : (i : Int) < (k : Int) := by omega
      have HPC : Hid (0 < i → ∃ g o, sao = some ⟨g, o, none⟩ ∧ W1.cell? ⟨g, o + (i - 1), none⟩ = some (.int .i64 p)) := fun h0 => by
        obtain ⟨g, o, e, c⟩ := HSC.out (i - 1) (by omega)
        exact ⟨g, o, e, by rw [HPV.out, if_neg (by omega)]; exact c⟩
      obtain ⟨g2, o2, rfl, c2⟩ := HSC.out i hlt
      obtain ⟨g3, o3, rfl, c3⟩ := HZC.out i hlt
      have HO2 : Hid (okS (-1) xs zs = (decide (p < xs.getD i 0) && decide (1 ≤ zs.getD i 0) && okS (xs.getD i 0) (xs.drop (i + 1)) (zs.drop (i + 1)))) := by
        show _ = _
        rw [HO.out]
        have h1 : i < xs.length := by rw [HN.out]; exact hlt
        have h2 : i < zs.length := by rw [HK.out]; exact hlt
        exact okS_step (by simp [List.getD_eq_getElem?_getD, h1]) (by simp [List.getD_eq_getElem?_getD, h2])
      have HNX : Hid (xs.getD i 0 = if i + 1 = 0 then -1 else xs.getD (i + 1 - 1) 0) := by show _ = _; rw [if_neg (by omega)]; rfl
      clear HO
      obtain ⟨x, hx0⟩ : ∃ x, x = xs.getD i 0 := ⟨_, rfl⟩
      rw [← hx0] at c2 HO2 HNX
      clear hx0
      generalize zs.getD i 0 = y at *
      have HP0 : Hid (i = 0 → p = -1) := fun h => by rw [HPV.out, if_pos h]
      clear HPV
      by_cases hx : x ≤ p
      · have HR2 : Hid (r = 60) := by
          show r = 60
          rw [HR.out]; unfold chkE; rw [if_neg (by rw [HL.out]; simp), if_pos (by rw [HO2.out, decide_eq_false (show ¬ p < x by omega)]; rfl)]
        clear HO2 HR HNX
        by_cases hxn : x < 0
        · have hxb : decide (x < 0) = true := decide_eq_true hxn
          clear HPC HP0 hx
          go_upto_region 6 with fail
          go_quiet (fail)
          go_wp2
          go_ret
          exact ⟨by rw [HR2.out]; rfl, by first | exact below_drewN HB.out _ | exact below_drewN (below_drewN HB.out _) _⟩
        · have hi0 : 0 < i := by
            rcases Nat.eq_zero_or_pos i with h | h
            · have := HP0.out h; omega
            · exact h
          obtain ⟨g4, o4, e4, c4⟩ := HPC.out hi0
          simp only [Option.some.injEq, Addr.mk.injEq, and_true] at e4
          obtain ⟨rfl, rfl⟩ := e4
          obtain ⟨j, rfl⟩ : ∃ j, i = j + 1 := ⟨i - 1, by omega⟩
          rw [Nat.add_sub_cancel] at c4
          have hxb : decide (x < 0) = false := decide_eq_false hxn
          have hjb : decide ((0 : Int) < ((j + 1 : Nat) : Int)) = true := decide_eq_true (by omega)
          have hjs : ((j + 1 : Nat) : Int) - 1 = (j : Int) := by omega
          have hwj : IntKind.i64.wrap (j : Int) = (j : Int) := by rw [IntKind.wrap_i64]; omega
          have hpb : decide (x ≤ p) = true := decide_eq_true hx
          have hjz : (j : Int) < (k : Int) := by omega
          clear HPC HP0 hx hi0
          go_upto_region 6 with fail
          go_quiet (fail)
          go_wp2
          go_ret
          exact ⟨by rw [HR2.out]; rfl, by first | exact below_drewN HB.out _ | exact below_drewN (below_drewN HB.out _) _⟩
      · have hxn : ¬ x < 0 := by omega
        have hxb : decide (x < 0) = false := decide_eq_false hxn
        have hpb : decide (x ≤ p) = false := decide_eq_false hx
        by_cases hy : y < 1
        · have HR2 : Hid (r = 60) := by
            show r = 60
            rw [HR.out]; unfold chkE; rw [if_neg (by rw [HL.out]; simp), if_pos (by rw [HO2.out, decide_eq_false (show ¬ 1 ≤ y by omega)]; simp)]
          clear HO2 HR HNX
          have hyb : decide (y < 1) = true := decide_eq_true hy
          rcases Nat.eq_zero_or_pos i with hi0 | hi0
          · have hib : decide (0 < i) = false := decide_eq_false (by omega)
            clear HPC HP0 hx hi0
            go_upto_region 6 with fail
            go_quiet (fail)
            go_wp2
            go_ret
            exact ⟨by rw [HR2.out]; rfl, by first | exact below_drewN HB.out _ | exact below_drewN (below_drewN HB.out _) _⟩
          · obtain ⟨g4, o4, e4, c4⟩ := HPC.out hi0
            simp only [Option.some.injEq, Addr.mk.injEq, and_true] at e4
            obtain ⟨rfl, rfl⟩ := e4
            obtain ⟨j, rfl⟩ : ∃ j, i = j + 1 := ⟨i - 1, by omega⟩
            rw [Nat.add_sub_cancel] at c4
            have hjb : decide ((0 : Int) < ((j + 1 : Nat) : Int)) = true := decide_eq_true (by omega)
            have hjs : ((j + 1 : Nat) : Int) - 1 = (j : Int) := by omega
            have hwj : IntKind.i64.wrap (j : Int) = (j : Int) := by rw [IntKind.wrap_i64]; omega
            have hjz : (j : Int) < (k : Int) := by omega
            clear HPC HP0 hx hi0
            go_upto_region 6 with fail
            go_quiet (fail)
            go_wp2
            go_ret
            exact ⟨by rw [HR2.out]; rfl, by first | exact below_drewN HB.out _ | exact below_drewN (below_drewN HB.out _) _⟩
        · have hyb : decide (y < 1) = false := decide_eq_false hy
          have hx1 : -1 ≤ x := by omega
          have HO3 : Hid (okS (-1) xs zs = okS x (xs.drop (i + 1)) (zs.drop (i + 1))) := by
            show _ = _
            rw [HO2.out, decide_eq_true (show p < x by omega), decide_eq_true (show 1 ≤ y by omega)]; rfl
          clear HO2
          rcases Nat.eq_zero_or_pos i with hi0 | hi0
          · have hib : decide (0 < i) = false := decide_eq_false (by omega)
            clear HPC HP0 hx hi0
            go_upto_region 6 with fail
            go_quiet (fail)
            go_wp2
            go_roundg (k - (i + 1))
            case measure => omega
            case rel => exact ⟨i + 1, x, by go_num, by omega, Nat.le_refl _, HNX, hx1, HO3, _, rfl⟩
          · obtain ⟨g4, o4, e4, c4⟩ := HPC.out hi0
            simp only [Option.some.injEq, Addr.mk.injEq, and_true] at e4
            obtain ⟨rfl, rfl⟩ := e4
            obtain ⟨j, rfl⟩ : ∃ j, i = j + 1 := ⟨i - 1, by omega⟩
            rw [Nat.add_sub_cancel] at c4
            have hjb : decide ((0 : Int) < ((j + 1 : Nat) : Int)) = true := decide_eq_true (by omega)
            have hjs : ((j + 1 : Nat) : Int) - 1 = (j : Int) := by omega
            have hwj : IntKind.i64.wrap (j : Int) = (j : Int) := by rw [IntKind.wrap_i64]; omega
            have hjz : (j : Int) < (k : Int) := by omega
            clear HPC HP0 hx hi0
            go_upto_region 6 with fail
            go_quiet (fail)
            go_wp2
            go_roundg (k - (j + 1 + 1))
            case measure => omega
            case rel => exact ⟨j + 1 + 1, x, by go_num, by omega, Nat.le_refl _, HNX, hx1, HO3, _, rfl⟩
    · have hltz : ¬ (i : Int) < (k : Int) := by omega
      have HOK : Hid (okS (-1) xs zs = true) := by show _ = true; rw [HO.out]; exact okS_end (by rw [HN.out]; omega)
      clear HO HSC HZC HPV hp1
      have hbd := cnt_bd zs
      by_cases hE : cntE zs = 0
      · by_cases hc : cntN zs = (m : Int)
        · have HR2 : Hid (r = 0) := by
            show r = 0
            rw [HR.out]; unfold chkE; rw [if_neg (by rw [HL.out]; simp), if_neg (by rw [HOK.out]; simp), if_neg (by simpa using hE), if_neg (by simpa using hc)]
          have C := refCount _ zs (W1.drewN q) (HZ.out.drewN q)
          rw [hE, hc] at C
          have HC : Hid _ := C
          clear HR hE hc C hbd hltz
          have hne : ((m : Int) != (m : Int)) = false := by simp
          go_wp2_with (go_at_call 16; refine Calls.mono HC.out ?_; rintro e w' ⟨rfl, q2, rfl⟩; have cq9 := cell_drewF (cell_drewF cq2 q) q2)
          go_ret
          exact ⟨by rw [HR2.out]; rfl, by first | exact below_drewN HB.out _ | exact below_drewN (below_drewN HB.out _) _⟩
        · have HR2 : Hid (r = 60) := by
            show r = 60
            rw [HR.out]; unfold chkE; rw [if_neg (by rw [HL.out]; simp), if_neg (by rw [HOK.out]; simp), if_neg (by simpa using hE), if_pos hc]
          have C := refCount _ zs (W1.drewN q) (HZ.out.drewN q)
          rw [hE] at C
          obtain ⟨u, hu⟩ : ∃ u, u = cntN zs := ⟨_, rfl⟩
          rw [← hu] at C hc hbd
          have HC : Hid _ := C
          clear HR hE C hu hltz
          have hne : (u != (m : Int)) = true := by simpa using hc
          clear hc
          go_wp2_with (go_at_call 16; refine Calls.mono HC.out ?_; rintro e w' ⟨rfl, q2, rfl⟩; have cq9 := cell_drewF (cell_drewF cq2 q) q2)
          go_ret
          exact ⟨by rw [HR2.out]; rfl, by first | exact below_drewN HB.out _ | exact below_drewN (below_drewN HB.out _) _⟩
      · have HR2 : Hid (r = cntE zs) := by
          show r = cntE zs
          rw [HR.out]; unfold chkE; rw [if_neg (by rw [HL.out]; simp), if_neg (by rw [HOK.out]; simp), if_pos (by simpa using hE)]
        have C := refCount _ zs (W1.drewN q) (HZ.out.drewN q)
        obtain ⟨u, hu⟩ : ∃ u, u = cntE zs := ⟨_, rfl⟩
        rw [← hu] at C hE HR2
        have HC : Hid _ := C
        have hne : (u != 0) = true := by simpa using hE
        clear HR hE C hu hltz
        go_wp2_with (go_at_call 16; refine Calls.mono HC.out ?_; rintro e w' ⟨rfl, q2, rfl⟩)
        go_ret
        exact ⟨by rw [HR2.out]; rfl, by first | exact below_drewN HB.out _ | exact below_drewN (below_drewN HB.out _) _⟩
end Go.Proofs.Ytphbbkckigdgoaa

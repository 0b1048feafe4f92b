/-
  Proved here: layer 11's law.go: ints; alive.
-/
import Derived.Test.YtphmamdmkhaemaaSetFI
namespace Go.Proofs.Ytphmamdmkhaemaa
open Go.Shelf Go.RowKit Go.Lib Go.Sort

set_option maxHeartbeats 4000000 in
set_option maxRecDepth 1000000 in
theorem ints_any (v1 v2 : Value) (L M : List Int) (w : World) (h1 : RG (Value.int .i64) w v1 L) (h2 : RG (Value.int .i64) w v2 M) :
    Calls Try.prog 13 #[v1, v2] w fun e w' => e = .returned (.bool (decide (L = M))) ∧ ∃ q, w' = w.drewN q := by
  obtain ⟨ao, cap, rfl, hc, hm, -, hcell⟩ := h1
  obtain ⟨bo, cap2, rfl, hc2, hm2, -, hcell2⟩ := h2
  unfold maxLen at hm hm2
  obtain ⟨n, hn⟩ : ∃ n, L.length = n := ⟨_, rfl⟩
  obtain ⟨m, hmm⟩ : ∃ n, M.length = n := ⟨_, rfl⟩
  rw [hn] at hc ⊢
  rw [hmm] at hc2 ⊢
  have HN : Hid (L.length = n) := hn
  have HNM : Hid (M.length = m) := hmm
  have HC : Hid (∀ i x, L[i]? = some x → ∃ g o, ao = some ⟨g, o, none⟩ ∧ w.cell? ⟨g, o + i, none⟩ = some (Value.int .i64 x)) := hcell
  have HC2 : Hid (∀ i x, M[i]? = some x → ∃ g o, bo = some ⟨g, o, none⟩ ∧ w.cell? ⟨g, o + i, none⟩ = some (Value.int .i64 x)) := hcell2
  have mixed : Try.prog.follows .mixedOrders = true := by kernel_rfl
  clear hn hmm hcell hcell2
  obtain ⟨bb, hbb⟩ : ∃ b, b = decide (L = M) := ⟨_, rfl⟩
  rw [← hbb]
  have HB : Hid (bb = decide (L.drop 0 = M.drop 0)) := hbb
  clear hbb
  by_cases hnm : n = m
  · subst hnm
    go_enter Try.func13, Try.ntmps13
    go_wp2
    go_loopg [5] n (fun g1 v wr => ∃ i : Nat, v = .int .i64 i ∧ i ≤ n ∧ n - i ≤ g1 ∧ Hid (bb = decide (L.drop i = M.drop i)) ∧ ∃ q, wr = w.drewN q)
    case atStart => exact ⟨0, rfl, Nat.zero_le _, by omega, HB, 0, rfl⟩
    case round =>
      clear HB
      obtain ⟨i, rfl, hin, hg1, HB, q, rfl⟩ := hrel
      by_cases hlt : i < n
      · have hltz : (i : Int) < (n : Int) := by omega
        obtain ⟨x, hx⟩ : ∃ x, L[i]? = some x := ⟨_, List.getElem?_eq_getElem (by rw [HN.out]; exact hlt)⟩
        obtain ⟨y, hy⟩ : ∃ x, M[i]? = some x := ⟨_, List.getElem?_eq_getElem (by rw [HNM.out]; exact hlt)⟩
        obtain ⟨g, o, rfl, hc0⟩ := HC.out i x hx
        obtain ⟨g', o', rfl, hc0'⟩ := HC2.out i y hy
        have HB2 : Hid (bb = decide (x :: L.drop (i + 1) = y :: M.drop (i + 1))) := by have := HB.out; rw [drop_cons hx, drop_cons hy] at this; exact this
        clear hx hy HB
        have c1 : (w.drewN q).cell? ⟨g, o + i, none⟩ = some (Value.int .i64 x) := by rw [World.cell?_of_block (by rw [heap_drewG])]; exact hc0
        have c2 : (w.drewN q).cell? ⟨g', o' + i, none⟩ = some (Value.int .i64 y) := by rw [World.cell?_of_block (by rw [heap_drewG])]; exact hc0'
        by_cases hxy : x = y
        · subst hxy
          have HB3 : Hid (bb = decide (L.drop (i + 1) = M.drop (i + 1))) := by have := HB2.out; simpa [Hid] using this
          clear HB2
          go_wp2_with fail
          go_big_region_o
          go_wp2
          go_roundg (n - (i + 1))
          case measure => omega
          case rel => exact ⟨i + 1, by go_num, by omega, Nat.le_refl _, HB3, _, rfl⟩
        · have HB3 : Hid (bb = false) := by have := HB2.out; rw [this]; simp [Hid, hxy]
          have hne : (x != y) = true := by simpa using hxy
          clear HB2
          go_wp2_with fail
          go_big_region_o
          go_wp2
          go_ret
          exact ⟨by rw [HB3.out]; rfl, _, rfl⟩
      · have hltz : ¬ (i : Int) < (n : Int) := by omega
        have HB3 : Hid (bb = true) := by have := HB.out; rw [List.drop_of_length_le (by rw [HN.out]; omega), List.drop_of_length_le (by rw [HNM.out]; omega)] at this; exact this
        clear HB
        go_wp2
        go_ret
        exact ⟨by rw [HB3.out]; rfl, _, rfl⟩
  · have hnz : ((n : Int) != (m : Int)) = true := by simp; omega
    have hnz2 : decide ((n : Int) = (m : Int)) = false := decide_eq_false (by omega)
    have hnz3 : ¬ (n : Int) = (m : Int) := by omega
    have HB3 : Hid (bb = false) := by
      have := HB.out
      rw [this]
      exact decide_eq_false fun h => hnm (by rw [List.drop_zero, List.drop_zero] at h; rw [← HN.out, ← HNM.out, h])
    clear HB
    go_enter Try.func13, Try.ntmps13
    go_wp2
    go_ret
    exact ⟨by rw [HB3.out]; rfl, 0, rfl⟩
theorem ints_below (v1 v2 : Value) (L M : List Int) (w : World) (h1 : RG (Value.int .i64) w v1 L) (h2 : RG (Value.int .i64) w v2 M) :
    Calls Try.prog 13 #[v1, v2] w fun e w' => e = .returned (.bool (decide (L = M))) ∧ Below w.heap.size w w' :=
  (ints_any v1 v2 L M w h1 h2).mono fun _ _ ⟨h1, q, h2⟩ => ⟨h1, by rw [h2]; exact below_drewN (Below.refl _ _) q⟩
theorem posI_eq {L : List Int} {x : Int} {k j : Nat} (h : Pos (ltOf cfI) L x k) (hj : Pos (ltOf cfI) L x j) : k = j := h.uniq hj
theorem rg_lit (w : World) (zs : List Int) (hm : zs.length ≤ 1000) : RG (Value.int .i64) (w.alloc (.cells (zs.map (Value.int .i64)).toArray 3)) (.slice (some ⟨w.heap.size, 0, none⟩) zs.length zs.length) zs := (OG.lit (enc := Value.int .i64) 3 w zs (by unfold maxLen; omega)).rg
theorem of_four : ofI [3, 1, 3, 2] = [1, 2, 3] := by decide
theorem alive_rs : Rs (ltOf cfI) [1, 2, 3] := by rw [← of_four]; exact ofI_rs _
set_option maxHeartbeats 4000000 in
set_option maxRecDepth 1000000 in
theorem alive_any (w : World) : Calls Try.prog 9 #[] w fun e w' => e = .returned (.bool true) ∧ Below w.heap.size w w' := by
  obtain ⟨g, hg⟩ : ∃ g, g = w.heap.size := ⟨_, rfl⟩
  have HG : Hid (g = w.heap.size) := hg
  obtain ⟨W1, hW1⟩ : ∃ W1, W1 = w.alloc (.cells #[.int .i64 3, .int .i64 1, .int .i64 3, .int .i64 2] 3) := ⟨_, rfl⟩
  have r1 : RG (Value.int .i64) W1 (.slice (some ⟨g, 0, none⟩) 4 4) [3, 1, 3, 2] := by rw [hW1, hg]; exact rg_lit w [3, 1, 3, 2] (by simp)
  have b1 : Below g w W1 := by rw [hW1, hg]; exact (Below.refl _ _).alloc (Nat.le_refl _) _
  have z1 : W1.heap.size = g + 1 := by rw [hW1, hg]; simp
  have HW1 : Hid (W1 = w.alloc (.cells #[.int .i64 3, .int .i64 1, .int .i64 3, .int .i64 2] 3)) := hW1
  have C1 := setOfI _ _ W1 r1 (by simp)
  rw [of_four] at C1
  clear hW1 r1 hg
  go_enter Try.func9, Try.ntmps9
  go_wp2_with fail
  rw [← HW1.out, ← HG.out]
  clear HW1
  refine C1.mono ?_
  rintro e w2 ⟨u, rfl, ho, b2⟩
  obtain ⟨uo, uc, rfl, -⟩ := ho.sl
  have ru := ho.rg
  have b2 := b1.trans (b2.mono (by omega))
  have z2 : g ≤ w2.heap.size := by have := b2.size; rw [← HG.out] at this; omega
  clear C1 ho b1 z1
  simp only [List.length_cons, List.length_nil, Nat.reduceAdd] at ru ⊢
  obtain ⟨W3, hW3⟩ : ∃ W3, W3 = w2.alloc (.cells #[.slice uo 3 uc] 24) := ⟨_, rfl⟩
  obtain ⟨s, hs⟩ : ∃ s, s = w2.heap.size := ⟨_, rfl⟩
  have sc : SCell 24 W3 s (.slice uo 3 uc) := by rw [hW3, hs]; exact SCell.new w2 rfl
  have b3 : Below g w W3 := by rw [hW3]; exact b2.alloc z2 _
  have ru3 : RG (Value.int .i64) W3 (.slice uo 3 uc) [1, 2, 3] := by
    rw [hW3]
    exact ru.alloc _
  have HW3 : Hid (W3 = w2.alloc (.cells #[.slice uo 3 uc] 24)) := hW3
  have HS : Hid (s = w2.heap.size) := hs
  have cs := sc.cell
  have z3 : g ≤ W3.heap.size := by have := b3.size; rw [← HG.out] at this; omega
  have C2 := setListI _ _ W3 ru3 (by simp)
  clear hW3 hs b2 ru
  go_upto_region 2 with fail
  rw [← HW3.out, ← HS.out]
  clear HW3 HS z2
  go_wp2_with fail
  refine C2.mono ?_
  rintro e w4 ⟨u4, rfl, ho4, b4⟩
  clear C2 cs
  obtain ⟨u4o, u4c, rfl, -⟩ := ho4.sl
  obtain ⟨W5, hW5⟩ : ∃ W5, W5 = w4.alloc (.cells #[.int .i64 1, .int .i64 2, .int .i64 3] 3) := ⟨_, rfl⟩
  obtain ⟨g5, hg5⟩ : ∃ s, s = w4.heap.size := ⟨_, rfl⟩
  have r5 : RG (Value.int .i64) W5 (.slice (some ⟨g5, 0, none⟩) 3 3) [1, 2, 3] := by rw [hW5, hg5]; exact rg_lit w4 [1, 2, 3] (by simp)
  have r5' : RG (Value.int .i64) W5 (.slice u4o 3 u4c) [1, 2, 3] := by rw [hW5]; exact ho4.rg.alloc _
  have b5 : Below W3.heap.size W3 W5 := by rw [hW5]; exact b4.alloc b4.size _
  have C3 := ints_below _ _ _ _ W5 r5' r5
  have HW5 : Hid (W5 = w4.alloc (.cells #[.int .i64 1, .int .i64 2, .int .i64 3] 3)) := hW5
  have HG5 : Hid (g5 = w4.heap.size) := hg5
  clear hW5 hg5 ho4 b4 r5 r5'
  simp only [List.length_cons, List.length_nil, Nat.reduceAdd]
  go_wp2_with fail
  rw [← HW5.out, ← HG5.out]
  clear HW5 HG5
  refine C3.mono ?_
  rintro e w6 ⟨rfl, b6⟩
  have b6 := b5.trans (b6.mono b5.size)
  have ru6 := ru3.below (Nat.le_refl _) b6
  have cs := (sc.below b6).cell
  have C4 := setHasI _ _ 3 w6 ru6 alive_rs (by simp)
  rw [show hasI [1, 2, 3] 3 = true by decide] at C4
  clear C3 b5
  go_wp2_with fail
  refine C4.mono ?_
  rintro e w7 ⟨rfl, b7⟩
  have b7 := b6.trans (b7.mono b6.size)
  have ru7 := ru3.below (Nat.le_refl _) b7
  clear cs C4 b6 ru6
  have cs := (sc.below b7).cell
  have C5 := setHasI _ _ 4 w7 ru7 alive_rs (by simp)
  rw [show hasI [1, 2, 3] 4 = false by decide] at C5
  go_wp2_with fail
  refine C5.mono ?_
  rintro e w8 ⟨rfl, b8⟩
  have b8 := b7.trans (b8.mono b7.size)
  have ru8 := ru3.below (Nat.le_refl _) b8
  clear cs C5 b7 ru7
  have cs := (sc.below b8).cell
  have C6 := setWithoutI _ _ 2 w8 ru8 alive_rs (by simp)
  go_wp2_with fail
  refine C6.mono ?_
  rintro e w9 ⟨u9, k, rfl, hP, hr9, b9⟩
  have hk : k = 1 := hP.uniq ⟨by simp, fun t y ht hy => by
    match t, ht with
    | 0, _ => cases hy; decide, fun t y ht hy => by
    match t, ht, hy with
    | 1, _, hy => cases hy; decide
    | 2, _, hy => cases hy; decide⟩
  subst hk
  rw [show (if hasI [1, 2, 3] 2 then ([1, 2, 3] : List Int).take 1 ++ [1, 2, 3].drop (1 + 1) else [1, 2, 3]) = [1, 3] by decide] at hr9
  have b9' := b8.trans (b9.mono b8.size)
  clear cs C6 b8 ru8 hP
  have C7 := setListI _ _ w9 hr9 (by simp)
  obtain ⟨u9o, u9c, rfl⟩ := hr9.sl
  go_wp2_with fail
  refine C7.mono ?_
  rintro e w10 ⟨u10, rfl, ho10, b10⟩
  have b10' := b9'.trans (b10.mono b9'.size)
  clear C7 b9 b9' hr9
  obtain ⟨u10o, u10c, rfl, -⟩ := ho10.sl
  obtain ⟨W11, hW11⟩ : ∃ W11, W11 = w10.alloc (.cells #[.int .i64 1, .int .i64 3] 3) := ⟨_, rfl⟩
  obtain ⟨g11, hg11⟩ : ∃ s, s = w10.heap.size := ⟨_, rfl⟩
  have r11 : RG (Value.int .i64) W11 (.slice (some ⟨g11, 0, none⟩) 2 2) [1, 3] := by rw [hW11, hg11]; exact rg_lit w10 [1, 3] (by simp)
  have r11' : RG (Value.int .i64) W11 (.slice u10o 2 u10c) [1, 3] := by rw [hW11]; exact ho10.rg.alloc _
  have b11 : Below W3.heap.size W3 W11 := by rw [hW11]; exact b10'.alloc b10'.size _
  have C8 := ints_below _ _ _ _ W11 r11' r11
  have HW11 : Hid (W11 = w10.alloc (.cells #[.int .i64 1, .int .i64 3] 3)) := hW11
  have HG11 : Hid (g11 = w10.heap.size) := hg11
  clear hW11 hg11 ho10 b10 b10' r11 r11'
  simp only [List.length_cons, List.length_nil, Nat.reduceAdd]
  go_wp2_with fail
  rw [← HW11.out, ← HG11.out]
  clear HW11 HG11
  refine C8.mono ?_
  rintro e w12 ⟨rfl, b12⟩
  have b12 := b11.trans (b12.mono b11.size)
  have HE : Hid (Below w.heap.size w w12) := by have := b3.trans (b12.mono z3); rwa [HG.out] at this
  clear C8 b11 b12 b3 sc ru3
  go_wp2
  go_ret
  exact ⟨by first | rfl | simp, HE.out⟩
end Go.Proofs.Ytphmamdmkhaemaa

/-
  Proved here: package set at int: kept, Meet, Minus.
-/
import Derived.Test.YtcoiapgfaibkgaaGreatSetEIAll
import Derived.Test.YtcoiapgfaibkgaaGreatSetJnAll
import Derived.Deep.CutRange
namespace Go.Proofs.YtcoiapgfaibkgaaGreat
open Go.Shelf Go.RowKit Go.Lib Go.Sort
/-- what a maker leaves -/
def MkEI (w : World) (M : List Int) (e : Ending) (w' : World) : Prop := ∃ u, e = .returned (.agg #[u]) ∧ OG (Value.int .i64) w.heap.size 3 w' u M ∧ Below w.heap.size w w'
set_option maxHeartbeats 4000000 in
set_option maxRecDepth 1000000 in
theorem minus1I (ob : Nat) (u : Value) (M : List Int) (x : Int) (w : World) (hs : SCell 55 w ob u) (hu : RG (Value.int .i64) w u M) (hR : Rs (ltOf cfI) M) (hz : M.length ≤ 1048576) :
    Calls Tryz.prog 92 #[(Value.int .i64) x, .pointer (some ⟨ob, 0, none⟩)] w fun e w' => e = .returned (.bool (!hasI M x)) ∧ Below w.heap.size w w' := by
  have C := setHasI u M x w hu hR hz
  have c0 := hs.cell
  obtain ⟨uo, uc, rfl⟩ := hu.sl
  generalize hasI M x = b at *
  clear hs hu
  go_enter Tryz.func92, Tryz.ntmps92
  go_wp2_with (go_at_call 42; refine C.mono ?_; rintro e w' ⟨rfl, h2⟩)
  go_ret
  exact ⟨rfl, h2⟩
set_option maxHeartbeats 4000000 in
set_option maxRecDepth 1000000 in
theorem keptMI (u : Value) (v : Value) (L : List Int) (p : Int → Bool) (w : World) (hv : RG (Value.int .i64) w v L) (hz : L.length ≤ 1048576)
    (hp : ∀ W x, Below w.heap.size w W → Calls Tryz.prog 42 #[.agg #[u], (Value.int .i64) x] W fun e w' => e = .returned (.bool (p x)) ∧ Below W.heap.size W w') :
    Calls Tryz.prog 61 #[.agg #[v], .func (.func 42) #[.agg #[u]] #[]] w fun e w' => MkEI w (L.filter p) e w' := by
  obtain ⟨W1, hW1⟩ : ∃ W1, W1 = (w.alloc (.cells #[v] 55)).alloc (.cells #[.slice none 0 0] 55) := ⟨_, rfl⟩
  have s0 : SCell 55 W1 w.heap.size v := by rw [hW1]; exact (SCell.new w rfl).step _
  have s1 : SCell 55 W1 (w.heap.size + 1) (.slice none 0 0) := by rw [hW1]; exact SCell.new _ (by simp)
  have b0 : Below w.heap.size w W1 := by rw [hW1]; exact ((Below.refl _ _).alloc (Nat.le_refl _) _).alloc (by simp) _
  have z0 : W1.heap.size = w.heap.size + 2 := by rw [hW1]; simp
  have hv1 := hv.below (Nat.le_refl _) b0
  have HP : Hid (∀ W x, Below W1.heap.size W1 W → Calls Tryz.prog 42 #[.agg #[u], (Value.int .i64) x] W fun e w' => e = .returned (.bool (p x)) ∧ Below W.heap.size W w') := fun W x h => hp W x (b0.trans (h.mono b0.size))
  obtain ⟨i0, hi, hz0, hz1, hz2⟩ := info_parts infoI
  have HW1 : Hid (W1 = (w.alloc (.cells #[v] 55)).alloc (.cells #[.slice none 0 0] 55)) := hW1
  obtain ⟨g, hg⟩ : ∃ g, g = w.heap.size := ⟨_, rfl⟩
  rw [← hg] at s0 s1 b0 z0
  have HG : Hid (g = w.heap.size) := hg
  have S1 : Hid (SCell 55 W1 (g + 1) (.slice none 0 0)) := s1
  have HB : Hid (Below g w W1) := b0
  have HZ : Hid (W1.heap.size = g + 2) := z0
  obtain ⟨ao, cap, rfl, hc, hm, -, -⟩ := id hv1
  unfold maxLen at hm
  obtain ⟨n, hn⟩ : ∃ n, L.length = n := ⟨_, rfl⟩
  rw [hn] at hc s0 HW1 hv1 hz
  have hnv : (Value.slice ao L.length cap) = .slice ao n cap := by rw [hn]
  rw [hnv]
  have HN : Hid (L.length = n) := hn
  have HC : Hid (∀ W, Below W1.heap.size W1 W → ∀ i, i < n → ∃ x gg o, L[i]? = some x ∧ ao = some ⟨gg, o, none⟩ ∧ W.cell? ⟨gg, o + i, none⟩ = some ((Value.int .i64) x)) := fun W h i hi => (hv1.below (Nat.le_refl _) h).at hi
  have hent : ∀ args w, (callFunc 42 args).run Tryz.prog w = .ok (.enter 42 args) w := enters_of Tryz.func42 (by kernel_rfl) rfl
  have c0 := s0.cell
  clear hW1 hv hn hnv s0 s1 b0 hp z0 hv1
  go_enter Tryz.func61, Tryz.ntmps61
  go_upto_region 1 with fail
  rw [← HW1.out, ← HG.out]
  clear HW1 hg
  go_wp2
  clear c0
  go_loopg [5, 7, 11] n (fun g1 v5 _v7 v11 wr => ∃ (i : Nat) (vt : Value), vt = v5 ∧ v11 = .int .i64 i ∧ i ≤ n ∧ n - i ≤ g1 ∧ Hid (OG (Value.int .i64) W1.heap.size 3 wr vt ((L.take i).filter p)) ∧ Hid (Below W1.heap.size W1 wr))
  case atStart => exact ⟨0, _, rfl, rfl, Nat.zero_le _, by omega, OG.nil _ _ _, Below.refl _ _⟩
  case round =>
    obtain ⟨i, vt, rfl, rfl, hin, hg1, HO, HBW⟩ := hrel
    by_cases hlt : i < n
    · have hltz : (i : Int) < (n : Int) := by omega
      obtain ⟨x, gg, o, hx, e1, hc0⟩ := HC.out _ HBW.out i hlt
      subst e1
      have C := HP.out wr x HBW.out
      have hfs := filter_snoc p hx
      have HLN : Hid (((L.take i).filter p).length ≤ 1048576) := Nat.le_trans (List.length_filter_le _ _) (by rw [List.length_take]; omega)
      clear hx
      cases hb : p x with
      | true =>
        rw [hb] at C
        have HFS : Hid ((L.take (i + 1)).filter p = (L.take i).filter p ++ [x]) := by rw [hb] at hfs; exact hfs
        clear hfs hb
        go_wp2_with fail
        refine C.mono ?_
        rintro e w2 ⟨rfl, h2⟩
        clear C hc0
        have O2 := HO.out.below h2
        have B2 := HBW.out.trans (h2.mono HBW.out.size)
        have O3 : Hid (OG (Value.int .i64) W1.heap.size 3 (w2.alloc (.cells #[(Value.int .i64) x] 3)) vt ((L.take i).filter p)) := O2.below ((Below.refl _ _).alloc (Nat.le_refl _) _)
        have R3 : Hid (RG (Value.int .i64) (w2.alloc (.cells #[(Value.int .i64) x] 3)) (.slice (some ⟨w2.heap.size, 0, none⟩) 1 1) [x]) := (OG.lit (enc := (Value.int .i64)) 3 w2 [x] (by unfold maxLen; simp)).rg
        have Z3 : Hid (W1.heap.size ≤ (w2.alloc (.cells #[(Value.int .i64) x] 3)).heap.size) := Nat.le_trans B2.size (by simp)
        have B3 : Hid (Below W1.heap.size W1 (w2.alloc (.cells #[(Value.int .i64) x] 3))) := B2.alloc B2.size _
        clear HO HBW O2 B2 h2
        go_wp2_with (at_builtin; refine wpList_appG _ oneI rfl _ _ 23 rfl W1.heap.size 3 i0 (.int .i64 0) 8 Tryz.underlying23 hi hz0 hz1 hz2 rfl _ _ ((L.take i).filter p) [x] rfl O3.out rfl R3.out (by have := HLN.out; unfold maxLen; simp only [List.length_cons, List.length_nil]; omega) (by have := HLN.out; simp only [List.length_cons, List.length_nil]; omega) Z3.out ?_)
        intro v1 w3 ho1 hg3
        have O4 : Hid (OG (Value.int .i64) W1.heap.size 3 w3 v1 ((L.take (i + 1)).filter p)) := by rw [HFS.out]; exact ho1
        have B4 : Hid (Below W1.heap.size W1 w3) := O3.out.grown B3.out Z3.out hg3
        clear ho1 hg3
        go_wp2
        go_roundg (n - (i + 1))
        case measure => omega
        case rel => exact ⟨i + 1, _, rfl, by go_num, by omega, Nat.le_refl _, O4, B4⟩
      | false =>
        rw [hb] at C
        have HFS : Hid ((L.take (i + 1)).filter p = (L.take i).filter p) := by rw [hb] at hfs; simpa [Hid] using hfs
        clear hfs hb
        go_wp2_with fail
        refine C.mono ?_
        rintro e w2 ⟨rfl, h2⟩
        clear C hc0
        have O2 : Hid (OG (Value.int .i64) W1.heap.size 3 w2 vt ((L.take (i + 1)).filter p)) := by rw [HFS.out]; exact HO.out.below h2
        have B2 : Hid (Below W1.heap.size W1 w2) := HBW.out.trans (h2.mono HBW.out.size)
        clear HO HBW h2
        go_wp2
        go_roundg (n - (i + 1))
        case measure => omega
        case rel => exact ⟨i + 1, _, rfl, by go_num, by omega, Nat.le_refl _, O2, B2⟩
    · have hltz : ¬ (i : Int) < (n : Int) := by omega
      have hin2 : i = n := by omega
      subst hin2
      have ho := HO.out
      rw [List.take_of_length_le (by rw [HN.out]; exact Nat.le_refl _)] at ho
      obtain ⟨uo, uc, hu, -⟩ := ho.sl
      obtain ⟨ul, hul⟩ : ∃ l, l = (L.filter p).length := ⟨_, rfl⟩
      rw [← hul] at hu
      subst hu
      have s6 := S1.out.below HBW.out
      have c6 := s6.cell
      have f6 := s6.thaw
      have HW : Hid (SCell 55 (wr.setCell ⟨g + 1, 0, none⟩ (.slice uo ul uc)) (g + 1) (.slice uo ul uc)) := s6.write _
      have HBE : Hid (Below g w (wr.setCell ⟨g + 1, 0, none⟩ (.slice uo ul uc))) := (HB.out.trans (HBW.out.mono (by rw [HZ.out]; omega))).setCell (p := ⟨g + 1, 0, none⟩) (Nat.le_succ _) _
      have HR : Hid (OG (Value.int .i64) g 3 (wr.setCell ⟨g + 1, 0, none⟩ (.slice uo ul uc)) (.slice uo ul uc) (L.filter p)) := OG.of_blocks (ho.mono (by rw [HZ.out]; omega)) fun j hj => Below.heap_setCell _ _ _ _ (by have h1 := (ho.lt j hj).1; rw [HZ.out] at h1; show j ≠ g + 1; omega)
      clear s6 ho hul HO HBW hltz
      go_wp2_with fail
      (try simp only [Exit.inBlock, Exit.then])
      exact bodyPost_ret (results_cell_row rfl _ _ (g + 1) 55 _ (0, 0) _ rfl HW.out Tryz.underlying55 rfl (by kernel_rfl)) rfl ⟨_, rfl, by rw [← HG.out]; exact HR.out, by rw [← HG.out]; exact HBE.out⟩
set_option maxHeartbeats 4000000 in
set_option maxRecDepth 1000000 in
theorem keptNI (ob : Nat) (v : Value) (L : List Int) (p : Int → Bool) (w : World) (hv : RG (Value.int .i64) w v L) (hz : L.length ≤ 1048576)
    (hp : ∀ W x, Below w.heap.size w W → Calls Tryz.prog 92 #[(Value.int .i64) x, .pointer (some ⟨ob, 0, none⟩)] W fun e w' => e = .returned (.bool (p x)) ∧ Below W.heap.size W w') :
    Calls Tryz.prog 61 #[.agg #[v], .func (.func 92) #[] #[.pointer (some ⟨ob, 0, none⟩)]] w fun e w' => MkEI w (L.filter p) e w' := by
  obtain ⟨W1, hW1⟩ : ∃ W1, W1 = (w.alloc (.cells #[v] 55)).alloc (.cells #[.slice none 0 0] 55) := ⟨_, rfl⟩
  have s0 : SCell 55 W1 w.heap.size v := by rw [hW1]; exact (SCell.new w rfl).step _
  have s1 : SCell 55 W1 (w.heap.size + 1) (.slice none 0 0) := by rw [hW1]; exact SCell.new _ (by simp)
  have b0 : Below w.heap.size w W1 := by rw [hW1]; exact ((Below.refl _ _).alloc (Nat.le_refl _) _).alloc (by simp) _
  have z0 : W1.heap.size = w.heap.size + 2 := by rw [hW1]; simp
  have hv1 := hv.below (Nat.le_refl _) b0
  have HP : Hid (∀ W x, Below W1.heap.size W1 W → Calls Tryz.prog 92 #[(Value.int .i64) x, .pointer (some ⟨ob, 0, none⟩)] W fun e w' => e = .returned (.bool (p x)) ∧ Below W.heap.size W w') := fun W x h => hp W x (b0.trans (h.mono b0.size))
  obtain ⟨i0, hi, hz0, hz1, hz2⟩ := info_parts infoI
  have HW1 : Hid (W1 = (w.alloc (.cells #[v] 55)).alloc (.cells #[.slice none 0 0] 55)) := hW1
  obtain ⟨g, hg⟩ : ∃ g, g = w.heap.size := ⟨_, rfl⟩
  rw [← hg] at s0 s1 b0 z0
  have HG : Hid (g = w.heap.size) := hg
  have S1 : Hid (SCell 55 W1 (g + 1) (.slice none 0 0)) := s1
  have HB : Hid (Below g w W1) := b0
  have HZ : Hid (W1.heap.size = g + 2) := z0
  obtain ⟨ao, cap, rfl, hc, hm, -, -⟩ := id hv1
  unfold maxLen at hm
  obtain ⟨n, hn⟩ : ∃ n, L.length = n := ⟨_, rfl⟩
  rw [hn] at hc s0 HW1 hv1 hz
  have hnv : (Value.slice ao L.length cap) = .slice ao n cap := by rw [hn]
  rw [hnv]
  have HN : Hid (L.length = n) := hn
  have HC : Hid (∀ W, Below W1.heap.size W1 W → ∀ i, i < n → ∃ x gg o, L[i]? = some x ∧ ao = some ⟨gg, o, none⟩ ∧ W.cell? ⟨gg, o + i, none⟩ = some ((Value.int .i64) x)) := fun W h i hi => (hv1.below (Nat.le_refl _) h).at hi
  have hent : ∀ args w, (callFunc 92 args).run Tryz.prog w = .ok (.enter 92 args) w := enters_of Tryz.func92 (by kernel_rfl) rfl
  have c0 := s0.cell
  clear hW1 hv hn hnv s0 s1 b0 hp z0 hv1
  go_enter Tryz.func61, Tryz.ntmps61
  go_upto_region 1 with fail
  rw [← HW1.out, ← HG.out]
  clear HW1 hg
  go_wp2
  clear c0
  go_loopg [5, 7, 11] n (fun g1 v5 _v7 v11 wr => ∃ (i : Nat) (vt : Value), vt = v5 ∧ v11 = .int .i64 i ∧ i ≤ n ∧ n - i ≤ g1 ∧ Hid (OG (Value.int .i64) W1.heap.size 3 wr vt ((L.take i).filter p)) ∧ Hid (Below W1.heap.size W1 wr))
  case atStart => exact ⟨0, _, rfl, rfl, Nat.zero_le _, by omega, OG.nil _ _ _, Below.refl _ _⟩
  case round =>
    obtain ⟨i, vt, rfl, rfl, hin, hg1, HO, HBW⟩ := hrel
    by_cases hlt : i < n
    · have hltz : (i : Int) < (n : Int) := by omega
      obtain ⟨x, gg, o, hx, e1, hc0⟩ := HC.out _ HBW.out i hlt
      subst e1
      have C := HP.out wr x HBW.out
      have hfs := filter_snoc p hx
      have HLN : Hid (((L.take i).filter p).length ≤ 1048576) := Nat.le_trans (List.length_filter_le _ _) (by rw [List.length_take]; omega)
      clear hx
      cases hb : p x with
      | true =>
        rw [hb] at C
        have HFS : Hid ((L.take (i + 1)).filter p = (L.take i).filter p ++ [x]) := by rw [hb] at hfs; exact hfs
        clear hfs hb
        go_wp2_with fail
        refine C.mono ?_
        rintro e w2 ⟨rfl, h2⟩
        clear C hc0
        have O2 := HO.out.below h2
        have B2 := HBW.out.trans (h2.mono HBW.out.size)
        have O3 : Hid (OG (Value.int .i64) W1.heap.size 3 (w2.alloc (.cells #[(Value.int .i64) x] 3)) vt ((L.take i).filter p)) := O2.below ((Below.refl _ _).alloc (Nat.le_refl _) _)
        have R3 : Hid (RG (Value.int .i64) (w2.alloc (.cells #[(Value.int .i64) x] 3)) (.slice (some ⟨w2.heap.size, 0, none⟩) 1 1) [x]) := (OG.lit (enc := (Value.int .i64)) 3 w2 [x] (by unfold maxLen; simp)).rg
        have Z3 : Hid (W1.heap.size ≤ (w2.alloc (.cells #[(Value.int .i64) x] 3)).heap.size) := Nat.le_trans B2.size (by simp)
        have B3 : Hid (Below W1.heap.size W1 (w2.alloc (.cells #[(Value.int .i64) x] 3))) := B2.alloc B2.size _
        clear HO HBW O2 B2 h2
        go_wp2_with (at_builtin; refine wpList_appG _ oneI rfl _ _ 23 rfl W1.heap.size 3 i0 (.int .i64 0) 8 Tryz.underlying23 hi hz0 hz1 hz2 rfl _ _ ((L.take i).filter p) [x] rfl O3.out rfl R3.out (by have := HLN.out; unfold maxLen; simp only [List.length_cons, List.length_nil]; omega) (by have := HLN.out; simp only [List.length_cons, List.length_nil]; omega) Z3.out ?_)
        intro v1 w3 ho1 hg3
        have O4 : Hid (OG (Value.int .i64) W1.heap.size 3 w3 v1 ((L.take (i + 1)).filter p)) := by rw [HFS.out]; exact ho1
        have B4 : Hid (Below W1.heap.size W1 w3) := O3.out.grown B3.out Z3.out hg3
        clear ho1 hg3
        go_wp2
        go_roundg (n - (i + 1))
        case measure => omega
        case rel => exact ⟨i + 1, _, rfl, by go_num, by omega, Nat.le_refl _, O4, B4⟩
      | false =>
        rw [hb] at C
        have HFS : Hid ((L.take (i + 1)).filter p = (L.take i).filter p) := by rw [hb] at hfs; simpa [Hid] using hfs
        clear hfs hb
        go_wp2_with fail
        refine C.mono ?_
        rintro e w2 ⟨rfl, h2⟩
        clear C hc0
        have O2 : Hid (OG (Value.int .i64) W1.heap.size 3 w2 vt ((L.take (i + 1)).filter p)) := by rw [HFS.out]; exact HO.out.below h2
        have B2 : Hid (Below W1.heap.size W1 w2) := HBW.out.trans (h2.mono HBW.out.size)
        clear HO HBW h2
        go_wp2
        go_roundg (n - (i + 1))
        case measure => omega
        case rel => exact ⟨i + 1, _, rfl, by go_num, by omega, Nat.le_refl _, O2, B2⟩
    · have hltz : ¬ (i : Int) < (n : Int) := by omega
      have hin2 : i = n := by omega
      subst hin2
      have ho := HO.out
      rw [List.take_of_length_le (by rw [HN.out]; exact Nat.le_refl _)] at ho
      obtain ⟨uo, uc, hu, -⟩ := ho.sl
      obtain ⟨ul, hul⟩ : ∃ l, l = (L.filter p).length := ⟨_, rfl⟩
      rw [← hul] at hu
      subst hu
      have s6 := S1.out.below HBW.out
      have c6 := s6.cell
      have f6 := s6.thaw
      have HW : Hid (SCell 55 (wr.setCell ⟨g + 1, 0, none⟩ (.slice uo ul uc)) (g + 1) (.slice uo ul uc)) := s6.write _
      have HBE : Hid (Below g w (wr.setCell ⟨g + 1, 0, none⟩ (.slice uo ul uc))) := (HB.out.trans (HBW.out.mono (by rw [HZ.out]; omega))).setCell (p := ⟨g + 1, 0, none⟩) (Nat.le_succ _) _
      have HR : Hid (OG (Value.int .i64) g 3 (wr.setCell ⟨g + 1, 0, none⟩ (.slice uo ul uc)) (.slice uo ul uc) (L.filter p)) := OG.of_blocks (ho.mono (by rw [HZ.out]; omega)) fun j hj => Below.heap_setCell _ _ _ _ (by have h1 := (ho.lt j hj).1; rw [HZ.out] at h1; show j ≠ g + 1; omega)
      clear s6 ho hul HO HBW hltz
      go_wp2_with fail
      (try simp only [Exit.inBlock, Exit.then])
      exact bodyPost_ret (results_cell_row rfl _ _ (g + 1) 55 _ (0, 0) _ rfl HW.out Tryz.underlying55 rfl (by kernel_rfl)) rfl ⟨_, rfl, by rw [← HG.out]; exact HR.out, by rw [← HG.out]; exact HBE.out⟩
set_option maxHeartbeats 4000000 in
set_option maxRecDepth 1000000 in
theorem setMeetI (v u : Value) (L M : List Int) (w : World) (hv : RG (Value.int .i64) w v L) (hu : RG (Value.int .i64) w u M) (hR : Rs (ltOf cfI) M) (hz : L.length ≤ 1048576) (hz2 : M.length ≤ 1048576) :
    Calls Tryz.prog 38 #[.agg #[v], .agg #[u]] w fun e w' => MkEI w (L.filter (hasI M)) e w' := by
  obtain ⟨W1, hW1⟩ : ∃ W1, W1 = ((w.alloc (.cells #[v] 55)).alloc (.cells #[u] 55)).alloc (.cells #[.slice none 0 0] 55) := ⟨_, rfl⟩
  have s0 : SCell 55 W1 w.heap.size v := by rw [hW1]; exact ((SCell.new w rfl).step _).step _
  have s1 : SCell 55 W1 (w.heap.size + 1) u := by rw [hW1]; exact (SCell.new _ (by simp)).step _
  have s2 : SCell 55 W1 (w.heap.size + 2) (.slice none 0 0) := by rw [hW1]; exact SCell.new _ (by simp)
  have b0 : Below w.heap.size w W1 := by rw [hW1]; exact (((Below.refl _ _).alloc (Nat.le_refl _) _).alloc (by simp) _).alloc (by simp; omega) _
  have z0 : W1.heap.size = w.heap.size + 3 := by rw [hW1]; simp
  have HW1 : Hid (W1 = ((w.alloc (.cells #[v] 55)).alloc (.cells #[u] 55)).alloc (.cells #[.slice none 0 0] 55)) := hW1
  have HU : Hid (RG (Value.int .i64) W1 u M) := hu.below (Nat.le_refl _) b0
  obtain ⟨g, hg⟩ : ∃ g, g = w.heap.size := ⟨_, rfl⟩
  have HG : Hid (g = w.heap.size) := hg
  rw [← hg] at s0 s1 s2 z0
  have C := keptMI u v L (hasI M) W1 (hv.below (Nat.le_refl _) b0) hz (fun W x hb => setHasI u M x W (HU.out.below (Nat.le_refl _) hb) hR hz2)
  obtain ⟨uo, uc, rfl⟩ := hu.sl
  obtain ⟨ao, ac, rfl⟩ := hv.sl
  have c0 := s0.cell
  have c1 := s1.cell
  clear hW1 hv hu
  rw [← hg] at b0
  go_enter Tryz.func38, Tryz.ntmps38
  go_upto_region 1 with fail
  rw [← HW1.out, ← HG.out]
  clear HW1 hg
  go_wp2_with fail
  refine C.mono ?_
  rintro e w2 ⟨r, rfl, hr, b2⟩
  have s6 := s2.below b2
  have c6 := s6.cell
  have f6 := s6.thaw
  obtain ⟨ro, rc, hrr, -⟩ := hr.sl
  obtain ⟨rl, hrl⟩ : ∃ l, l = (L.filter (hasI M)).length := ⟨_, rfl⟩
  rw [← hrl] at hrr
  subst hrr
  have HW : Hid (SCell 55 (w2.setCell ⟨g + 2, 0, none⟩ (.slice ro rl rc)) (g + 2) (.slice ro rl rc)) := s6.write _
  have HBE : Hid (Below g w (w2.setCell ⟨g + 2, 0, none⟩ (.slice ro rl rc))) := (b0.trans (b2.mono (by omega))).setCell (p := ⟨g + 2, 0, none⟩) (by show g ≤ g + 2; omega) _
  have HR : Hid (OG (Value.int .i64) g 3 (w2.setCell ⟨g + 2, 0, none⟩ (.slice ro rl rc)) (.slice ro rl rc) (L.filter (hasI M))) := OG.of_blocks (hr.mono (by omega)) fun j hj => Below.heap_setCell _ _ _ _ (by have h1 := (hr.lt j hj).1; show j ≠ g + 2; omega)
  clear C c0 c1 s0 s1 s2 s6 b0 b2 hr hrl z0
  go_wp2_with fail
  (try simp only [Exit.inBlock, Exit.then])
  exact bodyPost_ret (results_cell_row rfl _ _ (g + 2) 55 _ (0, 0) _ rfl HW.out Tryz.underlying55 rfl (by kernel_rfl)) rfl ⟨_, rfl, by rw [← HG.out]; exact HR.out, by rw [← HG.out]; exact HBE.out⟩
set_option maxHeartbeats 4000000 in
set_option maxRecDepth 1000000 in
theorem setMinusI (v u : Value) (L M : List Int) (w : World) (hv : RG (Value.int .i64) w v L) (hu : RG (Value.int .i64) w u M) (hR : Rs (ltOf cfI) M) (hz : L.length ≤ 1048576) (hz2 : M.length ≤ 1048576) :
    Calls Tryz.prog 57 #[.agg #[v], .agg #[u]] w fun e w' => MkEI w (L.filter (fun x => !hasI M x)) e w' := by
  obtain ⟨W1, hW1⟩ : ∃ W1, W1 = ((w.alloc (.cells #[v] 55)).alloc (.cells #[u] 55)).alloc (.cells #[.slice none 0 0] 55) := ⟨_, rfl⟩
  have s0 : SCell 55 W1 w.heap.size v := by rw [hW1]; exact ((SCell.new w rfl).step _).step _
  have s1 : SCell 55 W1 (w.heap.size + 1) u := by rw [hW1]; exact (SCell.new _ (by simp)).step _
  have s2 : SCell 55 W1 (w.heap.size + 2) (.slice none 0 0) := by rw [hW1]; exact SCell.new _ (by simp)
  have b0 : Below w.heap.size w W1 := by rw [hW1]; exact (((Below.refl _ _).alloc (Nat.le_refl _) _).alloc (by simp) _).alloc (by simp; omega) _
  have z0 : W1.heap.size = w.heap.size + 3 := by rw [hW1]; simp
  have HW1 : Hid (W1 = ((w.alloc (.cells #[v] 55)).alloc (.cells #[u] 55)).alloc (.cells #[.slice none 0 0] 55)) := hW1
  have HU : Hid (RG (Value.int .i64) W1 u M) := hu.below (Nat.le_refl _) b0
  obtain ⟨g, hg⟩ : ∃ g, g = w.heap.size := ⟨_, rfl⟩
  have HG : Hid (g = w.heap.size) := hg
  rw [← hg] at s0 s1 s2 z0
  have C := keptNI (g + 1) v L (fun x => !hasI M x) W1 (hv.below (Nat.le_refl _) b0) hz (fun W x hb => minus1I (g + 1) u M x W (s1.below hb) (HU.out.below (Nat.le_refl _) hb) hR hz2)
  obtain ⟨uo, uc, rfl⟩ := hu.sl
  obtain ⟨ao, ac, rfl⟩ := hv.sl
  have c0 := s0.cell
  have c1 := s1.cell
  clear hW1 hv hu
  rw [← hg] at b0
  go_enter Tryz.func57, Tryz.ntmps57
  go_upto_region 1 with fail
  rw [← HW1.out, ← HG.out]
  clear HW1 hg
  go_wp2_with fail
  refine C.mono ?_
  rintro e w2 ⟨r, rfl, hr, b2⟩
  have s6 := s2.below b2
  have c6 := s6.cell
  have f6 := s6.thaw
  obtain ⟨ro, rc, hrr, -⟩ := hr.sl
  obtain ⟨rl, hrl⟩ : ∃ l, l = (L.filter (fun x => !hasI M x)).length := ⟨_, rfl⟩
  rw [← hrl] at hrr
  subst hrr
  have HW : Hid (SCell 55 (w2.setCell ⟨g + 2, 0, none⟩ (.slice ro rl rc)) (g + 2) (.slice ro rl rc)) := s6.write _
  have HBE : Hid (Below g w (w2.setCell ⟨g + 2, 0, none⟩ (.slice ro rl rc))) := (b0.trans (b2.mono (by omega))).setCell (p := ⟨g + 2, 0, none⟩) (by show g ≤ g + 2; omega) _
  have HR : Hid (OG (Value.int .i64) g 3 (w2.setCell ⟨g + 2, 0, none⟩ (.slice ro rl rc)) (.slice ro rl rc) (L.filter (fun x => !hasI M x))) := OG.of_blocks (hr.mono (by omega)) fun j hj => Below.heap_setCell _ _ _ _ (by have h1 := (hr.lt j hj).1; show j ≠ g + 2; omega)
  clear C c0 c1 s0 s1 s2 s6 b0 b2 hr hrl z0
  go_wp2_with fail
  (try simp only [Exit.inBlock, Exit.then])
  exact bodyPost_ret (results_cell_row rfl _ _ (g + 2) 55 _ (0, 0) _ rfl HW.out Tryz.underlying55 rfl (by kernel_rfl)) rfl ⟨_, rfl, by rw [← HG.out]; exact HR.out, by rw [← HG.out]; exact HBE.out⟩
end Go.Proofs.YtcoiapgfaibkgaaGreat

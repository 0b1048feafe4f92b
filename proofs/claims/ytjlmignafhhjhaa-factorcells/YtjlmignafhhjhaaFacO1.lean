/-
  Proved here: slices.Equal at int, ring Ints' methods, ring.Sum at int; package factor's placeOf, stride at int.
-/
import Derived.Test.YtjlmignafhhjhaaFacH
import Derived.Test.YtjlmignafhhjhaaFacNone
import Derived.Test.YtjlmignafhhjhaaFacAI
namespace Go.Proofs.Ytjlmignafhhjhaa
set_option linter.unusedVariables false
open Go.RowKit Go.Shelf Go.Lib Go.Sort
theorem mIntsZeroF (w : World) : (Go.method 277 56 (.agg #[]) "Zero").run Try.prog w = .ok (133, .agg #[]) w := by kernel_rfl
theorem mIntsAddF (w : World) : (Go.method 277 56 (.agg #[]) "Add").run Try.prog w = .ok (129, .agg #[]) w := by kernel_rfl
theorem mIntsMulF (w : World) : (Go.method 277 56 (.agg #[]) "Mul").run Try.prog w = .ok (130, .agg #[]) w := by kernel_rfl
theorem mIntsSameF (w : World) : (Go.method 277 56 (.agg #[]) "Same").run Try.prog w = .ok (132, .agg #[]) w := by kernel_rfl
theorem entIntsZeroF : ∀ args w, (callFunc 133 args).run Try.prog w = .ok (.enter 133 args) w := enters_of Try.func133 (by kernel_rfl) rfl
theorem entIntsAddF : ∀ args w, (callFunc 129 args).run Try.prog w = .ok (.enter 129 args) w := enters_of Try.func129 (by kernel_rfl) rfl
theorem entIntsMulF : ∀ args w, (callFunc 130 args).run Try.prog w = .ok (.enter 130 args) w := enters_of Try.func130 (by kernel_rfl) rfl
theorem entIntsSameF : ∀ args w, (callFunc 132 args).run Try.prog w = .ok (.enter 132 args) w := enters_of Try.func132 (by kernel_rfl) rfl
theorem nlIntsMulF (w : World) : (nilAhead 277 56 (.agg #[]) "Mul").run Try.prog w = .ok (some false) w := by kernel_rfl
theorem nlIntsSameF (w : World) : (nilAhead 277 56 (.agg #[]) "Same").run Try.prog w = .ok (some false) w := by kernel_rfl
theorem intsZeroF (w : World) : Calls Try.prog 133 #[.agg #[]] w fun e w' => e = .returned (.int .i64 0) ∧ Below w.heap.size w w' := by
  go_enter Try.func133, Try.ntmps133
  go_wp2
  go_ret
  exact ⟨rfl, belowB _ _⟩
def adZ (x y : Int) : Int := IntKind.i64.wrap (x + y)
def muZ (x y : Int) : Int := IntKind.i64.wrap (x * y)
theorem intsAddF (p q : Int) (w : World) : Calls Try.prog 129 #[.agg #[], .int .i64 p, .int .i64 q] w fun e w' => e = .returned (.int .i64 (adZ p q)) ∧ Below w.heap.size w w' := by
  go_enter Try.func129, Try.ntmps129
  go_wp2
  go_ret
  exact ⟨by simp [adZ, IntKind.wrap_i64, wrap64], belowB _ _⟩
theorem intsMulF (p q : Int) (w : World) : Calls Try.prog 130 #[.agg #[], .int .i64 p, .int .i64 q] w fun e w' => e = .returned (.int .i64 (muZ p q)) ∧ Below w.heap.size w w' := by
  go_enter Try.func130, Try.ntmps130
  go_wp2
  go_ret
  exact ⟨by simp [muZ, IntKind.wrap_i64, wrap64], belowB _ _⟩
theorem intsSameF (p q : Int) (w : World) : Calls Try.prog 132 #[.agg #[], .int .i64 p, .int .i64 q] w fun e w' => e = .returned (.bool (p == q)) ∧ Below w.heap.size w w' := by
  go_enter Try.func132, Try.ntmps132
  go_wp2
  go_ret
  exact ⟨rfl, belowB _ _⟩
/-- What is added, from the left. -/
def smZ (L : List Int) : Int := L.foldl adZ 0
theorem smZ_take (L : List Int) (i : Nat) (x : Int) (h : L[i]? = some x) : smZ (L.take (i + 1)) = adZ (smZ (L.take i)) x := by
  obtain ⟨hi, e⟩ := List.getElem?_eq_some_iff.1 h
  unfold smZ
  rw [List.take_succ_eq_append_getElem hi, List.foldl_append, e]; rfl
set_option maxRecDepth 100000 in
set_option maxHeartbeats 6400000 in
theorem sumI (v : Value) (L : List Int) (w : World) (hv : RG (Value.int .i64) w v L) :
    Calls Try.prog 60 #[.iface 56 (.agg #[]), v] w fun e w' => e = .returned (.int .i64 (smZ L)) ∧ Below w.heap.size w w' := by
  obtain ⟨ao, cap, rfl, hc, hm, -, hcell⟩ := hv
  unfold maxLen at hm
  obtain ⟨n, hn⟩ : ∃ n, L.length = n := ⟨_, rfl⟩
  rw [hn] at hc ⊢
  have HN : Hid (L.length = n) := hn
  have HC : Hid (∀ i x, L[i]? = some x → ∃ g o, ao = some ⟨g, o, none⟩ ∧ w.cell? ⟨g, o + i, none⟩ = some (Value.int .i64 x)) := hcell
  obtain ⟨r, hr⟩ : ∃ r, r = smZ L := ⟨_, rfl⟩
  rw [← hr]
  have HR : Hid (r = smZ L) := hr
  clear hn hcell hr
  have hm0 := mIntsZeroF
  have hm1 := mIntsAddF
  have he0 := entIntsZeroF
  have he1 := entIntsAddF
  go_enter Try.func60, Try.ntmps60
  go_wp2_with fail
  refine (intsZeroF _).mono ?_
  rintro e w1 ⟨rfl, b1⟩
  have HB1 : Hid (Below w.heap.size w w1) := b1
  clear b1
  go_wp2_with fail
  go_loopg [6, 8, 16] n (fun g1 v6 _v8 v16 wr => ∃ (i : Nat) (s : Int), v16 = .int .i64 i ∧ v6 = .int .i64 s ∧ i ≤ n ∧ n - i ≤ g1 ∧ Hid (s = smZ (L.take i)) ∧ Hid (Below w.heap.size w wr))
  case atStart => exact ⟨0, 0, rfl, rfl, Nat.zero_le _, by omega, rfl, HB1⟩
  case round =>
    clear HB1
    obtain ⟨i, s, rfl, rfl, hin, hg1, HS, HB⟩ := hrel
    by_cases hlt : i < n
    · have hltz : (i : Int) < (n : Int) := by omega
      obtain ⟨x, hx⟩ : ∃ x, L[i]? = some x := ⟨_, List.getElem?_eq_getElem (by rw [HN.out]; exact hlt)⟩
      obtain ⟨g, o, rfl, hc0⟩ := HC.out i x hx
      have hc1 := keepR HB.out hc0
      have HS2 : Hid (adZ s x = smZ (L.take (i + 1))) := by show _ = _; rw [smZ_take L i x hx, HS.out]
      clear hx hc0 HS
      go_wp2_with fail
      refine (intsAddF s x _).mono ?_
      rintro e w2 ⟨rfl, b2⟩
      have HB2 : Hid (Below w.heap.size w w2) := bstepB HB.out b2
      clear hc1 b2 HB
      obtain ⟨y, hy⟩ : ∃ y, adZ s x = y := ⟨_, rfl⟩
      rw [hy] at HS2 ⊢
      clear hy
      go_wp2
      go_roundg (n - (i + 1))
      case measure => omega
      case rel => exact ⟨i + 1, y, by go_num, rfl, by omega, Nat.le_refl _, HS2, HB2⟩
    · have hltz : ¬ (i : Int) < (n : Int) := by omega
      have HE : Hid (r = s) := by show r = s; rw [HR.out, HS.out, List.take_of_length_le (by rw [HN.out]; omega)]
      clear HS
      go_wp2
      go_ret
      exact ⟨by rw [HE.out]; rfl, HB.out⟩
set_option maxRecDepth 100000 in
set_option maxHeartbeats 6400000 in
theorem equalI (v1 v2 : Value) (L M : List Int) (w : World) (h1 : RG (Value.int .i64) w v1 L) (h2 : RG (Value.int .i64) w v2 M) :
    Calls Try.prog 61 #[v1, v2] w fun e w' => e = .returned (.bool (decide (L = M))) ∧ ∃ q, w' = w.drewN q := by
  obtain ⟨ao, cap, rfl, hc, hm, -, hcell⟩ := h1
  obtain ⟨bo, cap2, rfl, hc2, hm2, -, hcell2⟩ := h2
  unfold maxLen at hm hm2
  obtain ⟨n, hn⟩ : ∃ n, L.length = n := ⟨_, rfl⟩
  obtain ⟨m, hmm⟩ : ∃ n, M.length = n := ⟨_, rfl⟩
  rw [hn] at hc ⊢
  rw [hmm] at hc2 ⊢
  have HN : Hid (L.length = n) := hn
  have HNM : Hid (M.length = m) := hmm
  have HC : Hid (∀ i x, L[i]? = some x → ∃ g o, ao = some ⟨g, o, none⟩ ∧ w.cell? ⟨g, o + i, none⟩ = some ((Value.int .i64) x)) := hcell
  have HC2 : Hid (∀ i x, M[i]? = some x → ∃ g o, bo = some ⟨g, o, none⟩ ∧ w.cell? ⟨g, o + i, none⟩ = some ((Value.int .i64) x)) := hcell2
  clear hn hmm hcell hcell2
  obtain ⟨bb, hbb⟩ : ∃ b, b = decide (L = M) := ⟨_, rfl⟩
  rw [← hbb]
  have HB : Hid (bb = decide (L = M)) := hbb
  clear hbb
  by_cases hnm : n = m
  · subst hnm
    go_enter Try.func61, Try.ntmps61
    go_wp2
    go_loopg [5, 13] n (fun g1 _v5 v wr => ∃ i : Nat, v = .int .i64 i ∧ i ≤ n ∧ n - i ≤ g1 ∧ Hid (bb = decide (L.drop i = M.drop i)) ∧ ∃ q, wr = w.drewN q)
    case atStart => exact ⟨0, rfl, Nat.zero_le _, by omega, HB, 0, rfl⟩
    case round =>
      clear HB
      obtain ⟨i, rfl, hin, hg1, HB, q, rfl⟩ := hrel
      by_cases hlt : i < n
      · have hltz : (i : Int) < (n : Int) := by omega
        obtain ⟨x, hx⟩ : ∃ x, L[i]? = some x := ⟨_, List.getElem?_eq_getElem (by rw [HN.out]; exact hlt)⟩
        obtain ⟨y, hy⟩ : ∃ x, M[i]? = some x := ⟨_, List.getElem?_eq_getElem (by rw [HNM.out]; exact hlt)⟩
        obtain ⟨g, o, rfl, hc0⟩ := HC.out i x hx
        obtain ⟨g', o', rfl, hc0'⟩ := HC2.out i y hy
        have HB2 : Hid (bb = decide (x = y ∧ L.drop (i + 1) = M.drop (i + 1))) := by
          show _ = _
          rw [HB.out, drop_cons hx, drop_cons hy]
          simp
        clear hx hy HB
        have k0 := cell_drewF hc0 q
        have k1 := cell_drewF hc0' q
        obtain ⟨wq, hwq⟩ : ∃ u, w.drewN q = u := ⟨_, rfl⟩
        rw [hwq] at k0 k1 ⊢
        have HWQ : Hid (w.drewN q = wq) := hwq
        clear hwq hc0 hc0'
        by_cases hxy : x = y
        · have hne : (x != y) = false := by simpa using hxy
          have HB3 : Hid (bb = decide (L.drop (i + 1) = M.drop (i + 1))) := by show _ = _; rw [HB2.out]; simp [hxy]
          clear HB2 hxy
          go_wp2_with fail
          go_region
          all_goals
            go_wp2
            go_roundg (n - (i + 1))
            case measure => omega
            case rel => exact ⟨i + 1, by go_num, by omega, Nat.le_refl _, HB3, q + 1, by rw [← HWQ.out]; rfl⟩
        · have hne : (x != y) = true := by simpa using hxy
          have HB3 : Hid (bb = false) := by show _ = _; rw [HB2.out]; simp [hxy]
          clear HB2 hxy
          go_wp2_with fail
          go_region
          all_goals
            go_wp2
            go_ret
            exact ⟨by rw [HB3.out]; rfl, q + 1, by rw [← HWQ.out]; rfl⟩
      · have hltz : ¬ (i : Int) < (n : Int) := by omega
        have HB3 : Hid (bb = true) := by show _ = _; rw [HB.out, List.drop_of_length_le (by rw [HN.out]; omega), List.drop_of_length_le (by rw [HNM.out]; omega)]; rfl
        clear HB
        go_wp2
        go_ret
        exact ⟨by rw [HB3.out]; rfl, q, rfl⟩
  · have hnz : ((n : Int) != (m : Int)) = true := by simp; omega
    have HB3 : Hid (bb = false) := by show _ = _; rw [HB.out]; exact decide_eq_false fun e => hnm (by rw [← HN.out, ← HNM.out, e])
    clear HB
    go_enter Try.func61, Try.ntmps61
    go_wp2
    go_ret
    exact ⟨by rw [HB3.out]; rfl, 0, rfl⟩
set_option maxRecDepth 100000 in
set_option maxHeartbeats 6400000 in
theorem placeI (s z c : Value) (xs zs : List Int) (cs : List Int) (k : Nat) (v : Int) (w : World) (hs : RK .i64 w s xs) (hz : RK .i64 w z zs) (hc : RG (Value.int .i64) w c cs) (ht : Tab xs zs cs.length) (hx : xs.length ≤ 100000) (hk : xs[k]? = some v) :
    Calls Try.prog 57 #[.agg #[s, z, c], .int .i64 v] w fun e w' => e = .returned (.tuple #[.int .i64 (k : Int), .int .i64 0]) ∧ Below w.heap.size w w' := by
  obtain ⟨W1, hW1⟩ : ∃ W1, W1 = w.alloc (.cells #[s, z, c] 34) := ⟨_, rfl⟩
  obtain ⟨g, hg⟩ : ∃ g, g = w.heap.size := ⟨_, rfl⟩
  have q0 : BCell 34 W1 g s z c := by rw [hW1]; exact BCell.new w hg.symm
  have b0 : Below w.heap.size w W1 := by rw [hW1]; exact belowB w _
  obtain ⟨co, cc, rfl, hc1, hc2, -, -⟩ := hc
  unfold maxLen at hc2
  have CK := checkI s z xs zs co cs.length cc W1 (hs.below (Nat.le_refl _) b0) (hz.below (Nat.le_refl _) b0) (by omega)
  rw [chk_ok ht] at CK
  have HCK : Hid _ := CK
  have hr := okS_rise ht.len ht.ok
  have HSE : Hid (∀ W, Below W1.heap.size W1 W → Calls Try.prog 84 #[s, .int .i64 v] W fun e w' => e = .returned (.tuple #[.int .i64 (k : Int), .bool true]) ∧ Below W.heap.size W w') := fun W hW => (searchI s xs v W ((hs.below (Nat.le_refl _) (bstepB b0 hW))).rg (Rs.srt ordI (rs_rise.2 hr)) (by omega)).mono fun e w' ⟨j, h1, h2, q, h3⟩ => by
    have hp := pos_szOf hr ht.len h2
    have hvm : v ∈ xs := List.mem_of_getElem? hk
    have hj : j = k := by
      have hf := hp.1
      rw [decide_eq_true hvm] at hf
      unfold fndI at hf
      cases hxj : xs[j]? with
      | none => rw [hxj] at hf; cases hf
      | some y =>
        rw [hxj] at hf
        have hy := smI_eq _ _ hf
        subst hy
        have hjl := (List.getElem?_eq_some_iff.1 hxj)
        have hkl := (List.getElem?_eq_some_iff.1 hk)
        rcases Nat.lt_trichotomy j k with h | h | h
        · have := List.pairwise_iff_getElem.1 hr j k hjl.1 hkl.1 h; rw [hjl.2, hkl.2] at this; omega
        · exact h
        · have := List.pairwise_iff_getElem.1 hr k j hkl.1 hjl.1 h; rw [hjl.2, hkl.2] at this; omega
    subst hj
    exact ⟨by rw [h1, hp.1, decide_eq_true hvm], by rw [h3]; exact below_drewN (Below.refl _ _) q⟩
  obtain ⟨m, hm⟩ : ∃ m, cs.length = m := ⟨_, rfl⟩
  rw [hm] at hW1 q0 HCK ⊢
  have HW1 : Hid (W1 = w.alloc (.cells #[s, z, .slice co m cc] 34)) := hW1
  have HB : Hid (Below w.heap.size w W1) := b0
  have HG : Hid (g = w.heap.size) := hg
  have HQ : Hid (BCell 34 W1 g s z (.slice co m cc)) := q0
  clear hW1 hg b0 q0 hs hz ht CK hr hk hm hx
  go_enter Try.func57, Try.ntmps57
  go_upto_region 1 with fail
  rw [← HW1.out, ← HG.out]
  clear HW1
  obtain ⟨c0, c1, c2⟩ := HQ.out.cells
  go_wp2_with fail
  refine Calls.mono HCK.out ?_
  rintro e w2 ⟨rfl, b2⟩
  clear c0 c1 c2
  obtain ⟨c0, c1, c2⟩ := (HQ.out.below b2).cells
  have C2 : Hid _ := HSE.out w2 b2
  have HB2 : Hid (Below w.heap.size w w2) := bstepB HB.out b2
  clear b2 HCK HSE
  go_wp2_with fail
  refine Calls.mono C2.out ?_
  rintro e w3 ⟨rfl, b3⟩
  have HB3 : Hid (Below w.heap.size w w3) := bstepB HB2.out b3
  clear c0 c1 c2 b3 C2
  go_wp2
  go_ret2
  exact ⟨rfl, HB3.out⟩
set_option maxRecDepth 100000 in
set_option maxHeartbeats 6400000 in
theorem strideI (s z c : Value) (xs zs : List Int) (m k : Nat) (w : World) (hz : RK .i64 w z zs) (ht : Tab xs zs m) (hk : k < zs.length) :
    Calls Try.prog 59 #[.agg #[s, z, c], .int .i64 (k : Int)] w fun e w' => e = .returned (.int .i64 (pr (zs.drop (k + 1)))) ∧ Below w.heap.size w w' := by
  obtain ⟨W1, hW1⟩ : ∃ W1, W1 = w.alloc (.cells #[s, z, c] 34) := ⟨_, rfl⟩
  obtain ⟨g, hg⟩ : ∃ g, g = w.heap.size := ⟨_, rfl⟩
  have q0 : BCell 34 W1 g s z c := by rw [hW1]; exact BCell.new w hg.symm
  have b0 : Below w.heap.size w W1 := by rw [hW1]; exact belowB w _
  have hz1 := hz.below (Nat.le_refl _) b0
  have hzb := hz.bd
  have hone := ht.ones
  have hrg := hz1.rg
  obtain ⟨zo, zc, rfl, hzc, hzm, hnil, -, -⟩ := hz1
  unfold maxLen at hzm
  obtain ⟨bo, c2, hfrom, hfr⟩ := fromI zo zs.length zc (k + 1) zs (by omega) hzc (by omega) hnil
  have hdk : RK .i64 W1 (.slice bo (zs.length - (k + 1)) c2) (zs.drop (k + 1)) := (hfr _ hrg).rk (fun i hi => by
    rw [min_i64, max_i64, List.getD_eq_getElem?_getD, List.getElem?_eq_getElem hi]
    simp only [Option.getD_some]
    exact hzb _ (List.mem_of_mem_drop (List.getElem_mem hi)))
  have C := countI _ _ W1 hdk
  have hneg : negs (zs.drop (k + 1)) = false := by
    cases hh : negs (zs.drop (k + 1)) with
    | false => rfl
    | true => obtain ⟨q, hq, e⟩ := List.any_eq_true.1 hh; have := hone q (List.mem_of_mem_drop hq); simp [isNeg] at e; omega
  obtain ⟨e1, e2⟩ := cnt_ok hneg (Int.le_trans (pr_drop_le zs hone (k + 1)).2 ht.many)
  rw [e1, e2] at C
  obtain ⟨n, hn⟩ : ∃ n, zs.length = n := ⟨_, rfl⟩
  rw [hn] at hk C hzc hfrom q0 hW1 ⊢
  obtain ⟨d, hd⟩ : ∃ d, n - (k + 1) = d := ⟨_, rfl⟩
  rw [hd] at C hfrom
  have HC : Hid _ := C
  have ek1 : ((k + 1 : Nat) : Int) = (k : Int) + 1 := by omega
  rw [ek1] at hfrom
  have wk1 : IntKind.i64.wrap ((k : Int) + 1) = (k : Int) + 1 := by rw [IntKind.wrap_i64]; omega
  generalize pr (zs.drop (k + 1)) = p at *
  have HW1 : Hid (W1 = w.alloc (.cells #[s, .slice zo n zc, c] 34)) := hW1
  have HB : Hid (Below w.heap.size w W1) := b0
  have HG : Hid (g = w.heap.size) := hg
  obtain ⟨c0, c1, c3⟩ := q0.cells
  clear hW1 hg b0 q0 C hfr hdk hneg e1 e2 hrg hzb hone hd ht hn hz
  go_enter Try.func59, Try.ntmps59
  go_upto_region 1 with fail
  rw [← HW1.out, ← HG.out]
  clear HW1
  go_wp2_with fail
  refine Calls.mono HC.out ?_
  rintro e w2 ⟨rfl, q, rfl⟩
  clear c0 c1 c3
  go_wp2
  go_ret
  exact ⟨rfl, below_drewN HB.out q⟩
end Go.Proofs.Ytjlmignafhhjhaa

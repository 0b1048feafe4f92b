/-
  Proved here: what the law's kept answers of what was lent.
  Proved here: NearTells of any fraction returns true, and writes nothing that was there.
  Proved here: a slice of limbs that was handed in is a number that can be read.
  Proved here: a fraction that is handed in by value, opened. No condition.
-/
import Derived.Test.YtjfihcnjhjgdpaaNearLentAll
import Derived.Deep.QuietTactic
import Derived.Test.YtjfihcnjhjgdpaaTrimAll
import Derived.OpenShut
import Derived.ProofKit
import Derived.ShutString
import Derived.ChangeOld
import Derived.Lib.SmallJoins
namespace Go.Proofs.Ytjfihcnjhjgdpaa
open Go.RowKit

theorem Num.at {w : World} {v : Value} {xs : List Nat} (h : Num w v xs) {j : Nat} (hj : j < xs.length) : ∃ b off cap, v = .slice (some ⟨b, off, none⟩) xs.length cap ∧ w.cell? ⟨b, off + j, none⟩ = some (.int .u32 ((xs.getD j 0 : Nat) : Int)) := by
  obtain ⟨hb, ao, cap, rfl, hc, hm, hnil, hcell⟩ := h.open_
  obtain ⟨b, off, rfl, hx⟩ := hcell j hj
  exact ⟨b, off, cap, rfl, hx⟩

set_option maxRecDepth 100000 in
set_option maxHeartbeats 6400000 in
theorem kept05 (na : Bool) (po qo : Option Addr) (pl pc ql qc : Nat) (no do_ : Option Addr) (nc dc : Nat) (xs ys : List Nat) (w : World) (hu : Num w (.slice po pl pc) xs) (hv : Num w (.slice qo ql qc) ys) (lx : xs.length ≤ 1000) (ly : ys.length ≤ 1000) (hpl : xs.length = pl) (hql : ys.length = ql)
    (hn : Num w (.slice no (xs.length + 3) nc) (xs ++ [91, 92, 93])) (hd : Num w (.slice do_ (ys.length + 3) dc) (ys ++ [94, 95, 96])) :
    Calls Try.prog 21 #[.agg #[.bool na, .slice po pl pc, .slice qo ql qc], .slice no (xs.length + 3) nc, .slice do_ (ys.length + 3) dc] w fun e w' => e = .returned (.bool true) ∧ Below w.heap.size w w' := by
  have hle := fun w h1 h2 => lent_any na po qo pl pc ql qc xs ys w h1 h2 lx ly hpl hql
  obtain ⟨X, hX⟩ : ∃ X, X = xs ++ [91, 92, 93] := ⟨_, rfl⟩
  obtain ⟨Y, hY⟩ : ∃ Y, Y = ys ++ [94, 95, 96] := ⟨_, rfl⟩
  have eX : xs.length + 3 = X.length := by rw [hX, List.length_append]; rfl
  have eY : ys.length + 3 = Y.length := by rw [hY, List.length_append]; rfl
  have lX : X.length ≤ 1003 := by omega
  have lY : Y.length ≤ 1003 := by omega
  unfold LentEnd at hle
  rw [← hX, eX] at hn hle
  rw [← hY, eY] at hd hle
  rw [eX, eY]
  clear hX hY eX eY
  obtain ⟨W1, hW1⟩ : ∃ W1, W1 = w.alloc (.cells #[.bool na, .slice po pl pc, .slice qo ql qc] 29) := ⟨_, rfl⟩
  have hr : TCell W1 w.heap.size (.bool na) (.slice po pl pc) (.slice qo ql qc) := by rw [hW1]; exact tcell_new _ rfl
  have hb1 : Below w.heap.size w W1 := by rw [hW1]; exact belowA w _
  have HW1 : Hid (w.alloc (.cells #[.bool na, .slice po pl pc, .slice qo ql qc] 29) = W1) := hW1.symm
  have hq := hle W1 (hu.below (Nat.le_refl _) hb1) (hv.below (Nat.le_refl _) hb1)
  replace hn := hn.below (Nat.le_refl _) hb1
  replace hd := hd.below (Nat.le_refl _) hb1
  clear hW1 hu hv hle hr lx ly hpl hql
  obtain ⟨xm, hxm⟩ : ∃ n, n = X.length := ⟨_, rfl⟩
  obtain ⟨ym, hym⟩ : ∃ n, n = Y.length := ⟨_, rfl⟩
  have HXM : Hid (X.length = xm) := hxm.symm
  have HYM : Hid (Y.length = ym) := hym.symm
  rw [← hxm] at hn hq lX ⊢
  rw [← hym] at hd hq lY ⊢
  clear hxm hym
  go_enter Try.func21, Try.ntmps21
  go_wp2_with fail
  rw [HW1.out]
  refine hq.mono ?_
  rintro e w2 ⟨ao, bo, ac, bc, rfl, ha, hb, b2⟩
  replace hn := hn.below (Nat.le_refl _) b2
  replace hd := hd.below (Nat.le_refl _) b2
  replace hb1 := bstep hb1 b2
  clear b2 HW1 hq
  obtain ⟨W2, hW2⟩ : ∃ W, W = w2.alloc (.cells #[.bool na, .slice ao xs.length ac, .slice bo ys.length bc] 29) := ⟨_, rfl⟩
  have b3 : Below w2.heap.size w2 W2 := by rw [hW2]; exact belowA _ _
  replace hn := hn.below (Nat.le_refl _) b3
  replace hd := hd.below (Nat.le_refl _) b3
  replace ha := ha.below (Nat.le_refl _) b3
  replace hb := hb.below (Nat.le_refl _) b3
  replace hb1 := bstep hb1 b3
  have HW2 : Hid (w2.alloc (.cells #[.bool na, .slice ao xs.length ac, .slice bo ys.length bc] 29) = W2) := hW2.symm
  clear b3 hW2
  go_wp2
  rw [HW2.out]
  clear HW2
  go_loopw [10] (fun iv wr => ∃ i : Nat, i ≤ xm ∧ iv = .int .i64 i ∧ Below W2.heap.size W2 wr) (fun iv _ => xm - (intOf iv).toNat)
  case atStart => exact ⟨0, Nat.zero_le _, rfl, Below.refl _ _⟩
  case round =>
    obtain ⟨i, hi, rfl, hbw⟩ := hrel
    by_cases hlt : i < xm
    · have hlt' : (i : Int) < (xm : Int) := by omega
      obtain ⟨b', off', cap', e1, c1⟩ := (hn.below (Nat.le_refl _) hbw).at (j := i) (by rw [HXM.out]; exact hlt)
      obtain ⟨b2', off2', cap2', e2, c2⟩ := (ha.below (Nat.le_refl _) hbw).at (j := i) (by rw [HXM.out]; exact hlt)
      simp only [Value.slice.injEq] at e1 e2
      obtain ⟨rfl, _, rfl⟩ := e1
      obtain ⟨rfl, _, rfl⟩ := e2
      obtain ⟨z, hz⟩ : ∃ z, z = X.getD i 0 := ⟨_, rfl⟩
      rw [← hz] at c1 c2
      have hne : (((z : Nat) : Int) != ((z : Nat) : Int)) = false := by simp
      clear hz hn ha hd hb
      go_wp2_with fail
      go_quiet (first | fail)
      go_wp2
      go_roundw
      case rel => exact ⟨i + 1, by omega, by go_num, below_drewN hbw _⟩
      case measure => simp [intOf]; omega
    · have hlt' : ¬ (i : Int) < (xm : Int) := by omega
      replace hd := hd.below (Nat.le_refl _) hbw
      replace hb := hb.below (Nat.le_refl _) hbw
      replace hb1 := bstep hb1 hbw
      obtain ⟨wq, hwq⟩ : ∃ z, z = wr := ⟨_, rfl⟩
      clear hbw hn ha
      go_wp2
      go_loopw [11] (fun iv wr => ∃ i : Nat, i ≤ ym ∧ iv = .int .i64 i ∧ Below wq.heap.size wq wr) (fun iv _ => ym - (intOf iv).toNat)
      case atStart => exact ⟨0, Nat.zero_le _, rfl, by rw [hwq]; exact Below.refl _ _⟩
      case round =>
        rw [← hwq] at hd hb hb1
        obtain ⟨k, hk, rfl, hbw⟩ := hrel
        by_cases hltk : k < ym
        · have hlt2 : (k : Int) < (ym : Int) := by omega
          obtain ⟨b', off', cap', e1, c1⟩ := (hd.below (Nat.le_refl _) hbw).at (j := k) (by rw [HYM.out]; exact hltk)
          obtain ⟨b2', off2', cap2', e2, c2⟩ := (hb.below (Nat.le_refl _) hbw).at (j := k) (by rw [HYM.out]; exact hltk)
          simp only [Value.slice.injEq] at e1 e2
          obtain ⟨rfl, _, rfl⟩ := e1
          obtain ⟨rfl, _, rfl⟩ := e2
          obtain ⟨z, hz⟩ : ∃ z, z = Y.getD k 0 := ⟨_, rfl⟩
          rw [← hz] at c1 c2
          have hne : (((z : Nat) : Int) != ((z : Nat) : Int)) = false := by simp
          clear hz hd hb hwq
          go_wp2_with fail
          go_quiet (first | fail)
          go_wp2
          go_roundw
          case rel => exact ⟨k + 1, by omega, by go_num, below_drewN hbw _⟩
          case measure => simp [intOf]; omega
        · have hlt2 : ¬ (k : Int) < (ym : Int) := by omega
          have HE : Hid (Below w.heap.size w wr) := bstep hb1 hbw
          clear hd hb hb1 hbw hwq
          go_wp2
          go_ret
          exact ⟨rfl, HE.out⟩
end Go.Proofs.Ytjfihcnjhjgdpaa

namespace Go.Proofs.Ytjfihcnjhjgdpaa
open Go.RowKit

@[local go_sem] theorem run_f32bits2 (b : Nat) (w : World) : (callFunc 19 #[.float .f32 b]).run Try.prog w = .ok (.value (.int .u32 (b : Int))) w := by
  rw [run_callFunc_extern Try.func19 (by kernel_rfl) (by kernel_rfl) (by kernel_rfl) (e := Extern.MathFloatBits.float32bits) (by kernel_rfl)]
  rfl

set_option maxRecDepth 100000 in
set_option maxHeartbeats 12800000 in
theorem nearTells_top (na : Bool) (po qo : Option Addr) (pl pc ql qc : Nat) (xs ys : List Nat) (w : World) (hu : Num w (.slice po pl pc) xs) (hv : Num w (.slice qo ql qc) ys) :
    Calls Try.prog 4 #[.agg #[.bool na, .slice po pl pc, .slice qo ql qc]] w fun e w' => e = .returned (.bool true) ∧ Below w.heap.size w w' := by
  have hpl : xs.length = pl := by obtain ⟨_, _, h, _⟩ := hu.ao; injection h with _ h2 _; exact h2.symm
  have hql : ys.length = ql := by obtain ⟨_, _, h, _⟩ := hv.ao; injection h with _ h2 _; exact h2.symm
  have hbg := fun w => big05_any na po qo pl pc ql qc w
  obtain ⟨W1, hW1⟩ : ∃ W1, W1 = w.alloc (.cells #[.bool na, .slice po pl pc, .slice qo ql qc] 29) := ⟨_, rfl⟩
  have hk : TCell W1 w.heap.size (.bool na) (.slice po pl pc) (.slice qo ql qc) := by rw [hW1]; exact tcell_new _ rfl
  have hb1 : Below w.heap.size w W1 := by rw [hW1]; exact belowA w _
  have HW1 : Hid (W1 = w.alloc (.cells #[.bool na, .slice po pl pc, .slice qo ql qc] 29)) := hW1
  replace hu := hu.below (Nat.le_refl _) hb1
  replace hv := hv.below (Nat.le_refl _) hb1
  clear hW1
  by_cases hbig : (decide (200 < pl) || decide (200 < ql)) = true
  · rw [hbig] at hbg
    clear hu hv hk hbig hpl hql
    go_enter Try.func4, Try.ntmps4
    go_wp2_with fail
    rw [← HW1.out]
    refine (hbg _).mono ?_
    rintro e w2 ⟨rfl, b2⟩
    have HE : Hid (Below w.heap.size w w2) := bstep hb1 b2
    clear hbg HW1 b2 hb1
    go_wp2
    go_ret
    exact ⟨rfl, HE.out⟩
  · have hbf : (decide (200 < pl) || decide (200 < ql)) = false := by simpa using hbig
    rw [hbf] at hbg
    have lx : xs.length ≤ 1000 := by simp at hbf; omega
    have ly : ys.length ≤ 1000 := by simp at hbf; omega
    obtain ⟨s, hs⟩ : ∃ s, s = decide (cmpZ (zv na (val xs)) 0 < 0) := ⟨_, rfl⟩
    obtain ⟨⟨fa, fb⟩, hf⟩ : ∃ z, z = findF 53 (-1074) 1024 (val xs) (undN (val ys)) := ⟨_, rfl⟩
    have hle := fun w h1 h2 => lent_any na po qo pl pc ql qc xs ys w h1 h2 lx ly hpl hql
    have hra := fun w h1 h2 => refAround na po qo pl pc ql qc xs ys w h1 h2 lx ly s hs fa fb hf
    have hrn := fun w h1 h2 => refNearest na po qo pl pc ql qc xs ys w h1 h2 lx ly
    have hrs := fun w h1 h2 => refSingle na po qo pl pc ql qc xs ys w h1 h2 lx ly
    have hnn := fun no do_ nc dc w h1 h2 => nearest_any na no do_ xs.length nc ys.length dc xs ys w h1 h2 lx ly
    have hns := fun no do_ nc dc w h1 h2 => single_any na no do_ xs.length nc ys.length dc xs ys w h1 h2 lx ly
    have hna := fun no do_ nc dc w h1 h2 => around_near na no do_ xs.length nc ys.length dc xs ys w h1 h2 lx ly s hs fa fb hf
    have hkp := fun no do_ nc dc w h1 h2 h3 h4 => kept05 na po qo pl pc ql qc no do_ nc dc xs ys w h1 h2 lx ly hpl hql h3 h4
    generalize sidedF (decide (cmpZ (zv na (val xs)) 0 < 0)) (nearestF (findF 53 (-1074) 1024 (val xs) (undN (val ys)))) = rn at *
    generalize sidedS (decide (cmpZ (zv na (val xs)) 0 < 0)) (nearestF (findF 24 (-149) 128 (val xs) (undN (val ys)))) = rs at *
    generalize arLo s fa (aboveF (fa, fb)) = lo at *
    generalize arHi s fa (aboveF (fa, fb)) = hi at *
    have hrr : (((rs : Nat) : Int) == ((rs : Nat) : Int)) = true := by simp
    clear hbig hbf hs hf hpl hql lx ly
    go_enter Try.func4, Try.ntmps4
    go_wp2_with fail
    rw [← HW1.out]
    obtain ⟨g, hg⟩ : ∃ g, g = w.heap.size := ⟨_, rfl⟩
    rw [← hg] at hk ⊢
    refine (hbg _).mono ?_
    rintro e w2 ⟨rfl, b⟩
    replace hk := hk.below b
    replace hu := hu.below (Nat.le_refl _) b
    replace hv := hv.below (Nat.le_refl _) b
    replace hb1 := bstep hb1 b
    clear b hbg HW1 hg
    obtain ⟨c0, c1, c2⟩ := hk.cells
    go_wp2_with fail
    refine (hle _ hu hv).mono ?_
    rintro e w3 ⟨no, do_, nc, dc, rfl, pn, pd, b⟩
    have qn : Num w3 (.slice no xs.length nc) xs := by
      have := pn.cut (k := xs.length) (by rw [List.length_append]; omega)
      rw [List.take_left] at this
      exact this
    have qd : Num w3 (.slice do_ ys.length dc) ys := by
      have := pd.cut (k := ys.length) (by rw [List.length_append]; omega)
      rw [List.take_left] at this
      exact this
    replace hk := hk.below b
    replace hu := hu.below (Nat.le_refl _) b
    replace hv := hv.below (Nat.le_refl _) b
    replace hb1 := bstep hb1 b
    clear b hle c0 c1 c2
    obtain ⟨W2, hW2⟩ : ∃ W, W = w3.alloc (.cells #[.bool na, .slice no xs.length nc, .slice do_ ys.length dc] 29) := ⟨_, rfl⟩
    have hj : TCell W2 w3.heap.size (.bool na) (.slice no xs.length nc) (.slice do_ ys.length dc) := by rw [hW2]; exact tcell_new _ rfl
    have b : Below w3.heap.size w3 W2 := by rw [hW2]; exact belowA _ _
    replace hk := hk.below b
    replace hu := hu.below (Nat.le_refl _) b
    replace hv := hv.below (Nat.le_refl _) b
    replace pn := pn.below (Nat.le_refl _) b
    replace pd := pd.below (Nat.le_refl _) b
    replace qn := qn.below (Nat.le_refl _) b
    replace qd := qd.below (Nat.le_refl _) b
    replace hb1 := bstep hb1 b
    obtain ⟨c0, c1, c2⟩ := hk.cells
    rw [hW2] at c0 c1 c2
    have HW2 : Hid (w3.alloc (.cells #[.bool na, .slice no xs.length nc, .slice do_ ys.length dc] 29) = W2) := hW2.symm
    clear b hW2
    go_wp2_with fail
    rw [HW2.out]
    obtain ⟨g2, hg2⟩ : ∃ g, g = w3.heap.size := ⟨_, rfl⟩
    rw [← hg2] at hj ⊢
    clear HW2 hg2 c0 c1 c2
    refine (hnn _ _ _ _ _ qn qd).mono ?_
    rintro e w4 ⟨rfl, b⟩
    replace hk := hk.below b
    replace hj := hj.below b
    replace hu := hu.below (Nat.le_refl _) b
    replace hv := hv.below (Nat.le_refl _) b
    replace pn := pn.below (Nat.le_refl _) b
    replace pd := pd.below (Nat.le_refl _) b
    replace qn := qn.below (Nat.le_refl _) b
    replace qd := qd.below (Nat.le_refl _) b
    replace hb1 := bstep hb1 b
    clear b
    clear hnn
    obtain ⟨j0, j1, j2⟩ := hj.cells
    go_wp2_with fail
    clear j0 j1 j2
    refine (hns _ _ _ _ _ qn qd).mono ?_
    rintro e w5 ⟨rfl, b⟩
    replace hk := hk.below b
    replace hj := hj.below b
    replace hu := hu.below (Nat.le_refl _) b
    replace hv := hv.below (Nat.le_refl _) b
    replace pn := pn.below (Nat.le_refl _) b
    replace pd := pd.below (Nat.le_refl _) b
    replace qn := qn.below (Nat.le_refl _) b
    replace qd := qd.below (Nat.le_refl _) b
    replace hb1 := bstep hb1 b
    clear b
    clear hns
    obtain ⟨j0, j1, j2⟩ := hj.cells
    go_wp2_with fail
    clear j0 j1 j2
    refine (hna _ _ _ _ _ qn qd).mono ?_
    rintro e w6 ⟨rfl, b⟩
    replace hk := hk.below b
    replace hj := hj.below b
    replace hu := hu.below (Nat.le_refl _) b
    replace hv := hv.below (Nat.le_refl _) b
    replace pn := pn.below (Nat.le_refl _) b
    replace pd := pd.below (Nat.le_refl _) b
    replace qn := qn.below (Nat.le_refl _) b
    replace qd := qd.below (Nat.le_refl _) b
    replace hb1 := bstep hb1 b
    clear b
    clear hna
    obtain ⟨c0, c1, c2⟩ := hk.cells
    go_wp2_with fail
    clear c0 c1 c2
    refine (hra _ hu hv).mono ?_
    rintro e w7 ⟨rfl, b⟩
    replace hk := hk.below b
    replace hj := hj.below b
    replace hu := hu.below (Nat.le_refl _) b
    replace hv := hv.below (Nat.le_refl _) b
    replace pn := pn.below (Nat.le_refl _) b
    replace pd := pd.below (Nat.le_refl _) b
    replace qn := qn.below (Nat.le_refl _) b
    replace qd := qd.below (Nat.le_refl _) b
    replace hb1 := bstep hb1 b
    clear b
    clear hra qn qd hj
    obtain ⟨c0, c1, c2⟩ := hk.cells
    have HK : Hid (TCell w7 g (.bool na) (.slice po pl pc) (.slice qo ql qc)) := hk
    clear hk
    go_wp2_with fail
    go_region_held3 (fun w' => w'.cell? ⟨g, 0, none⟩ = some (.bool na) ∧ w'.cell? ⟨g, 1, none⟩ = some (.slice po pl pc) ∧ w'.cell? ⟨g, 2, none⟩ = some (.slice qo ql qc)) (((try dsimp only); go_split_ands; refine ⟨?_, ?_, ?_⟩ <;> first | exact keepB1 (by with_reducible assumption) (by with_reducible assumption) | go_keep)) (first
      | (go_at_call 18; refine (hrn _ (hu.same (w' := w7.drew) rfl) (hv.same (w' := w7.drew) rfl)).mono ?_; rintro e w8 ⟨rfl, hb8⟩)
      | (go_at_call 17; refine (alike_yes rn _).mono ?_; rintro e w9 ⟨rfl, h9⟩; rw [h9])
      | (go_at_call 20; refine (hrs _ ((hu.same (w' := w7.drew) rfl).below (Nat.le_refl _) hb8) ((hv.same (w' := w7.drew) rfl).below (Nat.le_refl _) hb8)).mono ?_; rintro e wa ⟨rfl, hba⟩))
    all_goals
      have b : Below w7.heap.size w7 wa := bstep (bstep (Below.refl _ _).drew hb8) hba
      have hk := HK.out.below b
      replace hu := hu.below (Nat.le_refl _) b
      replace hv := hv.below (Nat.le_refl _) b
      replace pn := pn.below (Nat.le_refl _) b
      replace pd := pd.below (Nat.le_refl _) b
      replace hb1 := bstep hb1 b
      clear b hb8 hba c0 c1 c2 HK hrn hrs
      obtain ⟨c0, c1, c2⟩ := hk.cells
      clear hk
      go_wp2_with fail
      refine (alike_yes lo _).mono ?_
      rintro e w' ⟨rfl, rfl⟩
      go_wp2_with fail
      refine (alike_yes hi _).mono ?_
      rintro e w' ⟨rfl, rfl⟩
      go_wp2_with fail
      refine (hkp _ _ _ _ _ hu hv pn pd).mono ?_
      rintro e wb ⟨rfl, b⟩
      have HE : Hid (Below w.heap.size w wb) := bstep hb1 b
      clear b hb1 hu hv pn pd hkp c0 c1 c2
      go_wp2
      go_ret
      exact ⟨rfl, HE.out⟩
end Go.Proofs.Ytjfihcnjhjgdpaa

namespace Go.Proofs.Ytjfihcnjhjgdpaa
open Go.RowKit

theorem num_of_ints {W : World} {x : Addr} {len cap : Nat} {zs : List Int} (hl : len ≤ cap) (hm : cap ≤ maxLen) (hz : zs.length = cap)
    (hcell : ∀ i, i < zs.length → W.cell? (x.add i) = some (.int .u32 (zs.getD i 0))) (hwz : ∀ n ∈ zs, (Lit.int .u32 n).wf = true) : ∃ xs, Num W (.slice (some x) len cap) xs := by
  have hlen : ((zs.take len).map Int.toNat).length = len := by simp; omega
  refine ⟨(zs.take len).map Int.toNat, ?_, some x, cap, by rw [hlen], by rw [hlen]; exact hl, hm, fun h => by simp at h, fun j hj => ?_⟩
  · intro y hy
    obtain ⟨z, hz', rfl⟩ := List.mem_map.1 hy
    have := bounds_u32 (hwz z (List.mem_of_mem_take hz'))
    omega
  · rw [hlen] at hj
    have hc := hcell j (by omega)
    obtain ⟨b, off, spot⟩ := x
    have hspot : spot = none := by
      have := World.cell?_spot (hcell 0 (by omega))
      simpa [Addr.add] using this
    subst hspot
    refine ⟨b, off, rfl, ?_⟩
    rw [Addr.add_lit] at hc
    rw [hc]
    have hjz : j < zs.length := by omega
    have hb := bounds_u32 (hwz _ (List.getElem_mem hjz))
    simp only [List.getD_eq_getElem?_getD, List.getElem?_eq_getElem hjz, List.getElem?_map, List.getElem?_take_of_lt hj, Option.map_some, Option.getD_some, U]
    rw [Int.toNat_of_nonneg hb.1]
end Go.Proofs.Ytjfihcnjhjgdpaa

namespace Go.Proofs.Ytjfihcnjhjgdpaa
open Go.ChangeShapes Go.WideShapes Go.ChangeAt Go.RowKit

theorem open_nat {H : Type} {enc : TypeId × Value → H} {W : World} {n : Nat} {c : Value} {y : DataW H × List MemPlace} (h : DataW.trod enc Try.prog W 0 (fun _ => true) true n 25 [c] = some y) : ∃ ao l cap xs, c = .slice ao l cap ∧ Num W (.slice ao l cap) xs := by
  rcases open_ints Try.underlying25 Try.underlying39 (by kernel_rfl) h with ⟨hcs, _⟩ | ⟨x, l, c, zs, hcs, _, hl, hm, hz, _, hcell, hwz⟩
  · simp only [List.cons.injEq, and_true] at hcs
    exact ⟨_, _, _, [], hcs, Num.of_nil _⟩
  · simp only [List.cons.injEq, and_true] at hcs
    obtain ⟨xs, hn⟩ := num_of_ints hl hm (by simpa using hz) hcell hwz
    exact ⟨_, _, _, xs, hcs, hn⟩
set_option maxRecDepth 100000 in
theorem open_rat {H : Type} {enc : TypeId × Value → H} {W : World} {b0 : Nat} {r : Reach} {v : Value} {d : DataW H} {p : List MemPlace} (hv : Value.okWide Try.prog W r b0 29 v) (h : DataW.Trod enc Try.prog W 0 (fun _ => true) true 29 v d p) :
    ∃ n ao bo al ac bl bc xs ys, v = .agg #[.bool n, .slice ao al ac, .slice bo bl bc] ∧ Num W (.slice ao al ac) xs ∧ Num W (.slice bo bl bc) ys := by
  obtain ⟨cs, rfl, hsz⟩ := okWide_struct Try.underlying29 hv
  obtain ⟨c0, c1, c2, rfl⟩ := Joins.array3 (hsz.trans (show Try.prog.cellsOf 29 = 3 by kernel_rfl))
  obtain ⟨fuel, hf⟩ := h
  obtain ⟨y0, y1, n, _, _, h0, h1⟩ := trod_struct2 Try.underlying29 hf
  have e0 : Try.prog.cellsOf 27 = 2 := by kernel_rfl
  have e1 : Try.prog.cellsOf 25 = 1 := by kernel_rfl
  have e2 : Try.prog.cellsOf 4 = 1 := by kernel_rfl
  have k0 : DataW.trod enc Try.prog W 0 (fun _ => true) true n 27 [c0, c1] = some y0 := by simpa [Value.cells, e0] using h0
  have k1 : DataW.trod enc Try.prog W 0 (fun _ => true) true n 25 [c2] = some y1 := by simpa [Value.cells, e1] using h1
  obtain ⟨z0, z1, n2, _, _, m0, m1⟩ := trod_struct2 Try.underlying27 k0
  have l0 : DataW.trod enc Try.prog W 0 (fun _ => true) true n2 4 [c0] = some z0 := by simpa [e2] using m0
  have l1 : DataW.trod enc Try.prog W 0 (fun _ => true) true n2 25 [c1] = some z1 := by simpa [e1] using m1
  obtain ⟨g, eg, _⟩ := DataW.trod_bool Try.underlying4 l0
  simp only [List.cons.injEq, and_true] at eg
  obtain ⟨ao, al, ac, xs, rfl, hx⟩ := open_nat l1
  obtain ⟨bo, bl, bc, ys, rfl, hy⟩ := open_nat k1
  subst eg
  exact ⟨g, ao, bo, al, ac, bl, bc, xs, ys, rfl, hx, hy⟩
end Go.Proofs.Ytjfihcnjhjgdpaa

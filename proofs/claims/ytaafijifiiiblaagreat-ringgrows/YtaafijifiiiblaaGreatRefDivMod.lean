/-
  Proved here: what the plain way's DivMod answers.
-/
import Derived.Test.YtaafijifiiiblaaGreatRefDoubleAll
import Derived.Test.YtaafijifiiiblaaGreatDivMathAll
import Derived.Test.YtaafijifiiiblaaGreatAlive0All
namespace Go.Proofs.YtaafijifiiiblaaGreat
open Go.RowKit

/-- What the plain way's DivMod leaves. -/
def RDivEnd (w : World) (a b : Nat) (e : Ending) (w' : World) : Prop :=
  ∃ q r, e = .returned (.tuple #[q, r, .int .i64 (errZ b)]) ∧ Own w.heap.size 100 w' q (lim (a / b)) ∧ Own w.heap.size 100 w' r (lim (modZ a b)) ∧ Below w.heap.size w w'

theorem Cells.below {g : Nat} {w w' : World} {zs : List Nat} (h : Cells w g zs) (hb : Below w.heap.size w w') : Cells w' g zs :=
  ⟨h.1, by rw [hb.block g (Array.getElem?_eq_some_iff.1 h.2).1]; exact h.2⟩
theorem lim_twice {R Y k : Nat} (h : R < 2 * Y) (hk : (lim Y).length ≤ k) : (lim R).length ≤ k + 1 := by
  have h9 : Y < 4294967296 ^ k := lim_lt_of_len hk
  refine lim_len_le ?_
  rw [Nat.pow_succ]
  generalize (4294967296 : Nat) ^ k = P at *
  omega
theorem bl_lenR {xs : List Nat} {k : Nat} (h : limbs xs) (hk : xs.length ≤ k) : bl (val xs) ≤ 32 * k := by
  by_cases h0 : val xs = 0
  · rw [h0, show bl 0 = 0 by decide]; omega
  · obtain ⟨m, e, h3, h4⟩ := bl_bounds h0
    have h5 := val_lt h
    have h6 : (4294967296 : Nat) ^ xs.length = 2 ^ (32 * xs.length) := by rw [Nat.pow_mul]
    rw [h6] at h5
    have := (Nat.pow_lt_pow_iff_right (by decide : 1 < 2)).1 (Nat.lt_of_le_of_lt h3 h5)
    omega

set_option maxRecDepth 100000 in
set_option maxHeartbeats 6400000 in
theorem divMod_ref (u v : Value) (xs ys : List Nat) (w : World) (hu : Num w u xs) (hv : Num w v ys) (lx : xs.length ≤ 4000) (ly : ys.length ≤ 4000) :
    Calls Tryz.prog 103 #[u, v] w fun e w' => RDivEnd w (val xs) (val ys) e w' := by
  obtain ⟨i0, hi, hz0, hz1, hz2⟩ := info_parts Tryz.infoU
  have hblA := bl_lenR hu.1 lx
  have hltA := bl_lt (val xs)
  obtain ⟨Y, hY⟩ : ∃ Y, Y = val ys := ⟨_, rfl⟩
  have hlY : (lim Y).length ≤ 4000 := by rw [hY]; exact Nat.le_trans (lim_len_le (val_lt hv.1)) ly
  have HYV : Hid (val ys = Y) := hY.symm
  rw [← hY]
  clear hY
  obtain ⟨ao, cap, rfl, hl1, hm1⟩ := hu.ao
  go_enter Tryz.func103, Tryz.ntmps103
  go_wp2_with fail
  refine (norm_ref _ _ _ hv (by omega)).mono ?_
  rw [HYV.out]
  rintro e w1 ⟨y, rfl, hoy, b1⟩
  have nu := hu.below (Nat.le_refl _) b1
  obtain ⟨yo, yc, rfl, hyc, hym⟩ := hoy.num.ao
  obtain ⟨m, hm⟩ : ∃ m, m = (lim Y).length := ⟨_, rfl⟩
  have HM : Hid ((lim Y).length = m) := hm.symm
  rw [← hm] at hlY hoy hyc ⊢
  clear hm hu hv
  by_cases hm0 : m = 0
  · subst hm0
    have hb0 := lim_len_zero HM.out
    have HE : Hid (RDivEnd w (val xs) Y (.returned (.tuple #[.slice none 0 0, .slice none 0 0, .int .i64 11])) w1) := by
      subst hb0
      exact ⟨_, _, rfl, by rw [Nat.div_zero]; exact Own.of_nil _ _ _, Own.of_nil _ _ _, b1⟩
    clear nu hoy b1
    go_wp2_with fail
    go_ret3
    exact HE.out
  · have hm0' : ((m : Int) == 0) = false := by simp; omega
    have hYp : 0 < Y := by
      rcases Nat.eq_zero_or_pos Y with h | h
      · exfalso; apply hm0; rw [← HM.out, h]; rfl
      · exact h
    have HYP : Hid (0 < Y ∧ errZ Y = 0) := ⟨hYp, by unfold errZ; rw [if_neg (by omega)]⟩
    clear hm0 hYp
    go_wp2_with fail
    refine (bits_ref _ _ _ nu (by omega)).mono ?_
    rintro e w2 ⟨rfl, b2⟩
    replace nu := nu.below (Nat.le_refl _) b2
    replace hoy := hoy.below b2
    replace b1 := bstep b1 b2
    clear b2
    obtain ⟨A, hA⟩ : ∃ A, A = val xs := ⟨_, rfl⟩
    rw [← hA] at hblA hltA ⊢
    have HA : Hid (val xs = A) := hA.symm
    obtain ⟨n, hn⟩ : ∃ n, n = bl A := ⟨_, rfl⟩
    rw [← hn] at hblA hltA ⊢
    have HLT : Hid (A < 2 ^ n) := hltA
    clear hn hltA hA
    obtain ⟨L, hL⟩ : ∃ L, L = (n + 31) / 32 := ⟨_, rfl⟩
    have HL : Hid (L = (n + 31) / 32) := hL
    have hL2 : L ≤ 10000 := by omega
    have eL : ((n : Int) + 31).tdiv 32 = (L : Int) := by rw [Int.tdiv_eq_ediv_of_nonneg (by omega)]; omega
    have eL2 : ((n : Int) + 31) / 32 = (L : Int) := by omega
    have hS1 := b1.size
    clear hL
    go_wp2_with (at_make; refine wpList_make_full _ rfl _ _ 23 rfl w.heap.size 100 i0 (.int .u32 0) 1 Tryz.underlying23 hi hz0 hz1 _ _ _ _ L rfl rfl (by omega) (by omega) (by rw [hz2]; omega) (by unfold maxLen; omega) hS1 ?_)
    intro w3 ho2 hg2
    have how := own_made ho2
    have hbel : Below w2.heap.size w2 w3 := (Below.refl w2.heap.size w2).grown hg2 (Nat.le_refl _) (by intro k hk; simp at hk)
    obtain ⟨g, hg⟩ : ∃ g, g = w2.heap.size := ⟨_, rfl⟩
    have HG : Hid (g = w2.heap.size) := hg
    have HB : Hid (Below w2.heap.size w2 w3 ∧ Cells w3 g (List.replicate L 0)) := by rw [hg]; exact ⟨hbel, how.cells⟩
    rw [← hg]
    clear hg hbel how ho2 hg2
    go_wp2
    go_loopw [10, 11] (fun rv t wr => ∃ (i : Nat) (zs : List Nat), i ≤ n ∧ t = .int .i64 ((i : Int) - 1) ∧ zs.length = L ∧ Cells wr g zs ∧ Own (g + 1) 100 wr rv (lim (A / 2 ^ i % Y)) ∧ Below w2.heap.size w2 wr ∧ val zs = A / 2 ^ i / Y * 2 ^ i) (fun _ t _ => (intOf t + 1).toNat)
    case atStart =>
      refine ⟨n, List.replicate L 0, Nat.le_refl _, rfl, by simp, HB.out.2, ?_, HB.out.1, ?_⟩
      · rw [Nat.div_eq_of_lt HLT.out, Nat.zero_mod]; exact Own.of_nil _ _ _
      · rw [Nat.div_eq_of_lt HLT.out, Nat.zero_div, Nat.zero_mul]; exact val_zeros fun x hx => List.eq_of_mem_replicate hx
    case round =>
      clear HB
      obtain ⟨i, zs, hin, rfl, hzl, hcs, hor, hbel, hinv⟩ := hrel
      have HZ : Hid (zs.length = L) := hzl
      have HI : Hid (val zs = A / 2 ^ i / Y * 2 ^ i) := hinv
      clear hzl hinv
      obtain ⟨ro, rl, rc, rfl⟩ := hor.sl
      have hgs : g + 1 ≤ wr.heap.size := (Array.getElem?_eq_some_iff.1 hcs.2).1
      by_cases hi0 : 0 < i
      · obtain ⟨j, rfl⟩ : ∃ j, i = j + 1 := ⟨i - 1, by omega⟩
        rw [show ((j + 1 : Nat) : Int) - 1 = (j : Int) by omega]
        have hge : (0 : Int) ≤ (j : Int) := by omega
        have hrY : A / 2 ^ (j + 1) % Y < Y := Nat.mod_lt _ HYP.out.1
        have hspl := bit_split A j
        obtain ⟨X, hX⟩ : ∃ X, X = A / 2 ^ (j + 1) := ⟨_, rfl⟩
        rw [← hX] at hor hrY hspl
        have HIX : Hid (val zs = X / Y * 2 ^ (j + 1)) := by show _ = _; rw [hX]; exact HI.out
        clear HI hX
        have hbt := bit_ref _ xs (j : Int) wr (nu.below (Nat.le_refl _) hbel) (by omega) (by omega)
        rw [HA.out, Int.toNat_natCast] at hbt
        obtain ⟨t, ht⟩ : ∃ t, t = A / 2 ^ j % 2 := ⟨_, rfl⟩
        rw [← ht] at hbt hspl
        have ht1 : t ≤ 1 := by omega
        have HSP : Hid (A / 2 ^ j = 2 * X + t) := hspl
        clear ht hspl
        have hrl : (lim (X % Y)).length ≤ 4000 := Nat.le_trans (lim_len_le (Nat.lt_of_lt_of_le hrY (Nat.le_of_lt (lim_lt_of_len (Nat.le_refl _))))) (by rw [HM.out]; exact hlY)
        go_wp2_with fail
        refine hbt.mono ?_
        rintro e w4 ⟨rfl, rfl⟩
        clear hbt
        go_wp2_with fail
        refine (double_ref _ _ t _ hor.num (by omega) ht1).mono ?_
        rintro e w5 ⟨d, ds, rfl, hod, hdv, hdl, _, b5⟩
        rw [val_lim] at hdv
        obtain ⟨do_, dl, dc, rfl⟩ := hod.sl
        replace hcs := hcs.below b5
        replace hbel := bstep hbel b5
        go_wp2_with fail
        refine (norm_ref _ _ _ hod.num (by omega)).mono ?_
        rw [hdv]
        rintro e w6 ⟨r, rfl, hor2, b6⟩
        obtain ⟨R, hR⟩ : ∃ R, R = 2 * (X % Y) + t := ⟨_, rfl⟩
        have HR : Hid (2 * (X % Y) + t = R) := hR.symm
        rw [← hR] at hor2
        replace hcs := hcs.below b6
        replace hbel := bstep hbel b6
        have hg6 : g + 1 ≤ w5.heap.size := Nat.le_trans hgs b5.size
        replace hor2 := hor2.mono (B' := g + 1) hg6
        have hrl2 : (lim R).length ≤ 4001 := lim_twice (k := 4000) (show R < 2 * Y by omega) (by rw [HM.out]; exact hlY)
        have hyn := hoy.num.below (Nat.le_refl _) hbel
        obtain ⟨ro2, rl2, rc2, rfl⟩ := hor2.sl
        clear hR hod hdv hdl b5 b6 hor
        go_wp2_with fail
        refine (cmp_ref _ _ _ _ _ hor2.num hyn (by omega) (by rw [HM.out]; omega)).mono ?_
        rw [val_lim, val_lim]
        rintro e w7 ⟨rfl, rfl⟩
        by_cases hc : R < Y
        · rw [cmpN_lt hc]
          have HN : Hid (A / 2 ^ j % Y = R ∧ A / 2 ^ j / Y = 2 * (X / Y)) := by
            have := div_two_no HR.out hc HYP.out.1
            exact ⟨by rw [HSP.out]; exact this.2, by rw [HSP.out]; exact this.1⟩
          clear hc hyn hrY
          go_wp2
          go_roundw
          case rel =>
            refine ⟨j, zs, by omega, by go_num, HZ.out, hcs, ?_, hbel, ?_⟩
            · rw [HN.out.1]; exact hor2
            · rw [HN.out.2, HIX.out, Nat.pow_succ, Nat.mul_comm 2 (X / Y), Nat.mul_assoc, Nat.mul_comm 2]
          case measure => simp [intOf]
        · have hcm : 0 ≤ cmpN R Y := by
            rcases cmpN_cases R Y with ⟨h, e⟩ | ⟨h, e⟩ | ⟨h, e⟩ <;> rw [e] <;> omega
          have HN : Hid (A / 2 ^ j % Y = R - Y ∧ A / 2 ^ j / Y = 2 * (X / Y) + 1) := by
            have := div_two_yes HR.out ht1 (by omega) HYP.out.1
            exact ⟨by rw [HSP.out]; exact this.2, by rw [HSP.out]; exact this.1⟩
          have hsub := sub_ref_yes _ _ _ _ w7 hor2.num hyn (by omega) (by rw [HM.out]; omega) (by rw [val_lim, val_lim]; omega)
          rw [val_lim, val_lim] at hsub
          generalize cmpN R Y = cm at *
          clear hyn hrY hc
          go_wp2_with fail
          refine hsub.mono ?_
          rintro e w8 ⟨r3, rfl, hor3, b8⟩
          have hg8 : g + 1 ≤ w7.heap.size := (Array.getElem?_eq_some_iff.1 hcs.2).1
          replace hcs := hcs.below b8
          replace hbel := bstep hbel b8
          replace hor3 := hor3.mono (B' := g + 1) hg8
          obtain ⟨ro3, rl3, rc3, rfl⟩ := hor3.sl
          clear hor2 hsub b8
          obtain ⟨q, hq⟩ : ∃ q, q = j / 32 := ⟨_, rfl⟩
          obtain ⟨r, hr⟩ : ∃ r, r = j % 32 := ⟨_, rfl⟩
          have e1 : (j : Int) / 32 = (q : Int) := by omega
          have e2 : (j : Int) % 32 = (r : Int) := by omega
          have e3 : (j : Int).tdiv 32 = (q : Int) := by rw [Int.tdiv_eq_ediv_of_nonneg (by omega)]; exact e1
          have e4 : (j : Int).tmod 32 = (r : Int) := by rw [Int.tmod_eq_emod_of_nonneg (by omega)]; exact e2
          have hr1 : r ≤ 31 := by omega
          have hqL : q < L := by have := HL.out; omega
          have hqL' : (q : Int) < (L : Int) := by omega
          have hq0 : (0 : Int) ≤ (q : Int) := by omega
          have hpl := pow_place j
          rw [← hq, ← hr] at hpl
          have hroom := limb_room hcs.1 HIX.out hpl hr1
          have hpull := pull_bit (r := r) (q := q) (by rw [HZ.out]; exact hqL) HIX.out hpl
          obtain ⟨cz, hfz⟩ := hcs.cell (k := q) (by rw [HZ.out]; exact hqL)
          obtain ⟨z, hz⟩ : ∃ z, z = zs.getD q 0 := ⟨_, rfl⟩
          rw [← hz] at cz hroom hpull
          obtain ⟨T, hT⟩ : ∃ T, T = 2 ^ r := ⟨_, rfl⟩
          rw [← hT] at hroom hpull
          have eT : (1 : Int) * 2 ^ r = (T : Int) := by rw [hT]; simp
          have eT2 : (2 : Int) ^ r = (T : Int) := by rw [hT]; simp
          have k1 : IntKind.i64.wrap (q : Int) = (q : Int) := by rw [IntKind.wrap_i64]; omega
          have k3 : IntKind.u32.wrap (T : Int) = (T : Int) := by rw [IntKind.wrap_u32]; omega
          have k4 : IntKind.u32.wrap ((z : Int) + (T : Int)) = (z : Int) + (T : Int) := by rw [IntKind.wrap_u32]; omega
          have k5 : (r : Int) ≤ 32 := by omega
          have hset := hcs.set q (z + T) (by omega)
          have hbel2 := hbel.setCell (p := ⟨g, q, none⟩) (by show _ ≤ g; rw [HG.out]; exact Nat.le_refl _) (U (z + T))
          have hor4 : Own (g + 1) 100 (w8.setCell ⟨g, q, none⟩ (U (z + T))) (.slice ro3 rl3 rc3) (lim (R - Y)) := ⟨hor3.1, ownsRow_setCell_below hor3.2 (Nat.lt_succ_self g) _⟩
          rw [show U (z + T) = .int .u32 ((z : Int) + (T : Int)) by simp [U]] at hset hbel2 hor4
          have HP : Hid (val (zs.set q (z + T)) = (2 * (X / Y) + 1) * 2 ^ j) := hpull
          have hT31 : T ≤ 2147483648 := by rw [hT]; exact Nat.le_trans (Nat.pow_le_pow_right (by decide) hr1) (by decide)
          clear hq hr hpl hz hT hcs hbel hor3 hpull
          go_wp2
          go_region
          all_goals
            go_wp2
            go_roundw
            case rel => 
              refine ⟨j, _, by omega, by go_num, by rw [List.length_set]; exact HZ.out, ⟨hset.1, hset.2⟩, ?_, hbel2.drew, ?_⟩
              · rw [HN.out.1]; exact hor4
              · rw [HN.out.2]; exact HP.out
            case measure => simp [intOf]
      · have hi1 : i = 0 := by omega
        subst hi1
        have hge : ¬ (0 : Int) ≤ ((0 : Nat) : Int) - 1 := by omega
        have hfin := HI.out
        rw [Nat.pow_zero, Nat.div_one, Nat.mul_one] at hfin
        rw [Nat.pow_zero, Nat.div_one] at hor
        have hny : Num wr (.slice (some ⟨g, 0, none⟩) L L) zs := by
          have := (hcs.own (B := 0) (Nat.zero_le _) (by rw [HZ.out]; omega)).num
          rw [HZ.out] at this; exact this
        have HH : Hid (val zs = A / Y) := hfin
        have hBW : Below w.heap.size w wr := b1.trans (hbel.mono b1.size)
        clear hfin hcs
        go_wp2_with fail
        refine (norm_ref _ _ _ hny (by rw [HZ.out]; omega)).mono ?_
        rintro e w3 ⟨o, rfl, hoo, hb3⟩
        rw [HH.out] at hoo
        obtain ⟨oo, ol, oc, rfl⟩ := hoo.sl
        have HE : Hid (RDivEnd w (val xs) Y (.returned (.tuple #[.slice oo ol oc, .slice ro rl rc, .int .i64 0])) w3) := by
          show RDivEnd _ _ _ _ _
          rw [HA.out]
          refine ⟨_, _, by rw [HYP.out.2], hoo.mono hBW.size, ?_, bstep hBW hb3⟩
          have h1 := (hor.below hb3).mono (B' := w.heap.size) (Nat.le_trans b1.size (by rw [HG.out]; exact Nat.le_succ _))
          have h2 : modZ A Y = A % Y := by unfold modZ; rw [if_neg (by have := HYP.out.1; omega)]
          rw [h2]; exact h1
        clear hoo hb3 hbel hny hor hBW
        go_wp2_with fail
        go_ret3
        exact HE.out
end Go.Proofs.YtaafijifiiiblaaGreat

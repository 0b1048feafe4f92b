/-
  Proved here: what Root answers.
-/
import Derived.Test.YtmcnpiajnehnlaaDoorDivMod
import Derived.Test.YtmcnpiajnehnlaaDoorRootMath
import Derived.Test.YtmcnpiajnehnlaaDoorValAt
import Derived.Test.YtmcnpiajnehnlaaDoorPowMath
namespace Go.Proofs.YtmcnpiajnehnlaaDoor
open Go.RowKit

/-- What Root leaves. -/
def RootEnd (w : World) (a : Nat) (e : Ending) (w' : World) : Prop :=
  ∃ r v, e = .returned v ∧ IsRoot r a ∧ Own w.heap.size 32 w' v (lim r) ∧ Below w.heap.size w w'
/-- What above leaves. -/
def AboveEnd (w : World) (a : Nat) (e : Ending) (w' : World) : Prop :=
  ∃ r v, e = .returned v ∧ 0 < r ∧ a < (r + 1) * (r + 1) ∧ (lim r).length ≤ 3000 ∧ Own w.heap.size 32 w' v (lim r) ∧ Below w.heap.size w w'

theorem lim_succ_len (r : Nat) : (lim (r + 1)).length ≤ (lim r).length + 1 := by
  apply lim_len_le
  have h1 := lim_lt_of_len (n := r) (Nat.le_refl _)
  have h2 : 4294967296 ^ (lim r).length < 4294967296 ^ ((lim r).length + 1) := Nat.pow_lt_pow_right (by decide) (by omega)
  omega
theorem lim_add_len {a b k : Nat} (ha : (lim a).length ≤ k) (hb : (lim b).length ≤ k) : (lim (a + b)).length ≤ k + 1 := by
  apply lim_len_le
  have h1 := lim_lt_of_len ha
  have h2 := lim_lt_of_len hb
  rw [Nat.pow_succ]
  omega
/-- A lifted row, cut. -/
theorem lift_trim {B g L v : Nat} {w : World} {zs : List Nat} (hl : zs.length = L) (hc : Cells w g zs) (hv : val zs = v) (hB : B ≤ g) (hL : L ≤ 9223372036854775807) {k : Nat} (hk : k ≤ zs.length) (hkt : zs.take k = lim (val zs)) :
    Own B 32 w (cutTo (.slice (some ⟨g, 0, none⟩) L L) k) (lim v) := by
  have h1 := hc.own (B := B) hB (by omega)
  rw [hl] at h1
  have h2 := h1.cut hk
  rw [hkt, hv] at h2
  exact h2

set_option maxRecDepth 100000 in
set_option maxHeartbeats 1600000 in
theorem above_any (a : Nat) (ih : ∀ (v : Value) (xs : List Nat) (w : World), Num w v xs → val xs < a → xs.length ≤ 1000 → Calls Tryd.prog 36 #[v] w fun e w' => RootEnd w (val xs) e w')
    (v : Value) (w : World) (h : Num w v (lim a)) (ha : a ≠ 0) (hlen : (lim a).length ≤ 1000) :
    Calls Tryd.prog 70 #[v] w fun e w' => AboveEnd w a e w' := by
  obtain ⟨ao, ac, rfl, hac, ham⟩ := h.ao
  obtain ⟨k, hk⟩ : ∃ k, k = (lim a).length := ⟨_, rfl⟩
  rw [← hk] at hlen hac h ⊢
  have HK : Hid (k = (lim a).length) := hk
  obtain ⟨n, hn⟩ : ∃ n, n = bl a := ⟨_, rfl⟩
  have hn1 : n ≤ 32 * k := by rw [hn, hk]; exact bl_lim_len
  have hn0 : 1 ≤ n := by
    obtain ⟨m, e, _⟩ := bl_bounds ha
    omega
  have HN : Hid (n = bl a) := hn
  have HLT : Hid (a < 2 ^ n) := by rw [hn]; exact bl_lt' a
  clear hk
  go_enter Tryd.func70, Tryd.ntmps70
  go_wp2_with fail
  refine (bits_any _ _ _ h (by rw [← HK.out]; omega)).mono ?_
  rintro e w1 ⟨rfl, rfl⟩
  rw [val_lim, ← hn]
  clear hn
  by_cases hk2 : k ≤ 2
  · have hk2' : (k : Int) ≤ 2 := by omega
    obtain ⟨q, hq⟩ : ∃ q, q = (n + 1) / 2 := ⟨_, rfl⟩
    have eq : ((n : Int) + 1) / 2 = (q : Int) := by omega
    have HQ : Hid (q = (n + 1) / 2) := hq
    have hq64 : q ≤ 64 := by omega
    clear hq
    go_wp2_with fail
    refine (of_any 1 _ (by omega)).mono ?_
    rintro e w2 ⟨o, rfl, ho, hb2⟩
    have hl1 : (lim 1).length = 1 := rfl
    go_wp2_with fail
    refine (lift_any _ _ q _ ho.num (by omega) (by omega)).mono ?_
    rintro e w3 ⟨zs, rfl, hzl, hcz, hvz, hb3⟩
    rw [val_lim, Nat.one_mul] at hvz
    go_wp2_with fail
    have hnz := (hcz.own (B := 0) (Nat.zero_le _) (by omega)).num
    rw [hzl] at hnz
    refine (trim_any _ _ _ hnz).mono ?_
    rintro e w4 ⟨⟨j, hj, hjt, rfl⟩, rfl⟩
    have ho2 := lift_trim (B := w1.heap.size) hzl hcz hvz hb2.size (by omega) hj hjt
    have HE : Hid (AboveEnd w1 a (.returned (cutTo (.slice (some ⟨w2.heap.size, 0, none⟩) ((lim 1).length + q / 32 + 1) ((lim 1).length + q / 32 + 1)) j)) w4) := by
      refine ⟨2 ^ q, _, rfl, Nat.two_pow_pos _, ?_, ?_, ho2, hb2.trans (hb3.mono hb2.size)⟩
      · rw [HQ.out]; exact above_low HLT.out
      · rw [← hvz, ← hjt, List.length_take]; omega
    clear ho2 hb2 hb3 hnz hcz ho hvz hjt
    go_wp2_with fail
    go_ret
    exact HE.out
  · have hk2' : ¬ (k : Int) ≤ 2 := by omega
    have hn65 : 4 ≤ n := by
      rcases Nat.lt_or_ge n 4 with h4 | h4
      · have h1 := HLT.out
        have h2 : (2 : Nat) ^ n ≤ 2 ^ 3 := Nat.pow_le_pow_right (by decide) (by omega)
        have h3 : (lim a).length ≤ 1 := lim_len_le (by rw [Nat.pow_one]; omega)
        rw [← HK.out] at h3; omega
      · exact h4
    obtain ⟨q, hq⟩ : ∃ q, q = n / 4 := ⟨_, rfl⟩
    have eq : (n : Int) / 4 = (q : Int) := by omega
    have hq1 : 1 ≤ q := by omega
    have hq2 : q ≤ 8000 := by omega
    have hdr := drop_any _ _ (q * 2) w1 h (by rw [← HK.out]; omega) (by omega)
    rw [val_lim, Int.natCast_mul] at hdr
    have HDR : Hid (Calls Tryd.prog 71 #[.slice ao k ac, .int .i64 ((q : Int) * 2)] w1 fun e w' => Made' w1.heap.size w1 (lim (a / 2 ^ (q * 2))) e w') := hdr
    clear hdr hq h
    go_wp2_with fail
    refine HDR.out.mono ?_
    rintro e w2 ⟨d, rfl, hd, hb2⟩
    clear HDR
    have hdl : (lim (a / 2 ^ (q * 2))).length ≤ 1000 := by
      have := lim_len_of_lt (Nat.div_le_self a (2 ^ (q * 2)))
      rw [← HK.out] at this; omega
    have hdv : a / 2 ^ (q * 2) < a := Nat.div_lt_self (by omega) (Nat.lt_of_lt_of_le (by decide : 1 < 2 ^ 1) (Nat.pow_le_pow_right (by decide) (by omega)))
    go_wp2_with fail
    refine (ih _ _ _ hd.num (by rw [val_lim]; exact hdv) hdl).mono ?_
    rw [val_lim]
    rintro e w3 ⟨r, rv, rfl, hr, hor, hb3⟩
    have hrl : (lim r).length ≤ 1000 := by
      have := lim_len_of_lt (root_le hr.1)
      omega
    have hB3 := hb2.trans (hb3.mono hb2.size)
    have HR : Hid (a / 2 ^ (2 * q) < (r + 1) * (r + 1)) := by rw [Nat.mul_comm 2 q]; exact hr.2
    clear hr hd hb2 hb3
    go_wp2_with fail
    refine (of_any 1 _ (by omega)).mono ?_
    rintro e w4 ⟨o, rfl, ho, hb4⟩
    have hl1 : (lim 1).length = 1 := rfl
    go_wp2_with fail
    refine (add_any _ _ _ _ _ (hor.num.below (Nat.le_refl _) hb4) ho.num (by omega) (by omega)).mono ?_
    rw [val_lim, val_lim]
    rintro e w5 ⟨hv, rfl, hoh, hb5⟩
    have hB5 := (hB3.trans (hb4.mono hB3.size)).trans (hb5.mono (Nat.le_trans hB3.size hb4.size))
    have hhl : (lim (r + 1)).length ≤ 1001 := by have := lim_succ_len r; omega
    clear hB3 hb4 hb5 ho hor
    go_wp2_with fail
    refine (lift_any _ _ q _ hoh.num (by omega) (by omega)).mono ?_
    rintro e w6 ⟨zs, rfl, hzl, hcz, hvz, hb6⟩
    rw [val_lim] at hvz
    have hnz := (hcz.own (B := 0) (Nat.zero_le _) (by omega)).num
    rw [hzl] at hnz
    go_wp2_with fail
    refine (trim_any _ _ _ hnz).mono ?_
    rintro e w7 ⟨⟨j, hj, hjt, rfl⟩, rfl⟩
    have ho2 := lift_trim (B := w1.heap.size) hzl hcz hvz hB5.size (by omega) hj hjt
    have HE : Hid (AboveEnd w1 a (.returned (cutTo (.slice (some ⟨w5.heap.size, 0, none⟩) ((lim (r + 1)).length + q / 32 + 1) ((lim (r + 1)).length + q / 32 + 1)) j)) w7) := by
      refine ⟨(r + 1) * 2 ^ q, _, rfl, Nat.mul_pos (by omega) (Nat.two_pow_pos _), above_half HR.out, ?_, ho2, hB5.trans (hb6.mono hB5.size)⟩
      rw [← hvz, ← hjt, List.length_take]; omega
    clear ho2 hb6 hB5 hnz hcz hoh hvz hjt
    go_wp2_with fail
    go_ret
    exact HE.out

set_option maxRecDepth 100000 in
set_option maxHeartbeats 1600000 in
theorem root_all : ∀ (a : Nat) (v : Value) (xs : List Nat) (w : World), Num w v xs → val xs = a → xs.length ≤ 1000 → Calls Tryd.prog 36 #[v] w fun e w' => RootEnd w a e w' := by
  intro a
  induction a using Nat.strongRecOn with
  | ind a IH =>
  intro v xs w h hva hlen
  have ih : ∀ (v : Value) (xs : List Nat) (w : World), Num w v xs → val xs < a → xs.length ≤ 1000 → Calls Tryd.prog 36 #[v] w fun e w' => RootEnd w (val xs) e w' := fun v xs w h1 h2 h3 => IH (val xs) h2 v xs w h1 rfl h3
  clear IH
  obtain ⟨ao, ac, rfl, hac, ham⟩ := h.ao
  go_enter Tryd.func36, Tryd.ntmps36
  go_wp2_with fail
  refine (trim_any _ _ _ h).mono ?_
  rintro e w1 ⟨⟨k, hk, hkt, rfl⟩, rfl⟩
  have na := h.cut hk
  rw [hkt, hva] at na
  have hkl : (lim a).length = k := by rw [← hva, ← hkt]; simp; omega
  simp only [cutTo] at na ⊢
  clear hkt h hva
  have HKL : Hid ((lim a).length = k) := hkl
  clear hkl
  by_cases hk0 : k = 0
  · subst hk0
    have ha0 := lim_len_zero HKL.out
    have HE : Hid (RootEnd w1 a (.returned (.slice none 0 0)) w1) := by
      subst ha0
      exact ⟨0, _, rfl, ⟨by omega, by omega⟩, Own.of_nil _ _ _, Below.refl _ _⟩
    clear na ih
    go_wp2_with fail
    go_ret
    exact HE.out
  · have hk0' : ¬ (k : Int) = 0 := by omega
    have ha0 : a ≠ 0 := by intro h; subst h; exact hk0 (by rw [← HKL.out]; rfl)
    go_wp2_with fail
    refine (above_any a ih _ _ na ha0 (by rw [HKL.out]; omega)).mono ?_
    rintro e w2 ⟨r, rv, rfl, hr0, hr1, hrl, hor, hb2⟩
    clear ih
    have HST : Hid (∃ r, 0 < r ∧ a < (r + 1) * (r + 1) ∧ (lim r).length ≤ 3000 ∧ Own w1.heap.size 32 w2 rv (lim r) ∧ Below w1.heap.size w1 w2) := ⟨r, hr0, hr1, hrl, hor, hb2⟩
    clear hr0 hr1 hrl hor hb2
    go_wp2_with fail
    go_loopw [3] (fun t wr => ∃ r, 0 < r ∧ a < (r + 1) * (r + 1) ∧ (lim r).length ≤ 3000 ∧ Own w1.heap.size 32 wr t (lim r) ∧ Below w1.heap.size w1 wr) (fun t wr => valAt wr t)
    case atStart => exact HST.out
    case round =>
      clear HST
      obtain ⟨r, hr0, hr1, hrl, hor, hbel⟩ := hrel
      have HR1 : Hid (a < (r + 1) * (r + 1)) := hr1
      clear hr1
      have hrn : r ≠ 0 := by omega
      have na2 := na.below (Nat.le_refl _) hbel
      go_wp2_with fail
      refine (divMod_any _ _ _ _ _ na2 hor.num (by rw [HKL.out]; omega)).mono ?_
      rw [val_lim, val_lim]
      rintro e w3 ⟨q, m, rfl, hoq, hom, hap, hb3⟩
      have hql : (lim (a / r)).length ≤ 3000 := by
        have := lim_len_of_lt (Nat.div_le_self a r)
        rw [HKL.out] at this; omega
      clear hom hap na2
      go_wp2_with fail
      refine (add_any _ _ _ _ _ (hor.num.below (Nat.le_refl _) hb3) hoq.num (by omega) (by omega)).mono ?_
      rw [val_lim, val_lim]
      rintro e w4 ⟨s, rfl, hos, hb4⟩
      have hsl := lim_add_len hrl hql
      have hor4 := (hor.below hb3).below hb4
      have hbel4 := (hbel.trans (hb3.mono hbel.size)).trans (hb4.mono (Nat.le_trans hbel.size hb3.size))
      clear hoq hb3 hb4
      have hdr := drop_any _ _ 1 w4 hos.num (by omega) (by omega)
      rw [val_lim, Nat.pow_one] at hdr
      have HDR : Hid (Calls Tryd.prog 71 #[s, .int .i64 1] w4 fun e w' => Made' w4.heap.size w4 (lim ((r + a / r) / 2)) e w') := hdr
      clear hdr hos hbel
      go_wp2_with fail
      refine HDR.out.mono ?_
      rintro e w5 ⟨n, rfl, hon, hb5⟩
      clear HDR
      have hor5 := hor4.below hb5
      have hbel5 := hbel4.trans (hb5.mono hbel4.size)
      have hon5 := hon.mono hbel4.size
      clear hor4 hon hb5 hbel4
      obtain ⟨nx, hnx⟩ : ∃ nx, nx = (r + a / r) / 2 := ⟨_, rfl⟩
      rw [← hnx] at hon5
      have HNX : Hid (nx = (r + a / r) / 2) := hnx
      have HM : Hid (valAt wr u3 = r) := by show _ = _; rw [valAt_eq hor.num, val_lim]
      clear hnx hor
      go_wp2_with fail
      refine (cmp_any _ _ _ _ _ hon5.num hor5.num).mono ?_
      rw [val_lim, val_lim]
      rintro e w6 ⟨rfl, kq, hw6⟩
      have hor6 := hor5.same (w' := w6) (by rw [hw6, heap_drewN])
      have hon6 := hon5.same (w' := w6) (by rw [hw6, heap_drewN])
      have hbel6 : Below w1.heap.size w1 w6 := by rw [hw6]; exact below_drewN hbel5 kq
      clear hor5 hon5 hbel5 hw6
      by_cases hlt : nx < r
      · rw [cmpN_lt hlt]
        go_wp2_with fail
        go_roundw
        case rel =>
          refine ⟨nx, ?_, ?_, ?_, hon6, hbel6⟩
          · rw [HNX.out]; exact newton_pos hr0 ha0
          · rw [HNX.out]; exact newton_next hr0
          · have := lim_len_of_lt (Nat.le_of_lt hlt); omega
        case measure =>
          rw [valAt_eq hon6.num, val_lim, HM.out]; exact hlt
      · have hc : cmpN nx r = 0 ∨ cmpN nx r = 1 := by
          rcases cmpN_cases nx r with h | h | h
          · exact absurd h.1 hlt
          · exact Or.inl h.2
          · exact Or.inr h.2
        obtain ⟨c, hcc⟩ : ∃ c, c = cmpN nx r := ⟨_, rfl⟩
        rw [← hcc] at hc ⊢
        have hc0 : 0 ≤ c := by omega
        have HE : Hid (RootEnd w1 a (.returned u3) w6) := ⟨r, u3, rfl, ⟨newton_stop hr0 (by rw [← HNX.out]; omega), HR1.out⟩, hor6, hbel6⟩
        clear hcc hc hor6 hon6 hbel6
        go_wp2_with fail
        go_ret
        exact HE.out
theorem root_any (v : Value) (xs : List Nat) (w : World) (h : Num w v xs) (hl : xs.length ≤ 1000) : Calls Tryd.prog 36 #[v] w fun e w' => RootEnd w (val xs) e w' := root_all _ v xs w h rfl hl
end Go.Proofs.YtmcnpiajnehnlaaDoor

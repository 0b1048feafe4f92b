/-
  Proved here: alive answers true.
-/
import Derived.Test.YtmcnpiajnehnlaaDoorAlive0
import Derived.Test.YtmcnpiajnehnlaaDoorLawSame
import Derived.Test.YtmcnpiajnehnlaaDoorText
import Derived.Test.YtmcnpiajnehnlaaDoorPow
import Derived.Test.YtmcnpiajnehnlaaDoorRoot
namespace Go.Proofs.YtmcnpiajnehnlaaDoor
open Go.RowKit

theorem lit1 (w : World) (x : Nat) (hx : x < 4294967296) : Num (w.alloc (.cells #[.int .u32 (x : Int)] 32)) (.slice (some ⟨w.heap.size, 0, none⟩) 1 1) [x] :=
  (Own.lit (B := 0) 32 w #[.int .u32 (x : Int)] [x] (by intro y hy; simp at hy; omega) (Nat.zero_le _) (by simp [maxLen]) (by simp [U])).num
theorem lit2 (w : World) (x y : Nat) (hx : x < 4294967296) (hy : y < 4294967296) : Num (w.alloc (.cells #[.int .u32 (x : Int), .int .u32 (y : Int)] 32)) (.slice (some ⟨w.heap.size, 0, none⟩) 2 2) [x, y] :=
  (Own.lit (B := 0) 32 w #[.int .u32 (x : Int), .int .u32 (y : Int)] [x, y] (by intro z hz; simp at hz; omega) (Nat.zero_le _) (by simp [maxLen]) (by simp [U])).num
theorem lim_one {x : Nat} (h : x < 4294967296) (h0 : x ≠ 0) : lim x = [x] := by rw [lim_pos h0, Nat.mod_eq_of_lt h, Nat.div_eq_of_lt h, lim_zero]
theorem lim_2_40 : lim 1099511627776 = [0, 256] := by rw [lim_pos (by decide), lim_pos (by decide)]; rfl
theorem lim_32_1 : lim 4294967297 = [1, 1] := by rw [lim_pos (by decide), lim_pos (by decide)]; rfl
theorem root_2_40 {r : Nat} (h : IsRoot r 1099511627776) : r = 1048576 := h.unique ⟨by decide, by decide⟩
theorem dig_4297 : DigOk ⟨#[52, 50, 57, 52, 57, 54, 55, 50, 57, 55]⟩ ∧ 0 < (⟨#[52, 50, 57, 52, 57, 54, 55, 50, 57, 55]⟩ : ByteArray).size := by decide
theorem bval_4297 : bval (dgs ⟨#[52, 50, 57, 52, 57, 54, 55, 50, 57, 55]⟩) = 4294967297 := rfl
theorem txt_4297 : txt 4294967297 = ⟨#[52, 50, 57, 52, 57, 54, 55, 50, 57, 55]⟩ := by kernel_rfl

set_option maxRecDepth 100000 in
set_option maxHeartbeats 6400000 in
theorem alive_yes (w : World) : Calls Tryd.prog 6 #[] w fun e w' => e = .returned (.bool true) ∧ Below w.heap.size w w' := by
  have s7 := lit1 w 7 (by decide)
  have s100 := lit1 (w.alloc (.cells #[.int .u32 7] 32)) 100 (by decide)
  rw [World.size_alloc] at s100
  have b1 : Below w.heap.size w ((w.alloc (.cells #[.int .u32 7] 32)).alloc (.cells #[.int .u32 100] 32)) := ((Below.refl w.heap.size w).alloc (Nat.le_refl _) _).alloc (by simp) _
  replace s7 : Num ((w.alloc (.cells #[.int .u32 7] 32)).alloc (.cells #[.int .u32 100] 32)) (.slice (some ⟨w.heap.size, 0, none⟩) 1 1) [7] := s7.alloc _
  go_enter Tryd.func6, Tryd.ntmps6
  go_wp2_with fail
  refine (divMod_any _ _ _ _ _ s100 s7 (by simp)).mono ?_
  rintro e w2 ⟨q, r, rfl, hq, hr, _, hb⟩
  rw [show errZ (val [7]) = 0 from rfl]
  replace hq := hq.num
  replace hr := hr.num
  rw [show lim (val [100] / val [7]) = [14] from lim_one (by decide) (by decide)] at hq
  rw [show lim (modZ (val [100]) (val [7])) = [2] from lim_one (by decide) (by decide)] at hr
  replace s7 := s7.below (Nat.le_refl _) hb
  replace b1 := bstep b1 hb
  clear s100 hb
  have s2 := lit1 w2 2 (by decide)
  have hp := pow_any _ _ 40 _ s2 (by simp) (by decide)
  go_wp2_with fail
  refine hp.mono ?_
  rintro e w3 ⟨hp1, _, hb⟩
  obtain ⟨p, rfl, hp⟩ := hp1 (by rw [show val [2] ^ 40 = 1099511627776 from rfl]; decide)
  rw [show val [2] ^ 40 = 1099511627776 from rfl, lim_2_40] at hp
  replace hp := hp.num
  replace hb := bstep (belowA w2 (.cells #[.int .u32 2] 32)) hb
  replace s7 := s7.below (Nat.le_refl _) hb
  replace hq := hq.below (Nat.le_refl _) hb
  replace hr := hr.below (Nat.le_refl _) hb
  replace b1 := bstep b1 hb
  clear s2 hb hp1
  go_wp2_with fail
  refine (parse_any _ _ (by decide)).mono ?_
  rintro e w4 ⟨n, rfl, hn, hb⟩
  rw [if_pos dig_4297]
  rw [if_pos dig_4297, bval_4297, lim_32_1] at hn
  replace hn := hn.num
  replace s7 := s7.below (Nat.le_refl _) hb
  replace hq := hq.below (Nat.le_refl _) hb
  replace hr := hr.below (Nat.le_refl _) hb
  replace hp := hp.below (Nat.le_refl _) hb
  replace b1 := bstep b1 hb
  clear hb
  have l14 := lit1 w4 14 (by decide)
  go_wp2_with fail
  refine (lsame_any _ _ _ _ _ (hq.alloc _) l14).mono ?_
  rintro e w5 ⟨rfl, k, hk⟩
  rw [show decide ([14] = [14]) = true from rfl]
  have hb : Below w4.heap.size w4 w5 := bstep (belowA w4 (.cells #[.int .u32 14] 32)) (by rw [hk]; exact belowDN _ _)
  replace s7 := s7.below (Nat.le_refl _) hb
  replace hq := hq.below (Nat.le_refl _) hb
  replace hr := hr.below (Nat.le_refl _) hb
  replace hp := hp.below (Nat.le_refl _) hb
  replace hn := hn.below (Nat.le_refl _) hb
  replace b1 := bstep b1 hb
  clear hb hk l14
  have l2 := lit1 w5 2 (by decide)
  go_wp2_with fail
  refine (lsame_any _ _ _ _ _ (hr.alloc _) l2).mono ?_
  rintro e w6 ⟨rfl, k, hk⟩
  rw [show decide ([2] = [2]) = true from rfl]
  have hb : Below w5.heap.size w5 w6 := bstep (belowA w5 (.cells #[.int .u32 2] 32)) (by rw [hk]; exact belowDN _ _)
  replace s7 := s7.below (Nat.le_refl _) hb
  replace hq := hq.below (Nat.le_refl _) hb
  replace hp := hp.below (Nat.le_refl _) hb
  replace hn := hn.below (Nat.le_refl _) hb
  replace b1 := bstep b1 hb
  clear hb hk l2 hr
  have l256 := lit2 w6 0 256 (by decide) (by decide)
  go_wp2_with fail
  refine (lsame_any _ _ _ _ _ (hp.alloc _) l256).mono ?_
  rintro e w7 ⟨rfl, k, hk⟩
  rw [show decide ([0, 256] = [0, 256]) = true from rfl]
  have hb : Below w6.heap.size w6 w7 := bstep (belowA w6 (.cells #[.int .u32 0, .int .u32 256] 32)) (by rw [hk]; exact belowDN _ _)
  replace s7 := s7.below (Nat.le_refl _) hb
  replace hq := hq.below (Nat.le_refl _) hb
  replace hp := hp.below (Nat.le_refl _) hb
  replace hn := hn.below (Nat.le_refl _) hb
  replace b1 := bstep b1 hb
  clear hb hk l256
  have l11 := lit2 w7 1 1 (by decide) (by decide)
  go_wp2_with fail
  refine (lsame_any _ _ _ _ _ (hn.alloc _) l11).mono ?_
  rintro e w8 ⟨rfl, k, hk⟩
  rw [show decide ([1, 1] = [1, 1]) = true from rfl]
  have hb : Below w7.heap.size w7 w8 := bstep (belowA w7 (.cells #[.int .u32 1, .int .u32 1] 32)) (by rw [hk]; exact belowDN _ _)
  replace s7 := s7.below (Nat.le_refl _) hb
  replace hq := hq.below (Nat.le_refl _) hb
  replace hp := hp.below (Nat.le_refl _) hb
  replace b1 := bstep b1 hb
  clear hb hk l11 hn
  have l11 := lit2 w8 1 1 (by decide) (by decide)
  go_wp2_with fail
  refine (text_any _ _ _ l11 (by simp)).mono ?_
  rintro e w9 ⟨rfl, hb⟩
  rw [show val [1, 1] = 4294967297 from rfl, txt_4297]
  replace hb := bstep (belowA w8 (.cells #[.int .u32 1, .int .u32 1] 32)) hb
  replace s7 := s7.below (Nat.le_refl _) hb
  replace hq := hq.below (Nat.le_refl _) hb
  replace hp := hp.below (Nat.le_refl _) hb
  replace b1 := bstep b1 hb
  clear hb l11
  go_wp2_with fail
  refine (add_any _ _ _ _ _ s7 s7 (by simp) (by simp)).mono ?_
  rintro e w10 ⟨t, rfl, ht, hb⟩
  rw [show lim (val [7] + val [7]) = [14] from lim_one (by decide) (by decide)] at ht
  replace ht := ht.num
  replace s7 := s7.below (Nat.le_refl _) hb
  replace hq := hq.below (Nat.le_refl _) hb
  replace hp := hp.below (Nat.le_refl _) hb
  replace b1 := bstep b1 hb
  clear hb
  have l14 := lit1 w10 14 (by decide)
  go_wp2_with fail
  refine (lsame_any _ _ _ _ _ (ht.alloc _) l14).mono ?_
  rintro e w11 ⟨rfl, k, hk⟩
  rw [show decide ([14] = [14]) = true from rfl]
  have hb : Below w10.heap.size w10 w11 := bstep (belowA w10 (.cells #[.int .u32 14] 32)) (by rw [hk]; exact belowDN _ _)
  replace s7 := s7.below (Nat.le_refl _) hb
  replace hq := hq.below (Nat.le_refl _) hb
  replace hp := hp.below (Nat.le_refl _) hb
  replace b1 := bstep b1 hb
  clear hb hk l14 ht
  go_wp2_with fail
  refine (mul_any _ _ _ _ _ s7 s7 (by simp) (by simp)).mono ?_
  rintro e w12 ⟨t, rfl, ht, hb⟩
  rw [show lim (val [7] * val [7]) = [49] from lim_one (by decide) (by decide)] at ht
  replace ht := ht.num
  replace s7 := s7.below (Nat.le_refl _) hb
  replace hq := hq.below (Nat.le_refl _) hb
  replace hp := hp.below (Nat.le_refl _) hb
  replace b1 := bstep b1 hb
  clear hb
  have l49 := lit1 w12 49 (by decide)
  go_wp2_with fail
  refine (lsame_any _ _ _ _ _ (ht.alloc _) l49).mono ?_
  rintro e w13 ⟨rfl, k, hk⟩
  rw [show decide ([49] = [49]) = true from rfl]
  have hb : Below w12.heap.size w12 w13 := bstep (belowA w12 (.cells #[.int .u32 49] 32)) (by rw [hk]; exact belowDN _ _)
  replace s7 := s7.below (Nat.le_refl _) hb
  replace hq := hq.below (Nat.le_refl _) hb
  replace hp := hp.below (Nat.le_refl _) hb
  replace b1 := bstep b1 hb
  clear hb hk l49 ht
  go_wp2_with fail
  refine (cmp_any _ _ _ _ _ s7 hq).mono ?_
  rintro e w14 ⟨rfl, k, hk⟩
  rw [show cmpN (val [7]) (val [14]) = -1 from rfl]
  have hb : Below w13.heap.size w13 w14 := by rw [hk]; exact belowDN _ _
  replace hp := hp.below (Nat.le_refl _) hb
  replace b1 := bstep b1 hb
  clear hb hk s7 hq
  go_wp2_with fail
  refine (root_any _ _ _ hp (by simp)).mono ?_
  rintro e w15 ⟨rt, t, rfl, hrt, ht, hb⟩
  rw [root_2_40 hrt, show lim 1048576 = [1048576] from lim_one (by decide) (by decide)] at ht
  replace ht := ht.num
  replace b1 := bstep b1 hb
  clear hb hrt hp
  have l20 := lit1 w15 1048576 (by decide)
  go_wp2_with fail
  refine (lsame_any _ _ _ _ _ (ht.alloc _) l20).mono ?_
  rintro e w16 ⟨rfl, k, hk⟩
  rw [show decide ([1048576] = [1048576]) = true from rfl]
  have hb : Below w15.heap.size w15 w16 := bstep (belowA w15 (.cells #[.int .u32 1048576] 32)) (by rw [hk]; exact belowDN _ _)
  have HE : Hid (Below w.heap.size w w16) := bstep b1 hb
  clear hb hk l20 ht b1
  go_wp2_with fail
  go_ret
  exact ⟨rfl, HE.out⟩
end Go.Proofs.YtmcnpiajnehnlaaDoor

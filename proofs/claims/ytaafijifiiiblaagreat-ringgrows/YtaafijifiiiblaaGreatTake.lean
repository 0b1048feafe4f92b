/-
  Proved here: what takeTimes and putBack do.
-/
import Derived.Test.YtaafijifiiiblaaGreatDivMathAll
namespace Go.Proofs.YtaafijifiiiblaaGreat
open Go.RowKit

theorem Num.grown {w w' : World} {ao : Option Addr} {k cap g : Nat} {xs : List Nat} (h : Num w (.slice ao k cap) xs) (hne : ∀ a, ao = some a → a.block ≠ g) (hg : w.grownBy w' (some g)) : Num w' (.slice ao k cap) xs := by
  obtain ⟨h0, ao', cap', e, h1, h2, h3, h4⟩ := h
  simp only [Value.slice.injEq] at e
  obtain ⟨rfl, e2, rfl⟩ := e
  refine ⟨h0, ao, cap, by rw [e2], h1, h2, h3, fun j hj => ?_⟩
  obtain ⟨b, off, e, hc⟩ := h4 j hj
  refine ⟨b, off, e, ?_⟩
  exact hg.cell hc (by have := hne _ e; simp only [ne_eq, Option.some.injEq]; exact this)
/-- What takeTimes leaves. -/
def TakeEnd (w0 : World) (g off n : Nat) (zs b : List Nat) (q : Nat) (e : Ending) (w' : World) : Prop :=
  ∃ (zs' : List Nat) (t : Nat), e = .returned (.bool ((t : Int) != 0)) ∧ t ≤ 1 ∧ zs'.length = zs.length ∧ Cells w' g zs' ∧ w0.grownBy w' (some g) ∧
    (∀ j, j < off ∨ off + n ≤ j → zs'.getD j 0 = zs.getD j 0) ∧ low (zs'.drop off) n + val b * q = low (zs.drop off) n + 4294967296 ^ n * t

set_option maxRecDepth 100000 in
set_option maxHeartbeats 1600000 in
theorem takeTimes_any (ao : Option Addr) (kb capb : Nat) (b zs : List Nat) (g off m cap : Nat) (qI : Int) (w0 w : World) (hb : Num w0 (.slice ao kb capb) b) (hne : ∀ a, ao = some a → a.block ≠ g) (hg : w0.grownBy w (some g)) (hc : Cells w g zs)
    (hm : m = b.length + 1) (hoff : off + m ≤ zs.length) (hmc : m ≤ cap) (hcm : cap ≤ 9223372036854775807) (hq0 : 0 ≤ qI) (hq1 : qI < 4294967296) :
    Calls Tryz.prog 153 #[.slice (some ⟨g, off, none⟩) m cap, .slice ao kb capb, .int .u32 qI] w fun e w' => TakeEnd w0 g off m zs b qI.toNat e w' := by
  obtain ⟨q, rfl⟩ := Int.eq_ofNat_of_zero_le hq0
  rw [Int.toNat_natCast]
  have hq32 : q < 4294967296 := by omega
  have HM : Hid (m = b.length + 1) := hm
  have HC0 : Hid (Cells w g zs) := hc
  have HG0 : Hid (w0.grownBy w (some g)) := hg
  have HNE : Hid (∀ a, ao = some a → a.block ≠ g) := hne
  clear hm hc hg hne hq0
  go_enter Tryz.func153, Tryz.ntmps153
  go_wp2
  go_loopw [7, 8, 13] (fun cv bv t wr => ∃ (i c bw : Nat) (ys : List Nat), i ≤ m ∧ t = .int .i64 i ∧ cv = .int .u64 c ∧ bv = .int .u64 bw ∧ c = low b i * q / 4294967296 ^ i ∧ bw ≤ 1 ∧ ys.length = zs.length ∧ Cells wr g ys ∧ w0.grownBy wr (some g) ∧ (∀ j, j < off ∨ off + i ≤ j → ys.getD j 0 = zs.getD j 0) ∧ low (zs.drop off) i * 1 + 4294967296 ^ i * (c + bw) = low b i * q + low (ys.drop off) i + 4294967296 ^ i * 0) (fun _ _ t _ => m - (intOf t).toNat)
  case atStart => exact ⟨0, 0, 0, zs, Nat.zero_le _, rfl, rfl, rfl, by simp [low_zero], by omega, rfl, HC0.out, HG0.out, fun _ _ => rfl, by simp [low_zero]⟩
  case round =>
    clear HC0 HG0
    obtain ⟨i, c, bw, ys, him, rfl, rfl, rfl, hce, hbw, hyl, hcs, hgr, hout, hinv⟩ := hrel
    have HCE : Hid (c = low b i * q / 4294967296 ^ i) := hce
    have HY : Hid (ys.length = zs.length) := hyl
    have HO : Hid (∀ j, j < off ∨ off + i ≤ j → ys.getD j 0 = zs.getD j 0) := hout
    have HI : Hid (low (zs.drop off) i * 1 + 4294967296 ^ i * (c + bw) = low b i * q + low (ys.drop off) i + 4294967296 ^ i * 0) := hinv
    have hc32 : c < 4294967296 := by rw [hce]; exact carry_lt hb.1 hq32 i
    clear hce hyl hout hinv
    by_cases hlt : i < m
    · have hlt' : (i : Int) < (m : Int) := by omega
      have nb2 := hb.grown HNE.out hgr
      obtain ⟨cz, hfz⟩ := hcs.cell (k := off + i) (by rw [HY.out]; omega)
      have hx0 := limb_lt hcs.1 (off + i)
      have hy0 := limb_lt hb.1 i
      obtain ⟨x, hx⟩ : ∃ x, x = ys.getD (off + i) 0 := ⟨_, rfl⟩
      obtain ⟨y, hy⟩ : ∃ y, y = b.getD i 0 := ⟨_, rfl⟩
      rw [← hx] at cz hx0
      rw [← hy] at hy0
      have HX : Hid (x = (zs.drop off).getD i 0) := by show _ = _; rw [hx, getD_drop]; exact HO.out _ (by omega)
      have HYY : Hid (y = b.getD i 0) := hy
      have sb := mul_bound hy0 hq32
      obtain ⟨s, hs⟩ : ∃ s, s = y * q := ⟨_, rfl⟩
      rw [← hs] at sb
      have es : (y : Int) * (q : Int) = (s : Int) := by rw [hs]; exact (Int.natCast_mul y q).symm
      have HS : Hid (s = y * q) := hs
      have em := and_mask (c + s) (by omega)
      obtain ⟨MM, hMM⟩ : ∃ MM, MM = (c + s) % 4294967296 := ⟨_, rfl⟩
      rw [← hMM, Int.natCast_add] at em
      obtain ⟨D1, D, b', dl, e1, e2, hD, e3, e4, hb', hdl, heq⟩ := sub_wrap x MM bw hx0 (by omega) hbw
      have HMM : Hid (MM = (c + s) % 4294967296) := hMM
      have HEQ : Hid (x + 4294967296 * b' = MM + bw + dl) := heq
      have hset := hcs.set (off + i) dl hdl
      have hgr2 := grownBy_set hgr (off + i) (U dl)
      rw [show U dl = .int .u32 (dl : Int) from rfl] at hset hgr2
      clear hx hy hs hMM heq hcs hgr
      go_wp2_with fail
      refine (limb_any _ _ _ _ nb2 (by omega)).mono ?_
      rintro e w3 ⟨rfl, rfl⟩
      rw [Int.toNat_natCast, ← HYY.out]
      clear nb2
      go_wp2
      go_roundw
      case rel =>
        refine ⟨i + 1, (c + s) / 4294967296, b', _, by omega, by go_num, by go_num, by go_num, ?_, hb', by rw [List.length_set]; exact HY.out, hset, hgr2, fun j hj => ?_, ?_⟩
        · rw [HS.out, HYY.out]; exact carry_step HCE.out
        · rw [getD_set_off _ _ _ _ (by omega)]; exact HO.out j (by omega)
        · have := blend_step (xs := zs.drop off) (ys := b) (zs := ys.drop off) (i := i) (u := 1) (v := q) (p := 0) (m := c) (b := bw) (d := dl) (by simp; rw [HY.out]; omega) HI.out b' (by rw [← HX.out, ← HYY.out, ← HS.out, ← HMM.out, Nat.zero_add, Nat.mul_one, Nat.mod_eq_of_lt hx0]; exact HEQ.out)
          rw [← HX.out, ← HYY.out, ← HS.out, ← drop_set_add, Nat.zero_add, Nat.mul_one x, Nat.div_eq_of_lt hx0] at this
          exact this
      case measure => simp [intOf]; omega
    · have hlt' : ¬ (i : Int) < (m : Int) := by omega
      have hi : i = m := by omega
      have HE : Hid (TakeEnd w0 g off m zs b q (.returned (.bool ((bw : Int) != 0))) wr) := by
        refine ⟨ys, bw, rfl, hbw, HY.out, hcs, hgr, by rw [← hi]; exact HO.out, ?_⟩
        have hI := HI.out
        have hC := HCE.out
        rw [hi, HM.out, carry_end hb.1 hq32] at hC
        rw [hC, hi, low_all (xs := b) (by rw [HM.out]; omega), Nat.zero_add, Nat.mul_zero] at hI
        omega
      clear hi hcs hgr HI HO HCE
      go_wp2
      go_ret
      exact HE.out

/-- What putBack leaves. -/
def PutEnd (w0 : World) (g off n : Nat) (zs b : List Nat) (e : Ending) (w' : World) : Prop :=
  ∃ (zs' : List Nat) (c : Nat), e = .returned (.tuple #[]) ∧ zs'.length = zs.length ∧ Cells w' g zs' ∧ w0.grownBy w' (some g) ∧
    (∀ j, j < off ∨ off + n ≤ j → zs'.getD j 0 = zs.getD j 0) ∧ low (zs'.drop off) n + 4294967296 ^ n * c = low (zs.drop off) n + val b

set_option maxRecDepth 100000 in
set_option maxHeartbeats 1600000 in
theorem putBack_any (ao : Option Addr) (kb capb : Nat) (b zs : List Nat) (g off m cap : Nat) (w0 w : World) (hb : Num w0 (.slice ao kb capb) b) (hne : ∀ a, ao = some a → a.block ≠ g) (hg : w0.grownBy w (some g)) (hc : Cells w g zs)
    (hm : m = b.length + 1) (hoff : off + m ≤ zs.length) (hmc : m ≤ cap) (hcm : cap ≤ 9223372036854775807) :
    Calls Tryz.prog 154 #[.slice (some ⟨g, off, none⟩) m cap, .slice ao kb capb] w fun e w' => PutEnd w0 g off m zs b e w' := by
  have HM : Hid (m = b.length + 1) := hm
  have HC0 : Hid (Cells w g zs) := hc
  have HG0 : Hid (w0.grownBy w (some g)) := hg
  have HNE : Hid (∀ a, ao = some a → a.block ≠ g) := hne
  clear hm hc hg hne
  go_enter Tryz.func154, Tryz.ntmps154
  go_wp2
  go_loopw [4, 8] (fun cv t wr => ∃ (i c : Nat) (ys : List Nat), i ≤ m ∧ t = .int .i64 i ∧ cv = .int .u64 c ∧ c ≤ 1 ∧ ys.length = zs.length ∧ Cells wr g ys ∧ w0.grownBy wr (some g) ∧ (∀ j, j < off ∨ off + i ≤ j → ys.getD j 0 = zs.getD j 0) ∧ low (ys.drop off) i + 4294967296 ^ i * c = low (zs.drop off) i + low b i) (fun _ t _ => m - (intOf t).toNat)
  case atStart => exact ⟨0, 0, zs, Nat.zero_le _, rfl, rfl, by omega, rfl, HC0.out, HG0.out, fun _ _ => rfl, by simp [low_zero]⟩
  case round =>
    clear HC0 HG0
    obtain ⟨i, c, ys, him, rfl, rfl, hc1, hyl, hcs, hgr, hout, hinv⟩ := hrel
    have HY : Hid (ys.length = zs.length) := hyl
    have HO : Hid (∀ j, j < off ∨ off + i ≤ j → ys.getD j 0 = zs.getD j 0) := hout
    have HI : Hid (low (ys.drop off) i + 4294967296 ^ i * c = low (zs.drop off) i + low b i) := hinv
    clear hyl hout hinv
    by_cases hlt : i < m
    · have hlt' : (i : Int) < (m : Int) := by omega
      have nb2 := hb.grown HNE.out hgr
      obtain ⟨cz, hfz⟩ := hcs.cell (k := off + i) (by rw [HY.out]; omega)
      have hx0 := limb_lt hcs.1 (off + i)
      have hy0 := limb_lt hb.1 i
      obtain ⟨x, hx⟩ : ∃ x, x = ys.getD (off + i) 0 := ⟨_, rfl⟩
      obtain ⟨y, hy⟩ : ∃ y, y = b.getD i 0 := ⟨_, rfl⟩
      rw [← hx] at cz hx0
      rw [← hy] at hy0
      have HX : Hid (x = (zs.drop off).getD i 0) := by show _ = _; rw [hx, getD_drop]; exact HO.out _ (by omega)
      have HYY : Hid (y = b.getD i 0) := hy
      have hlim : ∀ W, W.heap = wr.heap → Calls Tryz.prog 139 #[.slice ao kb capb, .int .i64 (i : Int)] W fun e w' => e = .returned (.int .u64 (y : Int)) ∧ w' = W := fun W hW => by
        have := limb_any _ _ (i : Int) W (nb2.same hW) (by omega)
        rw [Int.toNat_natCast, ← hy] at this
        exact this
      have HLIM : Hid (∀ W, W.heap = wr.heap → Calls Tryz.prog 139 #[.slice ao kb capb, .int .i64 (i : Int)] W fun e w' => e = .returned (.int .u64 (y : Int)) ∧ w' = W) := hlim
      clear hx hy hlim nb2
      go_wp2
      go_quiet ((go_at_call 139; exact Calls.quiet_of_same (HLIM.out _ (heap_drewN _ _))))
      have hcs2 : Cells (wr.drewN nq) g ys := ⟨hcs.1, by rw [heap_drewN]; exact hcs.2⟩
      have hgr2 : w0.grownBy (wr.drewN nq) (some g) := ⟨(below_drewN (Below.refl 0 wr) nq).os.trans hgr.os, (below_drewN (Below.refl 0 wr) nq).tape.trans hgr.tape, (below_drewN (Below.refl 0 wr) nq).output.trans hgr.output, by rw [heap_drewN]; exact hgr.size, fun k hk hne => by rw [heap_drewN]; exact hgr.block k hk hne⟩
      clear hcs hgr cz hfz HLIM
      generalize wr.drewN nq = W at *
      obtain ⟨cz, hfz⟩ := hcs2.cell (k := off + i) (by rw [HY.out]; omega)
      have hset := hcs2.set (off + i) ((c + (x + y)) % 4294967296) (by omega)
      have hgr3 := grownBy_set hgr2 (off + i) (U ((c + (x + y)) % 4294967296))
      rw [show U ((c + (x + y)) % 4294967296) = .int .u32 (((c : Int) + ((x : Int) + (y : Int))) % 4294967296) by simp [U]] at hset hgr3
      obtain ⟨z, hz⟩ : ∃ z, z = ys.getD (off + i) 0 := ⟨_, rfl⟩
      rw [← hz] at cz
      clear hcs2 hgr2 hz
      go_wp2
      go_roundw
      case rel =>
        refine ⟨i + 1, (c + (x + y)) / 4294967296, _, by omega, by go_num, by go_num, by omega, by rw [List.length_set]; exact HY.out, hset, hgr3, fun j hj => ?_, ?_⟩
        · rw [getD_set_off _ _ _ _ (by omega)]; exact HO.out j (by omega)
        · rw [drop_set_add, HX.out, HYY.out]
          exact add_step (by simp; rw [HY.out]; omega) HI.out
      case measure => simp [intOf]; omega
    · have hlt' : ¬ (i : Int) < (m : Int) := by omega
      have hi : i = m := by omega
      have HE : Hid (PutEnd w0 g off m zs b (.returned (.tuple #[])) wr) := by
        refine ⟨ys, c, rfl, HY.out, hcs, hgr, by rw [← hi]; exact HO.out, ?_⟩
        have hI := HI.out
        rw [hi, low_all (xs := b) (by rw [HM.out]; omega)] at hI
        exact hI
      clear hi hcs hgr HI HO
      go_wp2
      go_end0
      exact HE.out
end Go.Proofs.YtaafijifiiiblaaGreat

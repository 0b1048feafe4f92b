/-
  Proved here: what DivMod answers.
  Proved here: small steps from world to world.
-/
import Derived.Test.YtaafijifiiiblaaGreatLong2
import Derived.Test.YtaafijifiiiblaaGreatSubAll
import Derived.Test.YtaafijifiiiblaaGreatSmallAll
import Derived.Test.YtaafijifiiiblaaGreatTrimAll
namespace Go.Proofs.YtaafijifiiiblaaGreat
open Go.RowKit

def errZ (b : Nat) : Int := if b = 0 then 11 else 0
def modZ (a b : Nat) : Nat := if b = 0 then 0 else a % b
/-- What DivMod leaves. -/
def DivEnd (w : World) (a b : Nat) (e : Ending) (w' : World) : Prop :=
  ∃ q r, e = .returned (.tuple #[q, r, .int .i64 (errZ b)]) ∧ Own w.heap.size 100 w' q (lim (a / b)) ∧ Own w.heap.size 100 w' r (lim (modZ a b)) ∧ (q.ownBlock = none ∨ q.ownBlock ≠ r.ownBlock) ∧ Below w.heap.size w w'

theorem lim_len_zero {n : Nat} (h : (lim n).length = 0) : n = 0 := by
  rw [← val_lim n, List.length_eq_zero_iff.1 h]; rfl
theorem lim_len_one {n : Nat} (h : (lim n).length = 1) : n < 4294967296 ∧ n ≠ 0 ∧ lim n = [n] := by
  have h1 := lim_lt_of_len (n := n) (k := 1) (by omega)
  rw [Nat.pow_one] at h1
  have h0 : n ≠ 0 := by intro e; subst e; simp [lim_zero] at h
  refine ⟨h1, h0, ?_⟩
  rw [lim_pos h0, Nat.mod_eq_of_lt h1, Nat.div_eq_of_lt h1, lim_zero]

set_option maxRecDepth 100000 in
set_option maxHeartbeats 4000000 in
theorem divMod_any (u v : Value) (xs ys : List Nat) (w : World) (hu : Num w u xs) (hv : Num w v ys) (hbx : xs.length ≤ 274877906944) :
    Calls Tryz.prog 134 #[u, v] w fun e w' => DivEnd w (val xs) (val ys) e w' := by
  obtain ⟨ao, ac, rfl, hac, ham⟩ := hu.ao
  obtain ⟨bo, bc, rfl, hbc, hbm⟩ := hv.ao
  obtain ⟨a, ha⟩ : ∃ a, a = val xs := ⟨_, rfl⟩
  obtain ⟨b, hb⟩ : ∃ b, b = val ys := ⟨_, rfl⟩
  rw [← ha, ← hb]
  go_enter Tryz.func134, Tryz.ntmps134
  go_wp2_with fail
  refine (trim_any _ _ _ hu).mono ?_
  rintro e w1 ⟨⟨k, hk, hkt, rfl⟩, rfl⟩
  go_wp2_with fail
  refine (trim_any _ _ _ hv).mono ?_
  rintro e w2 ⟨⟨m, hm, hmt, rfl⟩, rfl⟩
  have na := hu.cut hk
  have nb := hv.cut hm
  rw [hkt, ← ha] at na
  rw [hmt, ← hb] at nb
  have hkl : (lim a).length = k := by rw [ha, ← hkt]; simp; omega
  have hml : (lim b).length = m := by rw [hb, ← hmt]; simp; omega
  simp only [cutTo] at na nb ⊢
  clear hkt hmt ha hb hu hv
  have HKL : Hid ((lim a).length = k) := hkl
  have HML : Hid ((lim b).length = m) := hml
  clear hkl hml
  by_cases hm0 : m = 0
  · subst hm0
    have hb0 := lim_len_zero HML.out
    have HE : Hid (DivEnd w2 a b (.returned (.tuple #[.slice none 0 0, .slice none 0 0, .int .i64 11])) w2) := by
      subst hb0
      exact ⟨_, _, rfl, by rw [Nat.div_zero]; exact Own.of_nil _ _ _, Own.of_nil _ _ _, Or.inl rfl, Below.refl _ _⟩
    clear na nb
    go_wp2_with fail
    go_ret3
    exact HE.out
  · have hm0' : ¬ (m : Int) = 0 := by omega
    have hbn : b ≠ 0 := by intro h; subst h; exact hm0 (by rw [← HML.out]; rfl)
    go_wp2_with fail
    refine (cmp_any _ _ _ _ _ na nb).mono ?_
    rw [val_lim, val_lim]
    rintro e w3 ⟨rfl, kq, hw3⟩
    replace na := na.same (w' := w3) (by rw [hw3, heap_drewN])
    replace nb := nb.same (w' := w3) (by rw [hw3, heap_drewN])
    have hbel3 : Below w2.heap.size w2 w3 := by rw [hw3]; exact below_drewN (Below.refl _ _) kq
    have hs3 : w3.heap.size = w2.heap.size := by rw [hw3, heap_drewN]
    clear hw3
    have HS3 : Hid (w3.heap.size = w2.heap.size) := hs3
    clear hs3
    have HEZ : Hid (errZ b = 0 ∧ modZ a b = a % b) := by unfold errZ modZ; rw [if_neg hbn, if_neg hbn]; exact ⟨rfl, rfl⟩
    by_cases hlt : a < b
    · rw [cmpN_lt hlt]
      go_wp2_with fail
      refine (fresh_any _ _ _ na (by rw [HKL.out]; omega)).mono ?_
      rintro e w4 ⟨r, rfl, hor, hb4⟩
      have HE : Hid (DivEnd w2 a b (.returned (.tuple #[.slice none 0 0, r, .int .i64 0])) w4) := by
        rw [HS3.out] at hor hb4
        refine ⟨_, _, by rw [HEZ.out.1], ?_, ?_, Or.inl rfl, hbel3.trans hb4⟩
        · rw [Nat.div_eq_of_lt hlt]; exact Own.of_nil _ _ _
        · rw [HEZ.out.2, Nat.mod_eq_of_lt hlt]; exact hor
      clear hor hb4 na nb
      go_wp2_with fail
      go_ret3
      exact HE.out
    · have hc : cmpN a b = 0 ∨ cmpN a b = 1 := by
        rcases cmpN_cases a b with h | h | h
        · exact absurd h.1 hlt
        · exact Or.inl h.2
        · exact Or.inr h.2
      obtain ⟨c, hcc⟩ : ∃ c, c = cmpN a b := ⟨_, rfl⟩
      rw [← hcc] at hc ⊢
      have hc0 : ¬ c < 0 := by omega
      clear hcc hc
      have ha0 : a ≠ 0 := by omega
      have hk0 : k ≠ 0 := by intro h; rw [h] at HKL; exact ha0 (lim_len_zero HKL.out)
      by_cases hm1 : m = 1
      · subst hm1
        obtain ⟨hb32, _, hbl⟩ := lim_len_one HML.out
        have hb1' : (0 : Int) < (b : Int) := by omega
        have hcell : ∃ bb off, bo = some ⟨bb, off, none⟩ ∧ w3.cell? ⟨bb, off + 0, none⟩ = some (.int .u32 (b : Int)) := by
          obtain ⟨_, ao', cap', e, _, _, _, h4⟩ := nb
          simp only [Value.slice.injEq] at e
          obtain ⟨rfl, _, rfl⟩ := e
          obtain ⟨bb, off, e1, e2⟩ := h4 0 (by rw [HML.out]; omega)
          rw [hbl] at e2
          exact ⟨bb, off, e1, e2⟩
        obtain ⟨bb, off, rfl, hc1⟩ := hcell
        rw [Nat.add_zero] at hc1
        go_wp2_with fail
        refine (fresh_any _ _ _ na (by rw [HKL.out]; omega)).mono ?_
        rintro e w4 ⟨r, rfl, hor, hb4⟩
        rw [HS3.out] at hor
        obtain ⟨g, cap, rfl, hcap, hcapm⟩ : ∃ g cap, r = .slice (some ⟨g, 0, none⟩) k cap ∧ k ≤ cap ∧ cap ≤ 9223372036854775807 := by
          rcases hor.shape with ⟨_, h⟩ | ⟨g, cap, h1, h2, h3⟩
          · exact absurd (by rw [← HKL.out, h]; rfl) hk0
          · rw [HKL.out] at h1 h2; exact ⟨g, cap, h1, h2, h3⟩
        have hc2 : w4.cell? ⟨bb, off, none⟩ = some (.int .u32 (b : Int)) := by rw [hb4.cell (p := ⟨bb, off, none⟩) (block_lt_of_cell hc1)]; exact hc1
        have hbel4 : Below w2.heap.size w2 w4 := hbel3.trans (by rw [← HS3.out]; exact hb4)
        clear hc1 na nb hbel3 hb4
        go_wp2_with fail
        refine (divideBy_any (lim a) w2.heap.size g k cap (b : Int) w4 hor HKL.out hcap hcapm hb1' (by omega)).mono ?_
        rintro e w5 ⟨ys', rfl, hyl, hoy, hvy, hg5⟩
        rw [Int.toNat_natCast, val_lim] at hvy ⊢
        rw [HKL.out] at hyl hoy
        have hbel5 : Below w2.heap.size w2 w5 := hbel4.grown hg5 hbel4.size (by intro x hx; rw [Option.some.injEq] at hx; rw [← hx]; exact hoy.heap.1)
        have hr32 : a % b < 4294967296 := by have := Nat.mod_lt a (show 0 < b by omega); omega
        obtain ⟨r, hr⟩ : ∃ r, r = a % b := ⟨_, rfl⟩
        rw [← hr] at hr32 ⊢
        have HR : Hid (r = a % b) := hr
        clear hr hc2 hbel4 hg5 hor
        go_wp2_with fail
        refine (trim_any _ _ _ hoy.num).mono ?_
        rintro e w6 ⟨⟨q, hq, hqt, rfl⟩, rfl⟩
        have hoq := hoy.cut hq
        rw [hqt, hvy] at hoq
        go_wp2_with fail
        refine (of_any r _ (by omega)).mono ?_
        rintro e w7 ⟨rv, rfl, hrv, hb7⟩
        have HE : Hid (DivEnd w2 a b (.returned (.tuple #[cutTo (.slice (some ⟨g, 0, none⟩) k cap) q, rv, .int .i64 0])) w7) := by
          refine ⟨_, _, by rw [HEZ.out.1], hoq.below hb7, ?_, apart_later hoq hrv (Nat.le_refl _), hbel5.trans (hb7.mono hbel5.size)⟩
          rw [HEZ.out.2, ← HR.out]; exact hrv.mono hbel5.size
        clear hoq hrv hb7 hbel5 hoy hq hqt hvy
        go_wp2_with fail
        go_ret3
        exact HE.out
      · have hm1' : ¬ (m : Int) = 1 := by omega
        obtain ⟨n, rfl⟩ : ∃ n, m = n + 2 := ⟨m - 2, by omega⟩
        have hkm : n + 2 ≤ k := by
          have := lim_len_of_lt (a := b) (b := a) (by omega)
          rw [HKL.out, HML.out] at this; exact this
        have htop : (lim b).getD (n + 1) 0 ≠ 0 := by
          obtain ⟨q, t, h1, h2, h3, _⟩ := lim_last hbn
          have : q = n + 1 := by have := HML.out; omega
          rw [← this, h2]; exact h3
        have hdl := divideLong_any ao bo ac bc n k (lim a) (lim b) w3 na nb HKL.out HML.out (by omega) hkm htop
        rw [val_lim, val_lim] at hdl
        have HDL : Hid (Calls Tryz.prog 149 #[.slice ao k ac, .slice bo (n + 2) bc] w3 fun e w' => LongEnd w3 a b e w') := hdl
        clear hdl na nb htop
        go_wp2_with fail
        refine HDL.out.mono ?_
        rintro e w4 ⟨q, r, rfl, hoq, hor, hap, hb4⟩
        have HE : Hid (DivEnd w2 a b (.returned (.tuple #[q, r, .int .i64 0])) w4) := by
          rw [HS3.out] at hoq hor hb4
          refine ⟨_, _, by rw [HEZ.out.1], hoq, ?_, hap, hbel3.trans hb4⟩
          rw [HEZ.out.2]; exact hor
        clear hoq hor hap hb4 hbel3 HDL
        go_wp2_with fail
        go_ret3
        exact HE.out
end Go.Proofs.YtaafijifiiiblaaGreat

namespace Go.Proofs.YtaafijifiiiblaaGreat
open Go.RowKit

theorem belowA (w : World) (o : Obj) : Below w.heap.size w (w.alloc o) := (Below.refl _ _).alloc (Nat.le_refl _) o
theorem belowDN (w : World) (q : Nat) : Below w.heap.size w (w.drewN q) := below_drewN (Below.refl _ _) q
theorem belowK {w w' : World} {k : Nat} (h : w' = w.drewN k) : Below w.heap.size w w' := by rw [h]; exact belowDN _ _
/-- One step on. -/
theorem bstep {w wr w' : World} (h : Below w.heap.size w wr) (hb : Below wr.heap.size wr w') : Below w.heap.size w w' := h.trans (hb.mono h.size)
end Go.Proofs.YtaafijifiiiblaaGreat

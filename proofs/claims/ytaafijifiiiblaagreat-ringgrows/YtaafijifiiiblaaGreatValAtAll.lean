/-
  Proved here: what the plain way's half and even answer.
  Proved here: a number that is read in a world is one number.
-/
import Derived.Test.YtaafijifiiiblaaGreatDivMathAll
import Derived.Test.YtaafijifiiiblaaGreatSubAll
import Derived.Test.YtaafijifiiiblaaGreatLiftAll
import Derived.Test.YtaafijifiiiblaaGreatTrimAll
namespace Go.Proofs.YtaafijifiiiblaaGreat
open Go.RowKit

set_option maxRecDepth 100000 in
set_option maxHeartbeats 1600000 in
theorem half_ref (u : Value) (xs : List Nat) (w : World) (h : Num w u xs) (hlen : xs.length ≤ 1000000) :
    Calls Tryz.prog 124 #[u] w fun e w' => Made' w.heap.size w (lim (val xs / 2)) e w' := by
  obtain ⟨hbx, ao, cap, rfl, hca, hma, _, hcell⟩ := h.open_
  obtain ⟨i0, hi, hz0, hz1, hz2⟩ := info_parts Tryz.infoU
  obtain ⟨n, hn⟩ : ∃ n, n = xs.length := ⟨_, rfl⟩
  rw [← hn] at hlen hca ⊢
  have HN : Hid (n = xs.length) := hn
  clear hn h
  go_enter Tryz.func124, Tryz.ntmps124
  go_wp2_with (at_make; refine wpList_make_full _ rfl _ _ 23 rfl w.heap.size 100 i0 (.int .u32 0) 1 Tryz.underlying23 hi hz0 hz1 _ _ _ _ n rfl rfl (by omega) (by omega) (by rw [hz2]; omega) (by unfold maxLen; omega) (Nat.le_refl _) ?_)
  intro w2 ho2 hg2
  have how := own_made ho2
  have hbel : Below w.heap.size w w2 := (Below.refl w.heap.size w).grown hg2 (Nat.le_refl _) (by intro k hk; simp at hk)
  obtain ⟨g, hg⟩ : ∃ g, g = w.heap.size := ⟨_, rfl⟩
  have HB : Hid (Below w.heap.size w w2 ∧ Cells w2 g (List.replicate n 0)) := by rw [hg]; exact ⟨hbel, how.cells⟩
  have HG : Hid (g = w.heap.size) := hg
  rw [← hg]
  clear hg hbel how ho2 hg2
  go_wp2
  go_loopw [4, 5] (fun lv t wr => ∃ (i l : Nat) (ys : List Nat), i ≤ n ∧ t = .int .i64 ((i : Int) - 1) ∧ lv = .int .u64 l ∧ l < 2 ∧ ys.length = n ∧ Cells wr g ys ∧ Below w.heap.size w wr ∧ val (ys.drop i) * 2 + l = val (xs.drop i)) (fun _ t _ => (intOf t + 1).toNat)
  case atStart =>
    refine ⟨n, 0, List.replicate n 0, Nat.le_refl _, rfl, rfl, by omega, by simp, HB.out.2, HB.out.1, ?_⟩
    rw [List.drop_of_length_le (by simp), List.drop_of_length_le (by rw [← HN.out]; exact Nat.le_refl _)]
    simp [val]
  case round =>
    clear HB
    obtain ⟨i, l, ys, hin, rfl, rfl, hlb, hyl, hcs, hbel, hinv⟩ := hrel
    have HY : Hid (ys.length = n) := hyl
    have HI : Hid (val (ys.drop i) * 2 + l = val (xs.drop i)) := hinv
    clear hyl hinv
    by_cases hi0 : 0 < i
    · obtain ⟨j, rfl⟩ : ∃ j, i = j + 1 := ⟨i - 1, by omega⟩
      rw [show ((j + 1 : Nat) : Int) - 1 = (j : Int) by omega]
      have hge : (0 : Int) ≤ (j : Int) := by omega
      have hjn : (j : Int) < (n : Int) := by omega
      obtain ⟨bb, bo, rfl, hx1⟩ := hcell j (by rw [← HN.out]; omega)
      have cx : wr.cell? ⟨bb, bo + j, none⟩ = some (.int .u32 ((xs.getD j 0 : Nat) : Int)) := by rw [hbel.cell (p := ⟨bb, bo + j, none⟩) (block_lt_of_cell hx1)]; exact hx1
      have hx0 := limb_lt hbx j
      obtain ⟨z, hz⟩ : ∃ z, z = xs.getD j 0 := ⟨_, rfl⟩
      rw [← hz] at cx hx0
      have HZ : Hid (z = xs.getD j 0) := hz
      obtain ⟨cz, hfz⟩ := hcs.cell (k := j) (by rw [HY.out]; omega)
      obtain ⟨y, hy⟩ : ∃ y, y = ys.getD j 0 := ⟨_, rfl⟩
      rw [← hy] at cz
      have hT1 : l * 4294967296 + z ≤ 8589934591 := by omega
      have hset := hcs.set j ((l * 4294967296 + z) / 2) (by omega)
      have hbel2 := hbel.setCell (p := ⟨g, j, none⟩) (by show _ ≤ g; rw [HG.out]; exact Nat.le_refl _) (U ((l * 4294967296 + z) / 2))
      rw [show U ((l * 4294967296 + z) / 2) = .int .u32 (((l : Int) * 4294967296 + (z : Int)) / 2) by simp [U]] at hset hbel2
      clear hz hy hcs hbel hcell hx1
      go_wp2
      go_roundw
      case rel =>
        refine ⟨j, (l * 4294967296 + z) % 2, _, by omega, by go_num, by go_num, by omega, by rw [List.length_set]; exact HY.out, hset, hbel2, ?_⟩
        exact div_by_step (by rw [HY.out]; omega) HI.out (by rw [← HZ.out]; omega)
      case measure => simp [intOf]
    · have hi1 : i = 0 := by omega
      subst hi1
      have hge : ¬ (0 : Int) ≤ ((0 : Nat) : Int) - 1 := by omega
      have hfin := HI.out
      rw [List.drop_zero, List.drop_zero] at hfin
      have h1 : val xs % 2 = l := by omega
      have h2 : val ys = val xs / 2 := by omega
      have hny : Num wr (.slice (some ⟨g, 0, none⟩) n n) ys := by
        have := (hcs.own (B := 0) (Nat.zero_le _) (by rw [HY.out]; omega)).num
        rw [HY.out] at this; exact this
      have HH : Hid (val xs % 2 = l ∧ val ys = val xs / 2) := ⟨h1, h2⟩
      clear h1 h2 hfin hcs hcell
      go_wp2_with fail
      refine (norm_ref _ _ _ hny (by rw [HY.out]; omega)).mono ?_
      rintro e w3 ⟨o, rfl, hoo, hb3⟩
      rw [HH.out.2] at hoo
      have HE : Hid (Made' w.heap.size w (lim (val xs / 2)) (.returned o) w3) := ⟨o, rfl, hoo.mono hbel.size, hbel.trans (hb3.mono hbel.size)⟩
      clear hoo hb3 hbel hny
      go_wp2_with fail
      go_ret
      exact HE.out

theorem even_val {xs : List Nat} : val xs % 2 = xs.getD 0 0 % 2 := by rw [val_tail xs]; omega
set_option maxRecDepth 100000 in
set_option maxHeartbeats 800000 in
theorem even_ref (u : Value) (xs : List Nat) (w : World) (h : Num w u xs) :
    Calls Tryz.prog 123 #[u] w fun e w' => e = .returned (.bool (decide (val xs % 2 = 0))) ∧ w' = w := by
  obtain ⟨hbx, ao, cap, rfl, hca, hma, _, hcell⟩ := h.open_
  obtain ⟨n, hn⟩ : ∃ n, n = xs.length := ⟨_, rfl⟩
  rw [← hn] at hca ⊢
  by_cases h0 : n = 0
  · have hx : xs = [] := List.eq_nil_of_length_eq_zero (by omega)
    have HE : Hid ((.returned (.bool true) : Ending) = .returned (.bool (decide (val xs % 2 = 0)))) := by rw [hx]; rfl
    subst h0
    clear hn hcell hx h
    go_enter Tryz.func123, Tryz.ntmps123
    go_wp2
    go_ret
    exact ⟨HE.out, rfl⟩
  · have h0' : ((n : Int) == 0) = false := by simp; omega
    have h1' : (0 : Int) < (n : Int) := by omega
    obtain ⟨b, off, rfl, hc⟩ := hcell 0 (by omega)
    rw [Nat.add_zero] at hc
    have hx0 := limb_lt hbx 0
    have hev := even_val (xs := xs)
    obtain ⟨x, hx⟩ : ∃ x, x = xs.getD 0 0 := ⟨_, rfl⟩
    rw [← hx] at hc hx0 hev
    have HEV : Hid (val xs % 2 = x % 2) := hev
    clear hev hx hn hcell h
    rcases (show x % 2 = 0 ∨ x % 2 = 1 by omega) with h2 | h2
    · have e2 : (x : Int) % 2 = 0 := by omega
      have HE : Hid ((.returned (.bool true) : Ending) = .returned (.bool (decide (val xs % 2 = 0)))) := by show _ = _; rw [HEV.out, h2]; rfl
      clear h2
      go_enter Tryz.func123, Tryz.ntmps123
      go_wp2
      go_ret
      exact ⟨HE.out, rfl⟩
    · have e2 : (x : Int) % 2 = 1 := by omega
      have HE : Hid ((.returned (.bool false) : Ending) = .returned (.bool (decide (val xs % 2 = 0)))) := by show _ = _; rw [HEV.out, h2]; rfl
      clear h2
      go_enter Tryz.func123, Tryz.ntmps123
      go_wp2
      go_ret
      exact ⟨HE.out, rfl⟩
end Go.Proofs.YtaafijifiiiblaaGreat

namespace Go.Proofs.YtaafijifiiiblaaGreat
open Go.RowKit

theorem Num.unique {w : World} {v : Value} {xs ys : List Nat} (h : Num w v xs) (g : Num w v ys) : xs = ys := by
  obtain ⟨_, ao, cap, e, _, _, _, h4⟩ := h
  obtain ⟨_, ao', cap', e', _, _, _, g4⟩ := g
  rw [e] at e'
  simp only [Value.slice.injEq] at e'
  obtain ⟨rfl, hl, rfl⟩ := e'
  apply List.ext_getElem hl
  intro j h1 h2
  obtain ⟨b, off, e1, c1⟩ := h4 j h1
  obtain ⟨b', off', e2, c2⟩ := g4 j h2
  rw [e1] at e2
  simp only [Option.some.injEq, Addr.mk.injEq, and_true] at e2
  obtain ⟨rfl, rfl⟩ := e2
  rw [c1] at c2
  simp only [U, Option.some.injEq, Value.int.injEq, true_and] at c2
  rw [List.getD_eq_getElem?_getD, List.getElem?_eq_getElem h1, List.getD_eq_getElem?_getD, List.getElem?_eq_getElem h2] at c2
  simp at c2; omega
open Classical in
/-- The number that a value says in a world; 0 where it says none. -/
noncomputable def valAt (w : World) (v : Value) : Nat := if h : ∃ xs, Num w v xs then val (Classical.choose h) else 0
theorem valAt_eq {w : World} {v : Value} {xs : List Nat} (h : Num w v xs) : valAt w v = val xs := by
  have hx : ∃ xs, Num w v xs := ⟨xs, h⟩
  unfold valAt
  rw [dif_pos hx]
  congr 1
  exact (Classical.choose_spec hx).unique h
end Go.Proofs.YtaafijifiiiblaaGreat

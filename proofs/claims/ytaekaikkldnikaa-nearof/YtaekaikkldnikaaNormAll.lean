/-
  Proved here: what Uint answers.
  Proved here: what divide and find of package near answer: the place of a fraction's size among floats.
  Proved here: what under, find and Nearest of package near answer.
  Proved here: what the plain way's Norm answers.
-/
import Derived.Test.YtaekaikkldnikaaShiftMathAll
import Derived.Test.YtaekaikkldnikaaDivMathAll
import Derived.Test.YtaekaikkldnikaaDivModAll
import Derived.Laws.AppendOwnNone
namespace Go.Proofs.Ytaekaikkldnikaa
open Go.RowKit

set_option maxHeartbeats 400000 in
theorem uint_yes (v : Value) (xs : List Nat) (w : World) (h : Num w v xs) (hsm : val xs < 18446744073709551616) :
    Calls Try.prog 55 #[v] w fun e w' => e = .returned (.tuple #[.int .u64 (val xs : Nat), .bool true]) ∧ w' = w := by
  obtain ⟨ao, cap, hv⟩ : ∃ ao cap, v = .slice ao xs.length cap := by obtain ⟨_, ao, cap, hv, _⟩ := h; exact ⟨ao, cap, hv⟩
  subst hv
  have hl2 : (lim (val xs)).length ≤ 2 := lim_len_le hsm
  have hg := getD_lim_two (val xs) hsm
  go_enter Try.func55, Try.ntmps55
  go_wp2_with fail
  refine (trim_any _ _ _ h).mono ?_
  rintro e w' ⟨⟨k, hk, hk2, rfl⟩, rfl⟩
  have h2 := h.cut hk
  rw [hk2] at h2
  simp only [cutTo] at h2 ⊢
  have hkl : k ≤ 2 := by rw [← hk2, List.length_take, Nat.min_eq_left hk] at hl2; exact hl2
  have hkk : ¬ (2 : Int) < (k : Int) := by omega
  generalize hV : val xs = V at *
  have HV : Hid (val xs = V) := hV
  have Hg1 : Hid ((lim V).getD 0 0 = V % 4294967296) := hg.1
  have Hg2 : Hid ((lim V).getD 1 0 = V / 4294967296) := hg.2
  clear hV h hk2 hl2 hg
  go_wp2_with fail
  refine (limb_any _ _ _ _ h2 (by decide)).mono ?_
  rintro e w' ⟨rfl, rfl⟩
  rw [show (Int.toNat 0) = 0 from rfl, Hg1.out]
  go_wp2_with fail
  refine (limb_any _ _ _ _ h2 (by decide)).mono ?_
  rintro e w' ⟨rfl, rfl⟩
  rw [show (Int.toNat 1) = 1 from rfl, Hg2.out]
  have HO : Hid (bits BinOp.or IntKind.u64 ((V : Int) % 4294967296) ((V : Int) / 4294967296 * 4294967296) = (V : Int)) := or_halves V hsm
  go_wp2
  go_ret2
  refine ⟨?_, rfl⟩
  rw [HO.out, HV.out]; rfl
theorem uint_no (v : Value) (xs : List Nat) (w : World) (h : Num w v xs) (hbig : 18446744073709551616 ≤ val xs) :
    Calls Try.prog 55 #[v] w fun e w' => e = .returned (.tuple #[.int .u64 0, .bool false]) ∧ w' = w := by
  obtain ⟨ao, cap, hv⟩ : ∃ ao cap, v = .slice ao xs.length cap := by obtain ⟨_, ao, cap, hv, _⟩ := h; exact ⟨ao, cap, hv⟩
  subst hv
  have hl2 : 2 < (lim (val xs)).length := by
    rcases Nat.lt_or_ge 2 (lim (val xs)).length with h | h
    · exact h
    · have := lim_lt_of_len h
      omega
  go_enter Try.func55, Try.ntmps55
  go_wp2_with fail
  refine (trim_any _ _ _ h).mono ?_
  rintro e w' ⟨⟨k, hk, hk2, rfl⟩, rfl⟩
  simp only [cutTo]
  have hkl : 2 < k := by rw [← hk2, List.length_take, Nat.min_eq_left hk] at hl2; exact hl2
  have hkk : (2 : Int) < (k : Int) := by omega
  clear hk2 hl2 hbig h
  go_wp2
  go_ret2
  exact ⟨rfl, rfl⟩
end Go.Proofs.Ytaekaikkldnikaa

namespace Go.Proofs.Ytaekaikkldnikaa
open Go.RowKit

theorem lim_le_len9 {a b L : Nat} {ds : List Nat} (h : a ≤ b) (hd : limbs ds) (hv : val ds = b) (hL : ds.length ≤ L) : (lim a).length ≤ L :=
  lim_len_le (Nat.lt_of_le_of_lt h (by rw [← hv]; exact Nat.lt_of_lt_of_le (val_lt hd) (Nat.pow_le_pow_right (by decide) hL)))

end Go.Proofs.Ytaekaikkldnikaa

namespace Go.Proofs.Ytaekaikkldnikaa
open Go.RowKit

/-- The three cells of a fraction. -/
def TCell (w : World) (g : Nat) (a b c : Value) : Prop := w.heap[g]? = some (.cells #[a, b, c] 29 (0, 0))
theorem TCell.cells {w : World} {g : Nat} {a b c : Value} (h : TCell w g a b c) : w.cell? ⟨g, 0, none⟩ = some a ∧ w.cell? ⟨g, 1, none⟩ = some b ∧ w.cell? ⟨g, 2, none⟩ = some c := by
  simp only [World.cell?, TCell] at h ⊢
  rw [h]
  simp
theorem TCell.below {w w' : World} {g : Nat} {a b c : Value} (h : TCell w g a b c) (hb : Below w.heap.size w w') : TCell w' g a b c := by
  unfold TCell; rw [hb.block _ (Array.getElem?_eq_some_iff.1 h).1]; exact h
theorem tcell_new (w : World) {a b c : Value} {k : Nat} (hk : w.heap.size = k) : TCell (w.alloc (.cells #[a, b, c] 29)) k a b c := by subst hk; exact heap_alloc_new w _
def undN (d : Nat) : Nat := if d = 0 then 1 else d

end Go.Proofs.Ytaekaikkldnikaa

namespace Go.Proofs.Ytaekaikkldnikaa
open Go.RowKit

/-- What a maker of a number leaves. -/
def Made (B e : Nat) (w : World) (xs : List Nat) (en : Ending) (w' : World) : Prop := ∃ v, en = .returned v ∧ Own B e w' v xs ∧ Below B w w'

theorem own_copied {B e : Nat} {w' : World} {v : Value} {xs ys : List Nat} {n : Nat} (hy : xs.take n = ys) (hn : n ≤ xs.length) (hb : limbs xs) (h : w'.ownsRow B e 1 v n ((xs.map U).take n)) : Own B e w' v ys := by
  have hl : ys.length = n := by rw [← hy, List.length_take, Nat.min_eq_left hn]
  refine ⟨by rw [← hy]; exact limbs_take hb n, ?_⟩
  rw [hl, ← hy, List.map_take]
  exact h

set_option maxRecDepth 100000 in
set_option maxHeartbeats 800000 in
theorem norm_ref (v : Value) (xs : List Nat) (w : World) (h : Num w v xs) (hlen : xs.length ≤ 1099511627776) :
    Calls Try.prog 28 #[v] w fun e w' => Made w.heap.size 39 w (lim (val xs)) e w' := by
  obtain ⟨hb, ao, cap, rfl, hc, hm, hnil, hcell⟩ := h.open_
  clear h
  obtain ⟨n, hn⟩ : ∃ n, xs.length = n := ⟨_, rfl⟩
  rw [hn] at hc hlen ⊢
  have HN : Hid (xs.length = n) := hn
  clear hn
  obtain ⟨i0, hi, hz0, hz1, hz2⟩ := info_parts Try.infoU
  go_enter Try.func28, Try.ntmps28
  go_wp2
  go_loop [3] (fun t => ∃ k : Nat, k ≤ n ∧ t = .int .i64 k ∧ (∀ j, k ≤ j → j < n → xs.getD j 0 = 0)) (fun t => (intOf t).toNat)
  case atStart => exact ⟨n, Nat.le_refl _, rfl, fun j h1 h2 => by omega⟩
  case round =>
    obtain ⟨k, hk, rfl, hz⟩ := hrel
    have HZ : Hid (∀ j, k ≤ j → j < n → xs.getD j 0 = 0) := hz
    clear hz
    by_cases hk0 : 0 < k
    · obtain ⟨b, off, rfl, hc0⟩ := hcell (k - 1) (by rw [HN.out]; omega)
      obtain ⟨x, hx⟩ : ∃ x, x = xs.getD (k - 1) 0 := ⟨_, rfl⟩
      rw [← hx] at hc0
      have HX : Hid (x = xs.getD (k - 1) 0) := hx
      clear hx hnil
      by_cases hx0 : x = 0
      · have ht : ((x : Int) == 0) = true := by simp [hx0]
        have HX0 : Hid (x = 0) := hx0
        clear hx0 hcell
        go_wp2
        go_round
        case rel =>
          refine ⟨k - 1, by omega, by congr 1; omega, fun j h1 h2 => ?_⟩
          by_cases hj : j = k - 1
          · rw [hj, ← HX.out, HX0.out]
          · exact HZ.out j (by omega) h2
        case measure => simp [intOf]; omega
      · have ht : ((x : Int) == 0) = false := by simp [hx0]
        have HX0 : Hid (x ≠ 0) := hx0
        clear hx0
        have HF : Hid (xs.take k = lim (val xs)) := take_trim hb (by rw [HN.out]; omega) (by rw [HN.out]; exact HZ.out) (fun _ => by rw [← HX.out]; exact HX0.out)
        have HC : Hid (∀ j u, ((xs.take k).map U)[j]? = some u → w.cell? ((⟨b, off, none⟩ : Addr).add j) = some u) := by
          intro j u hj
          rw [List.getElem?_map] at hj
          obtain ⟨y, hy, rfl⟩ := Option.map_eq_some_iff.1 hj
          obtain ⟨hjk, hy⟩ := List.getElem?_eq_some_iff.1 hy
          simp only [List.length_take] at hjk
          obtain ⟨b', off', he, hc'⟩ := hcell j (by omega)
          simp only [Option.some.injEq, Addr.mk.injEq] at he
          obtain ⟨rfl, rfl, _⟩ := he
          rw [List.getElem_take] at hy
          subst hy
          rw [Addr.add_lit]
          rw [hc', List.getD_eq_getElem?_getD, List.getElem?_eq_getElem (by omega)]
          rfl
        have HL : Hid (((xs.take k).map U).length = k * 1) := by show _ = _; rw [List.length_map, List.length_take, HN.out]; omega
        have H1 : Hid (∀ u ∈ (xs.take k).map U, u.oneCell' = true) := by intro u hu; obtain ⟨y, _, rfl⟩ := List.mem_map.1 hu; rfl
        clear hcell
        go_wp2_with (at_builtin; refine wpList_append_own _ rfl _ _ 25 rfl w.heap.size 39 i0 (.int .u32 0) 1 4 Try.underlying25 hi hz0 hz1 hz2 rfl (by decide) _ _ _ rfl (World.ownsRow_nil _ _ _ _) ⟨b, off, none⟩ k cap ((xs.take k).map U) rfl HL.out HC.out H1.out (by unfold maxLen; omega) (by omega) (Nat.le_refl _) ?_)
        intro v' w1 hown hgr _
        have how := own_copied (by exact HF.out) (by rw [HN.out]; exact hk) hb hown
        have hbel := (Below.refl w.heap.size w).grown hgr (Nat.le_refl _) (by intro k hk; simp [Value.ownBlock] at hk)
        clear hown hgr HC
        go_wp2
        go_ret
        exact ⟨_, rfl, how, hbel⟩
    · have hk1 : k = 0 := by omega
      subst hk1
      have hgt : ¬ (0 : Int) < ((0 : Nat) : Int) := by omega
      have HF : Hid (xs.take 0 = lim (val xs)) := take_trim hb (by omega) (by rw [HN.out]; exact HZ.out) (fun h => by omega)
      have HO : Hid (Made w.heap.size 39 w (lim (val xs)) (.returned (.slice none 0 0)) w) := ⟨_, rfl, by rw [← HF.out]; exact Own.of_nil _ _ _, Below.refl _ _⟩
      clear hcell
      rcases ao with _ | a
      · have := hnil rfl
        subst this
        have hn0 : n = 0 := by omega
        subst hn0
        go_wp2
        go_ret
        exact HO.out
      · clear hnil
        obtain ⟨b, off, spot⟩ := a
        go_wp2
        go_ret
        exact HO.out

end Go.Proofs.Ytaekaikkldnikaa

/-
  Proved here: what the plain way's Norm answers.
  Proved here: what Same answers of two numbers that are one.
  Proved here: what the plain way's Parse answers.
-/
import Derived.Test.YtcbfhakolfcmgaaDoorSmallAll
import Derived.Laws.AppendOwnNone
import Derived.Test.YtcbfhakolfcmgaaDoorTrim
import Derived.Test.YtcbfhakolfcmgaaDoorParse
namespace Go.Proofs.YtcbfhakolfcmgaaDoor
open Go.RowKit

/-- What a maker of a number leaves. -/
def Made (B e : Nat) (w : World) (xs : List Nat) (en : Ending) (w' : World) : Prop := ∃ v, en = .returned v ∧ Own B e w' v xs ∧ Below B w w'

theorem own_copied {B e : Nat} {w' : World} {v : Value} {xs ys : List Nat} {n : Nat} (hy : xs.take n = ys) (hn : n ≤ xs.length) (hb : limbs xs) (h : w'.ownsRow B e 1 v n ((xs.map U).take n)) : Own B e w' v ys := by
  have hl : ys.length = n := by rw [← hy, List.length_take, Nat.min_eq_left hn]
  refine ⟨by rw [← hy]; exact limbs_take hb n, ?_⟩
  rw [hl, ← hy, List.map_take]
  exact h

set_option maxRecDepth 100000 in
set_option maxHeartbeats 800000 in
theorem norm_ref (v : Value) (xs : List Nat) (w : World) (h : Num w v xs) (hlen : xs.length ≤ 1099511627776) :
    Calls Tryd.prog 66 #[v] w fun e w' => Made w.heap.size 64 w (lim (val xs)) e w' := by
  obtain ⟨hb, ao, cap, rfl, hc, hm, hnil, hcell⟩ := h.open_
  clear h
  obtain ⟨n, hn⟩ : ∃ n, xs.length = n := ⟨_, rfl⟩
  rw [hn] at hc hlen ⊢
  have HN : Hid (xs.length = n) := hn
  clear hn
  obtain ⟨i0, hi, hz0, hz1, hz2⟩ := info_parts Tryd.infoU
  go_enter Tryd.func66, Tryd.ntmps66
  go_wp2
  go_loop [3] (fun t => ∃ k : Nat, k ≤ n ∧ t = .int .i64 k ∧ (∀ j, k ≤ j → j < n → xs.getD j 0 = 0)) (fun t => (intOf t).toNat)
  case atStart => exact ⟨n, Nat.le_refl _, rfl, fun j h1 h2 => by omega⟩
  case round =>
    obtain ⟨k, hk, rfl, hz⟩ := hrel
    have HZ : Hid (∀ j, k ≤ j → j < n → xs.getD j 0 = 0) := hz
    clear hz
    by_cases hk0 : 0 < k
    · obtain ⟨b, off, rfl, hc0⟩ := hcell (k - 1) (by rw [HN.out]; omega)
      obtain ⟨x, hx⟩ : ∃ x, x = xs.getD (k - 1) 0 := ⟨_, rfl⟩
      rw [← hx] at hc0
      have HX : Hid (x = xs.getD (k - 1) 0) := hx
      clear hx hnil
      by_cases hx0 : x = 0
      · have ht : ((x : Int) == 0) = true := by simp [hx0]
        have HX0 : Hid (x = 0) := hx0
        clear hx0 hcell
        go_wp2
        go_round
        case rel =>
          refine ⟨k - 1, by omega, by congr 1; omega, fun j h1 h2 => ?_⟩
          by_cases hj : j = k - 1
          · rw [hj, ← HX.out, HX0.out]
          · exact HZ.out j (by omega) h2
        case measure => simp [intOf]; omega
      · have ht : ((x : Int) == 0) = false := by simp [hx0]
        have HX0 : Hid (x ≠ 0) := hx0
        clear hx0
        have HF : Hid (xs.take k = lim (val xs)) := take_trim hb (by rw [HN.out]; omega) (by rw [HN.out]; exact HZ.out) (fun _ => by rw [← HX.out]; exact HX0.out)
        have HC : Hid (∀ j u, ((xs.take k).map U)[j]? = some u → w.cell? ((⟨b, off, none⟩ : Addr).add j) = some u) := by
          intro j u hj
          rw [List.getElem?_map] at hj
          obtain ⟨y, hy, rfl⟩ := Option.map_eq_some_iff.1 hj
          obtain ⟨hjk, hy⟩ := List.getElem?_eq_some_iff.1 hy
          simp only [List.length_take] at hjk
          obtain ⟨b', off', he, hc'⟩ := hcell j (by omega)
          simp only [Option.some.injEq, Addr.mk.injEq] at he
          obtain ⟨rfl, rfl, _⟩ := he
          rw [List.getElem_take] at hy
          subst hy
          rw [Addr.add_lit]
          rw [hc', List.getD_eq_getElem?_getD, List.getElem?_eq_getElem (by omega)]
          rfl
        have HL : Hid (((xs.take k).map U).length = k * 1) := by show _ = _; rw [List.length_map, List.length_take, HN.out]; omega
        have H1 : Hid (∀ u ∈ (xs.take k).map U, u.oneCell' = true) := by intro u hu; obtain ⟨y, _, rfl⟩ := List.mem_map.1 hu; rfl
        clear hcell
        go_wp2_with (at_builtin; refine wpList_append_own _ rfl _ _ 23 rfl w.heap.size 64 i0 (.int .u32 0) 1 4 Tryd.underlying23 hi hz0 hz1 hz2 rfl (by decide) _ _ _ rfl (World.ownsRow_nil _ _ _ _) ⟨b, off, none⟩ k cap ((xs.take k).map U) rfl HL.out HC.out H1.out (by unfold maxLen; omega) (by omega) (Nat.le_refl _) ?_)
        intro v' w1 hown hgr _
        have how := own_copied (by exact HF.out) (by rw [HN.out]; exact hk) hb hown
        have hbel := (Below.refl w.heap.size w).grown hgr (Nat.le_refl _) (by intro k hk; simp [Value.ownBlock] at hk)
        clear hown hgr HC
        go_wp2
        go_ret
        exact ⟨_, rfl, how, hbel⟩
    · have hk1 : k = 0 := by omega
      subst hk1
      have hgt : ¬ (0 : Int) < ((0 : Nat) : Int) := by omega
      have HF : Hid (xs.take 0 = lim (val xs)) := take_trim hb (by omega) (by rw [HN.out]; exact HZ.out) (fun h => by omega)
      have HO : Hid (Made w.heap.size 64 w (lim (val xs)) (.returned (.slice none 0 0)) w) := ⟨_, rfl, by rw [← HF.out]; exact Own.of_nil _ _ _, Below.refl _ _⟩
      clear hcell
      rcases ao with _ | a
      · have := hnil rfl
        subst this
        have hn0 : n = 0 := by omega
        subst hn0
        go_wp2
        go_ret
        exact HO.out
      · clear hnil
        obtain ⟨b, off, spot⟩ := a
        go_wp2
        go_ret
        exact HO.out

end Go.Proofs.YtcbfhakolfcmgaaDoor

namespace Go.Proofs.YtcbfhakolfcmgaaDoor
open Go.RowKit

set_option maxHeartbeats 800000 in
theorem same_yes (v u : Value) (xs : List Nat) (w : World) (hv : Num w v xs) (hu : Num w u xs) :
    Calls Tryd.prog 44 #[v, u] w fun e w' => e = .returned (.bool true) ∧ ∃ q, w' = w.drewN q := by
  obtain ⟨hb, ao, cap, rfl, hc, hm, hnil, hcell⟩ := hv.open_
  obtain ⟨_, ao', cap', rfl, hc', hm', hnil', hcell'⟩ := hu.open_
  clear hv hu hnil hnil'
  obtain ⟨n, hn⟩ : ∃ n, xs.length = n := ⟨_, rfl⟩
  rw [hn] at hc hc' ⊢
  have HN : Hid (xs.length = n) := hn
  clear hn
  have hne : (((n : Nat) : Int) != ((n : Nat) : Int)) = false := by simp
  go_enter Tryd.func44, Tryd.ntmps44
  go_wp2
  go_loopw [5] (fun t wr => ∃ k : Nat, k ≤ n ∧ t = .int .i64 k ∧ ∃ q, wr = w.drewN q) (fun t _ => n - (intOf t).toNat)
  case atStart => exact ⟨0, Nat.zero_le _, rfl, 0, rfl⟩
  case round =>
    obtain ⟨k, hk, rfl, q, rfl⟩ := hrel
    by_cases hkn : k < n
    · obtain ⟨b, off, rfl, hc0⟩ := hcell k (by rw [HN.out]; omega)
      obtain ⟨b', off', rfl, hc1⟩ := hcell' k (by rw [HN.out]; omega)
      obtain ⟨x, hx⟩ : ∃ x, x = xs.getD k 0 := ⟨_, rfl⟩
      rw [← hx] at hc0 hc1
      clear hx hcell hcell'
      have hlt : (k : Int) < (n : Int) := by omega
      go_wp2
      go_quiet (fail)
      go_wp2
      go_roundw
      case rel => exact ⟨k + 1, by omega, by go_num, _, rfl⟩
      case measure => simp [intOf]; omega
    · have hge : ¬ (k : Int) < (n : Int) := by omega
      clear hcell hcell'
      go_wp2
      go_ret
      exact ⟨rfl, q, rfl⟩
end Go.Proofs.YtcbfhakolfcmgaaDoor

namespace Go.Proofs.YtcbfhakolfcmgaaDoor
open Go.RowKit

theorem tenfold_step {xs ys : List Nat} {k c d : Nat} (hk : ys.length = k) (h : val ys + 4294967296 ^ k * c = 10 * low xs k + d) :
    val (ys ++ [(c + 10 * xs.getD k 0) % 4294967296]) + 4294967296 ^ (k + 1) * ((c + 10 * xs.getD k 0) / 4294967296) = 10 * low xs (k + 1) + d := by
  rw [val_snoc, hk, low_succ xs k, Nat.pow_succ, Nat.add_assoc, carry_eq, Nat.mul_add, Nat.mul_add, Nat.mul_left_comm 10]
  omega
theorem not_digs {s : ByteArray} {i : Nat} (hi : i < s.size) (h : ¬ (48 ≤ bt s i ∧ bt s i ≤ 57)) : ¬ (DigOk s ∧ 0 < s.size) := fun hh => h (hh.1 i hi)

end Go.Proofs.YtcbfhakolfcmgaaDoor

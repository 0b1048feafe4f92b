/-
  Proved here: what the small readers of a number's limbs answer.
-/
import Derived.Test.YtnlajeinegampaaRows
import Derived.Test.YtnlajeinegampaaMem
import Derived.WalkKit
import Derived.WalkSpells
import Derived.WalkLawsBesides
import Derived.Below
import Derived.BigQuiet
namespace Go.Proofs.Ytnlajeinegampaa
open Go.RowKit

set_option maxHeartbeats 400000 in
theorem trim_any (v : Value) (xs : List Nat) (w : World) (h : Num w v xs) :
    Calls Try.prog 25 #[v] w fun e w' => (∃ k, k ≤ xs.length ∧ xs.take k = lim (val xs) ∧ e = .returned (cutTo v k)) ∧ w' = w := by
  obtain ⟨hb, ao, cap, rfl, hc, hm, hnil, hcell⟩ := h.open_
  clear h
  obtain ⟨n, hn⟩ : ∃ n, xs.length = n := ⟨_, rfl⟩
  rw [hn] at hc ⊢
  have HN : Hid (xs.length = n) := hn
  clear hn
  go_enter Try.func25, Try.ntmps25
  go_wp2
  go_loop [3] (fun t => ∃ k : Nat, k ≤ n ∧ t = .int .i64 k ∧ (∀ j, k ≤ j → j < n → xs.getD j 0 = 0)) (fun t => (intOf t).toNat)
  case atStart => exact ⟨n, Nat.le_refl _, rfl, fun j h1 h2 => by omega⟩
  case round =>
    obtain ⟨k, hk, rfl, hz⟩ := hrel
    have HZ : Hid (∀ j, k ≤ j → j < n → xs.getD j 0 = 0) := hz
    clear hz
    by_cases hk0 : 0 < k
    · obtain ⟨b, off, rfl, hc0⟩ := hcell (k - 1) (by rw [HN.out]; omega)
      obtain ⟨x, hx⟩ : ∃ x, x = xs.getD (k - 1) 0 := ⟨_, rfl⟩
      rw [← hx] at hc0
      have HX : Hid (x = xs.getD (k - 1) 0) := hx
      clear hx hcell hnil
      by_cases hx0 : x = 0
      · have ht : ((x : Int) == 0) = true := by simp [hx0]
        have HX0 : Hid (x = 0) := hx0
        clear hx0
        go_wp2
        go_round
        case rel =>
          refine ⟨k - 1, by omega, by congr 1; omega, fun j h1 h2 => ?_⟩
          by_cases hj : j = k - 1
          · rw [hj, ← HX.out, HX0.out]
          · exact HZ.out j (by omega) h2
        case measure => simp [intOf]; omega
      · have ht : ((x : Int) == 0) = false := by simp [hx0]
        have HX0 : Hid (x ≠ 0) := hx0
        clear hx0
        go_wp2
        go_ret
        exact ⟨⟨k, hk, take_trim hb (by rw [HN.out]; omega) (by rw [HN.out]; exact HZ.out) (fun _ => by rw [← HX.out]; exact HX0.out), rfl⟩, rfl⟩
    · have hk1 : k = 0 := by omega
      subst hk1
      have hgt : ¬ (0 : Int) < ((0 : Nat) : Int) := by omega
      have HF : xs.take 0 = lim (val xs) := take_trim hb (by omega) (by rw [HN.out]; exact HZ.out) (fun h => by omega)
      have HF' : Hid (xs.take 0 = lim (val xs)) := HF
      clear HF hcell
      rcases ao with _ | a
      · have := hnil rfl
        subst this
        have hn0 : n = 0 := by omega
        subst hn0
        go_wp2
        go_ret
        exact ⟨⟨HF'.out.symm, rfl⟩, rfl⟩
      · clear hnil
        obtain ⟨b, off, spot⟩ := a
        go_wp2
        go_ret
        exact ⟨⟨0, by omega, HF'.out, rfl⟩, rfl⟩

/-- A limb, 0 behind the last one. -/
theorem limb_any (v : Value) (xs : List Nat) (i : Int) (w : World) (h : Num w v xs) (hi : 0 ≤ i) :
    Calls Try.prog 78 #[v, .int .i64 i] w fun e w' => e = .returned (.int .u64 ((xs.getD i.toNat 0 : Nat) : Int)) ∧ w' = w := by
  obtain ⟨hb, ao, cap, rfl, hc, hm, hnil, hcell⟩ := h.open_
  clear h
  obtain ⟨k, rfl⟩ := Int.eq_ofNat_of_zero_le hi
  have hlt := limb_lt hb k
  by_cases hk : k < xs.length
  · obtain ⟨b, off, rfl, hc0⟩ := hcell k hk
    rw [Int.toNat_natCast]
    obtain ⟨x, hx⟩ : ∃ x, x = xs.getD k 0 := ⟨_, rfl⟩
    rw [← hx] at hc0 hlt ⊢
    clear hx hcell hnil hb
    go_enter Try.func78, Try.ntmps78
    go_wp2
    go_ret
    exact ⟨rfl, rfl⟩
  · have hg : xs.getD k 0 = 0 := by rw [List.getD_eq_getElem?_getD, List.getElem?_eq_none (by omega)]; rfl
    rw [Int.toNat_natCast, hg]
    clear hcell hnil hb hlt hg
    have hge : ((xs.length : Nat) : Int) ≤ (k : Int) := by omega
    go_enter Try.func78, Try.ntmps78
    go_wp2
    go_ret
    exact ⟨rfl, rfl⟩

end Go.Proofs.Ytnlajeinegampaa

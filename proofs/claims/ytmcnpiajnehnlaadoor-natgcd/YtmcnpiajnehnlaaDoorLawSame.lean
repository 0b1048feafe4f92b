/-
  Proved here: what the law's own same answers.
-/
import Derived.Test.YtmcnpiajnehnlaaDoorTrim
namespace Go.Proofs.YtmcnpiajnehnlaaDoor
open Go.RowKit

set_option maxHeartbeats 1600000 in
theorem lsame_any (v u : Value) (xs ys : List Nat) (w : World) (hv : Num w v xs) (hu : Num w u ys) :
    Calls Tryd.prog 11 #[v, u] w fun e w' => e = .returned (.bool (decide (xs = ys))) ∧ ∃ q, w' = w.drewN q := by
  obtain ⟨hb, ao, cap, rfl, hc, hm, hnil, hcell⟩ := hv.open_
  obtain ⟨hb2, ao', cap', rfl, hc', hm', hnil', hcell'⟩ := hu.open_
  clear hv hu hnil hnil'
  obtain ⟨n, hn⟩ : ∃ n, xs.length = n := ⟨_, rfl⟩
  obtain ⟨m, hm2⟩ : ∃ m, ys.length = m := ⟨_, rfl⟩
  obtain ⟨R, hR⟩ : ∃ R, R = decide (xs = ys) := ⟨_, rfl⟩
  rw [← hR]
  rw [hn] at hc ⊢
  rw [hm2] at hc' ⊢
  have HN : Hid (xs.length = n) := hn
  have HM : Hid (ys.length = m) := hm2
  have HR : Hid (R = decide (xs = ys)) := hR
  clear hn hm2 hR
  by_cases hnm : n = m
  · subst hnm
    have hne : (((n : Nat) : Int) != ((n : Nat) : Int)) = false := by simp
    go_enter Tryd.func11, Tryd.ntmps11
    go_wp2
    go_loopw [5] (fun t wr => ∃ k : Nat, k ≤ n ∧ t = .int .i64 k ∧ (∀ j, j < k → xs.getD j 0 = ys.getD j 0) ∧ ∃ q, wr = w.drewN q) (fun t _ => n - (intOf t).toNat)
    case atStart => exact ⟨0, Nat.zero_le _, rfl, fun j hj => by omega, 0, rfl⟩
    case round =>
      obtain ⟨k, hk, rfl, hsm, q, rfl⟩ := hrel
      have HS : Hid (∀ j, j < k → xs.getD j 0 = ys.getD j 0) := hsm
      clear hsm
      by_cases hkn : k < n
      · obtain ⟨b, off, rfl, hc0⟩ := hcell k (by rw [HN.out]; omega)
        obtain ⟨b', off', rfl, hc1⟩ := hcell' k (by rw [HM.out]; omega)
        obtain ⟨x, hx⟩ : ∃ x, x = xs.getD k 0 := ⟨_, rfl⟩
        obtain ⟨y, hy⟩ : ∃ y, y = ys.getD k 0 := ⟨_, rfl⟩
        rw [← hx] at hc0
        rw [← hy] at hc1
        have HX : Hid (x = xs.getD k 0) := hx
        have HY : Hid (y = ys.getD k 0) := hy
        clear hx hy hcell hcell'
        have hlt : (k : Int) < (n : Int) := by omega
        by_cases hxy : x = y
        · subst hxy
          go_wp2
          go_quiet (fail)
          go_wp2
          go_roundw
          case rel =>
            refine ⟨k + 1, by omega, by go_num, fun j hj => ?_, _, (by first | rfl | exact World.drewN_drewN _ _ _)⟩
            by_cases hjk : j = k
            · rw [hjk, ← HX.out, ← HY.out]
            · exact HS.out j (by omega)
          case measure => simp [intOf]; omega
        · have hxy' : ((x : Int) != (y : Int)) = true := by simp; omega
          have HF : Hid ((.returned (.bool false) : Ending) = .returned (.bool R)) := by
            show _ = _
            rw [HR.out, decide_eq_false]
            intro h
            apply hxy
            rw [HX.out, HY.out, h]
          go_wp2
          go_quiet (fail)
          go_wp2
          go_ret
          exact ⟨HF.out, _, World.drewN_drewN _ _ _⟩
      · have hge : ¬ (k : Int) < (n : Int) := by omega
        have HF : Hid ((.returned (.bool true) : Ending) = .returned (.bool R)) := by
          show _ = _
          rw [HR.out, decide_eq_true]
          apply List.ext_getElem (by rw [HN.out, HM.out])
          intro j h1 h2
          have := HS.out j (by have := HN.out; omega)
          rw [List.getD_eq_getElem?_getD, List.getElem?_eq_getElem h1, List.getD_eq_getElem?_getD, List.getElem?_eq_getElem h2] at this
          simpa using this
        clear hcell hcell'
        go_wp2
        go_ret
        exact ⟨HF.out, q, rfl⟩
  · have hne : (((n : Nat) : Int) != ((m : Nat) : Int)) = true := by simp; omega
    have HF : Hid ((.returned (.bool false) : Ending) = .returned (.bool R)) := by
      show _ = _
      rw [HR.out, decide_eq_false]
      intro h
      apply hnm
      rw [← HN.out, ← HM.out, h]
    clear hcell hcell'
    go_enter Tryd.func11, Tryd.ntmps11
    go_wp2
    go_ret
    exact ⟨HF.out, 0, rfl⟩
end Go.Proofs.YtmcnpiajnehnlaaDoor

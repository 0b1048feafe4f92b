/-
  Proved here: layer 11's law.go: ints; alive.
-/
import Derived.Test.YtknibmehbplpbaaSetFI
namespace Go.Proofs.Ytknibmehbplpbaa
open Go.Shelf Go.RowKit Go.Lib Go.Sort

set_option maxHeartbeats 4000000 in
set_option maxRecDepth 1000000 in
theorem ints_any (v1 v2 : Value) (L M : List Int) (w : World) (h1 : RG (Value.int .i64) w v1 L) (h2 : RG (Value.int .i64) w v2 M) :
    Calls Try.prog 12 #[v1, v2] w fun e w' => e = .returned (.bool (decide (L = M))) ∧ ∃ q, w' = w.drewN q := by
  obtain ⟨ao, cap, rfl, hc, hm, -, hcell⟩ := h1
  obtain ⟨bo, cap2, rfl, hc2, hm2, -, hcell2⟩ := h2
  unfold maxLen at hm hm2
  obtain ⟨n, hn⟩ : ∃ n, L.length = n := ⟨_, rfl⟩
  obtain ⟨m, hmm⟩ : ∃ n, M.length = n := ⟨_, rfl⟩
  rw [hn] at hc ⊢
  rw [hmm] at hc2 ⊢
  have HN : Hid (L.length = n) := hn
  have HNM : Hid (M.length = m) := hmm
  have HC : Hid (∀ i x, L[i]? = some x → ∃ g o, ao = some ⟨g, o, none⟩ ∧ w.cell? ⟨g, o + i, none⟩ = some (Value.int .i64 x)) := hcell
  have HC2 : Hid (∀ i x, M[i]? = some x → ∃ g o, bo = some ⟨g, o, none⟩ ∧ w.cell? ⟨g, o + i, none⟩ = some (Value.int .i64 x)) := hcell2
  have mixed : Try.prog.follows .mixedOrders = true := by kernel_rfl
  clear hn hmm hcell hcell2
  obtain ⟨bb, hbb⟩ : ∃ b, b = decide (L = M) := ⟨_, rfl⟩
  rw [← hbb]
  have HB : Hid (bb = decide (L.drop 0 = M.drop 0)) := hbb
  clear hbb
  by_cases hnm : n = m
  · subst hnm
    go_enter Try.func12, Try.ntmps12
    go_wp2
    go_loopg [5] n (fun g1 v wr => ∃ i : Nat, v = .int .i64 i ∧ i ≤ n ∧ n - i ≤ g1 ∧ Hid (bb = decide (L.drop i = M.drop i)) ∧ ∃ q, wr = w.drewN q)
    case atStart => exact ⟨0, rfl, Nat.zero_le _, by omega, HB, 0, rfl⟩
    case round =>
      clear HB
      obtain ⟨i, rfl, hin, hg1, HB, q, rfl⟩ := hrel
      by_cases hlt : i < n
      · have hltz : (i : Int) < (n : Int) := by omega
        obtain ⟨x, hx⟩ : ∃ x, L[i]? = some x := ⟨_, List.getElem?_eq_getElem (by rw [HN.out]; exact hlt)⟩
        obtain ⟨y, hy⟩ : ∃ x, M[i]? = some x := ⟨_, List.getElem?_eq_getElem (by rw [HNM.out]; exact hlt)⟩
        obtain ⟨g, o, rfl, hc0⟩ := HC.out i x hx
        obtain ⟨g', o', rfl, hc0'⟩ := HC2.out i y hy
        have HB2 : Hid (bb = decide (x :: L.drop (i + 1) = y :: M.drop (i + 1))) := by have := HB.out; rw [drop_cons hx, drop_cons hy] at this; exact this
        clear hx hy HB
        have c1 : (w.drewN q).cell? ⟨g, o + i, none⟩ = some (Value.int .i64 x) := by rw [World.cell?_of_block (by rw [heap_drewG])]; exact hc0
        have c2 : (w.drewN q).cell? ⟨g', o' + i, none⟩ = some (Value.int .i64 y) := by rw [World.cell?_of_block (by rw [heap_drewG])]; exact hc0'
        by_cases hxy : x = y
        · subst hxy
          have HB3 : Hid (bb = decide (L.drop (i + 1) = M.drop (i + 1))) := by have := HB2.out; simpa [Hid] using this
          clear HB2
          go_wp2_with fail
          go_big_region_o
          go_wp2
          go_roundg (n - (i + 1))
          case measure => omega
          case rel => exact ⟨i + 1, by go_num, by omega, Nat.le_refl _, HB3, _, rfl⟩
        · have HB3 : Hid (bb = false) := by have := HB2.out; rw [this]; simp [Hid, hxy]
          have hne : (x != y) = true := by simpa using hxy
          clear HB2
          go_wp2_with fail
          go_big_region_o
          go_wp2
          go_ret
          exact ⟨by rw [HB3.out]; rfl, _, rfl⟩
      · have hltz : ¬ (i : Int) < (n : Int) := by omega
        have HB3 : Hid (bb = true) := by have := HB.out; rw [List.drop_of_length_le (by rw [HN.out]; omega), List.drop_of_length_le (by rw [HNM.out]; omega)] at this; exact this
        clear HB
        go_wp2
        go_ret
        exact ⟨by rw [HB3.out]; rfl, _, rfl⟩
  · have hnz : ((n : Int) != (m : Int)) = true := by simp; omega
    have hnz2 : decide ((n : Int) = (m : Int)) = false := decide_eq_false (by omega)
    have hnz3 : ¬ (n : Int) = (m : Int) := by omega
    have HB3 : Hid (bb = false) := by
      have := HB.out
      rw [this]
      exact decide_eq_false fun h => hnm (by rw [List.drop_zero, List.drop_zero] at h; rw [← HN.out, ← HNM.out, h])
    clear HB
    go_enter Try.func12, Try.ntmps12
    go_wp2
    go_ret
    exact ⟨by rw [HB3.out]; rfl, 0, rfl⟩
theorem ints_below (v1 v2 : Value) (L M : List Int) (w : World) (h1 : RG (Value.int .i64) w v1 L) (h2 : RG (Value.int .i64) w v2 M) :
    Calls Try.prog 12 #[v1, v2] w fun e w' => e = .returned (.bool (decide (L = M))) ∧ Below w.heap.size w w' :=
  (ints_any v1 v2 L M w h1 h2).mono fun _ _ ⟨h1, q, h2⟩ => ⟨h1, by rw [h2]; exact below_drewN (Below.refl _ _) q⟩
theorem posI_eq {L : List Int} {x : Int} {k j : Nat} (h : Pos (ltOf cfI) L x k) (hj : Pos (ltOf cfI) L x j) : k = j := h.uniq hj
theorem rg_lit (w : World) (zs : List Int) (hm : zs.length ≤ 1000) : RG (Value.int .i64) (w.alloc (.cells (zs.map (Value.int .i64)).toArray 3)) (.slice (some ⟨w.heap.size, 0, none⟩) zs.length zs.length) zs := (OG.lit (enc := Value.int .i64) 3 w zs (by unfold maxLen; omega)).rg
theorem of_four : ofI [3, 1, 3, 2] = [1, 2, 3] := by decide
theorem alive_rs : Rs (ltOf cfI) [1, 2, 3] := by rw [← of_four]; exact ofI_rs _
end Go.Proofs.Ytknibmehbplpbaa

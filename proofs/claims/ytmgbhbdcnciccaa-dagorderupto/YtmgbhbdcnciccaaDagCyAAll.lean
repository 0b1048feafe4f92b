/-
  Proved here: the law's in and place.
  Proved here: package dag's leastAt; the way that a search tells.
-/
import Derived.Test.YtmgbhbdcnciccaaDagAb
import Derived.Test.YtmgbhbdcnciccaaDagMp
namespace Go.Proofs.Ytmgbhbdcnciccaa
set_option linter.unusedVariables false
open Go.RowKit
/-- Where a number stands in a list; -1: nowhere. -/
def plF (xs : List Int) (x : Int) : Int := match xs.findIdx? (fun y => decide (y = x)) with | some i => (i : Int) | none => -1
theorem plF_some {xs : List Int} {x : Int} {i : Nat} (h : xs[i]? = some x) (hn : x ∉ xs.take i) : plF xs x = (i : Int) := by
  unfold plF
  have : xs.findIdx? (fun y => decide (y = x)) = some i := by
    rw [List.findIdx?_eq_some_iff_getElem]
    have hi := (List.getElem?_eq_some_iff.1 h).1
    refine ⟨hi, by have := (List.getElem?_eq_some_iff.1 h).2; simp [this], fun j hj => ?_⟩
    have hj2 : j < xs.length := by omega
    simp only [decide_eq_true_eq]
    intro e
    refine hn (List.mem_of_getElem? (i := j) ?_)
    rw [List.getElem?_take_of_lt hj, List.getElem?_eq_getElem hj2, e]
  rw [this]
theorem plF_none {xs : List Int} {x : Int} (hn : x ∉ xs) : plF xs x = -1 := by
  unfold plF
  have : xs.findIdx? (fun y => decide (y = x)) = none := by
    rw [List.findIdx?_eq_none_iff]
    intro y hy
    simp only [decide_eq_false_iff_not]
    intro e; subst e; exact hn hy
  rw [this]
theorem mem_take_succ {xs : List Int} {x y : Int} {k : Nat} (h : xs[k]? = some y) (hx : x ∉ xs.take k) (hne : y ≠ x) : x ∉ xs.take (k + 1) := by
  rw [List.take_add_one, h]
  intro hm
  rcases List.mem_append.1 hm with e | e
  · exact hx e
  · simp at e; exact hne e.symm
set_option maxRecDepth 100000 in
set_option maxHeartbeats 3200000 in
theorem inD (v : Value) (xs : List Int) (x : Int) (w : World) (hv : RG (Value.int .i64) w v xs) :
    Calls Try.prog 22 #[v, .int .i64 x] w fun e w' => e = .returned (.bool (decide (x ∈ xs))) ∧ w' = w := by
  obtain ⟨ao, cap, rfl⟩ := hv.sl
  obtain ⟨n, hn⟩ : ∃ n, xs.length = n := ⟨_, rfl⟩
  have hroom := hv.room
  rw [hn] at hv hroom ⊢
  unfold maxLen at hroom
  have HV : Hid (RG (Value.int .i64) w (.slice ao n cap) xs) := hv
  have HN : Hid (xs.length = n) := hn
  clear hv hn
  go_enter Try.func22, Try.ntmps22
  go_wp2
  go_loopg [5] n (fun g1 v5 wr => ∃ k : Nat, v5 = .int .i64 k ∧ k ≤ n ∧ n - k ≤ g1 ∧ Hid (x ∉ xs.take k) ∧ wr = w)
  case atStart => exact ⟨0, rfl, by omega, by omega, by simp [Hid], rfl⟩
  case round =>
    obtain ⟨k, rfl, hkn, hg1, HX, rfl⟩ := hrel
    by_cases hlt : k < n
    · have hltz : (k : Int) < (n : Int) := by omega
      obtain ⟨y, gx, ox, hy1, rfl, hy2⟩ := HV.out.at hlt
      by_cases hyx : y = x
      · have HM : Hid (x ∈ xs) := by show _ ∈ _; rw [← hyx]; exact List.mem_of_getElem? hy1
        subst hyx
        clear hy1
        go_wp2
        go_ret
        exact ⟨by rw [decide_eq_true HM.out]; rfl, rfl⟩
      · have hyb : (y == x) = false := by simp [hyx]
        have HX2 : Hid (x ∉ xs.take (k + 1)) := mem_take_succ hy1 HX.out hyx
        clear hy1 hyx
        go_wp2
        go_roundg (n - (k + 1))
        case measure => omega
        case rel => exact ⟨k + 1, by first | rfl | go_num, by omega, Nat.le_refl _, HX2, rfl⟩
    · have hltz : ¬ (k : Int) < (n : Int) := by omega
      have HM : Hid (x ∉ xs) := by
        have := HX.out
        rw [List.take_of_length_le (by rw [HN.out]; omega)] at this
        exact this
      go_wp2
      go_ret
      exact ⟨by rw [decide_eq_false HM.out]; rfl, rfl⟩
set_option maxRecDepth 100000 in
set_option maxHeartbeats 3200000 in
theorem placeD (v : Value) (xs : List Int) (x : Int) (w : World) (hv : RG (Value.int .i64) w v xs) :
    Calls Try.prog 21 #[v, .int .i64 x] w fun e w' => e = .returned (.int .i64 (plF xs x)) ∧ w' = w := by
  obtain ⟨ao, cap, rfl⟩ := hv.sl
  obtain ⟨n, hn⟩ : ∃ n, xs.length = n := ⟨_, rfl⟩
  have hroom := hv.room
  rw [hn] at hv hroom ⊢
  unfold maxLen at hroom
  have HV : Hid (RG (Value.int .i64) w (.slice ao n cap) xs) := hv
  have HN : Hid (xs.length = n) := hn
  clear hv hn
  go_enter Try.func21, Try.ntmps21
  go_wp2
  go_loopg [5] n (fun g1 v5 wr => ∃ k : Nat, v5 = .int .i64 k ∧ k ≤ n ∧ n - k ≤ g1 ∧ Hid (x ∉ xs.take k) ∧ wr = w)
  case atStart => exact ⟨0, rfl, by omega, by omega, by simp [Hid], rfl⟩
  case round =>
    obtain ⟨k, rfl, hkn, hg1, HX, rfl⟩ := hrel
    by_cases hlt : k < n
    · have hltz : (k : Int) < (n : Int) := by omega
      obtain ⟨y, gx, ox, hy1, rfl, hy2⟩ := HV.out.at hlt
      by_cases hyx : y = x
      · have HM : Hid (plF xs x = (k : Int)) := plF_some (by rw [← hyx]; exact hy1) HX.out
        subst hyx
        clear hy1
        go_wp2
        go_ret
        exact ⟨by rw [HM.out]; rfl, rfl⟩
      · have hyb : (y == x) = false := by simp [hyx]
        have HX2 : Hid (x ∉ xs.take (k + 1)) := mem_take_succ hy1 HX.out hyx
        clear hy1 hyx
        go_wp2
        go_roundg (n - (k + 1))
        case measure => omega
        case rel => exact ⟨k + 1, by first | rfl | go_num, by omega, Nat.le_refl _, HX2, rfl⟩
    · have hltz : ¬ (k : Int) < (n : Int) := by omega
      have HM : Hid (plF xs x = -1) := by
        have := HX.out
        rw [List.take_of_length_le (by rw [HN.out]; omega)] at this
        exact plF_none this
      go_wp2
      go_ret
      exact ⟨by rw [HM.out]; rfl, rfl⟩
end Go.Proofs.Ytmgbhbdcnciccaa

namespace Go.Proofs.Ytmgbhbdcnciccaa
set_option linter.unusedVariables false
open Go.RowKit
/-- One more of a list: the least from which so many steps are left. -/
def lsS (M : Int → Option Int) (left : Int) (a x : Int) : Int := if M x = some left ∧ (a < 0 ∨ x < a) then x else a
def lsF (M : Int → Option Int) (left : Int) (L : List Int) : Int := L.foldl (lsS M left) (-1)
theorem lsF_step {M : Int → Option Int} {left x : Int} {L : List Int} {k : Nat} (h : L[k]? = some x) : lsF M left (L.take (k + 1)) = lsS M left (lsF M left (L.take k)) x := by
  unfold lsF
  rw [List.take_add_one, h, List.foldl_append]; rfl
theorem lsF_wf {M : Int → Option Int} {left : Int} {L : List Int} (h : ∀ x ∈ L, ∃ p : Nat, x = (p : Int) ∧ p < 100000) : -1 ≤ lsF M left L ∧ lsF M left L < 100000 := by
  have : ∀ (L : List Int) (a : Int), (-1 ≤ a ∧ a < 100000) → (∀ x ∈ L, ∃ p : Nat, x = (p : Int) ∧ p < 100000) → -1 ≤ L.foldl (lsS M left) a ∧ L.foldl (lsS M left) a < 100000 := by
    intro L
    induction L with
    | nil => intro a ha _; exact ha
    | cons x L ih =>
      intro a ha h
      refine ih _ ?_ (fun y hy => h y (List.mem_cons_of_mem _ hy))
      unfold lsS
      split
      · obtain ⟨p, rfl, hp⟩ := h x (by simp); omega
      · exact ha
  exact this L (-1) (by omega) h
set_option maxRecDepth 100000 in
set_option maxHeartbeats 6400000 in
theorem leastAtD (w : World) (left : Int) (v : Value) (L : List Int) (b n : Nat) (M : Int → Option Int) (h : RG (Value.int .i64) w v L) (hM : MpI w b n M) (hL : ∀ x ∈ L, ∃ p : Nat, x = (p : Int) ∧ p < 100000) :
    Calls Try.prog 53 #[.int .i64 left, v, .map (some b)] w fun e w' => e = .returned (.int .i64 (lsF M left L)) ∧ w' = w := by
  obtain ⟨ao, cap, rfl⟩ := h.sl
  obtain ⟨n2, hn2⟩ : ∃ n2, L.length = n2 := ⟨_, rfl⟩
  have hroom := h.room
  rw [hn2] at h hroom ⊢
  unfold maxLen at hroom
  have HR : Hid (RG (Value.int .i64) w (.slice ao n2 cap) L) := h
  have HM : Hid (MpI w b n M) := hM
  have HL : Hid (∀ x ∈ L, ∃ p : Nat, x = (p : Int) ∧ p < 100000) := hL
  have HN : Hid (L.length = n2) := hn2
  clear h hM hL hn2
  go_enter Try.func53, Try.ntmps53
  go_wp2
  go_loopg [7, 9, 10, 11, 14] n2 (fun g1 v7 _v9 _v10 _v11 v14 wr => ∃ k : Nat, v14 = .int .i64 k ∧ k ≤ n2 ∧ n2 - k ≤ g1 ∧ v7 = .int .i64 (lsF M left (L.take k)) ∧ wr = w)
  case atStart => exact ⟨0, rfl, by omega, by omega, rfl, rfl⟩
  case round =>
    obtain ⟨k, rfl, hkn, hg1, rfl, rfl⟩ := hrel
    by_cases hlt : k < n2
    · have hltz : (k : Int) < (n2 : Int) := by omega
      obtain ⟨x, gx, ox, hx1, rfl, hx2⟩ := HR.out.at hlt
      obtain ⟨p, rfl, hp⟩ := HL.out x (List.mem_of_getElem? hx1)
      have HST : Hid (lsF M left (L.take (k + 1)) = lsS M left (lsF M left (L.take k)) (p : Int)) := lsF_step hx1
      obtain ⟨a, ha⟩ : ∃ a, a = lsF M left (L.take k) := ⟨_, rfl⟩
      rw [← ha] at HST ⊢
      have hwf : (Lit.int .i64 (p : Int)).wf = true := WalkArith.wf_i64 (by omega)
      clear ha hx1
      rcases hMx : M (p : Int) with _ | c
      · have hS : lsS M left a (p : Int) = a := by unfold lsS; rw [hMx]; simp
        rw [hS] at HST
        go_wp2_with (at_lookup; refine wpList_mpLookOk rfl _ _ rfl b n M rfl HM.out _ rfl hwf ?_; rw [hMx])
        go_wp2
        go_roundg (n2 - (k + 1))
        case measure => omega
        case rel => exact ⟨k + 1, by first | rfl | go_num, by omega, Nat.le_refl _, by rw [HST.out], rfl⟩
      · by_cases hcl : c = left
        · have hS : lsS M left a (p : Int) = if a < 0 ∨ (p : Int) < a then (p : Int) else a := by unfold lsS; rw [hMx, hcl]; simp
          rw [hS] at HST
          have hcq : (c == left) = true := by simp [hcl]
          by_cases ha0 : a < 0
          · rw [if_pos (Or.inl ha0)] at HST
            go_wp2_with (at_lookup; refine wpList_mpLookOk rfl _ _ rfl b n M rfl HM.out _ rfl hwf ?_; rw [hMx])
            go_wp2
            go_roundg (n2 - (k + 1))
            case measure => omega
            case rel => exact ⟨k + 1, by first | rfl | go_num, by omega, Nat.le_refl _, by rw [HST.out], rfl⟩
          · by_cases hpa : (p : Int) < a
            · rw [if_pos (Or.inr hpa)] at HST
              go_wp2_with (at_lookup; refine wpList_mpLookOk rfl _ _ rfl b n M rfl HM.out _ rfl hwf ?_; rw [hMx])
              go_wp2
              go_roundg (n2 - (k + 1))
              case measure => omega
              case rel => exact ⟨k + 1, by first | rfl | go_num, by omega, Nat.le_refl _, by rw [HST.out], rfl⟩
            · rw [if_neg (by omega)] at HST
              go_wp2_with (at_lookup; refine wpList_mpLookOk rfl _ _ rfl b n M rfl HM.out _ rfl hwf ?_; rw [hMx])
              go_wp2
              go_roundg (n2 - (k + 1))
              case measure => omega
              case rel => exact ⟨k + 1, by first | rfl | go_num, by omega, Nat.le_refl _, by rw [HST.out], rfl⟩
        · have hS : lsS M left a (p : Int) = a := by unfold lsS; rw [hMx, if_neg (fun h => hcl (by simpa using h.1))]
          rw [hS] at HST
          have hcq : (c == left) = false := by simp [hcl]
          go_wp2_with (at_lookup; refine wpList_mpLookOk rfl _ _ rfl b n M rfl HM.out _ rfl hwf ?_; rw [hMx])
          go_wp2
          go_roundg (n2 - (k + 1))
          case measure => omega
          case rel => exact ⟨k + 1, by first | rfl | go_num, by omega, Nat.le_refl _, by rw [HST.out], rfl⟩
    · have hltz : ¬ (k : Int) < (n2 : Int) := by omega
      have HE : Hid (L.take k = L) := List.take_of_length_le (by rw [HN.out]; omega)
      go_wp2
      go_ret
      exact ⟨by rw [HE.out]; rfl, rfl⟩
end Go.Proofs.Ytmgbhbdcnciccaa

/-
  Proved here, plain mathematics: what is above and what is below are mirrors.
  Proved here: package dag's leastAt; the way that a search tells.
-/
import Derived.Test.YtmgbhbdcnciccaaDagInAll
import Derived.Test.YtmgbhbdcnciccaaDagManyAll
import Derived.Test.YtmgbhbdcnciccaaDagW
import Derived.Test.YtmgbhbdcnciccaaDagMp
namespace Go.Proofs.Ytmgbhbdcnciccaa
set_option linter.unusedVariables false
theorem rn_pt {C : List (List Int)} (hC : WfP C) : ∀ (m : Nat) (x y : Int), (0 ≤ x ∧ x < (C.length : Int)) → Rn C m x y → 0 ≤ y ∧ y < (C.length : Int)
  | 0, x, y, h, e => by have e2 : x = y := e
                        subst e2; exact h
  | m + 1, x, y, _, ⟨z, hz, h⟩ => rn_pt hC m z y (by obtain ⟨p, e, hp⟩ := hC _ z hz; omega) h
theorem rn_turn {P : List (List Int)} {n : Nat} (hn : P.length = n) (hP : WfP P) : ∀ (m : Nat) (x y : Int), (0 ≤ x ∧ x < (n : Int)) → Rn P m x y → Rn (chL P n) m y x
  | 0, x, y, _, e => e.symm
  | m + 1, x, y, hx, ⟨z, hz, h⟩ => by
    obtain ⟨p, e, hp⟩ := hP _ z hz
    have h1 := rn_turn hn hP m z y (by omega) h
    refine rn_snoc m y z x h1 ?_
    rw [e, Int.toNat_natCast, chL_get (by omega)]
    refine chF_mem.2 ⟨x.toNat, by omega, by omega, ?_⟩
    rw [← e]; exact hz
theorem rn_back {P : List (List Int)} {n : Nat} (hn : P.length = n) (hP : WfP P) : ∀ (m : Nat) (x y : Int), (0 ≤ x ∧ x < (n : Int)) → Rn (chL P n) m x y → Rn P m y x
  | 0, x, y, _, e => e.symm
  | m + 1, x, y, hx, ⟨z, hz, h⟩ => by
    obtain ⟨p, e, hp⟩ := chL_wf P n _ z hz
    rw [chL_len] at hp
    have h1 := rn_back hn hP m z y (by omega) h
    refine rn_snoc m y z x h1 ?_
    have hx2 : x.toNat < n := by omega
    rw [chL_get hx2] at hz
    obtain ⟨i, h2, h3, h4⟩ := chF_mem.1 hz
    rw [h3, Int.toNat_natCast]
    have : ((x.toNat : Nat) : Int) = x := by omega
    rw [← this]; exact h4
theorem mirror {P : List (List Int)} {n i k : Nat} (hn : P.length = n) (hP : WfP P) (hi : i < n) (hk : k < n) : RchP P [(i : Int)] (k : Int) ↔ RchP (chL P n) [(k : Int)] (i : Int) := by
  constructor
  · rintro ⟨x, hx, m, h⟩
    rw [List.mem_singleton] at hx; subst hx
    exact ⟨(k : Int), by simp, m, rn_turn hn hP m _ _ (by omega) h⟩
  · rintro ⟨x, hx, m, h⟩
    rw [List.mem_singleton] at hx; subst hx
    exact ⟨(i : Int), by simp, m, rn_back hn hP m _ _ (by omega) h⟩
theorem child_iff {P : List (List Int)} {n i k : Nat} (hi : i < n) (hk : k < n) : (k : Int) ∈ (chL P n).getD i [] ↔ (i : Int) ∈ P.getD k [] := by
  rw [chL_get hi, chF_mem]
  constructor
  · rintro ⟨j, _, e, h⟩
    have : k = j := by omega
    subst this; exact h
  · exact fun h => ⟨k, hk, rfl, h⟩
theorem rch_any {P : List (List Int)} {pts : List Int} {y : Int} : RchP P pts y ↔ ∃ x ∈ pts, RchP P [x] y :=
  ⟨fun ⟨x, hx, m, h⟩ => ⟨x, hx, x, by simp, m, h⟩, fun ⟨x, hx, z, hz, m, h⟩ => ⟨x, hx, m, by rw [List.mem_singleton] at hz; rw [← hz]; exact h⟩⟩
/-- Is a point above one of the first ones? -/
noncomputable def smB (P : List (List Int)) (pts : List Int) (k : Int) (i : Nat) : Bool := @decide (∃ x ∈ pts.take i, RchP P [x] k) (Classical.propDecidable _)
theorem smB_iff {P : List (List Int)} {pts : List Int} {k : Int} {i : Nat} : smB P pts k i = true ↔ ∃ x ∈ pts.take i, RchP P [x] k := @decide_eq_true_iff _ (Classical.propDecidable _)
theorem smB_zero (P : List (List Int)) (pts : List Int) (k : Int) : smB P pts k 0 = false := by
  rw [Bool.eq_false_iff]
  intro h
  obtain ⟨x, hx, _⟩ := smB_iff.1 h
  simp at hx
theorem smB_step {P : List (List Int)} {pts R : List Int} {k x : Int} {i : Nat} (hx : pts[i]? = some x) (hR : ∀ y, y ∈ R ↔ RchP P [x] y) : smB P pts k (i + 1) = (smB P pts k i || decide (k ∈ R)) := by
  rw [Bool.eq_iff_iff, Bool.or_eq_true, smB_iff, smB_iff, decide_eq_true_eq, hR, List.take_add_one, hx]
  constructor
  · rintro ⟨y, h, h2⟩
    rcases List.mem_append.1 h with h | h
    · exact Or.inl ⟨y, h, h2⟩
    · have e : y = x := by simpa using h
      subst e; exact Or.inr h2
  · rintro (⟨y, h, h2⟩ | h)
    · exact ⟨y, List.mem_append_left _ h, h2⟩
    · exact ⟨x, List.mem_append_right _ (by simp), h⟩
theorem smB_end {P : List (List Int)} {pts R : List Int} {k : Int} {n : Nat} (hn : pts.length ≤ n) (hR : ∀ y, y ∈ R ↔ RchP P pts y) : smB P pts k n = decide (k ∈ R) := by
  rw [Bool.eq_iff_iff, smB_iff, decide_eq_true_eq, hR, List.take_of_length_le hn]
  exact rch_any.symm
theorem edF_lenB (P : List (List Int)) (i : Nat) : (edF P i).length = smL P i := by
  induction i with
  | zero => rfl
  | succ i ih => simp only [edF, smL, List.length_append, List.length_map, ih]
theorem no_one {n : Nat} {x : Int} (h : 0 ≤ x ∧ x < (n : Int)) : noPts (n : Int) [x] = false := by
  unfold noPts noPt
  simp
  omega
end Go.Proofs.Ytmgbhbdcnciccaa

namespace Go.Proofs.Ytmgbhbdcnciccaa
set_option linter.unusedVariables false
open Go.RowKit
/-- One more of a list: the least from which so many steps are left. -/
def lsS (M : Int → Option Int) (left : Int) (a x : Int) : Int := if M x = some left ∧ (a < 0 ∨ x < a) then x else a
def lsF (M : Int → Option Int) (left : Int) (L : List Int) : Int := L.foldl (lsS M left) (-1)
theorem lsF_step {M : Int → Option Int} {left x : Int} {L : List Int} {k : Nat} (h : L[k]? = some x) : lsF M left (L.take (k + 1)) = lsS M left (lsF M left (L.take k)) x := by
  unfold lsF
  rw [List.take_add_one, h, List.foldl_append]; rfl
theorem lsF_wf {M : Int → Option Int} {left : Int} {L : List Int} (h : ∀ x ∈ L, ∃ p : Nat, x = (p : Int) ∧ p < 100000) : -1 ≤ lsF M left L ∧ lsF M left L < 100000 := by
  have : ∀ (L : List Int) (a : Int), (-1 ≤ a ∧ a < 100000) → (∀ x ∈ L, ∃ p : Nat, x = (p : Int) ∧ p < 100000) → -1 ≤ L.foldl (lsS M left) a ∧ L.foldl (lsS M left) a < 100000 := by
    intro L
    induction L with
    | nil => intro a ha _; exact ha
    | cons x L ih =>
      intro a ha h
      refine ih _ ?_ (fun y hy => h y (List.mem_cons_of_mem _ hy))
      unfold lsS
      split
      · obtain ⟨p, rfl, hp⟩ := h x (by simp); omega
      · exact ha
  exact this L (-1) (by omega) h
set_option maxRecDepth 100000 in
set_option maxHeartbeats 6400000 in
theorem leastAtD (w : World) (left : Int) (v : Value) (L : List Int) (b n : Nat) (M : Int → Option Int) (h : RG (Value.int .i64) w v L) (hM : MpI w b n M) (hL : ∀ x ∈ L, ∃ p : Nat, x = (p : Int) ∧ p < 100000) :
    Calls Try.prog 53 #[.int .i64 left, v, .map (some b)] w fun e w' => e = .returned (.int .i64 (lsF M left L)) ∧ w' = w := by
  obtain ⟨ao, cap, rfl⟩ := h.sl
  obtain ⟨n2, hn2⟩ : ∃ n2, L.length = n2 := ⟨_, rfl⟩
  have hroom := h.room
  rw [hn2] at h hroom ⊢
  unfold maxLen at hroom
  have HR : Hid (RG (Value.int .i64) w (.slice ao n2 cap) L) := h
  have HM : Hid (MpI w b n M) := hM
  have HL : Hid (∀ x ∈ L, ∃ p : Nat, x = (p : Int) ∧ p < 100000) := hL
  have HN : Hid (L.length = n2) := hn2
  clear h hM hL hn2
  go_enter Try.func53, Try.ntmps53
  go_wp2
  go_loopg [7, 9, 10, 11, 14] n2 (fun g1 v7 _v9 _v10 _v11 v14 wr => ∃ k : Nat, v14 = .int .i64 k ∧ k ≤ n2 ∧ n2 - k ≤ g1 ∧ v7 = .int .i64 (lsF M left (L.take k)) ∧ wr = w)
  case atStart => exact ⟨0, rfl, by omega, by omega, rfl, rfl⟩
  case round =>
    obtain ⟨k, rfl, hkn, hg1, rfl, rfl⟩ := hrel
    by_cases hlt : k < n2
    · have hltz : (k : Int) < (n2 : Int) := by omega
      obtain ⟨x, gx, ox, hx1, rfl, hx2⟩ := HR.out.at hlt
      obtain ⟨p, rfl, hp⟩ := HL.out x (List.mem_of_getElem? hx1)
      have HST : Hid (lsF M left (L.take (k + 1)) = lsS M left (lsF M left (L.take k)) (p : Int)) := lsF_step hx1
      obtain ⟨a, ha⟩ : ∃ a, a = lsF M left (L.take k) := ⟨_, rfl⟩
      rw [← ha] at HST ⊢
      have hwf : (Lit.int .i64 (p : Int)).wf = true := WalkArith.wf_i64 (by omega)
      clear ha hx1
      rcases hMx : M (p : Int) with _ | c
      · have hS : lsS M left a (p : Int) = a := by unfold lsS; rw [hMx]; simp
        rw [hS] at HST
        go_wp2_with (at_lookup; refine wpList_mpLookOk rfl _ _ rfl b n M rfl HM.out _ rfl hwf ?_; rw [hMx])
        go_wp2
        go_roundg (n2 - (k + 1))
        case measure => omega
        case rel => exact ⟨k + 1, by first | rfl | go_num, by omega, Nat.le_refl _, by rw [HST.out], rfl⟩
      · by_cases hcl : c = left
        · have hS : lsS M left a (p : Int) = if a < 0 ∨ (p : Int) < a then (p : Int) else a := by unfold lsS; rw [hMx, hcl]; simp
          rw [hS] at HST
          have hcq : (c == left) = true := by simp [hcl]
          by_cases ha0 : a < 0
          · rw [if_pos (Or.inl ha0)] at HST
            go_wp2_with (at_lookup; refine wpList_mpLookOk rfl _ _ rfl b n M rfl HM.out _ rfl hwf ?_; rw [hMx])
            go_wp2
            go_roundg (n2 - (k + 1))
            case measure => omega
            case rel => exact ⟨k + 1, by first | rfl | go_num, by omega, Nat.le_refl _, by rw [HST.out], rfl⟩
          · by_cases hpa : (p : Int) < a
            · rw [if_pos (Or.inr hpa)] at HST
              go_wp2_with (at_lookup; refine wpList_mpLookOk rfl _ _ rfl b n M rfl HM.out _ rfl hwf ?_; rw [hMx])
              go_wp2
              go_roundg (n2 - (k + 1))
              case measure => omega
              case rel => exact ⟨k + 1, by first | rfl | go_num, by omega, Nat.le_refl _, by rw [HST.out], rfl⟩
            · rw [if_neg (by omega)] at HST
              go_wp2_with (at_lookup; refine wpList_mpLookOk rfl _ _ rfl b n M rfl HM.out _ rfl hwf ?_; rw [hMx])
              go_wp2
              go_roundg (n2 - (k + 1))
              case measure => omega
              case rel => exact ⟨k + 1, by first | rfl | go_num, by omega, Nat.le_refl _, by rw [HST.out], rfl⟩
        · have hS : lsS M left a (p : Int) = a := by unfold lsS; rw [hMx, if_neg (fun h => hcl (by simpa using h.1))]
          rw [hS] at HST
          have hcq : (c == left) = false := by simp [hcl]
          go_wp2_with (at_lookup; refine wpList_mpLookOk rfl _ _ rfl b n M rfl HM.out _ rfl hwf ?_; rw [hMx])
          go_wp2
          go_roundg (n2 - (k + 1))
          case measure => omega
          case rel => exact ⟨k + 1, by first | rfl | go_num, by omega, Nat.le_refl _, by rw [HST.out], rfl⟩
    · have hltz : ¬ (k : Int) < (n2 : Int) := by omega
      have HE : Hid (L.take k = L) := List.take_of_length_le (by rw [HN.out]; omega)
      go_wp2
      go_ret
      exact ⟨by rw [HE.out]; rfl, rfl⟩
end Go.Proofs.Ytmgbhbdcnciccaa

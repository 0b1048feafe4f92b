/-
  Proved here: what the law's flood over the law's moral graph comes to is what a way in the moral graph leads to.
-/
import Derived.Test.YtcoiapgfaibkgaaGreatMbF
import Derived.Test.YtcoiapgfaibkgaaGreatHuMAll
namespace Go.Proofs.YtcoiapgfaibkgaaGreat
set_option linter.unusedVariables false
open Go.RowKit Go.Shelf Go.Sort Go.Lib
theorem abv_exM {P : List (List Int)} {G : List Int} (hC : ∀ (i : Nat) (x : Int), x ∈ P.getD i [] → ∃ p : Nat, x = (p : Int) ∧ p < P.length) (hp : noPts (P.length : Int) G = false) : ∃ A, AbvP P G A := by
  classical
  refine ⟨((List.range P.length).filter fun k : Nat => decide (RchP P G (k : Int))).map Int.ofNat, ?_, fun x => ?_⟩
  · exact List.pairwise_map.2 (List.Pairwise.filter _ ((List.pairwise_lt_range).imp fun h => Int.ofNat_lt.2 h))
  · rw [List.mem_map]
    constructor
    · rintro ⟨k, hk, rfl⟩
      rw [List.mem_filter] at hk
      exact of_decide_eq_true hk.2
    · intro h
      obtain ⟨p, rfl, hp2⟩ := rch_pt hC rfl hp h
      exact ⟨p, List.mem_filter.2 ⟨List.mem_range.2 hp2, decide_eq_true h⟩, rfl⟩
theorem no_appM {n : Int} {a b : List Int} : noPts n (a ++ b) = (noPts n a || noPts n b) := by unfold noPts; rw [List.any_append]
theorem mo_morj {P : List (List Int)} {X : Int → Prop} {R : List Int} (hR : ∀ x, x ∈ R ↔ X x) (hRn : ∀ x ∈ R, ∃ p : Nat, x = (p : Int) ∧ p < P.length) (hup : ∀ (c : Nat) (x : Int), X (c : Int) → x ∈ P.getD c [] → X x) {u v : Nat} (h : MoG P R u v) : MorJ P X (u : Int) (v : Int) ∧ X (v : Int) := by
  obtain ⟨x, hx, p, hp, h1⟩ := h
  obtain ⟨c, rfl, -⟩ := hRn x hx
  rw [Int.toNat_natCast] at hp h1
  have hc := (hR _).1 hx
  unfold MorJ
  rw [Int.toNat_natCast, Int.toNat_natCast]
  rcases h1 with (⟨rfl, rfl⟩ | ⟨rfl, rfl⟩) | ⟨rfl, h2⟩
  · exact ⟨Or.inr (Or.inl hp), hup _ _ hc hp⟩
  · exact ⟨Or.inl hp, hc⟩
  · exact ⟨Or.inr (Or.inr ⟨c, hc, hp, h2⟩), hup _ _ hc h2⟩
theorem morj_mo {P : List (List Int)} {X : Int → Prop} {R : List Int} (hR : ∀ x, x ∈ R ↔ X x) {u v : Nat} (hu : X (u : Int)) (hv : X (v : Int)) (h : MorJ P X (u : Int) (v : Int)) : MoG P R u v := by
  unfold MorJ at h
  rw [Int.toNat_natCast, Int.toNat_natCast] at h
  rcases h with h | h | ⟨c, hc, h1, h2⟩
  · exact ⟨(v : Int), (hR _).2 hv, (u : Int), by rw [Int.toNat_natCast]; exact h, Or.inl (Or.inr ⟨rfl, by rw [Int.toNat_natCast]⟩)⟩
  · exact ⟨(u : Int), (hR _).2 hu, (v : Int), by rw [Int.toNat_natCast]; exact h, Or.inl (Or.inl ⟨by rw [Int.toNat_natCast], rfl⟩)⟩
  · exact ⟨(c : Int), (hR _).2 hc, (u : Int), by rw [Int.toNat_natCast]; exact h1, Or.inr ⟨rfl, by rw [Int.toNat_natCast]; exact h2⟩⟩
theorem fl_mor {P : List (List Int)} {X : Int → Prop} {R G F : List Int} {M : Nat → Nat → Bool} (hM : StM P.length M (MoG P R)) (hR : ∀ x, x ∈ R ↔ X x) (hRn : ∀ x ∈ R, ∃ p : Nat, x = (p : Int) ∧ p < P.length) (hup : ∀ (c : Nat) (x : Int), X (c : Int) → x ∈ P.getD c [] → X x) (hF : ∀ x ∈ F, X x) {v : Nat} (h : FlP M P.length G F v) : ∃ x ∈ F, MorR P X G x (v : Int) := by
  induction h with
  | @start x h1 h2 => exact ⟨_, h1, MorR.refl (hF _ h1) h2⟩
  | @step u v _ hu hv hm hg ih =>
    obtain ⟨x, hx, hr⟩ := ih
    obtain ⟨hj, hX⟩ := mo_morj hR hRn hup ((hM u v hu hv).1 hm)
    exact ⟨x, hx, hr.snoc hj hX hg⟩
theorem mor_fl {P : List (List Int)} {X : Int → Prop} {R G F : List Int} {M : Nat → Nat → Bool} {f : Nat → Bool} (hM : StM P.length M (MoG P R)) (hR : ∀ x, x ∈ R ↔ X x) (hRn : ∀ x ∈ R, ∃ p : Nat, x = (p : Int) ∧ p < P.length) (hf : FlE M P.length G F f) {x y : Int} (hx : x ∈ F) (h : MorR P X G x y) : ∃ k : Nat, y = (k : Int) ∧ k < P.length ∧ f k = true := by
  obtain ⟨hX, hg⟩ := h.first
  have key := h.closed (S := fun z => X z ∧ ∃ k : Nat, z = (k : Int) ∧ k < P.length ∧ f k = true) (fun u w hu hj hw hwg => by
    obtain ⟨hXu, k, rfl, hk, hfk⟩ := hu
    obtain ⟨j, rfl, hj2⟩ := hRn w ((hR w).2 hw)
    exact ⟨hw, j, rfl, hj2, hf.shut k j hk hj2 hfk ((hM k j hk hj2).2 (morj_mo hR hXu hw hj)) hwg⟩) (by
    obtain ⟨k, rfl, hk⟩ := hRn x ((hR x).2 hX)
    exact ⟨hX, k, rfl, hk, hf.frm k hx hg⟩)
  exact key.2
/-- The law's answer is package sep's. -/
theorem moral_law {P : List (List Int)} (hmn : ∀ j, MnL j (P.getD j [])) {a b G R : List Int} (pa : PtsI P.length a) (pb : PtsI P.length b) (pG : PtsI P.length G) {M : Nat → Nat → Bool} {f : Nat → Bool} (hR : ∀ x, x ∈ R ↔ RchP P (a ++ b ++ G) x) (hRn : ∀ x ∈ R, ∃ p : Nat, x = (p : Int) ∧ p < P.length) (hM : StM P.length M (MoG P R)) (hf : FlE M P.length G a f) : (∃ x ∈ a, ∃ y ∈ b, TelM P G x y) ↔ ∃ k : Nat, (k : Int) ∈ b ∧ (k : Int) ∉ G ∧ f k = true := by
  have hP := mn_pts hmn
  obtain ⟨A, hA⟩ := abv_exM hP (pts_no pG)
  have h1 : (∃ x ∈ a, ∃ y ∈ b, TelM P G x y) ↔ ∃ x ∈ a, ∃ y ∈ b, TelP P P.length G A [x] y := exists_congr fun x => and_congr_right fun _ => exists_congr fun y => and_congr_right fun _ => tel_m hA
  rw [h1, moral_iff hP pa pb hA]
  constructor
  · rintro ⟨x, hx, y, hy, h⟩
    obtain ⟨k, rfl, hk, hfk⟩ := mor_fl hM hR hRn hf hx h
    exact ⟨k, hy, h.last.2, hfk⟩
  · rintro ⟨k, hk, hg, hfk⟩
    obtain ⟨p, hp, hpl⟩ := pb _ hk
    have hkl : k < P.length := by omega
    obtain ⟨x, hx, h⟩ := fl_mor hM hR hRn (fun c x h1 h2 => rch_up c x h1 h2) (fun x hx => ⟨x, List.mem_append_left _ (List.mem_append_left _ hx), 0, rfl⟩) (hf.snd k hkl hfk)
    exact ⟨x, hx, _, hk, h⟩
end Go.Proofs.YtcoiapgfaibkgaaGreat

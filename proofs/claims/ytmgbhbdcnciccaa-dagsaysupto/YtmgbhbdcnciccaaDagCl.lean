/-
  Proved here: the document's closed: all that the ways lead to, rising.
-/
import Derived.Test.YtmgbhbdcnciccaaDagCyAAll
import Derived.Test.YtmgbhbdcnciccaaDagWa
namespace Go.Proofs.Ytmgbhbdcnciccaa
set_option linter.unusedVariables false
open Go.RowKit
/-- Nothing leads out. -/
def CloB (C : List (List Int)) (n : Nat) (I : Nat → Bool) : Prop := ∀ v, v < n → I v = true → ∀ y ∈ C.getD v [], I y.toNat = true
def cntB (n : Nat) (I : Nat → Bool) : Nat := (List.range n).countP I
theorem cntB_le (n : Nat) (I : Nat → Bool) : cntB n I ≤ n := by
  have := List.countP_le_length (p := I) (l := List.range n)
  rwa [List.length_range] at this
theorem cntB_mono {I J : Nat → Bool} (h : ∀ v, I v = true → J v = true) : ∀ n, cntB n I ≤ cntB n J := fun n => List.countP_mono_left fun v _ => h v
theorem cntB_lt {I J : Nat → Bool} (h : ∀ v, I v = true → J v = true) {x : Nat} (h1 : I x = false) (h2 : J x = true) : ∀ n, x < n → cntB n I + 1 ≤ cntB n J := by
  intro n
  induction n with
  | zero => intro h; omega
  | succ n ih =>
    intro hx
    have e : ∀ K : Nat → Bool, cntB (n + 1) K = cntB n K + if K n then 1 else 0 := fun K => by
      unfold cntB
      rw [List.range_succ, List.countP_append, List.countP_singleton]
    rw [e, e]
    rcases Nat.lt_or_ge x n with hl | hl
    · have := ih hl
      by_cases hi : I n = true
      · rw [if_pos hi, if_pos (h n hi)]; omega
      · rw [if_neg hi]; split <;> omega
    · have : x = n := by omega
      subst this
      have := cntB_mono h x
      rw [h1, h2]
      simp
      omega
/-- Behind so many rounds. -/
structure ClR (C : List (List Int)) (n : Nat) (pts : List Int) (r : Nat) (I : Nat → Bool) : Prop where
  snd : ∀ v, v < n → I v = true → RchP C pts (v : Int)
  pt : ∀ x ∈ pts, I x.toNat = true
  grow : CloB C n I ∨ r + 1 ≤ cntB n I
/-- Within a round: points below i are done, and the first k of point i. -/
structure ClK (C : List (List Int)) (n : Nat) (pts : List Int) (I0 : Nat → Bool) (i k : Nat) (I : Nat → Bool) : Prop where
  mono : ∀ v, I0 v = true → I v = true
  snd : ∀ v, v < n → I v = true → RchP C pts (v : Int)
  stay : CloB C n I0 → ∀ v, I v = I0 v
  don : ∀ u, u < i → I0 u = true → ∀ y ∈ C.getD u [], I y.toNat = true
  cur : I0 i = true → ∀ y ∈ (C.getD i []).take k, I y.toNat = true
theorem ClR.start {C : List (List Int)} {n : Nat} {pts : List Int} (hp : ∀ x ∈ pts, 0 ≤ x ∧ x < (n : Int)) : ClR C n pts 0 (fun v => decide ((v : Int) ∈ pts)) := by
  refine ⟨fun v _ h => ⟨(v : Int), by simpa using h, 0, rfl⟩, fun x hx => ?_, ?_⟩
  · have e : ((x.toNat : Nat) : Int) = x := by have := hp x hx; omega
    rw [decide_eq_true_eq, e]; exact hx
  · by_cases h0 : ∃ x, x ∈ pts
    · obtain ⟨x, hx⟩ := h0
      right
      have hx2 := hp x hx
      have e : ((x.toNat : Nat) : Int) = x := by omega
      have := cntB_lt (I := fun _ => false) (J := fun v => decide ((v : Int) ∈ pts)) (fun v h => by simp at h) (x := x.toNat) rfl (by rw [decide_eq_true_eq, e]; exact hx) n (by omega)
      omega
    · left
      intro v _ h
      rw [decide_eq_true_eq] at h
      exact absurd ⟨_, h⟩ h0
theorem ClR.open {C : List (List Int)} {n : Nat} {pts : List Int} {r : Nat} {I : Nat → Bool} (h : ClR C n pts r I) : ClK C n pts I 0 0 I :=
  ⟨fun _ h => h, h.snd, fun _ _ => rfl, fun u hu => by omega, fun _ y hy => by simp at hy⟩
theorem ClK.set {C : List (List Int)} {n : Nat} {pts : List Int} {I0 I : Nat → Bool} {i k : Nat} (h : ClK C n pts I0 i k I) (hi : i < n) (hI : I i = true) {p : Nat} (hp : (C.getD i [])[k]? = some (p : Int)) : ClK C n pts I0 i (k + 1) (fun u => if u = p then true else I u) := by
  have hm : ∀ v, I v = true → (if v = p then true else I v) = true := fun v hv => by split <;> simp [hv]
  have hmem : (p : Int) ∈ C.getD i [] := List.mem_of_getElem? hp
  refine ⟨fun v hv => hm v (h.mono v hv), fun v hv h2 => ?_, fun hc v => ?_, fun u hu h0 y hy => hm _ (h.don u hu h0 y hy), fun h0 y hy => ?_⟩
  · by_cases e : v = p
    · subst e
      obtain ⟨x, hx, m, hr⟩ := h.snd i hi hI
      exact ⟨x, hx, m + 1, rn_snoc m x (i : Int) (v : Int) hr (by rw [Int.toNat_natCast]; exact hmem)⟩
    · simp only [if_neg e] at h2
      exact h.snd v hv h2
  · have hs := h.stay hc
    by_cases e : v = p
    · subst e
      have h1 := hc i hi (by rw [← hs]; exact hI) _ hmem
      rw [Int.toNat_natCast] at h1
      simp [h1]
    · simp only [if_neg e]; exact hs v
  · rw [List.take_add_one, hp] at hy
    rcases List.mem_append.1 hy with e | e
    · exact hm _ (h.cur h0 y e)
    · have e2 : y = (p : Int) := by simpa using e
      rw [e2, Int.toNat_natCast]; simp
theorem ClK.next {C : List (List Int)} {n : Nat} {pts : List Int} {I0 I : Nat → Bool} {i k : Nat} (h : ClK C n pts I0 i k I) (hk : (C.getD i []).length ≤ k ∨ I i = false) : ClK C n pts I0 (i + 1) 0 I := by
  refine ⟨h.mono, h.snd, h.stay, fun u hu h0 y hy => ?_, fun _ y hy => by simp at hy⟩
  rcases Nat.lt_or_ge u i with e | e
  · exact h.don u e h0 y hy
  · have : u = i := by omega
    subst this
    rcases hk with hk | hk
    · exact h.cur h0 y (by rw [List.take_of_length_le hk]; exact hy)
    · rw [h.mono u h0] at hk; exact absurd hk (by simp)
theorem ClK.done {C : List (List Int)} {n : Nat} {pts : List Int} {r : Nat} {I0 I : Nat → Bool} (h0 : ClR C n pts r I0) (hC : ∀ (v : Nat) (y : Int), y ∈ C.getD v [] → y.toNat < n) (h : ClK C n pts I0 n 0 I) : ClR C n pts (r + 1) I := by
  refine ⟨h.snd, fun x hx => h.mono _ (h0.pt x hx), ?_⟩
  rcases Classical.em (CloB C n I0) with hc | hc
  · left
    intro v hv h1 y hy
    rw [h.stay hc] at h1 ⊢
    exact hc v hv h1 y hy
  · right
    rcases h0.grow with hg | hg
    · exact absurd hg hc
    · obtain ⟨v, hv⟩ := Classical.not_forall.1 hc
      obtain ⟨hvn, hv⟩ := Classical.not_imp.1 hv
      obtain ⟨h1, hv⟩ := Classical.not_imp.1 hv
      obtain ⟨y, hv⟩ := Classical.not_forall.1 hv
      obtain ⟨hy, hv⟩ := Classical.not_imp.1 hv
      have := cntB_lt h.mono (x := y.toNat) (by simpa using hv) (h.don v hvn h1 y hy) n (hC v y hy)
      omega
theorem ClR.end {C : List (List Int)} {n : Nat} {pts : List Int} {I : Nat → Bool} (h : ClR C n pts n I) (hp : ∀ x ∈ pts, 0 ≤ x ∧ x < (n : Int)) (hC : ∀ (v : Nat) (y : Int), y ∈ C.getD v [] → 0 ≤ y ∧ y.toNat < n) {v : Nat} (hv : v < n) : I v = true ↔ RchP C pts (v : Int) := by
  refine ⟨h.snd v hv, ?_⟩
  have hc : CloB C n I := by
    rcases h.grow with hg | hg
    · exact hg
    · have := cntB_le n I; omega
  rintro ⟨x, hx, m, hr⟩
  have key : ∀ (m : Nat) (x : Int), 0 ≤ x → x.toNat < n → I x.toNat = true → Rn C m x (v : Int) → I v = true := by
    intro m
    induction m with
    | zero => intro x _ _ hI hr
              have e : x = (v : Int) := hr
              subst e; rw [Int.toNat_natCast] at hI; exact hI
    | succ m ih =>
      rintro x h0 h1 hI ⟨z, hz, hr⟩
      have := hC _ z hz
      exact ih z this.1 this.2 (hc _ h1 hI z hz) hr
  have := hp x hx
  exact key m x this.1 (by omega) (h.pt x hx) hr
theorem rn_ptB {C : List (List Int)} {n : Nat} (hC : ∀ (v : Nat) (y : Int), y ∈ C.getD v [] → 0 ≤ y ∧ y.toNat < n) : ∀ (m : Nat) (x y : Int), (0 ≤ x ∧ x < (n : Int)) → Rn C m x y → 0 ≤ y ∧ y < (n : Int)
  | 0, x, y, h, e => by have e2 : x = y := e
                        subst e2; exact h
  | m + 1, x, y, _, ⟨z, hz, h⟩ => rn_ptB hC m z y (by have := hC _ z hz; omega) h
/-- Those that are in, rising. -/
def inL (n : Nat) (I : Nat → Bool) : List Int := ((List.range n).filter I).map Int.ofNat
theorem inL_step (i : Nat) (I : Nat → Bool) : inL (i + 1) I = if I i = true then inL i I ++ [(i : Int)] else inL i I := by
  unfold inL
  rw [List.range_succ, List.filter_append, List.map_append]
  by_cases h : I i = true
  · rw [if_pos h]; simp [h]
  · rw [if_neg h]; simp [h]
theorem inL_mem {n : Nat} {I : Nat → Bool} {x : Int} : x ∈ inL n I ↔ ∃ v : Nat, v < n ∧ x = (v : Int) ∧ I v = true := by
  unfold inL
  rw [List.mem_map]
  constructor
  · rintro ⟨v, hv, e⟩
    rw [List.mem_filter] at hv
    exact ⟨v, by simpa using hv.1, e.symm, hv.2⟩
  · rintro ⟨v, h1, h2, h3⟩
    exact ⟨v, List.mem_filter.2 ⟨by simpa using h1, h3⟩, h2.symm⟩
theorem inL_len (n : Nat) (I : Nat → Bool) : (inL n I).length ≤ n := by
  unfold inL
  rw [List.length_map]
  have := List.length_filter_le I (List.range n)
  rwa [List.length_range] at this
theorem inL_rise (n : Nat) (I : Nat → Bool) : (inL n I).Pairwise (· < ·) := by
  unfold inL
  rw [List.pairwise_map]
  exact (List.pairwise_lt_range.filter _).imp fun {a b} h => by show (Int.ofNat a) < Int.ofNat b; exact Int.ofNat_lt.2 h
end Go.Proofs.Ytmgbhbdcnciccaa

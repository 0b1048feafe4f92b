/-
  Proved here: plain mathematics of tables: strides, how a choice of values goes on, where a table's cell stands. No condition.
-/
import Derived.Test.YtjlmignafhhjhaaRadMath
namespace Go.Proofs.Ytjlmignafhhjhaa
set_option linter.unusedVariables false

/-- Is a scope with its sizes right, behind a variable p? -/
def okS (p : Int) : List Int → List Int → Bool
  | x :: xs, z :: zs => decide (p < x) && decide (1 ≤ z) && okS x xs zs
  | _, _ => true
/-- Why a table may not be. -/
def chkE (xs zs : List Int) (m : Nat) : Int :=
  if zs.length ≠ xs.length then 60 else if okS (-1) xs zs = false then 60 else if cntE zs ≠ 0 then cntE zs else if cntN zs ≠ (m : Int) then 60 else 0
theorem okS_cons {p x z : Int} {xs zs : List Int} (h : okS p (x :: xs) (z :: zs) = true) : p < x ∧ 1 ≤ z ∧ okS x xs zs = true := by
  simp only [okS, Bool.and_eq_true, decide_eq_true_eq] at h
  exact ⟨h.1.1, h.1.2, h.2⟩
theorem okS_ones : ∀ {p : Int} {xs zs : List Int}, zs.length = xs.length → okS p xs zs = true → ∀ z ∈ zs, 1 ≤ z
  | _, [], [], _, _, z, hz => by cases hz
  | _, x :: xs, z :: zs, hl, h, y, hy => by
    obtain ⟨_, h2, h3⟩ := okS_cons h
    rcases List.mem_cons.1 hy with e | e
    · rw [e]; exact h2
    · exact okS_ones (by simpa using hl) h3 y e
theorem okS_above : ∀ {p : Int} {xs zs : List Int}, zs.length = xs.length → okS p xs zs = true → ∀ x ∈ xs, p < x
  | _, [], [], _, _, z, hz => by cases hz
  | _, x :: xs, z :: zs, hl, h, y, hy => by
    obtain ⟨h1, _, h3⟩ := okS_cons h
    rcases List.mem_cons.1 hy with e | e
    · rw [e]; exact h1
    · have := okS_above (by simpa using hl) h3 y e; omega
theorem okS_rise : ∀ {p : Int} {xs zs : List Int}, zs.length = xs.length → okS p xs zs = true → xs.Pairwise (· < ·)
  | _, [], [], _, _ => List.Pairwise.nil
  | _, x :: xs, z :: zs, hl, h => by
    obtain ⟨_, _, h3⟩ := okS_cons h
    exact List.pairwise_cons.2 ⟨okS_above (by simpa using hl) h3, okS_rise (by simpa using hl) h3⟩
theorem okS_step {p : Int} {xs zs : List Int} {i : Nat} {x z : Int} (hx : xs[i]? = some x) (hz : zs[i]? = some z) : okS p (xs.drop i) (zs.drop i) = (decide (p < x) && decide (1 ≤ z) && okS x (xs.drop (i + 1)) (zs.drop (i + 1))) := by
  obtain ⟨h1, e1⟩ := List.getElem?_eq_some_iff.1 hx
  obtain ⟨h2, e2⟩ := List.getElem?_eq_some_iff.1 hz
  rw [List.drop_eq_getElem_cons h1, List.drop_eq_getElem_cons h2, e1, e2, okS]
theorem okS_end {p : Int} {xs zs : List Int} {i : Nat} (h : xs.length ≤ i) : okS p (xs.drop i) (zs.drop i) = true := by
  rw [List.drop_of_length_le h]; rfl
structure Tab (xs zs : List Int) (m : Nat) : Prop where
  len : zs.length = xs.length
  ok : okS (-1) xs zs = true
  many : pr zs ≤ 2147483647
  cells : pr zs = (m : Int)
theorem chk_ok {xs zs : List Int} {m : Nat} (h : Tab xs zs m) : chkE xs zs m = 0 := by
  have h1 := okS_ones h.len h.ok
  have hn : negs zs = false := by
    cases hc : negs zs with
    | false => rfl
    | true =>
      obtain ⟨z, hz, e⟩ := List.any_eq_true.1 hc
      have := h1 z hz
      simp [isNeg] at e; omega
  obtain ⟨e1, e2⟩ := cnt_ok hn h.many
  simp [chkE, h.len, h.ok, e1, e2, h.cells]
theorem Tab.ones {xs zs : List Int} {m : Nat} (h : Tab xs zs m) : ∀ z ∈ zs, 1 ≤ z := okS_ones h.len h.ok

/-- The product of the sizes that are marked. -/
def pm : List Int → List Bool → Int
  | s :: S, b :: B => if b then s * pm S B else pm S B
  | _, _ => 1
/-- How far apart: the strides. -/
def strd : List Int → List Bool → List Int
  | _ :: S, b :: B => (if b then pm S B else 0) :: strd S B
  | _, _ => []
/-- What is marked. -/
def sel {α : Type} : List Bool → List α → List α
  | b :: B, x :: L => if b then x :: sel B L else sel B L
  | _, _ => []
/-- Values times strides. -/
def dot : List Int → List Int → Int
  | d :: D, t :: T => d * t + dot D T
  | _, _ => 0
theorem pm_sel : ∀ (S : List Int) (B : List Bool), pm S B = pr (sel B S)
  | [], [] => rfl
  | [], _ :: _ => rfl
  | _ :: _, [] => rfl
  | s :: S, b :: B => by cases b <;> simp [pm, sel, pr, pm_sel S B]
theorem mem_sel {α : Type} : ∀ {B : List Bool} {L : List α} {x : α}, x ∈ sel B L → x ∈ L
  | [], [], _, h => by cases h
  | [], _ :: _, _, h => by cases h
  | _ :: _, [], _, h => by cases h
  | b :: B, y :: L, x, h => by
    cases b with
    | true =>
      rcases List.mem_cons.1 (show x ∈ y :: sel B L from h) with e | e
      · rw [e]; exact List.mem_cons_self ..
      · exact List.mem_cons_of_mem _ (mem_sel e)
    | false => exact List.mem_cons_of_mem _ (mem_sel (show x ∈ sel B L from h))
theorem pm_bd : ∀ (S : List Int) (B : List Bool), (∀ z ∈ S, 1 ≤ z) → 1 ≤ pm S B ∧ pm S B ≤ pr S
  | [], [], _ => ⟨Int.le_refl _, Int.le_refl _⟩
  | [], _ :: _, _ => ⟨Int.le_refl _, Int.le_refl _⟩
  | s :: S, [], h => ⟨Int.le_refl _, pr_pos _ h⟩
  | s :: S, b :: B, h => by
    obtain ⟨h1, h2⟩ := pm_bd S B fun z hz => h z (List.mem_cons_of_mem _ hz)
    have hs := h s (List.mem_cons_self ..)
    cases b with
    | true =>
      simp only [pm, pr, if_true]
      have := Int.mul_le_mul_of_nonneg_left h2 (show 0 ≤ s by omega)
      have h3 := Int.mul_le_mul hs h1 (by omega) (by omega)
      exact ⟨by omega, this⟩
    | false =>
      simp only [pm, pr, Bool.false_eq_true, if_false]
      have := Int.mul_le_mul hs h2 (by omega) (by omega)
      exact ⟨h1, by omega⟩
/-- Valid values. -/
def Dig (S D : List Int) : Prop := D.length = S.length ∧ ∀ i, i < S.length → 0 ≤ D.getD i 0 ∧ D.getD i 0 < S.getD i 0
theorem Dig.tail {s d : Int} {S D : List Int} (h : Dig (s :: S) (d :: D)) : 0 ≤ d ∧ d < s ∧ Dig S D := by
  refine ⟨(h.2 0 (by simp)).1, (h.2 0 (by simp)).2, by simpa using h.1, fun i hi => ?_⟩
  have := h.2 (i + 1) (by simp; omega)
  simpa using this
theorem dot_bd : ∀ (S : List Int) (B : List Bool) (D : List Int), Dig S D → 0 ≤ dot D (strd S B) ∧ dot D (strd S B) < pm S B
  | [], [], [], _ => ⟨Int.le_refl _, by decide⟩
  | [], _ :: _, [], _ => ⟨Int.le_refl _, by simp [dot, pm]⟩
  | [], _, _ :: _, h => by have := h.1; simp at this
  | s :: S, _, [], h => by have := h.1; simp at this
  | s :: S, [], d :: D, h => by simp [strd, dot, pm]
  | s :: S, b :: B, d :: D, h => by
    obtain ⟨h0, h1, h2⟩ := h.tail
    obtain ⟨k0, k1⟩ := dot_bd S B D h2
    cases b with
    | true =>
      simp only [strd, dot, pm, if_true]
      have h3 := Int.mul_nonneg h0 (show 0 ≤ pm S B by omega)
      have h4 : (d + 1) * pm S B ≤ s * pm S B := Int.mul_le_mul_of_nonneg_right (by omega) (by omega)
      rw [Int.add_mul, Int.one_mul] at h4
      exact ⟨by omega, by omega⟩
    | false =>
      simp only [strd, dot, pm, Bool.false_eq_true, if_false]
      exact ⟨by omega, by omega⟩
theorem strd_len : ∀ (S : List Int) (B : List Bool), S.length = B.length → (strd S B).length = S.length
  | [], [], _ => rfl
  | s :: S, b :: B, h => by simp [strd, strd_len S B (by simpa using h)]
theorem strd_drop : ∀ (S : List Int) (B : List Bool) (k : Nat), S.length = B.length → (strd S B).drop k = strd (S.drop k) (B.drop k)
  | S, B, 0, _ => rfl
  | [], [], k + 1, _ => by simp [strd]
  | s :: S, b :: B, k + 1, h => by simpa [strd] using strd_drop S B k (by simpa using h)
theorem strd_get (S : List Int) (B : List Bool) (j : Nat) (hl : S.length = B.length) (hj : j < S.length) : (strd S B).getD j 0 = if B.getD j false then pm (S.drop (j + 1)) (B.drop (j + 1)) else 0 := by
  have h1 : ((strd S B).drop j).getD 0 0 = (strd S B).getD j 0 := by simp [List.getD_eq_getElem?_getD]
  rw [← h1, strd_drop S B j hl, List.drop_eq_getElem_cons hj, List.drop_eq_getElem_cons (show j < B.length by omega)]
  simp [strd, List.getD_eq_getElem?_getD, show j < B.length by omega]
theorem pm_drop (S : List Int) (B : List Bool) (j : Nat) (hl : S.length = B.length) (hj : j < S.length) : pm (S.drop j) (B.drop j) = if B.getD j false then S.getD j 0 * pm (S.drop (j + 1)) (B.drop (j + 1)) else pm (S.drop (j + 1)) (B.drop (j + 1)) := by
  rw [List.drop_eq_getElem_cons hj, List.drop_eq_getElem_cons (show j < B.length by omega)]
  simp [pm, List.getD_eq_getElem?_getD, hj, show j < B.length by omega]
/-- One value turned. -/
theorem dot_set : ∀ (D T : List Int) (j : Nat) (x : Int), j < D.length → D.length = T.length → dot (D.set j x) T = dot D T + (x - D.getD j 0) * T.getD j 0
  | d :: D, t :: T, 0, x, _, _ => by simp [dot, Int.sub_mul]; omega
  | d :: D, t :: T, j + 1, x, h, hl => by
    simp only [List.set_cons_succ, dot]
    rw [dot_set D T j x (by simpa using h) (by simpa using hl)]
    simp [List.getD_eq_getElem?_getD]; omega
/-- The place, from the front. -/
def plr : List Int → List Int → Int
  | _ :: ss, d :: ds => d * pr ss + plr ss ds
  | _, _ => 0
theorem pl_cons (s d : Int) (ss ds : List Int) : ∀ k, k ≤ ss.length → pl (s :: ss) (d :: ds) (k + 1) = d * pr (ss.take k) + pl ss ds k := by
  intro k
  induction k with
  | zero => intro _; simp [pl, pr]
  | succ k ih =>
    intro hk
    have h1 := ih (by omega)
    have h2 : pl (s :: ss) (d :: ds) (k + 1 + 1) = pl (s :: ss) (d :: ds) (k + 1) * ss.getD k 0 + ds.getD k 0 := by
      rw [pl]; simp [List.getD_eq_getElem?_getD]
    have h3 : pl ss ds (k + 1) = pl ss ds k * ss.getD k 0 + ds.getD k 0 := rfl
    rw [h2, h1, h3, pr_take ss k (by omega), Int.add_mul, Int.mul_assoc, Int.add_assoc]
theorem pl_plr : ∀ (ss ds : List Int), ss.length = ds.length → pl ss ds ss.length = plr ss ds
  | [], [], _ => rfl
  | s :: ss, d :: ds, h => by
    rw [List.length_cons, pl_cons s d ss ds _ (Nat.le_refl _), List.take_length, pl_plr ss ds (by simpa using h)]; rfl
/-- A table's cell stands at the place of its own values. -/
theorem dot_place : ∀ (S D : List Int) (B : List Bool), D.length = S.length → S.length = B.length → dot D (strd S B) = plr (sel B S) (sel B D)
  | [], [], [], _, _ => rfl
  | s :: S, d :: D, b :: B, h1, h2 => by
    have ih := dot_place S D B (by simpa using h1) (by simpa using h2)
    cases b with
    | true => simp only [strd, dot, sel, plr, if_true, pm_sel]; rw [ih]
    | false => simp only [strd, dot, sel, Bool.false_eq_true, if_false, Int.mul_zero, Int.zero_add]; exact ih

/-- The values when k of them, from the end on, are gone on with. -/
def mixK (S : List Int) (i : Int) (k : Nat) : List Int := (List.range S.length).map fun j => if S.length - k ≤ j then digAt S (i + 1) j else digAt S i j
theorem mixK_len (S : List Int) (i : Int) (k : Nat) : (mixK S i k).length = S.length := by simp [mixK]
theorem mixK_zero (S : List Int) (i : Int) : mixK S i 0 = dgs S i := by
  apply List.ext_getElem
  · simp [mixK, dgs]
  · intro j h1 h2
    have hj : j < S.length := by simpa [mixK] using h1
    simp [mixK, dgs, show ¬ S.length ≤ j by omega]
theorem mixK_full (S : List Int) (i : Int) : mixK S i S.length = dgs S (i + 1) := by simp [mixK, dgs]
theorem mixK_get (S : List Int) (i : Int) (k j : Nat) (hj : j < S.length) : (mixK S i k).getD j 0 = if S.length - k ≤ j then digAt S (i + 1) j else digAt S i j := by
  simp [mixK, List.getD_eq_getElem?_getD, hj]
theorem mixK_step (S : List Int) (i : Int) (k j : Nat) (hk : k < S.length) (hj : S.length - 1 - k = j) : (mixK S i k).set j (digAt S (i + 1) j) = mixK S i (k + 1) := by
  apply List.ext_getElem
  · simp [mixK]
  · intro m h1 h2
    have hm : m < S.length := by simp [mixK] at h2; omega
    rw [List.getElem_set]
    by_cases hjm : j = m
    · subst hjm
      simp only [mixK, List.getElem_map, List.getElem_range, if_true]
      rw [if_pos (by omega)]
    · rw [if_neg hjm]
      simp only [mixK, List.getElem_map, List.getElem_range]
      by_cases h : S.length - k ≤ m
      · rw [if_pos h, if_pos (by omega)]
      · rw [if_neg h, if_neg (by omega)]
theorem mixK_dig (S : List Int) (i : Int) (k : Nat) (h1 : ∀ z ∈ S, 1 ≤ z) : Dig S (mixK S i k) := by
  refine ⟨mixK_len S i k, fun j hj => ?_⟩
  rw [mixK_get S i k j hj]
  split
  · exact dig_bd S _ h1 j hj
  · exact dig_bd S _ h1 j hj
theorem dgs_dig (S : List Int) (i : Int) (h1 : ∀ z ∈ S, 1 ≤ z) : Dig S (dgs S i) := mixK_zero S i ▸ mixK_dig S i 0 h1
/-- A quotient, one further on. -/
theorem div_next (i P : Int) (hP : 1 ≤ P) : (P ∣ i + 1 → (i + 1) / P = i / P + 1) ∧ (¬ P ∣ i + 1 → (i + 1) / P = i / P) := by
  have a1 := Int.emod_nonneg i (show P ≠ 0 by omega)
  have a2 := Int.emod_lt_of_pos i (show 0 < P by omega)
  have a3 := Int.mul_ediv_add_emod i P
  constructor
  · rintro ⟨c, hc⟩
    rw [hc, Int.mul_ediv_cancel_left _ (by omega)]
    have h1 : P * (c - (i / P + 1)) = i % P + 1 - P := by rw [Int.mul_sub, Int.mul_add]; omega
    have h2 : c - (i / P + 1) = 0 := by
      rcases Int.lt_trichotomy (c - (i / P + 1)) 0 with h | h | h
      · have := Int.mul_le_mul_of_nonneg_left (show c - (i / P + 1) ≤ -1 by omega) (show 0 ≤ P by omega)
        omega
      · exact h
      · have := Int.mul_le_mul_of_nonneg_left (show 1 ≤ c - (i / P + 1) by omega) (show 0 ≤ P by omega)
        omega
    omega
  · intro hn
    have h1 : i % P + 1 ≠ P := fun e => hn ⟨i / P + 1, by rw [Int.mul_add]; omega⟩
    have h2 : i + 1 = P * (i / P) + (i % P + 1) := by omega
    rw [h2, Int.add_comm, Int.add_mul_ediv_left _ _ (by omega), Int.ediv_eq_zero_of_lt (by omega) (by omega)]
    omega
/-- k values from the end on have come to their ends. -/
def Car (S : List Int) (i : Int) (k : Nat) : Prop := pr (S.drop (S.length - k)) ∣ i + 1
theorem car_zero (S : List Int) (i : Int) : Car S i 0 := by
  unfold Car
  rw [Nat.sub_zero, List.drop_length]
  exact ⟨i + 1, by simp [pr]⟩
theorem dig_next {S : List Int} {i : Int} {k j : Nat} (h1 : ∀ z ∈ S, 1 ≤ z) (hk : k < S.length) (hj : S.length - 1 - k = j) (hc : Car S i k) :
    (digAt S i j + 1 < S.getD j 0 → digAt S (i + 1) j = digAt S i j + 1 ∧ mixK S i (k + 1) = dgs S (i + 1)) ∧
    (S.getD j 0 ≤ digAt S i j + 1 → digAt S i j + 1 = S.getD j 0 ∧ digAt S (i + 1) j = 0 ∧ Car S i (k + 1)) := by
  have hkj : S.length - k = j + 1 := by omega
  have hk1 : S.length - (k + 1) = j := by omega
  unfold Car at hc ⊢
  rw [hkj] at hc
  rw [hk1]
  have hP := (pr_drop_le S h1 (j + 1)).1
  have hd := (div_next i (pr (S.drop (j + 1))) hP).1 hc
  have hb := dig_bd S i h1 j (by omega)
  have hs : 1 ≤ S.getD j 0 := by omega
  have hdv : ∀ a, a / pr (S.drop (j + 1)) / S.getD j 0 = a / pr (S.drop j) := fun a => div_step S a h1 j (by omega)
  have hpd := pr_drop S j (by omega)
  have e1 : digAt S (i + 1) j = (i / pr (S.drop (j + 1)) + 1) % S.getD j 0 := by unfold digAt; rw [hd]
  have e0 : digAt S i j = i / pr (S.drop (j + 1)) % S.getD j 0 := rfl
  have q := Int.mul_ediv_add_emod (i / pr (S.drop (j + 1))) (S.getD j 0)
  constructor
  · intro hlt
    have e2 : digAt S (i + 1) j = digAt S i j + 1 := by
      rw [e1, e0]
      rw [e0] at hlt hb
      rw [Int.add_emod, Int.emod_eq_of_lt (a := (1 : Int)) (by omega) (by omega), Int.emod_eq_of_lt (by omega) hlt]
    refine ⟨e2, ?_⟩
    have hnd : ¬ pr (S.drop j) ∣ i + 1 := by
      rintro ⟨c, hc2⟩
      have h9 : (i + 1) / pr (S.drop (j + 1)) = S.getD j 0 * c := by
        rw [hc2, hpd, Int.mul_comm (S.getD j 0), Int.mul_assoc, Int.mul_ediv_cancel_left _ (by omega)]
      have h8 : digAt S (i + 1) j = 0 := by unfold digAt; rw [h9]; exact Int.mul_emod_right _ _
      omega
    apply List.ext_getElem
    · simp [mixK, dgs]
    · intro m hm1 hm2
      have hm : m < S.length := by simpa [mixK] using hm1
      simp only [mixK, dgs, List.getElem_map, List.getElem_range]
      split
      · rfl
      · rename_i hlt2
        have hmj : m < j := by omega
        unfold digAt
        congr 1
        have hPm := (pr_drop_le S h1 (m + 1)).1
        refine ((div_next i (pr (S.drop (m + 1))) hPm).2 ?_).symm
        intro hdv2
        apply hnd
        refine Int.dvd_trans ?_ hdv2
        have : S.drop (m + 1) = (S.drop (m + 1)).take (j - (m + 1)) ++ S.drop j := by
          have h7 := List.take_append_drop (j - (m + 1)) (S.drop (m + 1))
          rw [List.drop_drop, show m + 1 + (j - (m + 1)) = j by omega] at h7
          exact h7.symm
        rw [this, pr_append]
        exact ⟨_, Int.mul_comm _ _⟩
  · intro hge
    have e3 : digAt S i j + 1 = S.getD j 0 := by omega
    refine ⟨e3, ?_, ?_⟩
    · rw [e1]
      rw [e0] at e3
      have : i / pr (S.drop (j + 1)) + 1 = S.getD j 0 * (i / pr (S.drop (j + 1)) / S.getD j 0 + 1) := by rw [Int.mul_add]; omega
      rw [this]; exact Int.mul_emod_right _ _
    · rw [e0] at e3
      obtain ⟨c, hc2⟩ := hc
      have h6 : (i + 1) / pr (S.drop (j + 1)) = c := by rw [hc2, Int.mul_ediv_cancel_left _ (by omega)]
      refine ⟨i / pr (S.drop (j + 1)) / S.getD j 0 + 1, ?_⟩
      have : c = S.getD j 0 * (i / pr (S.drop (j + 1)) / S.getD j 0 + 1) := by rw [← h6, hd, Int.mul_add]; omega
      rw [hc2, hpd, this, ← Int.mul_assoc, Int.mul_comm (pr (S.drop (j + 1)))]
/-- The strides when k of them, from the end on, are told. -/
def strK (S : List Int) (B : List Bool) (k : Nat) : List Int := (List.range S.length).map fun j => if S.length - k ≤ j then (strd S B).getD j 0 else 0
theorem strK_len (S : List Int) (B : List Bool) (k : Nat) : (strK S B k).length = S.length := by simp [strK]
theorem strK_zero (S : List Int) (B : List Bool) : strK S B 0 = List.replicate S.length 0 := by
  apply List.ext_getElem
  · simp [strK]
  · intro i h1 h2
    have : ¬ S.length ≤ i := by simp [strK] at h1; omega
    simp [strK, this]
theorem strK_full (S : List Int) (B : List Bool) (hl : S.length = B.length) : strK S B S.length = strd S B := by
  apply List.ext_getElem
  · simp [strK, strd_len S B hl]
  · intro i h1 h2
    simp [strK, List.getD_eq_getElem?_getD, h2]
theorem strK_step (S : List Int) (B : List Bool) (k j : Nat) (hk : k < S.length) (hj : S.length - 1 - k = j) : (strK S B k).set j ((strd S B).getD j 0) = strK S B (k + 1) := by
  apply List.ext_getElem
  · simp [strK]
  · intro m h1 h2
    have hm : m < S.length := by simp [strK] at h2; omega
    rw [List.getElem_set]
    by_cases hjm : j = m
    · subst hjm
      simp only [strK, List.getElem_map, List.getElem_range, if_true]
      rw [if_pos (by omega)]
    · rw [if_neg hjm]
      simp only [strK, List.getElem_map, List.getElem_range]
      by_cases h : S.length - k ≤ m
      · rw [if_pos h, if_pos (by omega)]
      · rw [if_neg h, if_neg (by omega)]
theorem strK_same (S : List Int) (B : List Bool) (k j : Nat) (hl : S.length = B.length) (hk : k < S.length) (hj : S.length - 1 - k = j) (hb : B.getD j false = false) : strK S B (k + 1) = strK S B k := by
  rw [← strK_step S B k j hk hj, strd_get S B j hl (by omega), hb]
  apply List.ext_getElem
  · simp
  · intro m h1 h2
    rw [List.getElem_set]
    split
    · rename_i e
      subst e
      simp [strK]
      omega
    · rfl
end Go.Proofs.Ytjlmignafhhjhaa

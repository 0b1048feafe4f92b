/-
  Proved here: plain mathematics of digits with bases of their own: products, places, digits. No condition.
-/
namespace Go.Proofs.Ytphbbkckigdgoaa

/-- The product. -/
def pr : List Int → Int
  | [] => 1
  | z :: zs => z * pr zs
theorem pr_append (a b : List Int) : pr (a ++ b) = pr a * pr b := by
  induction a with
  | nil => simp [pr]
  | cons z r ih => simp only [List.cons_append, pr]; rw [ih, Int.mul_assoc]
theorem pr_take (zs : List Int) (k : Nat) (h : k < zs.length) : pr (zs.take (k + 1)) = pr (zs.take k) * zs.getD k 0 := by
  rw [List.take_succ_eq_append_getElem h, pr_append, List.getD_eq_getElem?_getD, List.getElem?_eq_getElem h]
  simp [pr]
theorem pr_pos (zs : List Int) (h : ∀ z ∈ zs, 1 ≤ z) : 1 ≤ pr zs := by
  induction zs with
  | nil => exact Int.le_refl 1
  | cons z r ih =>
    have h1 := ih fun y hy => h y (List.mem_cons_of_mem _ hy)
    have h2 := h z (List.mem_cons_self ..)
    have := Int.mul_le_mul h2 h1 (by omega) (by omega)
    simpa [pr] using this
theorem pr_zero (zs : List Int) (h : (0 : Int) ∈ zs) : pr zs = 0 := by
  induction zs with
  | nil => cases h
  | cons z r ih =>
    rcases List.mem_cons.1 h with e | e
    · rw [pr, ← e, Int.zero_mul]
    · rw [pr, ih e, Int.mul_zero]
theorem pr_split (zs : List Int) (k : Nat) : pr zs = pr (zs.take k) * pr (zs.drop k) := by
  rw [← pr_append, List.take_append_drop]
theorem pr_take_le (zs : List Int) (h : ∀ z ∈ zs, 1 ≤ z) (k : Nat) : pr (zs.take k) ≤ pr zs := by
  have h1 := pr_pos (zs.take k) fun z hz => h z (List.mem_of_mem_take hz)
  have h2 := pr_pos (zs.drop k) fun z hz => h z (List.mem_of_mem_drop hz)
  rw [pr_split zs k]
  have h3 : pr (zs.take k) * 1 ≤ pr (zs.take k) * pr (zs.drop k) := Int.mul_le_mul_of_nonneg_left h2 (by omega)
  omega
/-- Is one below nought? -/
def isNeg (z : Int) : Bool := decide (z < 0)
def negs (zs : List Int) : Bool := zs.any isNeg
def nuls (zs : List Int) : Bool := zs.any fun z => z == 0
theorem negs_no {zs : List Int} (h : negs zs = false) : ∀ z ∈ zs, 0 ≤ z := fun z hz => by
  have := List.any_eq_false.1 h z hz
  simp [isNeg] at this
  exact this
theorem nuls_no {zs : List Int} (h : nuls zs = false) : ∀ z ∈ zs, z ≠ 0 := fun z hz => by
  have := List.any_eq_false.1 h z hz
  simpa using this
theorem nuls_yes {zs : List Int} (h : nuls zs = true) : (0 : Int) ∈ zs := by
  obtain ⟨z, hz, e⟩ := List.any_eq_true.1 h
  have : z = 0 := by simpa using e
  exact this ▸ hz
theorem ones {zs : List Int} (h : negs zs = false) (h2 : nuls zs = false) : ∀ z ∈ zs, 1 ≤ z := fun z hz => by
  have := negs_no h z hz
  have := nuls_no h2 z hz
  omega
/-- Count's error, and how many there are. -/
def cntE (zs : List Int) : Int := if negs zs then 3 else if 2147483647 < pr zs then 4 else 0
def cntN (zs : List Int) : Int := if negs zs then 0 else if 2147483647 < pr zs then 0 else pr zs
theorem pr_nonneg (zs : List Int) (h : ∀ z ∈ zs, 0 ≤ z) : 0 ≤ pr zs := by
  induction zs with
  | nil => exact Int.le_of_lt Int.one_pos
  | cons z r ih => exact Int.mul_nonneg (h z (List.mem_cons_self ..)) (ih fun y hy => h y (List.mem_cons_of_mem _ hy))
theorem cnt_neg {zs : List Int} (h : negs zs = true) : cntE zs = 3 ∧ cntN zs = 0 := by simp [cntE, cntN, h]
theorem cnt_nul {zs : List Int} (h : negs zs = false) (h2 : nuls zs = true) : cntE zs = 0 ∧ cntN zs = 0 := by
  have := pr_zero zs (nuls_yes h2)
  simp [cntE, cntN, h, this]
theorem cnt_many {zs : List Int} (h : negs zs = false) (h2 : 2147483647 < pr zs) : cntE zs = 4 ∧ cntN zs = 0 := by simp [cntE, cntN, h, h2]
theorem cnt_ok {zs : List Int} (h : negs zs = false) (h2 : pr zs ≤ 2147483647) : cntE zs = 0 ∧ cntN zs = pr zs := by
  have : ¬ 2147483647 < pr zs := by omega
  simp [cntE, cntN, h, this]
theorem cnt_bd (zs : List Int) : 0 ≤ cntN zs ∧ cntN zs ≤ 2147483647 := by
  unfold cntN
  by_cases h : negs zs = true
  · simp [h]
  · have h' : negs zs = false := by simpa using h
    by_cases h2 : 2147483647 < pr zs
    · simp [h', h2]
    · have := pr_nonneg zs (negs_no h')
      simp only [h', h2, if_false, Bool.false_eq_true]
      omega
theorem cntE_zero {zs : List Int} (h : cntE zs = 0) : negs zs = false ∧ pr zs ≤ 2147483647 ∧ cntN zs = pr zs := by
  unfold cntE at h
  by_cases h1 : negs zs = true
  · simp [h1] at h
  · have h1 : negs zs = false := by simpa using h1
    by_cases h2 : 2147483647 < pr zs
    · simp [h1, h2] at h
    · exact ⟨h1, by omega, (cnt_ok h1 (by omega)).2⟩
/-- The digits of a place. -/
def digAt (ss : List Int) (at_ : Int) (i : Nat) : Int := (at_ / pr (ss.drop (i + 1))) % ss.getD i 0
end Go.Proofs.Ytphbbkckigdgoaa

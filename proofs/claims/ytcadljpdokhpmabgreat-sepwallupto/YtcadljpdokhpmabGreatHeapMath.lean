/-
  Proved here: what package heap does to a list of numbers: up, down, and that the least stands first. No condition.
-/
namespace Go.Proofs.YtcadljpdokhpmabGreat
/-- Two places changed. -/
def swp (L : List Int) (i j : Nat) : List Int := (L.set i (L.getD j 0)).set j (L.getD i 0)
theorem swp_len (L : List Int) (i j : Nat) : (swp L i j).length = L.length := by simp [swp]
theorem swp_get (L : List Int) {i j : Nat} (hi : i < L.length) (hj : j < L.length) (k : Nat) : (swp L i j).getD k 0 = if k = j then L.getD i 0 else if k = i then L.getD j 0 else L.getD k 0 := by
  unfold swp
  simp only [List.getD_eq_getElem?_getD, List.getElem?_set, List.length_set]
  by_cases h1 : k = j
  · subst h1; simp [hj]
  · have h1' : ¬ j = k := fun e => h1 e.symm
    by_cases h2 : k = i
    · subst h2; simp only [h1', h1, if_false, if_true, hi]; rfl
    · have h2' : ¬ i = k := fun e => h2 e.symm
      simp only [h1', h1, h2, h2', if_false]
theorem swp_perm (L : List Int) {i j : Nat} (hi : i < L.length) (hj : j < L.length) : (swp L i j).Perm L := by
  have h := List.set_set_perm hi hj
  have e1 : L.getD j 0 = L[j] := by simp [List.getD_eq_getElem?_getD, hj]
  have e2 : L.getD i 0 = L[i] := by simp [List.getD_eq_getElem?_getD, hi]
  unfold swp
  rw [e1, e2]
  exact h
/-- The first n stand as a heap. -/
def HeapN (L : List Int) (n : Nat) : Prop := ∀ i, 0 < i → i < n → L.getD ((i - 1) / 2) 0 ≤ L.getD i 0
theorem HeapN.least {L : List Int} {n : Nat} (h : HeapN L n) : ∀ i, i < n → L.getD 0 0 ≤ L.getD i 0 := by
  intro i
  induction i using Nat.strongRecOn with
  | _ i ih =>
    intro hi
    rcases Nat.eq_zero_or_pos i with rfl | h0
    · exact Int.le_refl _
    · have h1 := ih ((i - 1) / 2) (by omega) (by omega)
      have h2 := h i h0 hi
      omega
/-- Up from a place. -/
def upF : Nat → List Int → Nat → List Int
  | 0, L, _ => L
  | f + 1, L, j => if j = 0 then L else if L.getD j 0 < L.getD ((j - 1) / 2) 0 then upF f (swp L ((j - 1) / 2) j) ((j - 1) / 2) else L
theorem upF_len : ∀ (f : Nat) (L : List Int) (j : Nat), (upF f L j).length = L.length
  | 0, _, _ => rfl
  | f + 1, L, j => by
    unfold upF
    split
    · rfl
    · split
      · rw [upF_len f]; exact swp_len _ _ _
      · rfl
theorem upF_perm : ∀ (f : Nat) (L : List Int) (j : Nat), j < L.length → (upF f L j).Perm L
  | 0, _, _, _ => List.Perm.refl _
  | f + 1, L, j, hj => by
    unfold upF
    split
    · exact List.Perm.refl _
    · split
      · exact (upF_perm f _ _ (by rw [swp_len]; omega)).trans (swp_perm L (by omega) hj)
      · exact List.Perm.refl _
/-- A heap but for one place, which may be too small. -/
structure HeapU (L : List Int) (j : Nat) : Prop where
  all : ∀ i, 0 < i → i < L.length → i ≠ j → L.getD ((i - 1) / 2) 0 ≤ L.getD i 0
  kids : ∀ c, 0 < c → c < L.length → (c - 1) / 2 = j → 0 < j → L.getD ((j - 1) / 2) 0 ≤ L.getD c 0
theorem upF_heap : ∀ (f : Nat) (L : List Int) (j : Nat), j < L.length → j ≤ f → HeapU L j → HeapN (upF f L j) L.length
  | 0, L, j, hj, hf, h => by
    have hj0 : j = 0 := by omega
    subst hj0
    intro i h0 h1
    exact h.all i h0 h1 (by omega)
  | f + 1, L, j, hj, hf, h => by
    unfold upF
    split
    · rename_i hj0
      subst hj0
      intro i h0 h1
      exact h.all i h0 h1 (by omega)
    · rename_i hj0
      split
      · rename_i hlt
        have hp : (j - 1) / 2 < L.length := by omega
        have hpj : (j - 1) / 2 < j := by omega
        have e := upF_heap f (swp L ((j - 1) / 2) j) ((j - 1) / 2) (by rw [swp_len]; exact hp) (by omega) ?_
        · rw [swp_len] at e; exact e
        · have hg := swp_get L hp hj
          constructor
          · intro i h0 h1 h2
            rw [swp_len] at h1
            rw [hg, hg]
            by_cases hij : i = j
            · subst hij
              rw [if_pos rfl, if_neg (by omega), if_pos rfl]; omega
            · rw [if_neg hij, if_neg h2]
              by_cases hpar : (i - 1) / 2 = j
              · rw [if_pos hpar]
                exact h.kids i h0 h1 hpar (by omega)
              · rw [if_neg hpar]
                have h3 := h.all i h0 h1 hij
                by_cases hpar2 : (i - 1) / 2 = (j - 1) / 2
                · rw [if_pos hpar2]; rw [hpar2] at h3; omega
                · rw [if_neg hpar2]; exact h3
          · intro c h0 h1 h2 h3
            rw [swp_len] at h1
            rw [hg, hg, if_neg (by omega), if_neg (by omega)]
            have h4 := h.all ((j - 1) / 2) h3 hp (by omega)
            by_cases hcj : c = j
            · subst hcj; rw [if_pos rfl]; exact h4
            · rw [if_neg hcj, if_neg (by omega)]
              have h5 := h.all c h0 h1 hcj
              rw [h2] at h5
              omega
      · rename_i hlt
        intro i h0 h1
        by_cases hij : i = j
        · subst hij; omega
        · exact h.all i h0 h1 hij
theorem upF_fuel : ∀ (f f' : Nat) (L : List Int) (j : Nat), j ≤ f → j ≤ f' → upF f L j = upF f' L j
  | 0, 0, _, _, _, _ => rfl
  | 0, f' + 1, L, j, h, _ => by have : j = 0 := by omega
                                subst this; simp [upF]
  | f + 1, 0, L, j, _, h => by have : j = 0 := by omega
                               subst this; simp [upF]
  | f + 1, f' + 1, L, j, h, h' => by
    unfold upF
    split
    · rfl
    · split
      · exact upF_fuel f f' _ _ (by omega) (by omega)
      · rfl
/-- Up, with as many steps as it takes. -/
def upL (L : List Int) (j : Nat) : List Int := upF j L j
theorem upL_zero (L : List Int) : upL L 0 = L := rfl
theorem upL_yes {L : List Int} {j : Nat} (h0 : 0 < j) (h : L.getD j 0 < L.getD ((j - 1) / 2) 0) : upL L j = upL (swp L ((j - 1) / 2) j) ((j - 1) / 2) := by
  obtain ⟨k, rfl⟩ : ∃ k, j = k + 1 := ⟨j - 1, by omega⟩
  unfold upL
  rw [upF, if_neg (by omega), if_pos h]
  exact upF_fuel _ _ _ _ (by omega) (Nat.le_refl _)
theorem upL_no {L : List Int} {j : Nat} (h : ¬ L.getD j 0 < L.getD ((j - 1) / 2) 0) : upL L j = L := by
  unfold upL
  cases j with
  | zero => rfl
  | succ k => rw [upF, if_neg (by omega), if_neg h]
/-- Down from a place, among the first n. -/
def dnF : Nat → List Int → Nat → Nat → List Int
  | 0, L, _, _ => L
  | f + 1, L, i, n => if 2 * i + 1 ≥ n then L else
      if L.getD (if 2 * i + 2 < n ∧ L.getD (2 * i + 2) 0 < L.getD (2 * i + 1) 0 then 2 * i + 2 else 2 * i + 1) 0 < L.getD i 0 then dnF f (swp L i (if 2 * i + 2 < n ∧ L.getD (2 * i + 2) 0 < L.getD (2 * i + 1) 0 then 2 * i + 2 else 2 * i + 1)) (if 2 * i + 2 < n ∧ L.getD (2 * i + 2) 0 < L.getD (2 * i + 1) 0 then 2 * i + 2 else 2 * i + 1) n else L
/-- The lesser child. -/
def kid (L : List Int) (i n : Nat) : Nat := if 2 * i + 2 < n ∧ L.getD (2 * i + 2) 0 < L.getD (2 * i + 1) 0 then 2 * i + 2 else 2 * i + 1
theorem dnF_succ (f : Nat) (L : List Int) (i n : Nat) : dnF (f + 1) L i n = if 2 * i + 1 ≥ n then L else if L.getD (kid L i n) 0 < L.getD i 0 then dnF f (swp L i (kid L i n)) (kid L i n) n else L := rfl
theorem kid_bd {L : List Int} {i n : Nat} (h : ¬ 2 * i + 1 ≥ n) : kid L i n < n ∧ i < kid L i n ∧ (kid L i n - 1) / 2 = i := by
  unfold kid
  split <;> omega
theorem kid_le {L : List Int} {i n c : Nat} (hc : c < n) (h0 : 0 < c) (hp : (c - 1) / 2 = i) : L.getD (kid L i n) 0 ≤ L.getD c 0 := by
  have hcc : c = 2 * i + 1 ∨ c = 2 * i + 2 := by omega
  unfold kid
  split
  · rename_i h
    rcases hcc with rfl | rfl
    · omega
    · exact Int.le_refl _
  · rename_i h
    rcases hcc with rfl | rfl
    · exact Int.le_refl _
    · by_cases hl : L.getD (2 * i + 2) 0 < L.getD (2 * i + 1) 0
      · exact absurd ⟨hc, hl⟩ h
      · omega
theorem dnF_len : ∀ (f : Nat) (L : List Int) (i n : Nat), (dnF f L i n).length = L.length
  | 0, _, _, _ => rfl
  | f + 1, L, i, n => by
    rw [dnF_succ]
    split
    · rfl
    · split
      · rw [dnF_len f]; exact swp_len _ _ _
      · rfl
theorem dnF_perm : ∀ (f : Nat) (L : List Int) (i n : Nat), i < L.length → n ≤ L.length → (dnF f L i n).Perm L
  | 0, _, _, _, _, _ => List.Perm.refl _
  | f + 1, L, i, n, hi, hn => by
    rw [dnF_succ]
    split
    · exact List.Perm.refl _
    · rename_i h
      have hk := kid_bd (L := L) h
      split
      · exact (dnF_perm f _ _ n (by rw [swp_len]; omega) (by rw [swp_len]; exact hn)).trans (swp_perm L hi (by omega))
      · exact List.Perm.refl _
theorem dnF_rest : ∀ (f : Nat) (L : List Int) (i n k : Nat), i < n → n ≤ L.length → n ≤ k → (dnF f L i n).getD k 0 = L.getD k 0
  | 0, _, _, _, _, _, _, _ => rfl
  | f + 1, L, i, n, k, hi, hn, hk => by
    rw [dnF_succ]
    split
    · rfl
    · rename_i h
      have hb := kid_bd (L := L) h
      split
      · rw [dnF_rest f _ _ n k hb.1 (by rw [swp_len]; exact hn) hk, swp_get L (by omega) (by omega), if_neg (by omega), if_neg (by omega)]
      · rfl
/-- A heap but for one place, which may be too great. -/
structure HeapD (L : List Int) (i n : Nat) : Prop where
  all : ∀ c, 0 < c → c < n → (c - 1) / 2 ≠ i → L.getD ((c - 1) / 2) 0 ≤ L.getD c 0
  kids : ∀ c, 0 < c → c < n → (c - 1) / 2 = i → 0 < i → L.getD ((i - 1) / 2) 0 ≤ L.getD c 0
theorem dnF_heap : ∀ (f : Nat) (L : List Int) (i n : Nat), i < n → n ≤ L.length → n ≤ i + f → HeapD L i n → HeapN (dnF f L i n) n
  | 0, L, i, n, hi, hn, hf, h => by omega
  | f + 1, L, i, n, hi, hn, hf, h => by
    rw [dnF_succ]
    split
    · rename_i h1
      intro c h0 hc
      exact h.all c h0 hc (by omega)
    · rename_i h1
      have hb := kid_bd (L := L) h1
      split
      · rename_i hlt
        have hg := swp_get L (i := i) (j := kid L i n) (by omega) (by omega)
        refine dnF_heap f _ _ n hb.1 (by rw [swp_len]; exact hn) (by omega) ⟨?_, ?_⟩
        · intro c h0 hc hp
          rw [hg, hg, if_neg hp]
          by_cases hcj : c = kid L i n
          · have hpi : (c - 1) / 2 = i := by rw [hcj]; exact hb.2.2
            rw [if_pos hpi, if_pos hcj]
            omega
          · rw [if_neg hcj]
            by_cases hpi : (c - 1) / 2 = i
            · rw [if_pos hpi, if_neg (by omega)]
              exact kid_le hc h0 hpi
            · rw [if_neg hpi]
              by_cases hci : c = i
              · rw [if_pos hci]
                have := h.kids (kid L i n) (by omega) hb.1 hb.2.2 (by omega)
                rw [hci]; exact this
              · rw [if_neg hci]
                exact h.all c h0 hc hpi
        · intro c h0 hc hp h3
          rw [hg, hg, hb.2.2, if_neg (by omega), if_pos rfl, if_neg (by omega), if_neg (by omega)]
          have := h.all c h0 hc (by omega)
          rw [hp] at this
          exact this
      · rename_i hlt
        intro c h0 hc
        by_cases hpi : (c - 1) / 2 = i
        · have := kid_le (L := L) hc h0 hpi
          rw [hpi]; omega
        · exact h.all c h0 hc hpi
theorem dnF_fuel : ∀ (f f' : Nat) (L : List Int) (i n : Nat), n ≤ i + f → n ≤ i + f' → dnF f L i n = dnF f' L i n
  | 0, 0, _, _, _, _, _ => rfl
  | 0, f' + 1, L, i, n, h, _ => by rw [dnF_succ, if_pos (by omega)]; rfl
  | f + 1, 0, L, i, n, _, h => by rw [dnF_succ, if_pos (by omega)]; rfl
  | f + 1, f' + 1, L, i, n, h, h' => by
    rw [dnF_succ, dnF_succ]
    split
    · rfl
    · rename_i h1
      have hb := kid_bd (L := L) h1
      split
      · exact dnF_fuel f f' _ _ n (by omega) (by omega)
      · rfl
/-- Down, with as many steps as it takes. -/
def dnL (L : List Int) (i n : Nat) : List Int := dnF n L i n
theorem dnL_stop {L : List Int} {i n : Nat} (h : n ≤ 2 * i + 1) : dnL L i n = L := by
  unfold dnL
  cases n with
  | zero => rfl
  | succ k => rw [dnF_succ, if_pos (by omega)]
theorem dnL_yes {L : List Int} {i n : Nat} (h : ¬ n ≤ 2 * i + 1) (hl : L.getD (kid L i n) 0 < L.getD i 0) : dnL L i n = dnL (swp L i (kid L i n)) (kid L i n) n := by
  have hb := kid_bd (L := L) (i := i) (n := n) (by omega)
  unfold dnL
  obtain ⟨k, rfl⟩ : ∃ k, n = k + 1 := ⟨n - 1, by omega⟩
  rw [dnF_succ, if_neg (by omega), if_pos hl]
  exact dnF_fuel _ _ _ _ _ (by omega) (by omega)
theorem dnL_no {L : List Int} {i n : Nat} (h : ¬ n ≤ 2 * i + 1) (hl : ¬ L.getD (kid L i n) 0 < L.getD i 0) : dnL L i n = L := by
  unfold dnL
  obtain ⟨k, rfl⟩ : ∃ k, n = k + 1 := ⟨n - 1, by omega⟩
  rw [dnF_succ, if_neg (by omega), if_neg hl]
theorem kid_two {L : List Int} {i n : Nat} (h : 2 * i + 2 < n) (hl : L.getD (2 * i + 2) 0 < L.getD (2 * i + 1) 0) : kid L i n = 2 * i + 2 := by unfold kid; rw [if_pos ⟨h, hl⟩]
theorem kid_one {L : List Int} {i n : Nat} (h : ¬ (2 * i + 2 < n ∧ L.getD (2 * i + 2) 0 < L.getD (2 * i + 1) 0)) : kid L i n = 2 * i + 1 := by unfold kid; rw [if_neg h]
end Go.Proofs.YtcadljpdokhpmabGreat

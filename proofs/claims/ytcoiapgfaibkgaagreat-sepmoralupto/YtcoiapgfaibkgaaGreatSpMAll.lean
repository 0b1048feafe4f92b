/-
  Proved here: plain mathematics of sets held as rising lists. No condition.
  Proved here: plain mathematics of a search by breadth: what is reached, and the step ahead of each.
-/
namespace Go.Proofs.YtcoiapgfaibkgaaGreat

/-- A list that rises. -/
def Rise (l : List Int) : Prop := l.Pairwise (· < ·)
theorem Rise.tail {x : Int} {l : List Int} (h : Rise (x :: l)) : Rise l := (List.pairwise_cons.1 h).2
theorem Rise.head {x : Int} {l : List Int} (h : Rise (x :: l)) : ∀ y ∈ l, x < y := (List.pairwise_cons.1 h).1
/-- A rising list is told by what is in it. -/
theorem rise_ext : ∀ {a b : List Int}, Rise a → Rise b → (∀ z, z ∈ a ↔ z ∈ b) → a = b
  | [], [], _, _, _ => rfl
  | [], y :: b, _, _, h => by have := (h y).2 (List.mem_cons_self ..); cases this
  | x :: a, [], _, _, h => by have := (h x).1 (List.mem_cons_self ..); cases this
  | x :: a, y :: b, ha, hb, h => by
    have hxy : x = y := by
      rcases List.mem_cons.1 ((h x).1 (List.mem_cons_self ..)) with e | e
      · exact e
      · rcases List.mem_cons.1 ((h y).2 (List.mem_cons_self ..)) with e2 | e2
        · exact e2.symm
        · have h1 := hb.head x e
          have h2 := ha.head y e2
          omega
    subst hxy
    have : a = b := rise_ext ha.tail hb.tail fun z => by
      constructor
      · intro hz
        rcases List.mem_cons.1 ((h z).1 (List.mem_cons_of_mem _ hz)) with e | e
        · have := ha.head z hz; omega
        · exact e
      · intro hz
        rcases List.mem_cons.1 ((h z).2 (List.mem_cons_of_mem _ hz)) with e | e
        · have := hb.head z hz; omega
        · exact e
    rw [this]
/-- A thing put in where it belongs. -/
def insR (x : Int) : List Int → List Int
  | [] => [x]
  | y :: r => if x < y then x :: y :: r else if x = y then y :: r else y :: insR x r
theorem mem_insR (x : Int) : ∀ (l : List Int) (z : Int), z ∈ insR x l ↔ z = x ∨ z ∈ l
  | [], z => by simp [insR]
  | y :: r, z => by
    unfold insR
    by_cases h1 : x < y
    · rw [if_pos h1]; simp
    · rw [if_neg h1]
      by_cases h2 : x = y
      · subst h2; rw [if_pos rfl]; simp
      · rw [if_neg h2, List.mem_cons, mem_insR x r z, List.mem_cons]
        constructor
        · rintro (h | h | h)
          · exact .inr (.inl h)
          · exact .inl h
          · exact .inr (.inr h)
        · rintro (h | h | h)
          · exact .inr (.inl h)
          · exact .inl h
          · exact .inr (.inr h)
theorem rise_insR (x : Int) : ∀ {l : List Int}, Rise l → Rise (insR x l)
  | [], _ => List.pairwise_singleton _ _
  | y :: r, h => by
    unfold insR
    by_cases h1 : x < y
    · rw [if_pos h1]
      refine List.pairwise_cons.2 ⟨fun z hz => ?_, h⟩
      rcases List.mem_cons.1 hz with e | e
      · omega
      · have := h.head z e; omega
    · rw [if_neg h1]
      by_cases h2 : x = y
      · rw [if_pos h2]; exact h
      · rw [if_neg h2]
        refine List.pairwise_cons.2 ⟨fun z hz => ?_, rise_insR x h.tail⟩
        rcases (mem_insR x r z).1 hz with e | e
        · omega
        · exact h.head z e
theorem len_insR (x : Int) : ∀ {l : List Int}, Rise l → (insR x l).length = l.length + if x ∈ l then 0 else 1
  | [], _ => by simp [insR]
  | y :: r, h => by
    unfold insR
    by_cases h1 : x < y
    · have : x ∉ y :: r := fun hx => by
        rcases List.mem_cons.1 hx with e | e
        · omega
        · have := h.head x e; omega
      rw [if_pos h1, if_neg this]; rfl
    · rw [if_neg h1]
      by_cases h2 : x = y
      · subst h2; rw [if_pos rfl, if_pos (List.mem_cons_self ..)]; rfl
      · rw [if_neg h2, List.length_cons, len_insR x h.tail]
        by_cases hm : x ∈ r
        · rw [if_pos hm, if_pos (List.mem_cons_of_mem _ hm)]; rfl
        · rw [if_neg hm, if_neg (fun hx => by rcases List.mem_cons.1 hx with e | e; exact h2 e; exact hm e)]; simp
/-- All of a list put in. -/
def joinR (s : List Int) : List Int → List Int
  | [] => s
  | x :: l => joinR (insR x s) l
theorem mem_joinR : ∀ (l s : List Int) (z : Int), z ∈ joinR s l ↔ z ∈ s ∨ z ∈ l
  | [], s, z => by simp [joinR]
  | x :: l, s, z => by
    rw [joinR, mem_joinR l, mem_insR, List.mem_cons]
    constructor
    · rintro ((h | h) | h)
      · exact .inr (.inl h)
      · exact .inl h
      · exact .inr (.inr h)
    · rintro (h | h | h)
      · exact .inl (.inr h)
      · exact .inl (.inl h)
      · exact .inr h
theorem rise_joinR : ∀ (l : List Int) {s : List Int}, Rise s → Rise (joinR s l)
  | [], _, h => h
  | x :: l, _, h => rise_joinR l (rise_insR x h)
theorem joinR_snoc (s l : List Int) (x : Int) : joinR s (l ++ [x]) = insR x (joinR s l) := by
  induction l generalizing s with
  | nil => rfl
  | cons y l ih => exact ih (insR y s)
/-- The set of a list. -/
def ofR (l : List Int) : List Int := joinR [] l
theorem rise_nil : Rise [] := List.Pairwise.nil
theorem rise_ofR (l : List Int) : Rise (ofR l) := rise_joinR l rise_nil
theorem mem_ofR (l : List Int) (z : Int) : z ∈ ofR l ↔ z ∈ l := by rw [ofR, mem_joinR]; simp
theorem rise_filter {l : List Int} (h : Rise l) (p : Int → Bool) : Rise (l.filter p) := List.Pairwise.filter p h
/-- What is in both; what is in the first alone. -/
def meetR (s o : List Int) : List Int := s.filter fun z => decide (z ∈ o)
def minusR (s o : List Int) : List Int := s.filter fun z => !decide (z ∈ o)
theorem mem_meetR (s o : List Int) (z : Int) : z ∈ meetR s o ↔ z ∈ s ∧ z ∈ o := by simp [meetR]
theorem mem_minusR (s o : List Int) (z : Int) : z ∈ minusR s o ↔ z ∈ s ∧ z ∉ o := by simp [minusR]
theorem rise_meetR {s : List Int} (h : Rise s) (o : List Int) : Rise (meetR s o) := rise_filter h _
theorem rise_minusR {s : List Int} (h : Rise s) (o : List Int) : Rise (minusR s o) := rise_filter h _
theorem ofR_self {s : List Int} (h : Rise s) : ofR s = s := rise_ext (rise_ofR s) h (mem_ofR s)
theorem joinR_eq {s t l : List Int} (hs : Rise s) (ht : Rise t) (h : ∀ z, z ∈ t ↔ z ∈ s ∨ z ∈ l) : joinR s l = t := rise_ext (rise_joinR l hs) ht fun z => by rw [mem_joinR, h z]
/-- How many there are together. -/
theorem len_joinR : ∀ (o : List Int) {s : List Int}, Rise s → Rise o → (joinR s o).length = s.length + (minusR o s).length
  | [], s, _, _ => by simp [joinR, minusR]
  | x :: o, s, hs, ho => by
    rw [joinR, len_joinR o (rise_insR x hs) ho.tail, len_insR x hs]
    have e : minusR o (insR x s) = minusR o s := by
      refine rise_ext (rise_minusR ho.tail _) (rise_minusR ho.tail _) fun z => ?_
      rw [mem_minusR, mem_minusR, mem_insR]
      constructor
      · rintro ⟨h1, h2⟩; exact ⟨h1, fun h => h2 (.inr h)⟩
      · rintro ⟨h1, h2⟩
        refine ⟨h1, fun h => ?_⟩
        rcases h with h | h
        · have := ho.head z h1; omega
        · exact h2 h
    rw [e]
    by_cases hx : x ∈ s
    · have : minusR (x :: o) s = minusR o s := by simp [minusR, hx]
      rw [this, if_pos hx]; rfl
    · have : minusR (x :: o) s = x :: minusR o s := by simp [minusR, hx]
      rw [this, if_neg hx, List.length_cons]; omega
theorem len_parts (s o : List Int) : (meetR s o).length + (minusR s o).length = s.length := by
  induction s with
  | nil => rfl
  | cons x s ih =>
    unfold meetR minusR at *
    by_cases h : x ∈ o
    · simp [h]; omega
    · simp [h]; omega
theorem len_meet_sym {s o : List Int} (hs : Rise s) (ho : Rise o) : (meetR s o).length = (meetR o s).length := by
  rw [rise_ext (rise_meetR hs o) (rise_meetR ho s) fun z => by rw [mem_meetR, mem_meetR]; exact And.comm]
theorem len_both {s o : List Int} (hs : Rise s) (ho : Rise o) : (joinR s o).length + (meetR s o).length = s.length + o.length := by
  rw [len_joinR o hs ho, len_meet_sym hs ho]
  have := len_parts o s
  omega
/-- Within, same. -/
def withinR (s o : List Int) : Bool := s.all fun z => decide (z ∈ o)
theorem within_iff (s o : List Int) : withinR s o = true ↔ ∀ z ∈ s, z ∈ o := by simp [withinR]
theorem within_len (s o : List Int) : withinR s o = decide ((minusR s o).length = 0) := by
  rw [Bool.eq_iff_iff, within_iff, decide_eq_true_iff, List.length_eq_zero_iff]
  constructor
  · intro h
    cases hm : minusR s o with
    | nil => rfl
    | cons x r =>
      have := (mem_minusR s o x).1 (by rw [hm]; exact List.mem_cons_self ..)
      exact absurd (h x this.1) this.2
  · intro h z hz
    by_cases hzo : z ∈ o
    · exact hzo
    · have := (mem_minusR s o z).2 ⟨hz, hzo⟩
      rw [h] at this; cases this
def sameR (s o : List Int) : Bool := withinR s o && withinR o s
theorem same_iff {s o : List Int} (hs : Rise s) (ho : Rise o) : sameR s o = true ↔ s = o := by
  rw [sameR, Bool.and_eq_true, within_iff, within_iff]
  constructor
  · rintro ⟨h1, h2⟩; exact rise_ext hs ho fun z => ⟨h1 z, h2 z⟩
  · rintro rfl; exact ⟨fun _ h => h, fun _ h => h⟩
end Go.Proofs.YtcoiapgfaibkgaaGreat

namespace Go.Proofs.YtcoiapgfaibkgaaGreat
set_option linter.unusedVariables false
/-- A step: a point, and whether it is come to from a parent. -/
abbrev Stp := Int × Bool
/-- A list of steps by strictly rising points. -/
def RisP (l : List Stp) : Prop := l.Pairwise (fun a b => a.1 < b.1)
theorem risP_ext : ∀ {a b : List Stp}, RisP a → RisP b → (∀ z, z ∈ a ↔ z ∈ b) → a = b
  | [], [], _, _, _ => rfl
  | [], y :: b, _, _, h => absurd ((h y).2 (by simp)) (by simp)
  | x :: a, [], _, _, h => absurd ((h x).1 (by simp)) (by simp)
  | x :: a, y :: b, ha, hb, h => by
    obtain ⟨ha1, ha2⟩ := List.pairwise_cons.1 ha
    obtain ⟨hb1, hb2⟩ := List.pairwise_cons.1 hb
    have e : x = y := by
      rcases List.mem_cons.1 ((h x).1 (by simp)) with e | e
      · exact e
      · rcases List.mem_cons.1 ((h y).2 (by simp)) with e2 | e2
        · exact e2.symm
        · have h1 := hb1 x e
          have h2 := ha1 y e2
          omega
    subst e
    congr 1
    refine risP_ext ha2 hb2 fun z => ?_
    constructor
    · intro hz
      rcases List.mem_cons.1 ((h z).1 (List.mem_cons_of_mem _ hz)) with e | e
      · subst e; have := ha1 z hz; omega
      · exact e
    · intro hz
      rcases List.mem_cons.1 ((h z).2 (List.mem_cons_of_mem _ hz)) with e | e
      · subst e; have := hb1 z hz; omega
      · exact e
/-- Insertion by points. -/
def insP (x : Stp) : List Stp → List Stp
  | [] => [x]
  | y :: r => if x.1 < y.1 then x :: y :: r else y :: insP x r
def srtP : List Stp → List Stp
  | [] => []
  | x :: r => insP x (srtP r)
theorem insP_mem (x : Stp) (l : List Stp) (z : Stp) : z ∈ insP x l ↔ z = x ∨ z ∈ l := by
  induction l with
  | nil => simp [insP]
  | cons y r ih =>
    unfold insP
    split
    · simp
    · simp only [List.mem_cons, ih]
      constructor
      · rintro (h | h | h)
        · exact Or.inr (Or.inl h)
        · exact Or.inl h
        · exact Or.inr (Or.inr h)
      · rintro (h | h | h)
        · exact Or.inr (Or.inl h)
        · exact Or.inl h
        · exact Or.inr (Or.inr h)
theorem insP_len (x : Stp) (l : List Stp) : (insP x l).length = l.length + 1 := by
  induction l with
  | nil => rfl
  | cons y r ih =>
    unfold insP
    split
    · rfl
    · rw [List.length_cons, ih, List.length_cons]
theorem srtP_mem (l : List Stp) (z : Stp) : z ∈ srtP l ↔ z ∈ l := by
  induction l with
  | nil => simp [srtP]
  | cons y r ih => rw [srtP, insP_mem, ih, List.mem_cons]
theorem srtP_len (l : List Stp) : (srtP l).length = l.length := by
  induction l with
  | nil => rfl
  | cons y r ih => rw [srtP, insP_len, ih, List.length_cons]
theorem insP_ris (x : Stp) (l : List Stp) (h : RisP l) (hx : ∀ z ∈ l, z.1 ≠ x.1) : RisP (insP x l) := by
  induction l with
  | nil => exact List.pairwise_singleton _ _
  | cons y r ih =>
    obtain ⟨h1, h2⟩ := List.pairwise_cons.1 h
    unfold insP
    split
    · rename_i hlt
      refine List.pairwise_cons.2 ⟨fun z hz => ?_, h⟩
      rcases List.mem_cons.1 hz with rfl | hz
      · exact hlt
      · have := h1 z hz; omega
    · rename_i hlt
      refine List.pairwise_cons.2 ⟨fun z hz => ?_, ih h2 (fun z hz => hx z (List.mem_cons_of_mem _ hz))⟩
      rcases (insP_mem x r z).1 hz with rfl | hz
      · have := hx y (by simp); omega
      · exact h1 z hz
theorem srtP_ris (l : List Stp) (h : l.Pairwise (fun a b => a.1 ≠ b.1)) : RisP (srtP l) := by
  induction l with
  | nil => exact List.Pairwise.nil
  | cons y r ih =>
    obtain ⟨h1, h2⟩ := List.pairwise_cons.1 h
    exact insP_ris y _ (ih h2) fun z hz => (h1 z ((srtP_mem r z).1 hz)).symm
/-- One step is gone, if it was not gone before. -/
def rchP (ahead : Stp) (L : List (Stp × Stp)) (s : Stp) : List (Stp × Stp) := if s ∈ L.map (·.1) then L else L ++ [(s, ahead)]
/-- From the step that lies at a place on. -/
def bfsP (nx : Stp → List Stp) : Nat → Nat → List (Stp × Stp) → List (Stp × Stp)
  | 0, _, L => L
  | f + 1, k, L => match L[k]? with
    | none => L
    | some e => bfsP nx f (k + 1) ((nx e.1).foldl (rchP e.1) L)
def stP (a : List Int) : List (Stp × Stp) := a.foldl (fun L p => rchP (p, false) L (p, false)) []
theorem bfsP_some {nx : Stp → List Stp} {f k : Nat} {L : List (Stp × Stp)} {e : Stp × Stp} (h : L[k]? = some e) : bfsP nx (f + 1) k L = bfsP nx f (k + 1) ((nx e.1).foldl (rchP e.1) L) := by rw [bfsP, h]
theorem bfsP_none {nx : Stp → List Stp} {f k : Nat} {L : List (Stp × Stp)} (h : L.length ≤ k) : bfsP nx f k L = L := by
  cases f with
  | zero => rfl
  | succ f => rw [bfsP, List.getElem?_eq_none h]
/-- Keys that differ, and are steps of the first n points. -/
structure KeyP (n : Nat) (L : List (Stp × Stp)) : Prop where
  nd : (L.map (·.1)).Nodup
  pt : ∀ e ∈ L, ∃ p : Nat, e.1.1 = (p : Int) ∧ p < n
theorem KeyP.nil (n : Nat) : KeyP n [] := ⟨List.nodup_nil, fun e h => by simp at h⟩
theorem KeyP.rch {n : Nat} {L : List (Stp × Stp)} (h : KeyP n L) (ahead s : Stp) (hs : ∃ p : Nat, s.1 = (p : Int) ∧ p < n) : KeyP n (rchP ahead L s) := by
  unfold rchP
  split
  · exact h
  · rename_i hn
    refine ⟨?_, fun e he => ?_⟩
    · rw [List.map_append, List.nodup_append]
      refine ⟨h.nd, by simp, fun x hx y hy e => ?_⟩
      simp at hy
      subst hy; subst e
      exact hn hx
    · rcases List.mem_append.1 he with he | he
      · exact h.pt e he
      · simp at he; subst he; exact hs
theorem KeyP.fold {n : Nat} (ahead : Stp) : ∀ (l : List Stp) {L : List (Stp × Stp)}, KeyP n L → (∀ s ∈ l, ∃ p : Nat, s.1 = (p : Int) ∧ p < n) → KeyP n (l.foldl (rchP ahead) L)
  | [], _, h, _ => h
  | s :: l, L, h, hl => by
    rw [List.foldl_cons]
    exact KeyP.fold ahead l (h.rch ahead s (hl s (by simp))) fun t ht => hl t (by simp [ht])
theorem KeyP.start {n : Nat} : ∀ (a : List Int) {L : List (Stp × Stp)}, KeyP n L → (∀ x ∈ a, ∃ p : Nat, x = (p : Int) ∧ p < n) → KeyP n (a.foldl (fun L p => rchP (p, false) L (p, false)) L)
  | [], _, h, _ => h
  | x :: a, L, h, hl => by
    rw [List.foldl_cons]
    exact KeyP.start a (h.rch _ _ (hl x (by simp))) fun t ht => hl t (by simp [ht])
/-- Lists of numbers below n that differ are no longer than n. -/
theorem nd_len : ∀ (n : Nat) (l : List Nat), l.Nodup → (∀ x ∈ l, x < n) → l.length ≤ n
  | 0, l, _, h => by
    cases l with
    | nil => exact Nat.le_refl _
    | cons x l => have := h x (by simp); omega
  | n + 1, l, hd, h => by
    by_cases hm : n ∈ l
    · have h1 := List.length_erase_of_mem hm
      have h2 := nd_len n (l.erase n) (hd.erase _) (fun x hx => by
        rw [hd.mem_erase_iff] at hx
        have := h x hx.2
        omega)
      omega
    · have := nd_len n l hd (fun x hx => by
        have h1 := h x hx
        have : x ≠ n := fun e => hm (e ▸ hx)
        omega)
      omega
def codP (s : Stp) : Nat := 2 * s.1.toNat + if s.2 then 1 else 0
theorem KeyP.len {n : Nat} {L : List (Stp × Stp)} (h : KeyP n L) : L.length ≤ 2 * n := by
  have h1 := nd_len (2 * n) (L.map fun e => codP e.1) (by
    have hnd := h.nd
    have hpt := h.pt
    clear h
    induction L with
    | nil => exact List.nodup_nil
    | cons e L ih =>
      rw [List.map_cons, List.nodup_cons] at hnd ⊢
      refine ⟨fun hm => hnd.1 ?_, ih hnd.2 fun x hx => hpt x (by simp [hx])⟩
      obtain ⟨x, hx, e1⟩ := List.mem_map.1 hm
      obtain ⟨p, e2, _⟩ := hpt e (by simp)
      obtain ⟨q, e3, _⟩ := hpt x (by simp [hx])
      refine List.mem_map.2 ⟨x, hx, ?_⟩
      unfold codP at e1
      rw [e2, e3] at e1
      simp only [Int.toNat_natCast] at e1
      cases ha : x.1.2 <;> cases hb : e.1.2 <;> rw [ha, hb] at e1 <;> simp at e1
      · exact Prod.ext (by rw [e2, e3]; omega) (by rw [ha, hb])
      · omega
      · omega
      · exact Prod.ext (by rw [e2, e3]; omega) (by rw [ha, hb])) (fun x hx => by
    obtain ⟨e, he, e1⟩ := List.mem_map.1 hx
    obtain ⟨p, e2, hp⟩ := h.pt e he
    unfold codP at e1
    rw [e2] at e1
    simp only [Int.toNat_natCast] at e1
    cases hb : e.1.2 <;> rw [hb] at e1 <;> simp at e1 <;> omega)
  rw [List.length_map] at h1
  exact h1
theorem rchP_le (ahead : Stp) (L : List (Stp × Stp)) (s : Stp) : L.length ≤ (rchP ahead L s).length := by
  unfold rchP
  split
  · exact Nat.le_refl _
  · rw [List.length_append]; omega
theorem rchP_fold_le (ahead : Stp) : ∀ (l : List Stp) (L : List (Stp × Stp)), L.length ≤ (l.foldl (rchP ahead) L).length
  | [], L => Nat.le_refl _
  | s :: l, L => by rw [List.foldl_cons]; exact Nat.le_trans (rchP_le ahead L s) (rchP_fold_le ahead l _)
end Go.Proofs.YtcoiapgfaibkgaaGreat

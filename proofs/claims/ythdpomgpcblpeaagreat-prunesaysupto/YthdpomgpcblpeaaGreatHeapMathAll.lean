/-
  Proved here: plain mathematics of sets held as rising lists. No condition.
  Proved here: plain mathematics of a search by breadth: what is reached, and the step ahead of each.
  Proved here: what package heap does to a list of numbers: up, down, and that the least stands first. No condition.
-/
namespace Go.Proofs.YthdpomgpcblpeaaGreat

/-- A list that rises. -/
def Rise (l : List Int) : Prop := l.Pairwise (· < ·)
theorem Rise.tail {x : Int} {l : List Int} (h : Rise (x :: l)) : Rise l := (List.pairwise_cons.1 h).2
theorem Rise.head {x : Int} {l : List Int} (h : Rise (x :: l)) : ∀ y ∈ l, x < y := (List.pairwise_cons.1 h).1
/-- A rising list is told by what is in it. -/
theorem rise_ext : ∀ {a b : List Int}, Rise a → Rise b → (∀ z, z ∈ a ↔ z ∈ b) → a = b
  | [], [], _, _, _ => rfl
  | [], y :: b, _, _, h => by have := (h y).2 (List.mem_cons_self ..); cases this
  | x :: a, [], _, _, h => by have := (h x).1 (List.mem_cons_self ..); cases this
  | x :: a, y :: b, ha, hb, h => by
    have hxy : x = y := by
      rcases List.mem_cons.1 ((h x).1 (List.mem_cons_self ..)) with e | e
      · exact e
      · rcases List.mem_cons.1 ((h y).2 (List.mem_cons_self ..)) with e2 | e2
        · exact e2.symm
        · have h1 := hb.head x e
          have h2 := ha.head y e2
          omega
    subst hxy
    have : a = b := rise_ext ha.tail hb.tail fun z => by
      constructor
      · intro hz
        rcases List.mem_cons.1 ((h z).1 (List.mem_cons_of_mem _ hz)) with e | e
        · have := ha.head z hz; omega
        · exact e
      · intro hz
        rcases List.mem_cons.1 ((h z).2 (List.mem_cons_of_mem _ hz)) with e | e
        · have := hb.head z hz; omega
        · exact e
    rw [this]
/-- A thing put in where it belongs. -/
def insR (x : Int) : List Int → List Int
  | [] => [x]
  | y :: r => if x < y then x :: y :: r else if x = y then y :: r else y :: insR x r
theorem mem_insR (x : Int) : ∀ (l : List Int) (z : Int), z ∈ insR x l ↔ z = x ∨ z ∈ l
  | [], z => by simp [insR]
  | y :: r, z => by
    unfold insR
    by_cases h1 : x < y
    · rw [if_pos h1]; simp
    · rw [if_neg h1]
      by_cases h2 : x = y
      · subst h2; rw [if_pos rfl]; simp
      · rw [if_neg h2, List.mem_cons, mem_insR x r z, List.mem_cons]
        constructor
        · rintro (h | h | h)
          · exact .inr (.inl h)
          · exact .inl h
          · exact .inr (.inr h)
        · rintro (h | h | h)
          · exact .inr (.inl h)
          · exact .inl h
          · exact .inr (.inr h)
theorem rise_insR (x : Int) : ∀ {l : List Int}, Rise l → Rise (insR x l)
  | [], _ => List.pairwise_singleton _ _
  | y :: r, h => by
    unfold insR
    by_cases h1 : x < y
    · rw [if_pos h1]
      refine List.pairwise_cons.2 ⟨fun z hz => ?_, h⟩
      rcases List.mem_cons.1 hz with e | e
      · omega
      · have := h.head z e; omega
    · rw [if_neg h1]
      by_cases h2 : x = y
      · rw [if_pos h2]; exact h
      · rw [if_neg h2]
        refine List.pairwise_cons.2 ⟨fun z hz => ?_, rise_insR x h.tail⟩
        rcases (mem_insR x r z).1 hz with e | e
        · omega
        · exact h.head z e
theorem len_insR (x : Int) : ∀ {l : List Int}, Rise l → (insR x l).length = l.length + if x ∈ l then 0 else 1
  | [], _ => by simp [insR]
  | y :: r, h => by
    unfold insR
    by_cases h1 : x < y
    · have : x ∉ y :: r := fun hx => by
        rcases List.mem_cons.1 hx with e | e
        · omega
        · have := h.head x e; omega
      rw [if_pos h1, if_neg this]; rfl
    · rw [if_neg h1]
      by_cases h2 : x = y
      · subst h2; rw [if_pos rfl, if_pos (List.mem_cons_self ..)]; rfl
      · rw [if_neg h2, List.length_cons, len_insR x h.tail]
        by_cases hm : x ∈ r
        · rw [if_pos hm, if_pos (List.mem_cons_of_mem _ hm)]; rfl
        · rw [if_neg hm, if_neg (fun hx => by rcases List.mem_cons.1 hx with e | e; exact h2 e; exact hm e)]; simp
/-- All of a list put in. -/
def joinR (s : List Int) : List Int → List Int
  | [] => s
  | x :: l => joinR (insR x s) l
theorem mem_joinR : ∀ (l s : List Int) (z : Int), z ∈ joinR s l ↔ z ∈ s ∨ z ∈ l
  | [], s, z => by simp [joinR]
  | x :: l, s, z => by
    rw [joinR, mem_joinR l, mem_insR, List.mem_cons]
    constructor
    · rintro ((h | h) | h)
      · exact .inr (.inl h)
      · exact .inl h
      · exact .inr (.inr h)
    · rintro (h | h | h)
      · exact .inl (.inr h)
      · exact .inl (.inl h)
      · exact .inr h
theorem rise_joinR : ∀ (l : List Int) {s : List Int}, Rise s → Rise (joinR s l)
  | [], _, h => h
  | x :: l, _, h => rise_joinR l (rise_insR x h)
theorem joinR_snoc (s l : List Int) (x : Int) : joinR s (l ++ [x]) = insR x (joinR s l) := by
  induction l generalizing s with
  | nil => rfl
  | cons y l ih => exact ih (insR y s)
/-- The set of a list. -/
def ofR (l : List Int) : List Int := joinR [] l
theorem rise_nil : Rise [] := List.Pairwise.nil
theorem rise_ofR (l : List Int) : Rise (ofR l) := rise_joinR l rise_nil
theorem mem_ofR (l : List Int) (z : Int) : z ∈ ofR l ↔ z ∈ l := by rw [ofR, mem_joinR]; simp
theorem rise_filter {l : List Int} (h : Rise l) (p : Int → Bool) : Rise (l.filter p) := List.Pairwise.filter p h
/-- What is in both; what is in the first alone. -/
def meetR (s o : List Int) : List Int := s.filter fun z => decide (z ∈ o)
def minusR (s o : List Int) : List Int := s.filter fun z => !decide (z ∈ o)
theorem mem_meetR (s o : List Int) (z : Int) : z ∈ meetR s o ↔ z ∈ s ∧ z ∈ o := by simp [meetR]
theorem mem_minusR (s o : List Int) (z : Int) : z ∈ minusR s o ↔ z ∈ s ∧ z ∉ o := by simp [minusR]
theorem rise_meetR {s : List Int} (h : Rise s) (o : List Int) : Rise (meetR s o) := rise_filter h _
theorem rise_minusR {s : List Int} (h : Rise s) (o : List Int) : Rise (minusR s o) := rise_filter h _
theorem ofR_self {s : List Int} (h : Rise s) : ofR s = s := rise_ext (rise_ofR s) h (mem_ofR s)
theorem joinR_eq {s t l : List Int} (hs : Rise s) (ht : Rise t) (h : ∀ z, z ∈ t ↔ z ∈ s ∨ z ∈ l) : joinR s l = t := rise_ext (rise_joinR l hs) ht fun z => by rw [mem_joinR, h z]
/-- How many there are together. -/
theorem len_joinR : ∀ (o : List Int) {s : List Int}, Rise s → Rise o → (joinR s o).length = s.length + (minusR o s).length
  | [], s, _, _ => by simp [joinR, minusR]
  | x :: o, s, hs, ho => by
    rw [joinR, len_joinR o (rise_insR x hs) ho.tail, len_insR x hs]
    have e : minusR o (insR x s) = minusR o s := by
      refine rise_ext (rise_minusR ho.tail _) (rise_minusR ho.tail _) fun z => ?_
      rw [mem_minusR, mem_minusR, mem_insR]
      constructor
      · rintro ⟨h1, h2⟩; exact ⟨h1, fun h => h2 (.inr h)⟩
      · rintro ⟨h1, h2⟩
        refine ⟨h1, fun h => ?_⟩
        rcases h with h | h
        · have := ho.head z h1; omega
        · exact h2 h
    rw [e]
    by_cases hx : x ∈ s
    · have : minusR (x :: o) s = minusR o s := by simp [minusR, hx]
      rw [this, if_pos hx]; rfl
    · have : minusR (x :: o) s = x :: minusR o s := by simp [minusR, hx]
      rw [this, if_neg hx, List.length_cons]; omega
theorem len_parts (s o : List Int) : (meetR s o).length + (minusR s o).length = s.length := by
  induction s with
  | nil => rfl
  | cons x s ih =>
    unfold meetR minusR at *
    by_cases h : x ∈ o
    · simp [h]; omega
    · simp [h]; omega
theorem len_meet_sym {s o : List Int} (hs : Rise s) (ho : Rise o) : (meetR s o).length = (meetR o s).length := by
  rw [rise_ext (rise_meetR hs o) (rise_meetR ho s) fun z => by rw [mem_meetR, mem_meetR]; exact And.comm]
theorem len_both {s o : List Int} (hs : Rise s) (ho : Rise o) : (joinR s o).length + (meetR s o).length = s.length + o.length := by
  rw [len_joinR o hs ho, len_meet_sym hs ho]
  have := len_parts o s
  omega
/-- Within, same. -/
def withinR (s o : List Int) : Bool := s.all fun z => decide (z ∈ o)
theorem within_iff (s o : List Int) : withinR s o = true ↔ ∀ z ∈ s, z ∈ o := by simp [withinR]
theorem within_len (s o : List Int) : withinR s o = decide ((minusR s o).length = 0) := by
  rw [Bool.eq_iff_iff, within_iff, decide_eq_true_iff, List.length_eq_zero_iff]
  constructor
  · intro h
    cases hm : minusR s o with
    | nil => rfl
    | cons x r =>
      have := (mem_minusR s o x).1 (by rw [hm]; exact List.mem_cons_self ..)
      exact absurd (h x this.1) this.2
  · intro h z hz
    by_cases hzo : z ∈ o
    · exact hzo
    · have := (mem_minusR s o z).2 ⟨hz, hzo⟩
      rw [h] at this; cases this
def sameR (s o : List Int) : Bool := withinR s o && withinR o s
theorem same_iff {s o : List Int} (hs : Rise s) (ho : Rise o) : sameR s o = true ↔ s = o := by
  rw [sameR, Bool.and_eq_true, within_iff, within_iff]
  constructor
  · rintro ⟨h1, h2⟩; exact rise_ext hs ho fun z => ⟨h1 z, h2 z⟩
  · rintro rfl; exact ⟨fun _ h => h, fun _ h => h⟩
end Go.Proofs.YthdpomgpcblpeaaGreat

namespace Go.Proofs.YthdpomgpcblpeaaGreat
set_option linter.unusedVariables false
/-- A step: a point, and whether it is come to from a parent. -/
abbrev Stp := Int × Bool
/-- A list of steps by strictly rising points. -/
def RisP (l : List Stp) : Prop := l.Pairwise (fun a b => a.1 < b.1)
theorem risP_ext : ∀ {a b : List Stp}, RisP a → RisP b → (∀ z, z ∈ a ↔ z ∈ b) → a = b
  | [], [], _, _, _ => rfl
  | [], y :: b, _, _, h => absurd ((h y).2 (by simp)) (by simp)
  | x :: a, [], _, _, h => absurd ((h x).1 (by simp)) (by simp)
  | x :: a, y :: b, ha, hb, h => by
    obtain ⟨ha1, ha2⟩ := List.pairwise_cons.1 ha
    obtain ⟨hb1, hb2⟩ := List.pairwise_cons.1 hb
    have e : x = y := by
      rcases List.mem_cons.1 ((h x).1 (by simp)) with e | e
      · exact e
      · rcases List.mem_cons.1 ((h y).2 (by simp)) with e2 | e2
        · exact e2.symm
        · have h1 := hb1 x e
          have h2 := ha1 y e2
          omega
    subst e
    congr 1
    refine risP_ext ha2 hb2 fun z => ?_
    constructor
    · intro hz
      rcases List.mem_cons.1 ((h z).1 (List.mem_cons_of_mem _ hz)) with e | e
      · subst e; have := ha1 z hz; omega
      · exact e
    · intro hz
      rcases List.mem_cons.1 ((h z).2 (List.mem_cons_of_mem _ hz)) with e | e
      · subst e; have := hb1 z hz; omega
      · exact e
/-- Insertion by points. -/
def insP (x : Stp) : List Stp → List Stp
  | [] => [x]
  | y :: r => if x.1 < y.1 then x :: y :: r else y :: insP x r
def srtP : List Stp → List Stp
  | [] => []
  | x :: r => insP x (srtP r)
theorem insP_mem (x : Stp) (l : List Stp) (z : Stp) : z ∈ insP x l ↔ z = x ∨ z ∈ l := by
  induction l with
  | nil => simp [insP]
  | cons y r ih =>
    unfold insP
    split
    · simp
    · simp only [List.mem_cons, ih]
      constructor
      · rintro (h | h | h)
        · exact Or.inr (Or.inl h)
        · exact Or.inl h
        · exact Or.inr (Or.inr h)
      · rintro (h | h | h)
        · exact Or.inr (Or.inl h)
        · exact Or.inl h
        · exact Or.inr (Or.inr h)
theorem insP_len (x : Stp) (l : List Stp) : (insP x l).length = l.length + 1 := by
  induction l with
  | nil => rfl
  | cons y r ih =>
    unfold insP
    split
    · rfl
    · rw [List.length_cons, ih, List.length_cons]
theorem srtP_mem (l : List Stp) (z : Stp) : z ∈ srtP l ↔ z ∈ l := by
  induction l with
  | nil => simp [srtP]
  | cons y r ih => rw [srtP, insP_mem, ih, List.mem_cons]
theorem srtP_len (l : List Stp) : (srtP l).length = l.length := by
  induction l with
  | nil => rfl
  | cons y r ih => rw [srtP, insP_len, ih, List.length_cons]
theorem insP_ris (x : Stp) (l : List Stp) (h : RisP l) (hx : ∀ z ∈ l, z.1 ≠ x.1) : RisP (insP x l) := by
  induction l with
  | nil => exact List.pairwise_singleton _ _
  | cons y r ih =>
    obtain ⟨h1, h2⟩ := List.pairwise_cons.1 h
    unfold insP
    split
    · rename_i hlt
      refine List.pairwise_cons.2 ⟨fun z hz => ?_, h⟩
      rcases List.mem_cons.1 hz with rfl | hz
      · exact hlt
      · have := h1 z hz; omega
    · rename_i hlt
      refine List.pairwise_cons.2 ⟨fun z hz => ?_, ih h2 (fun z hz => hx z (List.mem_cons_of_mem _ hz))⟩
      rcases (insP_mem x r z).1 hz with rfl | hz
      · have := hx y (by simp); omega
      · exact h1 z hz
theorem srtP_ris (l : List Stp) (h : l.Pairwise (fun a b => a.1 ≠ b.1)) : RisP (srtP l) := by
  induction l with
  | nil => exact List.Pairwise.nil
  | cons y r ih =>
    obtain ⟨h1, h2⟩ := List.pairwise_cons.1 h
    exact insP_ris y _ (ih h2) fun z hz => (h1 z ((srtP_mem r z).1 hz)).symm
/-- One step is gone, if it was not gone before. -/
def rchP (ahead : Stp) (L : List (Stp × Stp)) (s : Stp) : List (Stp × Stp) := if s ∈ L.map (·.1) then L else L ++ [(s, ahead)]
/-- From the step that lies at a place on. -/
def bfsP (nx : Stp → List Stp) : Nat → Nat → List (Stp × Stp) → List (Stp × Stp)
  | 0, _, L => L
  | f + 1, k, L => match L[k]? with
    | none => L
    | some e => bfsP nx f (k + 1) ((nx e.1).foldl (rchP e.1) L)
def stP (a : List Int) : List (Stp × Stp) := a.foldl (fun L p => rchP (p, false) L (p, false)) []
theorem bfsP_some {nx : Stp → List Stp} {f k : Nat} {L : List (Stp × Stp)} {e : Stp × Stp} (h : L[k]? = some e) : bfsP nx (f + 1) k L = bfsP nx f (k + 1) ((nx e.1).foldl (rchP e.1) L) := by rw [bfsP, h]
theorem bfsP_none {nx : Stp → List Stp} {f k : Nat} {L : List (Stp × Stp)} (h : L.length ≤ k) : bfsP nx f k L = L := by
  cases f with
  | zero => rfl
  | succ f => rw [bfsP, List.getElem?_eq_none h]
/-- Keys that differ, and are steps of the first n points. -/
structure KeyP (n : Nat) (L : List (Stp × Stp)) : Prop where
  nd : (L.map (·.1)).Nodup
  pt : ∀ e ∈ L, ∃ p : Nat, e.1.1 = (p : Int) ∧ p < n
theorem KeyP.nil (n : Nat) : KeyP n [] := ⟨List.nodup_nil, fun e h => by simp at h⟩
theorem KeyP.rch {n : Nat} {L : List (Stp × Stp)} (h : KeyP n L) (ahead s : Stp) (hs : ∃ p : Nat, s.1 = (p : Int) ∧ p < n) : KeyP n (rchP ahead L s) := by
  unfold rchP
  split
  · exact h
  · rename_i hn
    refine ⟨?_, fun e he => ?_⟩
    · rw [List.map_append, List.nodup_append]
      refine ⟨h.nd, by simp, fun x hx y hy e => ?_⟩
      simp at hy
      subst hy; subst e
      exact hn hx
    · rcases List.mem_append.1 he with he | he
      · exact h.pt e he
      · simp at he; subst he; exact hs
theorem KeyP.fold {n : Nat} (ahead : Stp) : ∀ (l : List Stp) {L : List (Stp × Stp)}, KeyP n L → (∀ s ∈ l, ∃ p : Nat, s.1 = (p : Int) ∧ p < n) → KeyP n (l.foldl (rchP ahead) L)
  | [], _, h, _ => h
  | s :: l, L, h, hl => by
    rw [List.foldl_cons]
    exact KeyP.fold ahead l (h.rch ahead s (hl s (by simp))) fun t ht => hl t (by simp [ht])
theorem KeyP.start {n : Nat} : ∀ (a : List Int) {L : List (Stp × Stp)}, KeyP n L → (∀ x ∈ a, ∃ p : Nat, x = (p : Int) ∧ p < n) → KeyP n (a.foldl (fun L p => rchP (p, false) L (p, false)) L)
  | [], _, h, _ => h
  | x :: a, L, h, hl => by
    rw [List.foldl_cons]
    exact KeyP.start a (h.rch _ _ (hl x (by simp))) fun t ht => hl t (by simp [ht])
/-- Lists of numbers below n that differ are no longer than n. -/
theorem nd_len : ∀ (n : Nat) (l : List Nat), l.Nodup → (∀ x ∈ l, x < n) → l.length ≤ n
  | 0, l, _, h => by
    cases l with
    | nil => exact Nat.le_refl _
    | cons x l => have := h x (by simp); omega
  | n + 1, l, hd, h => by
    by_cases hm : n ∈ l
    · have h1 := List.length_erase_of_mem hm
      have h2 := nd_len n (l.erase n) (hd.erase _) (fun x hx => by
        rw [hd.mem_erase_iff] at hx
        have := h x hx.2
        omega)
      omega
    · have := nd_len n l hd (fun x hx => by
        have h1 := h x hx
        have : x ≠ n := fun e => hm (e ▸ hx)
        omega)
      omega
def codP (s : Stp) : Nat := 2 * s.1.toNat + if s.2 then 1 else 0
theorem KeyP.len {n : Nat} {L : List (Stp × Stp)} (h : KeyP n L) : L.length ≤ 2 * n := by
  have h1 := nd_len (2 * n) (L.map fun e => codP e.1) (by
    have hnd := h.nd
    have hpt := h.pt
    clear h
    induction L with
    | nil => exact List.nodup_nil
    | cons e L ih =>
      rw [List.map_cons, List.nodup_cons] at hnd ⊢
      refine ⟨fun hm => hnd.1 ?_, ih hnd.2 fun x hx => hpt x (by simp [hx])⟩
      obtain ⟨x, hx, e1⟩ := List.mem_map.1 hm
      obtain ⟨p, e2, _⟩ := hpt e (by simp)
      obtain ⟨q, e3, _⟩ := hpt x (by simp [hx])
      refine List.mem_map.2 ⟨x, hx, ?_⟩
      unfold codP at e1
      rw [e2, e3] at e1
      simp only [Int.toNat_natCast] at e1
      cases ha : x.1.2 <;> cases hb : e.1.2 <;> rw [ha, hb] at e1 <;> simp at e1
      · exact Prod.ext (by rw [e2, e3]; omega) (by rw [ha, hb])
      · omega
      · omega
      · exact Prod.ext (by rw [e2, e3]; omega) (by rw [ha, hb])) (fun x hx => by
    obtain ⟨e, he, e1⟩ := List.mem_map.1 hx
    obtain ⟨p, e2, hp⟩ := h.pt e he
    unfold codP at e1
    rw [e2] at e1
    simp only [Int.toNat_natCast] at e1
    cases hb : e.1.2 <;> rw [hb] at e1 <;> simp at e1 <;> omega)
  rw [List.length_map] at h1
  exact h1
theorem rchP_le (ahead : Stp) (L : List (Stp × Stp)) (s : Stp) : L.length ≤ (rchP ahead L s).length := by
  unfold rchP
  split
  · exact Nat.le_refl _
  · rw [List.length_append]; omega
theorem rchP_fold_le (ahead : Stp) : ∀ (l : List Stp) (L : List (Stp × Stp)), L.length ≤ (l.foldl (rchP ahead) L).length
  | [], L => Nat.le_refl _
  | s :: l, L => by rw [List.foldl_cons]; exact Nat.le_trans (rchP_le ahead L s) (rchP_fold_le ahead l _)
end Go.Proofs.YthdpomgpcblpeaaGreat

namespace Go.Proofs.YthdpomgpcblpeaaGreat
/-- Two places changed. -/
def swp (L : List Int) (i j : Nat) : List Int := (L.set i (L.getD j 0)).set j (L.getD i 0)
theorem swp_len (L : List Int) (i j : Nat) : (swp L i j).length = L.length := by simp [swp]
theorem swp_get (L : List Int) {i j : Nat} (hi : i < L.length) (hj : j < L.length) (k : Nat) : (swp L i j).getD k 0 = if k = j then L.getD i 0 else if k = i then L.getD j 0 else L.getD k 0 := by
  unfold swp
  simp only [List.getD_eq_getElem?_getD, List.getElem?_set, List.length_set]
  by_cases h1 : k = j
  · subst h1; simp [hj]
  · have h1' : ¬ j = k := fun e => h1 e.symm
    by_cases h2 : k = i
    · subst h2; simp only [h1', h1, if_false, if_true, hi]; rfl
    · have h2' : ¬ i = k := fun e => h2 e.symm
      simp only [h1', h1, h2, h2', if_false]
theorem swp_perm (L : List Int) {i j : Nat} (hi : i < L.length) (hj : j < L.length) : (swp L i j).Perm L := by
  have h := List.set_set_perm hi hj
  have e1 : L.getD j 0 = L[j] := by simp [List.getD_eq_getElem?_getD, hj]
  have e2 : L.getD i 0 = L[i] := by simp [List.getD_eq_getElem?_getD, hi]
  unfold swp
  rw [e1, e2]
  exact h
/-- The first n stand as a heap. -/
def HeapN (L : List Int) (n : Nat) : Prop := ∀ i, 0 < i → i < n → L.getD ((i - 1) / 2) 0 ≤ L.getD i 0
theorem HeapN.least {L : List Int} {n : Nat} (h : HeapN L n) : ∀ i, i < n → L.getD 0 0 ≤ L.getD i 0 := by
  intro i
  induction i using Nat.strongRecOn with
  | _ i ih =>
    intro hi
    rcases Nat.eq_zero_or_pos i with rfl | h0
    · exact Int.le_refl _
    · have h1 := ih ((i - 1) / 2) (by omega) (by omega)
      have h2 := h i h0 hi
      omega
/-- Up from a place. -/
def upF : Nat → List Int → Nat → List Int
  | 0, L, _ => L
  | f + 1, L, j => if j = 0 then L else if L.getD j 0 < L.getD ((j - 1) / 2) 0 then upF f (swp L ((j - 1) / 2) j) ((j - 1) / 2) else L
theorem upF_len : ∀ (f : Nat) (L : List Int) (j : Nat), (upF f L j).length = L.length
  | 0, _, _ => rfl
  | f + 1, L, j => by
    unfold upF
    split
    · rfl
    · split
      · rw [upF_len f]; exact swp_len _ _ _
      · rfl
theorem upF_perm : ∀ (f : Nat) (L : List Int) (j : Nat), j < L.length → (upF f L j).Perm L
  | 0, _, _, _ => List.Perm.refl _
  | f + 1, L, j, hj => by
    unfold upF
    split
    · exact List.Perm.refl _
    · split
      · exact (upF_perm f _ _ (by rw [swp_len]; omega)).trans (swp_perm L (by omega) hj)
      · exact List.Perm.refl _
/-- A heap but for one place, which may be too small. -/
structure HeapU (L : List Int) (j : Nat) : Prop where
  all : ∀ i, 0 < i → i < L.length → i ≠ j → L.getD ((i - 1) / 2) 0 ≤ L.getD i 0
  kids : ∀ c, 0 < c → c < L.length → (c - 1) / 2 = j → 0 < j → L.getD ((j - 1) / 2) 0 ≤ L.getD c 0
theorem upF_heap : ∀ (f : Nat) (L : List Int) (j : Nat), j < L.length → j ≤ f → HeapU L j → HeapN (upF f L j) L.length
  | 0, L, j, hj, hf, h => by
    have hj0 : j = 0 := by omega
    subst hj0
    intro i h0 h1
    exact h.all i h0 h1 (by omega)
  | f + 1, L, j, hj, hf, h => by
    unfold upF
    split
    · rename_i hj0
      subst hj0
      intro i h0 h1
      exact h.all i h0 h1 (by omega)
    · rename_i hj0
      split
      · rename_i hlt
        have hp : (j - 1) / 2 < L.length := by omega
        have hpj : (j - 1) / 2 < j := by omega
        have e := upF_heap f (swp L ((j - 1) / 2) j) ((j - 1) / 2) (by rw [swp_len]; exact hp) (by omega) ?_
        · rw [swp_len] at e; exact e
        · have hg := swp_get L hp hj
          constructor
          · intro i h0 h1 h2
            rw [swp_len] at h1
            rw [hg, hg]
            by_cases hij : i = j
            · subst hij
              rw [if_pos rfl, if_neg (by omega), if_pos rfl]; omega
            · rw [if_neg hij, if_neg h2]
              by_cases hpar : (i - 1) / 2 = j
              · rw [if_pos hpar]
                exact h.kids i h0 h1 hpar (by omega)
              · rw [if_neg hpar]
                have h3 := h.all i h0 h1 hij
                by_cases hpar2 : (i - 1) / 2 = (j - 1) / 2
                · rw [if_pos hpar2]; rw [hpar2] at h3; omega
                · rw [if_neg hpar2]; exact h3
          · intro c h0 h1 h2 h3
            rw [swp_len] at h1
            rw [hg, hg, if_neg (by omega), if_neg (by omega)]
            have h4 := h.all ((j - 1) / 2) h3 hp (by omega)
            by_cases hcj : c = j
            · subst hcj; rw [if_pos rfl]; exact h4
            · rw [if_neg hcj, if_neg (by omega)]
              have h5 := h.all c h0 h1 hcj
              rw [h2] at h5
              omega
      · rename_i hlt
        intro i h0 h1
        by_cases hij : i = j
        · subst hij; omega
        · exact h.all i h0 h1 hij
theorem upF_fuel : ∀ (f f' : Nat) (L : List Int) (j : Nat), j ≤ f → j ≤ f' → upF f L j = upF f' L j
  | 0, 0, _, _, _, _ => rfl
  | 0, f' + 1, L, j, h, _ => by have : j = 0 := by omega
                                subst this; simp [upF]
  | f + 1, 0, L, j, _, h => by have : j = 0 := by omega
                               subst this; simp [upF]
  | f + 1, f' + 1, L, j, h, h' => by
    unfold upF
    split
    · rfl
    · split
      · exact upF_fuel f f' _ _ (by omega) (by omega)
      · rfl
/-- Up, with as many steps as it takes. -/
def upL (L : List Int) (j : Nat) : List Int := upF j L j
theorem upL_zero (L : List Int) : upL L 0 = L := rfl
theorem upL_yes {L : List Int} {j : Nat} (h0 : 0 < j) (h : L.getD j 0 < L.getD ((j - 1) / 2) 0) : upL L j = upL (swp L ((j - 1) / 2) j) ((j - 1) / 2) := by
  obtain ⟨k, rfl⟩ : ∃ k, j = k + 1 := ⟨j - 1, by omega⟩
  unfold upL
  rw [upF, if_neg (by omega), if_pos h]
  exact upF_fuel _ _ _ _ (by omega) (Nat.le_refl _)
theorem upL_no {L : List Int} {j : Nat} (h : ¬ L.getD j 0 < L.getD ((j - 1) / 2) 0) : upL L j = L := by
  unfold upL
  cases j with
  | zero => rfl
  | succ k => rw [upF, if_neg (by omega), if_neg h]
/-- Down from a place, among the first n. -/
def dnF : Nat → List Int → Nat → Nat → List Int
  | 0, L, _, _ => L
  | f + 1, L, i, n => if 2 * i + 1 ≥ n then L else
      if L.getD (if 2 * i + 2 < n ∧ L.getD (2 * i + 2) 0 < L.getD (2 * i + 1) 0 then 2 * i + 2 else 2 * i + 1) 0 < L.getD i 0 then dnF f (swp L i (if 2 * i + 2 < n ∧ L.getD (2 * i + 2) 0 < L.getD (2 * i + 1) 0 then 2 * i + 2 else 2 * i + 1)) (if 2 * i + 2 < n ∧ L.getD (2 * i + 2) 0 < L.getD (2 * i + 1) 0 then 2 * i + 2 else 2 * i + 1) n else L
/-- The lesser child. -/
def kid (L : List Int) (i n : Nat) : Nat := if 2 * i + 2 < n ∧ L.getD (2 * i + 2) 0 < L.getD (2 * i + 1) 0 then 2 * i + 2 else 2 * i + 1
theorem dnF_succ (f : Nat) (L : List Int) (i n : Nat) : dnF (f + 1) L i n = if 2 * i + 1 ≥ n then L else if L.getD (kid L i n) 0 < L.getD i 0 then dnF f (swp L i (kid L i n)) (kid L i n) n else L := rfl
theorem kid_bd {L : List Int} {i n : Nat} (h : ¬ 2 * i + 1 ≥ n) : kid L i n < n ∧ i < kid L i n ∧ (kid L i n - 1) / 2 = i := by
  unfold kid
  split <;> omega
theorem kid_le {L : List Int} {i n c : Nat} (hc : c < n) (h0 : 0 < c) (hp : (c - 1) / 2 = i) : L.getD (kid L i n) 0 ≤ L.getD c 0 := by
  have hcc : c = 2 * i + 1 ∨ c = 2 * i + 2 := by omega
  unfold kid
  split
  · rename_i h
    rcases hcc with rfl | rfl
    · omega
    · exact Int.le_refl _
  · rename_i h
    rcases hcc with rfl | rfl
    · exact Int.le_refl _
    · by_cases hl : L.getD (2 * i + 2) 0 < L.getD (2 * i + 1) 0
      · exact absurd ⟨hc, hl⟩ h
      · omega
theorem dnF_len : ∀ (f : Nat) (L : List Int) (i n : Nat), (dnF f L i n).length = L.length
  | 0, _, _, _ => rfl
  | f + 1, L, i, n => by
    rw [dnF_succ]
    split
    · rfl
    · split
      · rw [dnF_len f]; exact swp_len _ _ _
      · rfl
theorem dnF_perm : ∀ (f : Nat) (L : List Int) (i n : Nat), i < L.length → n ≤ L.length → (dnF f L i n).Perm L
  | 0, _, _, _, _, _ => List.Perm.refl _
  | f + 1, L, i, n, hi, hn => by
    rw [dnF_succ]
    split
    · exact List.Perm.refl _
    · rename_i h
      have hk := kid_bd (L := L) h
      split
      · exact (dnF_perm f _ _ n (by rw [swp_len]; omega) (by rw [swp_len]; exact hn)).trans (swp_perm L hi (by omega))
      · exact List.Perm.refl _
theorem dnF_rest : ∀ (f : Nat) (L : List Int) (i n k : Nat), i < n → n ≤ L.length → n ≤ k → (dnF f L i n).getD k 0 = L.getD k 0
  | 0, _, _, _, _, _, _, _ => rfl
  | f + 1, L, i, n, k, hi, hn, hk => by
    rw [dnF_succ]
    split
    · rfl
    · rename_i h
      have hb := kid_bd (L := L) h
      split
      · rw [dnF_rest f _ _ n k hb.1 (by rw [swp_len]; exact hn) hk, swp_get L (by omega) (by omega), if_neg (by omega), if_neg (by omega)]
      · rfl
/-- A heap but for one place, which may be too great. -/
structure HeapD (L : List Int) (i n : Nat) : Prop where
  all : ∀ c, 0 < c → c < n → (c - 1) / 2 ≠ i → L.getD ((c - 1) / 2) 0 ≤ L.getD c 0
  kids : ∀ c, 0 < c → c < n → (c - 1) / 2 = i → 0 < i → L.getD ((i - 1) / 2) 0 ≤ L.getD c 0
theorem dnF_heap : ∀ (f : Nat) (L : List Int) (i n : Nat), i < n → n ≤ L.length → n ≤ i + f → HeapD L i n → HeapN (dnF f L i n) n
  | 0, L, i, n, hi, hn, hf, h => by omega
  | f + 1, L, i, n, hi, hn, hf, h => by
    rw [dnF_succ]
    split
    · rename_i h1
      intro c h0 hc
      exact h.all c h0 hc (by omega)
    · rename_i h1
      have hb := kid_bd (L := L) h1
      split
      · rename_i hlt
        have hg := swp_get L (i := i) (j := kid L i n) (by omega) (by omega)
        refine dnF_heap f _ _ n hb.1 (by rw [swp_len]; exact hn) (by omega) ⟨?_, ?_⟩
        · intro c h0 hc hp
          rw [hg, hg, if_neg hp]
          by_cases hcj : c = kid L i n
          · have hpi : (c - 1) / 2 = i := by rw [hcj]; exact hb.2.2
            rw [if_pos hpi, if_pos hcj]
            omega
          · rw [if_neg hcj]
            by_cases hpi : (c - 1) / 2 = i
            · rw [if_pos hpi, if_neg (by omega)]
              exact kid_le hc h0 hpi
            · rw [if_neg hpi]
              by_cases hci : c = i
              · rw [if_pos hci]
                have := h.kids (kid L i n) (by omega) hb.1 hb.2.2 (by omega)
                rw [hci]; exact this
              · rw [if_neg hci]
                exact h.all c h0 hc hpi
        · intro c h0 hc hp h3
          rw [hg, hg, hb.2.2, if_neg (by omega), if_pos rfl, if_neg (by omega), if_neg (by omega)]
          have := h.all c h0 hc (by omega)
          rw [hp] at this
          exact this
      · rename_i hlt
        intro c h0 hc
        by_cases hpi : (c - 1) / 2 = i
        · have := kid_le (L := L) hc h0 hpi
          rw [hpi]; omega
        · exact h.all c h0 hc hpi
theorem dnF_fuel : ∀ (f f' : Nat) (L : List Int) (i n : Nat), n ≤ i + f → n ≤ i + f' → dnF f L i n = dnF f' L i n
  | 0, 0, _, _, _, _, _ => rfl
  | 0, f' + 1, L, i, n, h, _ => by rw [dnF_succ, if_pos (by omega)]; rfl
  | f + 1, 0, L, i, n, _, h => by rw [dnF_succ, if_pos (by omega)]; rfl
  | f + 1, f' + 1, L, i, n, h, h' => by
    rw [dnF_succ, dnF_succ]
    split
    · rfl
    · rename_i h1
      have hb := kid_bd (L := L) h1
      split
      · exact dnF_fuel f f' _ _ n (by omega) (by omega)
      · rfl
/-- Down, with as many steps as it takes. -/
def dnL (L : List Int) (i n : Nat) : List Int := dnF n L i n
theorem dnL_stop {L : List Int} {i n : Nat} (h : n ≤ 2 * i + 1) : dnL L i n = L := by
  unfold dnL
  cases n with
  | zero => rfl
  | succ k => rw [dnF_succ, if_pos (by omega)]
theorem dnL_yes {L : List Int} {i n : Nat} (h : ¬ n ≤ 2 * i + 1) (hl : L.getD (kid L i n) 0 < L.getD i 0) : dnL L i n = dnL (swp L i (kid L i n)) (kid L i n) n := by
  have hb := kid_bd (L := L) (i := i) (n := n) (by omega)
  unfold dnL
  obtain ⟨k, rfl⟩ : ∃ k, n = k + 1 := ⟨n - 1, by omega⟩
  rw [dnF_succ, if_neg (by omega), if_pos hl]
  exact dnF_fuel _ _ _ _ _ (by omega) (by omega)
theorem dnL_no {L : List Int} {i n : Nat} (h : ¬ n ≤ 2 * i + 1) (hl : ¬ L.getD (kid L i n) 0 < L.getD i 0) : dnL L i n = L := by
  unfold dnL
  obtain ⟨k, rfl⟩ : ∃ k, n = k + 1 := ⟨n - 1, by omega⟩
  rw [dnF_succ, if_neg (by omega), if_neg hl]
theorem kid_two {L : List Int} {i n : Nat} (h : 2 * i + 2 < n) (hl : L.getD (2 * i + 2) 0 < L.getD (2 * i + 1) 0) : kid L i n = 2 * i + 2 := by unfold kid; rw [if_pos ⟨h, hl⟩]
theorem kid_one {L : List Int} {i n : Nat} (h : ¬ (2 * i + 2 < n ∧ L.getD (2 * i + 2) 0 < L.getD (2 * i + 1) 0)) : kid L i n = 2 * i + 1 := by unfold kid; rw [if_neg h]
end Go.Proofs.YthdpomgpcblpeaaGreat

/-
  Proved here: layer 11's law.go: ints; alive.
  Proved here: plain mathematics of sets held as rising lists. No condition.
-/
import Derived.Test.YtcadljpdokhpmaaSetFI
namespace Go.Proofs.Ytcadljpdokhpmaa
open Go.Shelf Go.RowKit Go.Lib Go.Sort

theorem posI_eq {L : List Int} {x : Int} {k j : Nat} (h : Pos (ltOf cfI) L x k) (hj : Pos (ltOf cfI) L x j) : k = j := h.uniq hj
theorem rg_lit (w : World) (zs : List Int) (hm : zs.length ≤ 1000) : RG (Value.int .i64) (w.alloc (.cells (zs.map (Value.int .i64)).toArray 3)) (.slice (some ⟨w.heap.size, 0, none⟩) zs.length zs.length) zs := (OG.lit (enc := Value.int .i64) 3 w zs (by unfold maxLen; omega)).rg
theorem of_four : ofI [3, 1, 3, 2] = [1, 2, 3] := by decide
theorem alive_rs : Rs (ltOf cfI) [1, 2, 3] := by rw [← of_four]; exact ofI_rs _
end Go.Proofs.Ytcadljpdokhpmaa

namespace Go.Proofs.Ytcadljpdokhpmaa

/-- A list that rises. -/
def Rise (l : List Int) : Prop := l.Pairwise (· < ·)
theorem Rise.tail {x : Int} {l : List Int} (h : Rise (x :: l)) : Rise l := (List.pairwise_cons.1 h).2
theorem Rise.head {x : Int} {l : List Int} (h : Rise (x :: l)) : ∀ y ∈ l, x < y := (List.pairwise_cons.1 h).1
/-- A rising list is told by what is in it. -/
theorem rise_ext : ∀ {a b : List Int}, Rise a → Rise b → (∀ z, z ∈ a ↔ z ∈ b) → a = b
  | [], [], _, _, _ => rfl
  | [], y :: b, _, _, h => by have := (h y).2 (List.mem_cons_self ..); cases this
  | x :: a, [], _, _, h => by have := (h x).1 (List.mem_cons_self ..); cases this
  | x :: a, y :: b, ha, hb, h => by
    have hxy : x = y := by
      rcases List.mem_cons.1 ((h x).1 (List.mem_cons_self ..)) with e | e
      · exact e
      · rcases List.mem_cons.1 ((h y).2 (List.mem_cons_self ..)) with e2 | e2
        · exact e2.symm
        · have h1 := hb.head x e
          have h2 := ha.head y e2
          omega
    subst hxy
    have : a = b := rise_ext ha.tail hb.tail fun z => by
      constructor
      · intro hz
        rcases List.mem_cons.1 ((h z).1 (List.mem_cons_of_mem _ hz)) with e | e
        · have := ha.head z hz; omega
        · exact e
      · intro hz
        rcases List.mem_cons.1 ((h z).2 (List.mem_cons_of_mem _ hz)) with e | e
        · have := hb.head z hz; omega
        · exact e
    rw [this]
/-- A thing put in where it belongs. -/
def insR (x : Int) : List Int → List Int
  | [] => [x]
  | y :: r => if x < y then x :: y :: r else if x = y then y :: r else y :: insR x r
theorem mem_insR (x : Int) : ∀ (l : List Int) (z : Int), z ∈ insR x l ↔ z = x ∨ z ∈ l
  | [], z => by simp [insR]
  | y :: r, z => by
    unfold insR
    by_cases h1 : x < y
    · rw [if_pos h1]; simp
    · rw [if_neg h1]
      by_cases h2 : x = y
      · subst h2; rw [if_pos rfl]; simp
      · rw [if_neg h2, List.mem_cons, mem_insR x r z, List.mem_cons]
        constructor
        · rintro (h | h | h)
          · exact .inr (.inl h)
          · exact .inl h
          · exact .inr (.inr h)
        · rintro (h | h | h)
          · exact .inr (.inl h)
          · exact .inl h
          · exact .inr (.inr h)
theorem rise_insR (x : Int) : ∀ {l : List Int}, Rise l → Rise (insR x l)
  | [], _ => List.pairwise_singleton _ _
  | y :: r, h => by
    unfold insR
    by_cases h1 : x < y
    · rw [if_pos h1]
      refine List.pairwise_cons.2 ⟨fun z hz => ?_, h⟩
      rcases List.mem_cons.1 hz with e | e
      · omega
      · have := h.head z e; omega
    · rw [if_neg h1]
      by_cases h2 : x = y
      · rw [if_pos h2]; exact h
      · rw [if_neg h2]
        refine List.pairwise_cons.2 ⟨fun z hz => ?_, rise_insR x h.tail⟩
        rcases (mem_insR x r z).1 hz with e | e
        · omega
        · exact h.head z e
theorem len_insR (x : Int) : ∀ {l : List Int}, Rise l → (insR x l).length = l.length + if x ∈ l then 0 else 1
  | [], _ => by simp [insR]
  | y :: r, h => by
    unfold insR
    by_cases h1 : x < y
    · have : x ∉ y :: r := fun hx => by
        rcases List.mem_cons.1 hx with e | e
        · omega
        · have := h.head x e; omega
      rw [if_pos h1, if_neg this]; rfl
    · rw [if_neg h1]
      by_cases h2 : x = y
      · subst h2; rw [if_pos rfl, if_pos (List.mem_cons_self ..)]; rfl
      · rw [if_neg h2, List.length_cons, len_insR x h.tail]
        by_cases hm : x ∈ r
        · rw [if_pos hm, if_pos (List.mem_cons_of_mem _ hm)]; rfl
        · rw [if_neg hm, if_neg (fun hx => by rcases List.mem_cons.1 hx with e | e; exact h2 e; exact hm e)]; simp
/-- All of a list put in. -/
def joinR (s : List Int) : List Int → List Int
  | [] => s
  | x :: l => joinR (insR x s) l
theorem mem_joinR : ∀ (l s : List Int) (z : Int), z ∈ joinR s l ↔ z ∈ s ∨ z ∈ l
  | [], s, z => by simp [joinR]
  | x :: l, s, z => by
    rw [joinR, mem_joinR l, mem_insR, List.mem_cons]
    constructor
    · rintro ((h | h) | h)
      · exact .inr (.inl h)
      · exact .inl h
      · exact .inr (.inr h)
    · rintro (h | h | h)
      · exact .inl (.inr h)
      · exact .inl (.inl h)
      · exact .inr h
theorem rise_joinR : ∀ (l : List Int) {s : List Int}, Rise s → Rise (joinR s l)
  | [], _, h => h
  | x :: l, _, h => rise_joinR l (rise_insR x h)
theorem joinR_snoc (s l : List Int) (x : Int) : joinR s (l ++ [x]) = insR x (joinR s l) := by
  induction l generalizing s with
  | nil => rfl
  | cons y l ih => exact ih (insR y s)
/-- The set of a list. -/
def ofR (l : List Int) : List Int := joinR [] l
theorem rise_nil : Rise [] := List.Pairwise.nil
theorem rise_ofR (l : List Int) : Rise (ofR l) := rise_joinR l rise_nil
theorem mem_ofR (l : List Int) (z : Int) : z ∈ ofR l ↔ z ∈ l := by rw [ofR, mem_joinR]; simp
theorem rise_filter {l : List Int} (h : Rise l) (p : Int → Bool) : Rise (l.filter p) := List.Pairwise.filter p h
/-- What is in both; what is in the first alone. -/
def meetR (s o : List Int) : List Int := s.filter fun z => decide (z ∈ o)
def minusR (s o : List Int) : List Int := s.filter fun z => !decide (z ∈ o)
theorem mem_meetR (s o : List Int) (z : Int) : z ∈ meetR s o ↔ z ∈ s ∧ z ∈ o := by simp [meetR]
theorem mem_minusR (s o : List Int) (z : Int) : z ∈ minusR s o ↔ z ∈ s ∧ z ∉ o := by simp [minusR]
theorem rise_meetR {s : List Int} (h : Rise s) (o : List Int) : Rise (meetR s o) := rise_filter h _
theorem rise_minusR {s : List Int} (h : Rise s) (o : List Int) : Rise (minusR s o) := rise_filter h _
theorem ofR_self {s : List Int} (h : Rise s) : ofR s = s := rise_ext (rise_ofR s) h (mem_ofR s)
theorem joinR_eq {s t l : List Int} (hs : Rise s) (ht : Rise t) (h : ∀ z, z ∈ t ↔ z ∈ s ∨ z ∈ l) : joinR s l = t := rise_ext (rise_joinR l hs) ht fun z => by rw [mem_joinR, h z]
/-- How many there are together. -/
theorem len_joinR : ∀ (o : List Int) {s : List Int}, Rise s → Rise o → (joinR s o).length = s.length + (minusR o s).length
  | [], s, _, _ => by simp [joinR, minusR]
  | x :: o, s, hs, ho => by
    rw [joinR, len_joinR o (rise_insR x hs) ho.tail, len_insR x hs]
    have e : minusR o (insR x s) = minusR o s := by
      refine rise_ext (rise_minusR ho.tail _) (rise_minusR ho.tail _) fun z => ?_
      rw [mem_minusR, mem_minusR, mem_insR]
      constructor
      · rintro ⟨h1, h2⟩; exact ⟨h1, fun h => h2 (.inr h)⟩
      · rintro ⟨h1, h2⟩
        refine ⟨h1, fun h => ?_⟩
        rcases h with h | h
        · have := ho.head z h1; omega
        · exact h2 h
    rw [e]
    by_cases hx : x ∈ s
    · have : minusR (x :: o) s = minusR o s := by simp [minusR, hx]
      rw [this, if_pos hx]; rfl
    · have : minusR (x :: o) s = x :: minusR o s := by simp [minusR, hx]
      rw [this, if_neg hx, List.length_cons]; omega
theorem len_parts (s o : List Int) : (meetR s o).length + (minusR s o).length = s.length := by
  induction s with
  | nil => rfl
  | cons x s ih =>
    unfold meetR minusR at *
    by_cases h : x ∈ o
    · simp [h]; omega
    · simp [h]; omega
theorem len_meet_sym {s o : List Int} (hs : Rise s) (ho : Rise o) : (meetR s o).length = (meetR o s).length := by
  rw [rise_ext (rise_meetR hs o) (rise_meetR ho s) fun z => by rw [mem_meetR, mem_meetR]; exact And.comm]
theorem len_both {s o : List Int} (hs : Rise s) (ho : Rise o) : (joinR s o).length + (meetR s o).length = s.length + o.length := by
  rw [len_joinR o hs ho, len_meet_sym hs ho]
  have := len_parts o s
  omega
/-- Within, same. -/
def withinR (s o : List Int) : Bool := s.all fun z => decide (z ∈ o)
theorem within_iff (s o : List Int) : withinR s o = true ↔ ∀ z ∈ s, z ∈ o := by simp [withinR]
theorem within_len (s o : List Int) : withinR s o = decide ((minusR s o).length = 0) := by
  rw [Bool.eq_iff_iff, within_iff, decide_eq_true_iff, List.length_eq_zero_iff]
  constructor
  · intro h
    cases hm : minusR s o with
    | nil => rfl
    | cons x r =>
      have := (mem_minusR s o x).1 (by rw [hm]; exact List.mem_cons_self ..)
      exact absurd (h x this.1) this.2
  · intro h z hz
    by_cases hzo : z ∈ o
    · exact hzo
    · have := (mem_minusR s o z).2 ⟨hz, hzo⟩
      rw [h] at this; cases this
def sameR (s o : List Int) : Bool := withinR s o && withinR o s
theorem same_iff {s o : List Int} (hs : Rise s) (ho : Rise o) : sameR s o = true ↔ s = o := by
  rw [sameR, Bool.and_eq_true, within_iff, within_iff]
  constructor
  · rintro ⟨h1, h2⟩; exact rise_ext hs ho fun z => ⟨h1 z, h2 z⟩
  · rintro rfl; exact ⟨fun _ h => h, fun _ h => h⟩
end Go.Proofs.Ytcadljpdokhpmaa

/-
  Proved here: mathematics of a stable sort on lists (no program): merging two lists goes in two halves; merging what was sorted is sorting both; the sort by insertion on an array is the sort by insertion on a list; blocks that are sorted and merged by twos.
-/
import Derived.Sort.Defs
namespace Go.Proofs.YtcoiapgfaibkgabGreat
open Go.Sort
section
variable {α : Type}

theorem snoc_ind {C : List α → Prop} (h0 : C []) (h1 : ∀ l x, C l → C (l ++ [x])) (l : List α) : C l := by
  have : ∀ r : List α, C r.reverse := by
    intro r
    induction r with
    | nil => exact h0
    | cons x r ih => rw [List.reverse_cons]; exact h1 _ _ ih
  rw [← List.reverse_reverse l]
  exact this _
/-- x put behind all that are not above it. -/
def insS (le : α → α → Bool) (x : α) : List α → List α
  | [] => [x]
  | y :: l => if le y x then y :: insS le x l else x :: y :: l
def sortS (le : α → α → Bool) (l : List α) : List α := l.foldl (fun s x => insS le x s) []
def mrg (le : α → α → Bool) : List α → List α → List α
  | [], b => b
  | x :: a, [] => x :: a
  | x :: a, y :: b => if le x y then x :: mrg le a (y :: b) else y :: mrg le (x :: a) b
termination_by a b => a.length + b.length
structure Ord (le : α → α → Bool) : Prop where
  total : ∀ x y, le x y = true ∨ le y x = true
  trans : ∀ x y z, le x y = true → le y z = true → le x z = true
def Srt (le : α → α → Bool) (l : List α) : Prop := l.Pairwise fun x y => le x y = true

variable {le : α → α → Bool}
theorem mrg_nil_left (b : List α) : mrg le [] b = b := by rw [mrg]
theorem mrg_nil_right (a : List α) : mrg le a [] = a := by cases a <;> rw [mrg]
theorem mrg_yes {x y : α} (a b : List α) (h : le x y = true) : mrg le (x :: a) (y :: b) = x :: mrg le a (y :: b) := by rw [mrg, if_pos h]
theorem mrg_no {x y : α} (a b : List α) (h : le x y = false) : mrg le (x :: a) (y :: b) = y :: mrg le (x :: a) b := by rw [mrg, if_neg (by simp [h])]

theorem mrg_split : ∀ (n : Nat) (A1 A2 B1 B2 : List α), A1.length + B1.length ≤ n → (∀ x ∈ A1, ∀ y ∈ B2, le x y = true) → (∀ x ∈ A2, ∀ y ∈ B1, le x y = false) →
    mrg le (A1 ++ A2) (B1 ++ B2) = mrg le A1 B1 ++ mrg le A2 B2
  | n, [], A2, [], B2, _, _, _ => by simp [mrg_nil_left]
  | 0, x :: A1, A2, B1, B2, hn, _, _ => absurd hn (by simp)
  | 0, [], A2, y :: B1, B2, hn, _, _ => absurd hn (by simp)
  | n + 1, [], A2, y :: B1, B2, hn, h1, h2 => by
    rw [mrg_nil_left]
    have ih := mrg_split n [] A2 B1 B2 (by simpa using hn) h1 (fun x hx z hz => h2 x hx z (List.mem_cons_of_mem _ hz))
    rw [mrg_nil_left] at ih
    cases A2 with
    | nil => simp [mrg_nil_left]
    | cons x A2 =>
      simp only [List.nil_append, List.cons_append] at ih ⊢
      rw [mrg_no _ _ (h2 x (by simp) y (by simp)), ih]
  | n + 1, x :: A1, A2, [], B2, hn, h1, h2 => by
    rw [mrg_nil_right]
    have ih := mrg_split n A1 A2 [] B2 (by simpa using hn) (fun z hz y hy => h1 z (List.mem_cons_of_mem _ hz) y hy) h2
    rw [mrg_nil_right] at ih
    cases B2 with
    | nil => simp [mrg_nil_right]
    | cons y B2 =>
      simp only [List.nil_append, List.cons_append] at ih ⊢
      rw [mrg_yes _ _ (h1 x (by simp) y (by simp)), ih]
  | n + 1, x :: A1, A2, y :: B1, B2, hn, h1, h2 => by
    simp only [List.cons_append]
    cases hxy : le x y with
    | true =>
      rw [mrg_yes _ _ hxy, mrg_yes _ _ hxy]
      have ih := mrg_split n A1 A2 (y :: B1) B2 (by simp at hn ⊢; omega) (fun z hz w hw => h1 z (List.mem_cons_of_mem _ hz) w hw) h2
      simp only [List.cons_append] at ih ⊢
      rw [ih]
    | false =>
      rw [mrg_no _ _ hxy, mrg_no _ _ hxy]
      have ih := mrg_split n (x :: A1) A2 B1 B2 (by simp at hn ⊢; omega) h1 (fun z hz w hw => h2 z hz w (List.mem_cons_of_mem _ hw))
      simp only [List.cons_append] at ih ⊢
      rw [ih]

theorem insS_yes {x y : α} (l : List α) (h : le y x = true) : insS le x (y :: l) = y :: insS le x l := by rw [insS, if_pos h]
theorem insS_no {x y : α} (l : List α) (h : le y x = false) : insS le x (y :: l) = x :: y :: l := by rw [insS, if_neg (by simp [h])]
theorem len_insS (x : α) : ∀ l : List α, (insS le x l).length = l.length + 1
  | [] => rfl
  | y :: l => by
    cases h : le y x with
    | true => rw [insS_yes _ h, List.length_cons, len_insS x l, List.length_cons]
    | false => rw [insS_no _ h]; simp
theorem perm_insS (x : α) : ∀ l : List α, (insS le x l).Perm (x :: l)
  | [] => List.Perm.refl _
  | y :: l => by
    cases h : le y x with
    | true => rw [insS_yes _ h]; exact ((perm_insS x l).cons y).trans (List.Perm.swap _ _ _)
    | false => rw [insS_no _ h]
theorem mem_insS (x z : α) (l : List α) : z ∈ insS le x l ↔ z = x ∨ z ∈ l := by rw [(perm_insS x l).mem_iff, List.mem_cons]
theorem srt_insS (O : Ord le) (x : α) : ∀ {l : List α}, Srt le l → Srt le (insS le x l)
  | [], _ => by simp [insS, Srt]
  | y :: l, h => by
    have h' := List.pairwise_cons.1 h
    cases e : le y x with
    | true =>
      rw [insS_yes _ e]
      refine List.pairwise_cons.2 ⟨fun z hz => ?_, srt_insS O x h'.2⟩
      rcases (mem_insS x z l).1 hz with rfl | hz
      · exact e
      · exact h'.1 z hz
    | false =>
      rw [insS_no _ e]
      have hxy : le x y = true := by rcases O.total x y with h | h; exact h; rw [e] at h; exact absurd h (by simp)
      refine List.pairwise_cons.2 ⟨fun z hz => ?_, h⟩
      rcases List.mem_cons.1 hz with rfl | hz
      · exact hxy
      · exact O.trans _ _ _ hxy (h'.1 z hz)

theorem mrg_insS (O : Ord le) (x : α) : ∀ (n : Nat) (A B : List α), A.length + B.length ≤ n → mrg le A (insS le x B) = insS le x (mrg le A B)
  | _, [], B, _ => by rw [mrg_nil_left, mrg_nil_left]
  | 0, a :: A, B, h => absurd h (by simp)
  | n + 1, a :: A, [], h => by
    have ih := mrg_insS O x n A [] (by simpa using h)
    rw [mrg_nil_right] at ih ⊢
    simp only [insS] at ih ⊢
    cases e : le a x with
    | true => rw [mrg_yes _ _ e, ih, if_pos rfl]
    | false => rw [mrg_no _ _ e, mrg_nil_right, if_neg (by simp)]
  | n + 1, a :: A, b :: B, h => by
    cases e : le b x with
    | true =>
      rw [insS_yes _ e]
      cases ab : le a b with
      | true =>
        rw [mrg_yes _ _ ab, mrg_yes _ _ ab, ← insS_yes _ e, mrg_insS O x n A (b :: B) (by simp at h ⊢; omega), insS_yes _ (O.trans _ _ _ ab e)]
      | false =>
        rw [mrg_no _ _ ab, mrg_no _ _ ab, mrg_insS O x n (a :: A) B (by simp at h ⊢; omega), insS_yes _ e]
    | false =>
      rw [insS_no _ e]
      cases ax : le a x with
      | true =>
        have ab : le a b = true := by
          rcases O.total a b with h | h
          · exact h
          · have := O.trans _ _ _ h ax
            rw [e] at this
            exact absurd this (by simp)
        have ih := mrg_insS O x n A (b :: B) (by simp at h ⊢; omega)
        rw [insS_no _ e] at ih
        rw [mrg_yes _ _ ax, ih, mrg_yes _ _ ab, insS_yes _ ax]
      | false =>
        rw [mrg_no _ _ ax]
        cases ab : le a b with
        | true => rw [mrg_yes _ _ ab, insS_no _ ax]
        | false => rw [mrg_no _ _ ab, insS_no _ e]

theorem sortS_nil : sortS le ([] : List α) = [] := rfl
theorem sortS_one (x : α) : sortS le [x] = [x] := rfl
theorem sortS_snoc (l : List α) (x : α) : sortS le (l ++ [x]) = insS le x (sortS le l) := by simp [sortS]
theorem srt_sortS (O : Ord le) (l : List α) : Srt le (sortS le l) := by
  induction l using snoc_ind with
  | h0 => exact List.Pairwise.nil
  | h1 l x ih => rw [sortS_snoc]; exact srt_insS O x ih
theorem perm_sortS (l : List α) : (sortS le l).Perm l := by
  induction l using snoc_ind with
  | h0 => exact List.Perm.refl _
  | h1 l x ih =>
    rw [sortS_snoc]
    exact (perm_insS x _).trans ((ih.cons x).trans (List.perm_append_singleton x l).symm)
theorem len_sortS (l : List α) : (sortS le l).length = l.length := (perm_sortS l).length_eq
theorem mrg_sortS (O : Ord le) (A B : List α) : mrg le (sortS le A) (sortS le B) = sortS le (A ++ B) := by
  induction B using snoc_ind with
  | h0 => rw [sortS_nil, mrg_nil_right, List.append_nil]
  | h1 B x ih => rw [sortS_snoc, mrg_insS O x _ _ _ (Nat.le_refl _), ih, ← List.append_assoc, sortS_snoc]
theorem len_mrg : ∀ (n : Nat) (A B : List α), A.length + B.length ≤ n → (mrg le A B).length = A.length + B.length
  | _, [], B, _ => by rw [mrg_nil_left]; simp
  | 0, a :: A, B, h => absurd h (by simp)
  | n + 1, a :: A, [], h => by rw [mrg_nil_right]; simp
  | n + 1, a :: A, b :: B, h => by
    cases ab : le a b with
    | true => rw [mrg_yes _ _ ab, List.length_cons, len_mrg n A (b :: B) (by simp at h ⊢; omega)]; simp; omega
    | false => rw [mrg_no _ _ ab, List.length_cons, len_mrg n (a :: A) B (by simp at h ⊢; omega)]; simp; omega

theorem insS_end (x y : α) (h : le y x = false) : ∀ S : List α, insS le x (S ++ [y]) = insS le x S ++ [y]
  | [] => by rw [List.nil_append, insS_no _ h]; rfl
  | z :: S => by
    rw [List.cons_append]
    cases e : le z x with
    | true => rw [insS_yes _ e, insS_yes _ e, insS_end x y h S]; rfl
    | false => rw [insS_no _ e, insS_no _ e]; rfl
theorem insS_all (x : α) : ∀ S : List α, (∀ z ∈ S, le z x = true) → insS le x S = S ++ [x]
  | [], _ => rfl
  | z :: S, h => by rw [insS_yes _ (h z (by simp)), insS_all x S fun w hw => h w (List.mem_cons_of_mem _ hw)]; rfl
/-! blocks -/
/-- cut into blocks of bs, each sorted -/
def cs (le : α → α → Bool) (bs : Nat) (L : List α) : List α :=
  if _h : 0 < bs ∧ bs < L.length then sortS le (L.take bs) ++ cs le bs (L.drop bs) else sortS le L
termination_by L.length
decreasing_by simp; omega
theorem cs_small (bs : Nat) (L : List α) (h : L.length ≤ bs) : cs le bs L = sortS le L := by rw [cs, dif_neg (by omega)]
theorem cs_app (bs : Nat) (h0 : 0 < bs) (A B : List α) (h : A.length = bs) : cs le bs (A ++ B) = sortS le A ++ cs le bs B := by
  by_cases hB : B = []
  · subst hB
    rw [List.append_nil, cs_small bs A (by omega), cs_small bs [] (by simp), sortS_nil, List.append_nil]
  · have : 0 < B.length := List.length_pos_iff.2 hB
    rw [cs, dif_pos ⟨h0, by simp; omega⟩, ← h, List.take_left, List.drop_left]
theorem len_cs (bs : Nat) (L : List α) : (cs le bs L).length = L.length := by
  induction L using cs.induct (bs := bs) with
  | case1 L h ih => rw [cs, dif_pos h, List.length_append, len_sortS, ih]; simp; omega
  | case2 L h => rw [cs, dif_neg h, len_sortS]
end
section
variable {α : Type} [Inhabited α]
/-! arrays -/
theorem arr_get (P R : List α) (u : α) (n : Nat) (h : P.length = n) : (P ++ u :: R).toArray[n]! = u := by
  subst h
  rw [getElem!_pos _ _ (by simp)]
  simp
theorem arr_get? (L : List α) (n : Nat) (h : n < L.length) : L.toArray[n]! = L[n] := by
  rw [getElem!_pos _ _ (by simpa using h)]
  simp
omit [Inhabited α] in
theorem arr_set (P R : List α) (u v : α) (n : Nat) (h : P.length = n) : (P ++ u :: R).toArray.setIfInBounds n v = (P ++ v :: R).toArray := by
  subst h
  apply Array.ext'
  simp
theorem arr_swp (P M Q : List α) (u v : α) (i j : Nat) (hi : P.length = i) (hj : P.length + 1 + M.length = j) :
    swp (P ++ u :: (M ++ v :: Q)).toArray i j = (P ++ v :: (M ++ u :: Q)).toArray := by
  unfold swp
  have e1 : (P ++ u :: (M ++ v :: Q)).toArray[j]! = v := by
    have : P ++ u :: (M ++ v :: Q) = (P ++ u :: M) ++ v :: Q := by simp
    rw [this]; exact arr_get _ _ _ _ (by simp; omega)
  rw [e1, arr_get _ _ _ _ hi, arr_set _ _ _ _ _ hi]
  have : P ++ v :: (M ++ v :: Q) = (P ++ v :: M) ++ v :: Q := by simp
  rw [this, arr_set _ _ _ _ _ (by simp; omega)]
  simp
theorem arr_swp' (P M Q : List α) (u v : α) (i j : Nat) (hi : P.length = i) (hj : P.length + 1 + M.length = j) :
    swp (P ++ u :: (M ++ v :: Q)).toArray j i = (P ++ v :: (M ++ u :: Q)).toArray := by
  unfold swp
  have e1 : (P ++ u :: (M ++ v :: Q)).toArray[j]! = v := by
    have : P ++ u :: (M ++ v :: Q) = (P ++ u :: M) ++ v :: Q := by simp
    rw [this]; exact arr_get _ _ _ _ (by simp; omega)
  rw [e1, arr_get _ _ _ _ hi]
  have : P ++ u :: (M ++ v :: Q) = (P ++ u :: M) ++ v :: Q := by simp
  rw [this, arr_set _ _ _ _ _ (by simp; omega)]
  have : (P ++ u :: M) ++ u :: Q = P ++ u :: (M ++ u :: Q) := by simp
  rw [this, arr_set _ _ _ _ _ hi]

variable {lt : α → α → Bool}
def leOf (lt : α → α → Bool) (x y : α) : Bool := !lt y x
theorem insInner_list (O : Ord (leOf lt)) (X : List α) (x : α) (a : Nat) (hX : X.length = a) : ∀ (S Y : List α), Srt (leOf lt) S →
    insInner lt a (a + S.length) (X ++ S ++ x :: Y).toArray = (X ++ insS (leOf lt) x S ++ Y).toArray := by
  intro S
  induction S using snoc_ind with
  | h0 =>
    intro Y _
    cases a with
    | zero => rw [show (0 : Nat) + ([] : List α).length = 0 from rfl, insInner]; simp [insS]
    | succ a => rw [show a + 1 + ([] : List α).length = a + 1 from rfl, insInner]; simp [insS]
  | h1 S y ih =>
    intro Y hS
    have e0 : a + (S ++ [y]).length = (a + S.length) + 1 := by simp; omega
    rw [e0, insInner]
    have e1 : X ++ (S ++ [y]) ++ x :: Y = (X ++ S ++ [y]) ++ x :: Y := by simp
    have e2 : X ++ (S ++ [y]) ++ x :: Y = (X ++ S) ++ y :: ([] ++ x :: Y) := by simp
    have g1 : (X ++ (S ++ [y]) ++ x :: Y).toArray[a + S.length + 1]! = x := by rw [e1]; exact arr_get _ _ _ _ (by simp; omega)
    have g2 : (X ++ (S ++ [y]) ++ x :: Y).toArray[a + S.length]! = y := by rw [e2]; exact arr_get _ _ _ _ (by simp; omega)
    rw [g1, g2]
    have hS' := List.pairwise_append.1 hS
    cases e : lt x y with
    | true =>
      have hle : leOf lt y x = false := by simp [leOf, e]
      rw [if_pos (by simp; omega), e2, arr_swp' _ _ _ _ _ (a + S.length) _ (by simp; omega) (by simp; omega)]
      have e3 : X ++ S ++ x :: ([] ++ y :: Y) = X ++ S ++ x :: (y :: Y) := by simp
      rw [e3, ih (y :: Y) hS'.1, insS_end _ _ hle]
      simp
    | false =>
      have hle : leOf lt y x = true := by simp [leOf, e]
      rw [if_neg (by simp), insS_all x (S ++ [y]) fun z hz => ?_]
      · simp
      · rcases List.mem_append.1 hz with hz | hz
        · exact O.trans _ _ _ (hS'.2.2 z hz y (by simp)) hle
        · rw [List.mem_singleton.1 hz]; exact hle
theorem insOuter_list (O : Ord (leOf lt)) (X Y : List α) (a b : Nat) (hX : X.length = a) : ∀ (A2 A1 : List α) (i : Nat), a + A1.length = i → i + A2.length = b →
    insOuter lt a b i (X ++ sortS (leOf lt) A1 ++ (A2 ++ Y)).toArray = (X ++ sortS (leOf lt) (A1 ++ A2) ++ Y).toArray
  | [], A1, i, h1, h2 => by
    rw [insOuter, if_neg (by simp at h2; omega)]
    simp
  | x :: A2, A1, i, h1, h2 => by
    rw [insOuter, if_pos (by simp at h2; omega)]
    have e : i = a + (sortS (leOf lt) A1).length := by rw [len_sortS]; omega
    have e2 : X ++ sortS (leOf lt) A1 ++ (x :: A2 ++ Y) = X ++ sortS (leOf lt) A1 ++ x :: (A2 ++ Y) := by simp
    rw [e2]
    conv => lhs; arg 5; rw [e]
    rw [insInner_list O X x a hX _ _ (srt_sortS O A1), ← sortS_snoc]
    rw [insOuter_list O X Y a b hX A2 (A1 ++ [x]) (i + 1) (by simp; omega) (by simp at h2; omega)]
    simp
theorem insertionSort_list (O : Ord (leOf lt)) (X A Y : List α) (a b : Nat) (hX : X.length = a) (hb : a + A.length = b) :
    insertionSort lt (X ++ A ++ Y).toArray a b = (X ++ sortS (leOf lt) A ++ Y).toArray := by
  unfold insertionSort
  cases A with
  | nil =>
    rw [insOuter, if_neg (by simp at hb; omega)]
    simp [sortS]
  | cons x A =>
    have := insOuter_list O X Y a b hX A [x] (a + 1) (by simp) (by simp at hb; omega)
    rw [sortS_one] at this
    have e : X ++ (x :: A) ++ Y = X ++ [x] ++ (A ++ Y) := by simp
    rw [e, this]
    simp
end
end Go.Proofs.YtcoiapgfaibkgabGreat

/-
  Proved here: mathematics of a stable sort on lists (no program): merging two lists goes in two halves; merging what was sorted is sorting both; the sort by insertion on an array is the sort by insertion on a list; blocks that are sorted and merged by twos.
  Proved here: mathematics of a stable sort (no program): what an exchange of two ranges leaves, place by place; what a turn is.
  Proved here: slices.swapRangeCmpFunc and slices.rotateCmpFunc at int.
  Proved here: mathematics of a stable sort (no program): one thing merged into a list; two sorted lists parted at two places; what stands where in an array of four lists.
-/
import Derived.Sort.Defs
import Derived.Shelf.SlSortCmp.Kit1
import Derived.Sort.WalkA
import Derived.Sort.WalkB2
import Derived.Sort.WalkB12
import Derived.Deep.LoopGhost
import Derived.Test.YthdpomgpcblpeaaGreatProg
namespace Go.Proofs.YthdpomgpcblpeaaGreat
open Go.Sort
section
variable {α : Type}

theorem snoc_ind {C : List α → Prop} (h0 : C []) (h1 : ∀ l x, C l → C (l ++ [x])) (l : List α) : C l := by
  have : ∀ r : List α, C r.reverse := by
    intro r
    induction r with
    | nil => exact h0
    | cons x r ih => rw [List.reverse_cons]; exact h1 _ _ ih
  rw [← List.reverse_reverse l]
  exact this _
/-- x put behind all that are not above it. -/
def insS (le : α → α → Bool) (x : α) : List α → List α
  | [] => [x]
  | y :: l => if le y x then y :: insS le x l else x :: y :: l
def sortS (le : α → α → Bool) (l : List α) : List α := l.foldl (fun s x => insS le x s) []
def mrg (le : α → α → Bool) : List α → List α → List α
  | [], b => b
  | x :: a, [] => x :: a
  | x :: a, y :: b => if le x y then x :: mrg le a (y :: b) else y :: mrg le (x :: a) b
termination_by a b => a.length + b.length
structure Ord (le : α → α → Bool) : Prop where
  total : ∀ x y, le x y = true ∨ le y x = true
  trans : ∀ x y z, le x y = true → le y z = true → le x z = true
def Srt (le : α → α → Bool) (l : List α) : Prop := l.Pairwise fun x y => le x y = true

variable {le : α → α → Bool}
theorem mrg_nil_left (b : List α) : mrg le [] b = b := by rw [mrg]
theorem mrg_nil_right (a : List α) : mrg le a [] = a := by cases a <;> rw [mrg]
theorem mrg_yes {x y : α} (a b : List α) (h : le x y = true) : mrg le (x :: a) (y :: b) = x :: mrg le a (y :: b) := by rw [mrg, if_pos h]
theorem mrg_no {x y : α} (a b : List α) (h : le x y = false) : mrg le (x :: a) (y :: b) = y :: mrg le (x :: a) b := by rw [mrg, if_neg (by simp [h])]

theorem mrg_split : ∀ (n : Nat) (A1 A2 B1 B2 : List α), A1.length + B1.length ≤ n → (∀ x ∈ A1, ∀ y ∈ B2, le x y = true) → (∀ x ∈ A2, ∀ y ∈ B1, le x y = false) →
    mrg le (A1 ++ A2) (B1 ++ B2) = mrg le A1 B1 ++ mrg le A2 B2
  | n, [], A2, [], B2, _, _, _ => by simp [mrg_nil_left]
  | 0, x :: A1, A2, B1, B2, hn, _, _ => absurd hn (by simp)
  | 0, [], A2, y :: B1, B2, hn, _, _ => absurd hn (by simp)
  | n + 1, [], A2, y :: B1, B2, hn, h1, h2 => by
    rw [mrg_nil_left]
    have ih := mrg_split n [] A2 B1 B2 (by simpa using hn) h1 (fun x hx z hz => h2 x hx z (List.mem_cons_of_mem _ hz))
    rw [mrg_nil_left] at ih
    cases A2 with
    | nil => simp [mrg_nil_left]
    | cons x A2 =>
      simp only [List.nil_append, List.cons_append] at ih ⊢
      rw [mrg_no _ _ (h2 x (by simp) y (by simp)), ih]
  | n + 1, x :: A1, A2, [], B2, hn, h1, h2 => by
    rw [mrg_nil_right]
    have ih := mrg_split n A1 A2 [] B2 (by simpa using hn) (fun z hz y hy => h1 z (List.mem_cons_of_mem _ hz) y hy) h2
    rw [mrg_nil_right] at ih
    cases B2 with
    | nil => simp [mrg_nil_right]
    | cons y B2 =>
      simp only [List.nil_append, List.cons_append] at ih ⊢
      rw [mrg_yes _ _ (h1 x (by simp) y (by simp)), ih]
  | n + 1, x :: A1, A2, y :: B1, B2, hn, h1, h2 => by
    simp only [List.cons_append]
    cases hxy : le x y with
    | true =>
      rw [mrg_yes _ _ hxy, mrg_yes _ _ hxy]
      have ih := mrg_split n A1 A2 (y :: B1) B2 (by simp at hn ⊢; omega) (fun z hz w hw => h1 z (List.mem_cons_of_mem _ hz) w hw) h2
      simp only [List.cons_append] at ih ⊢
      rw [ih]
    | false =>
      rw [mrg_no _ _ hxy, mrg_no _ _ hxy]
      have ih := mrg_split n (x :: A1) A2 B1 B2 (by simp at hn ⊢; omega) h1 (fun z hz w hw => h2 z hz w (List.mem_cons_of_mem _ hw))
      simp only [List.cons_append] at ih ⊢
      rw [ih]

theorem insS_yes {x y : α} (l : List α) (h : le y x = true) : insS le x (y :: l) = y :: insS le x l := by rw [insS, if_pos h]
theorem insS_no {x y : α} (l : List α) (h : le y x = false) : insS le x (y :: l) = x :: y :: l := by rw [insS, if_neg (by simp [h])]
theorem len_insS (x : α) : ∀ l : List α, (insS le x l).length = l.length + 1
  | [] => rfl
  | y :: l => by
    cases h : le y x with
    | true => rw [insS_yes _ h, List.length_cons, len_insS x l, List.length_cons]
    | false => rw [insS_no _ h]; simp
theorem perm_insS (x : α) : ∀ l : List α, (insS le x l).Perm (x :: l)
  | [] => List.Perm.refl _
  | y :: l => by
    cases h : le y x with
    | true => rw [insS_yes _ h]; exact ((perm_insS x l).cons y).trans (List.Perm.swap _ _ _)
    | false => rw [insS_no _ h]
theorem mem_insS (x z : α) (l : List α) : z ∈ insS le x l ↔ z = x ∨ z ∈ l := by rw [(perm_insS x l).mem_iff, List.mem_cons]
theorem srt_insS (O : Ord le) (x : α) : ∀ {l : List α}, Srt le l → Srt le (insS le x l)
  | [], _ => by simp [insS, Srt]
  | y :: l, h => by
    have h' := List.pairwise_cons.1 h
    cases e : le y x with
    | true =>
      rw [insS_yes _ e]
      refine List.pairwise_cons.2 ⟨fun z hz => ?_, srt_insS O x h'.2⟩
      rcases (mem_insS x z l).1 hz with rfl | hz
      · exact e
      · exact h'.1 z hz
    | false =>
      rw [insS_no _ e]
      have hxy : le x y = true := by rcases O.total x y with h | h; exact h; rw [e] at h; exact absurd h (by simp)
      refine List.pairwise_cons.2 ⟨fun z hz => ?_, h⟩
      rcases List.mem_cons.1 hz with rfl | hz
      · exact hxy
      · exact O.trans _ _ _ hxy (h'.1 z hz)

theorem mrg_insS (O : Ord le) (x : α) : ∀ (n : Nat) (A B : List α), A.length + B.length ≤ n → mrg le A (insS le x B) = insS le x (mrg le A B)
  | _, [], B, _ => by rw [mrg_nil_left, mrg_nil_left]
  | 0, a :: A, B, h => absurd h (by simp)
  | n + 1, a :: A, [], h => by
    have ih := mrg_insS O x n A [] (by simpa using h)
    rw [mrg_nil_right] at ih ⊢
    simp only [insS] at ih ⊢
    cases e : le a x with
    | true => rw [mrg_yes _ _ e, ih, if_pos rfl]
    | false => rw [mrg_no _ _ e, mrg_nil_right, if_neg (by simp)]
  | n + 1, a :: A, b :: B, h => by
    cases e : le b x with
    | true =>
      rw [insS_yes _ e]
      cases ab : le a b with
      | true =>
        rw [mrg_yes _ _ ab, mrg_yes _ _ ab, ← insS_yes _ e, mrg_insS O x n A (b :: B) (by simp at h ⊢; omega), insS_yes _ (O.trans _ _ _ ab e)]
      | false =>
        rw [mrg_no _ _ ab, mrg_no _ _ ab, mrg_insS O x n (a :: A) B (by simp at h ⊢; omega), insS_yes _ e]
    | false =>
      rw [insS_no _ e]
      cases ax : le a x with
      | true =>
        have ab : le a b = true := by
          rcases O.total a b with h | h
          · exact h
          · have := O.trans _ _ _ h ax
            rw [e] at this
            exact absurd this (by simp)
        have ih := mrg_insS O x n A (b :: B) (by simp at h ⊢; omega)
        rw [insS_no _ e] at ih
        rw [mrg_yes _ _ ax, ih, mrg_yes _ _ ab, insS_yes _ ax]
      | false =>
        rw [mrg_no _ _ ax]
        cases ab : le a b with
        | true => rw [mrg_yes _ _ ab, insS_no _ ax]
        | false => rw [mrg_no _ _ ab, insS_no _ e]

theorem sortS_nil : sortS le ([] : List α) = [] := rfl
theorem sortS_one (x : α) : sortS le [x] = [x] := rfl
theorem sortS_snoc (l : List α) (x : α) : sortS le (l ++ [x]) = insS le x (sortS le l) := by simp [sortS]
theorem srt_sortS (O : Ord le) (l : List α) : Srt le (sortS le l) := by
  induction l using snoc_ind with
  | h0 => exact List.Pairwise.nil
  | h1 l x ih => rw [sortS_snoc]; exact srt_insS O x ih
theorem perm_sortS (l : List α) : (sortS le l).Perm l := by
  induction l using snoc_ind with
  | h0 => exact List.Perm.refl _
  | h1 l x ih =>
    rw [sortS_snoc]
    exact (perm_insS x _).trans ((ih.cons x).trans (List.perm_append_singleton x l).symm)
theorem len_sortS (l : List α) : (sortS le l).length = l.length := (perm_sortS l).length_eq
theorem mrg_sortS (O : Ord le) (A B : List α) : mrg le (sortS le A) (sortS le B) = sortS le (A ++ B) := by
  induction B using snoc_ind with
  | h0 => rw [sortS_nil, mrg_nil_right, List.append_nil]
  | h1 B x ih => rw [sortS_snoc, mrg_insS O x _ _ _ (Nat.le_refl _), ih, ← List.append_assoc, sortS_snoc]
theorem len_mrg : ∀ (n : Nat) (A B : List α), A.length + B.length ≤ n → (mrg le A B).length = A.length + B.length
  | _, [], B, _ => by rw [mrg_nil_left]; simp
  | 0, a :: A, B, h => absurd h (by simp)
  | n + 1, a :: A, [], h => by rw [mrg_nil_right]; simp
  | n + 1, a :: A, b :: B, h => by
    cases ab : le a b with
    | true => rw [mrg_yes _ _ ab, List.length_cons, len_mrg n A (b :: B) (by simp at h ⊢; omega)]; simp; omega
    | false => rw [mrg_no _ _ ab, List.length_cons, len_mrg n (a :: A) B (by simp at h ⊢; omega)]; simp; omega

theorem insS_end (x y : α) (h : le y x = false) : ∀ S : List α, insS le x (S ++ [y]) = insS le x S ++ [y]
  | [] => by rw [List.nil_append, insS_no _ h]; rfl
  | z :: S => by
    rw [List.cons_append]
    cases e : le z x with
    | true => rw [insS_yes _ e, insS_yes _ e, insS_end x y h S]; rfl
    | false => rw [insS_no _ e, insS_no _ e]; rfl
theorem insS_all (x : α) : ∀ S : List α, (∀ z ∈ S, le z x = true) → insS le x S = S ++ [x]
  | [], _ => rfl
  | z :: S, h => by rw [insS_yes _ (h z (by simp)), insS_all x S fun w hw => h w (List.mem_cons_of_mem _ hw)]; rfl
/-! blocks -/
/-- cut into blocks of bs, each sorted -/
def cs (le : α → α → Bool) (bs : Nat) (L : List α) : List α :=
  if _h : 0 < bs ∧ bs < L.length then sortS le (L.take bs) ++ cs le bs (L.drop bs) else sortS le L
termination_by L.length
decreasing_by simp; omega
theorem cs_small (bs : Nat) (L : List α) (h : L.length ≤ bs) : cs le bs L = sortS le L := by rw [cs, dif_neg (by omega)]
theorem cs_app (bs : Nat) (h0 : 0 < bs) (A B : List α) (h : A.length = bs) : cs le bs (A ++ B) = sortS le A ++ cs le bs B := by
  by_cases hB : B = []
  · subst hB
    rw [List.append_nil, cs_small bs A (by omega), cs_small bs [] (by simp), sortS_nil, List.append_nil]
  · have : 0 < B.length := List.length_pos_iff.2 hB
    rw [cs, dif_pos ⟨h0, by simp; omega⟩, ← h, List.take_left, List.drop_left]
theorem len_cs (bs : Nat) (L : List α) : (cs le bs L).length = L.length := by
  induction L using cs.induct (bs := bs) with
  | case1 L h ih => rw [cs, dif_pos h, List.length_append, len_sortS, ih]; simp; omega
  | case2 L h => rw [cs, dif_neg h, len_sortS]
end
section
variable {α : Type} [Inhabited α]
/-! arrays -/
theorem arr_get (P R : List α) (u : α) (n : Nat) (h : P.length = n) : (P ++ u :: R).toArray[n]! = u := by
  subst h
  rw [getElem!_pos _ _ (by simp)]
  simp
theorem arr_get? (L : List α) (n : Nat) (h : n < L.length) : L.toArray[n]! = L[n] := by
  rw [getElem!_pos _ _ (by simpa using h)]
  simp
omit [Inhabited α] in
theorem arr_set (P R : List α) (u v : α) (n : Nat) (h : P.length = n) : (P ++ u :: R).toArray.setIfInBounds n v = (P ++ v :: R).toArray := by
  subst h
  apply Array.ext'
  simp
theorem arr_swp (P M Q : List α) (u v : α) (i j : Nat) (hi : P.length = i) (hj : P.length + 1 + M.length = j) :
    swp (P ++ u :: (M ++ v :: Q)).toArray i j = (P ++ v :: (M ++ u :: Q)).toArray := by
  unfold swp
  have e1 : (P ++ u :: (M ++ v :: Q)).toArray[j]! = v := by
    have : P ++ u :: (M ++ v :: Q) = (P ++ u :: M) ++ v :: Q := by simp
    rw [this]; exact arr_get _ _ _ _ (by simp; omega)
  rw [e1, arr_get _ _ _ _ hi, arr_set _ _ _ _ _ hi]
  have : P ++ v :: (M ++ v :: Q) = (P ++ v :: M) ++ v :: Q := by simp
  rw [this, arr_set _ _ _ _ _ (by simp; omega)]
  simp
theorem arr_swp' (P M Q : List α) (u v : α) (i j : Nat) (hi : P.length = i) (hj : P.length + 1 + M.length = j) :
    swp (P ++ u :: (M ++ v :: Q)).toArray j i = (P ++ v :: (M ++ u :: Q)).toArray := by
  unfold swp
  have e1 : (P ++ u :: (M ++ v :: Q)).toArray[j]! = v := by
    have : P ++ u :: (M ++ v :: Q) = (P ++ u :: M) ++ v :: Q := by simp
    rw [this]; exact arr_get _ _ _ _ (by simp; omega)
  rw [e1, arr_get _ _ _ _ hi]
  have : P ++ u :: (M ++ v :: Q) = (P ++ u :: M) ++ v :: Q := by simp
  rw [this, arr_set _ _ _ _ _ (by simp; omega)]
  have : (P ++ u :: M) ++ u :: Q = P ++ u :: (M ++ u :: Q) := by simp
  rw [this, arr_set _ _ _ _ _ hi]

variable {lt : α → α → Bool}
def leOf (lt : α → α → Bool) (x y : α) : Bool := !lt y x
theorem insInner_list (O : Ord (leOf lt)) (X : List α) (x : α) (a : Nat) (hX : X.length = a) : ∀ (S Y : List α), Srt (leOf lt) S →
    insInner lt a (a + S.length) (X ++ S ++ x :: Y).toArray = (X ++ insS (leOf lt) x S ++ Y).toArray := by
  intro S
  induction S using snoc_ind with
  | h0 =>
    intro Y _
    cases a with
    | zero => rw [show (0 : Nat) + ([] : List α).length = 0 from rfl, insInner]; simp [insS]
    | succ a => rw [show a + 1 + ([] : List α).length = a + 1 from rfl, insInner]; simp [insS]
  | h1 S y ih =>
    intro Y hS
    have e0 : a + (S ++ [y]).length = (a + S.length) + 1 := by simp; omega
    rw [e0, insInner]
    have e1 : X ++ (S ++ [y]) ++ x :: Y = (X ++ S ++ [y]) ++ x :: Y := by simp
    have e2 : X ++ (S ++ [y]) ++ x :: Y = (X ++ S) ++ y :: ([] ++ x :: Y) := by simp
    have g1 : (X ++ (S ++ [y]) ++ x :: Y).toArray[a + S.length + 1]! = x := by rw [e1]; exact arr_get _ _ _ _ (by simp; omega)
    have g2 : (X ++ (S ++ [y]) ++ x :: Y).toArray[a + S.length]! = y := by rw [e2]; exact arr_get _ _ _ _ (by simp; omega)
    rw [g1, g2]
    have hS' := List.pairwise_append.1 hS
    cases e : lt x y with
    | true =>
      have hle : leOf lt y x = false := by simp [leOf, e]
      rw [if_pos (by simp; omega), e2, arr_swp' _ _ _ _ _ (a + S.length) _ (by simp; omega) (by simp; omega)]
      have e3 : X ++ S ++ x :: ([] ++ y :: Y) = X ++ S ++ x :: (y :: Y) := by simp
      rw [e3, ih (y :: Y) hS'.1, insS_end _ _ hle]
      simp
    | false =>
      have hle : leOf lt y x = true := by simp [leOf, e]
      rw [if_neg (by simp), insS_all x (S ++ [y]) fun z hz => ?_]
      · simp
      · rcases List.mem_append.1 hz with hz | hz
        · exact O.trans _ _ _ (hS'.2.2 z hz y (by simp)) hle
        · rw [List.mem_singleton.1 hz]; exact hle
theorem insOuter_list (O : Ord (leOf lt)) (X Y : List α) (a b : Nat) (hX : X.length = a) : ∀ (A2 A1 : List α) (i : Nat), a + A1.length = i → i + A2.length = b →
    insOuter lt a b i (X ++ sortS (leOf lt) A1 ++ (A2 ++ Y)).toArray = (X ++ sortS (leOf lt) (A1 ++ A2) ++ Y).toArray
  | [], A1, i, h1, h2 => by
    rw [insOuter, if_neg (by simp at h2; omega)]
    simp
  | x :: A2, A1, i, h1, h2 => by
    rw [insOuter, if_pos (by simp at h2; omega)]
    have e : i = a + (sortS (leOf lt) A1).length := by rw [len_sortS]; omega
    have e2 : X ++ sortS (leOf lt) A1 ++ (x :: A2 ++ Y) = X ++ sortS (leOf lt) A1 ++ x :: (A2 ++ Y) := by simp
    rw [e2]
    conv => lhs; arg 5; rw [e]
    rw [insInner_list O X x a hX _ _ (srt_sortS O A1), ← sortS_snoc]
    rw [insOuter_list O X Y a b hX A2 (A1 ++ [x]) (i + 1) (by simp; omega) (by simp at h2; omega)]
    simp
theorem insertionSort_list (O : Ord (leOf lt)) (X A Y : List α) (a b : Nat) (hX : X.length = a) (hb : a + A.length = b) :
    insertionSort lt (X ++ A ++ Y).toArray a b = (X ++ sortS (leOf lt) A ++ Y).toArray := by
  unfold insertionSort
  cases A with
  | nil =>
    rw [insOuter, if_neg (by simp at hb; omega)]
    simp [sortS]
  | cons x A =>
    have := insOuter_list O X Y a b hX A [x] (a + 1) (by simp) (by simp at hb; omega)
    rw [sortS_one] at this
    have e : X ++ (x :: A) ++ Y = X ++ [x] ++ (A ++ Y) := by simp
    rw [e, this]
    simp
end
end Go.Proofs.YthdpomgpcblpeaaGreat

namespace Go.Proofs.YthdpomgpcblpeaaGreat
open Go.Sort
section
variable {α : Type}
/-- two ranges, exchanged up to place i -/
def swrA (P U M V Q : List α) (i : Nat) : Array α := (P ++ V.take i ++ U.drop i ++ M ++ U.take i ++ V.drop i ++ Q).toArray
theorem swrA_zero (P U M V Q : List α) : (P ++ U ++ M ++ V ++ Q).toArray = swrA P U M V Q 0 := by simp [swrA]
theorem swrA_end (P U M V Q : List α) (k : Nat) (hU : U.length = k) (hV : V.length = k) : swrA P U M V Q k = (P ++ V ++ M ++ U ++ Q).toArray := by
  unfold swrA
  rw [List.take_of_length_le (by omega), List.drop_of_length_le (l := U) (by omega), List.take_of_length_le (l := U) (by omega), List.drop_of_length_le (l := V) (by omega)]
  simp
theorem swrA_size (P U M V Q : List α) (k n : Nat) (hU : U.length = k) (hV : V.length = k) (hn : (P ++ U ++ M ++ V ++ Q).length = n) (i : Nat) : (swrA P U M V Q i).size = n := by
  simp only [swrA, List.size_toArray, List.length_append, List.length_take, List.length_drop] at hn ⊢
  omega
theorem drop_head {l : List α} {i : Nat} (h : i < l.length) : ∃ x, l.drop i = x :: l.drop (i + 1) ∧ l.take (i + 1) = l.take i ++ [x] :=
  ⟨l[i], List.drop_eq_getElem_cons h, by rw [List.take_add_one, List.getElem?_eq_getElem h]; rfl⟩
end
section
variable {α : Type} [Inhabited α]
theorem swrA_next (P U M V Q : List α) (k a b : Nat) (hP : P.length = a) (hU : U.length = k) (hV : V.length = k) (hM : a + k + M.length = b) (i : Nat) (hi : i < k) :
    swp (swrA P U M V Q i) (a + i) (b + i) = swrA P U M V Q (i + 1) := by
  obtain ⟨u, hu1, hu2⟩ := drop_head (l := U) (i := i) (by omega)
  obtain ⟨v, hv1, hv2⟩ := drop_head (l := V) (i := i) (by omega)
  unfold swrA
  rw [hu1, hv1, hu2, hv2]
  have e : P ++ V.take i ++ u :: U.drop (i + 1) ++ M ++ U.take i ++ v :: V.drop (i + 1) ++ Q = (P ++ V.take i) ++ u :: ((U.drop (i + 1) ++ M ++ U.take i) ++ v :: (V.drop (i + 1) ++ Q)) := by simp
  rw [e, arr_swp _ _ _ _ _ (a + i) (b + i) (by simp; omega) (by simp; omega)]
  simp
end
end Go.Proofs.YthdpomgpcblpeaaGreat

namespace Go.Proofs.YthdpomgpcblpeaaGreat
open Go.Shelf Go.RowKit Go.Lib Go.Sort
variable {α : Type} [Inhabited α] {enc : α → Value}

/-- a turn under way -/
def RotSI (enc : α → Value) (w0 : World) (blk off n m b : Nat) (lE : List α) (i j : Nat) (W : World) : Prop :=
  ∃ P U V Q : List α, (P ++ U ++ V ++ Q).length = n ∧ P.length + i = m ∧ U.length = i ∧ m + j ≤ b ∧ V.length = j ∧ 0 < i ∧ 0 < j ∧ P ++ V ++ U ++ Q = lE ∧ SW enc w0 blk off (P ++ U ++ V ++ Q).toArray W

set_option maxHeartbeats 4000000 in
set_option maxRecDepth 1000000 in
theorem swrI (fv : Value) (blk off cap n a b k : Nat) (P U M V Q : List α) (d0 : Array α) (w0 w : World) (R : Row1 enc w0 blk off d0) (hs0 : d0.size = n)
    (hn : (P ++ U ++ M ++ V ++ Q).length = n) (hP : P.length = a) (hU : U.length = k) (hV : V.length = k) (hM : a + k + M.length = b) (hsz : n < 4611686018427387904) (S : SW enc w0 blk off (P ++ U ++ M ++ V ++ Q).toArray w) :
    Calls Tryz.prog 128 #[.slice (some ⟨blk, off, none⟩) n cap, .int .i64 a, .int .i64 b, .int .i64 k, fv] w fun e w' => e = .returned (.tuple #[]) ∧ SW enc w0 blk off (P ++ V ++ M ++ U ++ Q).toArray w' := by
  have hbk : b + k ≤ n := by simp only [List.length_append] at hn; omega
  have hab : a + k ≤ b := by omega
  have S0 : Aside (SW enc w0 blk off (swrA P U M V Q 0) w) := swrA_zero P U M V Q ▸ S
  obtain ⟨dE, hdE⟩ : ∃ d, d = (P ++ V ++ M ++ U ++ Q).toArray := ⟨_, rfl⟩
  rw [← hdE]
  have HE : Aside (swrA P U M V Q k = dE) := (swrA_end P U M V Q k hU hV).trans hdE.symm
  clear hdE
  have HZ : Aside (∀ i, (swrA P U M V Q i).size = n) := fun i => swrA_size P U M V Q k n hU hV hn i
  have HX : Aside (∀ i, i < k → Sort.swp (swrA P U M V Q i) (a + i) (b + i) = swrA P U M V Q (i + 1)) := fun i hi => swrA_next P U M V Q k a b hP hU hV hM i hi
  clear S hM hU hV hP hn
  have mixed : Tryz.prog.follows .mixedOrders = true := by kernel_rfl
  have hcl0 := R.hO.cells
  simp only [Value.cells] at hcl0
  have hst := R.hO.store Tryz.prog
  go_enter Tryz.func128, Tryz.ntmps128
  go_wp2
  go_loopg [10] k (fun g1 vi wr => ∃ i : Nat, vi = .int .i64 i ∧ i ≤ k ∧ k - i ≤ g1 ∧ Aside (SW enc w0 blk off (swrA P U M V Q i) wr))
  case atStart => exact ⟨0, rfl, Nat.zero_le _, by omega, S0⟩
  case round =>
    clear S0
    obtain ⟨i, rfl, hik, hg1, S1⟩ := hrel
    by_cases hlt : i < k
    · have hltz : (i : Int) < (k : Int) := by omega
      have hsz1 := HZ.out i
      go_wp2
      obtain ⟨aNk1, haNk1⟩ : ∃ q, q = a + i := ⟨_, rfl⟩
      have eak1 : ((a : Int) + (i : Int)).toNat = aNk1 := by omega
      have pak1 : (0 : Int) ≤ (a : Int) + (i : Int) := by omega
      have bak1 : (a : Int) + (i : Int) < (n : Int) := by omega
      have rak1 : IntKind.i64.wrap ((a : Int) + (i : Int)) = (a : Int) + (i : Int) := by rw [IntKind.wrap_i64]; omega
      obtain ⟨cNk1, hcNk1⟩ : ∃ q, q = b + i := ⟨_, rfl⟩
      have eck1 : ((b : Int) + (i : Int)).toNat = cNk1 := by omega
      have pck1 : (0 : Int) ≤ (b : Int) + (i : Int) := by omega
      have bck1 : (b : Int) + (i : Int) < (n : Int) := by omega
      have rck1 : IntKind.i64.wrap ((b : Int) + (i : Int)) = (b : Int) + (i : Int) := by rw [IntKind.wrap_i64]; omega
      obtain ⟨xk1, hxk1⟩ : ∃ xx, xx = (swrA P U M V Q i)[a + i]! := ⟨_, rfl⟩
      obtain ⟨yk1, hyk1⟩ : ∃ xx, xx = (swrA P U M V Q i)[b + i]! := ⟨_, rfl⟩
      have S3 : Aside (SW enc w0 blk off (Sort.swp (swrA P U M V Q i) (a + i) (b + i)) ((wr.setCell ⟨blk, off + aNk1, none⟩ (enc yk1)).setCell ⟨blk, off + cNk1, none⟩ (enc xk1)).drew) := by rw [haNk1, hcNk1, hxk1, hyk1]; exact S1.out.swapped R (a + i) (b + i) (by rw [hsz1]; omega) (by rw [hsz1]; omega)
      have cak1 := S1.out.c1 R (by rw [hsz1]; omega) (a + i) (by rw [hsz1]; omega)
      have cck1 := S1.out.c1 R (by rw [hsz1]; omega) (b + i) (by rw [hsz1]; omega)
      have fak1 := S1.out.f1 R (by rw [hsz1]; omega) (a + i) (by rw [hsz1]; omega)
      have fck1 := S1.out.f1 R (by rw [hsz1]; omega) (b + i) (by rw [hsz1]; omega)
      obtain ⟨uk1, cdk1⟩ := S1.out.c2 R (by rw [hsz1]; omega) (a + i) (b + i) (by rw [hsz1]; omega) (by rw [hsz1]; omega) (enc yk1)
      rw [← hcNk1, ← haNk1] at cdk1
      rw [← hxk1, ← haNk1] at cak1
      rw [← hyk1, ← hcNk1] at cck1
      rw [← haNk1] at fak1
      rw [← hcNk1] at fck1
      clear S1 hxk1 hyk1 haNk1 hcNk1
      go_wp2_with fail
      go_big_region_o
      clear cak1 cck1 cdk1 fak1 fck1
      generalize ((wr.setCell ⟨blk, off + aNk1, none⟩ (enc yk1)).setCell ⟨blk, off + cNk1, none⟩ (enc xk1)).drew = w3 at S3 ⊢
      clear eak1 eck1
      go_wp2
      go_roundg (k - (i + 1))
      case measure => omega
      case rel => exact ⟨i + 1, by go_num, by omega, by omega, by rw [← HX.out i hlt]; exact S3⟩
    · have hltz : ¬ (i : Int) < (k : Int) := by omega
      have hik2 : i = k := by omega
      subst hik2
      go_wp2
      go_end0
      exact ⟨rfl, by rw [← HE.out]; exact S1.out⟩

set_option maxHeartbeats 4000000 in
set_option maxRecDepth 1000000 in
theorem rotI (fv : Value) (blk off cap n a m b : Nat) (P U V Q : List α) (d0 : Array α) (w0 w : World) (R : Row1 enc w0 blk off d0) (hs0 : d0.size = n)
    (hn : (P ++ U ++ V ++ Q).length = n) (hP : P.length = a) (hU : a + U.length = m) (hV : m + V.length = b) (hU0 : 0 < U.length) (hV0 : 0 < V.length) (hsz : n < 4611686018427387904) (S : SW enc w0 blk off (P ++ U ++ V ++ Q).toArray w) :
    Calls Tryz.prog 125 #[.slice (some ⟨blk, off, none⟩) n cap, .int .i64 a, .int .i64 m, .int .i64 b, fv] w fun e w' => e = .returned (.tuple #[]) ∧ SW enc w0 blk off (P ++ V ++ U ++ Q).toArray w' := by
  obtain ⟨lE, hlE⟩ : ∃ l, l = P ++ V ++ U ++ Q := ⟨_, rfl⟩
  obtain ⟨dE, hdE⟩ : ∃ d, d = (P ++ V ++ U ++ Q).toArray := ⟨_, rfl⟩
  rw [← hdE]
  have HD : Aside (dE = lE.toArray) := by show _ = _; rw [hdE, hlE]
  have S0 : Aside (RotSI enc w0 blk off n m b lE U.length V.length w) := ⟨P, U, V, Q, hn, by omega, rfl, by omega, rfl, hU0, hV0, hlE.symm, S⟩
  obtain ⟨i0, hi0⟩ : ∃ i, i = U.length := ⟨_, rfl⟩
  obtain ⟨j0, hj0⟩ : ∃ i, i = V.length := ⟨_, rfl⟩
  rw [← hi0, ← hj0] at S0
  have hmn : b ≤ n := by simp only [List.length_append] at hn; omega
  have ei : (m : Int) - (a : Int) = (i0 : Int) := by omega
  have ej : (b : Int) - (m : Int) = (j0 : Int) := by omega
  have hi1 : 0 < i0 := by omega
  have hj1 : 0 < j0 := by omega
  clear S hdE hlE hP hU hV hU0 hV0 hi0 hj0 hn
  have mixed : Tryz.prog.follows .mixedOrders = true := by kernel_rfl
  have hcl0 := R.hO.cells
  simp only [Value.cells] at hcl0
  have hst := R.hO.store Tryz.prog
  go_enter Tryz.func125, Tryz.ntmps125
  go_wp2
  go_loopg [10, 11] (i0 + j0) (fun g1 vi vj wr => ∃ i j : Nat, vi = .int .i64 i ∧ vj = .int .i64 j ∧ i + j ≤ g1 ∧ Aside (RotSI enc w0 blk off n m b lE i j wr))
  case atStart => exact ⟨i0, j0, rfl, rfl, Nat.le_refl _, S0⟩
  case round =>
    clear S0 ei ej hi1 hj1
    obtain ⟨i, j, rfl, rfl, hg1, S1⟩ := hrel
    have S1' := S1.out
    obtain ⟨P, U, V, Q, hn, hPi, hUi, hj, hVj, hi0, hj0, hl, SS⟩ := S1'
    obtain ⟨p, hp⟩ : ∃ q, q = P.length := ⟨_, rfl⟩
    rw [← hp] at hPi
    have emi : (m : Int) - (i : Int) = (p : Int) := by omega
    have wmi : IntKind.i64.wrap (p : Int) = (p : Int) := by rw [IntKind.wrap_i64]; omega
    clear S1
    by_cases hne : i = j
    · subst hne
      have c1 := swrI fv blk off cap n p m i P U [] V Q d0 w0 wr R hs0 (by simpa using hn) hp.symm hUi hVj (by simp; omega) hsz (by simpa using SS)
      have HC1 : Aside _ := c1
      have HL : Aside ((P ++ V ++ [] ++ U ++ Q) = lE) := by show _ = _; rw [← hl]; simp
      clear c1 SS hl hn hUi hVj hp
      go_wp2_with (go_at_call 128; refine Calls.mono HC1.out ?_; rintro e w' ⟨rfl, S2⟩)
      go_end0
      exact ⟨rfl, by rw [HD.out, ← HL.out]; exact S2⟩
    · have hnez : ((i : Int) != (j : Int)) = true := by simp; omega
      have hned : decide ((i : Int) = (j : Int)) = false := decide_eq_false (by omega)
      by_cases hgt : j < i
      · have hgtz : decide ((i : Int) > (j : Int)) = true := decide_eq_true (by omega)
        have hgtz' : (j : Int) < (i : Int) := by omega
        obtain ⟨i2, hi2⟩ : ∃ q, q + j = i := ⟨i - j, by omega⟩
        have eij : (i : Int) - (j : Int) = (i2 : Int) := by omega
        obtain ⟨U1, U2, hU12, hU1, hU2⟩ : ∃ U1 U2, U = U1 ++ U2 ∧ U1.length = j ∧ U2.length = i2 := ⟨U.take j, U.drop j, (List.take_append_drop j U).symm, by rw [List.length_take]; omega, by rw [List.length_drop]; omega⟩
        have c1 := swrI fv blk off cap n p m j P U1 U2 V Q d0 w0 wr R hs0 (by rw [hU12] at hn; simpa using hn) hp.symm hU1 hVj (by omega) hsz (by rw [hU12] at SS; simpa using SS)
        have HC1 : Aside _ := c1
        have HN : Aside (∀ W, SW enc w0 blk off (P ++ V ++ U2 ++ U1 ++ Q).toArray W → RotSI enc w0 blk off n m b lE i2 j W) := fun W h => ⟨P ++ V, U2, U1, Q, by rw [hU12] at hn; simp only [List.length_append] at hn ⊢; omega, by rw [List.length_append]; omega, hU2, hj, hU1, by omega, hj0, by rw [← hl, hU12]; simp, h⟩
        clear c1 SS hl hn hUi hVj hp hU12 hU1 hU2
        go_wp2_with (go_at_call 128; refine Calls.mono HC1.out ?_; rintro e w' ⟨rfl, S2⟩)
        go_roundg (i2 + j)
        case measure => omega
        case rel => exact ⟨i2, j, by go_num, rfl, Nat.le_refl _, HN.out _ S2⟩
      · have hgtz : decide ((i : Int) > (j : Int)) = false := decide_eq_false (by omega)
        have hgtz' : ¬ (j : Int) < (i : Int) := by omega
        obtain ⟨j2, hj2⟩ : ∃ q, q + i = j := ⟨j - i, by omega⟩
        have eij : (j : Int) - (i : Int) = (j2 : Int) := by omega
        obtain ⟨q2, hq2⟩ : ∃ q, q = m + j2 := ⟨_, rfl⟩
        have emj : (m : Int) + (j : Int) - (i : Int) = (q2 : Int) := by omega
        have wmj : IntKind.i64.wrap ((m : Int) + (j : Int)) = (m : Int) + (j : Int) := by rw [IntKind.wrap_i64]; omega
        have wq2 : IntKind.i64.wrap (q2 : Int) = (q2 : Int) := by rw [IntKind.wrap_i64]; omega
        obtain ⟨V1, V2, hV12, hV1, hV2⟩ : ∃ V1 V2, V = V1 ++ V2 ∧ V1.length = j2 ∧ V2.length = i := ⟨V.take j2, V.drop j2, (List.take_append_drop j2 V).symm, by rw [List.length_take]; omega, by rw [List.length_drop]; omega⟩
        have c1 := swrI fv blk off cap n p q2 i P U V1 V2 Q d0 w0 wr R hs0 (by rw [hV12] at hn; simpa using hn) hp.symm hUi hV2 (by omega) hsz (by rw [hV12] at SS; simpa using SS)
        have HC1 : Aside _ := c1
        have HN : Aside (∀ W, SW enc w0 blk off (P ++ V2 ++ V1 ++ U ++ Q).toArray W → RotSI enc w0 blk off n m b lE i j2 W) := fun W h => ⟨P, V2, V1, U ++ Q, by rw [hV12] at hn; simp only [List.length_append] at hn ⊢; omega, by omega, hV2, by omega, hV1, hi0, by omega, by rw [← hl, hV12]; simp, by simpa using h⟩
        clear c1 SS hl hn hUi hVj hp hV12 hV1 hV2 hq2
        go_wp2_with (go_at_call 128; refine Calls.mono HC1.out ?_; rintro e w' ⟨rfl, S2⟩)
        go_roundg (i + j2)
        case measure => omega
        case rel => exact ⟨i, j2, rfl, by go_num, Nat.le_refl _, HN.out _ S2⟩
end Go.Proofs.YthdpomgpcblpeaaGreat

namespace Go.Proofs.YthdpomgpcblpeaaGreat
open Go.Sort
section
variable {α : Type} [Inhabited α] {le : α → α → Bool}
theorem list_get! (l : List α) (i : Nat) (h : i < l.length) : l[i]! = l[i] := getElem!_pos l i h
theorem get_A (P A B Q : List α) (a m : Nat) (hP : P.length = a) (hA : a + A.length = m) (i : Nat) (h1 : a ≤ i) (h2 : i < m) : (P ++ A ++ B ++ Q).toArray[i]! = A[i - a]! := by
  rw [arr_get? _ _ (by simp; omega), list_get! A _ (by omega)]
  rw [List.getElem_append_left (by simp; omega), List.getElem_append_left (by simp; omega), List.getElem_append_right (by omega)]
  simp [hP]
theorem get_B (P A B Q : List α) (a m b : Nat) (hP : P.length = a) (hA : a + A.length = m) (hB : m + B.length = b) (i : Nat) (h1 : m ≤ i) (h2 : i < b) : (P ++ A ++ B ++ Q).toArray[i]! = B[i - m]! := by
  rw [arr_get? _ _ (by simp; omega), list_get! B _ (by omega)]
  rw [List.getElem_append_left (by simp; omega), List.getElem_append_right (by simp; omega)]
  congr 1
  simp
  omega
omit [Inhabited α] in
theorem Ord.refl (O : Ord le) (x : α) : le x x = true := by rcases O.total x x with h | h <;> exact h
theorem srt_get (O : Ord le) {l : List α} (h : Srt le l) (i j : Nat) (hij : i ≤ j) (hj : j < l.length) : le l[i]! l[j]! = true := by
  rw [list_get! l i (by omega), list_get! l j hj]
  by_cases e : i = j
  · subst e; exact O.refl _
  · exact (List.pairwise_iff_getElem.1 h) i j (by omega) hj (by omega)
omit [Inhabited α] in
theorem le_yes {lt : α → α → Bool} {x y : α} (h : lt y x = false) : leOf lt x y = true := by simp [leOf, h]
omit [Inhabited α] in
theorem le_no {lt : α → α → Bool} {x y : α} (h : lt y x = true) : leOf lt x y = false := by simp [leOf, h]
omit [Inhabited α] in
theorem le_off {lt : α → α → Bool} {x y : α} (h : lt y x = true) (h2 : leOf lt x y = true) : False := by rw [le_no h] at h2; exact absurd h2 (by simp)
theorem mrg_one_left (x : α) : ∀ (B : List α) (k : Nat), k ≤ B.length → (∀ t, t < k → le x B[t]! = false) → (k < B.length → le x B[k]! = true) → mrg le [x] B = B.take k ++ x :: B.drop k
  | [], k, hk, _, _ => by simp [mrg_nil_right]
  | y :: B, 0, _, _, h2 => by
    have := h2 (by simp)
    simp at this
    rw [mrg_yes _ _ this, mrg_nil_left]; rfl
  | y :: B, k + 1, hk, h1, h2 => by
    have h0 := h1 0 (by omega)
    simp at h0
    rw [mrg_no _ _ h0, mrg_one_left x B k (by simpa using hk) (fun t ht => by simpa using h1 (t + 1) (by omega)) (fun h => by simpa using h2 (by simpa using h))]
    rfl
theorem mrg_one_right (y : α) : ∀ (A : List α) (k : Nat), k ≤ A.length → (∀ t, t < k → le A[t]! y = true) → (k < A.length → le A[k]! y = false) → mrg le A [y] = A.take k ++ y :: A.drop k
  | [], k, hk, _, _ => by simp [mrg_nil_left]
  | x :: A, 0, _, _, h2 => by
    have := h2 (by simp)
    simp at this
    rw [mrg_no _ _ this, mrg_nil_right]; rfl
  | x :: A, k + 1, hk, h1, h2 => by
    have h0 := h1 0 (by omega)
    simp at h0
    rw [mrg_yes _ _ h0, mrg_one_right y A k (by simpa using hk) (fun t ht => by simpa using h1 (t + 1) (by omega)) (fun h => by simpa using h2 (by simpa using h))]
    rfl
theorem mem_take_get {l : List α} {s : Nat} {x : α} (h : x ∈ l.take s) : ∃ i, i < s ∧ i < l.length ∧ l[i]! = x := by
  obtain ⟨i, hi, e⟩ := List.mem_iff_getElem.1 h
  rw [List.length_take] at hi
  exact ⟨i, by omega, by omega, by rw [list_get! l i (by omega), ← e, List.getElem_take]⟩
theorem mem_drop_get {l : List α} {s : Nat} {x : α} (h : x ∈ l.drop s) : ∃ i, s ≤ i ∧ i < l.length ∧ l[i]! = x := by
  obtain ⟨i, hi, e⟩ := List.mem_iff_getElem.1 h
  rw [List.length_drop] at hi
  exact ⟨s + i, by omega, by omega, by rw [list_get! l _ (by omega), ← e, List.getElem_drop]⟩
theorem mrg_parts (O : Ord le) {A B : List α} (hA : Srt le A) (hB : Srt le B) (s r : Nat) (h1 : 0 < s → s ≤ A.length → r < B.length → le A[s - 1]! B[r]! = true) (h2 : s < A.length → 0 < r → r ≤ B.length → le A[s]! B[r - 1]! = false)
    (hs : s ≤ A.length) (hr : r ≤ B.length) : mrg le A B = mrg le (A.take s) (B.take r) ++ mrg le (A.drop s) (B.drop r) := by
  have := mrg_split (le := le) _ (A.take s) (A.drop s) (B.take r) (B.drop r) (Nat.le_refl _) ?_ ?_
  · rwa [List.take_append_drop, List.take_append_drop] at this
  · intro x hx y hy
    obtain ⟨i, hi1, hi2, rfl⟩ := mem_take_get hx
    obtain ⟨j, hj1, hj2, rfl⟩ := mem_drop_get hy
    exact O.trans _ _ _ (srt_get O hA i (s - 1) (by omega) (by omega)) (O.trans _ _ _ (h1 (by omega) hs (by omega)) (srt_get O hB r j hj1 hj2))
  · intro x hx y hy
    obtain ⟨i, hi1, hi2, rfl⟩ := mem_drop_get hx
    obtain ⟨j, hj1, hj2, rfl⟩ := mem_take_get hy
    have h := h2 (by omega) (by omega) hr
    cases e : le A[i]! B[j]! with
    | false => rfl
    | true =>
      have := O.trans _ _ _ (srt_get O hA s i hi1 hi2) (O.trans _ _ _ e (srt_get O hB j (r - 1) (by omega) (by omega)))
      rw [h] at this
      exact absurd this (by simp)
omit [Inhabited α] in
theorem srt_take {l : List α} (h : Srt le l) (s : Nat) : Srt le (l.take s) := List.Pairwise.sublist (List.take_sublist s l) h
omit [Inhabited α] in
theorem srt_drop {l : List α} (h : Srt le l) (s : Nat) : Srt le (l.drop s) := List.Pairwise.sublist (List.drop_sublist s l) h
/-- one thing moved to the right through a list -/
def movR (P B Q : List α) (x : α) (k : Nat) : Array α := (P ++ B.take k ++ x :: B.drop k ++ Q).toArray
omit [Inhabited α] in
theorem movR_zero (P B Q : List α) (x : α) : (P ++ [x] ++ B ++ Q).toArray = movR P B Q x 0 := by simp [movR]
omit [Inhabited α] in
theorem movR_all (P B Q : List α) (x : α) (k : Nat) (h : B.length = k) : (P ++ B ++ [x] ++ Q).toArray = movR P B Q x k := by
  subst h; simp [movR]
omit [Inhabited α] in
theorem movR_size (P B Q : List α) (x : α) (k : Nat) : (movR P B Q x k).size = P.length + 1 + B.length + Q.length := by
  simp [movR]; omega
theorem movR_next (P B Q : List α) (x : α) (k a i : Nat) (hP : P.length = a) (hk : k < B.length) (hi : a + k = i) : swp (movR P B Q x k) i (i + 1) = movR P B Q x (k + 1) := by
  obtain ⟨u, hu1, hu2⟩ := drop_head hk
  unfold movR
  rw [hu1, hu2]
  have e : P ++ B.take k ++ x :: (u :: B.drop (k + 1)) ++ Q = (P ++ B.take k) ++ x :: ([] ++ u :: (B.drop (k + 1) ++ Q)) := by simp
  rw [e, arr_swp _ _ _ _ _ i (i + 1) (by simp; omega) (by simp; omega)]
  simp
theorem movR_back (P B Q : List α) (x : α) (k a i : Nat) (hP : P.length = a) (hk : k < B.length) (hi : a + k + 1 = i) : swp (movR P B Q x (k + 1)) i (i - 1) = movR P B Q x k := by
  obtain ⟨u, hu1, hu2⟩ := drop_head hk
  unfold movR
  rw [hu1, hu2]
  have e : P ++ (B.take k ++ [u]) ++ x :: B.drop (k + 1) ++ Q = (P ++ B.take k) ++ u :: ([] ++ x :: (B.drop (k + 1) ++ Q)) := by simp
  rw [e, arr_swp' _ _ _ _ _ (i - 1) i (by simp; omega) (by simp; omega)]
  simp
end
end Go.Proofs.YthdpomgpcblpeaaGreat

/-
  Proved here: slices.Reverse, slices.IndexFunc at steps; the ways back of a search by breadth.
  Proved here: package sep's trailTo: the way back.
  Proved here: the law's in and place.
  Proved here, plain mathematics: in the order each point stands once, behind all that it hangs on.
  Proved here: package sep's Blanket.
-/
import Derived.Test.YtcoiapgfaibkgabGreatSpWAll
import Derived.Test.YtcoiapgfaibkgabGreatSpRv
import Derived.Test.YtcoiapgfaibkgabGreatSpQAll
import Derived.Test.YtcoiapgfaibkgabGreatSpLAll
import Derived.Test.YtcoiapgfaibkgabGreatDagCyOAll
import Derived.Test.YtcoiapgfaibkgabGreatSpOAll
import Derived.Test.YtcoiapgfaibkgabGreatDagMuAll
import Derived.Test.YtcoiapgfaibkgabGreatSetDIAll
import Derived.Test.YtcoiapgfaibkgabGreatLate4
namespace Go.Proofs.YtcoiapgfaibkgabGreat
set_option linter.unusedVariables false
open Go.RowKit Go.Shelf Go.Sort Go.Lib
theorem idx_take {ss : List Stp} {k : Nat} {s : Stp} {x : Int} (h : ss[k]? = some s) (hno : ∀ t ∈ ss.take k, t.1 ≠ x) (hs : s.1 = x) : ss.findIdx (fun s => s.1 == x) = k := by
  have hk := (List.getElem?_eq_some_iff.1 h).1
  have he : ss[k] = s := (List.getElem?_eq_some_iff.1 h).2
  rw [List.findIdx_eq hk]
  refine ⟨by rw [he, hs]; simp, fun j hj => ?_⟩
  have := hno ss[j] (List.mem_take_iff_getElem.2 ⟨j, by omega, rfl⟩)
  simpa using this
/-- Each step's ahead lies ahead of it, or is itself. -/
def WelP (L : List (Stp × Stp)) : Prop := ∀ (i : Nat) (s v : Stp), L[i]? = some (s, v) → v = s ∨ ∃ (j : Nat) (u : Stp), j < i ∧ L[j]? = some (v, u)
theorem WelP.nil : WelP [] := fun i s v h => by simp at h
theorem WelP.rch {L : List (Stp × Stp)} (h : WelP L) {ahead s : Stp} (ha : ahead = s ∨ ∃ (j : Nat) (u : Stp), L[j]? = some (ahead, u)) : WelP (rchP ahead L s) := by
  unfold rchP
  split
  · exact h
  · intro i t v hi
    by_cases hl : i < L.length
    · rw [List.getElem?_append_left hl] at hi
      rcases h i t v hi with h1 | ⟨j, u, hj, h2⟩
      · exact Or.inl h1
      · exact Or.inr ⟨j, u, hj, by rw [List.getElem?_append_left (by omega)]; exact h2⟩
    · have h3 := (List.getElem?_eq_some_iff.1 hi).1
      rw [List.length_append, List.length_singleton] at h3
      have e : i = L.length := by omega
      subst e
      rw [List.getElem?_append_right (Nat.le_refl _), Nat.sub_self] at hi
      simp at hi
      obtain ⟨rfl, rfl⟩ := hi
      rcases ha with h1 | ⟨j, u, h2⟩
      · exact Or.inl h1
      · have h4 := (List.getElem?_eq_some_iff.1 h2).1
        exact Or.inr ⟨j, u, h4, by rw [List.getElem?_append_left h4]; exact h2⟩
theorem WelP.fold {ahead : Stp} {k : Nat} {u : Stp} : ∀ (N : List Stp) {L : List (Stp × Stp)}, WelP L → L[k]? = some (ahead, u) → WelP (N.foldl (rchP ahead) L)
  | [], _, h, _ => h
  | s :: N, L, h, hk => by
    rw [List.foldl_cons]
    exact WelP.fold N (WelP.rch h (Or.inr ⟨k, u, hk⟩)) (rchP_at hk)
theorem WelP.start : ∀ (a : List Int) {L : List (Stp × Stp)}, WelP L → WelP (a.foldl (fun L p => rchP (p, false) L (p, false)) L)
  | [], _, h => h
  | x :: a, L, h => by rw [List.foldl_cons]; exact WelP.start a (WelP.rch h (Or.inl rfl))
theorem WelP.bfs {nx : Stp → List Stp} : ∀ (f k : Nat) (L : List (Stp × Stp)), WelP L → WelP (bfsP nx f k L)
  | 0, _, _, h => h
  | f + 1, k, L, h => by
    rw [bfsP]
    split
    · exact h
    · rename_i e he
      exact WelP.bfs f (k + 1) _ (WelP.fold (u := e.2) _ h he)
theorem wkL_wel (P : List (List Int)) (n : Nat) (a G A : List Int) : WelP (wkL P n a G A) := WelP.bfs _ _ _ (WelP.start a WelP.nil)
/-- The step ahead of one. -/
def prP (L : List (Stp × Stp)) (s : Stp) : Stp := ((L.find? fun q => decide (q.1 = s)).map (·.2)).getD (0, false)
theorem prP_at {n : Nat} {L : List (Stp × Stp)} (h : KeyP n L) {i : Nat} {s v : Stp} (hi : L[i]? = some (s, v)) : L.find? (fun q => decide (q.1 = s)) = some (s, v) := by
  have hm : (s, v) ∈ L := List.mem_of_getElem? hi
  cases hf : L.find? (fun q => decide (q.1 = s)) with
  | none => exact absurd (List.find?_eq_none.1 hf _ hm) (by simp)
  | some q =>
    have h0 := List.find?_some hf
    have h1 : q.1 = s := by simpa using h0
    have h2 : q ∈ L := List.mem_of_find?_eq_some hf
    have hnd := h.nd
    rw [List.nodup_iff_pairwise_ne, List.pairwise_map] at hnd
    obtain ⟨j, hj, he⟩ := List.getElem_of_mem h2
    obtain ⟨hi1, hi2⟩ := List.getElem?_eq_some_iff.1 hi
    have hij : i = j := by
      rcases Nat.lt_trichotomy i j with hlt | heq | hgt
      · exact absurd (by rw [hi2, he, h1]) ((List.pairwise_iff_getElem.1 hnd) i j hi1 hj hlt)
      · exact heq
      · exact absurd (by rw [hi2, he, h1]) ((List.pairwise_iff_getElem.1 hnd) j i hj hi1 hgt)
    subst hij
    rw [← he, hi2]
/-- The points of the way back, behind a step. -/
def tlP (L : List (Stp × Stp)) : Nat → Stp → List Int
  | 0, _ => []
  | f + 1, s => if prP L s = s then [] else (prP L s).1 :: tlP L f (prP L s)
theorem tlP_end {L : List (Stp × Stp)} {f : Nat} {s : Stp} (h : prP L s = s) : tlP L f s = [] := by
  cases f with
  | zero => rfl
  | succ f => rw [tlP, if_pos h]
theorem tlP_len (L : List (Stp × Stp)) : ∀ (f : Nat) (s : Stp), (tlP L f s).length ≤ f
  | 0, _ => Nat.le_refl _
  | f + 1, s => by
    rw [tlP]
    split
    · simp
    · rw [List.length_cons]; have := tlP_len L f (prP L s); omega
end Go.Proofs.YtcoiapgfaibkgabGreat

namespace Go.Proofs.YtcoiapgfaibkgabGreat
set_option linter.unusedVariables false
open Go.RowKit Go.Shelf Go.Sort Go.Lib
/-- The step with which a point was first come to, and the trail to it. -/
def fstP (L : List (Stp × Stp)) (x : Int) : Stp := ((L.map (·.1)).getD ((L.map (·.1)).findIdx (fun s => s.1 == x)) (0, false))
def trlP (L : List (Stp × Stp)) (x : Int) : List Int := ((fstP L x).1 :: tlP L L.length (fstP L x)).reverse
theorem fst_at {L : List (Stp × Stp)} {x : Int} (h : ∃ s ∈ L.map (·.1), s.1 = x) : ∃ (i : Nat) (v : Stp), i = (L.map (·.1)).findIdx (fun s => s.1 == x) ∧ L[i]? = some (fstP L x, v) := by
  obtain ⟨s, hs, he⟩ := h
  have hlt : (L.map (·.1)).findIdx (fun s => s.1 == x) < (L.map (·.1)).length := List.findIdx_lt_length_of_exists ⟨s, hs, by simpa using he⟩
  have hl2 : (L.map (·.1)).findIdx (fun s => s.1 == x) < L.length := by simpa using hlt
  refine ⟨_, (L[(L.map (·.1)).findIdx (fun s => s.1 == x)]).2, rfl, ?_⟩
  rw [List.getElem?_eq_getElem hl2]
  unfold fstP
  rw [List.getD_eq_getElem?_getD, List.getElem?_eq_getElem hlt]
  simp
/-- A step in a box. -/
def StB (w : World) (g : Nat) (s : Stp) : Prop := w.heap[g]? = some (.cells #[.int .i64 s.1, .bool s.2] 81 (0, 0))
theorem StB.c0 {w : World} {g : Nat} {s : Stp} (h : StB w g s) : w.cell? ⟨g, 0, none⟩ = some (.int .i64 s.1) := cell_of_row w g 0 _ _ _ h
theorem StB.c1 {w : World} {g : Nat} {s : Stp} (h : StB w g s) : w.cell? ⟨g, 1, none⟩ = some (.bool s.2) := cell_of_row w g 1 _ _ _ h
theorem StB.lt {w : World} {g : Nat} {s : Stp} (h : StB w g s) : g < w.heap.size := (Array.getElem?_eq_some_iff.1 h).1
theorem StB.below {w W : World} {g : Nat} {s : Stp} (h : StB w g s) (hb : Below w.heap.size w W) : StB W g s := (hb.block g h.lt).trans h
theorem StB.put {w : World} {g : Nat} {s : Stp} (h : StB w g s) (t : Stp) : StB ((w.setCell ⟨g, 0, none⟩ (.int .i64 t.1)).setCell ⟨g, 1, none⟩ (.bool t.2)) g t := by
  unfold StB
  have h1 := heap_setCell_same w g 0 _ _ (.int .i64 t.1) h
  rw [heap_setCell_same _ g 1 _ _ (.bool t.2) h1]; rfl
end Go.Proofs.YtcoiapgfaibkgabGreat

namespace Go.Proofs.YtcoiapgfaibkgabGreat
set_option linter.unusedVariables false
open Go.RowKit
/-- Where a number stands in a list; -1: nowhere. -/
def plF (xs : List Int) (x : Int) : Int := match xs.findIdx? (fun y => decide (y = x)) with | some i => (i : Int) | none => -1
theorem plF_some {xs : List Int} {x : Int} {i : Nat} (h : xs[i]? = some x) (hn : x ∉ xs.take i) : plF xs x = (i : Int) := by
  unfold plF
  have : xs.findIdx? (fun y => decide (y = x)) = some i := by
    rw [List.findIdx?_eq_some_iff_getElem]
    have hi := (List.getElem?_eq_some_iff.1 h).1
    refine ⟨hi, by have := (List.getElem?_eq_some_iff.1 h).2; simp [this], fun j hj => ?_⟩
    have hj2 : j < xs.length := by omega
    simp only [decide_eq_true_eq]
    intro e
    refine hn (List.mem_of_getElem? (i := j) ?_)
    rw [List.getElem?_take_of_lt hj, List.getElem?_eq_getElem hj2, e]
  rw [this]
theorem plF_none {xs : List Int} {x : Int} (hn : x ∉ xs) : plF xs x = -1 := by
  unfold plF
  have : xs.findIdx? (fun y => decide (y = x)) = none := by
    rw [List.findIdx?_eq_none_iff]
    intro y hy
    simp only [decide_eq_false_iff_not]
    intro e; subst e; exact hn hy
  rw [this]
theorem mem_take_succ {xs : List Int} {x y : Int} {k : Nat} (h : xs[k]? = some y) (hx : x ∉ xs.take k) (hne : y ≠ x) : x ∉ xs.take (k + 1) := by
  rw [List.take_add_one, h]
  intro hm
  rcases List.mem_append.1 hm with e | e
  · exact hx e
  · simp at e; exact hne e.symm
end Go.Proofs.YtcoiapgfaibkgabGreat

namespace Go.Proofs.YtcoiapgfaibkgabGreat
set_option linter.unusedVariables false
/-- Each stands behind its parents, and not twice. -/
def GdO (P : List (List Int)) (T : List Int) : Prop := ∀ (k : Nat) (x : Int), T[k]? = some x → (∀ p ∈ P.getD x.toNat [], p ∈ T.take k) ∧ x ∉ T.take k
theorem GdO.snoc {P : List (List Int)} {T : List Int} (h : GdO P T) {i : Nat} (hr : rdy P T i) : GdO P (T ++ [(i : Int)]) := by
  intro k x hx
  rcases Nat.lt_or_ge k T.length with e | e
  · rw [List.getElem?_append_left e] at hx
    rw [List.take_append_of_le_length (by omega)]
    exact h k x hx
  · have hk : k = T.length := by
      have := (List.getElem?_eq_some_iff.1 hx).1
      rw [List.length_append, List.length_singleton] at this
      omega
    subst hk
    rw [List.getElem?_append_right (Nat.le_refl _), Nat.sub_self] at hx
    have e2 : x = (i : Int) := by simpa using hx.symm
    subst e2
    rw [List.take_left', Int.toNat_natCast]
    · exact ⟨hr.2, hr.1⟩
    · rfl
theorem GdO.out {P : List (List Int)} : ∀ (f : Nat) (T : List Int), GdO P T → GdO P (outF P f T) := by
  intro f
  induction f with
  | zero => intro T h; exact h
  | succ f ih =>
    intro T h
    rcases hn : nxtF P T with _ | i
    · have e : outF P (f + 1) T = T := by rw [outF, hn]
      rw [e]; exact h
    · have e : outF P (f + 1) T = outF P f (T ++ [(i : Int)]) := by rw [outF, hn]
      rw [e]
      refine ih _ (h.snoc ?_)
      unfold nxtF at hn
      have h1 := List.find?_some hn
      simpa using h1
theorem out_gd (P : List (List Int)) : GdO P (outL P) := GdO.out _ _ (fun k x h => by simp at h)
/-- Where all are in the order: where a point stands, and where its parents do. -/
theorem out_place {P : List (List Int)} (h : (outL P).length = P.length) {i : Nat} (hi : i < P.length) : ∃ k : Nat, plF (outL P) (i : Int) = (k : Int) ∧ ∀ p ∈ P.getD i [], plF (outL P) p < (k : Int) := by
  have hpn : Pts P.length ([] : List Int) := ⟨List.nodup_nil, by simp⟩
  have hP := (out_all (P := P) P.length [] hpn).2.1
  have hP' : Pts P.length (outL P) := hP
  have hmem : (i : Int) ∈ outL P := by
    rcases Classical.em ((i : Int) ∈ outL P) with e | e
    · exact e
    · have := (hP'.snoc hi e).len
      rw [List.length_append, List.length_singleton] at this
      omega
  obtain ⟨k, hk, e⟩ := List.getElem_of_mem hmem
  have hk2 : (outL P)[k]? = some (i : Int) := by rw [← e]; exact List.getElem?_eq_getElem hk
  obtain ⟨g1, g2⟩ := out_gd P k _ hk2
  rw [Int.toNat_natCast] at g1
  refine ⟨k, plF_some hk2 g2, fun p hp => ?_⟩
  obtain ⟨j, hj, ej⟩ := List.getElem_of_mem (g1 p hp)
  rw [List.length_take] at hj
  have hj2 : (outL P)[j]? = some p := by
    have h1 : ((outL P).take k)[j]? = some p := by rw [← ej]; exact List.getElem?_eq_getElem (by rw [List.length_take]; exact hj)
    rwa [List.getElem?_take_of_lt (by omega)] at h1
  rw [plF_some hj2 (out_gd P j p hj2).2]
  omega
end Go.Proofs.YtcoiapgfaibkgabGreat

namespace Go.Proofs.YtcoiapgfaibkgabGreat
set_option linter.unusedVariables false
open Go.RowKit Go.Shelf Go.Lib Go.Sort
/-- All that is near a point, as the program lays it end to end. -/
def nearK (P : List (List Int)) (n a k : Nat) : List Int := P.getD a [] ++ chF P a n ++ (((chF P a n).take k).map fun c => P.getD c.toNat []).flatten
def blE (P : List (List Int)) (n : Nat) (a : Int) : Int := if ckE P ≠ 0 then ckE P else if noPt (n : Int) a = true then 3 else 0
def blR (P : List (List Int)) (n : Nat) (a : Int) : List Int := if blE P n a = 0 then (ofR (nearK P n a.toNat n)).filter fun z => decide (z ∈ [a]) == false else []
theorem nearK_succ {P : List (List Int)} {n a k : Nat} {c : Int} (h : (chF P a n)[k]? = some c) : nearK P n a (k + 1) = nearK P n a k ++ P.getD c.toNat [] := by
  unfold nearK
  rw [List.take_add_one, h]
  simp only [Option.toList_some, List.map_append, List.map_cons, List.map_nil, List.flatten_append, List.flatten_cons, List.flatten_nil, List.append_nil, List.append_assoc]
theorem flat_len {L : List (List Int)} {m : Nat} (h : ∀ l ∈ L, l.length ≤ m) : L.flatten.length ≤ L.length * m := by
  induction L with
  | nil => simp
  | cons x L ih =>
    have h1 := h x (by simp)
    have h2 := ih fun l hl => h l (by simp [hl])
    rw [List.flatten_cons, List.length_append, List.length_cons, Nat.add_mul, Nat.one_mul]
    omega
theorem nearK_len {P : List (List Int)} {n a k : Nat} (hl : ∀ i, (P.getD i []).length ≤ n) (hb : n ≤ 300) : (nearK P n a k).length ≤ 90600 := by
  have h1 := hl a
  have h2 := chF_len P a n
  have h3 : ((((chF P a n).take k).map fun c => P.getD c.toNat []).flatten).length ≤ _ := flat_len (m := 300) (fun l hl2 => by
    obtain ⟨c, _, e⟩ := List.mem_map.1 hl2
    have := hl c.toNat
    rw [← e]; omega)
  have h4 : (((chF P a n).take k).map fun c => P.getD c.toNat []).length ≤ 300 := by rw [List.length_map, List.length_take]; omega
  unfold nearK
  rw [List.length_append, List.length_append]
  omega
theorem nearK_all {P : List (List Int)} {n a k : Nat} (h : (chF P a n).length ≤ k) : nearK P n a k = nearK P n a n := by
  unfold nearK
  rw [List.take_of_length_le h, List.take_of_length_le (chF_len P a n)]
theorem chF_memS {P : List (List Int)} {j i : Nat} {c : Int} (h : c ∈ chF P j i) : ∃ q : Nat, c = (q : Int) ∧ q < i ∧ (j : Int) ∈ P.getD q [] := by
  unfold chF at h
  obtain ⟨q, hq, e⟩ := List.mem_map.1 h
  rw [List.mem_filter] at hq
  exact ⟨q, e.symm, List.mem_range.1 hq.1, of_decide_eq_true hq.2⟩
theorem rr_two {w : World} {gb : Nat} {x y : Value} {X Y : List Int} (hr : OG id w.heap.size 23 (w.alloc (.cells #[x, y] 23)) (.slice (some ⟨gb, 0, none⟩) 2 2) [x, y]) (hx : RG (Value.int .i64) w x X) (hy : RG (Value.int .i64) w y Y) : RR (Value.int .i64) (w.alloc (.cells #[x, y] 23)) (.slice (some ⟨gb, 0, none⟩) 2 2) [X, Y] :=
  ⟨[x, y], hr.rg, rfl, fun i u L hu hL => by
    match i, hu, hL with
    | 0, hu, hL => simp at hu hL; subst hu; subst hL; exact hx.alloc _
    | 1, hu, hL => simp at hu hL; subst hu; subst hL; exact hy.alloc _
    | i + 2, hu, _ => simp at hu⟩
end Go.Proofs.YtcoiapgfaibkgabGreat

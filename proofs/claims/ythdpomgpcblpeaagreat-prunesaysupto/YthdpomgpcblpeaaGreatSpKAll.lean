/-
  Proved here: slices.Reverse, slices.IndexFunc at steps; the ways back of a search by breadth.
  Proved here: package sep's trailTo: the way back.
  Proved here: the law's in and place.
  Proved here, plain mathematics: in the order each point stands once, behind all that it hangs on.
  Proved here: package sep's Blanket.
  Proved here: the document's Bad and Blanket of layer 16.
  Proved here: package sep's Trail; the steps that may follow on one have each a point of its own.
  Proved here: plain mathematics of what open trails lead to: what a search by breadth reaches is what steps lead to; it is the same either way round, and point by point.
-/
import Derived.Test.YthdpomgpcblpeaaGreatSpWAll
import Derived.Test.YthdpomgpcblpeaaGreatSpRv
import Derived.Test.YthdpomgpcblpeaaGreatSpQAll
import Derived.Test.YthdpomgpcblpeaaGreatSpLAll
import Derived.Test.YthdpomgpcblpeaaGreatDagCyOAll
import Derived.Test.YthdpomgpcblpeaaGreatSpOAll
import Derived.Test.YthdpomgpcblpeaaGreatDagMuAll
import Derived.Test.YthdpomgpcblpeaaGreatSetDIAll
import Derived.Test.YthdpomgpcblpeaaGreatLate4
import Derived.Test.YthdpomgpcblpeaaGreatDagVAll
namespace Go.Proofs.YthdpomgpcblpeaaGreat
set_option linter.unusedVariables false
open Go.RowKit Go.Shelf Go.Sort Go.Lib
theorem idx_take {ss : List Stp} {k : Nat} {s : Stp} {x : Int} (h : ss[k]? = some s) (hno : ∀ t ∈ ss.take k, t.1 ≠ x) (hs : s.1 = x) : ss.findIdx (fun s => s.1 == x) = k := by
  have hk := (List.getElem?_eq_some_iff.1 h).1
  have he : ss[k] = s := (List.getElem?_eq_some_iff.1 h).2
  rw [List.findIdx_eq hk]
  refine ⟨by rw [he, hs]; simp, fun j hj => ?_⟩
  have := hno ss[j] (List.mem_take_iff_getElem.2 ⟨j, by omega, rfl⟩)
  simpa using this
/-- Each step's ahead lies ahead of it, or is itself. -/
def WelP (L : List (Stp × Stp)) : Prop := ∀ (i : Nat) (s v : Stp), L[i]? = some (s, v) → v = s ∨ ∃ (j : Nat) (u : Stp), j < i ∧ L[j]? = some (v, u)
theorem WelP.nil : WelP [] := fun i s v h => by simp at h
theorem WelP.rch {L : List (Stp × Stp)} (h : WelP L) {ahead s : Stp} (ha : ahead = s ∨ ∃ (j : Nat) (u : Stp), L[j]? = some (ahead, u)) : WelP (rchP ahead L s) := by
  unfold rchP
  split
  · exact h
  · intro i t v hi
    by_cases hl : i < L.length
    · rw [List.getElem?_append_left hl] at hi
      rcases h i t v hi with h1 | ⟨j, u, hj, h2⟩
      · exact Or.inl h1
      · exact Or.inr ⟨j, u, hj, by rw [List.getElem?_append_left (by omega)]; exact h2⟩
    · have h3 := (List.getElem?_eq_some_iff.1 hi).1
      rw [List.length_append, List.length_singleton] at h3
      have e : i = L.length := by omega
      subst e
      rw [List.getElem?_append_right (Nat.le_refl _), Nat.sub_self] at hi
      simp at hi
      obtain ⟨rfl, rfl⟩ := hi
      rcases ha with h1 | ⟨j, u, h2⟩
      · exact Or.inl h1
      · have h4 := (List.getElem?_eq_some_iff.1 h2).1
        exact Or.inr ⟨j, u, h4, by rw [List.getElem?_append_left h4]; exact h2⟩
theorem WelP.fold {ahead : Stp} {k : Nat} {u : Stp} : ∀ (N : List Stp) {L : List (Stp × Stp)}, WelP L → L[k]? = some (ahead, u) → WelP (N.foldl (rchP ahead) L)
  | [], _, h, _ => h
  | s :: N, L, h, hk => by
    rw [List.foldl_cons]
    exact WelP.fold N (WelP.rch h (Or.inr ⟨k, u, hk⟩)) (rchP_at hk)
theorem WelP.start : ∀ (a : List Int) {L : List (Stp × Stp)}, WelP L → WelP (a.foldl (fun L p => rchP (p, false) L (p, false)) L)
  | [], _, h => h
  | x :: a, L, h => by rw [List.foldl_cons]; exact WelP.start a (WelP.rch h (Or.inl rfl))
theorem WelP.bfs {nx : Stp → List Stp} : ∀ (f k : Nat) (L : List (Stp × Stp)), WelP L → WelP (bfsP nx f k L)
  | 0, _, _, h => h
  | f + 1, k, L, h => by
    rw [bfsP]
    split
    · exact h
    · rename_i e he
      exact WelP.bfs f (k + 1) _ (WelP.fold (u := e.2) _ h he)
theorem wkL_wel (P : List (List Int)) (n : Nat) (a G A : List Int) : WelP (wkL P n a G A) := WelP.bfs _ _ _ (WelP.start a WelP.nil)
/-- The step ahead of one. -/
def prP (L : List (Stp × Stp)) (s : Stp) : Stp := ((L.find? fun q => decide (q.1 = s)).map (·.2)).getD (0, false)
theorem prP_at {n : Nat} {L : List (Stp × Stp)} (h : KeyP n L) {i : Nat} {s v : Stp} (hi : L[i]? = some (s, v)) : L.find? (fun q => decide (q.1 = s)) = some (s, v) := by
  have hm : (s, v) ∈ L := List.mem_of_getElem? hi
  cases hf : L.find? (fun q => decide (q.1 = s)) with
  | none => exact absurd (List.find?_eq_none.1 hf _ hm) (by simp)
  | some q =>
    have h0 := List.find?_some hf
    have h1 : q.1 = s := by simpa using h0
    have h2 : q ∈ L := List.mem_of_find?_eq_some hf
    have hnd := h.nd
    rw [List.nodup_iff_pairwise_ne, List.pairwise_map] at hnd
    obtain ⟨j, hj, he⟩ := List.getElem_of_mem h2
    obtain ⟨hi1, hi2⟩ := List.getElem?_eq_some_iff.1 hi
    have hij : i = j := by
      rcases Nat.lt_trichotomy i j with hlt | heq | hgt
      · exact absurd (by rw [hi2, he, h1]) ((List.pairwise_iff_getElem.1 hnd) i j hi1 hj hlt)
      · exact heq
      · exact absurd (by rw [hi2, he, h1]) ((List.pairwise_iff_getElem.1 hnd) j i hj hi1 hgt)
    subst hij
    rw [← he, hi2]
/-- The points of the way back, behind a step. -/
def tlP (L : List (Stp × Stp)) : Nat → Stp → List Int
  | 0, _ => []
  | f + 1, s => if prP L s = s then [] else (prP L s).1 :: tlP L f (prP L s)
theorem tlP_end {L : List (Stp × Stp)} {f : Nat} {s : Stp} (h : prP L s = s) : tlP L f s = [] := by
  cases f with
  | zero => rfl
  | succ f => rw [tlP, if_pos h]
theorem tlP_len (L : List (Stp × Stp)) : ∀ (f : Nat) (s : Stp), (tlP L f s).length ≤ f
  | 0, _ => Nat.le_refl _
  | f + 1, s => by
    rw [tlP]
    split
    · simp
    · rw [List.length_cons]; have := tlP_len L f (prP L s); omega
end Go.Proofs.YthdpomgpcblpeaaGreat

namespace Go.Proofs.YthdpomgpcblpeaaGreat
set_option linter.unusedVariables false
open Go.RowKit Go.Shelf Go.Sort Go.Lib
/-- The step with which a point was first come to, and the trail to it. -/
def fstP (L : List (Stp × Stp)) (x : Int) : Stp := ((L.map (·.1)).getD ((L.map (·.1)).findIdx (fun s => s.1 == x)) (0, false))
def trlP (L : List (Stp × Stp)) (x : Int) : List Int := ((fstP L x).1 :: tlP L L.length (fstP L x)).reverse
theorem fst_at {L : List (Stp × Stp)} {x : Int} (h : ∃ s ∈ L.map (·.1), s.1 = x) : ∃ (i : Nat) (v : Stp), i = (L.map (·.1)).findIdx (fun s => s.1 == x) ∧ L[i]? = some (fstP L x, v) := by
  obtain ⟨s, hs, he⟩ := h
  have hlt : (L.map (·.1)).findIdx (fun s => s.1 == x) < (L.map (·.1)).length := List.findIdx_lt_length_of_exists ⟨s, hs, by simpa using he⟩
  have hl2 : (L.map (·.1)).findIdx (fun s => s.1 == x) < L.length := by simpa using hlt
  refine ⟨_, (L[(L.map (·.1)).findIdx (fun s => s.1 == x)]).2, rfl, ?_⟩
  rw [List.getElem?_eq_getElem hl2]
  unfold fstP
  rw [List.getD_eq_getElem?_getD, List.getElem?_eq_getElem hlt]
  simp
/-- A step in a box. -/
def StB (w : World) (g : Nat) (s : Stp) : Prop := w.heap[g]? = some (.cells #[.int .i64 s.1, .bool s.2] 84 (0, 0))
theorem StB.c0 {w : World} {g : Nat} {s : Stp} (h : StB w g s) : w.cell? ⟨g, 0, none⟩ = some (.int .i64 s.1) := cell_of_row w g 0 _ _ _ h
theorem StB.c1 {w : World} {g : Nat} {s : Stp} (h : StB w g s) : w.cell? ⟨g, 1, none⟩ = some (.bool s.2) := cell_of_row w g 1 _ _ _ h
theorem StB.lt {w : World} {g : Nat} {s : Stp} (h : StB w g s) : g < w.heap.size := (Array.getElem?_eq_some_iff.1 h).1
theorem StB.below {w W : World} {g : Nat} {s : Stp} (h : StB w g s) (hb : Below w.heap.size w W) : StB W g s := (hb.block g h.lt).trans h
theorem StB.put {w : World} {g : Nat} {s : Stp} (h : StB w g s) (t : Stp) : StB ((w.setCell ⟨g, 0, none⟩ (.int .i64 t.1)).setCell ⟨g, 1, none⟩ (.bool t.2)) g t := by
  unfold StB
  have h1 := heap_setCell_same w g 0 _ _ (.int .i64 t.1) h
  rw [heap_setCell_same _ g 1 _ _ (.bool t.2) h1]; rfl
end Go.Proofs.YthdpomgpcblpeaaGreat

namespace Go.Proofs.YthdpomgpcblpeaaGreat
set_option linter.unusedVariables false
open Go.RowKit
/-- Where a number stands in a list; -1: nowhere. -/
def plF (xs : List Int) (x : Int) : Int := match xs.findIdx? (fun y => decide (y = x)) with | some i => (i : Int) | none => -1
theorem plF_some {xs : List Int} {x : Int} {i : Nat} (h : xs[i]? = some x) (hn : x ∉ xs.take i) : plF xs x = (i : Int) := by
  unfold plF
  have : xs.findIdx? (fun y => decide (y = x)) = some i := by
    rw [List.findIdx?_eq_some_iff_getElem]
    have hi := (List.getElem?_eq_some_iff.1 h).1
    refine ⟨hi, by have := (List.getElem?_eq_some_iff.1 h).2; simp [this], fun j hj => ?_⟩
    have hj2 : j < xs.length := by omega
    simp only [decide_eq_true_eq]
    intro e
    refine hn (List.mem_of_getElem? (i := j) ?_)
    rw [List.getElem?_take_of_lt hj, List.getElem?_eq_getElem hj2, e]
  rw [this]
theorem plF_none {xs : List Int} {x : Int} (hn : x ∉ xs) : plF xs x = -1 := by
  unfold plF
  have : xs.findIdx? (fun y => decide (y = x)) = none := by
    rw [List.findIdx?_eq_none_iff]
    intro y hy
    simp only [decide_eq_false_iff_not]
    intro e; subst e; exact hn hy
  rw [this]
theorem mem_take_succ {xs : List Int} {x y : Int} {k : Nat} (h : xs[k]? = some y) (hx : x ∉ xs.take k) (hne : y ≠ x) : x ∉ xs.take (k + 1) := by
  rw [List.take_add_one, h]
  intro hm
  rcases List.mem_append.1 hm with e | e
  · exact hx e
  · simp at e; exact hne e.symm
end Go.Proofs.YthdpomgpcblpeaaGreat

namespace Go.Proofs.YthdpomgpcblpeaaGreat
set_option linter.unusedVariables false
/-- Each stands behind its parents, and not twice. -/
def GdO (P : List (List Int)) (T : List Int) : Prop := ∀ (k : Nat) (x : Int), T[k]? = some x → (∀ p ∈ P.getD x.toNat [], p ∈ T.take k) ∧ x ∉ T.take k
theorem GdO.snoc {P : List (List Int)} {T : List Int} (h : GdO P T) {i : Nat} (hr : rdy P T i) : GdO P (T ++ [(i : Int)]) := by
  intro k x hx
  rcases Nat.lt_or_ge k T.length with e | e
  · rw [List.getElem?_append_left e] at hx
    rw [List.take_append_of_le_length (by omega)]
    exact h k x hx
  · have hk : k = T.length := by
      have := (List.getElem?_eq_some_iff.1 hx).1
      rw [List.length_append, List.length_singleton] at this
      omega
    subst hk
    rw [List.getElem?_append_right (Nat.le_refl _), Nat.sub_self] at hx
    have e2 : x = (i : Int) := by simpa using hx.symm
    subst e2
    rw [List.take_left', Int.toNat_natCast]
    · exact ⟨hr.2, hr.1⟩
    · rfl
theorem GdO.out {P : List (List Int)} : ∀ (f : Nat) (T : List Int), GdO P T → GdO P (outF P f T) := by
  intro f
  induction f with
  | zero => intro T h; exact h
  | succ f ih =>
    intro T h
    rcases hn : nxtF P T with _ | i
    · have e : outF P (f + 1) T = T := by rw [outF, hn]
      rw [e]; exact h
    · have e : outF P (f + 1) T = outF P f (T ++ [(i : Int)]) := by rw [outF, hn]
      rw [e]
      refine ih _ (h.snoc ?_)
      unfold nxtF at hn
      have h1 := List.find?_some hn
      simpa using h1
theorem out_gd (P : List (List Int)) : GdO P (outL P) := GdO.out _ _ (fun k x h => by simp at h)
/-- Where all are in the order: where a point stands, and where its parents do. -/
theorem out_place {P : List (List Int)} (h : (outL P).length = P.length) {i : Nat} (hi : i < P.length) : ∃ k : Nat, plF (outL P) (i : Int) = (k : Int) ∧ ∀ p ∈ P.getD i [], plF (outL P) p < (k : Int) := by
  have hpn : Pts P.length ([] : List Int) := ⟨List.nodup_nil, by simp⟩
  have hP := (out_all (P := P) P.length [] hpn).2.1
  have hP' : Pts P.length (outL P) := hP
  have hmem : (i : Int) ∈ outL P := by
    rcases Classical.em ((i : Int) ∈ outL P) with e | e
    · exact e
    · have := (hP'.snoc hi e).len
      rw [List.length_append, List.length_singleton] at this
      omega
  obtain ⟨k, hk, e⟩ := List.getElem_of_mem hmem
  have hk2 : (outL P)[k]? = some (i : Int) := by rw [← e]; exact List.getElem?_eq_getElem hk
  obtain ⟨g1, g2⟩ := out_gd P k _ hk2
  rw [Int.toNat_natCast] at g1
  refine ⟨k, plF_some hk2 g2, fun p hp => ?_⟩
  obtain ⟨j, hj, ej⟩ := List.getElem_of_mem (g1 p hp)
  rw [List.length_take] at hj
  have hj2 : (outL P)[j]? = some p := by
    have h1 : ((outL P).take k)[j]? = some p := by rw [← ej]; exact List.getElem?_eq_getElem (by rw [List.length_take]; exact hj)
    rwa [List.getElem?_take_of_lt (by omega)] at h1
  rw [plF_some hj2 (out_gd P j p hj2).2]
  omega
end Go.Proofs.YthdpomgpcblpeaaGreat

namespace Go.Proofs.YthdpomgpcblpeaaGreat
set_option linter.unusedVariables false
open Go.RowKit Go.Shelf Go.Lib Go.Sort
/-- All that is near a point, as the program lays it end to end. -/
def nearK (P : List (List Int)) (n a k : Nat) : List Int := P.getD a [] ++ chF P a n ++ (((chF P a n).take k).map fun c => P.getD c.toNat []).flatten
def blE (P : List (List Int)) (n : Nat) (a : Int) : Int := if ckE P ≠ 0 then ckE P else if noPt (n : Int) a = true then 3 else 0
def blR (P : List (List Int)) (n : Nat) (a : Int) : List Int := if blE P n a = 0 then (ofR (nearK P n a.toNat n)).filter fun z => decide (z ∈ [a]) == false else []
theorem nearK_succ {P : List (List Int)} {n a k : Nat} {c : Int} (h : (chF P a n)[k]? = some c) : nearK P n a (k + 1) = nearK P n a k ++ P.getD c.toNat [] := by
  unfold nearK
  rw [List.take_add_one, h]
  simp only [Option.toList_some, List.map_append, List.map_cons, List.map_nil, List.flatten_append, List.flatten_cons, List.flatten_nil, List.append_nil, List.append_assoc]
theorem flat_len {L : List (List Int)} {m : Nat} (h : ∀ l ∈ L, l.length ≤ m) : L.flatten.length ≤ L.length * m := by
  induction L with
  | nil => simp
  | cons x L ih =>
    have h1 := h x (by simp)
    have h2 := ih fun l hl => h l (by simp [hl])
    rw [List.flatten_cons, List.length_append, List.length_cons, Nat.add_mul, Nat.one_mul]
    omega
theorem nearK_len {P : List (List Int)} {n a k : Nat} (hl : ∀ i, (P.getD i []).length ≤ n) (hb : n ≤ 300) : (nearK P n a k).length ≤ 90600 := by
  have h1 := hl a
  have h2 := chF_len P a n
  have h3 : ((((chF P a n).take k).map fun c => P.getD c.toNat []).flatten).length ≤ _ := flat_len (m := 300) (fun l hl2 => by
    obtain ⟨c, _, e⟩ := List.mem_map.1 hl2
    have := hl c.toNat
    rw [← e]; omega)
  have h4 : (((chF P a n).take k).map fun c => P.getD c.toNat []).length ≤ 300 := by rw [List.length_map, List.length_take]; omega
  unfold nearK
  rw [List.length_append, List.length_append]
  omega
theorem nearK_all {P : List (List Int)} {n a k : Nat} (h : (chF P a n).length ≤ k) : nearK P n a k = nearK P n a n := by
  unfold nearK
  rw [List.take_of_length_le h, List.take_of_length_le (chF_len P a n)]
theorem chF_memS {P : List (List Int)} {j i : Nat} {c : Int} (h : c ∈ chF P j i) : ∃ q : Nat, c = (q : Int) ∧ q < i ∧ (j : Int) ∈ P.getD q [] := by
  unfold chF at h
  obtain ⟨q, hq, e⟩ := List.mem_map.1 h
  rw [List.mem_filter] at hq
  exact ⟨q, e.symm, List.mem_range.1 hq.1, of_decide_eq_true hq.2⟩
theorem rr_two {w : World} {gb : Nat} {x y : Value} {X Y : List Int} (hr : OG id w.heap.size 23 (w.alloc (.cells #[x, y] 23)) (.slice (some ⟨gb, 0, none⟩) 2 2) [x, y]) (hx : RG (Value.int .i64) w x X) (hy : RG (Value.int .i64) w y Y) : RR (Value.int .i64) (w.alloc (.cells #[x, y] 23)) (.slice (some ⟨gb, 0, none⟩) 2 2) [X, Y] :=
  ⟨[x, y], hr.rg, rfl, fun i u L hu hL => by
    match i, hu, hL with
    | 0, hu, hL => simp at hu hL; subst hu; subst hL; exact hx.alloc _
    | 1, hu, hL => simp at hu hL; subst hu; subst hL; exact hy.alloc _
    | i + 2, hu, _ => simp at hu⟩
end Go.Proofs.YthdpomgpcblpeaaGreat

namespace Go.Proofs.YthdpomgpcblpeaaGreat
set_option linter.unusedVariables false
open Go.RowKit
/-- What is wrong with parents, and with the points that are named. -/
def bdE (P : List (List Int)) (n : Nat) (zs : List Int) : Int := if ckE P ≠ 0 then ckE P else if noPts (n : Int) zs = true then 3 else 0
theorem blE_bd (P : List (List Int)) (n : Nat) (a : Int) : blE P n a = bdE P n [a] := by
  unfold blE bdE
  have : noPts (n : Int) [a] = noPt (n : Int) a := by simp [noPts]
  rw [this]
theorem noPts_step {m : Int} {zs : List Int} {k : Nat} {x : Int} (h : zs[k]? = some x) : noPts m (zs.take (k + 1)) = (noPts m (zs.take k) || noPt m x) := by
  unfold noPts
  rw [List.take_add_one, h]
  simp
theorem noPts_hit {m : Int} {zs : List Int} {k : Nat} {x : Int} (h : zs[k]? = some x) (hx : noPt m x = true) : noPts m zs = true := List.any_eq_true.2 ⟨x, List.mem_of_getElem? h, hx⟩
/-- Is a point near another one: by the document's words, points that both are parents of being gone through up to c. -/
def nrB (P : List (List Int)) (a p c : Nat) : Bool := (decide ((p : Int) ∈ P.getD a []) || decide ((a : Int) ∈ P.getD p [])) || (List.range c).any fun c => decide ((a : Int) ∈ P.getD c []) && decide ((p : Int) ∈ P.getD c [])
theorem nrB_zero (P : List (List Int)) (a p : Nat) : nrB P a p 0 = (decide ((p : Int) ∈ P.getD a []) || decide ((a : Int) ∈ P.getD p [])) := by simp [nrB]
theorem nrB_succ (P : List (List Int)) (a p c : Nat) : nrB P a p (c + 1) = (nrB P a p c || (decide ((a : Int) ∈ P.getD c []) && decide ((p : Int) ∈ P.getD c []))) := by
  unfold nrB
  rw [List.range_succ, List.any_append, ← Bool.or_assoc]
  congr 1
  rw [List.any_cons, List.any_nil, Bool.or_false]
def nrL (P : List (List Int)) (a n p : Nat) : List Int := ((List.range p).filter fun q => nrB P a q n && !(q == a)).map Int.ofNat
theorem nrL_succ (P : List (List Int)) (a n p : Nat) : nrL P a n (p + 1) = nrL P a n p ++ if (nrB P a p n && !(p == a)) = true then [(p : Int)] else [] := by
  unfold nrL
  rw [List.range_succ, List.filter_append, List.map_append]
  congr 1
  cases h : (nrB P a p n && !(p == a)) with
  | true => rw [List.filter_cons, if_pos h]; rfl
  | false => rw [List.filter_cons, if_neg (by rw [h]; decide)]; rfl
theorem nrL_len (P : List (List Int)) (a n p : Nat) : (nrL P a n p).length ≤ p := by
  unfold nrL
  rw [List.length_map]
  exact Nat.le_trans (List.length_filter_le _ _) (by simp)
theorem rise_rangeF (f : Nat → Bool) (p : Nat) : Rise (((List.range p).filter f).map Int.ofNat) := by
  induction p with
  | zero => exact rise_nil
  | succ p ih =>
    rw [List.range_succ, List.filter_append, List.map_append]
    refine List.pairwise_append.2 ⟨ih, ?_, fun x hx y hy => ?_⟩
    · cases h : f p <;> simp [h]
    · obtain ⟨q, hq, rfl⟩ := List.mem_map.1 hx
      obtain ⟨r, hr, rfl⟩ := List.mem_map.1 hy
      have h1 := List.mem_range.1 (List.mem_filter.1 hq).1
      have h2 : r = p := by simpa using (List.mem_filter.1 hr).1
      show (q : Int) < (r : Int)
      omega
/-- The two ways tell the same points. -/
theorem nrL_near {P : List (List Int)} {n a : Nat} (hn : P.length = n) (ha : a < n) (hout : ∀ (i : Nat) (x : Int), x ∈ P.getD i [] → ∃ p : Nat, x = (p : Int) ∧ p < n) : nrL P a n n = (ofR (nearK P n a n)).filter fun z => decide (z ∈ [(a : Int)]) == false := by
  refine rise_ext (rise_rangeF _ n) (List.Pairwise.sublist List.filter_sublist (rise_ofR _)) fun z => ?_
  have hmem : ∀ q : Nat, (q : Int) ∈ nearK P n a n ↔ (nrB P a q n = true ∧ q < n) := fun q => by
    unfold nearK nrB
    rw [List.take_of_length_le (chF_len P a n)]
    simp only [List.mem_append, List.mem_flatten, List.mem_map, Bool.or_eq_true, List.any_eq_true, Bool.and_eq_true, decide_eq_true_eq, List.mem_range]
    constructor
    · rintro ((h | h) | ⟨l, ⟨c, hc, rfl⟩, h⟩)
      · obtain ⟨p, e, hp⟩ := hout a _ h
        exact ⟨Or.inl (Or.inl h), by omega⟩
      · obtain ⟨i, e, hi, h2⟩ := chF_memS h
        have e2 : i = q := by omega
        subst e2
        exact ⟨Or.inl (Or.inr h2), hi⟩
      · obtain ⟨i, rfl, hi, h2⟩ := chF_memS hc
        obtain ⟨p, e, hp⟩ := hout _ _ h
        exact ⟨Or.inr ⟨i, hi, h2, h⟩, by omega⟩
    · rintro ⟨(h | h) | ⟨i, hi, h2, h⟩, hq⟩
      · exact Or.inl (Or.inl h)
      · exact Or.inl (Or.inr (chF_mem.2 ⟨q, hq, rfl, h⟩))
      · exact Or.inr ⟨_, ⟨(i : Int), chF_mem.2 ⟨i, hi, rfl, h2⟩, rfl⟩, h⟩
  have hin : ∀ z, z ∈ nearK P n a n → ∃ q : Nat, z = (q : Int) := fun z hz => by
    unfold nearK at hz
    simp only [List.mem_append, List.mem_flatten, List.mem_map] at hz
    rcases hz with (h | h) | ⟨l, ⟨c, hc, rfl⟩, h⟩
    · obtain ⟨p, e, _⟩ := hout a _ h; exact ⟨p, e⟩
    · obtain ⟨i, e, _⟩ := chF_memS h; exact ⟨i, e⟩
    · obtain ⟨p, e, _⟩ := hout _ _ h; exact ⟨p, e⟩
  rw [List.mem_filter, mem_ofR]
  constructor
  · intro hz
    unfold nrL at hz
    obtain ⟨q, hq, rfl⟩ := List.mem_map.1 hz
    rw [List.mem_filter, List.mem_range, Bool.and_eq_true, Bool.not_eq_true', beq_eq_false_iff_ne] at hq
    refine ⟨(hmem q).2 ⟨hq.2.1, hq.1⟩, ?_⟩
    have : ¬ ((q : Int) = (a : Int)) := by omega
    show (decide ((q : Int) ∈ [(a : Int)]) == false) = true
    simp [this]
  · rintro ⟨hz, hna⟩
    obtain ⟨q, rfl⟩ := hin z hz
    have h1 := (hmem q).1 hz
    have hne : q ≠ a := fun e => by subst e; simp at hna
    unfold nrL
    exact List.mem_map.2 ⟨q, List.mem_filter.2 ⟨List.mem_range.2 h1.2, by rw [Bool.and_eq_true, Bool.not_eq_true', beq_eq_false_iff_ne]; exact ⟨h1.1, hne⟩⟩, rfl⟩
end Go.Proofs.YthdpomgpcblpeaaGreat

namespace Go.Proofs.YthdpomgpcblpeaaGreat
set_option linter.unusedVariables false
open Go.RowKit Go.Shelf Go.Sort Go.Lib
/-- No point hangs on one that hangs on it. -/
theorem no_two {P : List (List Int)} (h : ckE P = 0) {i j : Nat} (hi : i < P.length) (hj : j < P.length) (h1 : (i : Int) ∈ P.getD j []) (h2 : (j : Int) ∈ P.getD i []) : False := by
  have hl : (outL P).length = P.length := by
    have hc := ck_zero h
    unfold ckE at h
    rw [if_pos hc] at h
    by_cases h3 : (outL P).length < P.length
    · rw [if_pos h3] at h; simp at h
    · have hpn : Pts P.length ([] : List Int) := ⟨List.nodup_nil, by simp⟩
      have hP : Pts P.length (outL P) := (out_all (P := P) P.length [] hpn).2.1
      have h4 := hP.len
      omega
  obtain ⟨k, hk, hp⟩ := out_place hl hi
  obtain ⟨m, hm, hq⟩ := out_place hl hj
  have a1 := hp _ h2
  have a2 := hq _ h1
  rw [hk] at a2
  rw [hm] at a1
  omega
theorem raw_apart {P : List (List Int)} {n : Nat} (h : ckE P = 0) (hn : P.length = n) (G A : List Int) (s : Stp) : (rawS P n G A s).Pairwise (fun a b => a.1 ≠ b.1) := by
  have hz := cl_zero (ck_zero h)
  have hnd := twices_no hz.2 s.1.toNat
  have hch : (chF P s.1.toNat n).Nodup := (rise_rangeF _ n).imp (fun h e => by omega)
  have steps : ∀ (L : List Int) (d : Bool), L.Nodup → (stepsTo L d).Pairwise (fun a b => a.1 ≠ b.1) := fun L d hL => List.pairwise_map.2 hL
  unfold rawS
  refine List.pairwise_append.2 ⟨?_, ?_, fun a ha b hb e => ?_⟩
  · split
    · exact List.Pairwise.nil
    · exact steps _ _ hch
  · split
    · exact steps _ _ hnd
    · exact List.Pairwise.nil
  · split at ha
    · simp at ha
    · split at hb
      · obtain ⟨x, hx, rfl⟩ := List.mem_map.1 ha
        obtain ⟨y, hy, rfl⟩ := List.mem_map.1 hb
        have e2 : x = y := e
        subst e2
        obtain ⟨i, hi, rfl, h1⟩ := chF_mem.1 hx
        obtain ⟨q, hq, hqn⟩ := outs_no hz.1 _ _ hy
        have hs : s.1.toNat < P.length := by
          by_cases hl : s.1.toNat < P.length
          · exact hl
          · rw [List.getD_eq_getElem?_getD, List.getElem?_eq_none (by omega)] at hy
            simp at hy
        exact no_two h (by omega) hs hy h1
      · simp at hb
theorem hdis_any {P : List (List Int)} {n : Nat} {G : List Int} (hn : P.length = n) (h : nsE P n G = 0) (A : List Int) (s : Stp) : (rawS P n G A s).Pairwise (fun a b => a.1 ≠ b.1) := by
  refine raw_apart ?_ hn G A s
  unfold nsE at h
  by_cases h1 : ckE P = 0
  · exact h1
  · rw [if_pos h1] at h; exact h
theorem ends_mem {L : List (Stp × Stp)} {G : List Int} {x : Int} (h : x ∈ endsL L G) : ∃ s ∈ L.map (·.1), s.1 = x := by
  unfold endsL minusR at h
  have h1 := (List.mem_filter.1 h).1
  rw [mem_ofR] at h1
  obtain ⟨e, he, rfl⟩ := List.mem_map.1 h1
  exact ⟨e.1, List.mem_map.2 ⟨e, he, rfl⟩, rfl⟩
def trR (L : List (Stp × Stp)) (b : Int) (G : List Int) : List Int := if b ∈ endsL L G then trlP L b else []
end Go.Proofs.YthdpomgpcblpeaaGreat

namespace Go.Proofs.YthdpomgpcblpeaaGreat
set_option linter.unusedVariables false
open Go.RowKit Go.Shelf Go.Sort Go.Lib
/-- To what steps lead from some points. -/
inductive StR (nx : Stp → List Stp) (a : List Int) : Stp → Prop
  | start {p : Int} : p ∈ a → StR nx a (p, false)
  | step {s t : Stp} : StR nx a s → t ∈ nx s → StR nx a t
theorem rchP_mem {ahead s t : Stp} {L : List (Stp × Stp)} : t ∈ (rchP ahead L s).map (·.1) ↔ t ∈ L.map (·.1) ∨ t = s := by
  unfold rchP
  split
  · rename_i h
    constructor
    · exact Or.inl
    · rintro (h1 | h1)
      · exact h1
      · rw [h1]; exact h
  · rw [List.map_append, List.mem_append]; simp
theorem fold_mem {ahead t : Stp} : ∀ (N : List Stp) {L : List (Stp × Stp)}, t ∈ (N.foldl (rchP ahead) L).map (·.1) ↔ t ∈ L.map (·.1) ∨ t ∈ N
  | [], L => by simp
  | s :: N, L => by
    rw [List.foldl_cons, fold_mem N, rchP_mem, List.mem_cons]
    constructor
    · rintro ((h | h) | h)
      · exact Or.inl h
      · exact Or.inr (Or.inl h)
      · exact Or.inr (Or.inr h)
    · rintro (h | h | h)
      · exact Or.inl (Or.inl h)
      · exact Or.inl (Or.inr h)
      · exact Or.inr h
theorem start_mem {t : Stp} : ∀ (a : List Int) {L : List (Stp × Stp)}, t ∈ (a.foldl (fun L p => rchP (p, false) L (p, false)) L).map (·.1) ↔ t ∈ L.map (·.1) ∨ ∃ p ∈ a, t = (p, false)
  | [], L => by simp
  | x :: a, L => by
    rw [List.foldl_cons, start_mem a, rchP_mem]
    constructor
    · rintro ((h | h) | ⟨p, hp, h⟩)
      · exact Or.inl h
      · exact Or.inr ⟨x, by simp, h⟩
      · exact Or.inr ⟨p, by simp [hp], h⟩
    · rintro (h | ⟨p, hp, h⟩)
      · exact Or.inl (Or.inl h)
      · rcases List.mem_cons.1 hp with e | e
        · exact Or.inl (Or.inr (by rw [h, e]))
        · exact Or.inr ⟨p, e, h⟩
/-- What is reached is led to. -/
theorem bfs_sound {nx : Stp → List Stp} {a : List Int} : ∀ (f k : Nat) (L : List (Stp × Stp)), (∀ t ∈ L.map (·.1), StR nx a t) → ∀ t ∈ (bfsP nx f k L).map (·.1), StR nx a t
  | 0, _, _, h => h
  | f + 1, k, L, h => by
    rw [bfsP]
    split
    · exact h
    · rename_i e he
      refine bfs_sound f (k + 1) _ fun t ht => ?_
      rcases (fold_mem _).1 ht with h1 | h1
      · exact h t h1
      · exact StR.step (h e.1 (List.mem_map.2 ⟨e, List.mem_of_getElem? he, rfl⟩)) h1
theorem bfs_more {nx : Stp → List Stp} {t : Stp} : ∀ (f k : Nat) (L : List (Stp × Stp)), t ∈ L.map (·.1) → t ∈ (bfsP nx f k L).map (·.1)
  | 0, _, _, h => h
  | f + 1, k, L, h => by
    rw [bfsP]
    split
    · exact h
    · exact bfs_more f (k + 1) _ ((fold_mem _).2 (Or.inl h))
/-- Whatever follows on what is reached is reached. -/
theorem bfs_shut {n : Nat} {nx : Stp → List Stp} (hnx : ∀ s t, t ∈ nx s → ∃ p : Nat, t.1 = (p : Int) ∧ p < n) : ∀ (f k : Nat) (L : List (Stp × Stp)), KeyP n L → 2 * n + 1 ≤ f + k → k ≤ L.length →
    (∀ (i : Nat) (e : Stp × Stp), i < k → L[i]? = some e → ∀ t ∈ nx e.1, t ∈ L.map (·.1)) → ∀ s ∈ (bfsP nx f k L).map (·.1), ∀ t ∈ nx s, t ∈ (bfsP nx f k L).map (·.1)
  | 0, k, L, hk, hf, hkl, h => by have := hk.len; omega
  | f + 1, k, L, hk, hf, hkl, h => by
    rw [bfsP]
    split
    · rename_i he
      have hl : L.length ≤ k := by
        by_cases h1 : L.length ≤ k
        · exact h1
        · rw [List.getElem?_eq_getElem (by omega)] at he; simp at he
      intro s hs t ht
      obtain ⟨e, he2, rfl⟩ := List.mem_map.1 hs
      obtain ⟨i, hi, hie⟩ := List.getElem_of_mem he2
      exact h i e (by omega) (by rw [List.getElem?_eq_getElem hi, hie]) t ht
    · rename_i e he
      have hkl2 := (List.getElem?_eq_some_iff.1 he).1
      refine bfs_shut hnx f (k + 1) _ (hk.fold _ _ (hnx _)) (by omega) (Nat.le_trans hkl2 (rchP_fold_le _ _ _)) fun i e2 hi he2 t ht => ?_
      by_cases hik : i < k
      · have hold : L[i]? = some e2 := by
          have h1 : L[i]? = some L[i] := List.getElem?_eq_getElem (by omega)
          have h2 := fold_at (ahead := e.1) (nx e.1) h1
          rw [h2] at he2
          rw [h1, Option.some.inj he2]
        exact (fold_mem _).2 (Or.inl (h i e2 hik hold t ht))
      · have e0 : i = k := by omega
        subst e0
        have h2 := fold_at (ahead := e.1) (nx e.1) he
        rw [h2] at he2
        have e3 := Option.some.inj he2
        subst e3
        exact (fold_mem _).2 (Or.inr ht)
theorem wk_mem {P : List (List Int)} {n : Nat} {a G : List Int} (A : List Int) (hn : P.length = n) (h : wkE P n a G = 0) (s : Stp) : s ∈ (wkL P n a G A).map (·.1) ↔ StR (nxS P n G A) a s := by
  obtain ⟨h1, h2, h3⟩ := wk_parts h
  have hz := outs_no (cl_zero (ck_zero h1)).1
  have hP : ∀ (i : Nat) (x : Int), x ∈ P.getD i [] → ∃ p : Nat, x = (p : Int) ∧ p < n := fun i x hx => by have := hz i x hx; rw [hn] at this; exact this
  have hkey : KeyP n (stP a) := KeyP.start a (KeyP.nil n) (noPts_pt h3)
  constructor
  · refine bfs_sound _ _ _ (fun t ht => ?_) s
    rcases (start_mem a).1 ht with h4 | ⟨p, hp, rfl⟩
    · simp at h4
    · exact StR.start hp
  · intro hs
    induction hs with
    | start hp => exact bfs_more _ _ _ ((start_mem a).2 (Or.inr ⟨_, hp, rfl⟩))
    | step _ ht ih => exact bfs_shut (fun s t ht => rawS_pt hP ht) _ 0 _ hkey (by omega) (Nat.zero_le _) (fun i e hi => absurd hi (by omega)) _ ih _ ht
/-- Which steps follow on one. -/
theorem nx_mem {P : List (List Int)} {n : Nat} {G A : List Int} {s t : Stp} : t ∈ nxS P n G A s ↔ (s.1 ∉ G ∧ t.2 = true ∧ t.1 ∈ chF P s.1.toNat n) ∨ (((s.2 = true ∧ s.1 ∈ A) ∨ (s.2 = false ∧ s.1 ∉ G)) ∧ t.2 = false ∧ t.1 ∈ P.getD s.1.toNat []) := by
  unfold nxS
  rw [srtP_mem]
  unfold rawS
  rw [List.mem_append]
  obtain ⟨x, d⟩ := t
  constructor
  · rintro (h | h)
    · split at h
      · simp at h
      · rename_i hg
        obtain ⟨y, hy, e⟩ := List.mem_map.1 h
        simp only [Prod.mk.injEq] at e
        exact Or.inl ⟨hg, e.2.symm, by rw [← e.1]; exact hy⟩
    · split at h
      · rename_i hc
        obtain ⟨y, hy, e⟩ := List.mem_map.1 h
        simp only [Prod.mk.injEq] at e
        exact Or.inr ⟨hc, e.2.symm, by rw [← e.1]; exact hy⟩
      · simp at h
  · rintro (⟨h1, h2, h3⟩ | ⟨h1, h2, h3⟩)
    · left
      rw [if_neg h1]
      exact List.mem_map.2 ⟨x, h3, by simp only at h2; rw [h2]⟩
    · right
      rw [if_pos h1]
      exact List.mem_map.2 ⟨x, h3, by simp only at h2; rw [h2]⟩
/-- One point tells something of another: a step at it is led to. -/
def TelP (P : List (List Int)) (n : Nat) (G A a : List Int) (x : Int) : Prop := x ∉ G ∧ ∃ d, StR (nxS P n G A) a (x, d)
theorem ends_iff {P : List (List Int)} {n : Nat} {a G : List Int} (A : List Int) (hn : P.length = n) (h : wkE P n a G = 0) (x : Int) : x ∈ endsL (wkL P n a G A) G ↔ TelP P n G A a x := by
  unfold endsL minusR TelP
  rw [List.mem_filter, mem_ofR]
  constructor
  · rintro ⟨h1, h2⟩
    obtain ⟨e, he, rfl⟩ := List.mem_map.1 h1
    refine ⟨?_, e.1.2, (wk_mem A hn h e.1).1 (List.mem_map.2 ⟨e, he, rfl⟩)⟩
    simp only [mem_ofR, Bool.not_eq_true', decide_eq_false_iff_not] at h2
    exact h2
  · rintro ⟨h1, d, h2⟩
    obtain ⟨e, he, e2⟩ := List.mem_map.1 ((wk_mem A hn h _).2 h2)
    refine ⟨List.mem_map.2 ⟨e, he, by rw [e2]⟩, ?_⟩
    simp only [mem_ofR, Bool.not_eq_true', decide_eq_false_iff_not]
    exact h1
theorem str_any {nx : Stp → List Stp} {a : List Int} {s : Stp} : StR nx a s ↔ ∃ p ∈ a, StR nx [p] s := by
  constructor
  · intro h
    induction h with
    | start hp => exact ⟨_, hp, StR.start (by simp)⟩
    | step _ ht ih => obtain ⟨p, hp, h1⟩ := ih; exact ⟨p, hp, StR.step h1 ht⟩
  · rintro ⟨p, hp, h⟩
    induction h with
    | start hq => have e := List.mem_singleton.1 hq; rw [e]; exact StR.start hp
    | step _ ht ih => exact StR.step ih ht
/-- The way back: where a step's point may be left toward where it was come from, what it was begun with is led to. -/
theorem str_back {P : List (List Int)} {n : Nat} {G A : List Int} (hn : P.length = n) (hP : ∀ (i : Nat) (x : Int), x ∈ P.getD i [] → ∃ p : Nat, x = (p : Int) ∧ p < n) {a b : Int} (ha : ∃ p : Nat, a = (p : Int) ∧ p < n) {s : Stp} (h : StR (nxS P n G A) [a] s) :
    (∃ p : Nat, s.1 = (p : Int) ∧ p < n) ∧ ((∃ e, StR (nxS P n G A) [b] (s.1, e) ∧ (if s.2 = true then ((e = true ∧ s.1 ∈ A) ∨ (e = false ∧ s.1 ∉ G)) else s.1 ∉ G)) → ∃ e, StR (nxS P n G A) [b] (a, e)) := by
  induction h with
  | start hp =>
    have e := List.mem_singleton.1 hp
    subst e
    exact ⟨ha, fun ⟨e, he, _⟩ => ⟨e, he⟩⟩
  | @step s t hs ht ih =>
    obtain ⟨⟨u, hu, hun⟩, ih⟩ := ih
    obtain ⟨sx, sd⟩ := s
    obtain ⟨tx, td⟩ := t
    simp only at hu
    subst hu
    rcases nx_mem.1 ht with ⟨h1, h2, h3⟩ | ⟨h1, h2, h3⟩
    · simp only at h1 h2 h3
      subst h2
      rw [Int.toNat_natCast] at h3
      obtain ⟨v, hv, rfl, huv⟩ := chF_mem.1 h3
      refine ⟨⟨v, rfl, hv⟩, fun ⟨e, he, hc⟩ => ih ⟨false, StR.step he (nx_mem.2 (Or.inr ⟨?_, rfl, ?_⟩)), ?_⟩⟩
      · simpa using hc
      · simp only [Int.toNat_natCast]; exact huv
      · simp only
        split
        · exact Or.inr ⟨by simp, h1⟩
        · exact h1
    · simp only at h1 h2 h3
      subst h2
      rw [Int.toNat_natCast] at h3
      obtain ⟨v, rfl, hv⟩ := hP _ _ h3
      refine ⟨⟨v, rfl, hv⟩, fun ⟨e, he, hc⟩ => ih ⟨true, StR.step he (nx_mem.2 (Or.inl ⟨by simpa using hc, rfl, ?_⟩)), ?_⟩⟩
      · simp only [Int.toNat_natCast]; exact chF_mem.2 ⟨u, hun, rfl, h3⟩
      · simp only
        cases sd with
        | true =>
          rw [if_pos rfl]
          refine Or.inl ⟨by simp, ?_⟩
          rcases h1 with h4 | h4
          · exact h4.2
          · simp at h4
        | false =>
          rw [if_neg (by decide)]
          rcases h1 with h4 | h4
          · simp at h4
          · exact h4.2
/-- What tells something of another is told something of by it. -/
theorem tel_even {P : List (List Int)} {n : Nat} {G A : List Int} (hn : P.length = n) (hP : ∀ (i : Nat) (x : Int), x ∈ P.getD i [] → ∃ p : Nat, x = (p : Int) ∧ p < n) {a b : Int} (ha : ∃ p : Nat, a = (p : Int) ∧ p < n) (h : TelP P n G A [a] b) : TelP P n G A [b] a := by
  obtain ⟨hb, d, hd⟩ := h
  refine ⟨fun hg => ?_, ?_⟩
  · have key : ∀ s, StR (nxS P n G A) [a] s → s = (a, false) := fun s hs => by
      induction hs with
      | start hp => rw [List.mem_singleton.1 hp]
      | step _ ht ih =>
        rw [ih] at ht
        rcases nx_mem.1 ht with ⟨h1, _⟩ | ⟨h1 | h1, _⟩
        · exact absurd hg h1
        · simp at h1
        · exact absurd hg h1.2
    have e := key _ hd
    simp only [Prod.mk.injEq] at e
    rw [e.1] at hb
    exact hb hg
  · refine (str_back hn hP ha hd).2 ⟨false, StR.start (by simp), ?_⟩
    split
    · exact Or.inr ⟨rfl, hb⟩
    · exact hb
end Go.Proofs.YthdpomgpcblpeaaGreat

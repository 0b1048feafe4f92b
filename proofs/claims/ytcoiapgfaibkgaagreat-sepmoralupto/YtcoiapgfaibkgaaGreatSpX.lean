/-
  Proved here: slices.Reverse, slices.IndexFunc at steps; the ways back of a search by breadth.
-/
import Derived.Test.YtcoiapgfaibkgaaGreatSpWAll
import Derived.Test.YtcoiapgfaibkgaaGreatSpRv
import Derived.Test.YtcoiapgfaibkgaaGreatSpQAll
namespace Go.Proofs.YtcoiapgfaibkgaaGreat
set_option linter.unusedVariables false
open Go.RowKit Go.Shelf Go.Sort Go.Lib
theorem revI (B : Nat) (w : World) (g n cap : Nat) (zs : List Int) (hn : zs.length = n) (h : OG (Value.int .i64) B 3 w (.slice (some ⟨g, 0, none⟩) n cap) zs) (hl : n ≤ 1000000) :
    Calls Tryz.prog 69 #[.slice (some ⟨g, 0, none⟩) n cap] w fun e w' => e = .returned (.tuple #[]) ∧ OG (Value.int .i64) B 3 w' (.slice (some ⟨g, 0, none⟩) n cap) zs.reverse ∧ w.grownBy w' (some g) := by
  subst hn
  have hr := h.row1 (fun _ => rfl)
  have hcon := Any.slices_Reverse_int Tryz.revA g 0 cap zs w hr.hH (by omega)
  change Calls Tryz.prog 69 _ _ _ at hcon
  refine hcon.mono ?_
  rintro e w' ⟨he, m, rfl⟩
  have h2 := h.sw (zs' := zs.reverse) (w' := putRow (Value.int .i64) (Sort.ahead w m) g 0 zs.reverse.toArray) (by simp) ⟨m, #[], by unfold sortWorld; rw [grow_empty]⟩
  exact ⟨he, h2.1, h2.2⟩
set_option maxRecDepth 1000000 in
set_option maxHeartbeats 1600000 in
theorem isEnd (cb : Nat) (x : Int) (s : Stp) (w : World) (hc : w.cell? ⟨cb, 0, none⟩ = some (.int .i64 x)) :
    Calls Tryz.prog 68 #[.agg #[.int .i64 s.1, .bool s.2], .pointer (some ⟨cb, 0, none⟩)] w fun e w' => e = .returned (.bool (s.1 == x)) ∧ Below w.heap.size w w' := by
  obtain ⟨w1, hw1⟩ : ∃ W, W = w.alloc (.cells #[.int .i64 s.1, .bool s.2] 80) := ⟨_, rfl⟩
  obtain ⟨g, hg⟩ : ∃ g, g = w.heap.size := ⟨_, rfl⟩
  have b1 : Below w.heap.size w w1 := by rw [hw1]; exact belowB _ _
  have c1 : w1.cell? ⟨cb, 0, none⟩ = some (.int .i64 x) := keepR b1 hc
  have c2 : w1.cell? ⟨g, 0, none⟩ = some (.int .i64 s.1) := by rw [hw1, hg, World.cell?_alloc_at _ _ _ _ rfl]; rfl
  have HB : Hid (Below w.heap.size w w1) := b1
  have HW : Hid (w1 = w.alloc (.cells #[.int .i64 s.1, .bool s.2] 80)) := hw1
  have HG : Hid (g = w.heap.size) := hg
  clear hw1 hg b1 hc
  go_enter Tryz.func68, Tryz.ntmps68
  go_upto_region 1 with fail
  rw [← HW.out, ← HG.out]
  clear HW HG
  go_wp2
  go_ret
  exact ⟨rfl, HB.out⟩
theorem idx_take {ss : List Stp} {k : Nat} {s : Stp} {x : Int} (h : ss[k]? = some s) (hno : ∀ t ∈ ss.take k, t.1 ≠ x) (hs : s.1 = x) : ss.findIdx (fun s => s.1 == x) = k := by
  have hk := (List.getElem?_eq_some_iff.1 h).1
  have he : ss[k] = s := (List.getElem?_eq_some_iff.1 h).2
  rw [List.findIdx_eq hk]
  refine ⟨by rw [he, hs]; simp, fun j hj => ?_⟩
  have := hno ss[j] (List.mem_take_iff_getElem.2 ⟨j, by omega, rfl⟩)
  simpa using this
set_option maxRecDepth 1000000 in
set_option maxHeartbeats 3200000 in
theorem idxS (B cb : Nat) (x : Int) (v : Value) (ss : List Stp) (w : World) (h : OS B w v ss) (hc : w.cell? ⟨cb, 0, none⟩ = some (.int .i64 x)) (hx : ∃ s ∈ ss, s.1 = x) (i0 : Nat) (hi : ss.findIdx (fun s => s.1 == x) = i0) :
    Calls Tryz.prog 67 #[v, .func (.func 68) #[] #[.pointer (some ⟨cb, 0, none⟩)]] w fun e w' => e = .returned (.int .i64 (i0 : Int)) ∧ Below w.heap.size w w' := by
  obtain ⟨ao, cap, rfl, hao, hlc, hcm⟩ := h.sl
  obtain ⟨n, hn⟩ : ∃ n, n = ss.length := ⟨_, rfl⟩
  rw [← hn] at h hao hlc ⊢
  have hnm : n ≤ 9223372036854775807 := by unfold maxLen at hcm; omega
  have HR : Hid (∀ W, Below w.heap.size w W → OS B W (.slice ao n cap) ss) := fun W hW => h.below hW
  have HC : Hid (∀ W, Below w.heap.size w W → W.cell? ⟨cb, 0, none⟩ = some (.int .i64 x)) := fun W hW => keepR hW hc
  have HAO : Hid (0 < n → ∃ g, B ≤ g ∧ ao = some ⟨g, 0, none⟩) := hao
  have HN : Hid (n = ss.length) := hn
  have HI : Hid (ss.findIdx (fun s => s.1 == x) = i0) := hi
  have HX : Hid (∃ s ∈ ss, s.1 = x) := hx
  clear h hc hao hn hi hx hlc
  go_enter Tryz.func67, Tryz.ntmps67
  go_wp2
  go_loopg [5, 8] n (fun g1 _v5 v8 wr => ∃ k : Nat, v8 = .int .i64 k ∧ k ≤ n ∧ n - k ≤ g1 ∧ Hid (∀ t ∈ ss.take k, t.1 ≠ x) ∧ Hid (Below w.heap.size w wr))
  case atStart => exact ⟨0, rfl, Nat.zero_le _, by omega, (by intro t ht; simp at ht), Below.refl _ _⟩
  case round =>
    obtain ⟨k, rfl, hkn, hg1, HNO, HB⟩ := hrel
    by_cases hlt : k < n
    · have hltz : (k : Int) < (n : Int) := by omega
      obtain ⟨go, -, rfl⟩ := HAO.out (by omega)
      obtain ⟨s, hs⟩ : ∃ s, ss[k]? = some s := ⟨_, List.getElem?_eq_getElem (by rw [← HN.out]; exact hlt)⟩
      obtain ⟨c0, c1⟩ := (HR.out wr HB.out).cell hs
      have CE : Hid _ := isEnd cb x s wr (HC.out wr HB.out)
      have HS : Hid (ss[k]? = some s) := hs
      clear hs
      go_wp2_with fail
      refine Calls.mono CE.out ?_
      rintro e y ⟨rfl, hy⟩
      have HY : Hid (Below w.heap.size w y) := bstepB HB.out hy
      clear CE hy c0 c1 HB
      by_cases he : s.1 = x
      · have hb : (s.1 == x) = true := by simpa using he
        have HK : Hid (i0 = k) := by show _ = _; rw [← HI.out]; exact idx_take HS.out HNO.out he
        rw [hb]
        clear he hb
        go_wp2
        go_ret
        exact ⟨by rw [HK.out]; rfl, HY.out⟩
      · have hb : (s.1 == x) = false := by simpa using he
        have HN2 : Hid (∀ t ∈ ss.take (k + 1), t.1 ≠ x) := fun t ht => by
          rw [List.take_add_one, HS.out] at ht
          rcases List.mem_append.1 ht with h1 | h1
          · exact HNO.out t h1
          · simp at h1; rw [h1]; exact he
        rw [hb]
        clear he hb HNO HS
        go_wp2
        go_roundg (n - (k + 1))
        case measure => omega
        case rel => exact ⟨k + 1, by go_num, by omega, Nat.le_refl _, HN2, HY⟩
    · obtain ⟨s, hs, he⟩ := HX.out
      have h1 := HNO.out
      rw [List.take_of_length_le (by rw [← HN.out]; omega)] at h1
      exact absurd he (h1 s hs)
/-- Each step's ahead lies ahead of it, or is itself. -/
def WelP (L : List (Stp × Stp)) : Prop := ∀ (i : Nat) (s v : Stp), L[i]? = some (s, v) → v = s ∨ ∃ (j : Nat) (u : Stp), j < i ∧ L[j]? = some (v, u)
theorem WelP.nil : WelP [] := fun i s v h => by simp at h
theorem WelP.rch {L : List (Stp × Stp)} (h : WelP L) {ahead s : Stp} (ha : ahead = s ∨ ∃ (j : Nat) (u : Stp), L[j]? = some (ahead, u)) : WelP (rchP ahead L s) := by
  unfold rchP
  split
  · exact h
  · intro i t v hi
    by_cases hl : i < L.length
    · rw [List.getElem?_append_left hl] at hi
      rcases h i t v hi with h1 | ⟨j, u, hj, h2⟩
      · exact Or.inl h1
      · exact Or.inr ⟨j, u, hj, by rw [List.getElem?_append_left (by omega)]; exact h2⟩
    · have h3 := (List.getElem?_eq_some_iff.1 hi).1
      rw [List.length_append, List.length_singleton] at h3
      have e : i = L.length := by omega
      subst e
      rw [List.getElem?_append_right (Nat.le_refl _), Nat.sub_self] at hi
      simp at hi
      obtain ⟨rfl, rfl⟩ := hi
      rcases ha with h1 | ⟨j, u, h2⟩
      · exact Or.inl h1
      · have h4 := (List.getElem?_eq_some_iff.1 h2).1
        exact Or.inr ⟨j, u, h4, by rw [List.getElem?_append_left h4]; exact h2⟩
theorem WelP.fold {ahead : Stp} {k : Nat} {u : Stp} : ∀ (N : List Stp) {L : List (Stp × Stp)}, WelP L → L[k]? = some (ahead, u) → WelP (N.foldl (rchP ahead) L)
  | [], _, h, _ => h
  | s :: N, L, h, hk => by
    rw [List.foldl_cons]
    exact WelP.fold N (WelP.rch h (Or.inr ⟨k, u, hk⟩)) (rchP_at hk)
theorem WelP.start : ∀ (a : List Int) {L : List (Stp × Stp)}, WelP L → WelP (a.foldl (fun L p => rchP (p, false) L (p, false)) L)
  | [], _, h => h
  | x :: a, L, h => by rw [List.foldl_cons]; exact WelP.start a (WelP.rch h (Or.inl rfl))
theorem WelP.bfs {nx : Stp → List Stp} : ∀ (f k : Nat) (L : List (Stp × Stp)), WelP L → WelP (bfsP nx f k L)
  | 0, _, _, h => h
  | f + 1, k, L, h => by
    rw [bfsP]
    split
    · exact h
    · rename_i e he
      exact WelP.bfs f (k + 1) _ (WelP.fold (u := e.2) _ h he)
theorem wkL_wel (P : List (List Int)) (n : Nat) (a G A : List Int) : WelP (wkL P n a G A) := WelP.bfs _ _ _ (WelP.start a WelP.nil)
/-- The step ahead of one. -/
def prP (L : List (Stp × Stp)) (s : Stp) : Stp := ((L.find? fun q => decide (q.1 = s)).map (·.2)).getD (0, false)
theorem prP_at {n : Nat} {L : List (Stp × Stp)} (h : KeyP n L) {i : Nat} {s v : Stp} (hi : L[i]? = some (s, v)) : L.find? (fun q => decide (q.1 = s)) = some (s, v) := by
  have hm : (s, v) ∈ L := List.mem_of_getElem? hi
  cases hf : L.find? (fun q => decide (q.1 = s)) with
  | none => exact absurd (List.find?_eq_none.1 hf _ hm) (by simp)
  | some q =>
    have h0 := List.find?_some hf
    have h1 : q.1 = s := by simpa using h0
    have h2 : q ∈ L := List.mem_of_find?_eq_some hf
    have hnd := h.nd
    rw [List.nodup_iff_pairwise_ne, List.pairwise_map] at hnd
    obtain ⟨j, hj, he⟩ := List.getElem_of_mem h2
    obtain ⟨hi1, hi2⟩ := List.getElem?_eq_some_iff.1 hi
    have hij : i = j := by
      rcases Nat.lt_trichotomy i j with hlt | heq | hgt
      · exact absurd (by rw [hi2, he, h1]) ((List.pairwise_iff_getElem.1 hnd) i j hi1 hj hlt)
      · exact heq
      · exact absurd (by rw [hi2, he, h1]) ((List.pairwise_iff_getElem.1 hnd) j i hj hi1 hgt)
    subst hij
    rw [← he, hi2]
/-- The points of the way back, behind a step. -/
def tlP (L : List (Stp × Stp)) : Nat → Stp → List Int
  | 0, _ => []
  | f + 1, s => if prP L s = s then [] else (prP L s).1 :: tlP L f (prP L s)
theorem tlP_end {L : List (Stp × Stp)} {f : Nat} {s : Stp} (h : prP L s = s) : tlP L f s = [] := by
  cases f with
  | zero => rfl
  | succ f => rw [tlP, if_pos h]
theorem tlP_len (L : List (Stp × Stp)) : ∀ (f : Nat) (s : Stp), (tlP L f s).length ≤ f
  | 0, _ => Nat.le_refl _
  | f + 1, s => by
    rw [tlP]
    split
    · simp
    · rw [List.length_cons]; have := tlP_len L f (prP L s); omega
end Go.Proofs.YtcoiapgfaibkgaaGreat

/-
  Proved here: slices.SortFunc at steps: the row holds them by rising points.
  Proved here: mathematics of lists from which what repeats its forerunner is left out (no program); and a few plain facts on rows of the call's own.
-/
import Derived.Test.YthdpomgpcblpeaaGreatSpQAll
import Derived.Test.YthdpomgpcblpeaaGreatSpSl
import Derived.Shelf.SlSortCmp.NoneTotal
import Derived.Lib.SliceRun
namespace Go.Proofs.YthdpomgpcblpeaaGreat
set_option linter.unusedVariables false
open Go.RowKit Go.Shelf Go.Sort Go.Lib
instance : Inhabited Stp := ⟨(0, false)⟩
theorem flatK_flS (d : Array Stp) : (flatK encS 2 d).toList = flS d.toList := by
  apply List.ext_getElem?
  intro i
  by_cases hi : i < d.size * 2
  · have hj : i / 2 < d.toList.length := by rw [Array.length_toList]; omega
    have hg := flS_get (ss := d.toList) (i := i / 2) (s := d.toList[i / 2]) (List.getElem?_eq_getElem hj)
    have hs : (flatK encS 2 d).size = d.size * 2 := by simp
    have hd : d[i / 2]! = d.toList[i / 2] := by rw [getElem!_pos d (i / 2) (by simpa using hj)]; simp
    have h1 : (flatK encS 2 d).toList[i]? = some ((encS d[i / 2]!)[i % 2]!) := by
      rw [Array.getElem?_toList, Array.getElem?_eq_getElem (by rw [hs]; exact hi), ← getElem!_pos (flatK encS 2 d) i (by rw [hs]; exact hi), get_flatK encS 2 d i hi]
    rw [h1, hd]
    generalize d.toList[i / 2] = x at hg
    rcases Nat.mod_two_eq_zero_or_one i with h2 | h2
    · have e : i / 2 * 2 = i := by omega
      rw [e] at hg
      rw [h2, hg.1]
      simp [encS]
    · have e : i / 2 * 2 + 1 = i := by omega
      rw [e] at hg
      rw [h2, hg.2]
      simp [encS]
  · rw [List.getElem?_eq_none (by rw [Array.length_toList]; simp; omega), List.getElem?_eq_none (by rw [flS_len, Array.length_toList]; omega)]
theorem OS.holds {B g n cap : Nat} {w : World} {ss : List Stp} (h : OS B w (.slice (some ⟨g, 0, none⟩) n cap) ss) : HoldsK encS 2 w g 0 ss.toArray := by
  intro j hj
  have hj2 : j < (flS ss).length := by rw [flS_len]; simp at hj; omega
  obtain ⟨cs, hc⟩ := h.blockE rfl
  obtain ⟨ao, c, e, -⟩ := h.sl
  simp only [Value.slice.injEq] at e
  obtain ⟨-, e2, -⟩ := e
  subst e2
  have h1 := World.ownsRow.cellAt h j (by rw [flS_len] at hj2; omega)
  have hs : (flatK encS 2 ss.toArray)[j]! = (flS ss)[j] := by
    have := flatK_flS ss.toArray
    rw [getElem!_pos _ j hj]
    have h3 : (flatK encS 2 ss.toArray).toList[j]? = (flS ss)[j]? := by rw [this]
    rw [Array.getElem?_toList, Array.getElem?_eq_getElem hj, List.getElem?_eq_getElem hj2] at h3
    exact Option.some.inj h3
  rw [Nat.zero_add]
  refine ⟨?_, frozen_of_row w _ _ _ _ hc⟩
  rw [h1, List.getElem?_eq_getElem hj2, hs]; rfl
theorem OS.sw {B g n cap : Nat} {w : World} {ss : List Stp} (h : OS B w (.slice (some ⟨g, 0, none⟩) n cap) ss) (d : Array Stp) (hd0 : ss.length = d.size) (m : Nat) (os : Array Obj) :
    OS B (sortWorldK encS 2 w g 0 m d os) (.slice (some ⟨g, 0, none⟩) n cap) d.toList ∧ w.grownBy (sortWorldK encS 2 w g 0 m d os) (some g) := by
  have hd : d.size = ss.length := hd0.symm
  have hg := (h.lt g rfl).2
  obtain ⟨zs, hzs⟩ : ∃ zs, zs = flatK encS 2 d := ⟨_, rfl⟩
  have hzl : zs.toList = flS d.toList := by rw [hzs]; exact flatK_flS d
  have hzn : zs.size = 2 * ss.length := by rw [← Array.length_toList, hzl, flS_len, Array.length_toList, hd]
  have hp : (putRow id (Sort.ahead w m) g 0 zs).heap.size = w.heap.size := size_putRow _ _ _ _ _
  have hW : sortWorldK encS 2 w g 0 m d os = grow (putRow id (Sort.ahead w m) g 0 zs) os := by rw [hzs]; rfl
  rw [hW]
  have hother : ∀ j, j < w.heap.size → j ≠ g → (grow (putRow id (Sort.ahead w m) g 0 zs) os).heap[j]? = w.heap[j]? := by
    intro j hj hne
    show ((putRow id (Sort.ahead w m) g 0 zs).heap ++ os)[j]? = _
    rw [Array.getElem?_append_left (by rw [hp]; exact hj)]
    show (w.heap.modify g _)[j]? = _
    rw [Array.getElem?_modify, if_neg (Ne.symm hne)]
  refine ⟨?_, rfl, rfl, rfl, ?_, ?_⟩
  · obtain ⟨h1, h2⟩ := h
    refine ⟨by rw [flS_len, Array.length_toList]; omega, ?_⟩
    rcases h2 with ⟨e1, _⟩ | ⟨g', cap', cur, e1, h3, h4, h5, h6, h7, h8⟩
    · simp at e1
    · simp only [Value.slice.injEq, Option.some.injEq, Addr.mk.injEq, and_true] at e1
      obtain ⟨rfl, rfl, rfl⟩ := e1
      refine .inr ⟨g, cap, putCells id 0 zs cur, by show Value.slice _ ss.length cap = Value.slice _ d.toList.length cap; rw [hd0, Array.length_toList], h3, ?_, by rw [Array.length_toList, hd]; exact h5, h6, by simp only [putCells, Array.size_mapIdx]; exact h7, ?_⟩
      · show ((putRow id (Sort.ahead w m) g 0 zs).heap ++ os)[g]? = _
        rw [Array.getElem?_append_left (by rw [hp]; exact hg)]
        show (w.heap.modify g _)[g]? = _
        rw [Array.getElem?_modify, if_pos rfl, h4]
        rfl
      · rw [← hzl]
        apply List.ext_getElem?
        intro i
        by_cases hi : i < zs.size
        · rw [List.getElem?_take_of_lt (by rw [Array.length_toList, hd]; omega), Array.getElem?_toList, Array.getElem?_toList, Array.getElem?_eq_getElem hi]
          simp only [putCells, Array.getElem?_mapIdx]
          rw [Array.getElem?_eq_getElem (by omega)]
          simp only [Option.map_some, Nat.zero_le, true_and, Nat.zero_add, Nat.sub_zero]
          rw [if_pos hi, getElem!_pos zs i hi]; rfl
        · rw [List.getElem?_eq_none (by rw [List.length_take, Array.length_toList]; omega), List.getElem?_eq_none (by rw [Array.length_toList]; omega)]
  · show w.heap.size ≤ ((putRow id (Sort.ahead w m) g 0 zs).heap ++ os).size
    rw [Array.size_append, hp]
    omega
  · intro j hj hne
    exact hother j hj (fun e => hne (by rw [e]))
def cfS (s t : Stp) : Int := cfI s.1 t.1
theorem ltS (s t : Stp) : ltOf cfS s t = decide (s.1 < t.1) := ltI s.1 t.1
theorem swoS : SWO (ltOf cfS) where
  irrefl x := by rw [ltS]; simp
  trans x y z h1 h2 := by rw [ltS] at *; simp at *; omega
  ntrans x y z h1 h2 := by rw [ltS] at *; simp at *; omega
theorem cmpLaysS (blk off size : Nat) (w : World) : CmpLays Tryz.prog 72 #[] encS 2 cfS blk off size w :=
  fun _ _ _ _ x y => (cmpStep x y _).mono fun e w' ⟨h1, o1, o2, h2⟩ => ⟨h1, 0, #[o1, o2], by rw [h2, alloc_eq_grow, alloc_eq_grow, grow_grow]; rfl⟩
theorem sorted_srt {ss : List Stp} {d : Array Stp} (hp : PermIn 0 ss.length ss.toArray d) (hs : SortedIn (ltOf cfS) 0 ss.length d) (hd : ss.Pairwise (fun a b => a.1 ≠ b.1)) : d.size = ss.length ∧ d.toList = srtP ss := by
  obtain ⟨h1, -, h3⟩ := hp
  have hsz : d.size = ss.length := by simpa using h1
  have e1 : d.extract 0 ss.length = d := by rw [← hsz]; simp
  have e2 : ss.toArray.extract 0 ss.length = ss.toArray := by rw [← List.size_toArray]; simp
  rw [e1, e2] at h3
  have hperm : d.toList.Perm ss := by simpa using h3
  refine ⟨hsz, risP_ext ?_ (srtP_ris ss hd) fun z => by rw [srtP_mem]; exact hperm.mem_iff⟩
  have hne : d.toList.Pairwise (fun a b => a.1 ≠ b.1) := (hperm.pairwise_iff (fun {a b} (h : a.1 ≠ b.1) => h.symm)).2 hd
  rw [RisP, List.pairwise_iff_getElem]
  intro i j hi hj hij
  have h4 := (List.pairwise_iff_getElem.1 hne) i j hi hj hij
  have h5 := hs i j (Nat.zero_le _) hij (by simpa [← hsz] using hj)
  rw [ltS, getElem!_pos d j (by simpa using hj), getElem!_pos d i (by simpa using hi)] at h5
  have h6 := of_decide_eq_false h5
  simp only [Array.getElem_toList] at h4 ⊢
  omega
set_option maxHeartbeats 1000000 in
theorem sortStS (B : Nat) (w : World) (v : Value) (ss : List Stp) (h : OS B w v ss) (hd : ss.Pairwise (fun a b => a.1 ≠ b.1)) (hl : ss.length ≤ 1000000) :
    Calls Tryz.prog 71 #[v, .func (.func 72) #[] #[]] w fun e w' => e = .returned (.tuple #[]) ∧ OS B w' v (srtP ss) ∧ w.grownBy w' v.ownBlock := by
  obtain ⟨ao, cap, rfl, hao, -⟩ := h.sl
  by_cases h0 : 0 < ss.length
  · obtain ⟨g, hg, rfl⟩ := hao h0
    have eg : ∀ args w, (callFunc 72 args).run Tryz.prog w = .ok (.enter 72 args) w := enters_of Tryz.func72 (by kernel_rfl) rfl
    have hcon := AnyQ.slices_SortFunc Tryz.sortStA 2 Tryz.isAgg84 Tryz.sizeOf84 encS (fun _ => rfl) (fun x v hv => by simp [encS] at hv; rcases hv with rfl | rfl <;> rfl) cfS swoS 72 #[] g 0 cap ss.toArray w eg (cmpLaysS g 0 _ w) h.holds (h.lt g rfl).2 (by simp; omega)
    change Calls Tryz.prog 71 _ _ _ at hcon
    rw [List.size_toArray] at hcon
    refine hcon.mono ?_
    rintro e w' ⟨he, d, m, os, hp, hs, rfl⟩
    obtain ⟨h1, h2⟩ := sorted_srt hp hs hd
    have h3 := h.sw d h1.symm m os
    rw [h2] at h3
    exact ⟨he, h3.1, h3.2⟩
  · have e0 : ss = [] := List.eq_nil_of_length_eq_zero (by omega)
    subst e0
    have hcon := AnyF.slices_SortFunc_none Tryz.sortStA ao cap (.func (.func 72) #[] #[]) w
    change Calls Tryz.prog 71 _ _ _ at hcon
    refine hcon.mono ?_
    rintro e w' ⟨he, rfl⟩
    exact ⟨he, h, grownG_refl _ _⟩
end Go.Proofs.YthdpomgpcblpeaaGreat

namespace Go.Proofs.YthdpomgpcblpeaaGreat
open Go.Shelf Go.RowKit Go.Lib Go.Sort
section
variable {α : Type}
/-- what is left behind p -/
def cptF (eq : α → α → Bool) : α → List α → List α
  | _, [] => []
  | p, x :: l => if eq x p then cptF eq x l else x :: cptF eq x l
def cpt (eq : α → α → Bool) : List α → List α
  | [] => []
  | x :: l => x :: cptF eq x l
variable {eq : α → α → Bool}
theorem cptF_yes {x p : α} (l : List α) (h : eq x p = true) : cptF eq p (x :: l) = cptF eq x l := by rw [cptF, if_pos h]
theorem cptF_no {x p : α} (l : List α) (h : eq x p = false) : cptF eq p (x :: l) = x :: cptF eq x l := by rw [cptF, if_neg (by simp [h])]
/-- the first k things are all kept -/
def CpA (eq : α → α → Bool) (L : List α) (k : Nat) : Prop := ∃ p, L[k - 1]? = some p ∧ L.take k ++ cptF eq p (L.drop k) = cpt eq L
/-- D is kept of what stands ahead of place j -/
def CpB (eq : α → α → Bool) (L D : List α) (j : Nat) : Prop := ∃ p, L[j - 1]? = some p ∧ D ++ cptF eq p (L.drop j) = cpt eq L
theorem CpA.start {L : List α} (h : 0 < L.length) : CpA eq L 1 := by
  cases L with
  | nil => simp at h
  | cons x l => exact ⟨x, rfl, rfl⟩
theorem drop_cons {L : List α} {k : Nat} {x : α} (h : L[k]? = some x) : L.drop k = x :: L.drop (k + 1) := by
  obtain ⟨hk, rfl⟩ := List.getElem?_eq_some_iff.1 h
  exact List.drop_eq_getElem_cons hk
theorem take_snoc {L : List α} {k : Nat} {x : α} (h : L[k]? = some x) : L.take (k + 1) = L.take k ++ [x] := by
  rw [List.take_add_one, h]; rfl
theorem CpA.next {L : List α} {k : Nat} {x p : α} (h : CpA eq L k) (hx : L[k]? = some x) (hp : L[k - 1]? = some p) (he : eq x p = false) : CpA eq L (k + 1) := by
  obtain ⟨q, hq, h⟩ := h
  rw [hp] at hq
  cases hq
  refine ⟨x, by simpa using hx, ?_⟩
  rw [← h, drop_cons hx, cptF_no _ he, take_snoc hx]
  simp
theorem CpA.turn {L : List α} {k : Nat} {x p : α} (h : CpA eq L k) (hx : L[k]? = some x) (hp : L[k - 1]? = some p) (he : eq x p = true) : CpB eq L (L.take k) (k + 1) := by
  obtain ⟨q, hq, h⟩ := h
  rw [hp] at hq
  cases hq
  refine ⟨x, by simpa using hx, ?_⟩
  rw [← h, drop_cons hx, cptF_yes _ he]
theorem CpA.all {L : List α} {k : Nat} (h : CpA eq L k) (hk : L.length ≤ k) : cpt eq L = L := by
  obtain ⟨p, _, h⟩ := h
  rw [← h, List.drop_of_length_le hk, List.take_of_length_le hk]
  simp [cptF]
theorem CpB.skip {L D : List α} {j : Nat} {x p : α} (h : CpB eq L D j) (hx : L[j]? = some x) (hp : L[j - 1]? = some p) (he : eq x p = true) : CpB eq L D (j + 1) := by
  obtain ⟨q, hq, h⟩ := h
  rw [hp] at hq
  cases hq
  exact ⟨x, by simpa using hx, by rw [← h, drop_cons hx, cptF_yes _ he]⟩
theorem CpB.keep {L D : List α} {j : Nat} {x p : α} (h : CpB eq L D j) (hx : L[j]? = some x) (hp : L[j - 1]? = some p) (he : eq x p = false) : CpB eq L (D ++ [x]) (j + 1) := by
  obtain ⟨q, hq, h⟩ := h
  rw [hp] at hq
  cases hq
  exact ⟨x, by simpa using hx, by rw [← h, drop_cons hx, cptF_no _ he]; simp⟩
theorem CpB.done {L D : List α} {j : Nat} (h : CpB eq L D j) (hj : L.length ≤ j) : cpt eq L = D := by
  obtain ⟨p, _, h⟩ := h
  rw [← h, List.drop_of_length_le hj]
  simp [cptF]
theorem cpt_small (L : List α) (h : L.length < 2) : cpt eq L = L := by
  match L, h with
  | [], _ => rfl
  | [x], _ => rfl
/-- what is written so far, and the rest as it was -/
theorem put_at {D L : List α} {k : Nat} {x y : α} (hD : D.length = k) (hy : L[k]? = some y) : (D ++ L.drop k).set k x = (D ++ [x]) ++ L.drop (k + 1) := by
  subst hD
  rw [drop_cons hy]
  simp
end
section
variable {α : Type} {enc : α → Value}
theorem OG.cut {B e g n cap m : Nat} {w : World} {C : List α} (h : OG enc B e w (.slice (some ⟨g, 0, none⟩) n cap) C) (hm : m ≤ C.length) : OG enc B e w (.slice (some ⟨g, 0, none⟩) m cap) (C.take m) := by
  obtain ⟨h1, h2⟩ := h
  refine ⟨by simp, ?_⟩
  rcases h2 with ⟨e1, _⟩ | ⟨g', cap', cur, e1, h3, h4, h5, h6, h7, h8⟩
  · simp at e1
  · simp only [Value.slice.injEq, Option.some.injEq, Addr.mk.injEq, and_true] at e1
    obtain ⟨rfl, rfl, rfl⟩ := e1
    refine .inr ⟨g, cap, cur, by rw [List.length_take, Nat.min_eq_left hm], h3, h4, by rw [List.length_take]; omega, h6, h7, ?_⟩
    rw [List.length_take, Nat.min_eq_left hm, Nat.mul_one, List.map_take, ← h8, List.take_take, Nat.mul_one, Nat.min_eq_left hm]
theorem OG.cl {B e g n cap : Nat} {w : World} {C : List α} (h : OG enc B e w (.slice (some ⟨g, 0, none⟩) n cap) C) {i : Nat} {x : α} (hx : C[i]? = some x) (m : Nat) (os : Array Obj) : (grow (w.drewN m) os).cell? ⟨g, i, none⟩ = some (enc x) := by
  rw [cell?_grow _ _ _ (by rw [heap_drewG]; exact (h.lt g rfl).2)]
  exact ((OG.of_blocks h fun j _ => by rw [heap_drewG] : OG enc B e (w.drewN m) _ C).cell hx).1
theorem drewN_same (w : World) : ∀ m : Nat, (w.drewN m).os = w.os ∧ (w.drewN m).tape = w.tape ∧ (w.drewN m).output = w.output
  | 0 => ⟨rfl, rfl, rfl⟩
  | m + 1 => drewN_same w.drew m
theorem grown_grow (w : World) (m : Nat) (os : Array Obj) (r : Option Nat) : w.grownBy (grow (w.drewN m) os) r := by
  have h : (grow (w.drewN m) os).heap = w.heap ++ os := by show (w.drewN m).heap ++ os = _; rw [heap_drewG]
  refine ⟨?_, ?_, ?_, ?_, ?_⟩
  · exact (drewN_same w m).1
  · exact (drewN_same w m).2.1
  · exact (drewN_same w m).2.2
  · rw [h, Array.size_append]; omega
  · intro j hj _
    rw [h, Array.getElem?_append_left hj]
theorem OG.grow {B e : Nat} {w : World} {v : Value} {C : List α} (h : OG enc B e w v C) (m : Nat) (os : Array Obj) : OG enc B e (Go.Sort.grow (w.drewN m) os) v C :=
  h.of_blocks fun j hj => by
    show ((w.drewN m).heap ++ os)[j]? = _
    rw [heap_drewG, Array.getElem?_append_left (h.lt j hj).2]
theorem OG.sets {B e g n cap : Nat} (z : α) : ∀ (m k : Nat) {w : World} {C : List α}, OG enc B e w (.slice (some ⟨g, 0, none⟩) n cap) C → C.length = n →
    ∃ C', OG enc B e (w.setCells g k (List.replicate m (enc z))) (.slice (some ⟨g, 0, none⟩) n cap) C' ∧ C'.length = n ∧ C'.take k = C.take k ∧ w.grownBy (w.setCells g k (List.replicate m (enc z))) (some g)
  | 0, k, w, C, h, hn => ⟨C, h, hn, rfl, grownG_refl _ _⟩
  | m + 1, k, w, C, h, hn => by
    obtain ⟨h1, h2⟩ := h.set hn k z
    obtain ⟨C', h3, h4, h5, h6⟩ := OG.sets z m (k + 1) h1 (by rw [List.length_set]; exact hn)
    refine ⟨C', h3, h4, ?_, ?_⟩
    · have := congrArg (List.take k) h5
      rw [List.take_take, List.take_take, Nat.min_eq_left (Nat.le_succ k)] at this
      rw [this]
      apply List.ext_getElem?
      intro i
      by_cases hi : i < k
      · rw [List.getElem?_take_of_lt hi, List.getElem?_take_of_lt hi, List.getElem?_set, if_neg (by omega)]
      · rw [List.getElem?_eq_none (by rw [List.length_take]; omega), List.getElem?_eq_none (by rw [List.length_take]; omega)]
    · exact h2.trans h6
end
end Go.Proofs.YthdpomgpcblpeaaGreat

/-
  Proved here: a matrix of bools of one's own; the law's moral graph.
-/
import Derived.Test.YtcoiapgfaibkgaaGreatSpNAll
import Derived.Test.YtcoiapgfaibkgaaGreatDagClAll
import Derived.Test.YtcoiapgfaibkgaaGreatSpLAll
import Derived.Test.YtcoiapgfaibkgaaGreatSpAn
import Derived.Test.YtcoiapgfaibkgaaGreatSpB4
import Derived.Test.YtcoiapgfaibkgaaGreatMoMAll
namespace Go.Proofs.YtcoiapgfaibkgaaGreat
set_option linter.unusedVariables false
open Go.RowKit Go.Shelf Go.Sort Go.Lib
/-- The first i rows of a square matrix are made. -/
structure MbC (B : Nat) (W : World) (gm n i : Nat) (cvs : List Value) (M : Nat → Nat → Bool) : Prop where
  row : OG id B 41 W (.slice (some ⟨gm, 0, none⟩) n n) cvs
  len : cvs.length = n
  inn : ∀ j, j < i → ∃ g, cvs[j]? = some (.slice (some ⟨g, 0, none⟩) n n) ∧ OG Value.bool B 4 W (.slice (some ⟨g, 0, none⟩) n n) (rowB n (M j))
  apt : ∀ j k g, j < i → k < i → cvs[j]? = some (.slice (some ⟨g, 0, none⟩) n n) → cvs[k]? = some (.slice (some ⟨g, 0, none⟩) n n) → j = k
theorem MbC.below {B : Nat} {W W' : World} {gm n i : Nat} {cvs : List Value} {M : Nat → Nat → Bool} (h : MbC B W gm n i cvs M) (hb : Below W.heap.size W W') : MbC B W' gm n i cvs M :=
  ⟨h.row.below hb, h.len, fun j hj => by obtain ⟨g, h1, h2⟩ := h.inn j hj; exact ⟨g, h1, h2.below hb⟩, h.apt⟩
theorem MbC.congr {B : Nat} {W : World} {gm n i : Nat} {cvs : List Value} {M M' : Nat → Nat → Bool} (h : MbC B W gm n i cvs M) (e : ∀ j v, v < n → M j v = M' j v) : MbC B W gm n i cvs M' :=
  ⟨h.row, h.len, fun j hj => by obtain ⟨g, h1, h2⟩ := h.inn j hj; exact ⟨g, h1, by rw [← rowB_congr (e j)]; exact h2⟩, h.apt⟩
theorem MbC.next {B : Nat} {W : World} {gm n i : Nat} {cvs : List Value} {M : Nat → Nat → Bool} (h : MbC B W gm n i cvs M) (hB : B ≤ W.heap.size) (hi : i < n) (hn : n ≤ maxLen) :
    MbC B ((W.alloc (.cells (Array.replicate n (.bool false)) 4)).setCell ⟨gm, i, none⟩ (.slice (some ⟨W.heap.size, 0, none⟩) n n)) gm n (i + 1) (cvs.set i (.slice (some ⟨W.heap.size, 0, none⟩) n n)) (fun u v => if u = i then false else M u v) := by
  have hb : Below W.heap.size W (W.alloc (.cells (Array.replicate n (.bool false)) 4)) := belowB _ _
  have hm := (OG.made (enc := Value.bool) W 4 n false hn).mono hB
  rw [rowB_no] at hm
  have hr := h.row.below hb
  have hs := (hr.set h.len i (.slice (some ⟨W.heap.size, 0, none⟩) n n)).1
  have hgl := (h.row.lt gm rfl).2
  have keep : ∀ (g : Nat) (L : List Bool), OG Value.bool B 4 (W.alloc (.cells (Array.replicate n (.bool false)) 4)) (.slice (some ⟨g, 0, none⟩) n n) L → OG Value.bool B 4 ((W.alloc (.cells (Array.replicate n (.bool false)) 4)).setCell ⟨gm, i, none⟩ (.slice (some ⟨W.heap.size, 0, none⟩) n n)) (.slice (some ⟨g, 0, none⟩) n n) L := fun g L ho => ho.of_blocks fun q hq => Below.heap_setCell _ _ _ _ (fun e => ho.neO hr (by decide) hq (by rw [show q = gm from e]; rfl))
  refine ⟨hs, by rw [List.length_set]; exact h.len, fun j hj => ?_, fun j k g hj hk h1 h2 => ?_⟩
  · by_cases e : j = i
    · subst e
      exact ⟨W.heap.size, by rw [List.getElem?_set_self (by rw [h.len]; exact hi)], by
        have : rowB n (fun v => if j = j then false else M j v) = rowB n (fun _ => false) := rowB_congr fun v _ => by simp
        rw [this]; exact keep _ _ hm⟩
    · obtain ⟨g, h1, h2⟩ := h.inn j (by omega)
      refine ⟨g, by rw [List.getElem?_set_ne (fun e2 => e e2.symm)]; exact h1, ?_⟩
      have : rowB n (fun v => if j = i then false else M j v) = rowB n (M j) := rowB_congr fun v _ => by simp [e]
      rw [this]
      exact keep _ _ (h2.below hb)
  · have old : ∀ j, j < i + 1 → j ≠ i → (cvs.set i (.slice (some ⟨W.heap.size, 0, none⟩) n n))[j]? = some (.slice (some ⟨g, 0, none⟩) n n) → g < W.heap.size ∧ cvs[j]? = some (.slice (some ⟨g, 0, none⟩) n n) := fun j hj e h1 => by
      rw [List.getElem?_set_ne (fun e2 => e e2.symm)] at h1
      obtain ⟨g', h3, h4⟩ := h.inn j (by omega)
      rw [h1] at h3
      simp only [Option.some.injEq, Value.slice.injEq, Addr.mk.injEq, and_true] at h3
      subst h3
      exact ⟨(h4.lt g rfl).2, h1⟩
    by_cases e1 : j = i
    · by_cases e2 : k = i
      · rw [e1, e2]
      · obtain ⟨h3, -⟩ := old k hk e2 h2
        subst e1
        rw [List.getElem?_set_self (by rw [h.len]; exact hi)] at h1
        simp only [Option.some.injEq, Value.slice.injEq, Addr.mk.injEq, and_true] at h1
        omega
    · obtain ⟨h3, h4⟩ := old j hj e1 h1
      by_cases e2 : k = i
      · subst e2
        rw [List.getElem?_set_self (by rw [h.len]; exact hi)] at h2
        simp only [Option.some.injEq, Value.slice.injEq, Addr.mk.injEq, and_true] at h2
        omega
      · exact h.apt j k g (by omega) (by omega) h4 (old k hk e2 h2).2
/-- One place is set. -/
theorem MbC.put {B : Nat} {W : World} {gm n i : Nat} {cvs : List Value} {M : Nat → Nat → Bool} (h : MbC B W gm n i cvs M) {j g : Nat} (hj : j < i) (hg : cvs[j]? = some (.slice (some ⟨g, 0, none⟩) n n)) (k : Nat) :
    MbC B (W.setCell ⟨g, k, none⟩ (.bool true)) gm n i cvs (fun u v => if u = j ∧ v = k then true else M u v) ∧ B ≤ g := by
  obtain ⟨g', h1, h2⟩ := h.inn j hj
  rw [hg] at h1
  simp only [Option.some.injEq, Value.slice.injEq, Addr.mk.injEq, and_true] at h1
  subst h1
  refine ⟨⟨h.row.of_blocks fun q hq => Below.heap_setCell _ _ _ _ (fun e => h2.neO h.row (by decide) (q := g) rfl (by rw [← show q = g from e]; exact hq)), h.len, fun u hu => ?_, h.apt⟩, (h2.lt g rfl).1⟩
  obtain ⟨g2, h3, h4⟩ := h.inn u hu
  refine ⟨g2, h3, ?_⟩
  by_cases e : u = j
  · subst e
    rw [hg] at h3
    simp only [Option.some.injEq, Value.slice.injEq, Addr.mk.injEq, and_true] at h3
    subst h3
    have hs := (h4.set (rowB_len _ _) k true).1
    rw [rowB_set] at hs
    have : rowB n (fun v => if u = u ∧ v = k then true else M u v) = rowB n (fun v => if v = k then true else M u v) := rowB_congr fun v _ => by simp
    rw [this]; exact hs
  · have : rowB n (fun v => if u = j ∧ v = k then true else M u v) = rowB n (M u) := rowB_congr fun v _ => by simp [e]
    rw [this]
    exact h4.of_blocks fun q hq => Below.heap_setCell _ _ _ _ (fun e2 => by
      have e3 : g2 = q := by simpa [Value.ownBlock] using hq
      have e4 : q = g := e2
      subst e3 e4
      exact e (h.apt u j _ hu hj h3 hg))
/-- What the moral graph joins for some points. -/
def MoE (P : List (List Int)) (k : Nat) (p : Int) (u v : Nat) : Prop := (u = k ∧ (v : Int) = p) ∨ ((u : Int) = p ∧ v = k)
def MoF (P : List (List Int)) (k : Nat) (p : Int) (Q : List Int) (u v : Nat) : Prop := (u : Int) = p ∧ (v : Int) ∈ Q
def MoK (P : List (List Int)) (k : Nat) (L : List Int) (u v : Nat) : Prop := ∃ p ∈ L, MoE P k p u v ∨ MoF P k p (P.getD k []) u v
def MoG (P : List (List Int)) (K : List Int) (u v : Nat) : Prop := ∃ x ∈ K, MoK P x.toNat (P.getD x.toNat []) u v
end Go.Proofs.YtcoiapgfaibkgaaGreat

/-
  Proved here: package set at int: With, Without.
  Proved here: layer 11's law.go: ints; alive.
-/
import Derived.Test.YtjlmignafhhjhaaSetDIAll
import Derived.Test.YtjlmignafhhjhaaMemAll
import Derived.Test.YtjlmignafhhjhaaLate3
namespace Go.Proofs.Ytjlmignafhhjhaa
open Go.Shelf Go.RowKit Go.Lib Go.Sort
set_option maxRecDepth 100000 in
theorem cutI (ao : Option Addr) (n cap m : Nat) (hmn : m ≤ n) (hnc : n ≤ cap) (hm : cap ≤ 9223372036854775807) (hnil : ao = none → cap = 0) (w : World) :
    (Instr.slice 22 (.slice ao n cap) none (some (.int .i64 (m : Int))) none).run Try.prog w = .ok (.slice ao m cap) w := by
  have hb : (m : Int) ≤ (cap : Int) := by omega
  have h0 : (0 : Int) ≤ (m : Int) := by omega
  rcases ao with _ | ad
  · have := hnil rfl
    subst this
    have : m = 0 := by omega
    subst this
    go_simp
  · go_simp
set_option maxRecDepth 100000 in
theorem fromI (ao : Option Addr) (n cap m : Nat) (L : List Int) (hmn : m ≤ n) (hnc : n ≤ cap) (hm : cap ≤ 9223372036854775807) (hnil : ao = none → cap = 0) :
    ∃ bo c2, (∀ w, (Instr.slice 22 (.slice ao n cap) (some (.int .i64 (m : Int))) none none).run Try.prog w = .ok (.slice bo (n - m) c2) w) ∧ ∀ W, RG (Value.int .i64) W (.slice ao n cap) L → RG (Value.int .i64) W (.slice bo (n - m) c2) (L.drop m) := by
  have hb : (m : Int) ≤ (n : Int) := by omega
  have h0 : (0 : Int) ≤ (m : Int) := by omega
  have hc : (n : Int) ≤ (cap : Int) := by omega
  rcases ao with _ | ad
  · have := hnil rfl
    subst this
    have : n = 0 := by omega
    subst this
    have : m = 0 := by omega
    subst this
    exact ⟨none, 0, fun w => by go_simp, fun W h => h⟩
  · obtain ⟨g, o, sp⟩ := ad
    by_cases hcm : cap = m
    · subst hcm
      have hn : n = cap := by omega
      subst hn
      refine ⟨some ⟨g, o, sp⟩, 0, fun w => ?_, fun W h => ?_⟩
      · have e1 : n - n = 0 := Nat.sub_self n
        go_simp
      · have hl := h.len
        rw [List.drop_of_length_le (by omega), Nat.sub_self]
        exact ⟨some ⟨g, o, sp⟩, 0, rfl, Nat.le_refl _, Nat.zero_le _, fun h => by simp at h, fun i x hx => by simp at hx⟩
    refine ⟨some ((⟨g, o, sp⟩ : Addr).add m), cap - m, fun w => ?_, fun W h => ?_⟩
    · have e1 : ((n : Int) - (m : Int)).toNat = n - m := by omega
      have e2 : ((cap : Int) - (m : Int)).toNat = cap - m := by omega
      go_simp
    · have hl := h.len
      by_cases h0 : 0 < n
      · obtain ⟨x, g', o', hx, e, -⟩ := h.at (i := 0) h0
        simp only [Option.some.injEq, Addr.mk.injEq] at e
        obtain ⟨rfl, rfl, rfl⟩ := e
        rw [Addr.add_lit]
        exact h.from hmn
      · have hL : L = [] := List.eq_nil_of_length_eq_zero (by omega)
        subst hL
        have : n = 0 := by omega
        subst this
        have : m = 0 := by omega
        subst this
        obtain ⟨ao, c, e, h1, h2, h3, -⟩ := h
        cases e
        exact ⟨_, _, rfl, by simp, by simp; exact h2, fun h => by simp at h, fun i x hx => by simp at hx⟩
/-- a row that is built of rows that can be read -/
theorem rr_litI (e : Nat) (w : World) (vs : List Value) (Ls : List (List Int)) (hl : vs.length = Ls.length) (hm : vs.length ≤ 1000) (h : ∀ (i : Nat) (u : Value) (L : List Int), vs[i]? = some u → Ls[i]? = some L → RG (Value.int .i64) w u L) :
    RR (Value.int .i64) (w.alloc (.cells vs.toArray e)) (.slice (some ⟨w.heap.size, 0, none⟩) vs.length vs.length) Ls := by
  refine ⟨vs, ?_, hl, fun i u L h1 h2 => (h i u L h1 h2).alloc _⟩
  have := (OG.lit (enc := (id : Value → Value)) e w vs (by unfold maxLen; omega)).rg
  rwa [List.map_id] at this
end Go.Proofs.Ytjlmignafhhjhaa

namespace Go.Proofs.Ytjlmignafhhjhaa
open Go.Shelf Go.RowKit Go.Lib Go.Sort

end Go.Proofs.Ytjlmignafhhjhaa

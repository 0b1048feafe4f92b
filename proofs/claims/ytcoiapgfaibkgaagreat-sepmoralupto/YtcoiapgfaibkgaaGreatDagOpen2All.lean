/-
  Proved here: what is handed in can be read; and the bound on what it holds.
-/
import Derived.Test.YtcoiapgfaibkgaaGreatSpB1All
import Derived.Test.YtcoiapgfaibkgaaGreatDagMuAll
import Derived.Test.YtcoiapgfaibkgaaGreatDagHAll
import Derived.Test.YtcoiapgfaibkgaaGreatRows
import Derived.Deep.Matrix
namespace Go.Proofs.YtcoiapgfaibkgaaGreat
set_option linter.unusedVariables false
open Go.RowKit Go.ChangeShapes Go.Deep
theorem bulk_mem {H : Type} {d : DataW H} {l : List (DataW H)} (h : d ∈ l) : Rows.uptoBulk d ≤ Rows.uptoBulkAll l := by
  induction l with
  | nil => cases h
  | cons x r ih =>
    simp only [Rows.uptoBulkAll]
    rcases List.mem_cons.1 h with e | e
    · subst e; omega
    · have := ih e; omega
theorem bulk_pos {H : Type} (d : DataW H) : 1 ≤ Rows.uptoBulk d := by
  cases d with
  | lit l => cases l <;> simp [Rows.uptoBulk]
  | _ => simp [Rows.uptoBulk]
theorem bulk_len {H : Type} (l : List (DataW H)) : l.length ≤ Rows.uptoBulkAll l := by
  induction l with
  | nil => simp [Rows.uptoBulkAll]
  | cons x r ih => have := bulk_pos x; simp only [Rows.uptoBulkAll, List.length_cons]; omega
theorem addr_plain {w : World} {a : Addr} {v : Value} (h : w.cell? a = some v) {x : Addr} (e : a = x.add 0) : ∃ b o, x = ⟨b, o, none⟩ := by
  obtain ⟨b, off, spot⟩ := x
  subst e
  have hspot : spot = none := by
    have := World.cell?_spot h
    simpa [Addr.add] using this
  exact ⟨b, off, by rw [hspot]⟩
theorem rg_row {w : World} {ao : Option Addr} {l c : Nat} {zs : List Int} (hl : l ≤ c) (hm : c ≤ maxLen) (hz : zs.length = c) (hn : ao = none → c = 0) (hc : ∀ a, ao = some a → ∀ j, j < c → w.cell? (a.add j) = some (.int .i64 (zs.getD j 0))) : RG (Value.int .i64) w (.slice ao l c) (zs.take l) := by
  have hlen : (zs.take l).length = l := by rw [List.length_take]; omega
  refine ⟨ao, c, by rw [hlen], by rw [hlen]; exact hl, hm, hn, fun i x hx => ?_⟩
  have hi : i < l := by have := (List.getElem?_eq_some_iff.1 hx).1; omega
  cases ao with
  | none => have := hn rfl; omega
  | some a =>
    obtain ⟨b, o, rfl⟩ := addr_plain (hc a rfl 0 (by omega)) (x := a) rfl
    refine ⟨b, o, rfl, ?_⟩
    have h1 := hc _ rfl i (by omega)
    rw [Addr.add_lit] at h1
    rw [List.getElem?_take_of_lt hi] at hx
    rw [h1, List.getD_eq_getElem?_getD, hx]; rfl
theorem rrd_open {H : Type} {enc : TypeId × Value → H} {W : World} {base : Nat} {held : Bool} {fuel : Nat} {a : Option Addr} {len cap : Nat} {d : DataW H} {p : List MemPlace} (hf : DataW.trod enc Tryz.prog W base (fun _ => true) held fuel 22 (Value.cells (.slice a len cap)).toList = some (d, p)) (hbd : Rows.uptoBulk d ≤ 1048576) :
    ∃ pvs P, RRD W (.slice a len cap) pvs P ∧ ∀ i, (P.getD i []).length ≤ 1048576 := by
  rcases open_int_rows Tryz.underlying22 Tryz.underlying23 Tryz.underlying3 (by kernel_rfl) (by kernel_rfl) hf with ⟨hcs, _⟩ | ⟨a', l, c, A, L, C, Z, hcs, _, hl, hm, hx, hr⟩
  · simp [Value.cells] at hcs
    obtain ⟨rfl, rfl, rfl⟩ := hcs
    exact ⟨[], [], ⟨RG.nil _, rfl, fun i x h => by simp at h⟩, fun i => by simp⟩
  · simp [Value.cells] at hcs
    obtain ⟨rfl, rfl, rfl⟩ := hcs
    simp only [Prod.mk.injEq] at hx
    obtain ⟨hd, -⟩ := hx
    have hP : ∀ i, i < len → ((List.range len).map fun r => (Z r).take (L r)).getD i [] = (Z i).take (L i) := fun i hi => by
      rw [List.getD_eq_getElem?_getD, List.getElem?_map, List.getElem?_range hi]; rfl
    have hlp : ((List.range len).map fun r => Value.slice (A r) (L r) (C r)).length = len := by simp
    refine ⟨(List.range len).map fun r => Value.slice (A r) (L r) (C r), (List.range len).map fun r => (Z r).take (L r), ⟨?_, by simp, fun i x hi => ?_⟩, fun i => ?_⟩
    · refine ⟨some a', cap, by rw [hlp], by rw [hlp]; exact hl, hm, fun e => by simp at e, fun i x hi => ?_⟩
      have hil : i < len := by have := (List.getElem?_eq_some_iff.1 hi).1; rw [hlp] at this; exact this
      have h0 := (hr 0 (by omega)).1
      obtain ⟨b, o, rfl⟩ := addr_plain h0 (x := a') rfl
      have h1 := (hr i (by omega)).1
      rw [Addr.add_lit] at h1
      rw [List.getElem?_map, List.getElem?_range hil] at hi
      simp only [Option.map_some, Option.some.injEq] at hi
      subst hi
      exact ⟨b, o, rfl, h1⟩
    · have hil : i < len := by have := (List.getElem?_eq_some_iff.1 hi).1; rw [hlp] at this; exact this
      rw [List.getElem?_map, List.getElem?_range hil] at hi
      simp only [Option.map_some, Option.some.injEq] at hi
      subst hi
      rw [hP i hil]
      obtain ⟨-, r1, r2, r3, -, r5, r6⟩ := hr i (by omega)
      exact rg_row r1 r2 r3 r5 (fun a h j hj => (r6 a h).2 j hj)
    · by_cases hil : i < len
      · rw [hP i hil]
        obtain ⟨-, r1, r2, r3, -, r5, r6⟩ := hr i (by omega)
        cases hA : A i with
        | none => have := r5 hA; rw [List.length_take]; omega
        | some b =>
          have hmem : (intRow .i64 (A i) (L i) (Z i) : DataW H) ∈ (List.range len).map fun r => intRow .i64 (A r) (L r) (Z r) := List.mem_map.2 ⟨i, List.mem_range.2 hil, rfl⟩
          have h1 := bulk_mem hmem
          have h2 : Rows.uptoBulk d = _ := congrArg Rows.uptoBulk hd
          simp only [Rows.uptoBulk] at h2
          have e1 : (intRow .i64 (A i) (L i) (Z i) : DataW H) = .slice (lits .i64 ((Z i).take (L i))) (lits .i64 ((Z i).drop (L i))) := by rw [hA]; rfl
          have h5 : Rows.uptoBulk (intRow .i64 (A i) (L i) (Z i) : DataW H) = Rows.uptoBulkAll (lits (H := H) .i64 ((Z i).take (L i))) + Rows.uptoBulkAll (lits (H := H) .i64 ((Z i).drop (L i))) + 1 := by rw [e1]; simp only [Rows.uptoBulk]
          have h3 := bulk_len (lits (H := H) .i64 ((Z i).take (L i)))
          have h4 : (lits (H := H) .i64 ((Z i).take (L i))).length = ((Z i).take (L i)).length := by simp [lits]
          omega
      · rw [List.getD_eq_getElem?_getD, List.getElem?_eq_none (by simp; omega)]
        simp
end Go.Proofs.YtcoiapgfaibkgaaGreat

namespace Go.Proofs.YtcoiapgfaibkgaaGreat
set_option linter.unusedVariables false
open Go.RowKit Go.ChangeShapes Go.Deep
theorem rg_open {H : Type} {enc : TypeId × Value → H} {W : World} {base : Nat} {held : Bool} {fuel : Nat} {a : Option Addr} {len cap : Nat} {d : DataW H} {p : List MemPlace} (hf : DataW.trod enc Tryz.prog W base (fun _ => true) held fuel 23 (Value.cells (.slice a len cap)).toList = some (d, p)) (hbd : Rows.uptoBulk d ≤ 1048576) :
    ∃ zs, RG (Value.int .i64) W (.slice a len cap) zs ∧ zs.length ≤ 1048576 := by
  rcases open_ints Tryz.underlying23 Tryz.underlying3 (by kernel_rfl) hf with ⟨hcs, _⟩ | ⟨x, l, c, zs, hcs, _, hl, hm, hz, hd, hcell, hwz⟩
  · simp [Value.cells] at hcs
    obtain ⟨rfl, rfl, rfl⟩ := hcs
    exact ⟨[], RG.nil _, by simp⟩
  · simp [Value.cells] at hcs
    obtain ⟨rfl, rfl, rfl⟩ := hcs
    simp only [if_true] at hz
    refine ⟨zs.take len, rg_row hl hm hz (fun e => by simp at e) (fun a ha j hj => ?_), ?_⟩
    · simp only [Option.some.injEq] at ha
      rw [← ha]; exact hcell j (by omega)
    · simp only [Prod.mk.injEq] at hd
      have h2 : Rows.uptoBulk d = _ := congrArg Rows.uptoBulk hd.1
      simp only [Rows.uptoBulk] at h2
      have h3 := bulk_len (lits (H := H) .i64 (zs.take len))
      have h4 : (lits (H := H) .i64 (zs.take len)).length = (zs.take len).length := by simp [lits]
      omega
end Go.Proofs.YtcoiapgfaibkgaaGreat

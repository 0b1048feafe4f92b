/-
  Proved here: package radix's Digits at the three types.
  Proved here: package radix's Digits at one type.
  Proved here: package radix's Digits at one type.
  Proved here: package radix's Digits at one type.
  Proved here: rows that were just laid, or are a call's own, can be read; the law's alive.
-/
import Derived.Test.YtjlmignafhhjhaaRadCAll
import Derived.Laws.MakeOwn
import Derived.Laws.OwnMore
namespace Go.Proofs.Ytjlmignafhhjhaa
open Go.RowKit Go.Shelf
attribute [local go_sem] Oper.semAt_some

theorem made_row (z : Value) (m : Nat) : madeCells #[z] m = Array.replicate m z := by
  apply Array.ext'
  apply List.ext_getElem
  · simp [madeCells]
  · intro i h1 h2
    simp [madeCells, Nat.mod_one]
theorem wpListIn_zeros {F : Fence} {n : Nat} {P : Program} (w : World) {ops : Array Oper} {rest : List Oper} {o : Oper} {a : Act} {Q : Exit → Act → World → Prop}
    (hg : o.guard = none) (l c : Operand) (t : TypeId) (hop : o.op = Op.makeSlice t l c)
    (e : TypeId) (i : TypeInfo) (k : IntKind) (h1 : P.underlying t = some (.slice e)) (h2 : P.info? e = some i) (h3 : i.zero = some (.int k 0)) (h4 : i.size = 1)
    (kl kc : IntKind) (m : Nat) (hl : a.eval l = .int kl (m : Int)) (hc : a.eval c = .int kc (m : Int)) (b2 : i.bytes * m ≤ 281474976710656) (b3 : m ≤ 9223372036854775807)
    (hK : wpListIn F n P ops Q rest (a.put o.dst (.slice (some ⟨w.heap.size, 0, none⟩) m m)) (w.alloc (.cells (Array.replicate m (.int k 0)) e))) :
    wpListIn F n P ops Q (o :: rest) a w := by
  refine wpListIn_plain hg fun K hK' => ?_
  have hb' : (i.bytes : Int) * (m : Int) ≤ 281474976710656 := by
    have h : ((i.bytes * m : Nat) : Int) ≤ 281474976710656 := by omega
    rwa [Int.natCast_mul] at h
  have hrun := run_make (P := P) w t e i (.int k 0) h1 h2 h3 kl kc m m (by omega) (Int.le_refl _) hb' (by omega)
  simp only [Int.toNat_natCast, h4, Nat.mul_one, Value.cells] at hrun
  rw [made_row] at hrun
  unfold Oper.wpIn
  refine ⟨?_, ?_⟩
  · simp [Oper.about, hop]
  · rw [Oper.semAt_plain F _ _ (by rw [hop]; intro c hc'; cases hc')]
    simp [execOp, hop, hl, hc, hrun, Result.andThen]
    exact hK' _ _ hK
/-- The row when k digits are told. -/
def rowK (ss : List Int) (a : Int) (k : Nat) : List Int := (List.range ss.length).map fun i => if ss.length - k ≤ i then digAt ss a i else 0
theorem rowK_len (ss : List Int) (a : Int) (k : Nat) : (rowK ss a k).length = ss.length := by simp [rowK]
theorem rowK_zero (ss : List Int) (a : Int) : rowK ss a 0 = List.replicate ss.length 0 := by
  apply List.ext_getElem
  · simp [rowK]
  · intro i h1 h2
    have : ¬ ss.length ≤ i := by simp [rowK] at h1; omega
    simp [rowK, this]
theorem rowK_full (ss : List Int) (a : Int) : rowK ss a ss.length = dgs ss a := by
  simp [rowK, dgs]
theorem rowK_step (ss : List Int) (a : Int) (k j : Nat) (hk : k < ss.length) (hj : ss.length - 1 - k = j) : (rowK ss a k).set j (digAt ss a j) = rowK ss a (k + 1) := by
  apply List.ext_getElem
  · simp [rowK]
  · intro i h1 h2
    have hi : i < ss.length := by simp [rowK] at h2; omega
    rw [List.getElem_set]
    by_cases hij : j = i
    · subst hij
      simp only [rowK, List.getElem_map, List.getElem_range, if_true]
      rw [if_pos (by omega)]
    · rw [if_neg hij]
      simp only [rowK, List.getElem_map, List.getElem_range]
      by_cases h : ss.length - k ≤ i
      · rw [if_pos h, if_pos (by omega)]
      · rw [if_neg h, if_neg (by omega)]
theorem wrap_i64 {z : Int} (h1 : -9223372036854775808 ≤ z) (h2 : z ≤ 9223372036854775807) : IntKind.i64.wrap z = z := by rw [IntKind.wrap_i64]; omega
/-- How memory stands when k digits are told. -/
structure DgC (K : IntKind) (e t : Nat) (w : World) (v : Value) (ss : List Int) (a : Int) (s : Nat) (lo : Loop) (k : Nat) (W : World) : Prop where
  at_ : W.heap[s]? = some (.cells #[.int .i64 (a / pr (ss.drop (ss.length - k)))] 3 (0, 0))
  row : W.heap[s + 1]? = some (.cells ((rowK ss a k).map (Value.int K)).toArray e (0, 0))
  box : W.heap[s + 2]? = some (.cells #[.slice (some ⟨s + 1, 0, none⟩) ss.length ss.length] t (0, 0))
  src : W.heap[s + 3]? = some (.cells #[v] t (0, 0))
  dfr : W.heap[s + 4]? = some (.deferred (some []))
  rcd : W.heap[s + 5]? = some (.loop lo)
  bel : Below s w W
section
variable {K : IntKind} {e t : Nat} {w : World} {v : Value} {ss : List Int} {a : Int} {s : Nat} {lo : Loop} {k : Nat} {W : World}
theorem DgC.drew (h : DgC K e t w v ss a s lo k W) : DgC K e t w v ss a s lo k W.drew := ⟨h.at_, h.row, h.box, h.src, h.dfr, h.rcd, h.bel.drew⟩
theorem DgC.put (h : DgC K e t w v ss a s lo k W) (lo' : Loop) : DgC K e t w v ss a s lo' k (W.putObj (s + 5) (.loop lo')) := by
  have hl : s + 5 < W.heap.size := (Array.getElem?_eq_some_iff.1 h.rcd).1
  refine ⟨?_, ?_, ?_, ?_, ?_, World.putObj_heap_same hl, ?_⟩
  · rw [World.putObj_heap_other (by omega)]; exact h.at_
  · rw [World.putObj_heap_other (by omega)]; exact h.row
  · rw [World.putObj_heap_other (by omega)]; exact h.box
  · rw [World.putObj_heap_other (by omega)]; exact h.src
  · rw [World.putObj_heap_other (by omega)]; exact h.dfr
  · exact h.bel.trans ⟨rfl, rfl, rfl, by simp [World.putObj], fun q hq => World.putObj_heap_other (by omega)⟩
end
end Go.Proofs.Ytjlmignafhhjhaa

namespace Go.Proofs.Ytjlmignafhhjhaa
open Go.RowKit Go.Shelf
attribute [local go_sem] Oper.semAt_some

end Go.Proofs.Ytjlmignafhhjhaa

namespace Go.Proofs.Ytjlmignafhhjhaa
open Go.RowKit Go.Shelf
attribute [local go_sem] Oper.semAt_some

end Go.Proofs.Ytjlmignafhhjhaa

namespace Go.Proofs.Ytjlmignafhhjhaa
open Go.RowKit Go.Shelf
attribute [local go_sem] Oper.semAt_some

end Go.Proofs.Ytjlmignafhhjhaa

namespace Go.Proofs.Ytjlmignafhhjhaa
open Go.RowKit Go.Shelf

theorem keepR {w w' : World} {p : Addr} {v : Value} (hb : Below w.heap.size w w') (h : w.cell? p = some v) : w'.cell? p = some v := by
  rw [hb.cell (block_lt_of_cell h)]; exact h
end Go.Proofs.Ytjlmignafhhjhaa

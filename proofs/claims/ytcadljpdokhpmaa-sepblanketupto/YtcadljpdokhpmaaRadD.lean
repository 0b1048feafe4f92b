/-
  Proved here: package radix's Digits at the three types.
-/
import Derived.Test.YtcadljpdokhpmaaRadCAll
import Derived.Laws.MakeOwn
import Derived.Laws.OwnMore
namespace Go.Proofs.Ytcadljpdokhpmaa
open Go.RowKit Go.Shelf
attribute [local go_sem] Oper.semAt_some

theorem made_row (z : Value) (m : Nat) : madeCells #[z] m = Array.replicate m z := by
  apply Array.ext'
  apply List.ext_getElem
  · simp [madeCells]
  · intro i h1 h2
    simp [madeCells, Nat.mod_one]
theorem wpListIn_zeros {F : Fence} {n : Nat} {P : Program} (w : World) {ops : Array Oper} {rest : List Oper} {o : Oper} {a : Act} {Q : Exit → Act → World → Prop}
    (hg : o.guard = none) (l c : Operand) (t : TypeId) (hop : o.op = Op.makeSlice t l c)
    (e : TypeId) (i : TypeInfo) (k : IntKind) (h1 : P.underlying t = some (.slice e)) (h2 : P.info? e = some i) (h3 : i.zero = some (.int k 0)) (h4 : i.size = 1)
    (kl kc : IntKind) (m : Nat) (hl : a.eval l = .int kl (m : Int)) (hc : a.eval c = .int kc (m : Int)) (b2 : i.bytes * m ≤ 281474976710656) (b3 : m ≤ 9223372036854775807)
    (hK : wpListIn F n P ops Q rest (a.put o.dst (.slice (some ⟨w.heap.size, 0, none⟩) m m)) (w.alloc (.cells (Array.replicate m (.int k 0)) e))) :
    wpListIn F n P ops Q (o :: rest) a w := by
  refine wpListIn_plain hg fun K hK' => ?_
  have hb' : (i.bytes : Int) * (m : Int) ≤ 281474976710656 := by
    have h : ((i.bytes * m : Nat) : Int) ≤ 281474976710656 := by omega
    rwa [Int.natCast_mul] at h
  have hrun := run_make (P := P) w t e i (.int k 0) h1 h2 h3 kl kc m m (by omega) (Int.le_refl _) hb' (by omega)
  simp only [Int.toNat_natCast, h4, Nat.mul_one, Value.cells] at hrun
  rw [made_row] at hrun
  unfold Oper.wpIn
  refine ⟨?_, ?_⟩
  · simp [Oper.about, hop]
  · rw [Oper.semAt_plain F _ _ (by rw [hop]; intro c hc'; cases hc')]
    simp [execOp, hop, hl, hc, hrun, Result.andThen]
    exact hK' _ _ hK
/-- The row when k digits are told. -/
def rowK (ss : List Int) (a : Int) (k : Nat) : List Int := (List.range ss.length).map fun i => if ss.length - k ≤ i then digAt ss a i else 0
theorem rowK_len (ss : List Int) (a : Int) (k : Nat) : (rowK ss a k).length = ss.length := by simp [rowK]
theorem rowK_zero (ss : List Int) (a : Int) : rowK ss a 0 = List.replicate ss.length 0 := by
  apply List.ext_getElem
  · simp [rowK]
  · intro i h1 h2
    have : ¬ ss.length ≤ i := by simp [rowK] at h1; omega
    simp [rowK, this]
theorem rowK_full (ss : List Int) (a : Int) : rowK ss a ss.length = dgs ss a := by
  simp [rowK, dgs]
theorem rowK_step (ss : List Int) (a : Int) (k j : Nat) (hk : k < ss.length) (hj : ss.length - 1 - k = j) : (rowK ss a k).set j (digAt ss a j) = rowK ss a (k + 1) := by
  apply List.ext_getElem
  · simp [rowK]
  · intro i h1 h2
    have hi : i < ss.length := by simp [rowK] at h2; omega
    rw [List.getElem_set]
    by_cases hij : j = i
    · subst hij
      simp only [rowK, List.getElem_map, List.getElem_range, if_true]
      rw [if_pos (by omega)]
    · rw [if_neg hij]
      simp only [rowK, List.getElem_map, List.getElem_range]
      by_cases h : ss.length - k ≤ i
      · rw [if_pos h, if_pos (by omega)]
      · rw [if_neg h, if_neg (by omega)]
theorem results_t2 {P : Program} {fn : Func} {p q : Tmp} (h : fn.results = #[.tmp p, .tmp q]) (tmps : Array Value) (w : World) (v u : Value) (hp : tmps.getD p undef = v) (hq : tmps.getD q undef = u) : (results fn tmps).run P w = .ok (.tuple #[v, u]) w := by
  have hp' : tmps[p]?.getD undef = v := by simpa using hp
  have hq' : tmps[q]?.getD undef = u := by simpa using hq
  simp [results, h, hp', hq']
theorem with_rec {p : Loop → Prop} (lo : Loop) (h : ∀ lo', lo' = lo → p lo') : p lo := h lo rfl
theorem wrap_i64 {z : Int} (h1 : -9223372036854775808 ≤ z) (h2 : z ≤ 9223372036854775807) : IntKind.i64.wrap z = z := by rw [IntKind.wrap_i64]; omega
theorem wrap_i32 {z : Int} (h1 : -2147483648 ≤ z) (h2 : z ≤ 2147483647) : IntKind.i32.wrap z = z := by rw [IntKind.wrap_i32]; omega
theorem wrap_u16 {z : Int} (h1 : 0 ≤ z) (h2 : z ≤ 65535) : IntKind.u16.wrap z = z := by simp [IntKind.wrap, IntKind.bits, IntKind.signed]; omega
theorem wpIn_cut {F : Fence} {n : Nat} {P : Program} {c : Code} {Q : Exit → Act → World → Prop} {a a' : Act} {w w' : World} (h : c.wpIn F n P (fun e b W => e = Exit.normal ∧ b = a' ∧ W = w') a w) (k : Q .normal a' w') : c.wpIn F n P Q a w :=
  wpIn_mono h fun _ _ _ ⟨h1, h2, h3⟩ => h1 ▸ h2 ▸ h3 ▸ k
/-- What Digits leaves. -/
def DgEnd (K : IntKind) (et : Nat) (ss : List Int) (a : Int) (w : World) (e : Ending) (w' : World) : Prop :=
  ((dgE ss a ≠ 0 ∧ e = .returned (.tuple #[.slice none 0 0, .int .i64 (dgE ss a)])) ∨
   (dgE ss a = 0 ∧ ∃ g, e = .returned (.tuple #[.slice (some ⟨g, 0, none⟩) ss.length ss.length, .int .i64 0]) ∧ w.heap.size ≤ g ∧ w'.heap[g]? = some (.cells ((dgs ss a).map (Value.int K)).toArray et (0, 0)))) ∧ Below w.heap.size w w'
theorem below_drewR {B : Nat} {w w' : World} (h : Below B w w') : ∀ q, Below B w (w'.drewN q)
  | 0 => h
  | q + 1 => (below_drewR h q).drew
/-- How memory stands when k digits are told. -/
structure DgC (K : IntKind) (e t : Nat) (w : World) (v : Value) (ss : List Int) (a : Int) (s : Nat) (lo : Loop) (k : Nat) (W : World) : Prop where
  at_ : W.heap[s]? = some (.cells #[.int .i64 (a / pr (ss.drop (ss.length - k)))] 3 (0, 0))
  row : W.heap[s + 1]? = some (.cells ((rowK ss a k).map (Value.int K)).toArray e (0, 0))
  box : W.heap[s + 2]? = some (.cells #[.slice (some ⟨s + 1, 0, none⟩) ss.length ss.length] t (0, 0))
  src : W.heap[s + 3]? = some (.cells #[v] t (0, 0))
  dfr : W.heap[s + 4]? = some (.deferred (some []))
  rcd : W.heap[s + 5]? = some (.loop lo)
  bel : Below s w W
section
variable {K : IntKind} {e t : Nat} {w : World} {v : Value} {ss : List Int} {a : Int} {s : Nat} {lo : Loop} {k : Nat} {W : World}
theorem DgC.drew (h : DgC K e t w v ss a s lo k W) : DgC K e t w v ss a s lo k W.drew := ⟨h.at_, h.row, h.box, h.src, h.dfr, h.rcd, h.bel.drew⟩
theorem DgC.next (h : DgC K e t w v ss a s lo k W) (hk : k < ss.length) (h1 : ∀ z ∈ ss, 1 ≤ z) {j : Nat} (hj : ss.length - 1 - k = j) :
    DgC K e t w v ss a s lo (k + 1) ((W.setCell ⟨s + 1, j, none⟩ (.int K (a / pr (ss.drop (j + 1)) % ss.getD j 0))).setCell ⟨s, 0, none⟩ (.int .i64 (a / pr (ss.drop (j + 1)) / ss.getD j 0))) := by
  have hA := heap_setCell_same W (s + 1) j _ _ (.int K (a / pr (ss.drop (j + 1)) % ss.getD j 0)) h.row
  have hB : (W.setCell ⟨s + 1, j, none⟩ (.int K (a / pr (ss.drop (j + 1)) % ss.getD j 0))).heap[s]? = _ := (Below.heap_setCell _ _ _ _ (show s ≠ s + 1 by omega)).trans h.at_
  refine ⟨?_, ?_, ?_, ?_, ?_, ?_, ?_⟩
  · rw [heap_setCell_same _ s 0 _ _ _ hB, div_step ss a h1 j (by omega), show ss.length - (k + 1) = j by omega]; rfl
  · rw [Below.heap_setCell _ _ _ _ (show s + 1 ≠ s by omega), hA]
    have := rowK_step ss a k j hk hj
    rw [← this, List.setIfInBounds_toArray, List.map_set]; rfl
  · rw [Below.heap_setCell _ _ _ _ (show s + 2 ≠ s by omega), Below.heap_setCell _ _ _ _ (show s + 2 ≠ s + 1 by omega)]; exact h.box
  · rw [Below.heap_setCell _ _ _ _ (show s + 3 ≠ s by omega), Below.heap_setCell _ _ _ _ (show s + 3 ≠ s + 1 by omega)]; exact h.src
  · rw [Below.heap_setCell _ _ _ _ (show s + 4 ≠ s by omega), Below.heap_setCell _ _ _ _ (show s + 4 ≠ s + 1 by omega)]; exact h.dfr
  · rw [Below.heap_setCell _ _ _ _ (show s + 5 ≠ s by omega), Below.heap_setCell _ _ _ _ (show s + 5 ≠ s + 1 by omega)]; exact h.rcd
  · exact (h.bel.setCell (p := ⟨s + 1, j, none⟩) (by show s ≤ s + 1; omega) _).setCell (p := ⟨s, 0, none⟩) (Nat.le_refl _) _
theorem DgC.cells (h : DgC K e t w v ss a s lo k W) (hk : k < ss.length) {j : Nat} (hj : ss.length - 1 - k = j) :
    W.cell? ⟨s, 0, none⟩ = some (.int .i64 (a / pr (ss.drop (j + 1)))) ∧ W.frozen? ⟨s, 0, none⟩ = false ∧ W.cell? ⟨s + 2, 0, none⟩ = some (.slice (some ⟨s + 1, 0, none⟩) ss.length ss.length) ∧
      (∃ u, W.cell? ⟨s + 1, j, none⟩ = some (.int K u)) ∧ W.frozen? ⟨s + 1, j, none⟩ = false := by
  refine ⟨?_, frozen_of_row W _ 0 _ _ h.at_, by simp [World.cell?, h.box], ⟨(rowK ss a k).getD j 0, ?_⟩, frozen_of_row W _ _ _ _ h.row⟩
  · have := h.at_
    rw [show ss.length - k = j + 1 by omega] at this
    simp [World.cell?, this]
  · have hjl : j < (rowK ss a k).length := by rw [rowK_len]; omega
    simp [World.cell?, h.row, List.getD_eq_getElem?_getD, hjl]
theorem DgC.put (h : DgC K e t w v ss a s lo k W) (lo' : Loop) : DgC K e t w v ss a s lo' k (W.putObj (s + 5) (.loop lo')) := by
  have hl : s + 5 < W.heap.size := (Array.getElem?_eq_some_iff.1 h.rcd).1
  refine ⟨?_, ?_, ?_, ?_, ?_, World.putObj_heap_same hl, ?_⟩
  · rw [World.putObj_heap_other (by omega)]; exact h.at_
  · rw [World.putObj_heap_other (by omega)]; exact h.row
  · rw [World.putObj_heap_other (by omega)]; exact h.box
  · rw [World.putObj_heap_other (by omega)]; exact h.src
  · rw [World.putObj_heap_other (by omega)]; exact h.dfr
  · exact h.bel.trans ⟨rfl, rfl, rfl, by simp [World.putObj], fun q hq => World.putObj_heap_other (by omega)⟩
end
end Go.Proofs.Ytcadljpdokhpmaa

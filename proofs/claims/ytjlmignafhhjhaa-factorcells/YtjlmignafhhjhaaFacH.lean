/-
  Proved here: plain facts on products of tables: the sizes of each table are those of the product that it has.
-/
import Derived.Test.YtjlmignafhhjhaaFacG
namespace Go.Proofs.Ytjlmignafhhjhaa
set_option linter.unusedVariables false
open Go.RowKit Go.Shelf Go.Lib Go.Sort
theorem sel_map {α β : Type} (f : α → β) : ∀ (B : List Bool) (L : List α), sel B (L.map f) = (sel B L).map f
  | [], L => by cases L <;> rfl
  | b :: B, [] => rfl
  | b :: B, x :: L => by cases b <;> simp [sel, sel_map f B L]
theorem mem_sel_mask : ∀ {U P : List Int} {v : Int}, v ∈ sel (mask U P) U ↔ v ∈ U ∧ v ∈ P
  | [], P, v => by simp [sel, mask]
  | x :: U, P, v => by
    have ih := mem_sel_mask (U := U) (P := P) (v := v)
    by_cases h : x ∈ P
    · have : sel (mask (x :: U) P) (x :: U) = x :: sel (mask U P) U := by simp [mask, sel, h]
      rw [this, List.mem_cons, ih, List.mem_cons]
      constructor
      · rintro (e | e)
        · exact ⟨.inl e, e ▸ h⟩
        · exact ⟨.inr e.1, e.2⟩
      · rintro ⟨e | e, e2⟩
        · exact .inl e
        · exact .inr ⟨e, e2⟩
    · have : sel (mask (x :: U) P) (x :: U) = sel (mask U P) U := by simp [mask, sel, h]
      rw [this, ih, List.mem_cons]
      constructor
      · rintro ⟨e, e2⟩; exact ⟨.inr e, e2⟩
      · rintro ⟨e | e, e2⟩
        · exact absurd (e ▸ e2) h
        · exact ⟨e, e2⟩
theorem sel_sub {α : Type} : ∀ (B : List Bool) (L : List α), (sel B L).Sublist L
  | [], [] => List.Sublist.slnil
  | [], _ :: _ => List.nil_sublist _
  | b :: B, [] => List.Sublist.slnil
  | b :: B, x :: L => by
    cases b with
    | true => exact (sel_sub B L).cons_cons x
    | false => exact (sel_sub B L).cons x
theorem rise_sel {U : List Int} (h : Rise U) (B : List Bool) : Rise (sel B U) := List.Pairwise.sublist (sel_sub B U) h
theorem sel_mask {U P : List Int} (hU : Rise U) (hP : Rise P) (hs : ∀ v ∈ P, v ∈ U) : sel (mask U P) U = P :=
  rise_ext (rise_sel hU _) hP fun v => by rw [mem_sel_mask]; exact ⟨fun h => h.2, fun h => ⟨hs v h, h⟩⟩
theorem map_szOf {xs zs : List Int} (hr : Rise xs) (hl : zs.length = xs.length) : xs.map (szOf xs zs) = zs := by
  apply List.ext_getElem
  · simp [hl]
  · intro i h1 h2
    have hi : i < xs.length := by simpa using h1
    rw [List.getElem_map, szOf_at hr hl (List.getElem?_eq_getElem hi)]
    simp [List.getD_eq_getElem?_getD, h2]
theorem szOf_pos {xs zs : List Int} (hr : Rise xs) (hl : zs.length = xs.length) (h1 : ∀ z ∈ zs, 1 ≤ z) {v : Int} (hv : v ∈ xs) : 1 ≤ szOf xs zs v := by
  obtain ⟨i, hi, e⟩ := List.mem_iff_getElem.1 hv
  rw [szOf_at hr hl (show xs[i]? = some v by rw [List.getElem?_eq_getElem hi, e])]
  have hz : i < zs.length := by omega
  rw [List.getD_eq_getElem?_getD, List.getElem?_eq_getElem hz]
  exact h1 _ (List.getElem_mem hz)
section
variable {xs zs ys us : List Int}
theorem no_clash (h : clash xs zs ys us = false) {v : Int} (hv : v ∈ joinR xs ys) (h1 : 0 < szOf xs zs v) (h2 : 0 < szOf ys us v) : szOf xs zs v = szOf ys us v := by
  have := List.any_eq_false.1 h v hv
  simp [two, h1, h2] at this
  exact this
theorem jS_left (hr : Rise xs) (hr' : Rise ys) (hl : zs.length = xs.length) (hp : ∀ z ∈ zs, 1 ≤ z) (hp' : ∀ z ∈ us, 1 ≤ z) (hc : clash xs zs ys us = false) : sel (mask (joinR xs ys) xs) (jS xs zs ys us) = zs := by
  unfold jS
  rw [sel_map, sel_mask (rise_joinR ys hr) hr fun v hv => (mem_joinR ys xs v).2 (.inl hv)]
  have : ∀ v ∈ xs, mxZ (szOf xs zs v) (szOf ys us v) = szOf xs zs v := fun v hv => by
    have h1 := szOf_pos hr hl hp hv
    have h2 : 0 ≤ szOf ys us v := szOf_nn fun z hz => by have := hp' z hz; omega
    unfold mxZ
    split
    · have := no_clash hc ((mem_joinR ys xs v).2 (.inl hv)) (by omega) (by omega); omega
    · rfl
  rw [List.map_congr_left this, map_szOf hr hl]
theorem jS_right (hr : Rise xs) (hr' : Rise ys) (hl' : us.length = ys.length) (hp : ∀ z ∈ zs, 1 ≤ z) (hp' : ∀ z ∈ us, 1 ≤ z) (hc : clash xs zs ys us = false) : sel (mask (joinR xs ys) ys) (jS xs zs ys us) = us := by
  unfold jS
  rw [sel_map, sel_mask (rise_joinR ys hr) hr' fun v hv => (mem_joinR ys xs v).2 (.inr hv)]
  have : ∀ v ∈ ys, mxZ (szOf xs zs v) (szOf ys us v) = szOf ys us v := fun v hv => by
    have h1 := szOf_pos hr' hl' hp' hv
    have h2 : 0 ≤ szOf xs zs v := szOf_nn fun z hz => by have := hp z hz; omega
    unfold mxZ
    split
    · rfl
    · by_cases h3 : 0 < szOf xs zs v
      · exact no_clash hc ((mem_joinR ys xs v).2 (.inr hv)) h3 (by omega)
      · omega
  rw [List.map_congr_left this, map_szOf hr' hl']
theorem jS_ones (hr : Rise xs) (hr' : Rise ys) (hl : zs.length = xs.length) (hl' : us.length = ys.length) (hp : ∀ z ∈ zs, 1 ≤ z) (hp' : ∀ z ∈ us, 1 ≤ z) : ∀ z ∈ jS xs zs ys us, 1 ≤ z := by
  intro z hz
  unfold jS at hz
  obtain ⟨v, hv, rfl⟩ := List.mem_map.1 hz
  have a1 : 0 ≤ szOf xs zs v := szOf_nn fun z hz => by have := hp z hz; omega
  have a2 : 0 ≤ szOf ys us v := szOf_nn fun z hz => by have := hp' z hz; omega
  rcases (mem_joinR ys xs v).1 hv with h | h
  · have := szOf_pos hr hl hp h; unfold mxZ; split <;> omega
  · have := szOf_pos hr' hl' hp' h; unfold mxZ; split <;> omega
theorem jS_bd (hz : ∀ z ∈ zs, z ≤ 9223372036854775807) (hu : ∀ z ∈ us, z ≤ 9223372036854775807) : ∀ z ∈ jS xs zs ys us, z ≤ 9223372036854775807 := by
  intro z h
  unfold jS at h
  obtain ⟨v, hv, rfl⟩ := List.mem_map.1 h
  have a1 : szOf xs zs v ≤ 9223372036854775807 := szOf_le (by decide) hz
  have a2 : szOf ys us v ≤ 9223372036854775807 := szOf_le (by decide) hu
  unfold mxZ; split <;> assumption
end
/-- Which cell of a table stands at place i of a product. -/
def pos (U S P : List Int) (i : Int) : Int := dot (dgs S i) (strd S (mask U P))
theorem pos_bd {U S P zs : List Int} (h1 : ∀ z ∈ S, 1 ≤ z) (hs : sel (mask U P) S = zs) (i : Int) : 0 ≤ pos U S P i ∧ pos U S P i < pr zs := by
  have := dot_bd S (mask U P) (dgs S i) (dgs_dig S i h1)
  rw [pm_sel, hs] at this
  exact this
/-- The cells of a product. -/
def prodL {α : Type} (mul : α → α → α) (d : α) (U S xs ys : List Int) (cs ds : List α) : List α :=
  (List.range (pr S).toNat).map fun (i : Nat) => mul (cs.getD (pos U S xs i).toNat d) (ds.getD (pos U S ys i).toNat d)
theorem prodL_len {α : Type} (mul : α → α → α) (d : α) (U S xs ys : List Int) (cs ds : List α) : (prodL mul d U S xs ys cs ds).length = (pr S).toNat := by simp [prodL]
/-- All blocks but some are as they were. -/
structure GrS (w w' : World) (X : List Nat) : Prop where
  os : w'.os = w.os
  tape : w'.tape = w.tape
  output : w'.output = w.output
  size : w.heap.size ≤ w'.heap.size
  block : ∀ k, k < w.heap.size → k ∉ X → w'.heap[k]? = w.heap[k]?
section
variable {w W W' : World} {X : List Nat}
theorem GrS.refl (w : World) (X : List Nat) : GrS w w X := ⟨rfl, rfl, rfl, Nat.le_refl _, fun _ _ _ => rfl⟩
theorem GrS.then (h : GrS w W X) (b : Below W.heap.size W W') : GrS w W' X := ⟨b.os.trans h.os, b.tape.trans h.tape, b.output.trans h.output, Nat.le_trans h.size b.size, fun k hk hx => by rw [b.block k (Nat.lt_of_lt_of_le hk h.size)]; exact h.block k hk hx⟩
theorem GrS.gr2 (h : GrS w W X) {a b : Nat} (g : Gr2 W W' a b) (ha : a ∈ X) (hb : b ∈ X) : GrS w W' X := ⟨g.os.trans h.os, g.tape.trans h.tape, g.output.trans h.output, Nat.le_trans h.size g.size, fun k hk hx => by rw [g.block k (Nat.lt_of_lt_of_le hk h.size) (fun e => hx (e ▸ ha)) (fun e => hx (e ▸ hb))]; exact h.block k hk hx⟩
theorem GrS.set (h : GrS w W X) {a : Nat} (ha : a ∈ X) (k : Nat) (v : Value) : GrS w (W.setCell ⟨a, k, none⟩ v) X := by
  have hb := (Below.refl a W).setCell (p := ⟨a, k, none⟩) (Nat.le_refl _) v
  exact ⟨hb.os.trans h.os, hb.tape.trans h.tape, hb.output.trans h.output, Nat.le_trans h.size hb.size, fun q hq hx => by have hne : q ≠ a := fun e => hx (e ▸ ha); rw [Below.heap_setCell _ _ _ _ hne]; exact h.block q hq hx⟩
theorem GrS.drew (h : GrS w W X) : GrS w W.drew X := ⟨h.os, h.tape, h.output, h.size, h.block⟩
theorem GrS.below (h : GrS w W X) {B : Nat} (hX : ∀ x ∈ X, B ≤ x) (hB : B ≤ w.heap.size) : Below B w W := ⟨h.os, h.tape, h.output, h.size, fun k hk => h.block k (by omega) (fun hx => by have := hX k hx; omega)⟩
end
theorem WkS.below {w w' : World} {gw gv gs : Nat} {zv : Value} {S : List Int} {B : List Bool} {i : Int} (h : WkS w gw gv gs zv S B i) (b : Below w.heap.size w w') : WkS w' gw gv gs zv S B i := by
  have l1 : gw < w.heap.size := (Array.getElem?_eq_some_iff.1 h.str).1
  have l2 : gv < w.heap.size := (Array.getElem?_eq_some_iff.1 h.val).1
  have l3 : gs < w.heap.size := (Array.getElem?_eq_some_iff.1 h.srd).1
  exact ⟨by rw [b.block _ l1]; exact h.str, by rw [b.block _ l2]; exact h.val, by rw [b.block _ l3]; exact h.srd⟩
theorem WkS.of_blocks {w w' : World} {gw gv gs : Nat} {zv : Value} {S : List Int} {B : List Bool} {i : Int} (h : WkS w gw gv gs zv S B i) (b1 : w'.heap[gw]? = w.heap[gw]?) (b2 : w'.heap[gv]? = w.heap[gv]?) (b3 : w'.heap[gs]? = w.heap[gs]?) : WkS w' gw gv gs zv S B i :=
  ⟨by rw [b1]; exact h.str, by rw [b2]; exact h.val, by rw [b3]; exact h.srd⟩
theorem wpList_made {P : Program} (w : World) {ops : Array Oper} {rest : List Oper} {o : Oper} {a : Act} {Q : Exit → Act → World → Prop}
    (hg : o.guard = none) (l c : Operand) (t : TypeId) (hop : o.op = Op.makeSlice t l c)
    (e : TypeId) (i : TypeInfo) (z : Value) (hzc : z.cells = #[z]) (h1 : P.underlying t = some (.slice e)) (h2 : P.info? e = some i) (h3 : i.zero = some z) (h4 : i.size = 1)
    (kl kc : IntKind) (m : Nat) (hl : a.eval l = .int kl (m : Int)) (hc : a.eval c = .int kc (m : Int)) (b2 : i.bytes * m ≤ 281474976710656) (b3 : m ≤ 9223372036854775807)
    (hK : wpList P ops Q rest (a.put o.dst (.slice (some ⟨w.heap.size, 0, none⟩) m m)) (w.alloc (.cells (Array.replicate m z) e))) :
    wpList P ops Q (o :: rest) a w := by
  refine wpList_plain hg fun K hK' => ?_
  have hb' : (i.bytes : Int) * (m : Int) ≤ 281474976710656 := by
    have h : ((i.bytes * m : Nat) : Int) ≤ 281474976710656 := by omega
    rwa [Int.natCast_mul] at h
  have hrun := run_make (P := P) w t e i z h1 h2 h3 kl kc m m (by omega) (Int.le_refl _) hb' (by omega)
  simp only [Int.toNat_natCast, h4, Nat.mul_one, hzc] at hrun
  rw [made_row] at hrun
  unfold Oper.wp
  simp [execOp, hop, hl, hc, hrun, Result.andThen]
  exact hK' _ _ hK
theorem rows_set {α : Type} {enc : α → Value} {w : World} {g i : Nat} {L : List α} {e : Nat} (h : w.heap[g]? = some (.cells (L.map enc).toArray e (0, 0))) (x : α) : (w.setCell ⟨g, i, none⟩ (enc x)).heap[g]? = some (.cells ((L.set i x).map enc).toArray e (0, 0)) := by
  rw [heap_setCell_same w g i _ _ _ h, List.setIfInBounds_toArray, List.map_set]
theorem rows_cell {α : Type} {enc : α → Value} {w : World} {g i : Nat} {L : List α} {e : Nat} (h : w.heap[g]? = some (.cells (L.map enc).toArray e (0, 0))) {x : α} (hi : L[i]? = some x) : w.cell? ⟨g, i, none⟩ = some (enc x) := by
  simp [World.cell?, h, hi]
/-- The cells of a product told up to place i. -/
def upTo {α : Type} (L : List α) (d : α) (i : Nat) : List α := L.take i ++ List.replicate (L.length - i) d
theorem upTo_zero {α : Type} (L : List α) (d : α) : upTo L d 0 = List.replicate L.length d := by simp [upTo]
theorem upTo_full {α : Type} (L : List α) (d : α) : upTo L d L.length = L := by simp [upTo]
theorem upTo_len {α : Type} (L : List α) (d : α) (i : Nat) (h : i ≤ L.length) : (upTo L d i).length = L.length := by simp [upTo]; omega
theorem upTo_step {α : Type} {L : List α} {d : α} {i : Nat} {x : α} (h : L[i]? = some x) : (upTo L d i).set i x = upTo L d (i + 1) := by
  obtain ⟨hi, e⟩ := List.getElem?_eq_some_iff.1 h
  have hl : (L.take i).length = i := by rw [List.length_take]; omega
  unfold upTo
  rw [List.set_append_right _ _ (by omega), hl, Nat.sub_self, List.take_succ_eq_append_getElem hi, List.append_assoc]
  congr 1
  obtain ⟨m, hm⟩ : ∃ m, L.length - i = m + 1 := ⟨L.length - i - 1, by omega⟩
  rw [hm, show L.length - (i + 1) = m by omega, List.replicate_succ, List.set_cons_zero, e]
  rfl
end Go.Proofs.Ytjlmignafhhjhaa

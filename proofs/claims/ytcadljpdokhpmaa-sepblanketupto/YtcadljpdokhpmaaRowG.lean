/-
  Proved here: plain facts on rows of one-cell things, of whatever kind, that can be read or are a call's own. No condition.
-/
import Derived.WalkKit
import Derived.WalkSpells
import Derived.WalkLawsBesides
import Derived.Below
import Derived.BigQuiet
import Derived.OwnWalk
import Derived.OwnWalkIn
import Derived.ArgAppend
import Derived.Laws.AppendOwnNone
import Derived.Laws.MakeOwn
import Derived.Laws.OwnMore
namespace Go.Proofs.Ytcadljpdokhpmaa
open Go.RowKit
section
variable {α : Type} {enc : α → Value}

/-- A row that can be read: enc writes a thing as a cell. -/
def RG (enc : α → Value) (w : World) (v : Value) (zs : List α) : Prop :=
  ∃ ao cap, v = .slice ao zs.length cap ∧ zs.length ≤ cap ∧ cap ≤ maxLen ∧ (ao = none → cap = 0) ∧ ∀ i x, zs[i]? = some x → ∃ g o, ao = some ⟨g, o, none⟩ ∧ w.cell? ⟨g, o + i, none⟩ = some (enc x)
/-- A row of the call's own. -/
def OG (enc : α → Value) (B e : Nat) (w : World) (v : Value) (zs : List α) : Prop := w.ownsRow B e 1 v zs.length (zs.map enc)
theorem RG.nil (w : World) : RG enc w (.slice none 0 0) [] := ⟨none, 0, rfl, Nat.le_refl _, Nat.zero_le _, fun _ => rfl, fun i x h => by simp at h⟩
theorem OG.nil (B e : Nat) (w : World) : OG enc B e w (.slice none 0 0) [] := World.ownsRow_nil _ _ _ _
theorem RG.sl {w : World} {v : Value} {zs : List α} (h : RG enc w v zs) : ∃ ao cap, v = .slice ao zs.length cap := by obtain ⟨ao, cap, e, _⟩ := h; exact ⟨ao, cap, e⟩
theorem RG.len {w : World} {ao : Option Addr} {n cap : Nat} {zs : List α} (h : RG enc w (.slice ao n cap) zs) : zs.length = n := by
  obtain ⟨ao', cap', e, _⟩ := h
  simp only [Value.slice.injEq] at e
  exact e.2.1.symm
theorem RG.room {w : World} {ao : Option Addr} {n cap : Nat} {zs : List α} (h : RG enc w (.slice ao n cap) zs) : n ≤ cap ∧ cap ≤ maxLen ∧ (ao = none → cap = 0) := by
  obtain ⟨ao', cap', e, h1, h2, h3, _⟩ := h
  simp only [Value.slice.injEq] at e
  obtain ⟨rfl, rfl, rfl⟩ := e
  exact ⟨h1, h2, h3⟩
theorem RG.at {w : World} {ao : Option Addr} {n cap : Nat} {zs : List α} (h : RG enc w (.slice ao n cap) zs) {i : Nat} (hi : i < n) : ∃ x g o, zs[i]? = some x ∧ ao = some ⟨g, o, none⟩ ∧ w.cell? ⟨g, o + i, none⟩ = some (enc x) := by
  obtain ⟨ao', cap', e, _, _, _, hc⟩ := h
  simp only [Value.slice.injEq] at e
  obtain ⟨rfl, rfl, rfl⟩ := e
  obtain ⟨g, o, h1, h2⟩ := hc i zs[i] (List.getElem?_eq_getElem hi)
  exact ⟨zs[i], g, o, List.getElem?_eq_getElem hi, h1, h2⟩
theorem RG.of_blocks {w w' : World} {v : Value} {zs : List α} (h : RG enc w v zs) (hb : ∀ g, v.ownBlock = some g → w'.heap[g]? = w.heap[g]?) : RG enc w' v zs := by
  obtain ⟨ao, cap, rfl, h1, h2, h3, h5⟩ := h
  refine ⟨ao, cap, rfl, h1, h2, h3, fun j x hj => ?_⟩
  obtain ⟨b, off, rfl, hc⟩ := h5 j x hj
  exact ⟨b, off, rfl, by rw [← hc]; exact World.cell?_of_block (hb b rfl)⟩
theorem RG.lt {w : World} {v : Value} {zs : List α} (h : RG enc w v zs) : 0 < zs.length → ∀ b, v.ownBlock = some b → b < w.heap.size := by
  obtain ⟨ao, cap, rfl, h1, h2, h3, h5⟩ := h
  intro h0 b hb
  obtain ⟨g, o, rfl, hc⟩ := h5 0 zs[0] (List.getElem?_eq_getElem h0)
  simp only [Value.ownBlock, Option.some.injEq] at hb
  subst hb
  exact block_lt_of_cell hc
theorem RG.below {B : Nat} {w w' : World} {v : Value} {zs : List α} (h : RG enc w v zs) (hB : w.heap.size ≤ B) (hb : Below B w w') : RG enc w' v zs := by
  obtain ⟨ao, cap, rfl, h1, h2, h3, h5⟩ := h
  refine ⟨ao, cap, rfl, h1, h2, h3, fun j x hj => ?_⟩
  obtain ⟨b, off, e, hc⟩ := h5 j x hj
  exact ⟨b, off, e, by rw [hb.cell (p := ⟨b, off + j, none⟩) (Nat.lt_of_lt_of_le (block_lt_of_cell hc) hB), hc]⟩
theorem RG.kept {w w' : World} {v : Value} {zs : List α} {r : Option Nat} (h : RG enc w v zs) (hg : w.grownBy w' r) (hr : ∀ g, r = some g → 0 < zs.length → ∀ b, v.ownBlock = some b → b ≠ g) : RG enc w' v zs := by
  obtain ⟨ao, cap, rfl, h1, h2, h3, h5⟩ := h
  refine ⟨ao, cap, rfl, h1, h2, h3, fun j x hj => ?_⟩
  obtain ⟨b, off, rfl, hc⟩ := h5 j x hj
  have hl := (List.getElem?_eq_some_iff.1 hj).1
  exact ⟨b, off, rfl, hg.cell hc fun e => hr b e.symm (by omega) b rfl rfl⟩
theorem heap_drewG (w : World) (n : Nat) : (w.drewN n).heap = w.heap := by
  induction n generalizing w with
  | zero => rfl
  | succ n ih => exact ih w.drew
theorem RG.drewN {w : World} {v : Value} {zs : List α} (h : RG enc w v zs) (n : Nat) : RG enc (w.drewN n) v zs := h.of_blocks fun g _ => by rw [heap_drewG]
theorem RG.alloc {w : World} {v : Value} {zs : List α} (h : RG enc w v zs) (o : Obj) : RG enc (w.alloc o) v zs := h.below (Nat.le_refl _) ((Below.refl _ _).alloc (Nat.le_refl _) o)
theorem OG.sl {B e : Nat} {w : World} {v : Value} {zs : List α} (h : OG enc B e w v zs) : ∃ ao cap, v = .slice ao zs.length cap ∧ (0 < zs.length → ∃ g, B ≤ g ∧ ao = some ⟨g, 0, none⟩) ∧ zs.length ≤ cap ∧ cap ≤ maxLen ∧ (ao = none → cap = 0) := by
  rcases h.2 with ⟨rfl, h0⟩ | ⟨g, cap, cur, rfl, h3, h4, h5, h6, h7, h8⟩
  · exact ⟨none, 0, by rw [h0], fun h => by omega, by omega, by simp, fun _ => rfl⟩
  · exact ⟨_, cap, rfl, fun _ => ⟨g, h3, rfl⟩, h5, h6, fun h => by simp at h⟩
theorem OG.rg {B e : Nat} {w : World} {v : Value} {zs : List α} (h : OG enc B e w v zs) : RG enc w v zs := by
  have hw := h
  rcases h.2 with ⟨rfl, h0⟩ | ⟨g, cap, cur, rfl, h3, h4, h5, h6, h7, h8⟩
  · have : zs = [] := List.eq_nil_of_length_eq_zero h0
    subst this
    exact RG.nil w
  · refine ⟨some ⟨g, 0, none⟩, cap, rfl, h5, h6, fun e => by simp at e, fun j x hj => ⟨g, 0, rfl, ?_⟩⟩
    have hl := (List.getElem?_eq_some_iff.1 hj).1
    rw [Nat.zero_add, World.ownsRow.cellAt hw j (by simpa using hl), List.getElem?_map, hj]
    rfl
theorem OG.of_blocks {B e : Nat} {w w' : World} {v : Value} {zs : List α} (h : OG enc B e w v zs) (hb : ∀ g, v.ownBlock = some g → w'.heap[g]? = w.heap[g]?) : OG enc B e w' v zs := by
  refine ⟨h.1, ?_⟩
  rcases h.2 with h2 | ⟨g, cap, cur, rfl, h3, h4, h5⟩
  · exact .inl h2
  · exact .inr ⟨g, cap, cur, rfl, h3, by rw [hb g rfl]; exact h4, h5⟩
theorem OG.lt {B e : Nat} {w : World} {v : Value} {zs : List α} (h : OG enc B e w v zs) : ∀ g, v.ownBlock = some g → B ≤ g ∧ g < w.heap.size := World.ownsRow.lt h
theorem OG.below {B e : Nat} {w w' : World} {v : Value} {zs : List α} (h : OG enc B e w v zs) (hb : Below w.heap.size w w') : OG enc B e w' v zs := h.of_blocks fun g hg => hb.block g (h.lt g hg).2
theorem OG.mono {B B' e : Nat} {w : World} {v : Value} {zs : List α} (h : OG enc B e w v zs) (hB : B' ≤ B) : OG enc B' e w v zs := by
  refine ⟨h.1, ?_⟩
  rcases h.2 with h2 | ⟨g, cap, cur, rfl, h3, h5⟩
  · exact .inl h2
  · exact .inr ⟨g, cap, cur, rfl, by omega, h5⟩
theorem OG.lit0 (e : Nat) (w : World) : OG enc w.heap.size e (w.alloc (.cells #[] e)) (.slice (some ⟨w.heap.size, 0, none⟩) 0 0) [] :=
  ⟨rfl, .inr ⟨w.heap.size, 0, #[], rfl, Nat.le_refl _, heap_alloc_new w _, Nat.le_refl _, Nat.zero_le _, rfl, rfl⟩⟩
theorem OG.lit (e : Nat) (w : World) (zs : List α) (hm : zs.length ≤ maxLen) : OG enc w.heap.size e (w.alloc (.cells (zs.map enc).toArray e)) (.slice (some ⟨w.heap.size, 0, none⟩) zs.length zs.length) zs :=
  ⟨by simp, .inr ⟨w.heap.size, zs.length, _, rfl, Nat.le_refl _, heap_alloc_new w _, Nat.le_refl _, hm, by simp, List.take_of_length_le (by simp)⟩⟩
theorem OG.grown {B e : Nat} {w w' wr : World} {v : Value} {zs : List α} (hv : OG enc B e wr v zs) (hbel : Below B w wr) (hB : B ≤ wr.heap.size) (hg : wr.grownBy w' v.ownBlock) : Below B w w' :=
  hbel.trans ((Below.refl B wr).grown hg hB (fun g e => (hv.lt g e).1))
theorem OG.push {B e : Nat} {w w' wr : World} {v v' : Value} {zs : List α} {z : α} {o : Obj} (hv : OG enc B e wr v zs) (hbel : Below B w wr) (hB : B ≤ wr.heap.size)
    (ho : w'.ownsRow B e 1 v' (zs.length + 1) (zs.map enc ++ [enc z])) (hg : (wr.alloc o).grownBy w' v.ownBlock) :
    OG enc B e w' v' (zs ++ [z]) ∧ Below B w w' ∧ B ≤ w'.heap.size := by
  have hsz : (wr.alloc o).heap.size = wr.heap.size + 1 := by simp
  have hbel2 : Below B (wr.alloc o) w' := (Below.refl B (wr.alloc o)).grown hg (by omega) (fun g e => (hv.lt g e).1)
  refine ⟨?_, (hbel.alloc hB o).trans hbel2, by have := hbel2.size; omega⟩
  unfold OG
  rw [List.length_append, List.map_append]
  exact ho
theorem OG.cell {B e : Nat} {w : World} {g n cap : Nat} {L : List α} (h : OG enc B e w (.slice (some ⟨g, 0, none⟩) n cap) L) {i : Nat} {x : α} (hx : L[i]? = some x) : w.cell? ⟨g, i, none⟩ = some (enc x) ∧ w.frozen? ⟨g, i, none⟩ = false := by
  have hl := (List.getElem?_eq_some_iff.1 hx).1
  constructor
  · have hw := h
    rcases h.2 with ⟨h', _⟩ | ⟨g', cap', cur, h', h3, h4, h5, h6, h7, h8⟩
    · simp at h'
    · simp only [Value.slice.injEq, Option.some.injEq, Addr.mk.injEq, and_true] at h'
      obtain ⟨rfl, rfl, rfl⟩ := h'
      have := World.ownsRow.cellAt hw i (by simpa using hl)
      rw [this, List.getElem?_map, hx]; rfl
  · rcases h.2 with ⟨h', _⟩ | ⟨g', cap', cur, h', h3, h4, h5, h6, h7, h8⟩
    · simp at h'
    · simp only [Value.slice.injEq, Option.some.injEq, Addr.mk.injEq, and_true] at h'
      obtain ⟨rfl, rfl, rfl⟩ := h'
      exact frozen_of_row w _ _ _ _ h4
theorem OG.set {B e : Nat} {w : World} {g n cap : Nat} {L : List α} (h : OG enc B e w (.slice (some ⟨g, 0, none⟩) n cap) L) (hn : L.length = n) (i : Nat) (z : α) :
    OG enc B e (w.setCell ⟨g, i, none⟩ (enc z)) (.slice (some ⟨g, 0, none⟩) n cap) (L.set i z) ∧ w.grownBy (w.setCell ⟨g, i, none⟩ (enc z)) (some g) := by
  unfold OG at h
  rw [hn] at h
  have := World.ownsRow.stored h i (enc z)
  refine ⟨?_, this.2⟩
  unfold OG
  rw [List.length_set, hn, List.map_set]
  exact this.1
theorem RG.cut {w : World} {ao : Option Addr} {n cap : Nat} {zs : List α} (h : RG enc w (.slice ao n cap) zs) {m : Nat} (hm : m ≤ n) : RG enc w (.slice ao m cap) (zs.take m) := by
  obtain ⟨ao', cap', e, h1, h2, h3, h5⟩ := h
  simp only [Value.slice.injEq] at e
  obtain ⟨rfl, rfl, rfl⟩ := e
  have hl : (zs.take m).length = m := by rw [List.length_take]; omega
  refine ⟨ao, cap, by rw [hl], by rw [hl]; omega, h2, h3, fun i x hi => ?_⟩
  have hil := (List.getElem?_eq_some_iff.1 hi).1
  rw [hl] at hil
  rw [List.getElem?_take_of_lt hil] at hi
  exact h5 i x hi
/-- A row from its j-th thing on. -/
theorem RG.from {w : World} {g o n cap : Nat} {zs : List α} (h : RG enc w (.slice (some ⟨g, o, none⟩) n cap) zs) {j : Nat} (hj : j ≤ n) : RG enc w (.slice (some ⟨g, o + j, none⟩) (n - j) (cap - j)) (zs.drop j) := by
  obtain ⟨ao', cap', e, h1, h2, h3, h5⟩ := h
  simp only [Value.slice.injEq] at e
  obtain ⟨rfl, rfl, rfl⟩ := e
  refine ⟨some ⟨g, o + j, none⟩, cap - j, by rw [List.length_drop], by rw [List.length_drop]; omega, by omega, fun h => by simp at h, fun i x hi => ?_⟩
  rw [List.getElem?_drop] at hi
  obtain ⟨b, off, e, hc⟩ := h5 (j + i) x hi
  simp only [Option.some.injEq, Addr.mk.injEq, and_true] at e
  obtain ⟨rfl, rfl⟩ := e
  exact ⟨g, o + j, rfl, by rw [Nat.add_assoc]; exact hc⟩
theorem grownG_refl (w : World) (r : Option Nat) : w.grownBy w r := ⟨rfl, rfl, rfl, Nat.le_refl _, fun _ _ _ => rfl⟩
/-- An append of any row that can be read to a row of the call's own. -/
theorem wpList_appG {P : Program} (w : World) {ops : Array Oper} {rest : List Oper} {o : Oper} {a : Act} {Q : Exit → Act → World → Prop} (hone : ∀ x, (enc x).oneCell' = true)
    (hg : o.guard = none) (s x : Operand) (t : TypeId) (hop : o.op = Op.call { callee := Callee.builtin Builtin.append, args := #[s, x], argTypes := #[t, t] })
    (B : Nat) (e : TypeId) (i : TypeInfo) (z : Value) (bytes : Nat) (h1 : P.underlying t = some (.slice e)) (h2 : P.info? e = some i) (h3 : i.zero = some z) (h4 : i.size = 1) (h5 : i.bytes = bytes) (h6 : z.cells.size = 1)
    (v u : Value) (zs ys : List α) (hs : a.eval s = v) (hown : OG enc B e w v zs) (hx : a.eval x = u) (hu : RG enc w u ys) (b1 : zs.length + ys.length ≤ maxLen) (b2 : (zs.length + ys.length) * bytes ≤ 140737488355328) (hB : B ≤ w.heap.size)
    (hK : ∀ v' w', OG enc B e w' v' (zs ++ ys) → w.grownBy w' v.ownBlock → wpList P ops Q rest (a.put o.dst v') w') : wpList P ops Q (o :: rest) a w := by
  obtain ⟨ao, cap, rfl, hc, hm, hnil, hcell⟩ := hu
  rcases ao with _ | ad
  · have hcz := hnil rfl
    have hys : ys = [] := List.eq_nil_of_length_eq_zero (by omega)
    subst hys
    subst hcz
    exact wpList_append_own_none hg s x t hop B e i 1 h1 h2 v zs.length (zs.map enc) hs hown hx (hK _ _ (by rw [List.append_nil]; exact hown) (grownG_refl _ _))
  · have HC : ∀ j u, (ys.map enc)[j]? = some u → w.cell? (ad.add j) = some u := by
      intro j u hj
      rw [List.getElem?_map] at hj
      obtain ⟨y, hy, rfl⟩ := Option.map_eq_some_iff.1 hj
      obtain ⟨b', off', he, hc'⟩ := hcell j y hy
      simp only [Option.some.injEq] at he
      subst he
      rw [Addr.add_lit, hc']
    refine wpList_append_own w hg s x t hop B e i z 1 bytes h1 h2 h3 h4 h5 h6 (by decide) v zs.length (zs.map enc) hs hown ad ys.length cap (ys.map enc) hx (by simp) HC (by intro u hu; obtain ⟨y, _, rfl⟩ := List.mem_map.1 hu; exact hone y) b1 b2 hB ?_
    intro v' w' ho hgr _
    refine hK v' w' ?_ hgr
    unfold OG
    rw [List.length_append, List.map_append]
    exact ho
end
end Go.Proofs.Ytcadljpdokhpmaa

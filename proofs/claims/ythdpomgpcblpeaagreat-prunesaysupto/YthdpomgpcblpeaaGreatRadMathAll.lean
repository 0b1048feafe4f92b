/-
  Proved here: plain facts on rows of one-cell things, of whatever kind, that can be read or are a call's own. No condition.
  Proved here: how tables lie in memory: a box of three cells. No condition.
  Proved here: plain mathematics of digits with bases of their own: products, places, digits. No condition.
-/
import Derived.WalkKit
import Derived.WalkSpells
import Derived.WalkLawsBesides
import Derived.Below
import Derived.BigQuiet
import Derived.OwnWalk
import Derived.OwnWalkIn
import Derived.ArgAppend
import Derived.Laws.AppendOwnNone
import Derived.Laws.MakeOwn
import Derived.Laws.OwnMore
import Derived.Test.YthdpomgpcblpeaaGreatRows
namespace Go.Proofs.YthdpomgpcblpeaaGreat
open Go.RowKit
section
variable {α : Type} {enc : α → Value}

/-- A row that can be read: enc writes a thing as a cell. -/
def RG (enc : α → Value) (w : World) (v : Value) (zs : List α) : Prop :=
  ∃ ao cap, v = .slice ao zs.length cap ∧ zs.length ≤ cap ∧ cap ≤ maxLen ∧ (ao = none → cap = 0) ∧ ∀ i x, zs[i]? = some x → ∃ g o, ao = some ⟨g, o, none⟩ ∧ w.cell? ⟨g, o + i, none⟩ = some (enc x)
/-- A row of the call's own. -/
def OG (enc : α → Value) (B e : Nat) (w : World) (v : Value) (zs : List α) : Prop := w.ownsRow B e 1 v zs.length (zs.map enc)
theorem RG.nil (w : World) : RG enc w (.slice none 0 0) [] := ⟨none, 0, rfl, Nat.le_refl _, Nat.zero_le _, fun _ => rfl, fun i x h => by simp at h⟩
theorem OG.nil (B e : Nat) (w : World) : OG enc B e w (.slice none 0 0) [] := World.ownsRow_nil _ _ _ _
theorem RG.sl {w : World} {v : Value} {zs : List α} (h : RG enc w v zs) : ∃ ao cap, v = .slice ao zs.length cap := by obtain ⟨ao, cap, e, _⟩ := h; exact ⟨ao, cap, e⟩
theorem RG.len {w : World} {ao : Option Addr} {n cap : Nat} {zs : List α} (h : RG enc w (.slice ao n cap) zs) : zs.length = n := by
  obtain ⟨ao', cap', e, _⟩ := h
  simp only [Value.slice.injEq] at e
  exact e.2.1.symm
theorem RG.room {w : World} {ao : Option Addr} {n cap : Nat} {zs : List α} (h : RG enc w (.slice ao n cap) zs) : n ≤ cap ∧ cap ≤ maxLen ∧ (ao = none → cap = 0) := by
  obtain ⟨ao', cap', e, h1, h2, h3, _⟩ := h
  simp only [Value.slice.injEq] at e
  obtain ⟨rfl, rfl, rfl⟩ := e
  exact ⟨h1, h2, h3⟩
theorem RG.at {w : World} {ao : Option Addr} {n cap : Nat} {zs : List α} (h : RG enc w (.slice ao n cap) zs) {i : Nat} (hi : i < n) : ∃ x g o, zs[i]? = some x ∧ ao = some ⟨g, o, none⟩ ∧ w.cell? ⟨g, o + i, none⟩ = some (enc x) := by
  obtain ⟨ao', cap', e, _, _, _, hc⟩ := h
  simp only [Value.slice.injEq] at e
  obtain ⟨rfl, rfl, rfl⟩ := e
  obtain ⟨g, o, h1, h2⟩ := hc i zs[i] (List.getElem?_eq_getElem hi)
  exact ⟨zs[i], g, o, List.getElem?_eq_getElem hi, h1, h2⟩
theorem RG.of_blocks {w w' : World} {v : Value} {zs : List α} (h : RG enc w v zs) (hb : ∀ g, v.ownBlock = some g → w'.heap[g]? = w.heap[g]?) : RG enc w' v zs := by
  obtain ⟨ao, cap, rfl, h1, h2, h3, h5⟩ := h
  refine ⟨ao, cap, rfl, h1, h2, h3, fun j x hj => ?_⟩
  obtain ⟨b, off, rfl, hc⟩ := h5 j x hj
  exact ⟨b, off, rfl, by rw [← hc]; exact World.cell?_of_block (hb b rfl)⟩
theorem RG.lt {w : World} {v : Value} {zs : List α} (h : RG enc w v zs) : 0 < zs.length → ∀ b, v.ownBlock = some b → b < w.heap.size := by
  obtain ⟨ao, cap, rfl, h1, h2, h3, h5⟩ := h
  intro h0 b hb
  obtain ⟨g, o, rfl, hc⟩ := h5 0 zs[0] (List.getElem?_eq_getElem h0)
  simp only [Value.ownBlock, Option.some.injEq] at hb
  subst hb
  exact block_lt_of_cell hc
theorem RG.below {B : Nat} {w w' : World} {v : Value} {zs : List α} (h : RG enc w v zs) (hB : w.heap.size ≤ B) (hb : Below B w w') : RG enc w' v zs := by
  obtain ⟨ao, cap, rfl, h1, h2, h3, h5⟩ := h
  refine ⟨ao, cap, rfl, h1, h2, h3, fun j x hj => ?_⟩
  obtain ⟨b, off, e, hc⟩ := h5 j x hj
  exact ⟨b, off, e, by rw [hb.cell (p := ⟨b, off + j, none⟩) (Nat.lt_of_lt_of_le (block_lt_of_cell hc) hB), hc]⟩
theorem RG.kept {w w' : World} {v : Value} {zs : List α} {r : Option Nat} (h : RG enc w v zs) (hg : w.grownBy w' r) (hr : ∀ g, r = some g → 0 < zs.length → ∀ b, v.ownBlock = some b → b ≠ g) : RG enc w' v zs := by
  obtain ⟨ao, cap, rfl, h1, h2, h3, h5⟩ := h
  refine ⟨ao, cap, rfl, h1, h2, h3, fun j x hj => ?_⟩
  obtain ⟨b, off, rfl, hc⟩ := h5 j x hj
  have hl := (List.getElem?_eq_some_iff.1 hj).1
  exact ⟨b, off, rfl, hg.cell hc fun e => hr b e.symm (by omega) b rfl rfl⟩
theorem heap_drewG (w : World) (n : Nat) : (w.drewN n).heap = w.heap := by
  induction n generalizing w with
  | zero => rfl
  | succ n ih => exact ih w.drew
theorem RG.drewN {w : World} {v : Value} {zs : List α} (h : RG enc w v zs) (n : Nat) : RG enc (w.drewN n) v zs := h.of_blocks fun g _ => by rw [heap_drewG]
theorem RG.alloc {w : World} {v : Value} {zs : List α} (h : RG enc w v zs) (o : Obj) : RG enc (w.alloc o) v zs := h.below (Nat.le_refl _) ((Below.refl _ _).alloc (Nat.le_refl _) o)
theorem OG.sl {B e : Nat} {w : World} {v : Value} {zs : List α} (h : OG enc B e w v zs) : ∃ ao cap, v = .slice ao zs.length cap ∧ (0 < zs.length → ∃ g, B ≤ g ∧ ao = some ⟨g, 0, none⟩) ∧ zs.length ≤ cap ∧ cap ≤ maxLen ∧ (ao = none → cap = 0) := by
  rcases h.2 with ⟨rfl, h0⟩ | ⟨g, cap, cur, rfl, h3, h4, h5, h6, h7, h8⟩
  · exact ⟨none, 0, by rw [h0], fun h => by omega, by omega, by simp, fun _ => rfl⟩
  · exact ⟨_, cap, rfl, fun _ => ⟨g, h3, rfl⟩, h5, h6, fun h => by simp at h⟩
theorem OG.rg {B e : Nat} {w : World} {v : Value} {zs : List α} (h : OG enc B e w v zs) : RG enc w v zs := by
  have hw := h
  rcases h.2 with ⟨rfl, h0⟩ | ⟨g, cap, cur, rfl, h3, h4, h5, h6, h7, h8⟩
  · have : zs = [] := List.eq_nil_of_length_eq_zero h0
    subst this
    exact RG.nil w
  · refine ⟨some ⟨g, 0, none⟩, cap, rfl, h5, h6, fun e => by simp at e, fun j x hj => ⟨g, 0, rfl, ?_⟩⟩
    have hl := (List.getElem?_eq_some_iff.1 hj).1
    rw [Nat.zero_add, World.ownsRow.cellAt hw j (by simpa using hl), List.getElem?_map, hj]
    rfl
theorem OG.of_blocks {B e : Nat} {w w' : World} {v : Value} {zs : List α} (h : OG enc B e w v zs) (hb : ∀ g, v.ownBlock = some g → w'.heap[g]? = w.heap[g]?) : OG enc B e w' v zs := by
  refine ⟨h.1, ?_⟩
  rcases h.2 with h2 | ⟨g, cap, cur, rfl, h3, h4, h5⟩
  · exact .inl h2
  · exact .inr ⟨g, cap, cur, rfl, h3, by rw [hb g rfl]; exact h4, h5⟩
theorem OG.lt {B e : Nat} {w : World} {v : Value} {zs : List α} (h : OG enc B e w v zs) : ∀ g, v.ownBlock = some g → B ≤ g ∧ g < w.heap.size := World.ownsRow.lt h
theorem OG.below {B e : Nat} {w w' : World} {v : Value} {zs : List α} (h : OG enc B e w v zs) (hb : Below w.heap.size w w') : OG enc B e w' v zs := h.of_blocks fun g hg => hb.block g (h.lt g hg).2
theorem OG.mono {B B' e : Nat} {w : World} {v : Value} {zs : List α} (h : OG enc B e w v zs) (hB : B' ≤ B) : OG enc B' e w v zs := by
  refine ⟨h.1, ?_⟩
  rcases h.2 with h2 | ⟨g, cap, cur, rfl, h3, h5⟩
  · exact .inl h2
  · exact .inr ⟨g, cap, cur, rfl, by omega, h5⟩
theorem OG.lit0 (e : Nat) (w : World) : OG enc w.heap.size e (w.alloc (.cells #[] e)) (.slice (some ⟨w.heap.size, 0, none⟩) 0 0) [] :=
  ⟨rfl, .inr ⟨w.heap.size, 0, #[], rfl, Nat.le_refl _, heap_alloc_new w _, Nat.le_refl _, Nat.zero_le _, rfl, rfl⟩⟩
theorem OG.lit (e : Nat) (w : World) (zs : List α) (hm : zs.length ≤ maxLen) : OG enc w.heap.size e (w.alloc (.cells (zs.map enc).toArray e)) (.slice (some ⟨w.heap.size, 0, none⟩) zs.length zs.length) zs :=
  ⟨by simp, .inr ⟨w.heap.size, zs.length, _, rfl, Nat.le_refl _, heap_alloc_new w _, Nat.le_refl _, hm, by simp, List.take_of_length_le (by simp)⟩⟩
theorem OG.grown {B e : Nat} {w w' wr : World} {v : Value} {zs : List α} (hv : OG enc B e wr v zs) (hbel : Below B w wr) (hB : B ≤ wr.heap.size) (hg : wr.grownBy w' v.ownBlock) : Below B w w' :=
  hbel.trans ((Below.refl B wr).grown hg hB (fun g e => (hv.lt g e).1))
theorem OG.push {B e : Nat} {w w' wr : World} {v v' : Value} {zs : List α} {z : α} {o : Obj} (hv : OG enc B e wr v zs) (hbel : Below B w wr) (hB : B ≤ wr.heap.size)
    (ho : w'.ownsRow B e 1 v' (zs.length + 1) (zs.map enc ++ [enc z])) (hg : (wr.alloc o).grownBy w' v.ownBlock) :
    OG enc B e w' v' (zs ++ [z]) ∧ Below B w w' ∧ B ≤ w'.heap.size := by
  have hsz : (wr.alloc o).heap.size = wr.heap.size + 1 := by simp
  have hbel2 : Below B (wr.alloc o) w' := (Below.refl B (wr.alloc o)).grown hg (by omega) (fun g e => (hv.lt g e).1)
  refine ⟨?_, (hbel.alloc hB o).trans hbel2, by have := hbel2.size; omega⟩
  unfold OG
  rw [List.length_append, List.map_append]
  exact ho
theorem OG.cell {B e : Nat} {w : World} {g n cap : Nat} {L : List α} (h : OG enc B e w (.slice (some ⟨g, 0, none⟩) n cap) L) {i : Nat} {x : α} (hx : L[i]? = some x) : w.cell? ⟨g, i, none⟩ = some (enc x) ∧ w.frozen? ⟨g, i, none⟩ = false := by
  have hl := (List.getElem?_eq_some_iff.1 hx).1
  constructor
  · have hw := h
    rcases h.2 with ⟨h', _⟩ | ⟨g', cap', cur, h', h3, h4, h5, h6, h7, h8⟩
    · simp at h'
    · simp only [Value.slice.injEq, Option.some.injEq, Addr.mk.injEq, and_true] at h'
      obtain ⟨rfl, rfl, rfl⟩ := h'
      have := World.ownsRow.cellAt hw i (by simpa using hl)
      rw [this, List.getElem?_map, hx]; rfl
  · rcases h.2 with ⟨h', _⟩ | ⟨g', cap', cur, h', h3, h4, h5, h6, h7, h8⟩
    · simp at h'
    · simp only [Value.slice.injEq, Option.some.injEq, Addr.mk.injEq, and_true] at h'
      obtain ⟨rfl, rfl, rfl⟩ := h'
      exact frozen_of_row w _ _ _ _ h4
theorem OG.set {B e : Nat} {w : World} {g n cap : Nat} {L : List α} (h : OG enc B e w (.slice (some ⟨g, 0, none⟩) n cap) L) (hn : L.length = n) (i : Nat) (z : α) :
    OG enc B e (w.setCell ⟨g, i, none⟩ (enc z)) (.slice (some ⟨g, 0, none⟩) n cap) (L.set i z) ∧ w.grownBy (w.setCell ⟨g, i, none⟩ (enc z)) (some g) := by
  unfold OG at h
  rw [hn] at h
  have := World.ownsRow.stored h i (enc z)
  refine ⟨?_, this.2⟩
  unfold OG
  rw [List.length_set, hn, List.map_set]
  exact this.1
theorem RG.cut {w : World} {ao : Option Addr} {n cap : Nat} {zs : List α} (h : RG enc w (.slice ao n cap) zs) {m : Nat} (hm : m ≤ n) : RG enc w (.slice ao m cap) (zs.take m) := by
  obtain ⟨ao', cap', e, h1, h2, h3, h5⟩ := h
  simp only [Value.slice.injEq] at e
  obtain ⟨rfl, rfl, rfl⟩ := e
  have hl : (zs.take m).length = m := by rw [List.length_take]; omega
  refine ⟨ao, cap, by rw [hl], by rw [hl]; omega, h2, h3, fun i x hi => ?_⟩
  have hil := (List.getElem?_eq_some_iff.1 hi).1
  rw [hl] at hil
  rw [List.getElem?_take_of_lt hil] at hi
  exact h5 i x hi
/-- A row from its j-th thing on. -/
theorem RG.from {w : World} {g o n cap : Nat} {zs : List α} (h : RG enc w (.slice (some ⟨g, o, none⟩) n cap) zs) {j : Nat} (hj : j ≤ n) : RG enc w (.slice (some ⟨g, o + j, none⟩) (n - j) (cap - j)) (zs.drop j) := by
  obtain ⟨ao', cap', e, h1, h2, h3, h5⟩ := h
  simp only [Value.slice.injEq] at e
  obtain ⟨rfl, rfl, rfl⟩ := e
  refine ⟨some ⟨g, o + j, none⟩, cap - j, by rw [List.length_drop], by rw [List.length_drop]; omega, by omega, fun h => by simp at h, fun i x hi => ?_⟩
  rw [List.getElem?_drop] at hi
  obtain ⟨b, off, e, hc⟩ := h5 (j + i) x hi
  simp only [Option.some.injEq, Addr.mk.injEq, and_true] at e
  obtain ⟨rfl, rfl⟩ := e
  exact ⟨g, o + j, rfl, by rw [Nat.add_assoc]; exact hc⟩
theorem grownG_refl (w : World) (r : Option Nat) : w.grownBy w r := ⟨rfl, rfl, rfl, Nat.le_refl _, fun _ _ _ => rfl⟩
/-- An append of any row that can be read to a row of the call's own. -/
theorem wpList_appG {P : Program} (w : World) {ops : Array Oper} {rest : List Oper} {o : Oper} {a : Act} {Q : Exit → Act → World → Prop} (hone : ∀ x, (enc x).oneCell' = true)
    (hg : o.guard = none) (s x : Operand) (t : TypeId) (hop : o.op = Op.call { callee := Callee.builtin Builtin.append, args := #[s, x], argTypes := #[t, t] })
    (B : Nat) (e : TypeId) (i : TypeInfo) (z : Value) (bytes : Nat) (h1 : P.underlying t = some (.slice e)) (h2 : P.info? e = some i) (h3 : i.zero = some z) (h4 : i.size = 1) (h5 : i.bytes = bytes) (h6 : z.cells.size = 1)
    (v u : Value) (zs ys : List α) (hs : a.eval s = v) (hown : OG enc B e w v zs) (hx : a.eval x = u) (hu : RG enc w u ys) (b1 : zs.length + ys.length ≤ maxLen) (b2 : (zs.length + ys.length) * bytes ≤ 140737488355328) (hB : B ≤ w.heap.size)
    (hK : ∀ v' w', OG enc B e w' v' (zs ++ ys) → w.grownBy w' v.ownBlock → wpList P ops Q rest (a.put o.dst v') w') : wpList P ops Q (o :: rest) a w := by
  obtain ⟨ao, cap, rfl, hc, hm, hnil, hcell⟩ := hu
  rcases ao with _ | ad
  · have hcz := hnil rfl
    have hys : ys = [] := List.eq_nil_of_length_eq_zero (by omega)
    subst hys
    subst hcz
    exact wpList_append_own_none hg s x t hop B e i 1 h1 h2 v zs.length (zs.map enc) hs hown hx (hK _ _ (by rw [List.append_nil]; exact hown) (grownG_refl _ _))
  · have HC : ∀ j u, (ys.map enc)[j]? = some u → w.cell? (ad.add j) = some u := by
      intro j u hj
      rw [List.getElem?_map] at hj
      obtain ⟨y, hy, rfl⟩ := Option.map_eq_some_iff.1 hj
      obtain ⟨b', off', he, hc'⟩ := hcell j y hy
      simp only [Option.some.injEq] at he
      subst he
      rw [Addr.add_lit, hc']
    refine wpList_append_own w hg s x t hop B e i z 1 bytes h1 h2 h3 h4 h5 h6 (by decide) v zs.length (zs.map enc) hs hown ad ys.length cap (ys.map enc) hx (by simp) HC (by intro u hu; obtain ⟨y, _, rfl⟩ := List.mem_map.1 hu; exact hone y) b1 b2 hB ?_
    intro v' w' ho hgr _
    refine hK v' w' ?_ hgr
    unfold OG
    rw [List.length_append, List.map_append]
    exact ho
end
end Go.Proofs.YthdpomgpcblpeaaGreat

namespace Go.Proofs.YthdpomgpcblpeaaGreat
open Go.RowKit
/-- The three cells of a table. -/
def BCell (T : TypeId) (w : World) (g : Nat) (a b c : Value) : Prop := w.heap[g]? = some (.cells #[a, b, c] T (0, 0))
section
variable {T : TypeId} {w w' : World} {g : Nat} {a b c : Value}
theorem BCell.cells (h : BCell T w g a b c) : w.cell? ⟨g, 0, none⟩ = some a ∧ w.cell? ⟨g, 1, none⟩ = some b ∧ w.cell? ⟨g, 2, none⟩ = some c := by
  refine ⟨?_, ?_, ?_⟩ <;> (rw [cell_of_row w g _ _ _ _ h]; rfl)
theorem BCell.thaw (h : BCell T w g a b c) (k : Nat) : w.frozen? ⟨g, k, none⟩ = false := frozen_of_row w g k _ _ h
theorem BCell.lt (h : BCell T w g a b c) : g < w.heap.size := (Array.getElem?_eq_some_iff.1 h).1
theorem BCell.below (h : BCell T w g a b c) (hb : Below w.heap.size w w') : BCell T w' g a b c := by
  unfold BCell; rw [hb.block _ h.lt]; exact h
theorem belowB (w : World) (o : Obj) : Below w.heap.size w (w.alloc o) := (Below.refl _ _).alloc (Nat.le_refl _) o
theorem bstepB {w wr w' : World} (h : Below w.heap.size w wr) (hb : Below wr.heap.size wr w') : Below w.heap.size w w' := h.trans (hb.mono h.size)
theorem BCell.step (h : BCell T w g a b c) (o : Obj) : BCell T (w.alloc o) g a b c := h.below (belowB _ _)
theorem BCell.new (w : World) {k : Nat} (hk : w.heap.size = k) : BCell T (w.alloc (.cells #[a, b, c] T)) k a b c := by subst hk; exact heap_alloc_new w _
theorem BCell.write (h : BCell T w g a b c) (x y z : Value) : BCell T (((w.setCell ⟨g, 0, none⟩ x).setCell ⟨g, 1, none⟩ y).setCell ⟨g, 2, none⟩ z) g x y z := by
  unfold BCell
  have h1 := heap_setCell_same w g 0 _ _ x h
  have h2 := heap_setCell_same _ g 1 _ _ y h1
  have h3 := heap_setCell_same _ g 2 _ _ z h2
  rw [h3]
  rfl
theorem BCell.other (h : BCell T w g a b c) {g' : Nat} (hne : g ≠ g') (k : Nat) (v : Value) : BCell T (w.setCell ⟨g', k, none⟩ v) g a b c := by
  unfold BCell
  rw [heap_setCell_other]
  · exact h
  · exact hne
end
end Go.Proofs.YthdpomgpcblpeaaGreat

namespace Go.Proofs.YthdpomgpcblpeaaGreat

/-- The product. -/
def pr : List Int → Int
  | [] => 1
  | z :: zs => z * pr zs
theorem pr_append (a b : List Int) : pr (a ++ b) = pr a * pr b := by
  induction a with
  | nil => simp [pr]
  | cons z r ih => simp only [List.cons_append, pr]; rw [ih, Int.mul_assoc]
theorem pr_take (zs : List Int) (k : Nat) (h : k < zs.length) : pr (zs.take (k + 1)) = pr (zs.take k) * zs.getD k 0 := by
  rw [List.take_succ_eq_append_getElem h, pr_append, List.getD_eq_getElem?_getD, List.getElem?_eq_getElem h]
  simp [pr]
theorem pr_drop (zs : List Int) (k : Nat) (h : k < zs.length) : pr (zs.drop k) = zs.getD k 0 * pr (zs.drop (k + 1)) := by
  rw [List.drop_eq_getElem_cons h, List.getD_eq_getElem?_getD, List.getElem?_eq_getElem h]
  rfl
theorem pr_pos (zs : List Int) (h : ∀ z ∈ zs, 1 ≤ z) : 1 ≤ pr zs := by
  induction zs with
  | nil => exact Int.le_refl 1
  | cons z r ih =>
    have h1 := ih fun y hy => h y (List.mem_cons_of_mem _ hy)
    have h2 := h z (List.mem_cons_self ..)
    have := Int.mul_le_mul h2 h1 (by omega) (by omega)
    simpa [pr] using this
theorem pr_zero (zs : List Int) (h : (0 : Int) ∈ zs) : pr zs = 0 := by
  induction zs with
  | nil => cases h
  | cons z r ih =>
    rcases List.mem_cons.1 h with e | e
    · rw [pr, ← e, Int.zero_mul]
    · rw [pr, ih e, Int.mul_zero]
theorem pr_split (zs : List Int) (k : Nat) : pr zs = pr (zs.take k) * pr (zs.drop k) := by
  rw [← pr_append, List.take_append_drop]
theorem pr_take_le (zs : List Int) (h : ∀ z ∈ zs, 1 ≤ z) (k : Nat) : pr (zs.take k) ≤ pr zs := by
  have h1 := pr_pos (zs.take k) fun z hz => h z (List.mem_of_mem_take hz)
  have h2 := pr_pos (zs.drop k) fun z hz => h z (List.mem_of_mem_drop hz)
  rw [pr_split zs k]
  have h3 : pr (zs.take k) * 1 ≤ pr (zs.take k) * pr (zs.drop k) := Int.mul_le_mul_of_nonneg_left h2 (by omega)
  omega
theorem pr_drop_le (zs : List Int) (h : ∀ z ∈ zs, 1 ≤ z) (k : Nat) : 1 ≤ pr (zs.drop k) ∧ pr (zs.drop k) ≤ pr zs := by
  have h1 := pr_pos (zs.take k) fun z hz => h z (List.mem_of_mem_take hz)
  have h2 := pr_pos (zs.drop k) fun z hz => h z (List.mem_of_mem_drop hz)
  refine ⟨h2, ?_⟩
  rw [pr_split zs k]
  have h3 : 1 * pr (zs.drop k) ≤ pr (zs.take k) * pr (zs.drop k) := Int.mul_le_mul_of_nonneg_right h1 (by omega)
  omega

/-- Is one below nought? -/
def isNeg (z : Int) : Bool := decide (z < 0)
def negs (zs : List Int) : Bool := zs.any isNeg
def nuls (zs : List Int) : Bool := zs.any fun z => z == 0
theorem negs_no {zs : List Int} (h : negs zs = false) : ∀ z ∈ zs, 0 ≤ z := fun z hz => by
  have := List.any_eq_false.1 h z hz
  simp [isNeg] at this
  exact this
theorem nuls_no {zs : List Int} (h : nuls zs = false) : ∀ z ∈ zs, z ≠ 0 := fun z hz => by
  have := List.any_eq_false.1 h z hz
  simpa using this
theorem nuls_yes {zs : List Int} (h : nuls zs = true) : (0 : Int) ∈ zs := by
  obtain ⟨z, hz, e⟩ := List.any_eq_true.1 h
  have : z = 0 := by simpa using e
  exact this ▸ hz
theorem ones {zs : List Int} (h : negs zs = false) (h2 : nuls zs = false) : ∀ z ∈ zs, 1 ≤ z := fun z hz => by
  have := negs_no h z hz
  have := nuls_no h2 z hz
  omega
/-- Count's error, and how many there are. -/
def cntE (zs : List Int) : Int := if negs zs then 3 else if 2147483647 < pr zs then 4 else 0
def cntN (zs : List Int) : Int := if negs zs then 0 else if 2147483647 < pr zs then 0 else pr zs
theorem pr_nonneg (zs : List Int) (h : ∀ z ∈ zs, 0 ≤ z) : 0 ≤ pr zs := by
  induction zs with
  | nil => exact Int.le_of_lt Int.one_pos
  | cons z r ih => exact Int.mul_nonneg (h z (List.mem_cons_self ..)) (ih fun y hy => h y (List.mem_cons_of_mem _ hy))
theorem cnt_neg {zs : List Int} (h : negs zs = true) : cntE zs = 3 ∧ cntN zs = 0 := by simp [cntE, cntN, h]
theorem cnt_nul {zs : List Int} (h : negs zs = false) (h2 : nuls zs = true) : cntE zs = 0 ∧ cntN zs = 0 := by
  have := pr_zero zs (nuls_yes h2)
  simp [cntE, cntN, h, this]
theorem cnt_many {zs : List Int} (h : negs zs = false) (h2 : 2147483647 < pr zs) : cntE zs = 4 ∧ cntN zs = 0 := by simp [cntE, cntN, h, h2]
theorem cnt_ok {zs : List Int} (h : negs zs = false) (h2 : pr zs ≤ 2147483647) : cntE zs = 0 ∧ cntN zs = pr zs := by
  have : ¬ 2147483647 < pr zs := by omega
  simp [cntE, cntN, h, this]
theorem cnt_bd (zs : List Int) : 0 ≤ cntN zs ∧ cntN zs ≤ 2147483647 := by
  unfold cntN
  by_cases h : negs zs = true
  · simp [h]
  · have h' : negs zs = false := by simpa using h
    by_cases h2 : 2147483647 < pr zs
    · simp [h', h2]
    · have := pr_nonneg zs (negs_no h')
      simp only [h', h2, if_false, Bool.false_eq_true]
      omega
theorem cntE_cases (zs : List Int) : cntE zs = 0 ∨ cntE zs = 3 ∨ cntE zs = 4 := by
  unfold cntE; split
  · exact .inr (.inl rfl)
  · split
    · exact .inr (.inr rfl)
    · exact .inl rfl
theorem cntE_zero {zs : List Int} (h : cntE zs = 0) : negs zs = false ∧ pr zs ≤ 2147483647 ∧ cntN zs = pr zs := by
  unfold cntE at h
  by_cases h1 : negs zs = true
  · simp [h1] at h
  · have h1 : negs zs = false := by simpa using h1
    by_cases h2 : 2147483647 < pr zs
    · simp [h1, h2] at h
    · exact ⟨h1, by omega, (cnt_ok h1 (by omega)).2⟩
theorem cntE_pos {zs : List Int} (h : cntE zs ≠ 0) : cntN zs = 0 := by
  unfold cntE at h; unfold cntN
  by_cases h1 : negs zs = true
  · simp [h1]
  · by_cases h2 : 2147483647 < pr zs
    · simp [h2]
    · simp [h1, h2] at h
/-- The place of digits, the first k of them. -/
def pl (ss ds : List Int) : Nat → Int
  | 0 => 0
  | k + 1 => pl ss ds k * ss.getD k 0 + ds.getD k 0
/-- Is some digit no digit? -/
def badAt (ss ds : List Int) (i : Nat) : Bool := decide (ds.getD i 0 < 0) || decide (ss.getD i 0 ≤ ds.getD i 0)
def bad (ss ds : List Int) : Bool := (List.range ss.length).any (badAt ss ds)
theorem bad_no {ss ds : List Int} (h : bad ss ds = false) : ∀ i, i < ss.length → 0 ≤ ds.getD i 0 ∧ ds.getD i 0 < ss.getD i 0 := fun i hi => by
  have := List.any_eq_false.1 h i (List.mem_range.2 hi)
  simp [badAt] at this
  simpa using this
theorem bad_yes {ss ds : List Int} {i : Nat} (hi : i < ss.length) (h : badAt ss ds i = true) : bad ss ds = true := List.any_eq_true.2 ⟨i, List.mem_range.2 hi, h⟩
theorem bad_none {ss ds : List Int} (h : bad ss ds = true) : ∃ i, i < ss.length ∧ badAt ss ds i = true := by
  obtain ⟨i, hi, e⟩ := List.any_eq_true.1 h
  exact ⟨i, List.mem_range.1 hi, e⟩
def atE (ss ds : List Int) : Int := if cntE ss ≠ 0 then cntE ss else if ds.length ≠ ss.length then 60 else if bad ss ds then 3 else 0
def atN (ss ds : List Int) : Int := if cntE ss ≠ 0 then 0 else if ds.length ≠ ss.length then 0 else if bad ss ds then 0 else pl ss ds ss.length
theorem pl_bd (ss ds : List Int) (h : ∀ i, i < ss.length → 0 ≤ ds.getD i 0 ∧ ds.getD i 0 < ss.getD i 0) : ∀ k, k ≤ ss.length → 0 ≤ pl ss ds k ∧ pl ss ds k < pr (ss.take k) := by
  intro k
  induction k with
  | zero => intro _; simp [pl, pr]
  | succ k ih =>
    intro hk
    obtain ⟨h1, h2⟩ := ih (by omega)
    obtain ⟨h3, h4⟩ := h k (by omega)
    rw [pr_take ss k (by omega), pl]
    have h5 : 0 ≤ pl ss ds k * ss.getD k 0 := Int.mul_nonneg h1 (by omega)
    have h6 : (pl ss ds k + 1) * ss.getD k 0 ≤ pr (ss.take k) * ss.getD k 0 := Int.mul_le_mul_of_nonneg_right (by omega) (by omega)
    rw [Int.add_mul, Int.one_mul] at h6
    omega
theorem ss_ones {ss ds : List Int} (h : ∀ i, i < ss.length → 0 ≤ ds.getD i 0 ∧ ds.getD i 0 < ss.getD i 0) : ∀ z ∈ ss, 1 ≤ z := fun z hz => by
  obtain ⟨i, hi, e⟩ := List.mem_iff_getElem.1 hz
  have := h i hi
  rw [List.getD_eq_getElem?_getD (l := ss), List.getElem?_eq_getElem hi, Option.getD_some, e] at this
  omega
/-- The digits of a place. -/
def digAt (ss : List Int) (at_ : Int) (i : Nat) : Int := (at_ / pr (ss.drop (i + 1))) % ss.getD i 0
def dgs (ss : List Int) (at_ : Int) : List Int := (List.range ss.length).map (digAt ss at_)
def dgE (ss : List Int) (at_ : Int) : Int := if cntE ss ≠ 0 then cntE ss else if at_ < 0 ∨ cntN ss ≤ at_ then 3 else 0
theorem dgs_len (ss : List Int) (a : Int) : (dgs ss a).length = ss.length := by simp [dgs]
theorem dgs_get (ss : List Int) (a : Int) (i : Nat) (h : i < ss.length) : (dgs ss a).getD i 0 = digAt ss a i := by
  simp [dgs, List.getD_eq_getElem?_getD, h]
theorem dig_bd (ss : List Int) (a : Int) (h : ∀ z ∈ ss, 1 ≤ z) (i : Nat) (hi : i < ss.length) : 0 ≤ digAt ss a i ∧ digAt ss a i < ss.getD i 0 := by
  have h1 : 1 ≤ ss.getD i 0 := by
    rw [List.getD_eq_getElem?_getD, List.getElem?_eq_getElem hi]; exact h _ (List.getElem_mem hi)
  exact ⟨Int.emod_nonneg _ (by omega), Int.emod_lt_of_pos _ (by omega)⟩
theorem div_step (ss : List Int) (a : Int) (h : ∀ z ∈ ss, 1 ≤ z) (i : Nat) (hi : i < ss.length) : a / pr (ss.drop (i + 1)) / ss.getD i 0 = a / pr (ss.drop i) := by
  have h1 := (pr_drop_le ss h (i + 1)).1
  rw [pr_drop ss i hi, Int.ediv_ediv_of_nonneg (by omega), Int.mul_comm]
/-- The first k digits tell the place divided by the rest. -/
theorem pl_dgs (ss : List Int) (a : Int) (h : ∀ z ∈ ss, 1 ≤ z) (h0 : 0 ≤ a) (ha : a < pr ss) : ∀ k, k ≤ ss.length → pl ss (dgs ss a) k = a / pr (ss.drop k) := by
  intro k
  induction k with
  | zero => intro _; rw [pl, List.drop_zero, Int.ediv_eq_zero_of_lt h0 ha]
  | succ k ih =>
    intro hk
    rw [pl, ih (by omega), dgs_get ss a k (by omega), digAt, ← div_step ss a h k (by omega)]
    have := Int.mul_ediv_add_emod (a / pr (ss.drop (k + 1))) (ss.getD k 0)
    rw [Int.mul_comm] at this
    exact this
theorem pl_back (ss : List Int) (a : Int) (h : ∀ z ∈ ss, 1 ≤ z) (h0 : 0 ≤ a) (ha : a < pr ss) : pl ss (dgs ss a) ss.length = a := by
  rw [pl_dgs ss a h h0 ha _ (Nat.le_refl _), List.drop_length]
  simp [pr]
end Go.Proofs.YthdpomgpcblpeaaGreat

/-
  Proved here: the law's roomy at int: a table in memory of its own, with room behind its lists.
-/
import Derived.Test.YtphbbkckigdgoaaFmA
import Derived.Test.YtphbbkckigdgoaaFacM
namespace Go.Proofs.Ytphbbkckigdgoaa
set_option linter.unusedVariables false
open Go.RowKit Go.Shelf Go.Lib Go.Sort
/-- An append of one thing to a row of the call's own, however long: it stays, or moves to the end. -/
theorem wpList_push1L {α : Type} {enc : α → Value} {P : Program} (w : World) {ops : Array Oper} {rest : List Oper} {o : Oper} {a : Act} {Q : Exit → Act → World → Prop} (hone : ∀ x, (enc x).oneCell' = true) (hg : o.guard = none) (s x : Operand) (t : TypeId) (hop : o.op = .call { callee := .builtin .append, args := #[s, x], argTypes := #[t, t] })
    (B : Nat) (e : TypeId) (i : TypeInfo) (z : Value) (bytes : Nat) (h1 : P.underlying t = some (.slice e)) (h2 : P.info? e = some i) (h3 : i.zero = some z) (h4 : i.size = 1) (h5 : i.bytes = bytes) (h6 : z.cells.size = 1)
    (v : Value) (L : List α) (hs : a.eval s = v) (hown : OG enc B e w v L) (gb : Nat) (sv : α) (hx : a.eval x = .slice (some ⟨gb, 0, none⟩) 1 1) (cb : w.cell? ⟨gb, 0, none⟩ = some (enc sv)) (hl1 : L.length + 1 ≤ maxLen) (hl2 : (L.length + 1) * bytes ≤ 140737488355328) (hB : B ≤ w.heap.size)
    (hK : ∀ ng n ncap w', OG enc B e w' (.slice (some ⟨ng, 0, none⟩) n ncap) (L ++ [sv]) → w.grownBy w' v.ownBlock → (v.ownBlock = some ng ∨ ng = w.heap.size) → ng < w'.heap.size → wpList P ops Q rest (a.put o.dst (.slice (some ⟨ng, 0, none⟩) n ncap)) w') : wpList P ops Q (o :: rest) a w := by
  refine wpList_plain hg fun K hK' => ?_
  refine wp_append_lies _ s x t hop B e i z 1 bytes h1 h2 h3 h4 h5 h6 (by decide) v L.length _ hs hown ⟨gb, 0, none⟩ 1 1 [enc sv] hx rfl (fun j u hj => by match j, hj with | 0, hj => simp at hj; subst hj; rw [Addr.add_lit, Nat.add_zero]; exact cb) (by intro u hu; simp at hu; subst hu; exact hone sv) (by decide) hl1 hl2 hB _ rfl ?_
  intro ng ncap w' ho hg' hgg hlt
  refine hK' _ _ (hK ng _ ncap w' ?_ hg' hgg hlt)
  unfold OG
  rw [List.length_append, List.map_append]
  exact ho
/-- A row with four marks behind it. -/
def RoomB (B : Nat) (w : World) (u : Value) (zs : List Int) (m : Int) : Prop := ∃ g cap, u = .slice (some ⟨g, 0, none⟩) zs.length cap ∧ OG (Value.int .i64) B 3 w (.slice (some ⟨g, 0, none⟩) (zs.length + 4) cap) (zs ++ List.replicate 4 m)
theorem RoomB.below {B : Nat} {w w' : World} {u : Value} {zs : List Int} {m : Int} (h : RoomB B w u zs m) (hb : Below w.heap.size w w') : RoomB B w' u zs m := by
  obtain ⟨g, cap, h1, h2⟩ := h
  exact ⟨g, cap, h1, h2.below hb⟩
theorem RoomB.blocks {B : Nat} {w w' : World} {u : Value} {zs : List Int} {m : Int} (h : RoomB B w u zs m) (hb : ∀ q, B ≤ q → u.ownBlock = some q → w'.heap[q]? = w.heap[q]?) : RoomB B w' u zs m := by
  obtain ⟨g, cap, h1, h2⟩ := h
  exact ⟨g, cap, h1, h2.of_blocks fun q hq => hb q (h2.lt q hq).1 (by rw [h1]; exact hq)⟩
theorem RoomB.rg {B : Nat} {w : World} {u : Value} {zs : List Int} {m : Int} (h : RoomB B w u zs m) : RG (Value.int .i64) w u zs := by
  obtain ⟨g, cap, rfl, h2⟩ := h
  have h3 := h2.rg.cut (m := zs.length) (by omega)
  rw [List.take_left] at h3
  exact h3
theorem MdC.put1 {W0 : World} {go : Nat} {u1 u2 u3 : Value} {V Z C : List Int} {W : World} (h : MdC W0 go u1 u2 u3 V Z C W) (hgo : go < W0.heap.size) {W' : World} {u : Value} {V' : List Int} (ho : OG (Value.int .i64) W.heap.size 3 W' u V') (hg : W.grownBy W' none) :
    MdC W0 go u u2 u3 V' Z C (W'.setCell ⟨go, 0, none⟩ u) := by
  have hgW : go < W.heap.size := h.box.lt
  refine ⟨?_, ?_, ?_, ?_, ?_, ?_, ?_, ?_⟩
  · have hG : GrS W0 W' [go] := ⟨hg.os.trans h.grs.os, hg.tape.trans h.grs.tape, hg.output.trans h.grs.output, Nat.le_trans h.grs.size hg.size, fun q h1 h2 => by rw [hg.block q (Nat.lt_of_lt_of_le h1 h.grs.size) (by simp)]; exact h.grs.block q h1 h2⟩
    exact hG.set (by simp) _ _
  · unfold BCell
    rw [heap_setCell_same W' go 0 _ _ _ ((hg.block go hgW (by simp)).trans h.box)]; rfl
  · refine (ho.mono h.grs.size).of_blocks fun q hq => Below.heap_setCell _ _ _ _ ?_
    have := (ho.lt q hq).1
    have := h.box.lt
    show q ≠ go
    omega
  · exact h.r2.of_blocks fun q hq => by rw [Below.heap_setCell _ _ _ _ (by have := (h.r2.lt q hq).1; show q ≠ go; omega)]; exact hg.block q (h.r2.lt q hq).2 (by simp)
  · exact h.r3.of_blocks fun q hq => by rw [Below.heap_setCell _ _ _ _ (by have := (h.r3.lt q hq).1; show q ≠ go; omega)]; exact hg.block q (h.r3.lt q hq).2 (by simp)
  · intro q hq e; have := (ho.lt q hq).1; have := (h.r2.lt q e).2; omega
  · intro q hq e; have := (ho.lt q hq).1; have := (h.r3.lt q e).2; omega
  · exact h.d23
theorem MdC.put2 {W0 : World} {go : Nat} {u1 u2 u3 : Value} {V Z C : List Int} {W : World} (h : MdC W0 go u1 u2 u3 V Z C W) (hgo : go < W0.heap.size) {W' : World} {u : Value} {V' : List Int} (ho : OG (Value.int .i64) W.heap.size 3 W' u V') (hg : W.grownBy W' none) :
    MdC W0 go u1 u u3 V V' C (W'.setCell ⟨go, 1, none⟩ u) := by
  have hgW : go < W.heap.size := h.box.lt
  refine ⟨?_, ?_, ?_, ?_, ?_, ?_, ?_, ?_⟩
  · have hG : GrS W0 W' [go] := ⟨hg.os.trans h.grs.os, hg.tape.trans h.grs.tape, hg.output.trans h.grs.output, Nat.le_trans h.grs.size hg.size, fun q h1 h2 => by rw [hg.block q (Nat.lt_of_lt_of_le h1 h.grs.size) (by simp)]; exact h.grs.block q h1 h2⟩
    exact hG.set (by simp) _ _
  · unfold BCell
    rw [heap_setCell_same W' go 1 _ _ _ ((hg.block go hgW (by simp)).trans h.box)]; rfl
  · exact h.r1.of_blocks fun q hq => by rw [Below.heap_setCell _ _ _ _ (by have := (h.r1.lt q hq).1; show q ≠ go; omega)]; exact hg.block q (h.r1.lt q hq).2 (by simp)
  · refine (ho.mono h.grs.size).of_blocks fun q hq => Below.heap_setCell _ _ _ _ ?_
    have := (ho.lt q hq).1
    have := h.box.lt
    show q ≠ go
    omega
  · exact h.r3.of_blocks fun q hq => by rw [Below.heap_setCell _ _ _ _ (by have := (h.r3.lt q hq).1; show q ≠ go; omega)]; exact hg.block q (h.r3.lt q hq).2 (by simp)
  · intro q hq e; have := (ho.lt q e).1; have := (h.r1.lt q hq).2; omega
  · exact h.d13
  · intro q hq e; have := (ho.lt q hq).1; have := (h.r3.lt q e).2; omega
theorem MdC.put3 {W0 : World} {go : Nat} {u1 u2 u3 : Value} {V Z C : List Int} {W : World} (h : MdC W0 go u1 u2 u3 V Z C W) (hgo : go < W0.heap.size) {W' : World} {u : Value} {V' : List Int} (ho : OG (Value.int .i64) W.heap.size 3 W' u V') (hg : W.grownBy W' none) :
    MdC W0 go u1 u2 u V Z V' (W'.setCell ⟨go, 2, none⟩ u) := by
  have hgW : go < W.heap.size := h.box.lt
  refine ⟨?_, ?_, ?_, ?_, ?_, ?_, ?_, ?_⟩
  · have hG : GrS W0 W' [go] := ⟨hg.os.trans h.grs.os, hg.tape.trans h.grs.tape, hg.output.trans h.grs.output, Nat.le_trans h.grs.size hg.size, fun q h1 h2 => by rw [hg.block q (Nat.lt_of_lt_of_le h1 h.grs.size) (by simp)]; exact h.grs.block q h1 h2⟩
    exact hG.set (by simp) _ _
  · unfold BCell
    rw [heap_setCell_same W' go 2 _ _ _ ((hg.block go hgW (by simp)).trans h.box)]; rfl
  · exact h.r1.of_blocks fun q hq => by rw [Below.heap_setCell _ _ _ _ (by have := (h.r1.lt q hq).1; show q ≠ go; omega)]; exact hg.block q (h.r1.lt q hq).2 (by simp)
  · exact h.r2.of_blocks fun q hq => by rw [Below.heap_setCell _ _ _ _ (by have := (h.r2.lt q hq).1; show q ≠ go; omega)]; exact hg.block q (h.r2.lt q hq).2 (by simp)
  · refine (ho.mono h.grs.size).of_blocks fun q hq => Below.heap_setCell _ _ _ _ ?_
    have := (ho.lt q hq).1
    have := h.box.lt
    show q ≠ go
    omega
  · exact h.d12
  · intro q hq e; have := (ho.lt q e).1; have := (h.r1.lt q hq).2; omega
  · intro q hq e; have := (ho.lt q e).1; have := (h.r2.lt q hq).2; omega
set_option maxRecDepth 100000 in
set_option maxHeartbeats 6400000 in
theorem roomy13 (s z c : Value) (xs zs cs : List Int) (w : World) (hs : RG (Value.int .i64) w s xs) (hz : RG (Value.int .i64) w z zs) (hc : RG (Value.int .i64) w c cs) (bx : xs.length ≤ 17592186043904) (bz : zs.length ≤ 17592186043904) (bc : cs.length ≤ 17592186043904) :
    Calls Try.prog 4 #[.agg #[s, z, c], .int .i64 99] w fun e w' => ∃ u1 u2 u3, e = .returned (.agg #[u1, u2, u3]) ∧ RoomB w.heap.size w' u1 xs 77 ∧ RoomB w.heap.size w' u2 zs 78 ∧ RoomB w.heap.size w' u3 cs 99 ∧ Below w.heap.size w w' := by
  obtain ⟨i0, hi, hz0, hz1, hz2⟩ := info_parts Try.infoI
  obtain ⟨sO, sN, sC, rfl⟩ : ∃ o n c, s = .slice o n c := by obtain ⟨ao, cap, e⟩ := hs.sl; exact ⟨_, _, _, e⟩
  obtain ⟨zO, zN, zC, rfl⟩ : ∃ o n c, z = .slice o n c := by obtain ⟨ao, cap, e⟩ := hz.sl; exact ⟨_, _, _, e⟩
  obtain ⟨cO, cN, cC, rfl⟩ : ∃ o n k, c = .slice o n k := by obtain ⟨ao, cap, e⟩ := hc.sl; exact ⟨_, _, _, e⟩
  have HLS : Hid (xs.length = sN) := hs.len
  have HLZ : Hid (zs.length = zN) := hz.len
  have HLC : Hid (cs.length = cN) := hc.len
  have bx' : sN ≤ 17592186043904 := by rw [← HLS.out]; exact bx
  have bz' : zN ≤ 17592186043904 := by rw [← HLZ.out]; exact bz
  have bc' : cN ≤ 17592186043904 := by rw [← HLC.out]; exact bc
  clear bx bz bc
  obtain ⟨W2, hW2⟩ : ∃ W2, W2 = ((w.alloc (.cells #[.slice sO sN sC, .slice zO zN zC, .slice cO cN cC] 24)).alloc (.cells #[.slice none 0 0, .slice none 0 0, .slice none 0 0] 24)).alloc (.cells #[.slice none 0 0, .slice none 0 0, .slice none 0 0] 24) := ⟨_, rfl⟩
  obtain ⟨g, hg⟩ : ∃ g, g = w.heap.size := ⟨_, rfl⟩
  have qb : BCell 24 W2 g (.slice sO sN sC) (.slice zO zN zC) (.slice cO cN cC) := by rw [hW2]; exact ((BCell.new w hg.symm).step _).step _
  have qr : BCell 24 W2 (g + 1) (.slice none 0 0) (.slice none 0 0) (.slice none 0 0) := by rw [hW2]; exact (BCell.new _ (by simp [hg])).step _
  have qm : BCell 24 W2 (g + 1 + 1) (.slice none 0 0) (.slice none 0 0) (.slice none 0 0) := by rw [hW2]; exact BCell.new _ (by simp [hg])
  have b0 : Below w.heap.size w W2 := by rw [hW2]; exact bstepB (bstepB (belowB w _) (belowB _ _)) (belowB _ _)
  have hsz : W2.heap.size = g + 1 + 1 + 1 := by rw [hW2, hg]; simp
  have HS : Hid (RG (Value.int .i64) W2 (.slice sO sN sC) xs) := hs.below (Nat.le_refl _) b0
  have HZ : Hid (RG (Value.int .i64) W2 (.slice zO zN zC) zs) := hz.below (Nat.le_refl _) b0
  have HC : Hid (RG (Value.int .i64) W2 (.slice cO cN cC) cs) := hc.below (Nat.le_refl _) b0
  have HM : Hid (MdC W2 (g + 1 + 1) (.slice none 0 0) (.slice none 0 0) (.slice none 0 0) [] [] [] W2) := ⟨GrS.refl _ _, qm, OG.nil _ _ _, OG.nil _ _ _, OG.nil _ _ _, by simp [Value.ownBlock], by simp [Value.ownBlock], by simp [Value.ownBlock]⟩
  have HG : Hid (g = w.heap.size) := hg
  have HSZ : Hid (W2.heap.size = g + 1 + 1 + 1) := hsz
  have HB0 : Hid (Below w.heap.size w W2) := b0
  have HQB : Hid (BCell 24 W2 g (.slice sO sN sC) (.slice zO zN zC) (.slice cO cN cC)) := qb
  have HQR : Hid (BCell 24 W2 (g + 1) (.slice none 0 0) (.slice none 0 0) (.slice none 0 0)) := qr
  have HW2 : Hid (W2 = ((w.alloc (.cells #[.slice sO sN sC, .slice zO zN zC, .slice cO cN cC] 24)).alloc (.cells #[.slice none 0 0, .slice none 0 0, .slice none 0 0] 24)).alloc (.cells #[.slice none 0 0, .slice none 0 0, .slice none 0 0] 24)) := hW2
  have HAP : Hid (∀ W : World, GrS W2 W [g + 1 + 1] → BCell 24 W g (.slice sO sN sC) (.slice zO zN zC) (.slice cO cN cC) ∧ BCell 24 W (g + 1) (.slice none 0 0) (.slice none 0 0) (.slice none 0 0)) := fun W hW => by
    have h1 : g < W2.heap.size := by omega
    have h2 : g + 1 < W2.heap.size := by omega
    exact ⟨(hW.block g h1 (by simp; omega)).trans qb, (hW.block (g + 1) h2 (by simp)).trans qr⟩
  have HAR : Hid (∀ (W : World) (v : Value) (L : List Int), GrS W2 W [g + 1 + 1] → RG (Value.int .i64) w v L → RG (Value.int .i64) W v L) := fun W v L hW hv => by
    have hbb : Below w.heap.size w W := b0.trans (hW.below (B := w.heap.size) (by simp; omega) b0.size)
    exact hv.below (Nat.le_refl _) hbb
  have HS0 : Hid (RG (Value.int .i64) w (.slice sO sN sC) xs) := hs
  have HZ0 : Hid (RG (Value.int .i64) w (.slice zO zN zC) zs) := hz
  have HC0 : Hid (RG (Value.int .i64) w (.slice cO cN cC) cs) := hc
  have hgo : g + 1 + 1 < W2.heap.size := by omega
  have HGO : Hid (g + 1 + 1 < W2.heap.size) := hgo
  clear hs hz hc hW2 hg qb qr qm b0 hsz hgo HS HZ HC
  go_enter Try.func4, Try.ntmps4
  go_upto_region 2 with fail
  rw [← HW2.out, ← HG.out]
  clear HW2
  obtain ⟨pb0, pb1, pb2⟩ := (HAP.out W2 HM.out.grs).1.cells
  obtain ⟨pm0, pm1, pm2⟩ := HM.out.box.cells
  go_wp2_with (at_builtin; refine wpList_appG _ (fun _ => rfl) rfl _ _ 22 rfl W2.heap.size 3 i0 (.int .i64 0) 8 Try.underlying22 hi hz0 hz1 hz2 rfl _ _ [] xs rfl (OG.nil _ _ _) rfl (HAR.out W2 _ _ HM.out.grs HS0.out) (by unfold maxLen; rw [HLS.out]; simp; omega) (by rw [HLS.out]; simp; omega) (Nat.le_refl _) ?_)
  intro v0 y0 ho0 hg0
  try rw [List.nil_append] at ho0
  obtain ⟨o0, n0, c0, rfl⟩ : ∃ o n c, v0 = .slice o n c := by obtain ⟨ao, cap, e, -⟩ := ho0.sl; exact ⟨_, _, _, e⟩
  have qm0 := (hg0.block _ HM.out.box.lt (by simp [Value.ownBlock])).trans HM.out.box
  obtain ⟨pn0, pn1, pn2⟩ := BCell.cells qm0
  have pf := BCell.thaw qm0 0
  obtain ⟨X1, hX1⟩ : ∃ u, u = y0.setCell ⟨g + 1 + 1, 0, none⟩ (.slice o0 n0 c0) := ⟨_, rfl⟩
  have hM0 := HM.out.put1 HGO.out ho0 hg0
  rw [← hX1] at hM0
  have EX1 : Hid (X1 = y0.setCell ⟨g + 1 + 1, 0, none⟩ (.slice o0 n0 c0)) := hX1
  replace HM : Hid (MdC W2 (g + 1 + 1) (.slice o0 n0 c0) (.slice none 0 0) (.slice none 0 0) xs [] [] X1) := hM0
  clear hM0 hX1 ho0 hg0 qm0 pb0 pb1 pb2 pm0 pm1 pm2
  go_upto_region 3 with fail
  rw [← EX1.out]
  clear EX1 pn0 pn1 pn2 pf
  obtain ⟨pb0, pb1, pb2⟩ := (HAP.out X1 HM.out.grs).1.cells
  obtain ⟨pm0, pm1, pm2⟩ := HM.out.box.cells
  go_wp2_with (at_builtin; refine wpList_appG _ (fun _ => rfl) rfl _ _ 22 rfl X1.heap.size 3 i0 (.int .i64 0) 8 Try.underlying22 hi hz0 hz1 hz2 rfl _ _ [] zs rfl (OG.nil _ _ _) rfl (HAR.out X1 _ _ HM.out.grs HZ0.out) (by unfold maxLen; rw [HLZ.out]; simp; omega) (by rw [HLZ.out]; simp; omega) (Nat.le_refl _) ?_)
  intro v1 y1 ho1 hg1
  try rw [List.nil_append] at ho1
  obtain ⟨o1, n1, c1, rfl⟩ : ∃ o n c, v1 = .slice o n c := by obtain ⟨ao, cap, e, -⟩ := ho1.sl; exact ⟨_, _, _, e⟩
  have qm1 := (hg1.block _ HM.out.box.lt (by simp [Value.ownBlock])).trans HM.out.box
  obtain ⟨pn0, pn1, pn2⟩ := BCell.cells qm1
  have pf := BCell.thaw qm1 1
  obtain ⟨X2, hX2⟩ : ∃ u, u = y1.setCell ⟨g + 1 + 1, 1, none⟩ (.slice o1 n1 c1) := ⟨_, rfl⟩
  have hM1 := HM.out.put2 HGO.out ho1 hg1
  rw [← hX2] at hM1
  have EX2 : Hid (X2 = y1.setCell ⟨g + 1 + 1, 1, none⟩ (.slice o1 n1 c1)) := hX2
  replace HM : Hid (MdC W2 (g + 1 + 1) (.slice o0 n0 c0) (.slice o1 n1 c1) (.slice none 0 0) xs zs [] X2) := hM1
  clear hM1 hX2 ho1 hg1 qm1 pb0 pb1 pb2 pm0 pm1 pm2
  go_upto_region 4 with fail
  rw [← EX2.out]
  clear EX2 pn0 pn1 pn2 pf
  obtain ⟨pb0, pb1, pb2⟩ := (HAP.out X2 HM.out.grs).1.cells
  obtain ⟨pm0, pm1, pm2⟩ := HM.out.box.cells
  go_wp2_with (at_builtin; refine wpList_appG _ (fun _ => rfl) rfl _ _ 22 rfl X2.heap.size 3 i0 (.int .i64 0) 8 Try.underlying22 hi hz0 hz1 hz2 rfl _ _ [] cs rfl (OG.nil _ _ _) rfl (HAR.out X2 _ _ HM.out.grs HC0.out) (by unfold maxLen; rw [HLC.out]; simp; omega) (by rw [HLC.out]; simp; omega) (Nat.le_refl _) ?_)
  intro v2 y2 ho2 hg2
  try rw [List.nil_append] at ho2
  obtain ⟨o2, n2, c2, rfl⟩ : ∃ o n c, v2 = .slice o n c := by obtain ⟨ao, cap, e, -⟩ := ho2.sl; exact ⟨_, _, _, e⟩
  have qm2 := (hg2.block _ HM.out.box.lt (by simp [Value.ownBlock])).trans HM.out.box
  obtain ⟨pn0, pn1, pn2⟩ := BCell.cells qm2
  have pf := BCell.thaw qm2 2
  obtain ⟨X3, hX3⟩ : ∃ u, u = y2.setCell ⟨g + 1 + 1, 2, none⟩ (.slice o2 n2 c2) := ⟨_, rfl⟩
  have hM2 := HM.out.put3 HGO.out ho2 hg2
  rw [← hX3] at hM2
  have EX3 : Hid (X3 = y2.setCell ⟨g + 1 + 1, 2, none⟩ (.slice o2 n2 c2)) := hX3
  replace HM : Hid (MdC W2 (g + 1 + 1) (.slice o0 n0 c0) (.slice o1 n1 c1) (.slice o2 n2 c2) xs zs cs X3) := hM2
  clear hM2 hX3 ho2 hg2 qm2 pb0 pb1 pb2 pm0 pm1 pm2
  go_wp2
  rw [← EX3.out]
  clear EX3 pn0 pn1 pn2 pf
  go_loopg [6] 4 (fun g1 v6 wr => ∃ (k : Nat) (o1 n1 c1 o2 n2 c2 o3 n3 c3 : _), v6 = .int .i64 k ∧ k ≤ 4 ∧ 4 - k ≤ g1 ∧ Hid (MdC W2 (g + 1 + 1) (.slice o1 n1 c1) (.slice o2 n2 c2) (.slice o3 n3 c3) (xs ++ List.replicate k 77) (zs ++ List.replicate k 78) (cs ++ List.replicate k 99) wr))
  case atStart => exact ⟨0, _, _, _, _, _, _, _, _, _, rfl, by omega, by omega, by rw [List.replicate_zero, List.replicate_zero, List.replicate_zero, List.append_nil, List.append_nil, List.append_nil]; exact HM⟩
  case round =>
    clear HM
    obtain ⟨k, o1, n1, c1, o2, n2, c2, o3, n3, c3, rfl, hk4, hg1, HM⟩ := hrel
    by_cases hlt : k < 4
    · have hltz : (k : Int) < 4 := by omega
      have HR1 : Hid (xs ++ List.replicate (k + 1) 77 = (xs ++ List.replicate k 77) ++ [77]) := by show _ = _; rw [List.replicate_succ', List.append_assoc]
      have HR2 : Hid (zs ++ List.replicate (k + 1) 78 = (zs ++ List.replicate k 78) ++ [78]) := by show _ = _; rw [List.replicate_succ', List.append_assoc]
      have HR3 : Hid (cs ++ List.replicate (k + 1) 99 = (cs ++ List.replicate k 99) ++ [99]) := by show _ = _; rw [List.replicate_succ', List.append_assoc]
      have HN1 : Hid ((xs ++ List.replicate k 77).length ≤ 17592186043908) := by show _ ≤ _; rw [List.length_append, List.length_replicate, HLS.out]; omega
      have HN2 : Hid ((zs ++ List.replicate k 78).length ≤ 17592186043908) := by show _ ≤ _; rw [List.length_append, List.length_replicate, HLZ.out]; omega
      have HN3 : Hid ((cs ++ List.replicate k 99).length ≤ 17592186043908) := by show _ ≤ _; rw [List.length_append, List.length_replicate, HLC.out]; omega
      generalize xs ++ List.replicate k 77 = V at *
      generalize zs ++ List.replicate k 78 = ZV at *
      generalize cs ++ List.replicate k 99 = C at *
      go_upto_region 8 with fail
      obtain ⟨pm0, pm1, pm2⟩ := HM.out.box.cells
      obtain ⟨A1, hA1⟩ : ∃ u, u = wr.alloc (.cells #[.int .i64 77] 3) := ⟨_, rfl⟩
      have hMA := HM.out.below (W' := A1) (by rw [hA1]; exact belowB _ _)
      obtain ⟨gb0, hgb⟩ : ∃ u, u = wr.heap.size := ⟨_, rfl⟩
      have cb : A1.cell? ⟨gb0, 0, none⟩ = some (.int .i64 77) := by rw [hA1, hgb, World.cell?_alloc_at _ _ _ _ rfl]; rfl
      have HCB : Hid (A1.cell? ⟨gb0, 0, none⟩ = some (.int .i64 77)) := cb
      have HWA : Hid (A1 = wr.alloc (.cells #[.int .i64 77] 3)) := hA1
      have HGB : Hid (gb0 = wr.heap.size) := hgb
      have HMA : Hid (MdC W2 (g + 1 + 1) (.slice o1 n1 c1) (.slice o2 n2 c2) (.slice o3 n3 c3) (V) (ZV) (C) A1) := hMA
      have hszA : W2.heap.size ≤ A1.heap.size := hMA.grs.size
      clear hA1 hgb cb hMA HM
      go_wp2_with (at_builtin; rw [← HWA.out, ← HGB.out]; refine wpList_push1L _ (fun _ => rfl) rfl _ _ 22 rfl W2.heap.size 3 i0 (.int .i64 0) 8 Try.underlying22 hi hz0 hz1 hz2 rfl _ _ rfl HMA.out.r1 gb0 77 rfl HCB.out (by have := HN1.out; unfold maxLen; omega) (by have := HN1.out; omega) hszA ?_)
      intro ng0 nk0 nc0 WB0 ho hg hgg hlt9
      have qB : BCell 24 WB0 (g + 1 + 1) (.slice o1 n1 c1) (.slice o2 n2 c2) (.slice o3 n3 c3) := by
        unfold BCell; rw [hg.block (g + 1 + 1) HMA.out.box.lt (fun e => by have := (HMA.out.r1.lt (g + 1 + 1) e.symm).1; have := HGO.out; omega)]; exact HMA.out.box
      obtain ⟨kb0, kb1, kb2⟩ := qB.cells
      have kf := qB.thaw 0
      obtain ⟨R1, hR1⟩ : ∃ u, u = WB0.setCell ⟨g + 1 + 1, 0, none⟩ (.slice (some ⟨ng0, 0, none⟩) nk0 nc0) := ⟨_, rfl⟩
      have hM1 := HMA.out.push1 HGO.out ho hg hgg
      rw [← hR1] at hM1
      have ER1 : Hid (R1 = WB0.setCell ⟨g + 1 + 1, 0, none⟩ (.slice (some ⟨ng0, 0, none⟩) nk0 nc0)) := hR1
      clear hR1 ho hg hgg hlt9 qB HMA HCB HWA HGB hszA pm0 pm1 pm2
      have HM : Hid (MdC W2 (g + 1 + 1) (.slice (some ⟨ng0, 0, none⟩) nk0 nc0) (.slice o2 n2 c2) (.slice o3 n3 c3) (V ++ [77]) (ZV) (C) R1) := hM1
      clear hM1
      go_upto_region 9 with fail
      rw [← ER1.out]
      clear ER1 kb0 kb1 kb2 kf
      obtain ⟨pm0, pm1, pm2⟩ := HM.out.box.cells
      obtain ⟨A2, hA2⟩ : ∃ u, u = R1.alloc (.cells #[.int .i64 78] 3) := ⟨_, rfl⟩
      have hMA := HM.out.below (W' := A2) (by rw [hA2]; exact belowB _ _)
      obtain ⟨gb1, hgb⟩ : ∃ u, u = R1.heap.size := ⟨_, rfl⟩
      have cb : A2.cell? ⟨gb1, 0, none⟩ = some (.int .i64 78) := by rw [hA2, hgb, World.cell?_alloc_at _ _ _ _ rfl]; rfl
      have HCB : Hid (A2.cell? ⟨gb1, 0, none⟩ = some (.int .i64 78)) := cb
      have HWA : Hid (A2 = R1.alloc (.cells #[.int .i64 78] 3)) := hA2
      have HGB : Hid (gb1 = R1.heap.size) := hgb
      have HMA : Hid (MdC W2 (g + 1 + 1) (.slice (some ⟨ng0, 0, none⟩) nk0 nc0) (.slice o2 n2 c2) (.slice o3 n3 c3) (V ++ [77]) (ZV) (C) A2) := hMA
      have hszA : W2.heap.size ≤ A2.heap.size := hMA.grs.size
      clear hA2 hgb cb hMA HM
      go_wp2_with (at_builtin; rw [← HWA.out, ← HGB.out]; refine wpList_push1L _ (fun _ => rfl) rfl _ _ 22 rfl W2.heap.size 3 i0 (.int .i64 0) 8 Try.underlying22 hi hz0 hz1 hz2 rfl _ _ rfl HMA.out.r2 gb1 78 rfl HCB.out (by have := HN2.out; unfold maxLen; omega) (by have := HN2.out; omega) hszA ?_)
      intro ng1 nk1 nc1 WB1 ho hg hgg hlt9
      have qB : BCell 24 WB1 (g + 1 + 1) (.slice (some ⟨ng0, 0, none⟩) nk0 nc0) (.slice o2 n2 c2) (.slice o3 n3 c3) := by
        unfold BCell; rw [hg.block (g + 1 + 1) HMA.out.box.lt (fun e => by have := (HMA.out.r2.lt (g + 1 + 1) e.symm).1; have := HGO.out; omega)]; exact HMA.out.box
      obtain ⟨kb0, kb1, kb2⟩ := qB.cells
      have kf := qB.thaw 1
      obtain ⟨R2, hR2⟩ : ∃ u, u = WB1.setCell ⟨g + 1 + 1, 1, none⟩ (.slice (some ⟨ng1, 0, none⟩) nk1 nc1) := ⟨_, rfl⟩
      have hM1 := HMA.out.push2 HGO.out ho hg hgg
      rw [← hR2] at hM1
      have ER2 : Hid (R2 = WB1.setCell ⟨g + 1 + 1, 1, none⟩ (.slice (some ⟨ng1, 0, none⟩) nk1 nc1)) := hR2
      clear hR2 ho hg hgg hlt9 qB HMA HCB HWA HGB hszA pm0 pm1 pm2
      have HM : Hid (MdC W2 (g + 1 + 1) (.slice (some ⟨ng0, 0, none⟩) nk0 nc0) (.slice (some ⟨ng1, 0, none⟩) nk1 nc1) (.slice o3 n3 c3) (V ++ [77]) (ZV ++ [78]) (C) R2) := hM1
      clear hM1
      go_upto_region 10 with fail
      rw [← ER2.out]
      clear ER2 kb0 kb1 kb2 kf
      obtain ⟨pm0, pm1, pm2⟩ := HM.out.box.cells
      obtain ⟨A3, hA3⟩ : ∃ u, u = R2.alloc (.cells #[.int .i64 99] 3) := ⟨_, rfl⟩
      have hMA := HM.out.below (W' := A3) (by rw [hA3]; exact belowB _ _)
      obtain ⟨gb2, hgb⟩ : ∃ u, u = R2.heap.size := ⟨_, rfl⟩
      have cb : A3.cell? ⟨gb2, 0, none⟩ = some (.int .i64 99) := by rw [hA3, hgb, World.cell?_alloc_at _ _ _ _ rfl]; rfl
      have HCB : Hid (A3.cell? ⟨gb2, 0, none⟩ = some (.int .i64 99)) := cb
      have HWA : Hid (A3 = R2.alloc (.cells #[.int .i64 99] 3)) := hA3
      have HGB : Hid (gb2 = R2.heap.size) := hgb
      have HMA : Hid (MdC W2 (g + 1 + 1) (.slice (some ⟨ng0, 0, none⟩) nk0 nc0) (.slice (some ⟨ng1, 0, none⟩) nk1 nc1) (.slice o3 n3 c3) (V ++ [77]) (ZV ++ [78]) (C) A3) := hMA
      have hszA : W2.heap.size ≤ A3.heap.size := hMA.grs.size
      clear hA3 hgb cb hMA HM
      go_wp2_with (at_builtin; rw [← HWA.out, ← HGB.out]; refine wpList_push1L _ (fun _ => rfl) rfl _ _ 22 rfl W2.heap.size 3 i0 (.int .i64 0) 8 Try.underlying22 hi hz0 hz1 hz2 rfl _ _ rfl HMA.out.r3 gb2 99 rfl HCB.out (by have := HN3.out; unfold maxLen; omega) (by have := HN3.out; omega) hszA ?_)
      intro ng2 nk2 nc2 WB2 ho hg hgg hlt9
      have qB : BCell 24 WB2 (g + 1 + 1) (.slice (some ⟨ng0, 0, none⟩) nk0 nc0) (.slice (some ⟨ng1, 0, none⟩) nk1 nc1) (.slice o3 n3 c3) := by
        unfold BCell; rw [hg.block (g + 1 + 1) HMA.out.box.lt (fun e => by have := (HMA.out.r3.lt (g + 1 + 1) e.symm).1; have := HGO.out; omega)]; exact HMA.out.box
      obtain ⟨kb0, kb1, kb2⟩ := qB.cells
      have kf := qB.thaw 2
      obtain ⟨R3, hR3⟩ : ∃ u, u = WB2.setCell ⟨g + 1 + 1, 2, none⟩ (.slice (some ⟨ng2, 0, none⟩) nk2 nc2) := ⟨_, rfl⟩
      have hM1 := HMA.out.push3 HGO.out ho hg hgg
      rw [← hR3] at hM1
      have ER3 : Hid (R3 = WB2.setCell ⟨g + 1 + 1, 2, none⟩ (.slice (some ⟨ng2, 0, none⟩) nk2 nc2)) := hR3
      clear hR3 ho hg hgg hlt9 qB HMA HCB HWA HGB hszA pm0 pm1 pm2
      have HM : Hid (MdC W2 (g + 1 + 1) (.slice (some ⟨ng0, 0, none⟩) nk0 nc0) (.slice (some ⟨ng1, 0, none⟩) nk1 nc1) (.slice (some ⟨ng2, 0, none⟩) nk2 nc2) (V ++ [77]) (ZV ++ [78]) (C ++ [99]) R3) := hM1
      clear hM1
      go_wp2
      rw [← ER3.out]
      go_roundg (4 - (k + 1))
      case measure => omega
      case rel => exact ⟨k + 1, _, _, _, _, _, _, _, _, _, by go_num, by omega, Nat.le_refl _, by rw [HR1.out, HR2.out, HR3.out]; exact HM⟩
    · have hltz : ¬ (k : Int) < 4 := by omega
      have hk : k = 4 := by omega
      subst hk
      have HP1 : Hid (RoomB W2.heap.size wr (.slice o1 sN c1) xs 77 ∧ ∃ q, o1 = some ⟨q, 0, none⟩) := by
        obtain ⟨ao, cap, e, h3, -⟩ := HM.out.r1.sl
        rw [List.length_append, List.length_replicate] at e h3
        obtain ⟨q, hq, rfl⟩ := h3 (by omega)
        simp only [Value.slice.injEq] at e
        obtain ⟨rfl, rfl, rfl⟩ := e
        exact ⟨⟨q, c1, by rw [HLS.out], HM.out.r1⟩, q, rfl⟩
      have HP2 : Hid (RoomB W2.heap.size wr (.slice o2 zN c2) zs 78 ∧ ∃ q, o2 = some ⟨q, 0, none⟩) := by
        obtain ⟨ao, cap, e, h3, -⟩ := HM.out.r2.sl
        rw [List.length_append, List.length_replicate] at e h3
        obtain ⟨q, hq, rfl⟩ := h3 (by omega)
        simp only [Value.slice.injEq] at e
        obtain ⟨rfl, rfl, rfl⟩ := e
        exact ⟨⟨q, c2, by rw [HLZ.out], HM.out.r2⟩, q, rfl⟩
      have HP3 : Hid (RoomB W2.heap.size wr (.slice o3 cN c3) cs 99 ∧ ∃ q, o3 = some ⟨q, 0, none⟩) := by
        obtain ⟨ao, cap, e, h3, -⟩ := HM.out.r3.sl
        rw [List.length_append, List.length_replicate] at e h3
        obtain ⟨q, hq, rfl⟩ := h3 (by omega)
        simp only [Value.slice.injEq] at e
        obtain ⟨rfl, rfl, rfl⟩ := e
        exact ⟨⟨q, c3, by rw [HLC.out], HM.out.r3⟩, q, rfl⟩
      have e1 : sN ≤ c1 := by obtain ⟨ao, cap, e, -, h4, -⟩ := HM.out.r1.sl; rw [List.length_append, List.length_replicate, HLS.out] at h4; simp only [Value.slice.injEq] at e; omega
      have e2 : zN ≤ c2 := by obtain ⟨ao, cap, e, -, h4, -⟩ := HM.out.r2.sl; rw [List.length_append, List.length_replicate, HLZ.out] at h4; simp only [Value.slice.injEq] at e; omega
      have e3 : cN ≤ c3 := by obtain ⟨ao, cap, e, -, h4, -⟩ := HM.out.r3.sl; rw [List.length_append, List.length_replicate, HLC.out] at h4; simp only [Value.slice.injEq] at e; omega
      have m1 : c1 ≤ 9223372036854775807 := by obtain ⟨ao, cap, e, -, -, h4, -⟩ := HM.out.r1.sl; unfold maxLen at h4; simp only [Value.slice.injEq] at e; omega
      have m2 : c2 ≤ 9223372036854775807 := by obtain ⟨ao, cap, e, -, -, h4, -⟩ := HM.out.r2.sl; unfold maxLen at h4; simp only [Value.slice.injEq] at e; omega
      have m3 : c3 ≤ 9223372036854775807 := by obtain ⟨ao, cap, e, -, -, h4, -⟩ := HM.out.r3.sl; unfold maxLen at h4; simp only [Value.slice.injEq] at e; omega
      have l1 : (sN : Int) ≤ (c1 : Int) := by omega
      have l2 : (zN : Int) ≤ (c2 : Int) := by omega
      have l3 : (cN : Int) ≤ (c3 : Int) := by omega
      have HGR : Hid (GrS W2 wr [g + 1 + 1]) := HM.out.grs
      have HBX : Hid (BCell 24 wr (g + 1 + 1) (.slice o1 n1 c1) (.slice o2 n2 c2) (.slice o3 n3 c3)) := HM.out.box
      have HP1' : Hid (∃ q, o1 = some ⟨q, 0, none⟩) := HP1.out.2
      have HP2' : Hid (∃ q, o2 = some ⟨q, 0, none⟩) := HP2.out.2
      have HP3' : Hid (∃ q, o3 = some ⟨q, 0, none⟩) := HP3.out.2
      replace HP1 : Hid (RoomB W2.heap.size wr (.slice o1 sN c1) xs 77) := HP1.out.1
      replace HP2 : Hid (RoomB W2.heap.size wr (.slice o2 zN c2) zs 78) := HP2.out.1
      replace HP3 : Hid (RoomB W2.heap.size wr (.slice o3 cN c3) cs 99) := HP3.out.1
      have HNX : Hid (∀ (W : World) (j : Nat) (x : Value), GrS W2 W [g + 1 + 1] → GrS W2 (W.setCell ⟨g + 1 + 1, j, none⟩ x) [g + 1 + 1]) := fun W j x h => h.set (by simp) _ _
      have HNR : Hid (∀ (W : World) (j : Nat) (x u : Value) (L : List Int) (m : Int), RoomB W2.heap.size W u L m → RoomB W2.heap.size (W.setCell ⟨g + 1 + 1, j, none⟩ x) u L m) := fun W j x u L m h => h.blocks fun q hq _ => Below.heap_setCell _ _ _ _ (by have := HGO.out; show q ≠ g + 1 + 1; omega)
      clear HM
      obtain ⟨pb0, pb1, pb2⟩ := (HAP.out wr HGR.out).1.cells
      obtain ⟨pm0, pm1, pm2⟩ := HBX.out.cells
      have kf := HBX.out.thaw 0
      obtain ⟨q0, hq0⟩ := HP1'.out
      subst hq0
      clear HP1'
      obtain ⟨Y1, hY1⟩ : ∃ u, u = wr.setCell ⟨g + 1 + 1, 0, none⟩ (.slice (some ⟨q0, 0, none⟩) sN c1) := ⟨_, rfl⟩
      have EY1 : Hid (Y1 = wr.setCell ⟨g + 1 + 1, 0, none⟩ (.slice (some ⟨q0, 0, none⟩) sN c1)) := hY1
      have hB1 : BCell 24 Y1 (g + 1 + 1) (.slice (some ⟨q0, 0, none⟩) sN c1) (.slice o2 n2 c2) (.slice o3 n3 c3) := by rw [hY1]; unfold BCell; rw [heap_setCell_same wr (g + 1 + 1) 0 _ _ _ HBX.out]; rfl
      have hG1 : GrS W2 Y1 [g + 1 + 1] := by rw [hY1]; exact HNX.out _ _ _ HGR.out
      have hP1 := HNR.out wr 0 (.slice (some ⟨q0, 0, none⟩) sN c1) _ _ _ HP1.out
      have hP2 := HNR.out wr 0 (.slice (some ⟨q0, 0, none⟩) sN c1) _ _ _ HP2.out
      have hP3 := HNR.out wr 0 (.slice (some ⟨q0, 0, none⟩) sN c1) _ _ _ HP3.out
      rw [← hY1] at hP1 hP2 hP3
      clear HP1 HP2 HP3
      have HP1 : Hid _ := hP1
      have HP2 : Hid _ := hP2
      have HP3 : Hid _ := hP3
      replace HGR : Hid (GrS W2 Y1 [g + 1 + 1]) := hG1
      have HBY : Hid (BCell 24 Y1 (g + 1 + 1) (.slice (some ⟨q0, 0, none⟩) sN c1) (.slice o2 n2 c2) (.slice o3 n3 c3)) := hB1
      clear hP1 hP2 hP3 hG1 hB1 hY1
      go_upto_region 12 with fail
      rw [← EY1.out]
      clear EY1 pb0 pb1 pb2 pm0 pm1 pm2 kf HBX
      have HBX : Hid (BCell 24 Y1 (g + 1 + 1) (.slice (some ⟨q0, 0, none⟩) sN c1) (.slice o2 n2 c2) (.slice o3 n3 c3)) := HBY.out
      clear HBY
      obtain ⟨pb0, pb1, pb2⟩ := (HAP.out Y1 HGR.out).1.cells
      obtain ⟨pm0, pm1, pm2⟩ := HBX.out.cells
      have kf := HBX.out.thaw 1
      obtain ⟨q1, hq1⟩ := HP2'.out
      subst hq1
      clear HP2'
      obtain ⟨Y2, hY2⟩ : ∃ u, u = Y1.setCell ⟨g + 1 + 1, 1, none⟩ (.slice (some ⟨q1, 0, none⟩) zN c2) := ⟨_, rfl⟩
      have EY2 : Hid (Y2 = Y1.setCell ⟨g + 1 + 1, 1, none⟩ (.slice (some ⟨q1, 0, none⟩) zN c2)) := hY2
      have hB1 : BCell 24 Y2 (g + 1 + 1) (.slice (some ⟨q0, 0, none⟩) sN c1) (.slice (some ⟨q1, 0, none⟩) zN c2) (.slice o3 n3 c3) := by rw [hY2]; unfold BCell; rw [heap_setCell_same Y1 (g + 1 + 1) 1 _ _ _ HBX.out]; rfl
      have hG1 : GrS W2 Y2 [g + 1 + 1] := by rw [hY2]; exact HNX.out _ _ _ HGR.out
      have hP1 := HNR.out Y1 1 (.slice (some ⟨q1, 0, none⟩) zN c2) _ _ _ HP1.out
      have hP2 := HNR.out Y1 1 (.slice (some ⟨q1, 0, none⟩) zN c2) _ _ _ HP2.out
      have hP3 := HNR.out Y1 1 (.slice (some ⟨q1, 0, none⟩) zN c2) _ _ _ HP3.out
      rw [← hY2] at hP1 hP2 hP3
      clear HP1 HP2 HP3
      have HP1 : Hid _ := hP1
      have HP2 : Hid _ := hP2
      have HP3 : Hid _ := hP3
      replace HGR : Hid (GrS W2 Y2 [g + 1 + 1]) := hG1
      have HBY : Hid (BCell 24 Y2 (g + 1 + 1) (.slice (some ⟨q0, 0, none⟩) sN c1) (.slice (some ⟨q1, 0, none⟩) zN c2) (.slice o3 n3 c3)) := hB1
      clear hP1 hP2 hP3 hG1 hB1 hY2
      go_upto_region 13 with fail
      rw [← EY2.out]
      clear EY2 pb0 pb1 pb2 pm0 pm1 pm2 kf HBX
      have HBX : Hid (BCell 24 Y2 (g + 1 + 1) (.slice (some ⟨q0, 0, none⟩) sN c1) (.slice (some ⟨q1, 0, none⟩) zN c2) (.slice o3 n3 c3)) := HBY.out
      clear HBY
      obtain ⟨pb0, pb1, pb2⟩ := (HAP.out Y2 HGR.out).1.cells
      obtain ⟨pm0, pm1, pm2⟩ := HBX.out.cells
      have kf := HBX.out.thaw 2
      obtain ⟨q2, hq2⟩ := HP3'.out
      subst hq2
      clear HP3'
      obtain ⟨Y3, hY3⟩ : ∃ u, u = Y2.setCell ⟨g + 1 + 1, 2, none⟩ (.slice (some ⟨q2, 0, none⟩) cN c3) := ⟨_, rfl⟩
      have EY3 : Hid (Y3 = Y2.setCell ⟨g + 1 + 1, 2, none⟩ (.slice (some ⟨q2, 0, none⟩) cN c3)) := hY3
      have hB1 : BCell 24 Y3 (g + 1 + 1) (.slice (some ⟨q0, 0, none⟩) sN c1) (.slice (some ⟨q1, 0, none⟩) zN c2) (.slice (some ⟨q2, 0, none⟩) cN c3) := by rw [hY3]; unfold BCell; rw [heap_setCell_same Y2 (g + 1 + 1) 2 _ _ _ HBX.out]; rfl
      have hG1 : GrS W2 Y3 [g + 1 + 1] := by rw [hY3]; exact HNX.out _ _ _ HGR.out
      have hP1 := HNR.out Y2 2 (.slice (some ⟨q2, 0, none⟩) cN c3) _ _ _ HP1.out
      have hP2 := HNR.out Y2 2 (.slice (some ⟨q2, 0, none⟩) cN c3) _ _ _ HP2.out
      have hP3 := HNR.out Y2 2 (.slice (some ⟨q2, 0, none⟩) cN c3) _ _ _ HP3.out
      rw [← hY3] at hP1 hP2 hP3
      clear HP1 HP2 HP3
      have HP1 : Hid _ := hP1
      have HP2 : Hid _ := hP2
      have HP3 : Hid _ := hP3
      replace HGR : Hid (GrS W2 Y3 [g + 1 + 1]) := hG1
      have HBY : Hid (BCell 24 Y3 (g + 1 + 1) (.slice (some ⟨q0, 0, none⟩) sN c1) (.slice (some ⟨q1, 0, none⟩) zN c2) (.slice (some ⟨q2, 0, none⟩) cN c3)) := hB1
      clear hP1 hP2 hP3 hG1 hB1 hY3
      go_upto_region 14 with fail
      rw [← EY3.out]
      clear EY3 pb0 pb1 pb2 pm0 pm1 pm2 kf HBX
      have HBX : Hid (BCell 24 Y3 (g + 1 + 1) (.slice (some ⟨q0, 0, none⟩) sN c1) (.slice (some ⟨q1, 0, none⟩) zN c2) (.slice (some ⟨q2, 0, none⟩) cN c3)) := HBY.out
      clear HBY
      obtain ⟨pm0, pm1, pm2⟩ := HBX.out.cells
      have qr := (HAP.out Y3 HGR.out).2
      obtain ⟨r0, r1, r2⟩ := qr.cells
      have f0 := qr.thaw 0
      have f1 := qr.thaw 1
      have f2 := qr.thaw 2
      obtain ⟨WF, hWF⟩ : ∃ u, u = ((Y3.setCell ⟨g + 1, 0, none⟩ (.slice (some ⟨q0, 0, none⟩) sN c1)).setCell ⟨g + 1, 1, none⟩ (.slice (some ⟨q1, 0, none⟩) zN c2)).setCell ⟨g + 1, 2, none⟩ (.slice (some ⟨q2, 0, none⟩) cN c3) := ⟨_, rfl⟩
      have hoth : ∀ q, q ≠ g + 1 → WF.heap[q]? = Y3.heap[q]? := fun q hq => by rw [hWF, Below.heap_setCell _ _ _ _ hq, Below.heap_setCell _ _ _ _ hq, Below.heap_setCell _ _ _ _ hq]
      have HWF : Hid (BCell 24 WF (g + 1) (.slice (some ⟨q0, 0, none⟩) sN c1) (.slice (some ⟨q1, 0, none⟩) zN c2) (.slice (some ⟨q2, 0, none⟩) cN c3)) := by show BCell _ _ _ _ _ _; rw [hWF]; exact qr.write _ _ _
      have HEQ : Hid (WF = ((Y3.setCell ⟨g + 1, 0, none⟩ (.slice (some ⟨q0, 0, none⟩) sN c1)).setCell ⟨g + 1, 1, none⟩ (.slice (some ⟨q1, 0, none⟩) zN c2)).setCell ⟨g + 1, 2, none⟩ (.slice (some ⟨q2, 0, none⟩) cN c3)) := hWF
      have hmo : ∀ (u : Value) (L : List Int) (m : Int), RoomB W2.heap.size Y3 u L m → RoomB w.heap.size WF u L m := fun u L m h => by
        have h' := h.blocks (w' := WF) fun q hq _ => hoth q (by have := HGO.out; omega)
        obtain ⟨q, cap, k1, k2⟩ := h'
        exact ⟨q, cap, k1, k2.mono HB0.out.size⟩
      have bF : Below w.heap.size w WF := by
        have h1 : Below w.heap.size w Y3 := HB0.out.trans (HGR.out.below (B := w.heap.size) (by have := HG.out; simp; omega) HB0.out.size)
        have := HG.out
        rw [hWF]
        exact ((h1.setCell (p := ⟨g + 1, 0, none⟩) (by show w.heap.size ≤ g + 1; omega) _).setCell (p := ⟨g + 1, 1, none⟩) (by show w.heap.size ≤ g + 1; omega) _).setCell (p := ⟨g + 1, 2, none⟩) (by show w.heap.size ≤ g + 1; omega) _
      have HRES : Hid (∃ u1 u2 u3, Ending.returned (.agg #[.slice (some ⟨q0, 0, none⟩) sN c1, .slice (some ⟨q1, 0, none⟩) zN c2, .slice (some ⟨q2, 0, none⟩) cN c3]) = .returned (.agg #[u1, u2, u3]) ∧ RoomB w.heap.size WF u1 xs 77 ∧ RoomB w.heap.size WF u2 zs 78 ∧ RoomB w.heap.size WF u3 cs 99 ∧ Below w.heap.size w WF) := ⟨_, _, _, rfl, hmo _ _ _ HP1.out, hmo _ _ _ HP2.out, hmo _ _ _ HP3.out, bF⟩
      clear hWF hoth hmo bF qr HP1 HP2 HP3
      go_wp2_with fail
      (try simp only [Exit.inBlock, Exit.then])
      rw [← HEQ.out]
      exact bodyPost_ret (results_cell_row rfl _ _ (g + 1) 24 _ (0, 0) _ rfl HWF.out Try.underlying24 rfl (by kernel_rfl)) rfl HRES.out
end Go.Proofs.Ytphbbkckigdgoaa

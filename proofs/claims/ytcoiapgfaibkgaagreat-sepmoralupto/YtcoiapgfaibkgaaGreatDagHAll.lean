/-
  Proved here: the line's Push: a point behind the others.
  Proved here: container/heap's Push over a line of points.
  Proved here: container/heap's Pop over a line of points.
  Proved here, plain mathematics: points put out one by one, always the least that waits for none; the heap's push and pop; what a taken point changes.
  Proved here, plain mathematics: what a taken point changes in who waits, and in the line of those that wait for none.
  Proved here: package dag's turned: those that hang on each point.
-/
import Derived.Test.YtcoiapgfaibkgaaGreatDagDAll
import Derived.Deep.AppendLies
import Derived.Test.YtcoiapgfaibkgaaGreatHeapMathAll
namespace Go.Proofs.YtcoiapgfaibkgaaGreat
set_option linter.unusedVariables false
open Go.RowKit
/-- All stands but for some blocks and what is new. -/
structure FrP (S : Nat → Prop) (w w' : World) : Prop where
  os : w'.os = w.os
  tape : w'.tape = w.tape
  output : w'.output = w.output
  size : w.heap.size ≤ w'.heap.size
  block : ∀ q, q < w.heap.size → ¬ S q → w'.heap[q]? = w.heap[q]?
theorem FrP.refl (S : Nat → Prop) (w : World) : FrP S w w := ⟨rfl, rfl, rfl, Nat.le_refl _, fun _ _ _ => rfl⟩
theorem FrP.tr {S S' : Nat → Prop} {w w' w'' : World} (h : FrP S w w') (h2 : FrP S' w' w'') (hs : ∀ q, q < w.heap.size → S' q → S q) : FrP S w w'' :=
  ⟨h2.os.trans h.os, h2.tape.trans h.tape, h2.output.trans h.output, Nat.le_trans h.size h2.size, fun q hq hn => (h2.block q (Nat.lt_of_lt_of_le hq h.size) (fun e => hn (hs q hq e))).trans (h.block q hq hn)⟩
theorem FrP.mono {S S' : Nat → Prop} {w w' : World} (h : FrP S w w') (hs : ∀ q, q < w.heap.size → S q → S' q) : FrP S' w w' := ⟨h.os, h.tape, h.output, h.size, fun q hq hn => h.block q hq (fun e => hn (hs q hq e))⟩
theorem FrP.of_below {S : Nat → Prop} {w w' : World} (h : Below w.heap.size w w') : FrP S w w' := ⟨h.os, h.tape, h.output, h.size, fun q hq _ => h.block q hq⟩
theorem FrP.of_grown {w w' : World} {r : Option Nat} (h : w.grownBy w' r) : FrP (fun q => r = some q) w w' := ⟨h.os, h.tape, h.output, h.size, fun q hq hn => h.block q hq (fun e => hn e.symm)⟩
theorem FrP.below {S : Nat → Prop} {B : Nat} {w w' : World} (h : FrP S w w') (hB : B ≤ w.heap.size) (hs : ∀ q, S q → B ≤ q) : Below B w w' := ⟨h.os, h.tape, h.output, h.size, fun q hq => h.block q (Nat.lt_of_lt_of_le hq hB) (fun e => Nat.not_lt.2 (hs q e) hq)⟩
theorem FrP.put {S : Nat → Prop} {w w' : World} (h : FrP S w w') (a : Addr) (v : Value) (ha : a.block < w.heap.size → S a.block) : FrP S w (w'.setCell a v) :=
  ⟨h.os, h.tape, h.output, by rw [World.size_setCell]; exact h.size, fun q hq hn => by rw [Below.heap_setCell _ _ _ _ (fun e => hn (by rw [e]; exact ha (by rw [← e]; exact hq)))]; exact h.block q hq hn⟩
/-- What the line's calls may write. -/
def LnS (rb : Nat) (v : Value) (q : Nat) : Prop := q = rb ∨ v.ownBlock = some q
/-- The box of what is left, and its line. -/
structure LnC (B : Nat) (w : World) (rb : Nat) (a b c d v : Value) (L : List Int) : Prop where
  box : RsC w rb a b c d v
  row : OG (Value.int .i64) B 3 w v L
theorem RsC.thaw {w : World} {rb : Nat} {a b c d v : Value} (h : RsC w rb a b c d v) (j : Nat) : w.frozen? ⟨rb, j, none⟩ = false := by
  unfold RsC at h
  simp [World.frozen?, h]
theorem RsC.put {w : World} {rb : Nat} {a b c d v : Value} (h : RsC w rb a b c d v) (u : Value) : RsC (w.setCell ⟨rb, 4, none⟩ u) rb a b c d u := by
  unfold RsC
  rw [heap_setCell_same _ rb 4 _ _ _ h]; rfl
theorem LnC.lt {B : Nat} {w : World} {rb : Nat} {a b c d v : Value} {L : List Int} (h : LnC B w rb a b c d v L) : rb < w.heap.size := h.box.lt
theorem LnC.ne {B : Nat} {w : World} {rb : Nat} {a b c d v : Value} {L : List Int} (h : LnC B w rb a b c d v L) : v.ownBlock ≠ some rb := h.row.neT h.box (by decide)
theorem want_yesD {o : Oper} {ys : Nat → Option Bool} {A B : Prop} (hg : o.guard = none) (h : A) : if Region.wanted o ys = true then A else B := by
  rw [if_pos (by simp [Region.wanted, hg])]; exact h
set_option maxRecDepth 100000 in
set_option maxHeartbeats 3200000 in
theorem lnPush (B0 rb : Nat) (a b c d v : Value) (L : List Int) (x : Int) (w : World) (h : LnC B0 w rb a b c d v L) (hB : B0 ≤ w.heap.size) (hl : L.length < 1000000) :
    Calls Tryz.prog 177 #[.pointer (some ⟨rb, 4, none⟩), .iface 3 (.int .i64 x)] w fun e w' => e = .returned (.tuple #[]) ∧ ∃ ng cap, LnC B0 w' rb a b c d (.slice (some ⟨ng, 0, none⟩) (L.length + 1) cap) (L ++ [x]) ∧ (v.ownBlock = some ng ∨ ng ≥ w.heap.size) ∧ FrP (LnS rb v) w w' := by
  obtain ⟨i0, hi, hz0, hz1, hz2⟩ := info_parts Tryz.infoI
  have HL : Hid (LnC B0 w rb a b c d v L) := h
  obtain ⟨l, hl0⟩ : ∃ l, L.length = l := ⟨_, rfl⟩
  have HLN : Hid (L.length = l) := hl0
  rw [hl0] at hl ⊢
  have c4 := h.box.cell
  obtain ⟨vo, vn, vc, rfl⟩ : ∃ o n k, v = .slice o n k := by obtain ⟨ao, cap, e⟩ := h.row.rg.sl; exact ⟨_, _, _, e⟩
  clear h hl0
  go_enter Tryz.func177, Tryz.ntmps177
  go_upto_region 0 with fail
  have KEEP : ∀ u, Below w.heap.size w u → L4.AllL u [(4, fun w' => w'.cell? ⟨rb, 4, none⟩ = some (.slice vo vn vc))] := fun u hu => ⟨keepR hu c4, trivial⟩
  refine L4.region_late [(4, fun w' => w'.cell? ⟨rb, 4, none⟩ = some (.slice vo vn vc))] (by kernel_rfl) ?_
  have B : Below w.heap.size w w.drew := (Below.refl _ _).drew
  obtain ⟨w1, hw1⟩ : ∃ u, u = w.drew := ⟨_, rfl⟩
  rw [← hw1] at B ⊢
  clear hw1
  have hHeld := KEEP _ B
  refine L4.late_free 0 (v := .pointer (some ⟨rb, 4, none⟩)) rfl (by kernel_rfl) (by kernel_rfl) (by kernel_rfl) (by kernel_rfl) (by kernel_rfl) (by kernel_rfl) (fun _ _ _ h => h) (Or.inl ⟨by rfl, ?_⟩) hHeld ?_
  · (intro u _; go_simp)
  (try simp only [Act.put, List.setIfInBounds_toArray, List.set_cons_zero, List.set_cons_succ])
  refine L4.late_free 1 (v := .pointer (some ⟨rb, 4, none⟩)) rfl (by kernel_rfl) (by kernel_rfl) (by kernel_rfl) (by kernel_rfl) (by kernel_rfl) (by kernel_rfl) (fun _ _ _ h => h) (Or.inl ⟨by rfl, ?_⟩) hHeld ?_
  · (intro u _; go_simp)
  (try simp only [Act.put, List.setIfInBounds_toArray, List.set_cons_zero, List.set_cons_succ])
  refine L4.late_free 2 (v := .pointer (some ⟨rb, 4, none⟩)) rfl (by kernel_rfl) (by kernel_rfl) (by kernel_rfl) (by kernel_rfl) (by kernel_rfl) (by kernel_rfl) (fun _ _ _ h => h) (Or.inl ⟨by rfl, ?_⟩) hHeld ?_
  · (intro u _; go_simp)
  (try simp only [Act.put, List.setIfInBounds_toArray, List.set_cons_zero, List.set_cons_succ])
  refine L4.late_free 3 (v := .pointer (some ⟨rb, 4, none⟩)) rfl (by kernel_rfl) (by kernel_rfl) (by kernel_rfl) (by kernel_rfl) (by kernel_rfl) (by kernel_rfl) (fun _ _ _ h => h) (Or.inl ⟨by rfl, ?_⟩) hHeld ?_
  · (intro u _; go_simp)
  (try simp only [Act.put, List.setIfInBounds_toArray, List.set_cons_zero, List.set_cons_succ])
  refine L4.late_take 4 (v := .slice vo vn vc) rfl (by kernel_rfl) (List.Mem.head _) (by kernel_rfl) (by kernel_rfl) (by kernel_rfl) (by kernel_rfl) (fun _ _ _ h => h) (Or.inl ⟨by rfl, ?_⟩) hHeld ?_
  · (intro u hu; (try dsimp only at hu); go_split_ands; go_simp)
  (try simp only [Act.put, List.setIfInBounds_toArray, List.set_cons_zero, List.set_cons_succ])
  refine L4.late_free 5 (v := .iface 3 (.int .i64 x)) rfl (by kernel_rfl) (by kernel_rfl) (by kernel_rfl) (by kernel_rfl) (by kernel_rfl) (by kernel_rfl) (fun _ _ _ h => h) (Or.inl ⟨by rfl, ?_⟩) hHeld ?_
  · (intro u _; go_simp)
  (try simp only [Act.put, List.setIfInBounds_toArray, List.set_cons_zero, List.set_cons_succ])
  refine L4.late_free 6 (v := .int .i64 x) rfl (by kernel_rfl) (by kernel_rfl) (by kernel_rfl) (by kernel_rfl) (by kernel_rfl) (by kernel_rfl) (fun _ _ _ h => h) (Or.inl ⟨by rfl, ?_⟩) hHeld ?_
  · (intro u _; (try go_simp); rfl)
  (try simp only [Act.put, List.setIfInBounds_toArray, List.set_cons_zero, List.set_cons_succ])
  refine L4.late_step 7 (by kernel_rfl) rfl (fun K hK => ?_)
  go_simp
  obtain ⟨y2, hy2⟩ : ∃ u, u = w1.alloc (.cells #[.int .i64 x] 3) := ⟨_, rfl⟩
  obtain ⟨gb, hgb⟩ : ∃ u, u = w1.heap.size := ⟨_, rfl⟩
  rw [← hy2, ← hgb]
  have c2 : Below w1.heap.size w1 y2 := by rw [hy2]; exact belowB _ _
  have cb : y2.cell? ⟨gb, 0, none⟩ = some (.int .i64 x) := by rw [hy2, hgb, World.cell?_alloc_at _ _ _ _ rfl]; rfl
  clear hy2 hgb
  have B := B.trans (c2.mono B.size)
  clear c2 hHeld
  have hHeld := KEEP _ B
  refine hK.out _ _ (L4.AllL.kept hHeld) ?_
  clear hK K
  (try simp only [Act.put, List.setIfInBounds_toArray, List.set_cons_zero, List.set_cons_succ])
  refine L4.late_step 8 (by kernel_rfl) rfl (fun K hK => ?_)
  refine want_yesD rfl ?_
  have hown := HL.out.row.below B
  have hown' : y2.ownsRow B0 3 1 (.slice vo vn vc) l (L.map (Value.int .i64)) := by have := hown; unfold OG at this; rw [HLN.out] at this; exact this
  refine wp_append_lies _ _ _ 124 rfl B0 3 i0 (.int .i64 0) 1 8 Tryz.underlying124 hi hz0 hz1 hz2 rfl (by decide) (.slice vo vn vc) l _ rfl hown' ⟨gb, 0, none⟩ 1 1 [.int .i64 x] rfl rfl (fun j u hj => by match j, hj with | 0, hj => simp at hj; subst hj; rw [Addr.add_lit, Nat.add_zero]; exact cb) (by simp [Value.oneCell']) (by decide) (by unfold maxLen; omega) (by omega) (Nat.le_trans hB B.size) _ rfl ?_
  intro ng ncap y3 ho2 hg2 hgg hlt9
  have HO2 : Hid (OG (Value.int .i64) B0 3 y3 (.slice (some ⟨ng, 0, none⟩) (l + 1) ncap) (L ++ [x])) := by show OG _ _ _ _ _ _; unfold OG; rw [List.length_append, HLN.out, List.map_append]; exact ho2
  have HNG : Hid ((Value.slice vo vn vc).ownBlock = some ng ∨ ng ≥ w.heap.size) := hgg.elim Or.inl (fun e => Or.inr (by rw [e]; exact B.size))
  have HBX : Hid (RsC y3 rb a b c d (.slice vo vn vc)) := by show RsC _ _ _ _ _ _ _; unfold RsC; rw [hg2.block rb (Nat.lt_of_lt_of_le HL.out.lt B.size) (fun e => HL.out.ne e.symm), B.block rb HL.out.lt]; exact HL.out.box
  have HFR : Hid (FrP (LnS rb (.slice vo vn vc)) w y3) := (FrP.of_below B).tr (FrP.of_grown hg2) (fun q _ e => Or.inr e)
  have cr9 := HBX.out.cell
  clear hHeld hown hown' ho2 hg2 hgg hlt9 B cb
  have hHeld : L4.AllL y3 [(4, fun w' => w'.cell? ⟨rb, 4, none⟩ = some (.slice vo vn vc))] := ⟨cr9, trivial⟩
  refine hK.out _ _ (L4.AllL.kept hHeld) ?_
  clear hK K
  (try simp only [Act.put, List.setIfInBounds_toArray, List.set_cons_zero, List.set_cons_succ])
  refine L4.late_free 9 (v := .pointer (some ⟨rb, 4, none⟩)) rfl (by kernel_rfl) (by kernel_rfl) (by kernel_rfl) (by kernel_rfl) (by kernel_rfl) (by kernel_rfl) (fun _ _ _ h => h) (Or.inl ⟨by rfl, ?_⟩) hHeld ?_
  · (intro u _; go_simp)
  (try simp only [Act.put, List.setIfInBounds_toArray, List.set_cons_zero, List.set_cons_succ])
  refine L4.late_free 10 (v := .pointer (some ⟨rb, 4, none⟩)) rfl (by kernel_rfl) (by kernel_rfl) (by kernel_rfl) (by kernel_rfl) (by kernel_rfl) (by kernel_rfl) (fun _ _ _ h => h) (Or.inl ⟨by rfl, ?_⟩) hHeld ?_
  · (intro u _; go_simp)
  (try simp only [Act.put, List.setIfInBounds_toArray, List.set_cons_zero, List.set_cons_succ])
  refine L4.late_step 11 (by kernel_rfl) rfl (fun K hK => ?_)
  have f9 := HBX.out.thaw 4
  go_simp
  refine hK.out _ _ ⟨Or.inl ⟨11, by kernel_rfl, by kernel_rfl⟩, trivial⟩ ?_
  clear hK K
  (try simp only [Act.put, List.setIfInBounds_toArray, List.set_cons_zero, List.set_cons_succ])
  refine L4.late_done (by kernel_rfl) ?_ _
  have HR : Hid (LnC B0 (y3.setCell ⟨rb, 4, none⟩ (.slice (some ⟨ng, 0, none⟩) (l + 1) ncap)) rb a b c d (.slice (some ⟨ng, 0, none⟩) (l + 1) ncap) (L ++ [x]) ∧ FrP (LnS rb (.slice vo vn vc)) w (y3.setCell ⟨rb, 4, none⟩ (.slice (some ⟨ng, 0, none⟩) (l + 1) ncap))) := by
    refine ⟨⟨HBX.out.put _, HO2.out.of_blocks fun q hq => Below.heap_setCell _ _ _ _ (fun e => HO2.out.neT HBX.out (by decide) (by rw [hq, e]))⟩, HFR.out.put _ _ (fun _ => Or.inl rfl)⟩
  clear HO2 HBX HFR cr9 f9 KEEP
  go_wp2
  go_end0
  exact ⟨rfl, _, _, HR.out.1, HNG.out, HR.out.2⟩
end Go.Proofs.YtcoiapgfaibkgaaGreat

namespace Go.Proofs.YtcoiapgfaibkgaaGreat
set_option linter.unusedVariables false
open Go.RowKit
theorem LnC.of {B : Nat} {w w' : World} {rb : Nat} {a b c d v v' : Value} {L M : List Int} (h : LnC B w rb a b c d v L) {g : Nat} (hv : v'.ownBlock = some g) (hne : g ≠ rb) (hvv : v' = v) (ho : OG (Value.int .i64) B 3 w' v' M) (hg : w.grownBy w' (some g)) : LnC B w' rb a b c d v' M :=
  ⟨by subst hvv; unfold RsC; rw [hg.block rb h.lt (fun e => hne (by have h := e; simp at h; omega))]; exact h.box, ho⟩
set_option maxRecDepth 100000 in
set_option maxHeartbeats 3200000 in
theorem heapPush (B rb : Nat) (a b c d v : Value) (L : List Int) (x : Int) (w : World) (h : LnC B w rb a b c d v L) (hB : B ≤ w.heap.size) (hl : L.length < 1000000) :
    Calls Tryz.prog 114 #[.iface 130 (.pointer (some ⟨rb, 4, none⟩)), .iface 3 (.int .i64 x)] w fun e w' => e = .returned (.tuple #[]) ∧ ∃ ng cap, LnC B w' rb a b c d (.slice (some ⟨ng, 0, none⟩) (L.length + 1) cap) (upL (L ++ [x]) L.length) ∧ (v.ownBlock = some ng ∨ ng ≥ w.heap.size) ∧ FrP (LnS rb v) w w' := by
  have HL : Hid (LnC B w rb a b c d v L) := h
  obtain ⟨l, hl0⟩ : ∃ l, L.length = l := ⟨_, rfl⟩
  have HLN : Hid (L.length = l) := hl0
  have CP : Hid _ := lnPush B rb a b c d v L x w h hB hl
  rw [hl0] at hl ⊢
  have m1 := mLnPush w rb 4
  have e1 := entLnPush
  have e2 := entLnLen
  clear h hl0
  go_enter Tryz.func114, Tryz.ntmps114
  go_wp2_with fail
  refine Calls.mono CP.out ?_
  rintro e y ⟨rfl, ng, cap, hy1, hy2, hy3⟩
  clear CP m1
  rw [HLN.out] at hy1
  have HY : Hid (LnC B y rb a b c d (.slice (some ⟨ng, 0, none⟩) (l + 1) cap) (L ++ [x])) := hy1
  have HF : Hid ((v.ownBlock = some ng ∨ ng ≥ w.heap.size) ∧ FrP (LnS rb v) w y) := ⟨hy2, hy3⟩
  have cl := hy1.box.cell
  have m2 := mLnLen y rb 4 _ cl
  have CL : Hid _ := lnLen (some ⟨ng, 0, none⟩) (l + 1) cap y
  have CU : Hid _ := upH B rb ng (l + 1) cap l a b c d (L ++ [x]) y hy1.box hy1.row (by omega) (by omega)
  clear cl hy1 hy2 hy3
  have r1 : ((l + 1 : Nat) : Int) - 1 = (l : Int) := by omega
  go_wp2_with fail
  refine Calls.mono CL.out ?_
  rintro e z ⟨rfl, rfl⟩
  go_wp2_with fail
  refine Calls.mono CU.out ?_
  rintro e z ⟨rfl, hz1, hz2⟩
  have HZ : Hid (LnC B z rb a b c d (.slice (some ⟨ng, 0, none⟩) (l + 1) cap) (upL (L ++ [x]) l) ∧ FrP (LnS rb v) w z) := by
    have hne : ng ≠ rb := fun e => HY.out.ne (by rw [e]; rfl)
    refine ⟨HY.out.of rfl hne rfl hz1 hz2, HF.out.2.tr (FrP.of_grown hz2) (fun q hq e => ?_)⟩
    have e' : ng = q := by simpa using e
    subst e'
    rcases HF.out.1 with e2 | e2
    · exact Or.inr e2
    · omega
  clear CL CU m2 hz1 hz2 HY
  go_wp2
  go_end0
  exact ⟨rfl, _, _, HZ.out.1, HF.out.1, HZ.out.2⟩
end Go.Proofs.YtcoiapgfaibkgaaGreat

namespace Go.Proofs.YtcoiapgfaibkgaaGreat
set_option linter.unusedVariables false
open Go.RowKit
theorem OG.cutD {α : Type} {enc : α → Value} {B e g n cap m : Nat} {w : World} {C : List α} (h : OG enc B e w (.slice (some ⟨g, 0, none⟩) n cap) C) (hm : m ≤ C.length) : OG enc B e w (.slice (some ⟨g, 0, none⟩) m cap) (C.take m) := by
  obtain ⟨h1, h2⟩ := h
  refine ⟨by simp, ?_⟩
  rcases h2 with ⟨e1, _⟩ | ⟨g', cap', cur, e1, h3, h4, h5, h6, h7, h8⟩
  · simp at e1
  · simp only [Value.slice.injEq, Option.some.injEq, Addr.mk.injEq, and_true] at e1
    obtain ⟨rfl, rfl, rfl⟩ := e1
    refine .inr ⟨g, cap, cur, by rw [List.length_take, Nat.min_eq_left hm], h3, h4, by rw [List.length_take]; omega, h6, h7, ?_⟩
    rw [List.length_take, Nat.min_eq_left hm, Nat.mul_one, List.map_take, ← h8, List.take_take, Nat.mul_one, Nat.min_eq_left hm]
set_option maxRecDepth 100000 in
set_option maxHeartbeats 3200000 in
theorem lnPop (B rb g n cap : Nat) (a b c d : Value) (L : List Int) (w : World) (h : LnC B w rb a b c d (.slice (some ⟨g, 0, none⟩) (n + 1) cap) L) (hn : n < 1000000) :
    Calls Tryz.prog 176 #[.pointer (some ⟨rb, 4, none⟩)] w fun e w' => ∃ z, e = .returned (.iface 3 (.int .i64 z)) ∧ LnC B w' rb a b c d (.slice (some ⟨g, 0, none⟩) n cap) (L.take n) ∧ FrP (LnS rb (.slice (some ⟨g, 0, none⟩) (n + 1) cap)) w w' := by
  have hl : L.length = n + 1 := h.row.rg.len
  obtain ⟨hr1, hr2, -⟩ := h.row.rg.room
  unfold maxLen at hr2
  have HR : Hid (LnC B (w.setCell ⟨rb, 4, none⟩ (.slice (some ⟨g, 0, none⟩) n cap)) rb a b c d (.slice (some ⟨g, 0, none⟩) n cap) (L.take n) ∧ FrP (LnS rb (.slice (some ⟨g, 0, none⟩) (n + 1) cap)) w (w.setCell ⟨rb, 4, none⟩ (.slice (some ⟨g, 0, none⟩) n cap))) :=
    ⟨⟨h.box.put _, (h.row.cutD (m := n) (by omega)).of_blocks fun q hq => Below.heap_setCell _ _ _ _ (fun e => h.ne (by have e2 : q = rb := e; rw [← e2]; exact hq))⟩, (FrP.refl _ _).put _ _ (fun _ => Or.inl rfl)⟩
  obtain ⟨z, hz⟩ : ∃ z, L[n]? = some z := ⟨_, List.getElem?_eq_getElem (by omega)⟩
  have ce := (h.row.cell hz).1
  have cl := h.box.cell
  have cf := h.box.thaw 4
  have r1 : ((n + 1 : Nat) : Int) - 1 = (n : Int) := by omega
  have hnz : (n : Int) < ((n + 1 : Nat) : Int) := by omega
  have hnc : (n : Int) ≤ (cap : Int) := by omega
  clear h hz hl
  go_enter Tryz.func176, Tryz.ntmps176
  go_wp2
  go_ret
  exact ⟨_, rfl, HR.out⟩
set_option maxRecDepth 100000 in
set_option maxHeartbeats 3200000 in
theorem heapPop (B rb g n cap : Nat) (a b c d : Value) (L : List Int) (w : World) (h : LnC B w rb a b c d (.slice (some ⟨g, 0, none⟩) (n + 1) cap) L) (hn : n < 1000000) :
    Calls Tryz.prog 116 #[.iface 130 (.pointer (some ⟨rb, 4, none⟩))] w fun e w' => ∃ z, e = .returned (.iface 3 (.int .i64 z)) ∧ LnC B w' rb a b c d (.slice (some ⟨g, 0, none⟩) n cap) ((dnL (swp L 0 n) 0 n).take n) ∧ FrP (LnS rb (.slice (some ⟨g, 0, none⟩) (n + 1) cap)) w w' := by
  have HL : Hid (LnC B w rb a b c d (.slice (some ⟨g, 0, none⟩) (n + 1) cap) L) := h
  have hne : Hid (g ≠ rb) := fun e => h.ne (by rw [e]; rfl)
  have cl := h.box.cell
  have m1 := mLnLen w rb 4 _ cl
  have e1 := entLnLen
  have e2 := entLnSwap
  have e3 := entLnPop
  have CL : Hid _ := lnLen (some ⟨g, 0, none⟩) (n + 1) cap w
  have CS : Hid _ := lnSwap B g (n + 1) cap L 0 n w h.row (by omega) (by omega)
  have r1 : ((n + 1 : Nat) : Int) - 1 = (n : Int) := by omega
  have m2 := mLnSwap w rb 4 _ cl
  clear h cl
  go_enter Tryz.func116, Tryz.ntmps116
  go_wp2_with fail
  refine Calls.mono CL.out ?_
  rintro e z ⟨rfl, rfl⟩
  go_wp2_with fail
  refine Calls.mono CS.out ?_
  rintro e y ⟨rfl, hy1, hy2⟩
  clear CL CS m1 m2
  have HY : Hid (LnC B y rb a b c d (.slice (some ⟨g, 0, none⟩) (n + 1) cap) (swp L 0 n)) := HL.out.of rfl hne.out rfl hy1 hy2
  have HF : Hid (FrP (LnS rb (.slice (some ⟨g, 0, none⟩) (n + 1) cap)) z y) := (FrP.of_grown hy2).mono (fun q _ e => Or.inr e)
  have CD : Hid _ := downH B rb g (n + 1) cap 0 n a b c d (swp L 0 n) y HY.out.box HY.out.row (by omega) (by omega) (by omega)
  clear hy1 hy2 HL
  go_wp2_with fail
  refine Calls.mono CD.out ?_
  rintro e x ⟨r, rfl, hx1, hx2⟩
  clear CD
  have HX : Hid (LnC B x rb a b c d (.slice (some ⟨g, 0, none⟩) (n + 1) cap) (dnL (swp L 0 n) 0 n)) := HY.out.of rfl hne.out rfl hx1 hx2
  have HF2 : Hid (FrP (LnS rb (.slice (some ⟨g, 0, none⟩) (n + 1) cap)) z x) := HF.out.tr (FrP.of_grown hx2) (fun q _ e => Or.inr e)
  have CP : Hid _ := lnPop B rb g n cap a b c d (dnL (swp L 0 n) 0 n) x HX.out hn
  have m3 := mLnPop x rb 4
  clear hx1 hx2 HY HF
  go_wp2_with fail
  refine Calls.mono CP.out ?_
  rintro e u ⟨p, rfl, hu1, hu2⟩
  have HR : Hid (LnC B u rb a b c d (.slice (some ⟨g, 0, none⟩) n cap) ((dnL (swp L 0 n) 0 n).take n) ∧ FrP (LnS rb (.slice (some ⟨g, 0, none⟩) (n + 1) cap)) z u) := ⟨hu1, HF2.out.tr hu2 (fun _ _ e => e)⟩
  clear CP m3 hu1 hu2 HX HF2
  go_wp2
  go_ret
  exact ⟨_, rfl, HR.out⟩
end Go.Proofs.YtcoiapgfaibkgaaGreat

namespace Go.Proofs.YtcoiapgfaibkgaaGreat
set_option linter.unusedVariables false
theorem upL_push {L : List Int} (h : HeapN L L.length) (x : Int) : HeapN (upL (L ++ [x]) L.length) (L.length + 1) := by
  have hg : ∀ i, i < L.length → (L ++ [x]).getD i 0 = L.getD i 0 := fun i hi => by simp [List.getD_eq_getElem?_getD, List.getElem?_append_left hi]
  have h1 := upF_heap L.length (L ++ [x]) L.length (by simp) (Nat.le_refl _) ⟨fun i h0 hi hne => by
    rw [List.length_append, List.length_singleton] at hi
    have hi' : i < L.length := by omega
    rw [hg i hi', hg _ (by omega)]
    exact h i h0 hi', fun c h0 hc he hj => by
    rw [List.length_append, List.length_singleton] at hc
    omega⟩
  rw [List.length_append, List.length_singleton] at h1
  exact h1
theorem upL_perm (L : List Int) (x : Int) : (upL (L ++ [x]) L.length).Perm (L ++ [x]) := upF_perm _ _ _ (by simp)
theorem upL_len (L : List Int) (x : Int) : (upL (L ++ [x]) L.length).length = L.length + 1 := by unfold upL; rw [upF_len]; simp
/-- What is left when the first is taken. -/
def popL (L : List Int) (n : Nat) : List Int := (dnL (swp L 0 n) 0 n).take n
theorem popL_len {L : List Int} {n : Nat} (h : L.length = n + 1) : (popL L n).length = n := by
  unfold popL dnL
  rw [List.length_take, dnF_len, swp_len]
  omega
theorem popL_perm {L : List Int} {n : Nat} (h : L.length = n + 1) : (L.getD 0 0 :: popL L n).Perm L := by
  have h1 : (dnL (swp L 0 n) 0 n).Perm L := (dnF_perm n (swp L 0 n) 0 n (by rw [swp_len]; omega) (by rw [swp_len]; omega)).trans (swp_perm L (by omega) (by omega))
  have hl : (dnL (swp L 0 n) 0 n).length = n + 1 := by unfold dnL; rw [dnF_len, swp_len]; exact h
  have hlast : (dnL (swp L 0 n) 0 n).getD n 0 = L.getD 0 0 := by
    rcases Nat.eq_zero_or_pos n with e | e
    · subst e
      rw [dnL_stop (by omega), swp_get L (by omega) (by omega)]
      simp
    · unfold dnL
      rw [dnF_rest n _ 0 n n e (by rw [swp_len]; omega) (Nat.le_refl _), swp_get L (by omega) (by omega)]
      simp
  have hd : dnL (swp L 0 n) 0 n = popL L n ++ [L.getD 0 0] := by
    unfold popL
    have e1 : (dnL (swp L 0 n) 0 n)[n]? = some (L.getD 0 0) := by
      rw [← hlast, List.getD_eq_getElem?_getD, List.getElem?_eq_getElem (by omega)]; rfl
    have e2 : (dnL (swp L 0 n) 0 n).take (n + 1) = dnL (swp L 0 n) 0 n := List.take_of_length_le (by omega)
    have e3 := List.take_add_one (l := dnL (swp L 0 n) 0 n) (i := n)
    rw [e1, e2] at e3
    exact e3
  rw [hd] at h1
  exact (List.perm_append_comm (l₁ := [L.getD 0 0]) (l₂ := popL L n)).trans h1
theorem popL_heap {L : List Int} {n : Nat} (h : L.length = n + 1) (hh : HeapN L (n + 1)) : HeapN (popL L n) n := by
  have hg : ∀ i, i < n → (popL L n).getD i 0 = (dnL (swp L 0 n) 0 n).getD i 0 := fun i hi => by unfold popL; rw [List.getD_eq_getElem?_getD, List.getD_eq_getElem?_getD, List.getElem?_take_of_lt hi]
  rcases Nat.eq_zero_or_pos n with e | e
  · subst e; intro i h0 hi; omega
  · have h1 : HeapN (dnL (swp L 0 n) 0 n) n := dnF_heap n (swp L 0 n) 0 n e (by rw [swp_len]; omega) (by omega) ⟨fun c h0 hc hne => by
      rw [swp_get L (by omega) (by omega), swp_get L (by omega) (by omega), if_neg (by omega), if_neg hne, if_neg (by omega), if_neg (by omega)]
      exact hh c h0 (by omega), fun c _ _ _ h0 => by omega⟩
    intro i h0 hi
    rw [hg i hi, hg _ (by omega)]
    exact h1 i h0 hi
/-- May a point be put out behind these? -/
def rdy (P : List (List Int)) (T : List Int) (i : Nat) : Prop := (i : Int) ∉ T ∧ ∀ p ∈ P.getD i [], p ∈ T
instance (P : List (List Int)) (T : List Int) (i : Nat) : Decidable (rdy P T i) := by unfold rdy; infer_instance
/-- How many parents of a point are not yet out. -/
def cntW (P : List (List Int)) (T : List Int) (i : Nat) : Nat := (P.getD i []).countP (fun p => decide (p ∉ T))
/-- The next one. -/
def nxtF (P : List (List Int)) (T : List Int) : Option Nat := (List.range P.length).find? (fun i => decide (rdy P T i))
def outF (P : List (List Int)) : Nat → List Int → List Int
  | 0, T => T
  | k + 1, T => match nxtF P T with
    | none => T
    | some i => outF P k (T ++ [(i : Int)])
/-- All that can be put out, in order. -/
def outL (P : List (List Int)) : List Int := outF P P.length []
theorem nxt_some {P : List (List Int)} {T : List Int} {i : Nat} (hi : i < P.length) (h : rdy P T i) (hl : ∀ j, j < i → ¬ rdy P T j) : nxtF P T = some i := by
  unfold nxtF
  rw [List.find?_eq_some_iff_getElem]
  refine ⟨by simpa using h, i, by simpa using hi, by simp, fun j hj => ?_⟩
  simpa using hl j hj
theorem nxt_none {P : List (List Int)} {T : List Int} (h : ∀ i, i < P.length → ¬ rdy P T i) : nxtF P T = none := by
  unfold nxtF
  rw [List.find?_eq_none]
  intro x hx
  simpa using h x (by simpa using hx)
/-- A list of points, none twice. -/
def Pts (n : Nat) (T : List Int) : Prop := T.Nodup ∧ ∀ x ∈ T, 0 ≤ x ∧ x < (n : Int)
theorem Pts.len : ∀ {n : Nat} {T : List Int}, Pts n T → T.length ≤ n
  | 0, T, h => by
    cases T with
    | nil => exact Nat.le_refl _
    | cons x T => have := h.2 x (by simp); omega
  | n + 1, T, h => by
    by_cases hm : (n : Int) ∈ T
    · have h1 : Pts n (T.erase (n : Int)) := ⟨h.1.erase _, fun x hx => by
        have h2 := (List.Nodup.mem_erase_iff h.1).1 hx
        have := h.2 x h2.2
        have := h2.1
        omega⟩
      have := Pts.len h1
      rw [List.length_erase_of_mem hm] at this
      omega
    · have h1 : Pts n T := ⟨h.1, fun x hx => by
        have := h.2 x hx
        have : x ≠ (n : Int) := fun e => hm (e ▸ hx)
        omega⟩
      have := Pts.len h1
      omega
theorem Pts.snoc {n : Nat} {T : List Int} (h : Pts n T) {i : Nat} (hi : i < n) (hn : (i : Int) ∉ T) : Pts n (T ++ [(i : Int)]) := by
  refine ⟨?_, fun x hx => ?_⟩
  · rw [List.nodup_append]
    refine ⟨h.1, by simp, fun a ha b hb e => ?_⟩
    rw [List.mem_singleton] at hb
    subst hb; subst e
    exact hn ha
  · rcases List.mem_append.1 hx with hx | hx
    · exact h.2 x hx
    · rw [List.mem_singleton] at hx; subst hx; omega
theorem out_next {P : List (List Int)} {T : List Int} {i k : Nat} (hT : Pts P.length T) (hi : i < P.length) (h : nxtF P T = some i) (hr : rdy P T i) (hk : k = P.length - T.length) : outF P k T = outF P (k - 1) (T ++ [(i : Int)]) := by
  have h1 := (hT.snoc hi hr.1).len
  rw [List.length_append, List.length_singleton] at h1
  obtain ⟨k', rfl⟩ : ∃ k', k = k' + 1 := ⟨k - 1, by omega⟩
  rw [outF, h]; rfl
theorem out_end {P : List (List Int)} {T : List Int} {k : Nat} (h : nxtF P T = none) : outF P k T = T := by
  cases k with
  | zero => rfl
  | succ k => rw [outF, h]
/-- What takes a point out: its children wait for one less. -/
theorem cnt_step {P : List (List Int)} {T : List Int} {pt i : Nat} (hnd : (P.getD i []).Nodup) (hpt : (pt : Int) ∉ T) : cntW P (T ++ [(pt : Int)]) i + (if (pt : Int) ∈ P.getD i [] then 1 else 0) = cntW P T i := by
  unfold cntW
  generalize P.getD i [] = Q at hnd ⊢
  induction Q with
  | nil => simp
  | cons x Q ih =>
    rw [List.nodup_cons] at hnd
    have ih := ih hnd.2
    rw [List.countP_cons, List.countP_cons]
    by_cases hx : x = (pt : Int)
    · subst hx
      rw [if_neg hnd.1] at ih
      simp [hpt]
      simp at ih
      exact ih
    · have hx' : (pt : Int) ≠ x := fun e => hx e.symm
      by_cases hm : (pt : Int) ∈ Q
      · rw [if_pos hm] at ih
        simp [hx, hx', hm] at ih ⊢
        omega
      · rw [if_neg hm] at ih
        simp [hx, hx', hm] at ih ⊢
        omega
theorem cnt_zero {P : List (List Int)} {T : List Int} {i : Nat} : cntW P T i = 0 ↔ ∀ p ∈ P.getD i [], p ∈ T := by
  unfold cntW
  rw [List.countP_eq_zero]
  simp
theorem cnt_le {P : List (List Int)} {T : List Int} {i : Nat} : cntW P T i ≤ (P.getD i []).length := List.countP_le_length
end Go.Proofs.YtcoiapgfaibkgaaGreat

namespace Go.Proofs.YtcoiapgfaibkgaaGreat
set_option linter.unusedVariables false
/-- A heap that holds just the points of a kind. -/
structure LnOk (n : Nat) (L : List Int) (R : Nat → Prop) : Prop where
  nd : L.Nodup
  hp : HeapN L L.length
  iff : ∀ x, x ∈ L ↔ ∃ i : Nat, i < n ∧ x = (i : Int) ∧ R i
theorem LnOk.nil {n : Nat} {R : Nat → Prop} (h : ∀ i, i < n → ¬ R i) : LnOk n [] R := ⟨List.nodup_nil, fun i _ h => by simp at h, fun x => ⟨fun h => by simp at h, fun ⟨i, h1, _, h3⟩ => absurd h3 (h i h1)⟩⟩
theorem LnOk.congr {n : Nat} {L : List Int} {R R' : Nat → Prop} (h : LnOk n L R) (e : ∀ i, i < n → (R i ↔ R' i)) : LnOk n L R' :=
  ⟨h.nd, h.hp, fun x => (h.iff x).trans ⟨fun ⟨i, h1, h2, h3⟩ => ⟨i, h1, h2, (e i h1).1 h3⟩, fun ⟨i, h1, h2, h3⟩ => ⟨i, h1, h2, (e i h1).2 h3⟩⟩⟩
theorem LnOk.len {n : Nat} {L : List Int} {R : Nat → Prop} (h : LnOk n L R) : L.length ≤ n := Pts.len ⟨h.nd, fun x hx => by obtain ⟨i, h1, rfl, _⟩ := (h.iff x).1 hx; omega⟩
theorem LnOk.push {n : Nat} {L : List Int} {R : Nat → Prop} (h : LnOk n L R) {i : Nat} (hi : i < n) (hn : ¬ R i) : LnOk n (upL (L ++ [(i : Int)]) L.length) (fun j => R j ∨ j = i) := by
  have hp := upL_perm L (i : Int)
  have hni : (i : Int) ∉ L := fun hm => by obtain ⟨j, _, e, hR⟩ := (h.iff _).1 hm; have : j = i := by omega
                                           subst this; exact hn hR
  refine ⟨hp.nodup_iff.2 ?_, ?_, fun x => hp.mem_iff.trans ?_⟩
  · rw [List.nodup_append]
    refine ⟨h.nd, by simp, fun a ha b hb e => ?_⟩
    rw [List.mem_singleton] at hb
    subst hb; subst e
    exact hni ha
  · rw [upL_len]; exact upL_push h.hp _
  · rw [List.mem_append, List.mem_singleton, h.iff]
    constructor
    · rintro (⟨j, h1, h2, h3⟩ | rfl)
      · exact ⟨j, h1, h2, Or.inl h3⟩
      · exact ⟨i, hi, rfl, Or.inr rfl⟩
    · rintro ⟨j, h1, h2, h3 | rfl⟩
      · exact Or.inl ⟨j, h1, h2, h3⟩
      · exact Or.inr h2
theorem LnOk.pop {n m : Nat} {L : List Int} {R : Nat → Prop} (h : LnOk n L R) (hl : L.length = m + 1) : ∃ i : Nat, i < n ∧ L.getD 0 0 = (i : Int) ∧ R i ∧ (∀ j, j < i → ¬ R j) ∧ LnOk n (popL L m) (fun j => R j ∧ j ≠ i) := by
  have hp := popL_perm hl
  have h0 : L.getD 0 0 ∈ L := hp.mem_iff.1 (by simp)
  obtain ⟨i, hi, e, hR⟩ := (h.iff _).1 h0
  have hnd : (L.getD 0 0 :: popL L m).Nodup := hp.nodup_iff.2 h.nd
  rw [List.nodup_cons] at hnd
  refine ⟨i, hi, e, hR, fun j hj hRj => ?_, hnd.2, ?_, fun x => ?_⟩
  · have hm : (j : Int) ∈ L := (h.iff _).2 ⟨j, by omega, rfl, hRj⟩
    obtain ⟨k, hk, ek⟩ := List.getElem_of_mem hm
    have := h.hp.least k hk
    rw [e, List.getD_eq_getElem?_getD, List.getElem?_eq_getElem hk] at this
    simp only [Option.getD_some, ek] at this
    omega
  · rw [popL_len hl]; exact popL_heap hl (hl ▸ h.hp)
  · constructor
    · intro hx
      obtain ⟨j, h1, rfl, h3⟩ := (h.iff x).1 (hp.mem_iff.1 (List.mem_cons_of_mem _ hx))
      exact ⟨j, h1, rfl, h3, fun e2 => hnd.1 (by rw [e, ← e2]; exact hx)⟩
    · rintro ⟨j, h1, rfl, h3, h4⟩
      have hm := hp.mem_iff.2 ((h.iff _).2 ⟨j, h1, rfl, h3⟩)
      rcases List.mem_cons.1 hm with e2 | e2
      · exact absurd (by omega) h4
      · exact e2
/-- What stands in the line while a point's children are gone through. -/
def TkR (P : List (List Int)) (T : List Int) (pt : Nat) (pre : List Int) (i : Nat) : Prop := (rdy P T i ∧ i ≠ pt) ∨ ((i : Int) ∈ pre ∧ rdy P (T ++ [(pt : Int)]) i)
theorem tk_start {P : List (List Int)} {T : List Int} {pt i : Nat} : (rdy P T i ∧ i ≠ pt) ↔ TkR P T pt [] i := by simp [TkR]
theorem tk_yes {P : List (List Int)} {T : List Int} {pt c i : Nat} {pre : List Int} (h : rdy P (T ++ [(pt : Int)]) c) : (TkR P T pt pre i ∨ i = c) ↔ TkR P T pt (pre ++ [(c : Int)]) i := by
  unfold TkR
  rw [List.mem_append, List.mem_singleton]
  constructor
  · rintro ((h1 | h1) | rfl)
    · exact Or.inl h1
    · exact Or.inr ⟨Or.inl h1.1, h1.2⟩
    · exact Or.inr ⟨Or.inr rfl, h⟩
  · rintro (h1 | ⟨h1 | h1, h2⟩)
    · exact Or.inl (Or.inl h1)
    · exact Or.inl (Or.inr ⟨h1, h2⟩)
    · exact Or.inr (by omega)
theorem tk_no {P : List (List Int)} {T : List Int} {pt c i : Nat} {pre : List Int} (h : ¬ rdy P (T ++ [(pt : Int)]) c) : TkR P T pt pre i ↔ TkR P T pt (pre ++ [(c : Int)]) i := by
  unfold TkR
  rw [List.mem_append, List.mem_singleton]
  constructor
  · rintro (h1 | h1)
    · exact Or.inl h1
    · exact Or.inr ⟨Or.inl h1.1, h1.2⟩
  · rintro (h1 | ⟨h1 | h1, h2⟩)
    · exact Or.inl h1
    · exact Or.inr ⟨h1, h2⟩
    · have : i = c := by omega
      subst this; exact absurd h2 h
theorem tk_new {P : List (List Int)} {T : List Int} {pt c : Nat} {pre : List Int} (hm : (pt : Int) ∈ P.getD c []) (hT : (pt : Int) ∉ T) (hp : (c : Int) ∉ pre) : ¬ TkR P T pt pre c := by
  rintro (⟨h, _⟩ | ⟨h, _⟩)
  · exact hT (h.2 _ hm)
  · exact hp h
theorem tk_end {P : List (List Int)} {T : List Int} {pt : Nat} {ch : List Int} (hch : ∀ i : Nat, i < P.length → ((i : Int) ∈ ch ↔ (pt : Int) ∈ P.getD i [])) (hpt : rdy P T pt) {i : Nat} (hi : i < P.length) : TkR P T pt ch i ↔ rdy P (T ++ [(pt : Int)]) i := by
  constructor
  · rintro (⟨h, hne⟩ | ⟨_, h⟩)
    · refine ⟨fun hm => ?_, fun p hp => List.mem_append_left _ (h.2 p hp)⟩
      rcases List.mem_append.1 hm with e | e
      · exact h.1 e
      · rw [List.mem_singleton] at e; omega
    · exact h
  · intro h
    by_cases hm : (pt : Int) ∈ P.getD i []
    · exact Or.inr ⟨(hch i hi).2 hm, h⟩
    · refine Or.inl ⟨⟨fun e => h.1 (List.mem_append_left _ e), fun p hp => ?_⟩, fun e => h.1 (by subst e; simp)⟩
      rcases List.mem_append.1 (h.2 p hp) with e | e
      · exact e
      · rw [List.mem_singleton] at e; subst e; exact absurd hp hm
/-- Who waits for how many while a point's children are gone through. -/
structure WtR (P : List (List Int)) (T : List Int) (pre : List Int) (Wt : List Int) : Prop where
  len : Wt.length = P.length
  at' : ∀ i : Nat, i < P.length → Wt.getD i 0 = (cntW P T i : Int) - (if (i : Int) ∈ pre then 1 else 0)
theorem getD_set {L : List Int} {i j : Nat} {x : Int} (h : i < L.length) : (L.set i x).getD j 0 = if j = i then x else L.getD j 0 := by
  rw [List.getD_eq_getElem?_getD, List.getElem?_set]
  by_cases e : i = j
  · subst e; simp [h]
  · rw [if_neg e, if_neg (fun e2 => e e2.symm), List.getD_eq_getElem?_getD]
theorem WtR.step {P : List (List Int)} {T pre Wt : List Int} (h : WtR P T pre Wt) {c : Nat} (hc : c < P.length) (hp : (c : Int) ∉ pre) : Wt.getD c 0 = (cntW P T c : Int) ∧ WtR P T (pre ++ [(c : Int)]) (Wt.set c ((cntW P T c : Int) - 1)) := by
  have h1 : Wt.getD c 0 = (cntW P T c : Int) := by rw [h.at' c hc, if_neg hp]; omega
  refine ⟨h1, by rw [List.length_set]; exact h.len, fun i hi => ?_⟩
  rw [getD_set (by rw [h.len]; exact hc)]
  by_cases e : i = c
  · subst e; rw [if_pos rfl, if_pos (by simp)]
  · rw [if_neg e, h.at' i hi]
    have : ((i : Int) ∈ pre ++ [(c : Int)]) ↔ ((i : Int) ∈ pre) := by
      rw [List.mem_append, List.mem_singleton]
      exact ⟨fun h => h.resolve_right (by omega), Or.inl⟩
    simp only [this]
theorem WtR.done {P : List (List Int)} {T ch Wt : List Int} {pt : Nat} (h : WtR P T ch Wt) (hch : ∀ i : Nat, i < P.length → ((i : Int) ∈ ch ↔ (pt : Int) ∈ P.getD i [])) (hnd : ∀ i, (P.getD i []).Nodup) (hpt : (pt : Int) ∉ T) : WtR P (T ++ [(pt : Int)]) [] Wt :=
  ⟨h.len, fun i hi => by
    have := cnt_step (P := P) (T := T) (pt := pt) (hnd i) hpt
    rw [h.at' i hi]
    simp only [hch i hi]
    split at this <;> simp_all <;> omega⟩
theorem rdy_zero {P : List (List Int)} {T : List Int} {pt c : Nat} (hnd : (P.getD c []).Nodup) (hm : (pt : Int) ∈ P.getD c []) (hpt : (pt : Int) ∉ T) : rdy P (T ++ [(pt : Int)]) c ↔ ((cntW P T c : Int) - 1 = 0 ∧ (c : Int) ∉ T ++ [(pt : Int)]) := by
  have h1 := cnt_step (P := P) (T := T) (pt := pt) hnd hpt
  rw [if_pos hm] at h1
  unfold rdy
  rw [← cnt_zero]
  constructor
  · rintro ⟨a, b⟩; exact ⟨by omega, a⟩
  · rintro ⟨a, b⟩; exact ⟨b, by omega⟩
end Go.Proofs.YtcoiapgfaibkgaaGreat

namespace Go.Proofs.YtcoiapgfaibkgaaGreat
set_option linter.unusedVariables false
open Go.RowKit
/-- Rows of rows that can be read. -/
structure RRD (w : World) (v : Value) (pvs : List Value) (P : List (List Int)) : Prop where
  out : RG id w v pvs
  len : pvs.length = P.length
  inn : ∀ (i : Nat) (x : Value), pvs[i]? = some x → RG (Value.int .i64) w x (P.getD i [])
theorem RRD.below {B : Nat} {w w' : World} {v : Value} {pvs : List Value} {P : List (List Int)} (h : RRD w v pvs P) (hB : w.heap.size ≤ B) (hb : Below B w w') : RRD w' v pvs P :=
  ⟨h.out.below hB hb, h.len, fun i x hx => (h.inn i x hx).below hB hb⟩
/-- Those of the first points that hang on one. -/
def chF (P : List (List Int)) (j i : Nat) : List Int := ((List.range i).filter (fun q => decide ((j : Int) ∈ P.getD q []))).map Int.ofNat
/-- While point i's first k parents are gone through. -/
def chK (P : List (List Int)) (i k j : Nat) : List Int := chF P j i ++ if (j : Int) ∈ (P.getD i []).take k then [(i : Int)] else []
theorem chK_zero (P : List (List Int)) (i j : Nat) : chK P i 0 j = chF P j i := by simp [chK]
theorem chF_succ (P : List (List Int)) (i j : Nat) : chF P j (i + 1) = chF P j i ++ if (j : Int) ∈ P.getD i [] then [(i : Int)] else [] := by
  unfold chF
  rw [List.range_succ, List.filter_append, List.map_append]
  by_cases h : (j : Int) ∈ P.getD i []
  · rw [if_pos h]; simp only [List.filter_cons, List.filter_nil, decide_eq_true h, if_true, List.map_cons, List.map_nil]; rfl
  · rw [if_neg h]; simp only [List.filter_cons, List.filter_nil, decide_eq_false h, Bool.false_eq_true, if_false, List.map_nil]
theorem chK_end (P : List (List Int)) {i k : Nat} (j : Nat) (h : (P.getD i []).length ≤ k) : chK P i k j = chF P j (i + 1) := by
  rw [chF_succ, chK, List.take_of_length_le h]
theorem chF_len (P : List (List Int)) (j i : Nat) : (chF P j i).length ≤ i := by
  unfold chF
  rw [List.length_map]
  exact Nat.le_trans (List.length_filter_le _ _) (by simp)
theorem chK_step {P : List (List Int)} {i k p : Nat} (hnd : (P.getD i []).Nodup) (hk : (P.getD i [])[k]? = some (p : Int)) (j : Nat) : chK P i (k + 1) j = if j = p then chK P i k j ++ [(i : Int)] else chK P i k j := by
  unfold chK
  have hlt : k < (P.getD i []).length := (List.getElem?_eq_some_iff.1 hk).1
  have e1 : (P.getD i []).take (k + 1) = (P.getD i []).take k ++ [(p : Int)] := by rw [List.take_add_one, hk]; rfl
  have hn : (p : Int) ∉ (P.getD i []).take k := by
    intro hm
    have h2 : ((P.getD i []).take (k + 1)).Nodup := hnd.sublist (List.take_sublist _ _)
    rw [e1, List.nodup_append] at h2
    exact h2.2.2 _ hm _ (by simp) rfl
  rw [e1]
  by_cases h : j = p
  · subst h; rw [if_pos (by simp), if_pos rfl, if_neg hn]; simp
  · rw [if_neg h]
    have : ((j : Int) ∈ (P.getD i []).take k ++ [(p : Int)]) ↔ ((j : Int) ∈ (P.getD i []).take k) := by
      rw [List.mem_append, List.mem_singleton]
      exact ⟨fun h2 => h2.resolve_right (by omega), Or.inl⟩
    simp only [this]
/-- Rows of rows of the call's own, apart from one another. -/
structure TuC (B : Nat) (w W : World) (g n : Nat) (cvs : List Value) (C : Nat → List Int) : Prop where
  frm : Below B w W
  row : OG id B 23 W (.slice (some ⟨g, 0, none⟩) n n) cvs
  inn : ∀ (j : Nat) (v : Value), cvs[j]? = some v → OG (Value.int .i64) B 3 W v (C j)
  apt : ∀ (i j : Nat) (u v : Value), i ≠ j → cvs[i]? = some u → cvs[j]? = some v → ∀ q, u.ownBlock = some q → v.ownBlock ≠ some q
theorem TuC.len {B : Nat} {w W : World} {g n : Nat} {cvs : List Value} {C : Nat → List Int} (h : TuC B w W g n cvs C) : cvs.length = n := h.row.rg.len
theorem TuC.congr {B : Nat} {w W : World} {g n : Nat} {cvs : List Value} {C C' : Nat → List Int} (h : TuC B w W g n cvs C) (e : ∀ j, C j = C' j) : TuC B w W g n cvs C' :=
  ⟨h.frm, h.row, fun j v hv => by rw [← e j]; exact h.inn j v hv, h.apt⟩
theorem OG.blockE {α : Type} {enc : α → Value} {B e : Nat} {w : World} {v : Value} {L : List α} (h : OG enc B e w v L) {q : Nat} (hq : v.ownBlock = some q) : ∃ cs, w.heap[q]? = some (.cells cs e (0, 0)) := by
  rcases h.2 with ⟨rfl, h0⟩ | ⟨g', cap, cur, rfl, h3, h4, h5⟩
  · simp [Value.ownBlock] at hq
  · have e1 : g' = q := by simpa [Value.ownBlock] using hq
    subst e1; exact ⟨_, h4⟩
theorem OG.neO {α β : Type} {enc : α → Value} {enc' : β → Value} {B B' e e' : Nat} {w : World} {u v : Value} {L : List α} {M : List β} (h : OG enc B e w u L) (h' : OG enc' B' e' w v M) (hne : e ≠ e') {q : Nat} (hq : u.ownBlock = some q) : v.ownBlock ≠ some q := fun hv => by
  obtain ⟨cs, hc⟩ := h'.blockE hv
  exact h.neT hc hne hq
theorem TuC.mid {B : Nat} {w W W1 W2 : World} {g n : Nat} {cvs : List Value} {C : Nat → List Int} (h : TuC B w W g n cvs C) {p : Nat} {v : Value} (hp : cvs[p]? = some v) (b1 : Below W.heap.size W W1) (hg : W1.grownBy W2 v.ownBlock) : OG id B 23 W2 (.slice (some ⟨g, 0, none⟩) n n) cvs := by
  have hv := h.inn p v hp
  have hgl := h.row.lt g rfl
  refine h.row.of_blocks fun q hq => ?_
  have e1 : g = q := by simpa [Value.ownBlock] using hq
  subst e1
  rw [hg.block _ (Nat.lt_of_lt_of_le hgl.2 b1.size) (fun e => hv.neO h.row (by decide) e.symm rfl), b1.block _ hgl.2]
theorem TuC.put {B : Nat} {w W W1 W2 : World} {g n : Nat} {cvs : List Value} {C : Nat → List Int} (h : TuC B w W g n cvs C) (hB : B ≤ W.heap.size) {p : Nat} {v : Value} (hp : cvs[p]? = some v) {x : Int} {ng m cap : Nat} (b1 : Below W.heap.size W W1) (ho : OG (Value.int .i64) B 3 W2 (.slice (some ⟨ng, 0, none⟩) m cap) (C p ++ [x])) (hg : W1.grownBy W2 v.ownBlock) (hn : v.ownBlock = some ng ∨ ng = W1.heap.size) :
    TuC B w (W2.setCell ⟨g, p, none⟩ (.slice (some ⟨ng, 0, none⟩) m cap)) g n (cvs.set p (.slice (some ⟨ng, 0, none⟩) m cap)) (fun j => if j = p then C j ++ [x] else C j) := by
  have hl := h.len
  have hpl : p < cvs.length := (List.getElem?_eq_some_iff.1 hp).1
  have hv := h.inn p v hp
  have hgl := h.row.lt g rfl
  have hrow1 := h.mid hp b1 hg
  have hset := hrow1.set hl p (.slice (some ⟨ng, 0, none⟩) m cap)
  have hnew : ∀ (j : Nat) (u : Value), j ≠ p → cvs[j]? = some u → u.ownBlock ≠ some ng := fun j u hj hu e => by
    rcases hn with e2 | e2
    · exact h.apt j p u v hj hu hp ng e e2
    · have := ((h.inn j u hu).lt ng e).2
      have := b1.size
      omega
  refine ⟨?_, hset.1, fun j u hu => ?_, fun i j u u' hij hu hu' q hq => ?_⟩
  · have k1 : Below B W W2 := ⟨hg.os.trans b1.os, hg.tape.trans b1.tape, hg.output.trans b1.output, Nat.le_trans b1.size hg.size, fun q hq => by
      rw [hg.block q (Nat.lt_of_lt_of_le (Nat.lt_of_lt_of_le hq hB) b1.size) (fun e => by have := (hv.lt q e.symm).1; omega), b1.block q (Nat.lt_of_lt_of_le hq hB)]⟩
    exact (h.frm.trans k1).setCell (p := ⟨g, p, none⟩) hgl.1 _
  · rw [List.getElem?_set] at hu
    by_cases e : p = j
    · subst e
      rw [if_pos rfl, if_pos hpl] at hu
      simp only [Option.some.injEq] at hu
      subst hu
      rw [if_pos rfl]
      refine ho.of_blocks fun q hq => Below.heap_setCell _ _ _ _ (fun e2 => ?_)
      have e3 : q = g := e2
      subst e3
      exact ho.neO hrow1 (by decide) hq rfl
    · rw [if_neg e] at hu
      rw [if_neg (fun e2 => e e2.symm)]
      have hu1 := h.inn j u hu
      refine hu1.of_blocks fun q hq => ?_
      have hq2 := (hu1.lt q hq).2
      rw [Below.heap_setCell _ _ _ _ (fun e2 => hu1.neO h.row (by decide) hq (by have e3 : q = g := e2; rw [e3]; rfl)), hg.block q (Nat.lt_of_lt_of_le hq2 b1.size) (fun e2 => h.apt j p u v (fun e3 => e e3.symm) hu hp q hq e2.symm), b1.block q hq2]
  · rw [List.getElem?_set] at hu hu'
    by_cases e : p = i
    · subst e
      rw [if_pos rfl, if_pos hpl] at hu
      rw [if_neg hij] at hu'
      simp only [Option.some.injEq] at hu
      subst hu
      have e1 : ng = q := by simpa [Value.ownBlock] using hq
      subst e1
      exact hnew j u' (fun e2 => hij e2.symm) hu'
    · rw [if_neg e] at hu
      by_cases e2 : p = j
      · subst e2
        rw [if_pos rfl, if_pos hpl] at hu'
        simp only [Option.some.injEq] at hu'
        subst hu'
        intro e3
        have e4 : ng = q := by simpa [Value.ownBlock] using e3
        subst e4
        exact hnew i u hij hu hq
      · rw [if_neg e2] at hu'
        exact h.apt i j u u' hij hu hu' q hq
end Go.Proofs.YtcoiapgfaibkgaaGreat

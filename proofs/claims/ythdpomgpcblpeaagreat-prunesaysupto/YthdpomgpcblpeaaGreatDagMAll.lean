/-
  Proved here: the line's Push: a point behind the others.
  Proved here: container/heap's Push over a line of points.
  Proved here: container/heap's Pop over a line of points.
  Proved here, plain mathematics: points put out one by one, always the least that waits for none; the heap's push and pop; what a taken point changes.
-/
import Derived.Test.YthdpomgpcblpeaaGreatDagDAll
import Derived.Deep.AppendLies
import Derived.Test.YthdpomgpcblpeaaGreatHeapMathAll
namespace Go.Proofs.YthdpomgpcblpeaaGreat
set_option linter.unusedVariables false
open Go.RowKit
/-- All stands but for some blocks and what is new. -/
structure FrP (S : Nat → Prop) (w w' : World) : Prop where
  os : w'.os = w.os
  tape : w'.tape = w.tape
  output : w'.output = w.output
  size : w.heap.size ≤ w'.heap.size
  block : ∀ q, q < w.heap.size → ¬ S q → w'.heap[q]? = w.heap[q]?
theorem FrP.refl (S : Nat → Prop) (w : World) : FrP S w w := ⟨rfl, rfl, rfl, Nat.le_refl _, fun _ _ _ => rfl⟩
theorem FrP.tr {S S' : Nat → Prop} {w w' w'' : World} (h : FrP S w w') (h2 : FrP S' w' w'') (hs : ∀ q, q < w.heap.size → S' q → S q) : FrP S w w'' :=
  ⟨h2.os.trans h.os, h2.tape.trans h.tape, h2.output.trans h.output, Nat.le_trans h.size h2.size, fun q hq hn => (h2.block q (Nat.lt_of_lt_of_le hq h.size) (fun e => hn (hs q hq e))).trans (h.block q hq hn)⟩
theorem FrP.mono {S S' : Nat → Prop} {w w' : World} (h : FrP S w w') (hs : ∀ q, q < w.heap.size → S q → S' q) : FrP S' w w' := ⟨h.os, h.tape, h.output, h.size, fun q hq hn => h.block q hq (fun e => hn (hs q hq e))⟩
theorem FrP.of_below {S : Nat → Prop} {w w' : World} (h : Below w.heap.size w w') : FrP S w w' := ⟨h.os, h.tape, h.output, h.size, fun q hq _ => h.block q hq⟩
theorem FrP.of_grown {w w' : World} {r : Option Nat} (h : w.grownBy w' r) : FrP (fun q => r = some q) w w' := ⟨h.os, h.tape, h.output, h.size, fun q hq hn => h.block q hq (fun e => hn e.symm)⟩
theorem FrP.below {S : Nat → Prop} {B : Nat} {w w' : World} (h : FrP S w w') (hB : B ≤ w.heap.size) (hs : ∀ q, S q → B ≤ q) : Below B w w' := ⟨h.os, h.tape, h.output, h.size, fun q hq => h.block q (Nat.lt_of_lt_of_le hq hB) (fun e => Nat.not_lt.2 (hs q e) hq)⟩
theorem FrP.put {S : Nat → Prop} {w w' : World} (h : FrP S w w') (a : Addr) (v : Value) (ha : a.block < w.heap.size → S a.block) : FrP S w (w'.setCell a v) :=
  ⟨h.os, h.tape, h.output, by rw [World.size_setCell]; exact h.size, fun q hq hn => by rw [Below.heap_setCell _ _ _ _ (fun e => hn (by rw [e]; exact ha (by rw [← e]; exact hq)))]; exact h.block q hq hn⟩
/-- What the line's calls may write. -/
def LnS (rb : Nat) (v : Value) (q : Nat) : Prop := q = rb ∨ v.ownBlock = some q
/-- The box of what is left, and its line. -/
structure LnC (B : Nat) (w : World) (rb : Nat) (a b c d v : Value) (L : List Int) : Prop where
  box : RsC w rb a b c d v
  row : OG (Value.int .i64) B 3 w v L
theorem RsC.thaw {w : World} {rb : Nat} {a b c d v : Value} (h : RsC w rb a b c d v) (j : Nat) : w.frozen? ⟨rb, j, none⟩ = false := by
  unfold RsC at h
  simp [World.frozen?, h]
theorem RsC.put {w : World} {rb : Nat} {a b c d v : Value} (h : RsC w rb a b c d v) (u : Value) : RsC (w.setCell ⟨rb, 4, none⟩ u) rb a b c d u := by
  unfold RsC
  rw [heap_setCell_same _ rb 4 _ _ _ h]; rfl
theorem LnC.lt {B : Nat} {w : World} {rb : Nat} {a b c d v : Value} {L : List Int} (h : LnC B w rb a b c d v L) : rb < w.heap.size := h.box.lt
theorem LnC.ne {B : Nat} {w : World} {rb : Nat} {a b c d v : Value} {L : List Int} (h : LnC B w rb a b c d v L) : v.ownBlock ≠ some rb := h.row.neT h.box (by decide)
theorem want_yesD {o : Oper} {ys : Nat → Option Bool} {A B : Prop} (hg : o.guard = none) (h : A) : if Region.wanted o ys = true then A else B := by
  rw [if_pos (by simp [Region.wanted, hg])]; exact h
set_option maxRecDepth 100000 in
set_option maxHeartbeats 3200000 in
theorem lnPush (B0 rb : Nat) (a b c d v : Value) (L : List Int) (x : Int) (w : World) (h : LnC B0 w rb a b c d v L) (hB : B0 ≤ w.heap.size) (hl : L.length < 1000000) :
    Calls Tryz.prog 151 #[.pointer (some ⟨rb, 4, none⟩), .iface 3 (.int .i64 x)] w fun e w' => e = .returned (.tuple #[]) ∧ ∃ ng cap, LnC B0 w' rb a b c d (.slice (some ⟨ng, 0, none⟩) (L.length + 1) cap) (L ++ [x]) ∧ (v.ownBlock = some ng ∨ ng ≥ w.heap.size) ∧ FrP (LnS rb v) w w' := by
  obtain ⟨i0, hi, hz0, hz1, hz2⟩ := info_parts Tryz.infoI
  have HL : Hid (LnC B0 w rb a b c d v L) := h
  obtain ⟨l, hl0⟩ : ∃ l, L.length = l := ⟨_, rfl⟩
  have HLN : Hid (L.length = l) := hl0
  rw [hl0] at hl ⊢
  have c4 := h.box.cell
  obtain ⟨vo, vn, vc, rfl⟩ : ∃ o n k, v = .slice o n k := by obtain ⟨ao, cap, e⟩ := h.row.rg.sl; exact ⟨_, _, _, e⟩
  clear h hl0
  go_enter Tryz.func151, Tryz.ntmps151
  go_upto_region 0 with fail
  have KEEP : ∀ u, Below w.heap.size w u → L4.AllL u [(4, fun w' => w'.cell? ⟨rb, 4, none⟩ = some (.slice vo vn vc))] := fun u hu => ⟨keepR hu c4, trivial⟩
  refine L4.region_late [(4, fun w' => w'.cell? ⟨rb, 4, none⟩ = some (.slice vo vn vc))] (by kernel_rfl) ?_
  have B : Below w.heap.size w w.drew := (Below.refl _ _).drew
  obtain ⟨w1, hw1⟩ : ∃ u, u = w.drew := ⟨_, rfl⟩
  rw [← hw1] at B ⊢
  clear hw1
  have hHeld := KEEP _ B
  refine L4.late_free 0 (v := .pointer (some ⟨rb, 4, none⟩)) rfl (by kernel_rfl) (by kernel_rfl) (by kernel_rfl) (by kernel_rfl) (by kernel_rfl) (by kernel_rfl) (fun _ _ _ h => h) (Or.inl ⟨by rfl, ?_⟩) hHeld ?_
  · (intro u _; go_simp)
  (try simp only [Act.put, List.setIfInBounds_toArray, List.set_cons_zero, List.set_cons_succ])
  refine L4.late_free 1 (v := .pointer (some ⟨rb, 4, none⟩)) rfl (by kernel_rfl) (by kernel_rfl) (by kernel_rfl) (by kernel_rfl) (by kernel_rfl) (by kernel_rfl) (fun _ _ _ h => h) (Or.inl ⟨by rfl, ?_⟩) hHeld ?_
  · (intro u _; go_simp)
  (try simp only [Act.put, List.setIfInBounds_toArray, List.set_cons_zero, List.set_cons_succ])
  refine L4.late_free 2 (v := .pointer (some ⟨rb, 4, none⟩)) rfl (by kernel_rfl) (by kernel_rfl) (by kernel_rfl) (by kernel_rfl) (by kernel_rfl) (by kernel_rfl) (fun _ _ _ h => h) (Or.inl ⟨by rfl, ?_⟩) hHeld ?_
  · (intro u _; go_simp)
  (try simp only [Act.put, List.setIfInBounds_toArray, List.set_cons_zero, List.set_cons_succ])
  refine L4.late_free 3 (v := .pointer (some ⟨rb, 4, none⟩)) rfl (by kernel_rfl) (by kernel_rfl) (by kernel_rfl) (by kernel_rfl) (by kernel_rfl) (by kernel_rfl) (fun _ _ _ h => h) (Or.inl ⟨by rfl, ?_⟩) hHeld ?_
  · (intro u _; go_simp)
  (try simp only [Act.put, List.setIfInBounds_toArray, List.set_cons_zero, List.set_cons_succ])
  refine L4.late_take 4 (v := .slice vo vn vc) rfl (by kernel_rfl) (List.Mem.head _) (by kernel_rfl) (by kernel_rfl) (by kernel_rfl) (by kernel_rfl) (fun _ _ _ h => h) (Or.inl ⟨by rfl, ?_⟩) hHeld ?_
  · (intro u hu; (try dsimp only at hu); go_split_ands; go_simp)
  (try simp only [Act.put, List.setIfInBounds_toArray, List.set_cons_zero, List.set_cons_succ])
  refine L4.late_free 5 (v := .iface 3 (.int .i64 x)) rfl (by kernel_rfl) (by kernel_rfl) (by kernel_rfl) (by kernel_rfl) (by kernel_rfl) (by kernel_rfl) (fun _ _ _ h => h) (Or.inl ⟨by rfl, ?_⟩) hHeld ?_
  · (intro u _; go_simp)
  (try simp only [Act.put, List.setIfInBounds_toArray, List.set_cons_zero, List.set_cons_succ])
  refine L4.late_free 6 (v := .int .i64 x) rfl (by kernel_rfl) (by kernel_rfl) (by kernel_rfl) (by kernel_rfl) (by kernel_rfl) (by kernel_rfl) (fun _ _ _ h => h) (Or.inl ⟨by rfl, ?_⟩) hHeld ?_
  · (intro u _; (try go_simp); rfl)
  (try simp only [Act.put, List.setIfInBounds_toArray, List.set_cons_zero, List.set_cons_succ])
  refine L4.late_step 7 (by kernel_rfl) rfl (fun K hK => ?_)
  go_simp
  obtain ⟨y2, hy2⟩ : ∃ u, u = w1.alloc (.cells #[.int .i64 x] 3) := ⟨_, rfl⟩
  obtain ⟨gb, hgb⟩ : ∃ u, u = w1.heap.size := ⟨_, rfl⟩
  rw [← hy2, ← hgb]
  have c2 : Below w1.heap.size w1 y2 := by rw [hy2]; exact belowB _ _
  have cb : y2.cell? ⟨gb, 0, none⟩ = some (.int .i64 x) := by rw [hy2, hgb, World.cell?_alloc_at _ _ _ _ rfl]; rfl
  clear hy2 hgb
  have B := B.trans (c2.mono B.size)
  clear c2 hHeld
  have hHeld := KEEP _ B
  refine hK.out _ _ (L4.AllL.kept hHeld) ?_
  clear hK K
  (try simp only [Act.put, List.setIfInBounds_toArray, List.set_cons_zero, List.set_cons_succ])
  refine L4.late_step 8 (by kernel_rfl) rfl (fun K hK => ?_)
  refine want_yesD rfl ?_
  have hown := HL.out.row.below B
  have hown' : y2.ownsRow B0 3 1 (.slice vo vn vc) l (L.map (Value.int .i64)) := by have := hown; unfold OG at this; rw [HLN.out] at this; exact this
  refine wp_append_lies _ _ _ 101 rfl B0 3 i0 (.int .i64 0) 1 8 Tryz.underlying101 hi hz0 hz1 hz2 rfl (by decide) (.slice vo vn vc) l _ rfl hown' ⟨gb, 0, none⟩ 1 1 [.int .i64 x] rfl rfl (fun j u hj => by match j, hj with | 0, hj => simp at hj; subst hj; rw [Addr.add_lit, Nat.add_zero]; exact cb) (by simp [Value.oneCell']) (by decide) (by unfold maxLen; omega) (by omega) (Nat.le_trans hB B.size) _ rfl ?_
  intro ng ncap y3 ho2 hg2 hgg hlt9
  have HO2 : Hid (OG (Value.int .i64) B0 3 y3 (.slice (some ⟨ng, 0, none⟩) (l + 1) ncap) (L ++ [x])) := by show OG _ _ _ _ _ _; unfold OG; rw [List.length_append, HLN.out, List.map_append]; exact ho2
  have HNG : Hid ((Value.slice vo vn vc).ownBlock = some ng ∨ ng ≥ w.heap.size) := hgg.elim Or.inl (fun e => Or.inr (by rw [e]; exact B.size))
  have HBX : Hid (RsC y3 rb a b c d (.slice vo vn vc)) := by show RsC _ _ _ _ _ _ _; unfold RsC; rw [hg2.block rb (Nat.lt_of_lt_of_le HL.out.lt B.size) (fun e => HL.out.ne e.symm), B.block rb HL.out.lt]; exact HL.out.box
  have HFR : Hid (FrP (LnS rb (.slice vo vn vc)) w y3) := (FrP.of_below B).tr (FrP.of_grown hg2) (fun q _ e => Or.inr e)
  have cr9 := HBX.out.cell
  clear hHeld hown hown' ho2 hg2 hgg hlt9 B cb
  have hHeld : L4.AllL y3 [(4, fun w' => w'.cell? ⟨rb, 4, none⟩ = some (.slice vo vn vc))] := ⟨cr9, trivial⟩
  refine hK.out _ _ (L4.AllL.kept hHeld) ?_
  clear hK K
  (try simp only [Act.put, List.setIfInBounds_toArray, List.set_cons_zero, List.set_cons_succ])
  refine L4.late_free 9 (v := .pointer (some ⟨rb, 4, none⟩)) rfl (by kernel_rfl) (by kernel_rfl) (by kernel_rfl) (by kernel_rfl) (by kernel_rfl) (by kernel_rfl) (fun _ _ _ h => h) (Or.inl ⟨by rfl, ?_⟩) hHeld ?_
  · (intro u _; go_simp)
  (try simp only [Act.put, List.setIfInBounds_toArray, List.set_cons_zero, List.set_cons_succ])
  refine L4.late_free 10 (v := .pointer (some ⟨rb, 4, none⟩)) rfl (by kernel_rfl) (by kernel_rfl) (by kernel_rfl) (by kernel_rfl) (by kernel_rfl) (by kernel_rfl) (fun _ _ _ h => h) (Or.inl ⟨by rfl, ?_⟩) hHeld ?_
  · (intro u _; go_simp)
  (try simp only [Act.put, List.setIfInBounds_toArray, List.set_cons_zero, List.set_cons_succ])
  refine L4.late_step 11 (by kernel_rfl) rfl (fun K hK => ?_)
  have f9 := HBX.out.thaw 4
  go_simp
  refine hK.out _ _ ⟨Or.inl ⟨11, by kernel_rfl, by kernel_rfl⟩, trivial⟩ ?_
  clear hK K
  (try simp only [Act.put, List.setIfInBounds_toArray, List.set_cons_zero, List.set_cons_succ])
  refine L4.late_done (by kernel_rfl) ?_ _
  have HR : Hid (LnC B0 (y3.setCell ⟨rb, 4, none⟩ (.slice (some ⟨ng, 0, none⟩) (l + 1) ncap)) rb a b c d (.slice (some ⟨ng, 0, none⟩) (l + 1) ncap) (L ++ [x]) ∧ FrP (LnS rb (.slice vo vn vc)) w (y3.setCell ⟨rb, 4, none⟩ (.slice (some ⟨ng, 0, none⟩) (l + 1) ncap))) := by
    refine ⟨⟨HBX.out.put _, HO2.out.of_blocks fun q hq => Below.heap_setCell _ _ _ _ (fun e => HO2.out.neT HBX.out (by decide) (by rw [hq, e]))⟩, HFR.out.put _ _ (fun _ => Or.inl rfl)⟩
  clear HO2 HBX HFR cr9 f9 KEEP
  go_wp2
  go_end0
  exact ⟨rfl, _, _, HR.out.1, HNG.out, HR.out.2⟩
end Go.Proofs.YthdpomgpcblpeaaGreat

namespace Go.Proofs.YthdpomgpcblpeaaGreat
set_option linter.unusedVariables false
open Go.RowKit
theorem LnC.of {B : Nat} {w w' : World} {rb : Nat} {a b c d v v' : Value} {L M : List Int} (h : LnC B w rb a b c d v L) {g : Nat} (hv : v'.ownBlock = some g) (hne : g ≠ rb) (hvv : v' = v) (ho : OG (Value.int .i64) B 3 w' v' M) (hg : w.grownBy w' (some g)) : LnC B w' rb a b c d v' M :=
  ⟨by subst hvv; unfold RsC; rw [hg.block rb h.lt (fun e => hne (by have h := e; simp at h; omega))]; exact h.box, ho⟩
set_option maxRecDepth 100000 in
set_option maxHeartbeats 3200000 in
theorem heapPush (B rb : Nat) (a b c d v : Value) (L : List Int) (x : Int) (w : World) (h : LnC B w rb a b c d v L) (hB : B ≤ w.heap.size) (hl : L.length < 1000000) :
    Calls Tryz.prog 82 #[.iface 107 (.pointer (some ⟨rb, 4, none⟩)), .iface 3 (.int .i64 x)] w fun e w' => e = .returned (.tuple #[]) ∧ ∃ ng cap, LnC B w' rb a b c d (.slice (some ⟨ng, 0, none⟩) (L.length + 1) cap) (upL (L ++ [x]) L.length) ∧ (v.ownBlock = some ng ∨ ng ≥ w.heap.size) ∧ FrP (LnS rb v) w w' := by
  have HL : Hid (LnC B w rb a b c d v L) := h
  obtain ⟨l, hl0⟩ : ∃ l, L.length = l := ⟨_, rfl⟩
  have HLN : Hid (L.length = l) := hl0
  have CP : Hid _ := lnPush B rb a b c d v L x w h hB hl
  rw [hl0] at hl ⊢
  have m1 := mLnPush w rb 4
  have e1 := entLnPush
  have e2 := entLnLen
  clear h hl0
  go_enter Tryz.func82, Tryz.ntmps82
  go_wp2_with fail
  refine Calls.mono CP.out ?_
  rintro e y ⟨rfl, ng, cap, hy1, hy2, hy3⟩
  clear CP m1
  rw [HLN.out] at hy1
  have HY : Hid (LnC B y rb a b c d (.slice (some ⟨ng, 0, none⟩) (l + 1) cap) (L ++ [x])) := hy1
  have HF : Hid ((v.ownBlock = some ng ∨ ng ≥ w.heap.size) ∧ FrP (LnS rb v) w y) := ⟨hy2, hy3⟩
  have cl := hy1.box.cell
  have m2 := mLnLen y rb 4 _ cl
  have CL : Hid _ := lnLen (some ⟨ng, 0, none⟩) (l + 1) cap y
  have CU : Hid _ := upH B rb ng (l + 1) cap l a b c d (L ++ [x]) y hy1.box hy1.row (by omega) (by omega)
  clear cl hy1 hy2 hy3
  have r1 : ((l + 1 : Nat) : Int) - 1 = (l : Int) := by omega
  go_wp2_with fail
  refine Calls.mono CL.out ?_
  rintro e z ⟨rfl, rfl⟩
  go_wp2_with fail
  refine Calls.mono CU.out ?_
  rintro e z ⟨rfl, hz1, hz2⟩
  have HZ : Hid (LnC B z rb a b c d (.slice (some ⟨ng, 0, none⟩) (l + 1) cap) (upL (L ++ [x]) l) ∧ FrP (LnS rb v) w z) := by
    have hne : ng ≠ rb := fun e => HY.out.ne (by rw [e]; rfl)
    refine ⟨HY.out.of rfl hne rfl hz1 hz2, HF.out.2.tr (FrP.of_grown hz2) (fun q hq e => ?_)⟩
    have e' : ng = q := by simpa using e
    subst e'
    rcases HF.out.1 with e2 | e2
    · exact Or.inr e2
    · omega
  clear CL CU m2 hz1 hz2 HY
  go_wp2
  go_end0
  exact ⟨rfl, _, _, HZ.out.1, HF.out.1, HZ.out.2⟩
end Go.Proofs.YthdpomgpcblpeaaGreat

namespace Go.Proofs.YthdpomgpcblpeaaGreat
set_option linter.unusedVariables false
open Go.RowKit
theorem OG.cutD {α : Type} {enc : α → Value} {B e g n cap m : Nat} {w : World} {C : List α} (h : OG enc B e w (.slice (some ⟨g, 0, none⟩) n cap) C) (hm : m ≤ C.length) : OG enc B e w (.slice (some ⟨g, 0, none⟩) m cap) (C.take m) := by
  obtain ⟨h1, h2⟩ := h
  refine ⟨by simp, ?_⟩
  rcases h2 with ⟨e1, _⟩ | ⟨g', cap', cur, e1, h3, h4, h5, h6, h7, h8⟩
  · simp at e1
  · simp only [Value.slice.injEq, Option.some.injEq, Addr.mk.injEq, and_true] at e1
    obtain ⟨rfl, rfl, rfl⟩ := e1
    refine .inr ⟨g, cap, cur, by rw [List.length_take, Nat.min_eq_left hm], h3, h4, by rw [List.length_take]; omega, h6, h7, ?_⟩
    rw [List.length_take, Nat.min_eq_left hm, Nat.mul_one, List.map_take, ← h8, List.take_take, Nat.mul_one, Nat.min_eq_left hm]
set_option maxRecDepth 100000 in
set_option maxHeartbeats 3200000 in
theorem lnPop (B rb g n cap : Nat) (a b c d : Value) (L : List Int) (w : World) (h : LnC B w rb a b c d (.slice (some ⟨g, 0, none⟩) (n + 1) cap) L) (hn : n < 1000000) :
    Calls Tryz.prog 150 #[.pointer (some ⟨rb, 4, none⟩)] w fun e w' => ∃ z, e = .returned (.iface 3 (.int .i64 z)) ∧ LnC B w' rb a b c d (.slice (some ⟨g, 0, none⟩) n cap) (L.take n) ∧ FrP (LnS rb (.slice (some ⟨g, 0, none⟩) (n + 1) cap)) w w' := by
  have hl : L.length = n + 1 := h.row.rg.len
  obtain ⟨hr1, hr2, -⟩ := h.row.rg.room
  unfold maxLen at hr2
  have HR : Hid (LnC B (w.setCell ⟨rb, 4, none⟩ (.slice (some ⟨g, 0, none⟩) n cap)) rb a b c d (.slice (some ⟨g, 0, none⟩) n cap) (L.take n) ∧ FrP (LnS rb (.slice (some ⟨g, 0, none⟩) (n + 1) cap)) w (w.setCell ⟨rb, 4, none⟩ (.slice (some ⟨g, 0, none⟩) n cap))) :=
    ⟨⟨h.box.put _, (h.row.cutD (m := n) (by omega)).of_blocks fun q hq => Below.heap_setCell _ _ _ _ (fun e => h.ne (by have e2 : q = rb := e; rw [← e2]; exact hq))⟩, (FrP.refl _ _).put _ _ (fun _ => Or.inl rfl)⟩
  obtain ⟨z, hz⟩ : ∃ z, L[n]? = some z := ⟨_, List.getElem?_eq_getElem (by omega)⟩
  have ce := (h.row.cell hz).1
  have cl := h.box.cell
  have cf := h.box.thaw 4
  have r1 : ((n + 1 : Nat) : Int) - 1 = (n : Int) := by omega
  have hnz : (n : Int) < ((n + 1 : Nat) : Int) := by omega
  have hnc : (n : Int) ≤ (cap : Int) := by omega
  clear h hz hl
  go_enter Tryz.func150, Tryz.ntmps150
  go_wp2
  go_ret
  exact ⟨_, rfl, HR.out⟩
set_option maxRecDepth 100000 in
set_option maxHeartbeats 3200000 in
theorem heapPop (B rb g n cap : Nat) (a b c d : Value) (L : List Int) (w : World) (h : LnC B w rb a b c d (.slice (some ⟨g, 0, none⟩) (n + 1) cap) L) (hn : n < 1000000) :
    Calls Tryz.prog 84 #[.iface 107 (.pointer (some ⟨rb, 4, none⟩))] w fun e w' => ∃ z, e = .returned (.iface 3 (.int .i64 z)) ∧ LnC B w' rb a b c d (.slice (some ⟨g, 0, none⟩) n cap) ((dnL (swp L 0 n) 0 n).take n) ∧ FrP (LnS rb (.slice (some ⟨g, 0, none⟩) (n + 1) cap)) w w' := by
  have HL : Hid (LnC B w rb a b c d (.slice (some ⟨g, 0, none⟩) (n + 1) cap) L) := h
  have hne : Hid (g ≠ rb) := fun e => h.ne (by rw [e]; rfl)
  have cl := h.box.cell
  have m1 := mLnLen w rb 4 _ cl
  have e1 := entLnLen
  have e2 := entLnSwap
  have e3 := entLnPop
  have CL : Hid _ := lnLen (some ⟨g, 0, none⟩) (n + 1) cap w
  have CS : Hid _ := lnSwap B g (n + 1) cap L 0 n w h.row (by omega) (by omega)
  have r1 : ((n + 1 : Nat) : Int) - 1 = (n : Int) := by omega
  have m2 := mLnSwap w rb 4 _ cl
  clear h cl
  go_enter Tryz.func84, Tryz.ntmps84
  go_wp2_with fail
  refine Calls.mono CL.out ?_
  rintro e z ⟨rfl, rfl⟩
  go_wp2_with fail
  refine Calls.mono CS.out ?_
  rintro e y ⟨rfl, hy1, hy2⟩
  clear CL CS m1 m2
  have HY : Hid (LnC B y rb a b c d (.slice (some ⟨g, 0, none⟩) (n + 1) cap) (swp L 0 n)) := HL.out.of rfl hne.out rfl hy1 hy2
  have HF : Hid (FrP (LnS rb (.slice (some ⟨g, 0, none⟩) (n + 1) cap)) z y) := (FrP.of_grown hy2).mono (fun q _ e => Or.inr e)
  have CD : Hid _ := downH B rb g (n + 1) cap 0 n a b c d (swp L 0 n) y HY.out.box HY.out.row (by omega) (by omega) (by omega)
  clear hy1 hy2 HL
  go_wp2_with fail
  refine Calls.mono CD.out ?_
  rintro e x ⟨r, rfl, hx1, hx2⟩
  clear CD
  have HX : Hid (LnC B x rb a b c d (.slice (some ⟨g, 0, none⟩) (n + 1) cap) (dnL (swp L 0 n) 0 n)) := HY.out.of rfl hne.out rfl hx1 hx2
  have HF2 : Hid (FrP (LnS rb (.slice (some ⟨g, 0, none⟩) (n + 1) cap)) z x) := HF.out.tr (FrP.of_grown hx2) (fun q _ e => Or.inr e)
  have CP : Hid _ := lnPop B rb g n cap a b c d (dnL (swp L 0 n) 0 n) x HX.out hn
  have m3 := mLnPop x rb 4
  clear hx1 hx2 HY HF
  go_wp2_with fail
  refine Calls.mono CP.out ?_
  rintro e u ⟨p, rfl, hu1, hu2⟩
  have HR : Hid (LnC B u rb a b c d (.slice (some ⟨g, 0, none⟩) n cap) ((dnL (swp L 0 n) 0 n).take n) ∧ FrP (LnS rb (.slice (some ⟨g, 0, none⟩) (n + 1) cap)) z u) := ⟨hu1, HF2.out.tr hu2 (fun _ _ e => e)⟩
  clear CP m3 hu1 hu2 HX HF2
  go_wp2
  go_ret
  exact ⟨_, rfl, HR.out⟩
end Go.Proofs.YthdpomgpcblpeaaGreat

namespace Go.Proofs.YthdpomgpcblpeaaGreat
set_option linter.unusedVariables false
theorem upL_push {L : List Int} (h : HeapN L L.length) (x : Int) : HeapN (upL (L ++ [x]) L.length) (L.length + 1) := by
  have hg : ∀ i, i < L.length → (L ++ [x]).getD i 0 = L.getD i 0 := fun i hi => by simp [List.getD_eq_getElem?_getD, List.getElem?_append_left hi]
  have h1 := upF_heap L.length (L ++ [x]) L.length (by simp) (Nat.le_refl _) ⟨fun i h0 hi hne => by
    rw [List.length_append, List.length_singleton] at hi
    have hi' : i < L.length := by omega
    rw [hg i hi', hg _ (by omega)]
    exact h i h0 hi', fun c h0 hc he hj => by
    rw [List.length_append, List.length_singleton] at hc
    omega⟩
  rw [List.length_append, List.length_singleton] at h1
  exact h1
theorem upL_perm (L : List Int) (x : Int) : (upL (L ++ [x]) L.length).Perm (L ++ [x]) := upF_perm _ _ _ (by simp)
theorem upL_len (L : List Int) (x : Int) : (upL (L ++ [x]) L.length).length = L.length + 1 := by unfold upL; rw [upF_len]; simp
/-- What is left when the first is taken. -/
def popL (L : List Int) (n : Nat) : List Int := (dnL (swp L 0 n) 0 n).take n
theorem popL_len {L : List Int} {n : Nat} (h : L.length = n + 1) : (popL L n).length = n := by
  unfold popL dnL
  rw [List.length_take, dnF_len, swp_len]
  omega
theorem popL_perm {L : List Int} {n : Nat} (h : L.length = n + 1) : (L.getD 0 0 :: popL L n).Perm L := by
  have h1 : (dnL (swp L 0 n) 0 n).Perm L := (dnF_perm n (swp L 0 n) 0 n (by rw [swp_len]; omega) (by rw [swp_len]; omega)).trans (swp_perm L (by omega) (by omega))
  have hl : (dnL (swp L 0 n) 0 n).length = n + 1 := by unfold dnL; rw [dnF_len, swp_len]; exact h
  have hlast : (dnL (swp L 0 n) 0 n).getD n 0 = L.getD 0 0 := by
    rcases Nat.eq_zero_or_pos n with e | e
    · subst e
      rw [dnL_stop (by omega), swp_get L (by omega) (by omega)]
      simp
    · unfold dnL
      rw [dnF_rest n _ 0 n n e (by rw [swp_len]; omega) (Nat.le_refl _), swp_get L (by omega) (by omega)]
      simp
  have hd : dnL (swp L 0 n) 0 n = popL L n ++ [L.getD 0 0] := by
    unfold popL
    have e1 : (dnL (swp L 0 n) 0 n)[n]? = some (L.getD 0 0) := by
      rw [← hlast, List.getD_eq_getElem?_getD, List.getElem?_eq_getElem (by omega)]; rfl
    have e2 : (dnL (swp L 0 n) 0 n).take (n + 1) = dnL (swp L 0 n) 0 n := List.take_of_length_le (by omega)
    have e3 := List.take_add_one (l := dnL (swp L 0 n) 0 n) (i := n)
    rw [e1, e2] at e3
    exact e3
  rw [hd] at h1
  exact (List.perm_append_comm (l₁ := [L.getD 0 0]) (l₂ := popL L n)).trans h1
theorem popL_heap {L : List Int} {n : Nat} (h : L.length = n + 1) (hh : HeapN L (n + 1)) : HeapN (popL L n) n := by
  have hg : ∀ i, i < n → (popL L n).getD i 0 = (dnL (swp L 0 n) 0 n).getD i 0 := fun i hi => by unfold popL; rw [List.getD_eq_getElem?_getD, List.getD_eq_getElem?_getD, List.getElem?_take_of_lt hi]
  rcases Nat.eq_zero_or_pos n with e | e
  · subst e; intro i h0 hi; omega
  · have h1 : HeapN (dnL (swp L 0 n) 0 n) n := dnF_heap n (swp L 0 n) 0 n e (by rw [swp_len]; omega) (by omega) ⟨fun c h0 hc hne => by
      rw [swp_get L (by omega) (by omega), swp_get L (by omega) (by omega), if_neg (by omega), if_neg hne, if_neg (by omega), if_neg (by omega)]
      exact hh c h0 (by omega), fun c _ _ _ h0 => by omega⟩
    intro i h0 hi
    rw [hg i hi, hg _ (by omega)]
    exact h1 i h0 hi
/-- May a point be put out behind these? -/
def rdy (P : List (List Int)) (T : List Int) (i : Nat) : Prop := (i : Int) ∉ T ∧ ∀ p ∈ P.getD i [], p ∈ T
instance (P : List (List Int)) (T : List Int) (i : Nat) : Decidable (rdy P T i) := by unfold rdy; infer_instance
/-- How many parents of a point are not yet out. -/
def cntW (P : List (List Int)) (T : List Int) (i : Nat) : Nat := (P.getD i []).countP (fun p => decide (p ∉ T))
/-- The next one. -/
def nxtF (P : List (List Int)) (T : List Int) : Option Nat := (List.range P.length).find? (fun i => decide (rdy P T i))
def outF (P : List (List Int)) : Nat → List Int → List Int
  | 0, T => T
  | k + 1, T => match nxtF P T with
    | none => T
    | some i => outF P k (T ++ [(i : Int)])
/-- All that can be put out, in order. -/
def outL (P : List (List Int)) : List Int := outF P P.length []
theorem nxt_some {P : List (List Int)} {T : List Int} {i : Nat} (hi : i < P.length) (h : rdy P T i) (hl : ∀ j, j < i → ¬ rdy P T j) : nxtF P T = some i := by
  unfold nxtF
  rw [List.find?_eq_some_iff_getElem]
  refine ⟨by simpa using h, i, by simpa using hi, by simp, fun j hj => ?_⟩
  simpa using hl j hj
theorem nxt_none {P : List (List Int)} {T : List Int} (h : ∀ i, i < P.length → ¬ rdy P T i) : nxtF P T = none := by
  unfold nxtF
  rw [List.find?_eq_none]
  intro x hx
  simpa using h x (by simpa using hx)
/-- A list of points, none twice. -/
def Pts (n : Nat) (T : List Int) : Prop := T.Nodup ∧ ∀ x ∈ T, 0 ≤ x ∧ x < (n : Int)
theorem Pts.len : ∀ {n : Nat} {T : List Int}, Pts n T → T.length ≤ n
  | 0, T, h => by
    cases T with
    | nil => exact Nat.le_refl _
    | cons x T => have := h.2 x (by simp); omega
  | n + 1, T, h => by
    by_cases hm : (n : Int) ∈ T
    · have h1 : Pts n (T.erase (n : Int)) := ⟨h.1.erase _, fun x hx => by
        have h2 := (List.Nodup.mem_erase_iff h.1).1 hx
        have := h.2 x h2.2
        have := h2.1
        omega⟩
      have := Pts.len h1
      rw [List.length_erase_of_mem hm] at this
      omega
    · have h1 : Pts n T := ⟨h.1, fun x hx => by
        have := h.2 x hx
        have : x ≠ (n : Int) := fun e => hm (e ▸ hx)
        omega⟩
      have := Pts.len h1
      omega
theorem Pts.snoc {n : Nat} {T : List Int} (h : Pts n T) {i : Nat} (hi : i < n) (hn : (i : Int) ∉ T) : Pts n (T ++ [(i : Int)]) := by
  refine ⟨?_, fun x hx => ?_⟩
  · rw [List.nodup_append]
    refine ⟨h.1, by simp, fun a ha b hb e => ?_⟩
    rw [List.mem_singleton] at hb
    subst hb; subst e
    exact hn ha
  · rcases List.mem_append.1 hx with hx | hx
    · exact h.2 x hx
    · rw [List.mem_singleton] at hx; subst hx; omega
theorem out_next {P : List (List Int)} {T : List Int} {i k : Nat} (hT : Pts P.length T) (hi : i < P.length) (h : nxtF P T = some i) (hr : rdy P T i) (hk : k = P.length - T.length) : outF P k T = outF P (k - 1) (T ++ [(i : Int)]) := by
  have h1 := (hT.snoc hi hr.1).len
  rw [List.length_append, List.length_singleton] at h1
  obtain ⟨k', rfl⟩ : ∃ k', k = k' + 1 := ⟨k - 1, by omega⟩
  rw [outF, h]; rfl
theorem out_end {P : List (List Int)} {T : List Int} {k : Nat} (h : nxtF P T = none) : outF P k T = T := by
  cases k with
  | zero => rfl
  | succ k => rw [outF, h]
/-- What takes a point out: its children wait for one less. -/
theorem cnt_step {P : List (List Int)} {T : List Int} {pt i : Nat} (hnd : (P.getD i []).Nodup) (hpt : (pt : Int) ∉ T) : cntW P (T ++ [(pt : Int)]) i + (if (pt : Int) ∈ P.getD i [] then 1 else 0) = cntW P T i := by
  unfold cntW
  generalize P.getD i [] = Q at hnd ⊢
  induction Q with
  | nil => simp
  | cons x Q ih =>
    rw [List.nodup_cons] at hnd
    have ih := ih hnd.2
    rw [List.countP_cons, List.countP_cons]
    by_cases hx : x = (pt : Int)
    · subst hx
      rw [if_neg hnd.1] at ih
      simp [hpt]
      simp at ih
      exact ih
    · have hx' : (pt : Int) ≠ x := fun e => hx e.symm
      by_cases hm : (pt : Int) ∈ Q
      · rw [if_pos hm] at ih
        simp [hx, hx', hm] at ih ⊢
        omega
      · rw [if_neg hm] at ih
        simp [hx, hx', hm] at ih ⊢
        omega
theorem cnt_zero {P : List (List Int)} {T : List Int} {i : Nat} : cntW P T i = 0 ↔ ∀ p ∈ P.getD i [], p ∈ T := by
  unfold cntW
  rw [List.countP_eq_zero]
  simp
theorem cnt_le {P : List (List Int)} {T : List Int} {i : Nat} : cntW P T i ≤ (P.getD i []).length := List.countP_le_length
end Go.Proofs.YthdpomgpcblpeaaGreat

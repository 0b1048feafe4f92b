/-
  Proved here: the line's Push: a point behind the others.
-/
import Derived.Test.YtcadljpdokhpmaaDagD
import Derived.Deep.AppendLies
namespace Go.Proofs.Ytcadljpdokhpmaa
set_option linter.unusedVariables false
open Go.RowKit
/-- All stands but for some blocks and what is new. -/
structure FrP (S : Nat → Prop) (w w' : World) : Prop where
  os : w'.os = w.os
  tape : w'.tape = w.tape
  output : w'.output = w.output
  size : w.heap.size ≤ w'.heap.size
  block : ∀ q, q < w.heap.size → ¬ S q → w'.heap[q]? = w.heap[q]?
theorem FrP.refl (S : Nat → Prop) (w : World) : FrP S w w := ⟨rfl, rfl, rfl, Nat.le_refl _, fun _ _ _ => rfl⟩
theorem FrP.tr {S S' : Nat → Prop} {w w' w'' : World} (h : FrP S w w') (h2 : FrP S' w' w'') (hs : ∀ q, q < w.heap.size → S' q → S q) : FrP S w w'' :=
  ⟨h2.os.trans h.os, h2.tape.trans h.tape, h2.output.trans h.output, Nat.le_trans h.size h2.size, fun q hq hn => (h2.block q (Nat.lt_of_lt_of_le hq h.size) (fun e => hn (hs q hq e))).trans (h.block q hq hn)⟩
theorem FrP.mono {S S' : Nat → Prop} {w w' : World} (h : FrP S w w') (hs : ∀ q, q < w.heap.size → S q → S' q) : FrP S' w w' := ⟨h.os, h.tape, h.output, h.size, fun q hq hn => h.block q hq (fun e => hn (hs q hq e))⟩
theorem FrP.of_below {S : Nat → Prop} {w w' : World} (h : Below w.heap.size w w') : FrP S w w' := ⟨h.os, h.tape, h.output, h.size, fun q hq _ => h.block q hq⟩
theorem FrP.of_grown {w w' : World} {r : Option Nat} (h : w.grownBy w' r) : FrP (fun q => r = some q) w w' := ⟨h.os, h.tape, h.output, h.size, fun q hq hn => h.block q hq (fun e => hn e.symm)⟩
theorem FrP.below {S : Nat → Prop} {B : Nat} {w w' : World} (h : FrP S w w') (hB : B ≤ w.heap.size) (hs : ∀ q, S q → B ≤ q) : Below B w w' := ⟨h.os, h.tape, h.output, h.size, fun q hq => h.block q (Nat.lt_of_lt_of_le hq hB) (fun e => Nat.not_lt.2 (hs q e) hq)⟩
theorem FrP.put {S : Nat → Prop} {w w' : World} (h : FrP S w w') (a : Addr) (v : Value) (ha : a.block < w.heap.size → S a.block) : FrP S w (w'.setCell a v) :=
  ⟨h.os, h.tape, h.output, by rw [World.size_setCell]; exact h.size, fun q hq hn => by rw [Below.heap_setCell _ _ _ _ (fun e => hn (by rw [e]; exact ha (by rw [← e]; exact hq)))]; exact h.block q hq hn⟩
/-- What the line's calls may write. -/
def LnS (rb : Nat) (v : Value) (q : Nat) : Prop := q = rb ∨ v.ownBlock = some q
/-- The box of what is left, and its line. -/
structure LnC (B : Nat) (w : World) (rb : Nat) (a b c d v : Value) (L : List Int) : Prop where
  box : RsC w rb a b c d v
  row : OG (Value.int .i64) B 3 w v L
theorem RsC.thaw {w : World} {rb : Nat} {a b c d v : Value} (h : RsC w rb a b c d v) (j : Nat) : w.frozen? ⟨rb, j, none⟩ = false := by
  unfold RsC at h
  simp [World.frozen?, h]
theorem RsC.put {w : World} {rb : Nat} {a b c d v : Value} (h : RsC w rb a b c d v) (u : Value) : RsC (w.setCell ⟨rb, 4, none⟩ u) rb a b c d u := by
  unfold RsC
  rw [heap_setCell_same _ rb 4 _ _ _ h]; rfl
theorem LnC.lt {B : Nat} {w : World} {rb : Nat} {a b c d v : Value} {L : List Int} (h : LnC B w rb a b c d v L) : rb < w.heap.size := h.box.lt
theorem LnC.ne {B : Nat} {w : World} {rb : Nat} {a b c d v : Value} {L : List Int} (h : LnC B w rb a b c d v L) : v.ownBlock ≠ some rb := h.row.neT h.box (by decide)
theorem want_yesD {o : Oper} {ys : Nat → Option Bool} {A B : Prop} (hg : o.guard = none) (h : A) : if Region.wanted o ys = true then A else B := by
  rw [if_pos (by simp [Region.wanted, hg])]; exact h
set_option maxRecDepth 100000 in
set_option maxHeartbeats 3200000 in
theorem lnPush (B0 rb : Nat) (a b c d v : Value) (L : List Int) (x : Int) (w : World) (h : LnC B0 w rb a b c d v L) (hB : B0 ≤ w.heap.size) (hl : L.length < 1000000) :
    Calls Try.prog 82 #[.pointer (some ⟨rb, 4, none⟩), .iface 3 (.int .i64 x)] w fun e w' => e = .returned (.tuple #[]) ∧ ∃ ng cap, LnC B0 w' rb a b c d (.slice (some ⟨ng, 0, none⟩) (L.length + 1) cap) (L ++ [x]) ∧ (v.ownBlock = some ng ∨ ng ≥ w.heap.size) ∧ FrP (LnS rb v) w w' := by
  obtain ⟨i0, hi, hz0, hz1, hz2⟩ := info_parts Try.infoI
  have HL : Hid (LnC B0 w rb a b c d v L) := h
  obtain ⟨l, hl0⟩ : ∃ l, L.length = l := ⟨_, rfl⟩
  have HLN : Hid (L.length = l) := hl0
  rw [hl0] at hl ⊢
  have c4 := h.box.cell
  obtain ⟨vo, vn, vc, rfl⟩ : ∃ o n k, v = .slice o n k := by obtain ⟨ao, cap, e⟩ := h.row.rg.sl; exact ⟨_, _, _, e⟩
  clear h hl0
  go_enter Try.func82, Try.ntmps82
  go_upto_region 0 with fail
  have KEEP : ∀ u, Below w.heap.size w u → L4.AllL u [(4, fun w' => w'.cell? ⟨rb, 4, none⟩ = some (.slice vo vn vc))] := fun u hu => ⟨keepR hu c4, trivial⟩
  refine L4.region_late [(4, fun w' => w'.cell? ⟨rb, 4, none⟩ = some (.slice vo vn vc))] (by kernel_rfl) ?_
  have B : Below w.heap.size w w.drew := (Below.refl _ _).drew
  obtain ⟨w1, hw1⟩ : ∃ u, u = w.drew := ⟨_, rfl⟩
  rw [← hw1] at B ⊢
  clear hw1
  have hHeld := KEEP _ B
  refine L4.late_free 0 (v := .pointer (some ⟨rb, 4, none⟩)) rfl (by kernel_rfl) (by kernel_rfl) (by kernel_rfl) (by kernel_rfl) (by kernel_rfl) (by kernel_rfl) (fun _ _ _ h => h) (Or.inl ⟨by rfl, ?_⟩) hHeld ?_
  · (intro u _; go_simp)
  (try simp only [Act.put, List.setIfInBounds_toArray, List.set_cons_zero, List.set_cons_succ])
  refine L4.late_free 1 (v := .pointer (some ⟨rb, 4, none⟩)) rfl (by kernel_rfl) (by kernel_rfl) (by kernel_rfl) (by kernel_rfl) (by kernel_rfl) (by kernel_rfl) (fun _ _ _ h => h) (Or.inl ⟨by rfl, ?_⟩) hHeld ?_
  · (intro u _; go_simp)
  (try simp only [Act.put, List.setIfInBounds_toArray, List.set_cons_zero, List.set_cons_succ])
  refine L4.late_free 2 (v := .pointer (some ⟨rb, 4, none⟩)) rfl (by kernel_rfl) (by kernel_rfl) (by kernel_rfl) (by kernel_rfl) (by kernel_rfl) (by kernel_rfl) (fun _ _ _ h => h) (Or.inl ⟨by rfl, ?_⟩) hHeld ?_
  · (intro u _; go_simp)
  (try simp only [Act.put, List.setIfInBounds_toArray, List.set_cons_zero, List.set_cons_succ])
  refine L4.late_free 3 (v := .pointer (some ⟨rb, 4, none⟩)) rfl (by kernel_rfl) (by kernel_rfl) (by kernel_rfl) (by kernel_rfl) (by kernel_rfl) (by kernel_rfl) (fun _ _ _ h => h) (Or.inl ⟨by rfl, ?_⟩) hHeld ?_
  · (intro u _; go_simp)
  (try simp only [Act.put, List.setIfInBounds_toArray, List.set_cons_zero, List.set_cons_succ])
  refine L4.late_take 4 (v := .slice vo vn vc) rfl (by kernel_rfl) (List.Mem.head _) (by kernel_rfl) (by kernel_rfl) (by kernel_rfl) (by kernel_rfl) (fun _ _ _ h => h) (Or.inl ⟨by rfl, ?_⟩) hHeld ?_
  · (intro u hu; (try dsimp only at hu); go_split_ands; go_simp)
  (try simp only [Act.put, List.setIfInBounds_toArray, List.set_cons_zero, List.set_cons_succ])
  refine L4.late_free 5 (v := .iface 3 (.int .i64 x)) rfl (by kernel_rfl) (by kernel_rfl) (by kernel_rfl) (by kernel_rfl) (by kernel_rfl) (by kernel_rfl) (fun _ _ _ h => h) (Or.inl ⟨by rfl, ?_⟩) hHeld ?_
  · (intro u _; go_simp)
  (try simp only [Act.put, List.setIfInBounds_toArray, List.set_cons_zero, List.set_cons_succ])
  refine L4.late_free 6 (v := .int .i64 x) rfl (by kernel_rfl) (by kernel_rfl) (by kernel_rfl) (by kernel_rfl) (by kernel_rfl) (by kernel_rfl) (fun _ _ _ h => h) (Or.inl ⟨by rfl, ?_⟩) hHeld ?_
  · (intro u _; (try go_simp); rfl)
  (try simp only [Act.put, List.setIfInBounds_toArray, List.set_cons_zero, List.set_cons_succ])
  refine L4.late_step 7 (by kernel_rfl) rfl (fun K hK => ?_)
  go_simp
  obtain ⟨y2, hy2⟩ : ∃ u, u = w1.alloc (.cells #[.int .i64 x] 3) := ⟨_, rfl⟩
  obtain ⟨gb, hgb⟩ : ∃ u, u = w1.heap.size := ⟨_, rfl⟩
  rw [← hy2, ← hgb]
  have c2 : Below w1.heap.size w1 y2 := by rw [hy2]; exact belowB _ _
  have cb : y2.cell? ⟨gb, 0, none⟩ = some (.int .i64 x) := by rw [hy2, hgb, World.cell?_alloc_at _ _ _ _ rfl]; rfl
  clear hy2 hgb
  have B := B.trans (c2.mono B.size)
  clear c2 hHeld
  have hHeld := KEEP _ B
  refine hK.out _ _ (L4.AllL.kept hHeld) ?_
  clear hK K
  (try simp only [Act.put, List.setIfInBounds_toArray, List.set_cons_zero, List.set_cons_succ])
  refine L4.late_step 8 (by kernel_rfl) rfl (fun K hK => ?_)
  refine want_yesD rfl ?_
  have hown := HL.out.row.below B
  have hown' : y2.ownsRow B0 3 1 (.slice vo vn vc) l (L.map (Value.int .i64)) := by have := hown; unfold OG at this; rw [HLN.out] at this; exact this
  refine wp_append_lies _ _ _ 66 rfl B0 3 i0 (.int .i64 0) 1 8 Try.underlying66 hi hz0 hz1 hz2 rfl (by decide) (.slice vo vn vc) l _ rfl hown' ⟨gb, 0, none⟩ 1 1 [.int .i64 x] rfl rfl (fun j u hj => by match j, hj with | 0, hj => simp at hj; subst hj; rw [Addr.add_lit, Nat.add_zero]; exact cb) (by simp [Value.oneCell']) (by decide) (by unfold maxLen; omega) (by omega) (Nat.le_trans hB B.size) _ rfl ?_
  intro ng ncap y3 ho2 hg2 hgg hlt9
  have HO2 : Hid (OG (Value.int .i64) B0 3 y3 (.slice (some ⟨ng, 0, none⟩) (l + 1) ncap) (L ++ [x])) := by show OG _ _ _ _ _ _; unfold OG; rw [List.length_append, HLN.out, List.map_append]; exact ho2
  have HNG : Hid ((Value.slice vo vn vc).ownBlock = some ng ∨ ng ≥ w.heap.size) := hgg.elim Or.inl (fun e => Or.inr (by rw [e]; exact B.size))
  have HBX : Hid (RsC y3 rb a b c d (.slice vo vn vc)) := by show RsC _ _ _ _ _ _ _; unfold RsC; rw [hg2.block rb (Nat.lt_of_lt_of_le HL.out.lt B.size) (fun e => HL.out.ne e.symm), B.block rb HL.out.lt]; exact HL.out.box
  have HFR : Hid (FrP (LnS rb (.slice vo vn vc)) w y3) := (FrP.of_below B).tr (FrP.of_grown hg2) (fun q _ e => Or.inr e)
  have cr9 := HBX.out.cell
  clear hHeld hown hown' ho2 hg2 hgg hlt9 B cb
  have hHeld : L4.AllL y3 [(4, fun w' => w'.cell? ⟨rb, 4, none⟩ = some (.slice vo vn vc))] := ⟨cr9, trivial⟩
  refine hK.out _ _ (L4.AllL.kept hHeld) ?_
  clear hK K
  (try simp only [Act.put, List.setIfInBounds_toArray, List.set_cons_zero, List.set_cons_succ])
  refine L4.late_free 9 (v := .pointer (some ⟨rb, 4, none⟩)) rfl (by kernel_rfl) (by kernel_rfl) (by kernel_rfl) (by kernel_rfl) (by kernel_rfl) (by kernel_rfl) (fun _ _ _ h => h) (Or.inl ⟨by rfl, ?_⟩) hHeld ?_
  · (intro u _; go_simp)
  (try simp only [Act.put, List.setIfInBounds_toArray, List.set_cons_zero, List.set_cons_succ])
  refine L4.late_free 10 (v := .pointer (some ⟨rb, 4, none⟩)) rfl (by kernel_rfl) (by kernel_rfl) (by kernel_rfl) (by kernel_rfl) (by kernel_rfl) (by kernel_rfl) (fun _ _ _ h => h) (Or.inl ⟨by rfl, ?_⟩) hHeld ?_
  · (intro u _; go_simp)
  (try simp only [Act.put, List.setIfInBounds_toArray, List.set_cons_zero, List.set_cons_succ])
  refine L4.late_step 11 (by kernel_rfl) rfl (fun K hK => ?_)
  have f9 := HBX.out.thaw 4
  go_simp
  refine hK.out _ _ ⟨Or.inl ⟨11, by kernel_rfl, by kernel_rfl⟩, trivial⟩ ?_
  clear hK K
  (try simp only [Act.put, List.setIfInBounds_toArray, List.set_cons_zero, List.set_cons_succ])
  refine L4.late_done (by kernel_rfl) ?_ _
  have HR : Hid (LnC B0 (y3.setCell ⟨rb, 4, none⟩ (.slice (some ⟨ng, 0, none⟩) (l + 1) ncap)) rb a b c d (.slice (some ⟨ng, 0, none⟩) (l + 1) ncap) (L ++ [x]) ∧ FrP (LnS rb (.slice vo vn vc)) w (y3.setCell ⟨rb, 4, none⟩ (.slice (some ⟨ng, 0, none⟩) (l + 1) ncap))) := by
    refine ⟨⟨HBX.out.put _, HO2.out.of_blocks fun q hq => Below.heap_setCell _ _ _ _ (fun e => HO2.out.neT HBX.out (by decide) (by rw [hq, e]))⟩, HFR.out.put _ _ (fun _ => Or.inl rfl)⟩
  clear HO2 HBX HFR cr9 f9 KEEP
  go_wp2
  go_end0
  exact ⟨rfl, _, _, HR.out.1, HNG.out, HR.out.2⟩
end Go.Proofs.Ytcadljpdokhpmaa

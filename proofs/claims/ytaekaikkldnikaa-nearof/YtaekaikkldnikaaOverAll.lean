/-
  Proved here: what the document's Of answers of a float that is no number; what SameRat answers.
  Proved here: what over answers: a number written over in its place, and what it is now in memory of its own.
-/
import Derived.Test.YtaekaikkldnikaaNearRO
import Derived.Test.YtaekaikkldnikaaNearRNAll
import Derived.WalkLawsBesides
import Derived.Test.YtaekaikkldnikaaFam
import Derived.Test.YtaekaikkldnikaaNearKAll
import Derived.Test.YtaekaikkldnikaaShiftMathAll
namespace Go.Proofs.Ytaekaikkldnikaa
open Go.RowKit

set_option maxRecDepth 100000 in
set_option maxHeartbeats 1600000 in
theorem refOf_nan (b : Nat) (w : World) (h : 9218868437227405312 < b % 2 ^ 63) : Calls Try.prog 4 #[.float .f64 b] w fun e w' => RFl w e w' := by
  have hself : (FloatKind.f64.format.order b b != some .eq) = true := by show ((Ieee.double.read b).order (Ieee.double.read b) != some .eq) = true; rw [order_self, nan_word, decide_eq_true h]
  have hq0 : QCell (w.alloc (.cells #[.bool false, .slice none 0 0, .slice none 0 0] 29)) w.heap.size false (.slice none 0 0) (.slice none 0 0) := qcell_new _ rfl
  obtain ⟨z0, z1, z2⟩ := hq0.cells
  have t0 := hq0.thaw 0
  have t1 := hq0.thaw 1
  have t2 := hq0.thaw 2
  have HW : Hid (_) := hq0
  clear hq0 h
  go_enter Try.func4, Try.ntmps4
  go_wp2_with fail
  (try simp only [Exit.inBlock, Exit.then])
  exact bodyPost_ret (results_ct (p := 2) (u := 3) rfl _ _ (w.heap.size) 29 _ (0, 0) _ rfl HW.out Try.underlying29 rfl (by kernel_rfl)) rfl ⟨rfl, belowA _ _⟩
set_option maxRecDepth 100000 in
set_option maxHeartbeats 1600000 in
theorem refOf_inf (b : Nat) (w : World) (hb0 : b < 18446744073709551616) (h : b % 2 ^ 63 = 9218868437227405312) : Calls Try.prog 4 #[.float .f64 b] w fun e w' => RFl w e w' := by
  have hself : (FloatKind.f64.format.order b b != some .eq) = false := by show ((Ieee.double.read b).order (Ieee.double.read b) != some .eq) = false; rw [order_self, nan_word, decide_eq_false (by omega)]
  have hsb : ∀ w, (binOp .sub 22 (.float .f64 b) (.float .f64 b)).run Try.prog w = .ok (.float .f64 (nanS .f64 b w)) w.drew := fun w => run_sub_none _ _ _ _ w (fsub_no hb0 (by omega))
  have hnq : ∀ w, (FloatKind.f64.format.order (nanS .f64 b w) 0 != some .eq) = true := fun w => by unfold bne; rw [nanS64]; rfl
  have hq0 : QCell (w.alloc (.cells #[.bool false, .slice none 0 0, .slice none 0 0] 29)) w.heap.size false (.slice none 0 0) (.slice none 0 0) := qcell_new _ rfl
  have hq1 : QCell (w.alloc (.cells #[.bool false, .slice none 0 0, .slice none 0 0] 29)).drew w.heap.size false (.slice none 0 0) (.slice none 0 0) := hq0
  obtain ⟨z0, z1, z2⟩ := hq1.cells
  have t0 := hq1.thaw 0
  have t1 := hq1.thaw 1
  have t2 := hq1.thaw 2
  have HW : Hid (QCell _ _ _ _ _) := hq1
  have HB : Hid (Below w.heap.size w (w.alloc (.cells #[.bool false, .slice none 0 0, .slice none 0 0] 29)).drew) := (belowA w _).drew
  clear hq0 hq1 h
  go_enter Try.func4, Try.ntmps4
  go_wp2_with fail
  (try simp only [Exit.inBlock, Exit.then])
  exact bodyPost_ret (results_ct (p := 2) (u := 3) rfl _ _ (w.heap.size) 29 _ (0, 0) _ rfl HW.out Try.underlying29 rfl (by kernel_rfl)) rfl ⟨rfl, HB.out⟩
theorem refOf_no (b : Nat) (w : World) (hb0 : b < 18446744073709551616) (h : 9218868437227405312 ≤ b % 2 ^ 63) : Calls Try.prog 4 #[.float .f64 b] w fun e w' => RFl w e w' := by
  rcases Nat.lt_or_ge 9218868437227405312 (b % 2 ^ 63) with h1 | h1
  · exact refOf_nan b w h1
  · exact refOf_inf b w hb0 (by omega)
set_option maxRecDepth 100000 in
set_option maxHeartbeats 3200000 in
theorem sameRat_yes (a b : Value) (r : Rat) (w : World) (ha : RStd w a r) (hb0 : RStd w b r) :
    Calls Try.prog 9 #[a, b] w fun e w' => e = .returned (.bool true) ∧ Below w.heap.size w w' := by
  obtain ⟨na, ao, al, ac, aO, aL, aC, rfl, ea, u1, d1⟩ := ha
  obtain ⟨nb, bo, bl, bc, bO, bL, bC, rfl, eb, u2, d2⟩ := hb0
  have ia : IStd w (.agg #[.bool na, .slice ao al ac]) r.num := ⟨_, by rw [ea], u1⟩
  have ib : IStd w (.agg #[.bool nb, .slice bo bl bc]) r.num := ⟨_, by rw [eb], u2⟩
  clear u1 u2 ea eb
  obtain ⟨W1, hW1⟩ : ∃ W1, W1 = (w.alloc (.cells #[.bool na, .slice ao al ac, .slice aO aL aC] 29)).alloc (.cells #[.bool nb, .slice bo bl bc, .slice bO bL bC] 29) := ⟨_, rfl⟩
  have q0 : QCell W1 (w.heap.size) na (.slice ao al ac) (.slice aO aL aC) := by rw [hW1]; exact qcell_step (qcell_new _ (by simp))
  have q1 : QCell W1 (w.heap.size + 1) nb (.slice bo bl bc) (.slice bO bL bC) := by rw [hW1]; exact qcell_new _ (by simp)
  have hB : Below w.heap.size w W1 := by rw [hW1]; exact bstep (belowA w _) (belowA _ _)
  have HW1 : Hid (W1 = (w.alloc (.cells #[.bool na, .slice ao al ac, .slice aO aL aC] 29)).alloc (.cells #[.bool nb, .slice bo bl bc, .slice bO bL bC] 29)) := hW1
  clear hW1
  replace d1 := d1.below (Nat.le_refl _) hB
  replace d2 := d2.below (Nat.le_refl _) hB
  have ia : IStd W1 (.agg #[.bool na, .slice ao al ac]) r.num := by obtain ⟨m, e, h⟩ := ia; exact ⟨m, e, h.below (Nat.le_refl _) hB⟩
  have ib : IStd W1 (.agg #[.bool nb, .slice bo bl bc]) r.num := by obtain ⟨m, e, h⟩ := ib; exact ⟨m, e, h.below (Nat.le_refl _) hB⟩
  go_enter Try.func9, Try.ntmps9
  go_wp2_with fail
  rw [← HW1.out]
  clear HW1
  obtain ⟨g, hg⟩ : ∃ g, g = w.heap.size := ⟨_, rfl⟩
  rw [← hg] at q0 q1 ⊢
  clear hg
  have p0 := q0
  have p1 := q1
  obtain ⟨c0, c1, c2⟩ := q0.cells
  obtain ⟨e0, e1, e2⟩ := q1.cells
  clear q0 q1
  go_wp2_with fail
  clear c0 c1 c2 e0 e1 e2
  refine (same02 _ _ _ _ ia ib).mono ?_
  rintro e w2 ⟨rfl, b2⟩
  replace d1 := d1.below (Nat.le_refl _) b2
  replace d2 := d2.below (Nat.le_refl _) b2
  have hB2 := bstep hB b2
  obtain ⟨c0, c1, c2⟩ := (p0.below b2).cells
  obtain ⟨e0, e1, e2⟩ := (p1.below b2).cells
  clear p0 p1 b2 hB ia ib
  go_wp2_with fail
  clear c0 c1 c2 e0 e1 e2
  refine (same_yes _ _ _ _ d1 d2).mono ?_
  rintro e w3 ⟨rfl, q, hq⟩
  have HE : Hid (Below w.heap.size w w3) := by rw [hq]; exact bstep hB2 (below_drewN (Below.refl _ _) q)
  clear hq d1 d2 hB2
  go_wp2_with fail
  go_ret
  exact ⟨rfl, HE.out⟩
end Go.Proofs.Ytaekaikkldnikaa

namespace Go.Proofs.Ytaekaikkldnikaa
open Go.RowKit

def ov (x : Nat) : Nat := (5 * x + 3) % 4294967296
theorem own_block {B e g n cap : Nat} {w w' : World} {xs : List Nat} (h : Own B e w (.slice (some ⟨g, 0, none⟩) n cap) xs) (he : w'.heap[g]? = w.heap[g]?) : Own B e w' (.slice (some ⟨g, 0, none⟩) n cap) xs := by
  obtain ⟨h0, h1, h2⟩ := h
  refine ⟨h0, h1, ?_⟩
  rcases h2 with h2 | ⟨g', cap', cur, h3, h4, h5, h6⟩
  · exact Or.inl h2
  · refine Or.inr ⟨g', cap', cur, h3, h4, ?_, h6⟩
    have : g = g' := by injection h3 with h7; injection h7 with h8; injection h8
    rw [← this, he, this]; exact h5
theorem own_lt {B e g n cap : Nat} {w : World} {xs : List Nat} (h : Own B e w (.slice (some ⟨g, 0, none⟩) n cap) xs) : B ≤ g ∧ g < w.heap.size := by
  obtain ⟨h0, h1, h2⟩ := h
  rcases h2 with h2 | ⟨g', cap', cur, h3, h4, h5, h6⟩
  · simp at h2
  · have : g = g' := by injection h3 with h7; injection h7 with h8; injection h8
    rw [this]; exact ⟨h4, (Array.getElem?_eq_some_iff.1 h5).1⟩
theorem Bex.thenB {gs : List Value} {w wr w' : World} (h : Bex gs w wr) (hb : Below w.heap.size wr w') : Bex gs w w' :=
  ⟨hb.os.trans h.os, hb.tape.trans h.tape, hb.output.trans h.output, Nat.le_trans h.size hb.size, fun k hk hj => by rw [hb.block k hk]; exact h.block k hk hj⟩
theorem limbs_ov {xs : List Nat} : limbs (xs.map ov) := by
  intro y hy
  obtain ⟨x, _, rfl⟩ := List.mem_map.1 hy
  exact Nat.mod_lt _ (by decide)
theorem ov_step {xs : List Nat} {i : Nat} (hi : i < xs.length) : ((xs.take i).map ov ++ xs.drop i).set i (ov (xs.getD i 0)) = (xs.take (i + 1)).map ov ++ xs.drop (i + 1) := by
  have e : xs.getD i 0 = xs[i] := by simp [List.getD, hi]
  have hl : ((xs.take i).map ov).length = i := by simp; omega
  rw [List.set_append_right _ _ (by rw [hl]; exact Nat.le_refl _), hl, Nat.sub_self, List.drop_eq_getElem_cons hi, List.set_cons_zero, List.take_succ_eq_append_getElem hi, e, List.map_append, List.append_assoc]
  rfl
theorem ov_at {xs : List Nat} {i : Nat} (hi : i < xs.length) : ((xs.take i).map ov ++ xs.drop i).getD i 0 = xs.getD i 0 := by
  have hl : ((xs.take i).map ov).length = i := by simp; omega
  simp only [List.getD_eq_getElem?_getD]
  rw [List.getElem?_append_right (by rw [hl]; exact Nat.le_refl _), hl, Nat.sub_self, List.getElem?_drop, Nat.add_zero]
theorem ov_snoc {xs : List Nat} {i : Nat} (hi : i < xs.length) : (xs.take i).map ov ++ [ov (xs.getD i 0)] = (xs.take (i + 1)).map ov := by
  have e : xs.getD i 0 = xs[i] := by simp [List.getD, hi]
  rw [List.take_succ_eq_append_getElem hi, e, List.map_append]
  rfl

/-- What over leaves. -/
def OverEnd (B g n cap : Nat) (xs : List Nat) (w : World) (e : Ending) (w' : World) : Prop :=
  ∃ l, e = .returned l ∧ Own B 39 w' (.slice (some ⟨g, 0, none⟩) n cap) (xs.map ov) ∧ Own w.heap.size 39 w' l (xs.map ov) ∧ Bex [.slice (some ⟨g, 0, none⟩) n cap] w w'

end Go.Proofs.Ytaekaikkldnikaa

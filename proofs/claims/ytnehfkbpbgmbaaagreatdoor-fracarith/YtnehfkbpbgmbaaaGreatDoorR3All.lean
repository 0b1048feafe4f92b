/-
  Proved here: what the small functions of credencelaw03 answer.
  Proved here: what New, Of, Same, LendInt and KeptInt of the document's layer 3 answer, and the law's cutInt.
-/
import Derived.Test.YtnehfkbpbgmbaaaGreatDoorFracF
import Derived.Test.YtnehfkbpbgmbaaaGreatDoorLow3
import Derived.Test.YtnehfkbpbgmbaaaGreatDoorFracDAll
import Derived.Deep.RegionHeld3
import Derived.Deep.DrawnRows
namespace Go.Proofs.YtnehfkbpbgmbaaaGreatDoor
open Go.RowKit

theorem num_len {w : World} {o : Option Addr} {l c : Nat} {xs : List Nat} (h : Num w (.slice o l c) xs) : xs.length = l ∧ l ≤ c ∧ c ≤ 9223372036854775807 := by
  obtain ⟨ao, cap, e, h1, h2⟩ := h.ao
  simp only [Value.slice.injEq] at e
  obtain ⟨_, rfl, rfl⟩ := e
  exact ⟨rfl, h1, h2⟩
/-- A number cut to so many limbs. -/
theorem num_cut {w : World} {o : Option Addr} {l c : Nat} {xs : List Nat} (h : Num w (.slice o l c) xs) {k : Nat} (hk : k ≤ l) : Num w (.slice o k c) (xs.take k) := by
  have h1 := h.cut (k := k) (by rw [(num_len h).1]; exact hk)
  exact h1
set_option maxRecDepth 100000 in
set_option maxHeartbeats 6400000 in
theorem c_cut (na : Bool) (ao aO : Option Addr) (al ac aL aC k : Nat) (xa ya : List Nat) (w : World) (ha : Num w (.slice ao al ac) xa) (hd : Num w (.slice aO aL aC) ya) (hk : k ≤ 1000) :
    Calls Tryz.prog 6 #[.agg #[.bool na, .slice ao al ac, .slice aO aL aC], .int .i64 k] w fun e w' => e = .returned (.agg #[.bool na, .slice ao (min al k) ac, .slice aO (min aL k) aC]) ∧ Below w.heap.size w w' := by
  obtain ⟨_, h1, h2⟩ := num_len ha
  obtain ⟨_, h3, h4⟩ := num_len hd
  clear ha hd
  by_cases hla : k < al
  · by_cases hlb : k < aL
    · have e1 : min al k = k := by omega
      have e2 : min aL k = k := by omega
      have hla2 : (k : Int) < (al : Int) := by omega
      have hlb2 : (k : Int) < (aL : Int) := by omega
      have hla3 : (k : Int) ≤ (ac : Int) := by omega
      have hlb3 : (k : Int) ≤ (aC : Int) := by omega
      rw [e1, e2]
      clear e1 e2
      go_enter Tryz.func6, Tryz.ntmps6
      go_wp2
      (try simp only [Exit.inBlock, Exit.then])
      exact bodyPost_ret (results_cell_row rfl _ _ (w.heap.size + 1) 27 _ (0, 0) _ rfl (heap_alloc2_new w _ _) Tryz.underlying27 rfl (by kernel_rfl)) rfl ⟨rfl, bstep (belowA _ _) (belowA _ _)⟩
    · have e1 : min al k = k := by omega
      have e2 : min aL k = aL := by omega
      have hla2 : (k : Int) < (al : Int) := by omega
      have hlb2 : ¬ (k : Int) < (aL : Int) := by omega
      have hla3 : (k : Int) ≤ (ac : Int) := by omega
      clear h3
      rw [e1, e2]
      clear e1 e2
      go_enter Tryz.func6, Tryz.ntmps6
      go_wp2
      (try simp only [Exit.inBlock, Exit.then])
      exact bodyPost_ret (results_cell_row rfl _ _ (w.heap.size + 1) 27 _ (0, 0) _ rfl (heap_alloc2_new w _ _) Tryz.underlying27 rfl (by kernel_rfl)) rfl ⟨rfl, bstep (belowA _ _) (belowA _ _)⟩
  · by_cases hlb : k < aL
    · have e1 : min al k = al := by omega
      have e2 : min aL k = k := by omega
      have hla2 : ¬ (k : Int) < (al : Int) := by omega
      have hlb2 : (k : Int) < (aL : Int) := by omega
      clear h1
      have hlb3 : (k : Int) ≤ (aC : Int) := by omega
      rw [e1, e2]
      clear e1 e2
      go_enter Tryz.func6, Tryz.ntmps6
      go_wp2
      (try simp only [Exit.inBlock, Exit.then])
      exact bodyPost_ret (results_cell_row rfl _ _ (w.heap.size + 1) 27 _ (0, 0) _ rfl (heap_alloc2_new w _ _) Tryz.underlying27 rfl (by kernel_rfl)) rfl ⟨rfl, bstep (belowA _ _) (belowA _ _)⟩
    · have e1 : min al k = al := by omega
      have e2 : min aL k = aL := by omega
      have hla2 : ¬ (k : Int) < (al : Int) := by omega
      have hlb2 : ¬ (k : Int) < (aL : Int) := by omega
      clear h1
      clear h3
      rw [e1, e2]
      clear e1 e2
      go_enter Tryz.func6, Tryz.ntmps6
      go_wp2
      (try simp only [Exit.inBlock, Exit.then])
      exact bodyPost_ret (results_cell_row rfl _ _ (w.heap.size + 1) 27 _ (0, 0) _ rfl (heap_alloc2_new w _ _) Tryz.underlying27 rfl (by kernel_rfl)) rfl ⟨rfl, bstep (belowA _ _) (belowA _ _)⟩
end Go.Proofs.YtnehfkbpbgmbaaaGreatDoor

namespace Go.Proofs.YtnehfkbpbgmbaaaGreatDoor
open Go.RowKit
attribute [local go_sem ↓] Go.wp_at_zero Go.wp_at_succ

/-- A whole number that can be read, of so many limbs. -/
def IB (w : World) (v : Value) (z : Int) (L : Nat) : Prop := ∃ n o l c xs, v = .agg #[.bool n, .slice o l c] ∧ Num w (.slice o l c) xs ∧ xs.length ≤ L ∧ zv n (val xs) = z
theorem IB.below {w w' : World} {v : Value} {z : Int} {L : Nat} (h : IB w v z L) (hb : Below w.heap.size w w') : IB w' v z L := by
  obtain ⟨n, o, l, c, xs, e, h1, h2⟩ := h
  exact ⟨n, o, l, c, xs, e, h1.below (Nat.le_refl _) hb, h2⟩
theorem IOwn.ib {B : Nat} {w : World} {v : Value} {z : Int} {L : Nat} (h : IOwn B w v z) (hl : (lim z.natAbs).length ≤ L) : IB w v z L := by
  obtain ⟨m, rfl, hm⟩ := h
  obtain ⟨mo, ml, mc, rfl⟩ := hm.sl
  exact ⟨_, _, _, _, _, rfl, hm.num, hl, by rw [val_lim]; exact zv_self z⟩
theorem RoomL.set2 {B : Nat} {w : World} {v : Value} {xs : List Nat} (h : RoomL B w v xs) {g : Nat} (hg : g < B) (a b : Value) : RoomL B ((w.setCell ⟨g, 0, none⟩ a).setCell ⟨g, 1, none⟩ b) v xs := by
  obtain ⟨u, e, ho⟩ := h
  have hne : u.ownBlock = none ∨ u.ownBlock ≠ some g := by
    rcases hu : u.ownBlock with _ | k
    · exact .inl rfl
    · exact .inr fun e => by have := (ho.block k hu).1; have := Option.some.inj e; omega
  exact ⟨u, e, (ho.other a hne).other b hne⟩
set_option maxRecDepth 100000 in
set_option maxHeartbeats 3200000 in
theorem same02g (bb : Bool) (mo ko : Option Addr) (n mc kc : Nat) (xs : List Nat) (w : World) (hm : Num w (.slice mo n mc) xs) (hk : Num w (.slice ko n kc) xs) :
    Calls Tryz.prog 21 #[.agg #[.bool bb, .slice mo n mc], .agg #[.bool bb, .slice ko n kc]] w fun e w' => e = .returned (.bool true) ∧ Below w.heap.size w w' := by
  have hself : (bb == bb) = true := by simp
  obtain ⟨W1, hW1⟩ : ∃ W1, W1 = (w.alloc (.cells #[.bool bb, .slice mo n mc] 25)).alloc (.cells #[.bool bb, .slice ko n kc] 25) := ⟨_, rfl⟩
  have q0 : ICell W1 (w.heap.size) bb (.slice mo n mc) := by rw [hW1]; exact icell_step (icell_new _ (by simp))
  have q1 : ICell W1 (w.heap.size + 1) bb (.slice ko n kc) := by rw [hW1]; exact icell_new _ (by simp)
  have hB : Below w.heap.size w W1 := by rw [hW1]; exact bstep (belowA w _) (belowA _ _)
  have HW1 : Hid (W1 = (w.alloc (.cells #[.bool bb, .slice mo n mc] 25)).alloc (.cells #[.bool bb, .slice ko n kc] 25)) := hW1
  clear hW1
  replace hm := hm.below (Nat.le_refl _) hB
  replace hk := hk.below (Nat.le_refl _) hB
  go_enter Tryz.func21, Tryz.ntmps21
  go_wp2_with fail
  rw [← HW1.out]
  clear HW1
  obtain ⟨g, hg⟩ : ∃ g, g = w.heap.size := ⟨_, rfl⟩
  rw [← hg] at q0 q1 ⊢
  have HB : Hid (Below w.heap.size w W1) := hB
  clear hg hB
  obtain ⟨c0, d0⟩ := q0.cells
  obtain ⟨c1, d1⟩ := q1.cells
  clear q0 q1
  go_wp2_with fail
  refine (same_yes _ _ _ _ hm hk).mono ?_
  rintro e w2 ⟨rfl, q, hq⟩
  have HE : Hid (Below w.heap.size w w2) := by rw [hq]; exact bstep HB.out (below_drewN (Below.refl _ _) q)
  clear hq hm hk HB c0 d0 c1 d1
  go_wp2_with fail
  go_ret
  exact ⟨rfl, HE.out⟩

set_option maxRecDepth 100000 in
set_option maxHeartbeats 6400000 in
theorem same3 (na : Bool) (ao bo aO bO : Option Addr) (al ac bc aL aC bC : Nat) (xs ys : List Nat) (w : World) (ma : Num w (.slice ao al ac) xs) (mb : Num w (.slice bo al bc) xs) (da : Num w (.slice aO aL aC) ys) (db : Num w (.slice bO aL bC) ys) :
    Calls Tryz.prog 33 #[.agg #[.bool na, .slice ao al ac, .slice aO aL aC], .agg #[.bool na, .slice bo al bc, .slice bO aL bC]] w fun e w' => e = .returned (.bool true) ∧ Below w.heap.size w w' := by
  obtain ⟨W1, hW1⟩ : ∃ W1, W1 = (w.alloc (.cells #[.bool na, .slice ao al ac, .slice aO aL aC] 27)).alloc (.cells #[.bool na, .slice bo al bc, .slice bO aL bC] 27) := ⟨_, rfl⟩
  have qa : QCell W1 (w.heap.size) na (.slice ao al ac) (.slice aO aL aC) := by rw [hW1]; exact (qcell_step (qcell_new _ (by simp)))
  have qb : QCell W1 (w.heap.size + 1) na (.slice bo al bc) (.slice bO aL bC) := by rw [hW1]; exact (qcell_new _ (by simp))
  have hb : Below w.heap.size w W1 := by rw [hW1]; exact bstep (belowA w _) (belowA _ _)
  have hsz : w.heap.size + 1 < W1.heap.size := by rw [hW1]; simp
  replace da := da.below (Nat.le_refl _) hb
  replace db := db.below (Nat.le_refl _) hb
  replace ma := ma.below (Nat.le_refl _) hb
  replace mb := mb.below (Nat.le_refl _) hb
  have HW1 : Hid (W1 = (w.alloc (.cells #[.bool na, .slice ao al ac, .slice aO aL aC] 27)).alloc (.cells #[.bool na, .slice bo al bc, .slice bO aL bC] 27)) := hW1
  clear hW1
  go_enter Tryz.func33, Tryz.ntmps33
  go_wp2_with fail
  rw [← HW1.out]
  clear HW1
  obtain ⟨g, hg⟩ : ∃ g, g = w.heap.size := ⟨_, rfl⟩
  rw [← hg] at qa qb hsz ⊢
  have HG : Hid (g = w.heap.size) := hg
  clear hg
  obtain ⟨cqa0, cqa1, cqa2⟩ := qa.cells
  obtain ⟨cqb0, cqb1, cqb2⟩ := qb.cells
  go_wp2_with fail
  clear cqa0 cqa1 cqa2 cqb0 cqb1 cqb2
  have hs := same02g na ao bo al ac bc xs _ ma mb
  refine (hs).mono ?_
  rintro e w2 ⟨rfl, b⟩
  clear hs
  replace ma := ma.below (Nat.le_refl _) b
  replace mb := mb.below (Nat.le_refl _) b
  replace da := da.below (Nat.le_refl _) b
  replace db := db.below (Nat.le_refl _) b
  replace qa := qa.below b
  replace qb := qb.below b
  replace hb := bstep hb b
  replace hsz := Nat.lt_of_lt_of_le hsz b.size
  clear b
  obtain ⟨cqa0, cqa1, cqa2⟩ := qa.cells
  obtain ⟨cqb0, cqb1, cqb2⟩ := qb.cells
  go_wp2_with fail
  clear cqa0 cqa1 cqa2 cqb0 cqb1 cqb2
  refine (same_yes _ _ _ _ da db).mono ?_
  rintro e w3 ⟨rfl, q, hq⟩
  have HE : Hid (Below w.heap.size w w3) := by rw [hq]; exact bstep hb (below_drewN (Below.refl _ _) q)
  clear hq hb hsz qa qb ma mb da db
  go_wp2
  go_ret
  exact ⟨rfl, HE.out⟩
set_option maxRecDepth 100000 in
set_option maxHeartbeats 6400000 in
theorem lendInt3 (na : Bool) (ao : Option Addr) (al ac : Nat) (xa : List Nat) (w : World) (ua : Num w (.slice ao al ac) xa) (la : xa.length ≤ 1099511627776) :
    Calls Tryz.prog 40 #[.agg #[.bool na, .slice ao al ac]] w fun e w' => ∃ u, e = .returned (.agg #[.bool na, u]) ∧ RoomL w.heap.size w' u xa ∧ Below w.heap.size w w' := by
  obtain ⟨W1, hW1⟩ : ∃ W1, W1 = (w.alloc (.cells #[.bool na, .slice ao al ac] 25)).alloc (.cells #[.bool false, .slice none 0 0] 25) := ⟨_, rfl⟩
  have qa : ICell W1 (w.heap.size) na (.slice ao al ac) := by rw [hW1]; exact (icell_step (icell_new _ (by simp)))
  have qR : ICell W1 (w.heap.size + 1) false (.slice none 0 0) := by rw [hW1]; exact (icell_new _ (by simp))
  have hb : Below w.heap.size w W1 := by rw [hW1]; exact bstep (belowA w _) (belowA _ _)
  have hsz : w.heap.size + 1 < W1.heap.size := by rw [hW1]; simp
  replace ua := ua.below (Nat.le_refl _) hb
  have HW1 : Hid (W1 = (w.alloc (.cells #[.bool na, .slice ao al ac] 25)).alloc (.cells #[.bool false, .slice none 0 0] 25)) := hW1
  clear hW1
  go_enter Tryz.func40, Tryz.ntmps40
  go_wp2_with fail
  rw [← HW1.out]
  clear HW1
  obtain ⟨g, hg⟩ : ∃ g, g = w.heap.size := ⟨_, rfl⟩
  rw [← hg] at qa qR hsz ⊢
  have HG : Hid (g = w.heap.size) := hg
  clear hg
  refine region_late [(1, fun w' => w'.cell? ⟨g, 0, none⟩ = some (.bool na)), (3, fun w' => w'.cell? ⟨g, 1, none⟩ = some (.slice ao al ac))] (by kernel_rfl) ?_
  have hHeld : AllL W1.drew [(1, fun w' => w'.cell? ⟨g, 0, none⟩ = some (.bool na)), (3, fun w' => w'.cell? ⟨g, 1, none⟩ = some (.slice ao al ac))] := ⟨(show ICell W1.drew (g) na (.slice ao al ac) from qa).cells.1, (show ICell W1.drew (g) na (.slice ao al ac) from qa).cells.2, trivial⟩
  refine late_fr 0 (v := .pointer (some ⟨g, 0, none⟩)) rfl (Or.inl ⟨by rfl, ?_⟩) hHeld ?_
  · (intro u _; go_simp)
  (try simp only [Act.put, putA, putB, putC])
  refine late_tk 1 (v := .bool na) rfl (List.Mem.head _) (Or.inl ⟨by rfl, ?_⟩) hHeld ?_
  · (intro u hu; (try dsimp only at hu); go_split_ands; go_simp)
  (try simp only [Act.put, putA, putB, putC])
  refine late_fr 2 (v := .pointer (some ⟨g, 1, none⟩)) rfl (Or.inl ⟨by rfl, ?_⟩) hHeld ?_
  · (intro u _; go_simp)
  (try simp only [Act.put, putA, putB, putC])
  refine late_tk 3 (v := .slice ao al ac) rfl (List.Mem.tail _ (List.Mem.head _)) (Or.inl ⟨by rfl, ?_⟩) hHeld ?_
  · (intro u hu; (try dsimp only at hu); go_split_ands; go_simp)
  (try simp only [Act.put, putA, putB, putC])
  refine late_st 4 rfl (fun K hK => ?_)
  go_simp
  refine (limbs3_any _ _ _ (ua.below (Nat.le_refl _) (below_drew' _)) la).mono ?_
  rintro e w2 ⟨u, rfl, hu, b2⟩
  obtain ⟨uo, ul, uc, rfl⟩ := hu.own.sl
  have B2 : Below W1.heap.size W1 w2 := bstep (below_drew' _) b2
  clear hHeld
  have hHeld : AllL w2 [(1, fun w' => w'.cell? ⟨g, 0, none⟩ = some (.bool na)), (3, fun w' => w'.cell? ⟨g, 1, none⟩ = some (.slice ao al ac))] := ⟨(qa.below B2).cells.1, (qa.below B2).cells.2, trivial⟩
  go_wp2_with fail
  refine hK.out _ _ (AllL.kept hHeld) ?_
  clear hK K
  (try simp only [Act.put, putA, putB, putC])
  refine late_st 5 rfl (fun K hK => ?_)
  go_simp
  refine hK.out _ _ ⟨kpt 5, kpt 4, trivial⟩ ?_
  clear hK K
  (try simp only [Act.put, putA, putB, putC])
  have qq := qR.below B2
  have HE : Hid (RoomL w.heap.size ((w2.setCell ⟨g + 1, 0, none⟩ (.bool na)).setCell ⟨g + 1, 1, none⟩ (.slice uo ul uc)) (.slice uo ul uc) xa ∧ Below w.heap.size w ((w2.setCell ⟨g + 1, 0, none⟩ (.bool na)).setCell ⟨g + 1, 1, none⟩ (.slice uo ul uc))) := ⟨(hu.set2 (show g + 1 < W1.drew.heap.size from hsz) _ _).mono (Nat.le_trans hb.size (below_drew' _).size), iend2 (bstep hb B2) (by rw [HG.out]; omega)⟩
  have HW : Hid (ICell ((w2.setCell ⟨g + 1, 0, none⟩ (.bool na)).setCell ⟨g + 1, 1, none⟩ (.slice uo ul uc)) (g + 1) na (.slice uo ul uc)) := qq.write _ _
  obtain ⟨y0, y1⟩ := qq.cells
  have f0 := qq.thaw 0
  have f1 := qq.thaw 1
  clear qq hu
  refine late_st 6 rfl (fun K hK => ?_)
  go_simp
  refine hK.out _ _ ⟨kpt 5, kpt 4, trivial⟩ ?_
  clear hK K
  (try simp only [Act.put, putA, putB, putC])
  refine late_done (by kernel_rfl) ?_ _
  clear hHeld
  clear hb hsz qa qR ua b2 B2
  go_wp2_with fail
  (try simp only [Exit.inBlock, Exit.then])
  exact bodyPost_ret (results_cell_row rfl _ _ (g + 1) 25 _ (0, 0) _ rfl HW.out Tryz.underlying25 rfl (by kernel_rfl)) rfl ⟨_, rfl, HE.out⟩
set_option maxRecDepth 100000 in
set_option maxHeartbeats 6400000 in
theorem keptInt3 (B : Nat) (na : Bool) (ao bo : Option Addr) (al ac bl bc : Nat) (xb : List Nat) (w : World) (ra : RoomL B w (.slice ao al ac) xb) (ub : Num w (.slice bo bl bc) xb) (lb : xb.length ≤ 1099511627776) :
    Calls Tryz.prog 66 #[.agg #[.bool na, .slice ao al ac], .agg #[.bool na, .slice bo bl bc]] w fun e w' => e = .returned (.bool true) ∧ Below w.heap.size w w' := by
  obtain ⟨W1, hW1⟩ : ∃ W1, W1 = (w.alloc (.cells #[.bool na, .slice ao al ac] 25)).alloc (.cells #[.bool na, .slice bo bl bc] 25) := ⟨_, rfl⟩
  have qa : ICell W1 (w.heap.size) na (.slice ao al ac) := by rw [hW1]; exact (icell_step (icell_new _ (by simp)))
  have qb : ICell W1 (w.heap.size + 1) na (.slice bo bl bc) := by rw [hW1]; exact (icell_new _ (by simp))
  have hb : Below w.heap.size w W1 := by rw [hW1]; exact bstep (belowA w _) (belowA _ _)
  have hsz : w.heap.size + 1 < W1.heap.size := by rw [hW1]; simp
  replace ra := ra.below hb
  replace ub := ub.below (Nat.le_refl _) hb
  have HW1 : Hid (W1 = (w.alloc (.cells #[.bool na, .slice ao al ac] 25)).alloc (.cells #[.bool na, .slice bo bl bc] 25)) := hW1
  clear hW1
  go_enter Tryz.func66, Tryz.ntmps66
  go_wp2_with fail
  rw [← HW1.out]
  clear HW1
  obtain ⟨g, hg⟩ : ∃ g, g = w.heap.size := ⟨_, rfl⟩
  rw [← hg] at qa qb hsz ⊢
  have HG : Hid (g = w.heap.size) := hg
  clear hg
  obtain ⟨cqa0, cqa1⟩ := qa.cells
  obtain ⟨cqb0, cqb1⟩ := qb.cells
  have hself : (na == na) = true := by simp
  go_wp2_with fail
  clear cqa0 cqa1 cqb0 cqb1
  refine (stands_yes _ _ _ _ _ ra ub lb).mono ?_
  rintro e w2 ⟨rfl, q, hq⟩
  have HE : Hid (Below w.heap.size w w2) := by rw [hq]; exact bstep hb (below_drewN (Below.refl _ _) q)
  clear hq hb hsz qa qb ra ub
  go_wp2
  go_ret
  exact ⟨rfl, HE.out⟩
end Go.Proofs.YtnehfkbpbgmbaaaGreatDoor

/-
  Proved here: what Sum of the document's layer 3 answers.
-/
import Derived.Test.YtnehfkbpbgmbaaaGreatDoorAdd3
import Derived.Test.YtnehfkbpbgmbaaaGreatDoorArithE3All
import Derived.Test.YtnehfkbpbgmbaaaGreatDoorFracGAll
import Derived.Test.YtnehfkbpbgmbaaaGreatDoorFracRowsAll
namespace Go.Proofs.YtnehfkbpbgmbaaaGreatDoor
open Go.RowKit

/-- What a fraction says as it stands. -/
def FV.r (f : FV) : Rat := rq (zv f.n (val f.xs)) (val f.ys)
set_option maxRecDepth 100000 in
set_option maxHeartbeats 6400000 in
theorem small3 (w : World) : Calls Tryz.prog 69 #[.int .i64 0, .int .i64 1] w fun e w' => REnd w 0 e w' := by
  obtain ⟨W1, hW1⟩ : ∃ W1, W1 = w.alloc (.cells #[.bool false, .slice none 0 0, .slice none 0 0] 27) := ⟨_, rfl⟩
  have qR : QCell W1 (w.heap.size) false (.slice none 0 0) (.slice none 0 0) := by rw [hW1]; exact (qcell_new _ (by simp))
  have hb : Below w.heap.size w W1 := by rw [hW1]; exact belowA w _
  have hsz : w.heap.size < W1.heap.size := by rw [hW1]; simp
  have HW1 : Hid (W1 = w.alloc (.cells #[.bool false, .slice none 0 0, .slice none 0 0] 27)) := hW1
  clear hW1
  go_enter Tryz.func69, Tryz.ntmps69
  go_wp2_with fail
  rw [← HW1.out]
  clear HW1
  obtain ⟨g, hg⟩ : ∃ g, g = w.heap.size := ⟨_, rfl⟩
  rw [← hg] at qR hsz ⊢
  have HG : Hid (g = w.heap.size) := hg
  clear hg
  have hq := of3_yes (n := 0) (d := 1) (w := W1) (by decide) (by decide) (by decide) (by decide) (by decide)
  rw [show Rat.divInt 0 1 = 0 by decide] at hq
  have hszz := hsz
  refine (hq).mono ?_
  rintro e w2 ⟨v, rfl, hv, b⟩
  clear hq
  obtain ⟨m, d, rfl, hm, hd, hap⟩ := hv
  obtain ⟨mo, ml, mc, rfl⟩ := hm.sl
  obtain ⟨mO, mL, mC, rfl⟩ := hd.sl
  generalize hbb : decide ((0 : Rat).num < 0) = bb
  have hown : ROwn (g + 1) w2 (.agg #[.bool bb, .slice mo ml mc, .slice mO mL mC]) 0 := ⟨_, _, by rw [← hbb], hm.mono hszz, hd.mono hszz, hap⟩
  clear hbb hm hd hap hszz
  replace qR := qR.below b
  replace hb := bstep hb b
  replace hsz := Nat.lt_of_lt_of_le hsz b.size
  clear b
  obtain ⟨W3, hW3⟩ : ∃ W, W = w2.alloc (.cells #[.bool bb, .slice mo ml mc, .slice mO mL mC] 27) := ⟨_, rfl⟩
  have qA : QCell W3 (w2.heap.size) bb (.slice mo ml mc) (.slice mO mL mC) := by rw [hW3]; exact (qcell_new _ rfl)
  have b : Below w2.heap.size w2 W3 := by rw [hW3]; exact belowA _ _
  replace hown := hown.below b
  replace qR := qR.below b
  replace hb := bstep hb b
  replace hsz := Nat.lt_of_lt_of_le hsz b.size
  clear b
  have rqR0 : (w2.alloc (.cells #[.bool bb, .slice mo ml mc, .slice mO mL mC] 27)).cell? ⟨g, 0, none⟩ = some (.bool false) := by rw [← hW3]; exact qR.cells.1
  have rqR1 : (w2.alloc (.cells #[.bool bb, .slice mo ml mc, .slice mO mL mC] 27)).cell? ⟨g, 1, none⟩ = some (.slice none 0 0) := by rw [← hW3]; exact qR.cells.2.1
  have rqR2 : (w2.alloc (.cells #[.bool bb, .slice mo ml mc, .slice mO mL mC] 27)).cell? ⟨g, 2, none⟩ = some (.slice none 0 0) := by rw [← hW3]; exact qR.cells.2.2
  have rqA0 : (w2.alloc (.cells #[.bool bb, .slice mo ml mc, .slice mO mL mC] 27)).cell? ⟨w2.heap.size, 0, none⟩ = some (.bool bb) := by rw [← hW3]; exact qA.cells.1
  have rqA1 : (w2.alloc (.cells #[.bool bb, .slice mo ml mc, .slice mO mL mC] 27)).cell? ⟨w2.heap.size, 1, none⟩ = some (.slice mo ml mc) := by rw [← hW3]; exact qA.cells.2.1
  have rqA2 : (w2.alloc (.cells #[.bool bb, .slice mo ml mc, .slice mO mL mC] 27)).cell? ⟨w2.heap.size, 2, none⟩ = some (.slice mO mL mC) := by rw [← hW3]; exact qA.cells.2.2
  obtain ⟨v3, hv3⟩ : ∃ v, v = w2.heap.size := ⟨_, rfl⟩
  rw [← hv3] at qA
  have HW3 : Hid (W3 = w2.alloc (.cells #[.bool bb, .slice mo ml mc, .slice mO mL mC] 27)) := hW3
  have Hv3 : Hid (v3 = w2.heap.size) := hv3
  clear hW3 hv3
  obtain ⟨m, d, he, hm, hd, hap⟩ := hown
  simp only [Value.agg.injEq, Array.mk.injEq, List.cons.injEq, Value.bool.injEq, and_true] at he
  obtain ⟨hbb, rfl, rfl⟩ := he
  have HE : Hid (REnd w 0 (.returned (.agg #[.bool bb, .slice mo ml mc, .slice mO mL mC])) (((W3.setCell ⟨g, 0, none⟩ (.bool bb)).setCell ⟨g, 1, none⟩ (.slice mo ml mc)).setCell ⟨g, 2, none⟩ (.slice mO mL mC))) := rat_done hbb (by rw [HG.out]; exact Nat.le_refl _) hm hd hap (Nat.lt_succ_self g) hb
  have HW : Hid (QCell (((W3.setCell ⟨g, 0, none⟩ (.bool bb)).setCell ⟨g, 1, none⟩ (.slice mo ml mc)).setCell ⟨g, 2, none⟩ (.slice mO mL mC)) g bb (.slice mo ml mc) (.slice mO mL mC)) := qR.write _ _ _
  have f0 := qR.thaw 0
  have f1 := qR.thaw 1
  have f2 := qR.thaw 2
  rw [HW3.out] at f0 f1 f2
  clear hbb hm hd hap hb hsz qR qA
  go_wp2_with fail
  rw [← HW3.out, ← Hv3.out]
  clear HW3 Hv3 rqR0 rqR1 rqR2 rqA0 rqA1 rqA2
  (try simp only [Exit.inBlock, Exit.then])
  exact bodyPost_ret (results_cell_row rfl _ _ (g) 27 _ (0, 0) _ rfl HW.out Tryz.underlying27 rfl (by kernel_rfl)) rfl HE.out
set_option maxRecDepth 100000 in
set_option maxHeartbeats 6400000 in
theorem sum3 (lo : Option Addr) (n cap : Nat) (F : Nat → FV) (w : World) (hr : FRow w lo n F) (hn : n ≤ 30) (hl : ∀ i, i < n → (F i).xs.length ≤ 40 ∧ (F i).ys.length ≤ 40) : Calls Tryz.prog 34 #[.slice lo n cap] w fun e w' => REnd w (rsum (fun i => (F i).r) n) e w' := by
  have hsum : ∀ i, i ≤ n → RSz (rsum (fun i => (F i).r) i) (i * 41 + 1) := by
    intro i
    induction i with
    | zero => intro _; rw [Nat.zero_mul]; exact RSz.zero
    | succ i ih =>
      intro hi
      obtain ⟨_, hA⟩ := hr i (by omega)
      obtain ⟨l1, l2⟩ := hl i (by omega)
      have h1 := ih (by omega)
      rw [rsum_succ]
      have ia : IB w (.agg #[.bool (F i).n, .slice (F i).ao (F i).al (F i).ac]) (zv (F i).n (val (F i).xs)) 40 := ⟨_, _, _, _, _, rfl, hA.num, l1, rfl⟩
      have da : NB w (.slice (F i).bo (F i).bl (F i).bc) ((val (F i).ys : Nat) : Int) 40 := ⟨_, _, _, _, rfl, hA.den, l2, rfl⟩
      have hs := rsz_of ia da (by decide)
      have h2 := rsz_add (p := (rsum (fun i => (F i).r) i).num) (q := (rsum (fun i => (F i).r) i).den) (p' := zv (F i).n (val (F i).xs)) (q' := val (F i).ys) h1.num (by unfold und; rw [if_neg (Rat.den_nz _)]; exact h1.den) hs.1 hs.2
      rw [rq_std] at h2
      exact h2.mono (by rw [Nat.succ_mul]; omega)
  have HSUM : Hid (∀ i, i ≤ n → RSz (rsum (fun i => (F i).r) i) (i * 41 + 1)) := hsum
  clear hsum
  have HR : Hid (FRow w lo n F) := hr
  have HL : Hid (∀ i, i < n → (F i).xs.length ≤ 40 ∧ (F i).ys.length ≤ 40) := hl
  clear hr hl
  obtain ⟨rs, hrs⟩ : ∃ rs : Nat → Rat, rs = rsum (fun i => (F i).r) := ⟨_, rfl⟩
  have HRS : Hid (rs = rsum (fun i => (F i).r)) := hrs
  have HST : Hid (∀ i, rs (i + 1) = rs i + (F i).r) := fun i => by rw [hrs]; rfl
  rw [← hrs] at HSUM ⊢
  clear hrs
  obtain ⟨W1, hW1⟩ : ∃ W1, W1 = w.alloc (.cells #[.bool false, .slice none 0 0, .slice none 0 0] 27) := ⟨_, rfl⟩
  have qR : QCell W1 (w.heap.size) false (.slice none 0 0) (.slice none 0 0) := by rw [hW1]; exact (qcell_new _ (by simp))
  have hb : Below w.heap.size w W1 := by rw [hW1]; exact belowA w _
  have hsz : w.heap.size < W1.heap.size := by rw [hW1]; simp
  have HW1 : Hid (W1 = w.alloc (.cells #[.bool false, .slice none 0 0, .slice none 0 0] 27)) := hW1
  clear hW1
  go_enter Tryz.func34, Tryz.ntmps34
  go_wp2_with fail
  rw [← HW1.out]
  clear HW1
  obtain ⟨g, hg⟩ : ∃ g, g = w.heap.size := ⟨_, rfl⟩
  rw [← hg] at qR hsz ⊢
  have HG : Hid (g = w.heap.size) := hg
  clear hg
  have hq := small3 W1
  have hszz := hsz
  have HR0 : Hid (rs 0 = 0) := by show _ = _; rw [HRS.out]; rfl
  refine (hq).mono ?_
  rintro e w2 ⟨v, rfl, hv, b⟩
  clear hq
  obtain ⟨m, d, rfl, hm, hd, hap⟩ := hv
  obtain ⟨mo, ml, mc, rfl⟩ := hm.sl
  obtain ⟨mO, mL, mC, rfl⟩ := hd.sl
  generalize hbb : decide ((0 : Rat).num < 0) = bb
  have hown : ROwn (g + 1) w2 (.agg #[.bool bb, .slice mo ml mc, .slice mO mL mC]) (rs 0) := by rw [HR0.out]; exact ⟨_, _, by rw [← hbb], hm.mono hszz, hd.mono hszz, hap⟩
  clear hbb hm hd hap hszz
  replace qR := qR.below b
  replace hb := bstep hb b
  replace hsz := Nat.lt_of_lt_of_le hsz b.size
  clear b
  have hszP := hsz
  obtain ⟨W3, hW3⟩ : ∃ W, W = w2.alloc (.cells #[.bool bb, .slice mo ml mc, .slice mO mL mC] 27) := ⟨_, rfl⟩
  have qA : QCell W3 (w2.heap.size) bb (.slice mo ml mc) (.slice mO mL mC) := by rw [hW3]; exact (qcell_new _ rfl)
  have b : Below w2.heap.size w2 W3 := by rw [hW3]; exact belowA _ _
  replace hown := hown.below b
  replace qR := qR.below b
  replace hb := bstep hb b
  replace hsz := Nat.lt_of_lt_of_le hsz b.size
  clear b
  have rqR0 : (w2.alloc (.cells #[.bool bb, .slice mo ml mc, .slice mO mL mC] 27)).cell? ⟨g, 0, none⟩ = some (.bool false) := by rw [← hW3]; exact qR.cells.1
  have rqR1 : (w2.alloc (.cells #[.bool bb, .slice mo ml mc, .slice mO mL mC] 27)).cell? ⟨g, 1, none⟩ = some (.slice none 0 0) := by rw [← hW3]; exact qR.cells.2.1
  have rqR2 : (w2.alloc (.cells #[.bool bb, .slice mo ml mc, .slice mO mL mC] 27)).cell? ⟨g, 2, none⟩ = some (.slice none 0 0) := by rw [← hW3]; exact qR.cells.2.2
  have rqA0 : (w2.alloc (.cells #[.bool bb, .slice mo ml mc, .slice mO mL mC] 27)).cell? ⟨w2.heap.size, 0, none⟩ = some (.bool bb) := by rw [← hW3]; exact qA.cells.1
  have rqA1 : (w2.alloc (.cells #[.bool bb, .slice mo ml mc, .slice mO mL mC] 27)).cell? ⟨w2.heap.size, 1, none⟩ = some (.slice mo ml mc) := by rw [← hW3]; exact qA.cells.2.1
  have rqA2 : (w2.alloc (.cells #[.bool bb, .slice mo ml mc, .slice mO mL mC] 27)).cell? ⟨w2.heap.size, 2, none⟩ = some (.slice mO mL mC) := by rw [← hW3]; exact qA.cells.2.2
  obtain ⟨v3, hv3⟩ : ∃ v, v = w2.heap.size := ⟨_, rfl⟩
  rw [← hv3] at qA
  have HW3 : Hid (W3 = w2.alloc (.cells #[.bool bb, .slice mo ml mc, .slice mO mL mC] 27)) := hW3
  have Hv3 : Hid (v3 = w2.heap.size) := hv3
  clear hW3 hv3
  go_wp2_with fail
  rw [← HW3.out, ← Hv3.out]
  have hgA : g < v3 := by rw [Hv3.out]; exact hszP
  clear hszP
  clear HW3 Hv3 rqR0 rqR1 rqR2 rqA0 rqA1 rqA2
  go_loopw [4] (fun iv wr => ∃ i : Nat, i ≤ n ∧ iv = .int .i64 i ∧ ∃ bb mo ml mc mO mL mC, Below w.heap.size w wr ∧ QCell wr v3 bb (.slice mo ml mc) (.slice mO mL mC) ∧ ROwn (g + 1) wr (.agg #[.bool bb, .slice mo ml mc, .slice mO mL mC]) (rs i) ∧ QCell wr g false (.slice none 0 0) (.slice none 0 0)) (fun iv _ => n - (intOf iv).toNat)
  case atStart => exact ⟨0, Nat.zero_le _, rfl, _, _, _, _, _, _, _, hb, qA, hown, qR⟩
  case round =>
    clear hb qA hown qR hsz
    obtain ⟨i, hi, rfl, bb, mo, ml, mc, mO, mL, mC, hb, qA, hown, qR⟩ := hrel
    have hsz : v3 < wr.heap.size := (Array.getElem?_eq_some_iff.1 (show wr.heap[v3]? = _ from qA)).1
    have hszg : g < wr.heap.size := (Array.getElem?_eq_some_iff.1 (show wr.heap[g]? = _ from qR)).1
    by_cases hlt : i < n
    · have hlt2 : (i : Int) < (n : Int) := by omega
      obtain ⟨⟨b0, off, rfl, k0, k1, k2⟩, hA⟩ := (HR.out.below hb) i hlt
      obtain ⟨l1, l2⟩ := HL.out i hlt
      have hs := HST.out i
      generalize F i = f at *
      obtain ⟨ne, eo, el, ec, eO, eL, eC, xs, ys⟩ := f
      obtain ⟨h1, h2⟩ := hA
      simp only [FV.r] at k0 k1 k2 h1 h2 l1 l2 hs
      have ib : IB wr (.agg #[.bool ne, .slice eo el ec]) (zv ne (val xs)) 40 := ⟨_, _, _, _, _, rfl, h1, l1, rfl⟩
      have db : NB wr (.slice eO eL eC) ((val ys : Nat) : Int) 40 := ⟨_, _, _, _, rfl, h2, l2, rfl⟩
      obtain ⟨n1, o1, s1, c1, o2, s2, c2, e1, ia, da⟩ := hown.seeB (HSUM.out i hi)
      simp only [Value.agg.injEq, Array.mk.injEq, List.cons.injEq, Value.bool.injEq, Value.slice.injEq, and_true] at e1
      obtain ⟨rfl, ⟨rfl, rfl, rfl⟩, rfl, rfl, rfl⟩ := e1
      have hs2 : rq (rs i).num (rs i).den + rq (zv ne (val xs)) (val ys) = rs (i + 1) := by rw [rq_std]; exact hs.symm
      have HS2 : Hid (rq (rs i).num (rs i).den + rq (zv ne (val xs)) (val ys) = rs (i + 1)) := hs2
      clear hs hs2 h1 h2 l1 l2
      have KEEP : ∀ u, Below wr.heap.size wr u → AllL u [(0, fun w' => w'.cell? ⟨v3, 0, none⟩ = some (.bool bb) ∧ w'.cell? ⟨v3, 1, none⟩ = some (.slice mo ml mc) ∧ w'.cell? ⟨v3, 2, none⟩ = some (.slice mO mL mC)), (4, fun w' => w'.cell? ⟨b0, off + i * 3, none⟩ = some (.bool ne) ∧ w'.cell? ⟨b0, off + i * 3 + 1, none⟩ = some (.slice eo el ec) ∧ w'.cell? ⟨b0, off + i * 3 + 2, none⟩ = some (.slice eO eL eC))] := fun u B => ⟨(qA.below B).cells, ⟨keepB B k0, keepB B k1, keepB B k2⟩, trivial⟩
      have hlo : i * 41 + 1 + 40 ≤ 1400 := by omega
      go_wp2_with fail
      refine region_late [(0, fun w' => w'.cell? ⟨v3, 0, none⟩ = some (.bool bb) ∧ w'.cell? ⟨v3, 1, none⟩ = some (.slice mo ml mc) ∧ w'.cell? ⟨v3, 2, none⟩ = some (.slice mO mL mC)), (4, fun w' => w'.cell? ⟨b0, off + i * 3, none⟩ = some (.bool ne) ∧ w'.cell? ⟨b0, off + i * 3 + 1, none⟩ = some (.slice eo el ec) ∧ w'.cell? ⟨b0, off + i * 3 + 2, none⟩ = some (.slice eO eL eC))] (by kernel_rfl) ?_
      have BZ : Below wr.heap.size wr wr.drew := below_drew' _
      obtain ⟨wz, hwz⟩ : ∃ u, u = wr.drew := ⟨_, rfl⟩
      rw [← hwz] at BZ ⊢
      clear hwz
      have hHeld := KEEP _ BZ
      refine late_take 0 (v := .agg #[.bool bb, .slice mo ml mc, .slice mO mL mC]) rfl (by kernel_rfl) (List.Mem.head _) (by kernel_rfl) (by kernel_rfl) (by kernel_rfl) (by kernel_rfl) (fun _ _ _ h => h) (Or.inl ⟨by rfl, ?_⟩) hHeld ?_
      · (intro u hu; (try dsimp only at hu); go_split_ands; go_simp)
      (try simp only [Act.put, List.setIfInBounds_toArray, List.set_cons_zero, List.set_cons_succ])
      refine late_free 1 (v := .slice (some ⟨b0, off, none⟩) n cap) rfl (by kernel_rfl) (by kernel_rfl) (by kernel_rfl) (by kernel_rfl) (by kernel_rfl) (by kernel_rfl) (fun _ _ _ h => h) (Or.inl ⟨by rfl, ?_⟩) hHeld ?_
      · (intro u _; go_simp)
      (try simp only [Act.put, List.setIfInBounds_toArray, List.set_cons_zero, List.set_cons_succ])
      refine late_free 2 (v := .int .i64 (i : Int)) rfl (by kernel_rfl) (by kernel_rfl) (by kernel_rfl) (by kernel_rfl) (by kernel_rfl) (by kernel_rfl) (fun _ _ _ h => h) (Or.inl ⟨by rfl, ?_⟩) hHeld ?_
      · (intro u _; go_simp)
      (try simp only [Act.put, List.setIfInBounds_toArray, List.set_cons_zero, List.set_cons_succ])
      refine late_free 3 (v := .pointer (some ⟨b0, off + i * 3, none⟩)) rfl (by kernel_rfl) (by kernel_rfl) (by kernel_rfl) (by kernel_rfl) (by kernel_rfl) (by kernel_rfl) (fun _ _ _ h => h) (Or.inl ⟨by rfl, ?_⟩) hHeld ?_
      · (intro u _; go_simp)
      (try simp only [Act.put, List.setIfInBounds_toArray, List.set_cons_zero, List.set_cons_succ])
      refine late_take 4 (v := .agg #[.bool ne, .slice eo el ec, .slice eO eL eC]) rfl (by kernel_rfl) (List.Mem.tail _ (List.Mem.head _)) (by kernel_rfl) (by kernel_rfl) (by kernel_rfl) (by kernel_rfl) (fun _ _ _ h => h) (Or.inl ⟨by rfl, ?_⟩) hHeld ?_
      · (intro u hu; (try dsimp only at hu); go_split_ands; go_simp)
      (try simp only [Act.put, List.setIfInBounds_toArray, List.set_cons_zero, List.set_cons_succ])
      refine late_step 5 (by kernel_rfl) rfl (fun K hK => ?_)
      go_simp
      have hq := add3 bb mo mO ml mc mL mC ne eo eO el ec eL eC (ia.below BZ) (da.below BZ) (by omega) (ib.below BZ) (db.below BZ) (by decide) hlo
      rw [HS2.out] at hq
      have hszz : v3 < wz.heap.size := Nat.lt_of_lt_of_le hsz BZ.size
      have hszy : g + 1 ≤ wz.heap.size := Nat.lt_of_lt_of_le hszg BZ.size
      refine hq.mono ?_
      rintro e w9 ⟨v, rfl, hv, b9⟩
      clear hq
      obtain ⟨m, d, rfl, hm, hd, hap⟩ := hv
      obtain ⟨mo2, ml2, mc2, rfl⟩ := hm.sl
      obtain ⟨mO2, mL2, mC2, rfl⟩ := hd.sl
      obtain ⟨bb2, hbb2⟩ : ∃ b, b = decide ((rs (i + 1)).num < 0) := ⟨_, rfl⟩
      rw [← hbb2]
      have HBB : Hid (bb2 = decide ((rs (i + 1)).num < 0)) := hbb2
      clear hbb2
      have B9 : Below wr.heap.size wr w9 := bstep BZ b9
      replace hHeld := KEEP _ B9
      replace hb := bstep hb B9
      replace qA := qA.below B9
      replace qR := qR.below B9
      clear ia da ib db HS2 hlo hown
      go_wp2_with fail
      refine hK.out _ _ (AllL.kept hHeld) ?_
      clear hK K
      (try simp only [Act.put, List.setIfInBounds_toArray, List.set_cons_zero, List.set_cons_succ])
      have HN1 : Hid (Below w.heap.size w (((w9.setCell ⟨v3, 0, none⟩ (.bool bb2)).setCell ⟨v3, 1, none⟩ (.slice mo2 ml2 mc2)).setCell ⟨v3, 2, none⟩ (.slice mO2 mL2 mC2))) := iend3 hb (by have := HG.out; omega)
      have HN2 : Hid (QCell (((w9.setCell ⟨v3, 0, none⟩ (.bool bb2)).setCell ⟨v3, 1, none⟩ (.slice mo2 ml2 mc2)).setCell ⟨v3, 2, none⟩ (.slice mO2 mL2 mC2)) (v3) bb2 (.slice mo2 ml2 mc2) (.slice mO2 mL2 mC2)) := qA.write _ _ _
      have HN3 : Hid (ROwn (g + 1) (((w9.setCell ⟨v3, 0, none⟩ (.bool bb2)).setCell ⟨v3, 1, none⟩ (.slice mo2 ml2 mc2)).setCell ⟨v3, 2, none⟩ (.slice mO2 mL2 mC2)) (.agg #[.bool bb2, .slice mo2 ml2 mc2, .slice mO2 mL2 mC2]) (rs (i + 1))) := rown_store HBB.out hm hd hap hszz hszy
      have HN4 : Hid (QCell (((w9.setCell ⟨v3, 0, none⟩ (.bool bb2)).setCell ⟨v3, 1, none⟩ (.slice mo2 ml2 mc2)).setCell ⟨v3, 2, none⟩ (.slice mO2 mL2 mC2)) g false (.slice none 0 0) (.slice none 0 0)) := ((qR.other (by omega) _ _).other (by omega) _ _).other (by omega) _ _
      obtain ⟨y0, y1, y2⟩ := qA.cells
      have f0 := qA.thaw 0
      have f1 := qA.thaw 1
      have f2 := qA.thaw 2
      clear HBB hm hd hap hszz hszy hsz hszg hb qA qR B9 BZ b9 KEEP k0 k1 k2
      refine late_step 6 (by kernel_rfl) rfl (fun K hK => ?_)
      go_simp
      refine hK.out _ _ ⟨Or.inl ⟨5, by kernel_rfl, by kernel_rfl⟩, Or.inl ⟨5, by kernel_rfl, by kernel_rfl⟩, trivial⟩ ?_
      clear hK K
      (try simp only [Act.put, List.setIfInBounds_toArray, List.set_cons_zero, List.set_cons_succ])
      refine late_done (by kernel_rfl) ?_ _
      clear hHeld y0 y1 y2 f0 f1 f2
      go_wp2_with fail
      go_roundw
      case rel => exact ⟨i + 1, by omega, by go_num, _, _, _, _, _, _, _, HN1.out, HN2.out, HN3.out, HN4.out⟩
      case measure => simp [intOf]; omega
    · have hin : i = n := by omega
      subst hin
      have hlt2 : ¬ (i : Int) < (i : Int) := by omega
      obtain ⟨m, d, he, hm, hd, hap⟩ := hown
      simp only [Value.agg.injEq, Array.mk.injEq, List.cons.injEq, Value.bool.injEq, and_true] at he
      obtain ⟨hbb, rfl, rfl⟩ := he
      have qq := qR
      have HE : Hid (REnd w (rs i) (.returned (.agg #[.bool bb, .slice mo ml mc, .slice mO mL mC])) (((wr.setCell ⟨g, 0, none⟩ (.bool bb)).setCell ⟨g, 1, none⟩ (.slice mo ml mc)).setCell ⟨g, 2, none⟩ (.slice mO mL mC))) := rat_done hbb (by rw [HG.out]; exact Nat.le_refl _) hm hd hap (Nat.lt_succ_self g) hb
      have HW : Hid (QCell (((wr.setCell ⟨g, 0, none⟩ (.bool bb)).setCell ⟨g, 1, none⟩ (.slice mo ml mc)).setCell ⟨g, 2, none⟩ (.slice mO mL mC)) g bb (.slice mo ml mc) (.slice mO mL mC)) := qq.write _ _ _
      obtain ⟨y0, y1, y2⟩ := qR.cells
      have f0 := qR.thaw 0
      have f1 := qR.thaw 1
      have f2 := qR.thaw 2
      obtain ⟨c0, c1, c2⟩ := qA.cells
      clear hbb hm hd hap hb hsz hszg qq qA qR
      go_wp2_with fail
      (try simp only [Exit.inBlock, Exit.then])
      exact bodyPost_ret (results_cell_row rfl _ _ (g) 27 _ (0, 0) _ rfl HW.out Tryz.underlying27 rfl (by kernel_rfl)) rfl HE.out
end Go.Proofs.YtnehfkbpbgmbaaaGreatDoor

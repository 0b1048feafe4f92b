/-
  Proved here: the walk of FracSum.
  Proved here: a slice of limbs that was handed in is a number that can be read.
  Proved here: a fraction that is handed in by value, opened. No condition.
  Proved here: a list of fractions that is handed in, opened. No condition.
-/
import Derived.Test.YtnehfkbpbgmbaaaGreatDoorMakeE3All
import Derived.Test.YtnehfkbpbgmbaaaGreatDoorArithE3All
import Derived.Test.YtnehfkbpbgmbaaaGreatDoorFracRowsAll
import Derived.Test.YtnehfkbpbgmbaaaGreatDoorSum3
import Derived.Test.YtnehfkbpbgmbaaaGreatDoorFracRows3All
import Derived.Test.YtnehfkbpbgmbaaaGreatDoorTrimAll
import Derived.OpenShut
import Derived.ProofKit
import Derived.ShutString
import Derived.ChangeOld
import Derived.Lib.SmallJoins
import Derived.Deep.Slices
namespace Go.Proofs.YtnehfkbpbgmbaaaGreatDoor
open Go.RowKit

theorem row_see {B n : Nat} {w : World} {v : Value} {F : Nat → FV} (h : w.ownsRow B 27 3 v n (fl3 F n)) (ha : ∀ i, i < n → (F i).At w) : ∃ lo cap, v = .slice lo n cap ∧ FRow w lo n F := by
  rcases h.2 with ⟨rfl, hn⟩ | ⟨g, cap, cur, rfl, _⟩
  · subst hn
    exact ⟨none, 0, rfl, FRow.nil _ _ _⟩
  · exact ⟨_, cap, rfl, FRow.of_own h ha⟩
theorem LentAll.rrow {S n : Nat} {F : Nat → FV} {w : World} {v : Value} (h : LentAll S n F w v) (hl : ∀ i, i < n → (F i).xs.length ≤ 40 ∧ (F i).ys.length ≤ 40) : ∃ g cap, v = .slice (some ⟨g, 0, none⟩) n cap ∧ RRow w g n (fun i => (F i).r) 40 := by
  obtain ⟨g, cap, G, e, h1, h2, hG, hA⟩ := h.ex
  refine ⟨g, cap, e, fun i hi => ?_⟩
  have c : ∀ j u, j < 3 → (G i).cells[j]? = some u → w.cell? ⟨g, i * 3 + j, none⟩ = some u := fun j u hj hu => by
    rw [World.ownsRow.cellAt hG (i * 3 + j) (by omega), fl3_at G (n + 5) i j (by omega) hj, hu]
  rcases hA i (by omega) with ⟨_, hn, ra, rb⟩ | ⟨h9, _⟩
  · refine ⟨_, _, _, _, _, _, _, c 0 _ (by decide) rfl, c 1 _ (by decide) rfl, c 2 _ (by decide) rfl, ?_⟩
    rw [hn]
    exact (RV.of ra.own.num rb.own.num (hl i hi).1 (hl i hi).2).rn
  · omega
theorem sum_len {n : Nat} {lo : Option Addr} {F : Nat → FV} {w : World} (hr : FRow w lo n F) (hn : n ≤ 30) (hl : ∀ i, i < n → (F i).xs.length ≤ 40 ∧ (F i).ys.length ≤ 40) : (lim (rsum (fun i => (F i).r) n).num.natAbs).length ≤ 1099511627776 ∧ (lim (rsum (fun i => (F i).r) n).den).length ≤ 1099511627776 := by
  have hsum : ∀ i, i ≤ n → RSz (rsum (fun i => (F i).r) i) (i * 41 + 1) := by
    intro i
    induction i with
    | zero => intro _; rw [Nat.zero_mul]; exact RSz.zero
    | succ i ih =>
      intro hi
      obtain ⟨_, hA⟩ := hr i (by omega)
      obtain ⟨l1, l2⟩ := hl i (by omega)
      have h1 := ih (by omega)
      rw [rsum_succ]
      have hs := (RV.of (n := (F i).n) hA.num hA.den l1 l2).sz
      have h2 := rsz_add (p := (rsum (fun i => (F i).r) i).num) (q := (rsum (fun i => (F i).r) i).den) (p' := zv (F i).n (val (F i).xs)) (q' := val (F i).ys) h1.num (by unfold und; rw [if_neg (Rat.den_nz _)]; exact h1.den) hs.1 hs.2
      rw [rq_std] at h2
      exact h2.mono (by rw [Nat.succ_mul]; omega)
  have h := hsum n (Nat.le_refl _)
  exact ⟨Nat.le_trans h.num.len (by omega), Nat.le_trans (show _ ≤ _ from by have := h.den.len; rwa [Int.natAbs_natCast] at this) (by omega)⟩
set_option maxRecDepth 100000 in
set_option maxHeartbeats 6400000 in
theorem fracSum_top (lo : Option Addr) (n cap : Nat) (F : Nat → FV) (w : World) (hr : FRow w lo n F) (hn : n ≤ maxLen) :
    Calls Tryz.prog 4 #[.slice lo n cap] w fun e w' => e = .returned (.bool true) ∧ Below w.heap.size w w' := by
  have HN : Hid (n ≤ maxLen) := hn
  clear hn
  go_enter Tryz.func4, Tryz.ntmps4
  go_wp2_with fail
  have hb : Below w.heap.size w w := Below.refl _ _
  refine (l_awake).mono ?_
  rintro e w2 ⟨rfl, b⟩
  replace hr := hr.below b
  replace hb := bstep hb b
  clear b
  go_wp2_with fail
  refine (cutAll3 lo n cap F _ hr HN.out).mono ?_
  rintro e w3 ⟨v, rfl, hO, b⟩
  have HK : Hid (min n 30 ≤ 30) := Nat.min_le_right _ _
  obtain ⟨Fc, hFc⟩ : ∃ Fc : Nat → FV, Fc = fun i => (F i).cut 40 := ⟨_, rfl⟩
  rw [← hFc] at hO
  have hAt : ∀ i, i < min n 30 → (Fc i).At w3 := fun i hi => by rw [hFc]; exact ((hr i (by omega)).2.cut 40).below b
  have HL40 : Hid (∀ i, i < min n 30 → (Fc i).xs.length ≤ 40 ∧ (Fc i).ys.length ≤ 40) := fun i _ => by rw [hFc]; exact FV.cut_len _ _
  clear hFc hr
  generalize min n 30 = k at *
  obtain ⟨lo2, cap2, rfl, hr⟩ := row_see hO hAt
  clear hO hAt
  replace hb := bstep hb b
  clear b
  go_wp2_with fail
  refine (lendAll3 lo2 k cap2 Fc _ hr (Nat.le_trans HK.out (by decide)) (fun i hi => ⟨Nat.le_trans (HL40.out i hi).1 (by decide), Nat.le_trans (HL40.out i hi).2 (by decide)⟩)).mono ?_
  rintro e w4 ⟨v, rfl, hL, b⟩
  replace hr := hr.below b
  replace hb := bstep hb b
  clear b
  obtain ⟨g5, cap5, hv5, hRR⟩ := hL.rrow HL40.out
  subst hv5
  obtain ⟨B0, hB0e⟩ : ∃ B, B = w4.heap.size := ⟨_, rfl⟩
  have hB0 : B0 ≤ w4.heap.size := Nat.le_of_eq hB0e
  have HB0 : Hid (B0 = w4.heap.size) := hB0e
  clear hB0e
  have HWB : Hid (w.heap.size ≤ B0) := by show _ ≤ _; rw [HB0.out]; exact hb.size
  have HL3 : Hid (LentAll _ k Fc w4 _) := hL
  have HR3 : Hid (FRow w4 lo2 k Fc) := hr
  clear hL
  have hb3 : Below w4.heap.size w4 w4 := Below.refl _ _
  have SF := fun W (h : RRow W g5 k (fun i => (Fc i).r) 40) => ((c_rsum (some ⟨g5, 0, none⟩) g5 k cap5 (fun i => (Fc i).r) 40 W (fun _ => rfl) h (by have := HK.out; omega)).mono fun _ _ h => h.ae)
  have SR := fun W (h : FRow W lo2 k Fc) => ((sum3 lo2 k cap2 Fc W h HK.out HL40.out).mono fun _ _ h => h.ae)
  have HSZ : Hid _ := sum_len HR3.out HK.out HL40.out
  generalize rsum (fun i => (Fc i).r) k = r at *
  unfold AE at SF SR
  generalize decide (r.num < 0) = s0 at *
  generalize lim r.num.natAbs = xm at *
  generalize lim r.den = xd at *
  obtain ⟨lx, hlx⟩ : ∃ l, l = xm.length := ⟨_, rfl⟩
  obtain ⟨lX, hlX⟩ : ∃ l, l = xd.length := ⟨_, rfl⟩
  simp only [← hlx, ← hlX] at SF SR
  clear hlx hlX
  go_wp2_with fail
  refine (SF _ hRR).mono ?_
  rintro e w5 ⟨so, sc, sO, sC, rfl, hs1, hs2, ps, b⟩
  replace hs1 := hs1.mono hB0
  replace hs2 := hs2.mono hB0
  replace hr := hr.below b
  replace hRR := hRR.below b
  replace hB0 := Nat.le_trans hB0 b.size
  replace hb3 := bstep hb3 b
  replace hb := bstep hb b
  clear b
  have hq0 : QCell (w5.alloc (.cells #[.bool false, .slice none 0 0, .slice none 0 0] 27)) w5.heap.size false (.slice none 0 0) (.slice none 0 0) := qcell_new _ rfl
  obtain ⟨W6, hW6⟩ : ∃ W, W = w5.alloc (.cells #[.bool s0, .slice so lx sc, .slice sO lX sC] 27) := ⟨_, rfl⟩
  have qs : QCell W6 (w5.heap.size) s0 (.slice so lx sc) (.slice sO lX sC) := by rw [hW6]; exact qcell_new _ rfl
  have b : Below w5.heap.size w5 W6 := by rw [hW6]; exact belowA _ _
  obtain ⟨z0, z1, z2⟩ := hq0.cells
  have t0 := hq0.thaw 0
  have t1 := hq0.thaw 1
  have t2 := hq0.thaw 2
  clear hq0
  replace hr := hr.below b
  replace hRR := hRR.below b
  replace hB0 := Nat.le_trans hB0 b.size
  replace hb3 := bstep hb3 b
  replace hs1 := hs1.below b
  replace hs2 := hs2.below b
  replace hb := bstep hb b
  clear b
  have rqs0 : (w5.alloc (.cells #[.bool s0, .slice so lx sc, .slice sO lX sC] 27)).cell? ⟨w5.heap.size, 0, none⟩ = some (.bool s0) := by rw [← hW6]; exact qs.cells.1
  have rqs1 : (w5.alloc (.cells #[.bool s0, .slice so lx sc, .slice sO lX sC] 27)).cell? ⟨w5.heap.size, 1, none⟩ = some (.slice so lx sc) := by rw [← hW6]; exact qs.cells.2.1
  have rqs2 : (w5.alloc (.cells #[.bool s0, .slice so lx sc, .slice sO lX sC] 27)).cell? ⟨w5.heap.size, 2, none⟩ = some (.slice sO lX sC) := by rw [← hW6]; exact qs.cells.2.2
  obtain ⟨v6, hv6⟩ : ∃ v, v = w5.heap.size := ⟨_, rfl⟩
  rw [← hv6] at qs
  have HW6 : Hid (W6 = w5.alloc (.cells #[.bool s0, .slice so lx sc, .slice sO lX sC] 27)) := hW6
  have Hv6 : Hid (v6 = w5.heap.size) := hv6
  clear hW6 hv6
  go_wp2_with fail
  rw [← HW6.out, ← Hv6.out]
  clear HW6 Hv6 z0 t0 z1 t1 z2 t2 rqs0 rqs1 rqs2 
  refine (SF _ hRR).mono ?_
  rintro e w7 ⟨to_, tc, tO, tC, rfl, ht1, ht2, pt, b⟩
  clear SF
  have p1 := apart_later hs1 ht1 (Nat.le_refl _)
  have p2 := apart_later hs1 ht2 (Nat.le_refl _)
  have p3 := apart_later hs2 ht1 (Nat.le_refl _)
  have p4 := apart_later hs2 ht2 (Nat.le_refl _)
  replace ht1 := ht1.mono hB0
  replace ht2 := ht2.mono hB0
  replace hr := hr.below b
  replace hRR := hRR.below b
  replace hB0 := Nat.le_trans hB0 b.size
  replace hb3 := bstep hb3 b
  replace hs1 := hs1.below b
  replace hs2 := hs2.below b
  replace qs := qs.below b
  replace hb := bstep hb b
  clear b
  have hq0 : QCell (w7.alloc (.cells #[.bool false, .slice none 0 0, .slice none 0 0] 27)) w7.heap.size false (.slice none 0 0) (.slice none 0 0) := qcell_new _ rfl
  obtain ⟨W8, hW8⟩ : ∃ W, W = w7.alloc (.cells #[.bool s0, .slice to_ lx tc, .slice tO lX tC] 27) := ⟨_, rfl⟩
  have qt : QCell W8 (w7.heap.size) s0 (.slice to_ lx tc) (.slice tO lX tC) := by rw [hW8]; exact qcell_new _ rfl
  have b : Below w7.heap.size w7 W8 := by rw [hW8]; exact belowA _ _
  obtain ⟨z0, z1, z2⟩ := hq0.cells
  have t0 := hq0.thaw 0
  have t1 := hq0.thaw 1
  have t2 := hq0.thaw 2
  clear hq0
  replace hr := hr.below b
  replace hRR := hRR.below b
  replace hB0 := Nat.le_trans hB0 b.size
  replace hb3 := bstep hb3 b
  replace hs1 := hs1.below b
  replace hs2 := hs2.below b
  replace ht1 := ht1.below b
  replace ht2 := ht2.below b
  replace qs := qs.below b
  replace hb := bstep hb b
  clear b
  have rqs0 : (w7.alloc (.cells #[.bool s0, .slice to_ lx tc, .slice tO lX tC] 27)).cell? ⟨v6, 0, none⟩ = some (.bool s0) := by rw [← hW8]; exact qs.cells.1
  have rqs1 : (w7.alloc (.cells #[.bool s0, .slice to_ lx tc, .slice tO lX tC] 27)).cell? ⟨v6, 1, none⟩ = some (.slice so lx sc) := by rw [← hW8]; exact qs.cells.2.1
  have rqs2 : (w7.alloc (.cells #[.bool s0, .slice to_ lx tc, .slice tO lX tC] 27)).cell? ⟨v6, 2, none⟩ = some (.slice sO lX sC) := by rw [← hW8]; exact qs.cells.2.2
  have rqt0 : (w7.alloc (.cells #[.bool s0, .slice to_ lx tc, .slice tO lX tC] 27)).cell? ⟨w7.heap.size, 0, none⟩ = some (.bool s0) := by rw [← hW8]; exact qt.cells.1
  have rqt1 : (w7.alloc (.cells #[.bool s0, .slice to_ lx tc, .slice tO lX tC] 27)).cell? ⟨w7.heap.size, 1, none⟩ = some (.slice to_ lx tc) := by rw [← hW8]; exact qt.cells.2.1
  have rqt2 : (w7.alloc (.cells #[.bool s0, .slice to_ lx tc, .slice tO lX tC] 27)).cell? ⟨w7.heap.size, 2, none⟩ = some (.slice tO lX tC) := by rw [← hW8]; exact qt.cells.2.2
  obtain ⟨v8, hv8⟩ : ∃ v, v = w7.heap.size := ⟨_, rfl⟩
  rw [← hv8] at qt
  have HW8 : Hid (W8 = w7.alloc (.cells #[.bool s0, .slice to_ lx tc, .slice tO lX tC] 27)) := hW8
  have Hv8 : Hid (v8 = w7.heap.size) := hv8
  clear hW8 hv8
  go_wp2_with fail
  rw [← HW8.out, ← Hv8.out]
  clear HW8 Hv8 z0 t0 z1 t1 z2 t2 rqs0 rqs1 rqs2 rqt0 rqt1 rqt2 
  clear hRR
  have KEEP : ∀ u, Below W8.heap.size W8 u → AllL u [(0, fun w' => w'.cell? ⟨v6, 0, none⟩ = some (.bool s0) ∧ w'.cell? ⟨v6, 1, none⟩ = some (.slice so lx sc) ∧ w'.cell? ⟨v6, 2, none⟩ = some (.slice sO lX sC)), (5, fun w' => w'.cell? ⟨v8, 0, none⟩ = some (.bool s0) ∧ w'.cell? ⟨v8, 1, none⟩ = some (.slice to_ lx tc) ∧ w'.cell? ⟨v8, 2, none⟩ = some (.slice tO lX tC)), (6, fun w' => w'.cell? ⟨v6, 0, none⟩ = some (.bool s0) ∧ w'.cell? ⟨v6, 1, none⟩ = some (.slice so lx sc) ∧ w'.cell? ⟨v6, 2, none⟩ = some (.slice sO lX sC))] := fun u B => ⟨(qs.below B).cells, (qt.below B).cells, (qs.below B).cells, trivial⟩
  refine region_late [(0, fun w' => w'.cell? ⟨v6, 0, none⟩ = some (.bool s0) ∧ w'.cell? ⟨v6, 1, none⟩ = some (.slice so lx sc) ∧ w'.cell? ⟨v6, 2, none⟩ = some (.slice sO lX sC)), (5, fun w' => w'.cell? ⟨v8, 0, none⟩ = some (.bool s0) ∧ w'.cell? ⟨v8, 1, none⟩ = some (.slice to_ lx tc) ∧ w'.cell? ⟨v8, 2, none⟩ = some (.slice tO lX tC)), (6, fun w' => w'.cell? ⟨v6, 0, none⟩ = some (.bool s0) ∧ w'.cell? ⟨v6, 1, none⟩ = some (.slice so lx sc) ∧ w'.cell? ⟨v6, 2, none⟩ = some (.slice sO lX sC))] (by kernel_rfl) ?_
  have BZ : Below W8.heap.size W8 W8.drew := below_drew' _
  obtain ⟨wz, hwz⟩ : ∃ u, u = W8.drew := ⟨_, rfl⟩
  rw [← hwz] at BZ ⊢
  clear hwz
  have hHeld := KEEP _ BZ
  have khr := hr.below BZ
  have khs1 := hs1.num.below (Nat.le_refl _) BZ
  have khs2 := hs2.num.below (Nat.le_refl _) BZ
  have kht1 := ht1.num.below (Nat.le_refl _) BZ
  have kht2 := ht2.num.below (Nat.le_refl _) BZ
  refine late_take 0 (v := .agg #[.bool s0, .slice so lx sc, .slice sO lX sC]) rfl (by kernel_rfl) (List.Mem.head _) (by kernel_rfl) (by kernel_rfl) (by kernel_rfl) (by kernel_rfl) (fun _ _ _ h => h) (Or.inl ⟨by rfl, ?_⟩) hHeld ?_
  · (intro u hu; (try dsimp only at hu); go_split_ands; go_simp)
  (try simp only [Act.put, List.setIfInBounds_toArray, List.set_cons_zero, List.set_cons_succ])
  refine late_free 1 (v := .slice lo2 k cap2) rfl (by kernel_rfl) (by kernel_rfl) (by kernel_rfl) (by kernel_rfl) (by kernel_rfl) (by kernel_rfl) (fun _ _ _ h => h) (Or.inl ⟨by rfl, ?_⟩) hHeld ?_
  · (intro u _; go_simp)
  (try simp only [Act.put, List.setIfInBounds_toArray, List.set_cons_zero, List.set_cons_succ])
  refine late_step 2 (by kernel_rfl) rfl (fun K hK => ?_)
  go_simp
  refine (SR _ khr).mono ?_
  rintro e w9 ⟨xo, xc, yo, yc, rfl, hx, hy, _, b9⟩
  clear SR
  replace hx := hx.num
  replace hy := hy.num
  replace khr := khr.below b9
  replace khs1 := khs1.below (Nat.le_refl _) b9
  replace khs2 := khs2.below (Nat.le_refl _) b9
  replace kht1 := kht1.below (Nat.le_refl _) b9
  replace kht2 := kht2.below (Nat.le_refl _) b9
  have B9 : Below W8.heap.size W8 w9 := bstep BZ b9
  clear BZ b9
  replace hHeld := KEEP _ B9
  go_wp2_with fail
  refine hK.out _ _ (AllL.kept hHeld) ?_
  clear hK K
  (try simp only [Act.put, List.setIfInBounds_toArray, List.set_cons_zero, List.set_cons_succ])
  refine late_step 3 (by kernel_rfl) rfl (fun K hK => ?_)
  go_simp
  refine (same3 s0 so xo sO yo lx sc xc lX sC yc xm xd _ khs1 hx khs2 hy).mono ?_
  rintro e w10 ⟨rfl, b10⟩
  clear hx hy
  replace khr := khr.below b10
  replace khs1 := khs1.below (Nat.le_refl _) b10
  replace khs2 := khs2.below (Nat.le_refl _) b10
  replace kht1 := kht1.below (Nat.le_refl _) b10
  replace kht2 := kht2.below (Nat.le_refl _) b10
  have B10 : Below W8.heap.size W8 w10 := bstep B9 b10
  clear B9 b10
  replace hHeld := KEEP _ B10
  go_wp2_with fail
  refine hK.out _ _ (AllL.kept hHeld) ?_
  clear hK K
  (try simp only [Act.put, List.setIfInBounds_toArray, List.set_cons_zero, List.set_cons_succ])
  refine late_free 4 (v := .bool true) rfl (by kernel_rfl) (by kernel_rfl) (by kernel_rfl) (by kernel_rfl) (by kernel_rfl) (by kernel_rfl) (fun _ _ _ h => h) (Or.inl ⟨by rfl, ?_⟩) hHeld ?_
  · (intro u _; go_simp)
  (try simp only [Act.put, List.setIfInBounds_toArray, List.set_cons_zero, List.set_cons_succ])
  refine late_take 5 (v := .agg #[.bool s0, .slice to_ lx tc, .slice tO lX tC]) rfl (by kernel_rfl) (List.Mem.tail _ (List.Mem.head _)) (by kernel_rfl) (by kernel_rfl) (by kernel_rfl) (by kernel_rfl) (fun _ _ _ h => h) (Or.inl ⟨by rfl, ?_⟩) hHeld ?_
  · (intro u hu; (try dsimp only at hu); go_split_ands; go_simp)
  (try simp only [Act.put, List.setIfInBounds_toArray, List.set_cons_zero, List.set_cons_succ])
  refine late_take 6 (v := .agg #[.bool s0, .slice so lx sc, .slice sO lX sC]) rfl (by kernel_rfl) (List.Mem.tail _ (List.Mem.tail _ (List.Mem.head _))) (by kernel_rfl) (by kernel_rfl) (by kernel_rfl) (by kernel_rfl) (fun _ _ _ h => h) (Or.inl ⟨by rfl, ?_⟩) hHeld ?_
  · (intro u hu; (try dsimp only at hu); go_split_ands; go_simp)
  (try simp only [Act.put, List.setIfInBounds_toArray, List.set_cons_zero, List.set_cons_succ])
  refine late_step 7 (by kernel_rfl) rfl (fun K hK => ?_)
  go_simp
  refine (same3 s0 to_ so tO sO lx tc sc lX tC sC xm xd _ kht1 khs1 kht2 khs2).mono ?_
  rintro e w11 ⟨rfl, b11⟩
  replace khr := khr.below b11
  replace khs1 := khs1.below (Nat.le_refl _) b11
  replace khs2 := khs2.below (Nat.le_refl _) b11
  replace kht1 := kht1.below (Nat.le_refl _) b11
  replace kht2 := kht2.below (Nat.le_refl _) b11
  have B11 : Below W8.heap.size W8 w11 := bstep B10 b11
  clear B10 b11
  replace hHeld := KEEP _ B11
  go_wp2_with fail
  refine hK.out _ _ (AllL.kept hHeld) ?_
  clear hK K
  (try simp only [Act.put, List.setIfInBounds_toArray, List.set_cons_zero, List.set_cons_succ])
  refine late_free 8 (v := .bool true) rfl (by kernel_rfl) (by kernel_rfl) (by kernel_rfl) (by kernel_rfl) (by kernel_rfl) (by kernel_rfl) (fun _ _ _ h => h) (Or.inl ⟨by rfl, ?_⟩) hHeld ?_
  · (intro u _; go_simp)
  (try simp only [Act.put, List.setIfInBounds_toArray, List.set_cons_zero, List.set_cons_succ])
  refine late_step 9 (by kernel_rfl) rfl (fun K hK => ?_)
  go_simp
  refine hK.out _ _ ⟨Or.inl ⟨3, by kernel_rfl, by kernel_rfl⟩, Or.inl ⟨7, by kernel_rfl, by kernel_rfl⟩, Or.inl ⟨7, by kernel_rfl, by kernel_rfl⟩, trivial⟩ ?_
  clear hK K
  (try simp only [Act.put, List.setIfInBounds_toArray, List.set_cons_zero, List.set_cons_succ])
  refine late_done (by kernel_rfl) ?_ _
  clear KEEP hHeld khr khs1 khs2 kht1 kht2
  have b := B11
  clear B11
  replace hr := hr.below b
  replace hB0 := Nat.le_trans hB0 b.size
  replace hb3 := bstep hb3 b
  replace hs1 := hs1.below b
  replace hs2 := hs2.below b
  replace ht1 := ht1.below b
  replace ht2 := ht2.below b
  replace qs := qs.below b
  replace qt := qt.below b
  replace hb := bstep hb b
  clear b
  clear hr
  obtain ⟨WO, hWO⟩ : ∃ W, W = w11.alloc (.cells #[.bool s0, .slice so lx sc, .slice sO lX sC, .bool s0, .slice to_ lx tc, .slice tO lX tC] 27) := ⟨_, rfl⟩
  have hrow : ∀ i, i < 2 → WO.cell? ⟨w11.heap.size, i * 3 + 1, none⟩ = some (two (.slice so lx sc) (.slice to_ lx tc) i) ∧ WO.cell? ⟨w11.heap.size, i * 3 + 2, none⟩ = some (two (.slice sO lX sC) (.slice tO lX tC) i) := by
    intro i hi
    rw [hWO, World.cell?_alloc_at _ _ _ _ rfl, World.cell?_alloc_at _ _ _ _ rfl]
    match i, hi with
    | 0, _ => exact ⟨rfl, rfl⟩
    | 1, _ => exact ⟨rfl, rfl⟩
  have b : Below w11.heap.size w11 WO := by rw [hWO]; exact belowA _ _
  obtain ⟨cqs0, cqs1, cqs2⟩ := qs.cells
  obtain ⟨cqt0, cqt1, cqt2⟩ := qt.cells
  have HWO : Hid (WO = w11.alloc (.cells #[.bool s0, .slice so lx sc, .slice sO lX sC, .bool s0, .slice to_ lx tc, .slice tO lX tC] 27)) := hWO
  clear hWO
  go_wp2_with fail
  rw [← HWO.out]
  clear HWO cqs0 cqs1 cqs2 cqt0 cqt1 cqt2
  replace hB0 := Nat.le_trans hB0 b.size
  replace hb3 := bstep hb3 b
  replace hs1 := hs1.below b
  replace hs2 := hs2.below b
  replace ht1 := ht1.below b
  replace ht2 := ht2.below b
  replace qs := qs.below b
  replace qt := qt.below b
  replace hb := bstep hb b
  clear b
  have hfam := fam4 hs1 hs2 ht1 ht2
  have hdist := dist4 ps p1 p2 p3 p4 pt
  have hq := ownRats3 B0 _ 2 2 _ _ _ WO hB0 (by decide) (by decide) hrow (fun i hi => by match i, hi with | 0, _ => exact ⟨⟨_, _, _, rfl⟩, _, _, _, rfl⟩ | 1, _ => exact ⟨⟨_, _, _, rfl⟩, _, _, _, rfl⟩) hfam hdist (fun j hj => by
    match j, hj with
    | 0, _ => exact HSZ.out.1
    | 1, _ => exact HSZ.out.2
    | 2, _ => exact HSZ.out.1
    | 3, _ => exact HSZ.out.2)
  refine hq.mono ?_
  rintro e wK ⟨rfl, hx⟩
  clear hq
  replace hb := hb.trans (hx.below (B := w.heap.size) hb.size (fun j k hj e => Nat.le_trans HWB.out ((hfam j hj).block k e).1))
  replace hb3 := hb3.trans (hx.below (B := w4.heap.size) hb3.size (fun j k hj e => by rw [← HB0.out]; exact ((hfam j hj).block k e).1))
  have kl := HL3.out.below hb3
  have kr := HR3.out.below hb3
  clear hx hfam hdist hrow hs1 hs2 ht1 ht2 ps p1 p2 p3 p4 pt hB0 qs qt HL3 HR3 hb3 HSZ
  go_wp2_with fail
  refine (keptAll3 _ k cap2 lo2 Fc _ _ kl kr (Nat.le_trans HK.out (by decide)) (fun i hi => ⟨Nat.le_trans (HL40.out i hi).1 (by decide), Nat.le_trans (HL40.out i hi).2 (by decide)⟩)).mono ?_
  rintro e w12 ⟨rfl, b⟩
  clear kl kr
  replace hb := bstep hb b
  clear b
  have HE : Hid (Below w.heap.size w w12) := hb
  clear hb
  go_wp2
  go_ret
  exact ⟨rfl, HE.out⟩
end Go.Proofs.YtnehfkbpbgmbaaaGreatDoor

namespace Go.Proofs.YtnehfkbpbgmbaaaGreatDoor
open Go.RowKit

theorem num_of_ints {W : World} {x : Addr} {len cap : Nat} {zs : List Int} (hl : len ≤ cap) (hm : cap ≤ maxLen) (hz : zs.length = cap)
    (hcell : ∀ i, i < zs.length → W.cell? (x.add i) = some (.int .u32 (zs.getD i 0))) (hwz : ∀ n ∈ zs, (Lit.int .u32 n).wf = true) : ∃ xs, Num W (.slice (some x) len cap) xs := by
  have hlen : ((zs.take len).map Int.toNat).length = len := by simp; omega
  refine ⟨(zs.take len).map Int.toNat, ?_, some x, cap, by rw [hlen], by rw [hlen]; exact hl, hm, fun h => by simp at h, fun j hj => ?_⟩
  · intro y hy
    obtain ⟨z, hz', rfl⟩ := List.mem_map.1 hy
    have := bounds_u32 (hwz z (List.mem_of_mem_take hz'))
    omega
  · rw [hlen] at hj
    have hc := hcell j (by omega)
    obtain ⟨b, off, spot⟩ := x
    have hspot : spot = none := by
      have := World.cell?_spot (hcell 0 (by omega))
      simpa [Addr.add] using this
    subst hspot
    refine ⟨b, off, rfl, ?_⟩
    rw [Addr.add_lit] at hc
    rw [hc]
    have hjz : j < zs.length := by omega
    have hb := bounds_u32 (hwz _ (List.getElem_mem hjz))
    simp only [List.getD_eq_getElem?_getD, List.getElem?_eq_getElem hjz, List.getElem?_map, List.getElem?_take_of_lt hj, Option.map_some, Option.getD_some, U]
    rw [Int.toNat_of_nonneg hb.1]
end Go.Proofs.YtnehfkbpbgmbaaaGreatDoor

namespace Go.Proofs.YtnehfkbpbgmbaaaGreatDoor
open Go.ChangeShapes Go.WideShapes Go.ChangeAt Go.RowKit

theorem open_nat {H : Type} {enc : TypeId × Value → H} {W : World} {n : Nat} {c : Value} {y : DataW H × List MemPlace} (h : DataW.trod enc Tryz.prog W 0 (fun _ => true) true n 23 [c] = some y) : ∃ ao l cap xs, c = .slice ao l cap ∧ Num W (.slice ao l cap) xs := by
  rcases open_ints Tryz.underlying23 Tryz.underlying67 (by kernel_rfl) h with ⟨hcs, _⟩ | ⟨x, l, c, zs, hcs, _, hl, hm, hz, _, hcell, hwz⟩
  · simp only [List.cons.injEq, and_true] at hcs
    exact ⟨_, _, _, [], hcs, Num.of_nil _⟩
  · simp only [List.cons.injEq, and_true] at hcs
    obtain ⟨xs, hn⟩ := num_of_ints hl hm (by simpa using hz) hcell hwz
    exact ⟨_, _, _, xs, hcs, hn⟩
end Go.Proofs.YtnehfkbpbgmbaaaGreatDoor

namespace Go.Proofs.YtnehfkbpbgmbaaaGreatDoor
open Go.ChangeShapes Go.WideShapes Go.ChangeAt Go.RowKit

set_option maxRecDepth 100000 in
theorem open_rat_cells {H : Type} {enc : TypeId × Value → H} {W : World} {n : Nat} {cs : List Value} {y : DataW H × List MemPlace} (hf : DataW.trod enc Tryz.prog W 0 (fun _ => true) true n 27 cs = some y) :
    ∃ f : FV, cs = f.cells ∧ f.At W := by
  obtain ⟨y0, y1, n, _, hl, h0, h1⟩ := trod_struct2 Tryz.underlying27 hf
  rw [show Tryz.prog.cellsOf 27 = 3 by kernel_rfl] at hl
  match cs, hl with
  | [c0, c1, c2], _ =>
    have e0 : Tryz.prog.cellsOf 25 = 2 := by kernel_rfl
    have e1 : Tryz.prog.cellsOf 23 = 1 := by kernel_rfl
    have e2 : Tryz.prog.cellsOf 4 = 1 := by kernel_rfl
    have k0 : DataW.trod enc Tryz.prog W 0 (fun _ => true) true n 25 [c0, c1] = some y0 := by simpa [e0] using h0
    have k1 : DataW.trod enc Tryz.prog W 0 (fun _ => true) true n 23 [c2] = some y1 := by simpa [e1] using h1
    obtain ⟨z0, z1, n2, _, _, m0, m1⟩ := trod_struct2 Tryz.underlying25 k0
    have l0 : DataW.trod enc Tryz.prog W 0 (fun _ => true) true n2 4 [c0] = some z0 := by simpa [e2] using m0
    have l1 : DataW.trod enc Tryz.prog W 0 (fun _ => true) true n2 23 [c1] = some z1 := by simpa [e1] using m1
    obtain ⟨g, eg, _⟩ := DataW.trod_bool Tryz.underlying4 l0
    simp only [List.cons.injEq, and_true] at eg
    obtain ⟨ao, al, ac, xs, rfl, hx⟩ := open_nat l1
    obtain ⟨bo, bl, bc, ys, rfl, hy⟩ := open_nat k1
    subst eg
    exact ⟨⟨g, ao, al, ac, bo, bl, bc, xs, ys⟩, rfl, hx, hy⟩
theorem open_rats {H : Type} {enc : TypeId × Value → H} {W : World} {lo : Option Addr} {len cap : Nat} {d : DataW H} {p : List MemPlace} (h : DataW.Trod enc Tryz.prog W 0 (fun _ => true) true 36 (.slice lo len cap) d p) :
    ∃ F : Nat → FV, FRow W lo len F ∧ len ≤ maxLen := by
  obtain ⟨fuel, hf⟩ := h
  rcases Deep.open_slice Tryz.underlying36 hf with ⟨hcs, _⟩ | ⟨a, l, c, m, n, D, Pl, hcs, _, hl, hm, hmm, _, hx⟩
  · simp [Value.cells] at hcs
    obtain ⟨rfl, rfl, rfl⟩ := hcs
    exact ⟨fun _ => default, FRow.nil _ _ _, by unfold maxLen; omega⟩
  · simp [Value.cells] at hcs
    obtain ⟨rfl, rfl, rfl⟩ := hcs
    rw [show Tryz.prog.cellsOf 27 = 3 by kernel_rfl] at hx
    rw [if_pos rfl] at hmm
    obtain ⟨b, off, spot⟩ := a
    have key : ∀ i, i < len → ∃ f : FV, (∃ b' off', (some ⟨b, off, spot⟩ : Option Addr) = some ⟨b', off', none⟩ ∧ W.cell? ⟨b', off' + i * 3, none⟩ = some (.bool f.n) ∧ W.cell? ⟨b', off' + i * 3 + 1, none⟩ = some (.slice f.ao f.al f.ac) ∧ W.cell? ⟨b', off' + i * 3 + 2, none⟩ = some (.slice f.bo f.bl f.bc)) ∧ f.At W := by
      intro i hi
      have hs : spot = none := by
        obtain ⟨cs', h1, h2⟩ := hx 0 (by omega)
        obtain ⟨f, rfl, _⟩ := open_rat_cells h2
        have := (World.cells?_some h1).2.2 0 (by decide)
        have := World.cell?_spot (show W.cell? (((⟨b, off, spot⟩ : Addr).add (0 * 3)).add 0) = some (.bool f.n) from this)
        simpa [Addr.add] using this
      subst hs
      obtain ⟨cs', h1, h2⟩ := hx i (by omega)
      obtain ⟨f, rfl, hA⟩ := open_rat_cells h2
      have hc := (World.cells?_some h1).2.2
      have c : ∀ j u, j < 3 → f.cells[j]? = some u → W.cell? ⟨b, off + i * 3 + j, none⟩ = some u := fun j u hj hu => by
        have := hc j hj
        rw [Addr.add_lit, Addr.add_lit, hu] at this
        exact this
      exact ⟨f, ⟨b, off, rfl, c 0 _ (by decide) rfl, c 1 _ (by decide) rfl, c 2 _ (by decide) rfl⟩, hA⟩
    obtain ⟨F, hF⟩ := Deep.choose_lt key
    exact ⟨F, fun i hi => hF i hi, by omega⟩
end Go.Proofs.YtnehfkbpbgmbaaaGreatDoor

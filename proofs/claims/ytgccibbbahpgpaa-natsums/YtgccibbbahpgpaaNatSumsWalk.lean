/-
  Proved here: NatSums of any two numbers returns true, and writes nothing that was there.
-/
import Derived.Test.YtgccibbbahpgpaaAll
namespace Go.Proofs.Ytgccibbbahpgpaa
open Go.RowKit

theorem pow_dbl {a b k : Nat} (ha : a < 4294967296 ^ k) (hb : b < 4294967296 ^ k) : a + b < 4294967296 ^ (k + k + 1) ∧ a * b < 4294967296 ^ (k + k + 1) := by
  have h1 : a * b ≤ 4294967296 ^ k * 4294967296 ^ k := Nat.mul_le_mul (by omega) (by omega)
  rw [← Nat.pow_add] at h1
  have h3 : (4294967296 : Nat) ^ k ≤ 4294967296 ^ (k + k) := Nat.pow_le_pow_right (by decide) (by omega)
  have h4 : 0 < (4294967296 : Nat) ^ (k + k) := Nat.pow_pos (by decide)
  rw [Nat.pow_succ]
  generalize (4294967296 : Nat) ^ (k + k) = P at *
  generalize (4294967296 : Nat) ^ k = Q at *
  omega
theorem lim_dbl {n k : Nat} (h : n < 4294967296 ^ (k + k + 1)) (hk : k ≤ 1000) : (lim n).length ≤ 1099511627776 := Nat.le_trans (lim_len_le h) (by omega)
theorem sum_len {a b k : Nat} (ha : a < 4294967296 ^ k) (hb : b < 4294967296 ^ k) (hk : k ≤ 1000) : (lim (a + b)).length ≤ 1099511627776 := lim_dbl (pow_dbl ha hb).1 hk
theorem sums_lens {a b k : Nat} (ha : a < 4294967296 ^ k) (hb : b < 4294967296 ^ k) (hk : k ≤ 1000) (v1 v2 v3 v4 v5 v6 v7 v8 v9 v10 v11 v12 : Value) :
    ∀ q ∈ [(v1, lim a), (v2, lim a), (v3, lim (a + b)), (v4, lim (a + b)), (v5, lim (a - b)), (v6, lim (b - a)), (v7, lim (a * b)), (v8, lim (a * b)), (v9, lim a), (v10, lim a), (v11, lim (a + b)), (v12, lim (a * b))], q.2.length ≤ 1099511627776 := by
  have h := pow_dbl ha hb
  have h1 := lim_dbl h.1 hk
  have h2 := lim_dbl h.2 hk
  have h3 : (lim a).length ≤ 1099511627776 := lim_dbl (k := k) (by omega) hk
  have h4 : (lim (a - b)).length ≤ 1099511627776 := lim_dbl (k := k) (by omega) hk
  have h5 : (lim (b - a)).length ≤ 1099511627776 := lim_dbl (k := k) (by omega) hk
  intro q hq
  simp only [List.mem_cons, List.not_mem_nil, or_false] at hq
  rcases hq with rfl | rfl | rfl | rfl | rfl | rfl | rfl | rfl | rfl | rfl | rfl | rfl <;> assumption

set_option maxRecDepth 100000 in
set_option maxHeartbeats 16000000 in
theorem natSums_walk (vx vy : Value) (xs ys : List Nat) (w1 : World) (hx : Num w1 vx xs) (hy : Num w1 vy ys) :
    Calls Try.prog 3 #[vx, vy] w1 fun e w' => e = .returned (.bool true) ∧ Below w1.heap.size w1 w' := by
  go_enter Try.func3, Try.ntmps3
  go_wp2_with fail
  refine (cut_any _ _ 200 _ hx (by decide)).mono ?_
  rintro e w1 ⟨rfl, rfl⟩
  go_wp2_with fail
  refine (cut_any _ _ 200 _ hy (by decide)).mono ?_
  rintro e w1 ⟨rfl, rfl⟩
  have nx := hx.cut (k := min 200 xs.length) (Nat.min_le_right _ _)
  have ny := hy.cut (k := min 200 ys.length) (Nat.min_le_right _ _)
  have lx : (xs.take (min 200 xs.length)).length ≤ 200 := by simp; omega
  have ly : (ys.take (min 200 ys.length)).length ≤ 200 := by simp; omega
  generalize xs.take (min 200 xs.length) = X at *
  generalize ys.take (min 200 ys.length) = Y at *
  generalize cutTo vx (min 200 xs.length) = x at *
  generalize cutTo vy (min 200 ys.length) = y at *
  clear hx hy
  have hXl : X.length ≤ 1099511627775 := by omega
  have hYl : Y.length ≤ 1099511627775 := by omega
  go_wp2_with fail
  refine (roomy_any _ _ _ nx (by omega)).mono ?_
  rintro e wa ⟨a, rfl, ra, hba⟩
  go_wp2_with fail
  refine (roomy_any _ _ _ (ny.below (Nat.le_refl _) hba) (by omega)).mono ?_
  rintro e w2 ⟨b, rfl, rb, hbb⟩
  have ra2 := ra.below hbb
  have hB2 : Below w1.heap.size w1 w2 := hba.trans (hbb.mono hba.size)
  have rb2 := rb.mono hba.size
  have nx2 := nx.below (Nat.le_refl _) hB2
  have ny2 := ny.below (Nat.le_refl _) hB2
  have HB2 : Hid (Below w1.heap.size w1 w2) := hB2
  clear ra rb hba hbb nx ny hB2
  have hbel : Below w2.heap.size w2 w2 := Below.refl _ _
  have hsz : w2.heap.size ≤ w2.heap.size := Nat.le_refl _
  have na2 := ra2.own.num
  have nb2 := rb2.own.num
  go_wp2_with fail
  refine (uint_all _ _ _ na2).mono ?_
  rintro e w2 ⟨rfl, rfl⟩
  go_wp2_with fail
  refine (uint_ref _ _ _ nx2 (by omega)).mono ?_
  rintro e w3 ⟨rfl, hb⟩
  obtain ⟨hbel, hsz⟩ := nextB hbel hsz hb
  clear hb
  have f1 : (((uintN (val X) : Nat) : Int) != ((uintN (val X) : Nat) : Int)) = false := by simp
  have f2 : (uintB (val X) != uintB (val X)) = false := by simp
  generalize uintN (val X) = UN at *
  generalize uintB (val X) = UB at *
  go_wp2_with fail
  refine (bits_any _ _ _ (na2.below (Nat.le_refl _) hbel) (by omega)).mono ?_
  rintro e w3 ⟨rfl, rfl⟩
  go_wp2_with fail
  refine (bits_ref _ _ _ (nx2.below (Nat.le_refl _) hbel) (by omega)).mono ?_
  rintro e w4 ⟨rfl, hb⟩
  obtain ⟨hbel, hsz⟩ := nextB hbel hsz hb
  clear hb
  have f3 : (((bl (val X) : Nat) : Int) != ((bl (val X) : Nat) : Int)) = false := by simp
  generalize bl (val X) = BL at *
  go_wp2_with fail
  refine (cmp_any _ _ _ _ _ (na2.below (Nat.le_refl _) hbel) (nb2.below (Nat.le_refl _) hbel)).mono ?_
  rintro e w5 ⟨rfl, q, hq⟩
  have hb : Below w4.heap.size w4 w5 := by rw [hq]; exact belowD _ _
  clear hq
  obtain ⟨hbel, hsz⟩ := nextB hbel hsz hb
  clear hb
  go_wp2_with fail
  refine (cmp_ref _ _ _ _ _ (nx2.below (Nat.le_refl _) hbel) (ny2.below (Nat.le_refl _) hbel) (by omega) (by omega)).mono ?_
  rintro e w5 ⟨rfl, rfl⟩
  have f4 : ((cmpN (val X) (val Y)) != (cmpN (val X) (val Y))) = false := by simp
  generalize cmpN (val X) (val Y) = C4 at *
  go_wp2_with fail
  refine (cmp_any _ _ _ _ _ (nb2.below (Nat.le_refl _) hbel) (na2.below (Nat.le_refl _) hbel)).mono ?_
  rintro e w6 ⟨rfl, q, hq⟩
  have hb : Below w5.heap.size w5 w6 := by rw [hq]; exact belowD _ _
  clear hq
  obtain ⟨hbel, hsz⟩ := nextB hbel hsz hb
  clear hb
  go_wp2_with fail
  refine (cmp_ref _ _ _ _ _ (ny2.below (Nat.le_refl _) hbel) (nx2.below (Nat.le_refl _) hbel) (by omega) (by omega)).mono ?_
  rintro e w6 ⟨rfl, rfl⟩
  have f5 : ((cmpN (val Y) (val X)) != (cmpN (val Y) (val X))) = false := by simp
  generalize cmpN (val Y) (val X) = C5 at *
  go_wp2_with fail
  refine (cmp_any _ _ _ _ _ (na2.below (Nat.le_refl _) hbel) (na2.below (Nat.le_refl _) hbel)).mono ?_
  rintro e w7 ⟨rfl, q, hq⟩
  have hb : Below w6.heap.size w6 w7 := by rw [hq]; exact belowD _ _
  clear hq
  obtain ⟨hbel, hsz⟩ := nextB hbel hsz hb
  clear hb
  rw [cmpN_eq]
  have hbag : Bag w2.heap.size w7 [] := Bag.nil _ _
  go_wp2_with fail
  refine (sub_all _ _ _ _ _ (na2.below (Nat.le_refl _) hbel) (nb2.below (Nat.le_refl _) hbel) (by omega) (by omega)).mono ?_
  rintro e w8 ⟨vd, rfl, ho, hb⟩
  obtain ⟨pd, kd, cd, rfl⟩ := ho.sl
  replace hbag := hbag.push ho hb hsz
  obtain ⟨hbel, hsz⟩ := nextB hbel hsz hb
  clear hb
  clear ho
  go_wp2_with fail
  refine (sub_all _ _ _ _ _ (nb2.below (Nat.le_refl _) hbel) (na2.below (Nat.le_refl _) hbel) (by omega) (by omega)).mono ?_
  rintro e w9 ⟨ve, rfl, ho, hb⟩
  obtain ⟨pe, ke, ce, rfl⟩ := ho.sl
  replace hbag := hbag.push ho hb hsz
  obtain ⟨hbel, hsz⟩ := nextB hbel hsz hb
  clear hb
  clear ho
  go_wp2_with fail
  refine (sub_ref _ _ _ _ _ (nx2.below (Nat.le_refl _) hbel) (ny2.below (Nat.le_refl _) hbel) (by omega) (by omega)).mono ?_
  rintro e w10 ⟨vf, rfl, ho, hb⟩
  obtain ⟨pf, kf, cf, rfl⟩ := ho.sl
  have nf := ho.num
  replace hbag := hbag.step hb
  obtain ⟨hbel, hsz⟩ := nextB hbel hsz hb
  clear hb
  clear ho
  go_wp2_with fail
  refine (sub_ref _ _ _ _ _ (ny2.below (Nat.le_refl _) hbel) (nx2.below (Nat.le_refl _) hbel) (by omega) (by omega)).mono ?_
  rintro e w11 ⟨vg, rfl, ho, hb⟩
  obtain ⟨pg, kg, cg, rfl⟩ := ho.sl
  have ng := ho.num
  replace nf := nf.below (Nat.le_refl _) hb
  replace hbag := hbag.step hb
  obtain ⟨hbel, hsz⟩ := nextB hbel hsz hb
  clear hb
  clear ho
  have f6 : (leB (val Y) (val X) != leB (val Y) (val X)) = false := by simp
  have f7 : (leB (val X) (val Y) != leB (val X) (val Y)) = false := by simp
  generalize leB (val Y) (val X) = L1 at *
  generalize leB (val X) (val Y) = L2 at *
  go_wp2_with fail
  refine (norm_ref _ _ _ (nx2.below (Nat.le_refl _) hbel) (by omega)).mono ?_
  rintro e w12 ⟨vn, rfl, ho, hb⟩
  obtain ⟨pn, kn, cn, rfl⟩ := ho.sl
  have nn := ho.num
  replace nf := nf.below (Nat.le_refl _) hb
  replace ng := ng.below (Nat.le_refl _) hb
  replace hbag := hbag.step hb
  obtain ⟨hbel, hsz⟩ := nextB hbel hsz hb
  clear hb
  clear ho
  go_wp2_with fail
  refine (add_ref _ _ _ _ _ (nx2.below (Nat.le_refl _) hbel) (ny2.below (Nat.le_refl _) hbel) (by omega) (by omega)).mono ?_
  rintro e w13 ⟨vs, rfl, ho, hb⟩
  obtain ⟨ps, ks, cs, rfl⟩ := ho.sl
  have ns := ho.num
  replace nf := nf.below (Nat.le_refl _) hb
  replace ng := ng.below (Nat.le_refl _) hb
  replace nn := nn.below (Nat.le_refl _) hb
  replace hbag := hbag.push ho hb hsz
  obtain ⟨hbel, hsz⟩ := nextB hbel hsz hb
  clear hb
  clear ho
  go_wp2_with fail
  refine (mul_ref _ _ _ _ _ (nx2.below (Nat.le_refl _) hbel) (ny2.below (Nat.le_refl _) hbel) (by omega) (by omega)).mono ?_
  rintro e w14 ⟨vp, rfl, ho, hb⟩
  obtain ⟨pp, kp, cp, rfl⟩ := ho.sl
  have np := ho.num
  replace nf := nf.below (Nat.le_refl _) hb
  replace ng := ng.below (Nat.le_refl _) hb
  replace nn := nn.below (Nat.le_refl _) hb
  replace ns := ns.below (Nat.le_refl _) hb
  replace hbag := hbag.step hb
  obtain ⟨hbel, hsz⟩ := nextB hbel hsz hb
  clear hb
  clear ho
  go_wp2_with fail
  refine (norm_any _ _ _ (na2.below (Nat.le_refl _) hbel) (by omega)).mono ?_
  rintro e w15 ⟨v1, rfl, ho, hb⟩
  obtain ⟨p1, k1, c1, rfl⟩ := ho.sl
  replace nf := nf.below (Nat.le_refl _) hb
  replace ng := ng.below (Nat.le_refl _) hb
  replace nn := nn.below (Nat.le_refl _) hb
  replace ns := ns.below (Nat.le_refl _) hb
  replace np := np.below (Nat.le_refl _) hb
  replace hbag := hbag.push ho hb hsz
  obtain ⟨hbel, hsz⟩ := nextB hbel hsz hb
  clear hb
  clear ho
  go_wp2_with fail
  refine (norm_any _ _ _ (na2.below (Nat.le_refl _) hbel) (by omega)).mono ?_
  rintro e w16 ⟨v2, rfl, ho, hb⟩
  obtain ⟨p2, k2, c2, rfl⟩ := ho.sl
  replace nf := nf.below (Nat.le_refl _) hb
  replace ng := ng.below (Nat.le_refl _) hb
  replace nn := nn.below (Nat.le_refl _) hb
  replace ns := ns.below (Nat.le_refl _) hb
  replace np := np.below (Nat.le_refl _) hb
  replace hbag := hbag.push ho hb hsz
  obtain ⟨hbel, hsz⟩ := nextB hbel hsz hb
  clear hb
  clear ho
  go_wp2_with fail
  refine (add_any _ _ _ _ _ (na2.below (Nat.le_refl _) hbel) (nb2.below (Nat.le_refl _) hbel) (by omega) (by omega)).mono ?_
  rintro e w17 ⟨v3, rfl, ho, hb⟩
  obtain ⟨p3, k3, c3, rfl⟩ := ho.sl
  replace nf := nf.below (Nat.le_refl _) hb
  replace ng := ng.below (Nat.le_refl _) hb
  replace nn := nn.below (Nat.le_refl _) hb
  replace ns := ns.below (Nat.le_refl _) hb
  replace np := np.below (Nat.le_refl _) hb
  replace hbag := hbag.push ho hb hsz
  obtain ⟨hbel, hsz⟩ := nextB hbel hsz hb
  clear hb
  clear ho
  go_wp2_with fail
  refine (add_any _ _ _ _ _ (nb2.below (Nat.le_refl _) hbel) (na2.below (Nat.le_refl _) hbel) (by omega) (by omega)).mono ?_
  rintro e w18 ⟨v4, rfl, ho, hb⟩
  obtain ⟨p4, k4, c4, rfl⟩ := ho.sl
  replace nf := nf.below (Nat.le_refl _) hb
  replace ng := ng.below (Nat.le_refl _) hb
  replace nn := nn.below (Nat.le_refl _) hb
  replace ns := ns.below (Nat.le_refl _) hb
  replace np := np.below (Nat.le_refl _) hb
  replace hbag := hbag.push ho hb hsz
  obtain ⟨hbel, hsz⟩ := nextB hbel hsz hb
  clear hb
  clear ho
  go_wp2_with fail
  refine (mul_any _ _ _ _ _ (na2.below (Nat.le_refl _) hbel) (nb2.below (Nat.le_refl _) hbel) (by omega) (by omega)).mono ?_
  rintro e w19 ⟨v5, rfl, ho, hb⟩
  obtain ⟨p5, k5, c5, rfl⟩ := ho.sl
  replace nf := nf.below (Nat.le_refl _) hb
  replace ng := ng.below (Nat.le_refl _) hb
  replace nn := nn.below (Nat.le_refl _) hb
  replace ns := ns.below (Nat.le_refl _) hb
  replace np := np.below (Nat.le_refl _) hb
  replace hbag := hbag.push ho hb hsz
  obtain ⟨hbel, hsz⟩ := nextB hbel hsz hb
  clear hb
  clear ho
  go_wp2_with fail
  refine (mul_any _ _ _ _ _ (nb2.below (Nat.le_refl _) hbel) (na2.below (Nat.le_refl _) hbel) (by omega) (by omega)).mono ?_
  rintro e w20 ⟨v6, rfl, ho, hb⟩
  obtain ⟨p6, k6, c6, rfl⟩ := ho.sl
  replace nf := nf.below (Nat.le_refl _) hb
  replace ng := ng.below (Nat.le_refl _) hb
  replace nn := nn.below (Nat.le_refl _) hb
  replace ns := ns.below (Nat.le_refl _) hb
  replace np := np.below (Nat.le_refl _) hb
  replace hbag := hbag.push ho hb hsz
  obtain ⟨hbel, hsz⟩ := nextB hbel hsz hb
  clear hb
  clear ho
  go_wp2_with fail
  refine (add_any _ _ _ [] _ (na2.below (Nat.le_refl _) hbel) (Num.of_nil _) (by omega) (by simp)).mono ?_
  rintro e w21 ⟨v7, rfl, ho, hb⟩
  obtain ⟨p7, k7, c7, rfl⟩ := ho.sl
  replace nf := nf.below (Nat.le_refl _) hb
  replace ng := ng.below (Nat.le_refl _) hb
  replace nn := nn.below (Nat.le_refl _) hb
  replace ns := ns.below (Nat.le_refl _) hb
  replace np := np.below (Nat.le_refl _) hb
  replace hbag := hbag.push ho hb hsz
  obtain ⟨hbel, hsz⟩ := nextB hbel hsz hb
  clear hb
  clear ho
  go_wp2_with fail
  have hb : Below w21.heap.size w21 (w21.alloc (.cells #[.int .u32 1] 34)) := (Below.refl _ _).alloc (Nat.le_refl _) _
  have none1 : Num (w21.alloc (.cells #[.int .u32 1] 34)) (.slice (some ⟨w21.heap.size, 0, none⟩) 1 1) [1] := (Own.lit (B := 0) 34 w21 #[.int .u32 1] [1] (by intro x hx; simp at hx; omega) (Nat.zero_le _) (by simp [maxLen]) (by simp [U])).num
  replace nf := nf.below (Nat.le_refl _) hb
  replace ng := ng.below (Nat.le_refl _) hb
  replace nn := nn.below (Nat.le_refl _) hb
  replace ns := ns.below (Nat.le_refl _) hb
  replace np := np.below (Nat.le_refl _) hb
  replace hbag := hbag.step hb
  obtain ⟨hbel, hsz⟩ := nextB hbel hsz hb
  clear hb
  refine (mul_any _ _ _ [1] _ (na2.below (Nat.le_refl _) hbel) none1 (by omega) (by simp)).mono ?_
  rintro e w22 ⟨v8, rfl, ho, hb⟩
  obtain ⟨p8, k8, c8, rfl⟩ := ho.sl
  replace nf := nf.below (Nat.le_refl _) hb
  replace ng := ng.below (Nat.le_refl _) hb
  replace nn := nn.below (Nat.le_refl _) hb
  replace ns := ns.below (Nat.le_refl _) hb
  replace np := np.below (Nat.le_refl _) hb
  replace hbag := hbag.push ho hb hsz
  obtain ⟨hbel, hsz⟩ := nextB hbel hsz hb
  clear hb
  clear ho none1
  go_wp2_with fail
  refine (add_any _ _ _ _ _ (na2.below (Nat.le_refl _) hbel) (nb2.below (Nat.le_refl _) hbel) (by omega) (by omega)).mono ?_
  rintro e w23 ⟨v9, rfl, ho, hb⟩
  obtain ⟨p9, k9, c9, rfl⟩ := ho.sl
  replace nf := nf.below (Nat.le_refl _) hb
  replace ng := ng.below (Nat.le_refl _) hb
  replace nn := nn.below (Nat.le_refl _) hb
  replace ns := ns.below (Nat.le_refl _) hb
  replace np := np.below (Nat.le_refl _) hb
  replace hbag := hbag.push ho hb hsz
  obtain ⟨hbel, hsz⟩ := nextB hbel hsz hb
  clear hb
  clear ho
  go_wp2_with fail
  refine (mul_any _ _ _ _ _ (na2.below (Nat.le_refl _) hbel) (nb2.below (Nat.le_refl _) hbel) (by omega) (by omega)).mono ?_
  rintro e w24 ⟨v10, rfl, ho, hb⟩
  obtain ⟨p10, k10, c10, rfl⟩ := ho.sl
  replace nf := nf.below (Nat.le_refl _) hb
  replace ng := ng.below (Nat.le_refl _) hb
  replace nn := nn.below (Nat.le_refl _) hb
  replace ns := ns.below (Nat.le_refl _) hb
  replace np := np.below (Nat.le_refl _) hb
  replace hbag := hbag.push ho hb hsz
  obtain ⟨hbel, hsz⟩ := nextB hbel hsz hb
  clear hb
  clear ho
  have HBAG : Hid (Bag w2.heap.size w24 [(Value.slice pd kd cd, lim (val X - val Y)), (Value.slice pe ke ce, lim (val Y - val X)), (Value.slice ps ks cs, lim (val X + val Y)), (Value.slice p1 k1 c1, lim (val X)), (Value.slice p2 k2 c2, lim (val X)), (Value.slice p3 k3 c3, lim (val X + val Y)), (Value.slice p4 k4 c4, lim (val X + val Y)), (Value.slice p5 k5 c5, lim (val X * val Y)), (Value.slice p6 k6 c6, lim (val X * val Y)), (Value.slice p7 k7 c7, lim (val X)), (Value.slice p8 k8 c8, lim (val X)), (Value.slice p9 k9 c9, lim (val X + val Y)), (Value.slice p10 k10 c10, lim (val X * val Y))]) := by
    show Bag _ _ _
    have h := hbag
    simp only [List.nil_append, List.cons_append] at h
    rw [Nat.add_comm (val Y) (val X), Nat.mul_comm (val Y) (val X), show val X + val [] = val X from rfl, show val X * val [1] = val X by simp [val]] at h
    exact h
  have HBG : Hid (Bag w2.heap.size w24 ((Value.slice ps ks cs, lim (val X + val Y)) :: [(Value.slice p1 k1 c1, lim (val X)), (Value.slice p2 k2 c2, lim (val X)), (Value.slice p3 k3 c3, lim (val X + val Y)), (Value.slice p4 k4 c4, lim (val X + val Y)), (Value.slice pd kd cd, lim (val X - val Y)), (Value.slice pe ke ce, lim (val Y - val X)), (Value.slice p5 k5 c5, lim (val X * val Y)), (Value.slice p6 k6 c6, lim (val X * val Y)), (Value.slice p7 k7 c7, lim (val X)), (Value.slice p8 k8 c8, lim (val X)), (Value.slice p9 k9 c9, lim (val X + val Y)), (Value.slice p10 k10 c10, lim (val X * val Y))])) := HBAG.out.perm (((List.perm_middle (l₁ := [(Value.slice p1 k1 c1, lim (val X)), (Value.slice p2 k2 c2, lim (val X)), (Value.slice p3 k3 c3, lim (val X + val Y)), (Value.slice p4 k4 c4, lim (val X + val Y))])).trans (List.Perm.cons _ (List.perm_middle (l₁ := [(Value.slice p1 k1 c1, lim (val X)), (Value.slice p2 k2 c2, lim (val X)), (Value.slice p3 k3 c3, lim (val X + val Y)), (Value.slice p4 k4 c4, lim (val X + val Y))])))).cons _ |>.trans ((List.Perm.swap _ _ _).trans ((List.Perm.swap _ _ _).cons _)))
  clear hbag HBAG
  have vX : val X < 4294967296 ^ 200 := Nat.lt_of_lt_of_le (val_lt nx2.1) (Nat.pow_le_pow_right (by decide) lx)
  have vY : val Y < 4294967296 ^ 200 := Nat.lt_of_lt_of_le (val_lt ny2.1) (Nat.pow_le_pow_right (by decide) ly)
  have HLN : Hid (∀ q ∈ ([(Value.slice p1 k1 c1, lim (val X)), (Value.slice p2 k2 c2, lim (val X)), (Value.slice p3 k3 c3, lim (val X + val Y)), (Value.slice p4 k4 c4, lim (val X + val Y)), (Value.slice pd kd cd, lim (val X - val Y)), (Value.slice pe ke ce, lim (val Y - val X)), (Value.slice p5 k5 c5, lim (val X * val Y)), (Value.slice p6 k6 c6, lim (val X * val Y)), (Value.slice p7 k7 c7, lim (val X)), (Value.slice p8 k8 c8, lim (val X)), (Value.slice p9 k9 c9, lim (val X + val Y)), (Value.slice p10 k10 c10, lim (val X * val Y))] : List (Value × List Nat)), q.2.length ≤ 1099511627776) := sums_lens vX vY (by decide) _ _ _ _ _ _ _ _ _ _ _ _
  clear vX vY
  go_wp2_with fail
  refine (apart_bag w2.heap.size w24.heap.size (w24.heap.size + 1) 12 [(Value.slice p1 k1 c1, lim (val X)), (Value.slice p2 k2 c2, lim (val X)), (Value.slice p3 k3 c3, lim (val X + val Y)), (Value.slice p4 k4 c4, lim (val X + val Y)), (Value.slice pd kd cd, lim (val X - val Y)), (Value.slice pe ke ce, lim (val Y - val X)), (Value.slice p5 k5 c5, lim (val X * val Y)), (Value.slice p6 k6 c6, lim (val X * val Y)), (Value.slice p7 k7 c7, lim (val X)), (Value.slice p8 k8 c8, lim (val X)), (Value.slice p9 k9 c9, lim (val X + val Y)), (Value.slice p10 k10 c10, lim (val X * val Y))] [Value.slice p1 k1 c1, Value.slice p2 k2 c2, Value.slice p3 k3 c3, Value.slice p4 k4 c4, Value.slice pd kd cd, Value.slice pe ke ce, Value.slice p5 k5 c5, Value.slice p6 k6 c6, Value.slice p7 k7 c7, Value.slice p8 k8 c8, Value.slice p9 k9 c9, Value.slice p10 k10 c10] [Value.slice pn kn cn, Value.slice pn kn cn, Value.slice ps ks cs, Value.slice ps ks cs, Value.slice pf kf cf, Value.slice pg kg cg, Value.slice pp kp cp, Value.slice pp kp cp, Value.slice pn kn cn, Value.slice pn kn cn, Value.slice ps ks cs, Value.slice pp kp cp] _ ?_ hsz rfl (by decide) rfl ?_ ?_ ?_ ?_ HLN.out).mono ?_
  · simp; omega
  · exact heap_alloc2_old w24 _ _
  · exact heap_alloc2_new w24 _ _
  · exact ((HBG.out.head rfl).2.1.step ((Below.refl _ _).alloc (Nat.le_refl _) _)).step ((Below.refl _ _).alloc (Nat.le_refl _) _)
  · exact (Wants.cons ((nn.alloc _).alloc _) (Wants.cons ((nn.alloc _).alloc _) (Wants.cons ((ns.alloc _).alloc _) (Wants.cons ((ns.alloc _).alloc _) (Wants.cons ((nf.alloc _).alloc _) (Wants.cons ((ng.alloc _).alloc _) (Wants.cons ((np.alloc _).alloc _) (Wants.cons ((np.alloc _).alloc _) (Wants.cons ((nn.alloc _).alloc _) (Wants.cons ((nn.alloc _).alloc _) (Wants.cons ((ns.alloc _).alloc _) (Wants.cons ((np.alloc _).alloc _) (Wants.nil _)))))))))))))
  rintro e wA ⟨rfl, hx, hb⟩
  have hb0 : Below w2.heap.size w2 wA := ((hbel.alloc hsz _).alloc (by simp; omega) _).trans hb
  have hsA : w2.heap.size ≤ wA.heap.size := hb0.size
  have osA : Own w2.heap.size 34 wA (Value.slice ps ks cs) (lim (val X + val Y)) := (((HBG.out.head rfl).1.alloc _).alloc _).bex hx (HBG.out.head rfl).2.2
  clear hbel hsz hx hb HBG HLN nf ng nn ns np
  have hbel := hb0
  have hsz := hsA
  clear hb0 hsA
  have lsX : (lim (val X + val Y)).length ≤ 1099511627776 := by
    have vX : val X < 4294967296 ^ 200 := Nat.lt_of_lt_of_le (val_lt nx2.1) (Nat.pow_le_pow_right (by decide) lx)
    have vY : val Y < 4294967296 ^ 200 := Nat.lt_of_lt_of_le (val_lt ny2.1) (Nat.pow_le_pow_right (by decide) ly)
    exact sum_len vX vY (by decide)
  go_wp2_with fail
  refine (kept_yes _ _ _ _ _ (ra2.below hbel) (nx2.below (Nat.le_refl _) hbel) (by omega)).mono ?_
  rintro e wC ⟨rfl, q, hq⟩
  have hb : Below wA.heap.size wA wC := by rw [hq]; exact belowD _ _
  have osC := osA.below hb
  obtain ⟨hbel, hsz⟩ := nextB hbel hsz hb
  clear hb hq osA
  go_wp2_with fail
  refine (kept_yes _ _ _ _ _ (rb2.below hbel) (ny2.below (Nat.le_refl _) hbel) (by omega)).mono ?_
  rintro e wD ⟨rfl, q, hq⟩
  have hb : Below wC.heap.size wC wD := by rw [hq]; exact belowD _ _
  have osD := osC.below hb
  obtain ⟨hbel, hsz⟩ := nextB hbel hsz hb
  clear hb hq osC
  go_wp2_with fail
  refine (add_any _ _ _ _ _ (na2.below (Nat.le_refl _) hbel) (nb2.below (Nat.le_refl _) hbel) (by omega) (by omega)).mono ?_
  rintro e wE ⟨vz, rfl, ho, hb⟩
  have osE := osD.below hb
  obtain ⟨hbel, hsz⟩ := nextB hbel hsz hb
  clear hb osD
  go_wp2_with fail
  refine (same_yes _ _ _ _ ho.num osE.num).mono ?_
  rintro e wF ⟨rfl, q, hq⟩
  have hb : Below wE.heap.size wE wF := by rw [hq]; exact belowD _ _
  obtain ⟨hbel, hsz⟩ := nextB hbel hsz hb
  have HF : Hid (Below w1.heap.size w1 wF) := HB2.out.trans (hbel.mono HB2.out.size)
  clear hb hq ho osE hbel hsz
  go_wp2
  go_ret
  exact ⟨rfl, HF.out⟩

theorem natSums_top (vx : Value) (xs : List Nat) (vy : Value) (ys : List Nat) (w : World) (hx : Num w vx xs) (hy : Num w vy ys) :
    Calls Try.prog 3 #[vx, vy] w fun e w' => e = .returned (.bool true) ∧ Below w.heap.size w w' := natSums_walk vx vy xs ys w hx hy
end Go.Proofs.Ytgccibbbahpgpaa

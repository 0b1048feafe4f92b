/-
  Proved here: NatDiv of any two numbers returns true, and writes nothing that was there.
-/
import Derived.Test.YtnlajeinegampaaNatDivA
namespace Go.Proofs.Ytnlajeinegampaa
open Go.RowKit

theorem div_lens {A C k : Nat} (ha : (lim A).length ≤ k) (hc : (lim C).length ≤ k) (v1 v2 v3 v4 v5 v6 v7 v8 : Value) (hk : k ≤ 1000 := by decide) :
    ∀ q ∈ ([(v1, lim (A / C)), (v2, lim (modZ A C)), (v3, lim (C / A)), (v4, lim (modZ C A)), (v5, lim (Nat.gcd A C)), (v6, lim (Nat.gcd A C)), (v7, lim A), (v8, lim A)] : List (Value × List Nat)), q.2.length ≤ 1099511627776 := by
  have h0 : k ≤ 1099511627776 := by omega
  have h1 : (lim (A / C)).length ≤ k := lim_le_k (Nat.div_le_self _ _) ha
  have h3 : (lim (C / A)).length ≤ k := lim_le_k (Nat.div_le_self _ _) hc
  have m1 : ∀ {a b : Nat}, modZ a b ≤ a := fun {a b} => by unfold modZ; split; exact Nat.zero_le _; exact Nat.mod_le _ _
  have h2 : (lim (modZ A C)).length ≤ k := lim_le_k m1 ha
  have h4 : (lim (modZ C A)).length ≤ k := lim_le_k m1 hc
  have h5 : (lim (Nat.gcd A C)).length ≤ k := by
    rcases Nat.eq_zero_or_pos A with h | h
    · rw [h, Nat.gcd_zero_left]; exact hc
    · exact lim_le_k (Nat.gcd_le_left _ h) ha
  intro q hq
  simp only [List.mem_cons, List.not_mem_nil, or_false] at hq
  rcases hq with rfl | rfl | rfl | rfl | rfl | rfl | rfl | rfl <;> (refine Nat.le_trans ?_ h0; assumption)

set_option maxRecDepth 100000 in
set_option maxHeartbeats 16000000 in
theorem natDiv_walk (vx vy : Value) (xs ys : List Nat) (w1 : World) (hx : Num w1 vx xs) (hy : Num w1 vy ys) :
    Calls Try.prog 3 #[vx, vy] w1 fun e w' => e = .returned (.bool true) ∧ Below w1.heap.size w1 w' := by
  go_enter Try.func3, Try.ntmps3
  go_wp2_with fail
  refine (cut_any _ _ 200 _ hx (by decide)).mono ?_
  rintro e w1 ⟨rfl, rfl⟩
  go_wp2_with fail
  refine (cut_any _ _ 200 _ hy (by decide)).mono ?_
  rintro e w1 ⟨rfl, rfl⟩
  have nx := hx.cut (k := min 200 xs.length) (Nat.min_le_right _ _)
  have ny := hy.cut (k := min 200 ys.length) (Nat.min_le_right _ _)
  have lx : (xs.take (min 200 xs.length)).length ≤ 200 := by simp; omega
  have ly : (ys.take (min 200 ys.length)).length ≤ 200 := by simp; omega
  generalize xs.take (min 200 xs.length) = X at *
  generalize ys.take (min 200 ys.length) = Y at *
  generalize cutTo vx (min 200 xs.length) = x at *
  generalize cutTo vy (min 200 ys.length) = y at *
  clear hx hy
  go_wp2_with fail
  refine (roomy_any _ _ _ nx (by omega)).mono ?_
  rintro e wa ⟨a, rfl, ra, hba⟩
  go_wp2_with fail
  refine (roomy_any _ _ _ (ny.below (Nat.le_refl _) hba) (by omega)).mono ?_
  rintro e w2 ⟨b, rfl, rb, hbb⟩
  obtain ⟨ga, ca, rfl, _, _, _⟩ := ra.shape
  obtain ⟨gb, cb, rfl, _, _, _⟩ := rb.shape
  have HNE : Hid (ga ≠ gb) := by
    have h1 := (own_lt ra.own).2
    have h2 := (own_lt rb.own).1
    show _ ≠ _
    omega
  have ra2 := ra.below hbb
  have hB2 : Below w1.heap.size w1 w2 := hba.trans (hbb.mono hba.size)
  have rb2 := rb.mono hba.size
  have nx2 := nx.below (Nat.le_refl _) hB2
  have ny2 := ny.below (Nat.le_refl _) hB2
  have HB2 : Hid (Below w1.heap.size w1 w2) := hB2
  have HLX : Hid (X.length ≤ 200) := lx
  have HLY : Hid (Y.length ≤ 200) := ly
  obtain ⟨A, hA⟩ : ∃ A, A = val X := ⟨_, rfl⟩
  obtain ⟨C, hC⟩ : ∃ C, C = val Y := ⟨_, rfl⟩
  have HA : Hid (val X = A) := hA.symm
  have HC : Hid (val Y = C) := hC.symm
  have HLA : Hid ((lim A).length ≤ 200) := by show _ ≤ _; rw [hA]; exact lim_val_len nx.1 lx
  have HLC : Hid ((lim C).length ≤ 200) := by show _ ≤ _; rw [hC]; exact lim_val_len ny.1 ly
  obtain ⟨xn, hxn⟩ : ∃ n, n = X.length := ⟨_, rfl⟩
  obtain ⟨yn, hyn⟩ : ∃ n, n = Y.length := ⟨_, rfl⟩
  have HXN : Hid (X.length = xn) := hxn.symm
  have HYN : Hid (Y.length = yn) := hyn.symm
  rw [← hxn] at ra2 ⊢
  rw [← hyn] at rb2 ⊢
  clear ra rb hba hbb nx ny hB2 lx ly hA hC hxn hyn
  have hbel : Below w2.heap.size w2 w2 := Below.refl _ _
  have hsz : w2.heap.size ≤ w2.heap.size := Nat.le_refl _
  have na2 := ra2.own.num
  have nb2 := rb2.own.num
  have hbag : Bag w2.heap.size w2 [] := Bag.nil _ _
  have hq := divMod_any _ _ _ _ w2 (na2.below (Nat.le_refl _) hbel) (nb2.below (Nat.le_refl _) hbel) (by have := HLX.out; omega)
  rw [HA.out, HC.out] at hq
  go_wp2_with fail
  refine hq.mono ?_
  rintro e w3 ⟨v1, v2, rfl, o1, o2, hap, b⟩
  obtain ⟨p1, k1, c1, rfl⟩ := o1.sl
  obtain ⟨p2, k2, c2, rfl⟩ := o2.sl
  replace hbag := hbag.push2 o1 o2 hap b hsz
  obtain ⟨hbel, hsz⟩ := nextB hbel hsz b
  clear b
  clear o1 o2 hap hq
  have hq := divMod_ref _ _ _ _ w3 (nx2.below (Nat.le_refl _) hbel) (ny2.below (Nat.le_refl _) hbel) (by have := HLX.out; omega) (by have := HLY.out; omega)
  rw [HA.out, HC.out] at hq
  go_wp2_with fail
  refine hq.mono ?_
  rintro e w4 ⟨vs, vt, rfl, os, ot, b⟩
  obtain ⟨ps, ks, cs, rfl⟩ := os.sl
  obtain ⟨pt, kt, ct, rfl⟩ := ot.sl
  replace hbag := hbag.step b
  obtain ⟨hbel, hsz⟩ := nextB hbel hsz b
  clear b
  have ns := os.num
  have nt := ot.num
  clear os ot hq
  have hq := divMod_any _ _ _ _ w4 (nb2.below (Nat.le_refl _) hbel) (na2.below (Nat.le_refl _) hbel) (by have := HLY.out; omega)
  rw [HC.out, HA.out] at hq
  go_wp2_with fail
  refine hq.mono ?_
  rintro e w5 ⟨v3, v4, rfl, o3, o4, hap, b⟩
  obtain ⟨p3, k3, c3, rfl⟩ := o3.sl
  obtain ⟨p4, k4, c4, rfl⟩ := o4.sl
  replace ns := ns.below (Nat.le_refl _) b
  replace nt := nt.below (Nat.le_refl _) b
  replace hbag := hbag.push2 o3 o4 hap b hsz
  obtain ⟨hbel, hsz⟩ := nextB hbel hsz b
  clear b
  clear o3 o4 hap hq
  have hq := divMod_ref _ _ _ _ w5 (ny2.below (Nat.le_refl _) hbel) (nx2.below (Nat.le_refl _) hbel) (by have := HLY.out; omega) (by have := HLX.out; omega)
  rw [HC.out, HA.out] at hq
  go_wp2_with fail
  refine hq.mono ?_
  rintro e w6 ⟨vk, vl, rfl, ok, ol, b⟩
  obtain ⟨pk, kk, ck, rfl⟩ := ok.sl
  obtain ⟨pl, kl, cl, rfl⟩ := ol.sl
  replace ns := ns.below (Nat.le_refl _) b
  replace nt := nt.below (Nat.le_refl _) b
  replace hbag := hbag.step b
  obtain ⟨hbel, hsz⟩ := nextB hbel hsz b
  clear b
  have nk := ok.num
  have nl := ol.num
  clear ok ol hq
  have f1 : (errZ C != errZ C) = false := by simp
  have f2 : (errZ A != errZ A) = false := by simp
  generalize errZ C = eC at *
  generalize errZ A = eA at *
  have hq := gcd_ref _ _ _ _ w6 (nx2.below (Nat.le_refl _) hbel) (ny2.below (Nat.le_refl _) hbel) (by have := HLX.out; omega) (by have := HLY.out; omega)
  rw [HA.out, HC.out] at hq
  go_wp2_with fail
  refine hq.mono ?_
  rintro e w7 ⟨vd, rfl, od, b⟩
  obtain ⟨pd, kd, cd, rfl⟩ := od.sl
  replace ns := ns.below (Nat.le_refl _) b
  replace nt := nt.below (Nat.le_refl _) b
  replace nk := nk.below (Nat.le_refl _) b
  replace nl := nl.below (Nat.le_refl _) b
  replace hbag := hbag.step b
  obtain ⟨hbel, hsz⟩ := nextB hbel hsz b
  clear b
  have nd := od.num
  clear od hq
  have hq := gcd_any _ _ _ _ w7 (na2.below (Nat.le_refl _) hbel) (nb2.below (Nat.le_refl _) hbel) (by have := HLX.out; omega) (by have := HLY.out; omega)
  rw [HA.out, HC.out] at hq
  go_wp2_with fail
  refine hq.mono ?_
  rintro e w8 ⟨v5, rfl, o5, b⟩
  obtain ⟨p5, k5, c5, rfl⟩ := o5.sl
  replace ns := ns.below (Nat.le_refl _) b
  replace nt := nt.below (Nat.le_refl _) b
  replace nk := nk.below (Nat.le_refl _) b
  replace nl := nl.below (Nat.le_refl _) b
  replace nd := nd.below (Nat.le_refl _) b
  replace hbag := hbag.push o5 b hsz
  obtain ⟨hbel, hsz⟩ := nextB hbel hsz b
  clear b
  clear o5 hq
  have hq := gcd_any _ _ _ _ w8 (nb2.below (Nat.le_refl _) hbel) (na2.below (Nat.le_refl _) hbel) (by have := HLY.out; omega) (by have := HLX.out; omega)
  rw [HA.out, HC.out, Nat.gcd_comm] at hq
  go_wp2_with fail
  refine hq.mono ?_
  rintro e w9 ⟨v6, rfl, o6, b⟩
  obtain ⟨p6, k6, c6, rfl⟩ := o6.sl
  replace ns := ns.below (Nat.le_refl _) b
  replace nt := nt.below (Nat.le_refl _) b
  replace nk := nk.below (Nat.le_refl _) b
  replace nl := nl.below (Nat.le_refl _) b
  replace nd := nd.below (Nat.le_refl _) b
  replace hbag := hbag.push o6 b hsz
  obtain ⟨hbel, hsz⟩ := nextB hbel hsz b
  clear b
  clear o6 hq
  have hq := gcd_any _ _ _ _ w9 (na2.below (Nat.le_refl _) hbel) (Num.of_nil _) (by have := HLX.out; omega) (by simp)
  rw [HA.out, show val [] = 0 from rfl, Nat.gcd_zero_right] at hq
  go_wp2_with fail
  refine hq.mono ?_
  rintro e w10 ⟨v7, rfl, o7, b⟩
  obtain ⟨p7, k7, c7, rfl⟩ := o7.sl
  replace ns := ns.below (Nat.le_refl _) b
  replace nt := nt.below (Nat.le_refl _) b
  replace nk := nk.below (Nat.le_refl _) b
  replace nl := nl.below (Nat.le_refl _) b
  replace nd := nd.below (Nat.le_refl _) b
  replace hbag := hbag.push o7 b hsz
  obtain ⟨hbel, hsz⟩ := nextB hbel hsz b
  clear b
  clear o7 hq
  have hq := gcd_any _ _ _ _ w10 (Num.of_nil _) (na2.below (Nat.le_refl _) hbel) (by simp) (by have := HLX.out; omega)
  rw [HA.out, show val [] = 0 from rfl, Nat.gcd_zero_left] at hq
  go_wp2_with fail
  refine hq.mono ?_
  rintro e w11 ⟨v8, rfl, o8, b⟩
  obtain ⟨p8, k8, c8, rfl⟩ := o8.sl
  replace ns := ns.below (Nat.le_refl _) b
  replace nt := nt.below (Nat.le_refl _) b
  replace nk := nk.below (Nat.le_refl _) b
  replace nl := nl.below (Nat.le_refl _) b
  replace nd := nd.below (Nat.le_refl _) b
  replace hbag := hbag.push o8 b hsz
  obtain ⟨hbel, hsz⟩ := nextB hbel hsz b
  clear b
  clear o8 hq
  replace hbag : Bag w2.heap.size w11 [(Value.slice p1 k1 c1, lim (A / C)), (Value.slice p2 k2 c2, lim (modZ A C)), (Value.slice p3 k3 c3, lim (C / A)), (Value.slice p4 k4 c4, lim (modZ C A)), (Value.slice p5 k5 c5, lim (Nat.gcd A C)), (Value.slice p6 k6 c6, lim (Nat.gcd A C)), (Value.slice p7 k7 c7, lim (A)), (Value.slice p8 k8 c8, lim (A))] := by simpa only [List.nil_append, List.cons_append] using hbag
  obtain ⟨G, hG⟩ : ∃ G, G = w11.alloc (.cells [Value.slice p1 k1 c1, Value.slice p2 k2 c2, Value.slice p3 k3 c3, Value.slice p4 k4 c4, Value.slice p5 k5 c5, Value.slice p6 k6 c6, Value.slice p7 k7 c7, Value.slice p8 k8 c8].toArray 23) := ⟨_, rfl⟩
  have b : Below w11.heap.size w11 G := by rw [hG]; exact (Below.refl _ _).alloc (Nat.le_refl _) _
  obtain ⟨gg, hgg⟩ : ∃ g, g = w11.heap.size := ⟨_, rfl⟩
  have hgot : G.heap[gg]? = some (.cells [Value.slice p1 k1 c1, Value.slice p2 k2 c2, Value.slice p3 k3 c3, Value.slice p4 k4 c4, Value.slice p5 k5 c5, Value.slice p6 k6 c6, Value.slice p7 k7 c7, Value.slice p8 k8 c8].toArray 23 (0, 0)) := by rw [hG, hgg]; exact heap_alloc_new _ _
  have hg2 : w2.heap.size ≤ gg := by rw [hgg]; exact hsz
  have HGG : Hid (w11.heap.size = gg) := hgg.symm
  have HGW : Hid (w11.alloc (.cells #[Value.slice p1 k1 c1, Value.slice p2 k2 c2, Value.slice p3 k3 c3, Value.slice p4 k4 c4, Value.slice p5 k5 c5, Value.slice p6 k6 c6, Value.slice p7 k7 c7, Value.slice p8 k8 c8] 23) = G) := hG.symm
  clear hG hgg
  replace ns := ns.below (Nat.le_refl _) b
  replace nt := nt.below (Nat.le_refl _) b
  replace nk := nk.below (Nat.le_refl _) b
  replace nl := nl.below (Nat.le_refl _) b
  replace nd := nd.below (Nat.le_refl _) b
  replace hbag := hbag.step b
  obtain ⟨hbel, hsz⟩ := nextB hbel hsz b
  clear b
  have hq := norm_ref _ _ G (nx2.below (Nat.le_refl _) hbel) (by have := HLX.out; omega)
  rw [HA.out] at hq
  go_wp2_with fail
  rw [HGW.out, HGG.out]
  refine hq.mono ?_
  rintro e w12 ⟨vn, rfl, on_, b⟩
  obtain ⟨pn, kn, cn, rfl⟩ := on_.sl
  replace hgot : w12.heap[gg]? = some (.cells [Value.slice p1 k1 c1, Value.slice p2 k2 c2, Value.slice p3 k3 c3, Value.slice p4 k4 c4, Value.slice p5 k5 c5, Value.slice p6 k6 c6, Value.slice p7 k7 c7, Value.slice p8 k8 c8].toArray 23 (0, 0)) := by rw [b.block gg (Array.getElem?_eq_some_iff.1 hgot).1]; exact hgot
  replace ns := ns.below (Nat.le_refl _) b
  replace nt := nt.below (Nat.le_refl _) b
  replace nk := nk.below (Nat.le_refl _) b
  replace nl := nl.below (Nat.le_refl _) b
  replace nd := nd.below (Nat.le_refl _) b
  replace hbag := hbag.step b
  obtain ⟨hbel, hsz⟩ := nextB hbel hsz b
  clear b
  have nn := on_.num
  clear on_ hq HGW HGG
  have HLN : Hid (∀ q ∈ ([(Value.slice p1 k1 c1, lim (A / C)), (Value.slice p2 k2 c2, lim (modZ A C)), (Value.slice p3 k3 c3, lim (C / A)), (Value.slice p4 k4 c4, lim (modZ C A)), (Value.slice p5 k5 c5, lim (Nat.gcd A C)), (Value.slice p6 k6 c6, lim (Nat.gcd A C)), (Value.slice p7 k7 c7, lim (A)), (Value.slice p8 k8 c8, lim (A))] : List (Value × List Nat)), q.2.length ≤ 1099511627776) := div_lens HLA.out HLC.out _ _ _ _ _ _ _ _
  have hgx : (w12.alloc (.cells [Value.slice ps ks cs, Value.slice pt kt ct, Value.slice pk kk ck, Value.slice pl kl cl, Value.slice pd kd cd, Value.slice pd kd cd, Value.slice pn kn cn, Value.slice pn kn cn].toArray 23)).heap[gg]? = some (.cells [Value.slice p1 k1 c1, Value.slice p2 k2 c2, Value.slice p3 k3 c3, Value.slice p4 k4 c4, Value.slice p5 k5 c5, Value.slice p6 k6 c6, Value.slice p7 k7 c7, Value.slice p8 k8 c8].toArray 23 (0, 0)) := by rw [Below.heap_alloc _ _ _ (Array.getElem?_eq_some_iff.1 hgot).1]; exact hgot
  have hws : Wants (w12.alloc (.cells [Value.slice ps ks cs, Value.slice pt kt ct, Value.slice pk kk ck, Value.slice pl kl cl, Value.slice pd kd cd, Value.slice pd kd cd, Value.slice pn kn cn, Value.slice pn kn cn].toArray 23)) [Value.slice ps ks cs, Value.slice pt kt ct, Value.slice pk kk ck, Value.slice pl kl cl, Value.slice pd kd cd, Value.slice pd kd cd, Value.slice pn kn cn, Value.slice pn kn cn] [(Value.slice p1 k1 c1, lim (A / C)), (Value.slice p2 k2 c2, lim (modZ A C)), (Value.slice p3 k3 c3, lim (C / A)), (Value.slice p4 k4 c4, lim (modZ C A)), (Value.slice p5 k5 c5, lim (Nat.gcd A C)), (Value.slice p6 k6 c6, lim (Nat.gcd A C)), (Value.slice p7 k7 c7, lim (A)), (Value.slice p8 k8 c8, lim (A))] := (Wants.cons (ns.alloc _) (Wants.cons (nt.alloc _) (Wants.cons (nk.alloc _) (Wants.cons (nl.alloc _) (Wants.cons (nd.alloc _) (Wants.cons (nd.alloc _) (Wants.cons (nn.alloc _) (Wants.cons (nn.alloc _) (Wants.nil _)))))))))
  have hap := apart_bag w2.heap.size gg w12.heap.size 8 [(Value.slice p1 k1 c1, lim (A / C)), (Value.slice p2 k2 c2, lim (modZ A C)), (Value.slice p3 k3 c3, lim (C / A)), (Value.slice p4 k4 c4, lim (modZ C A)), (Value.slice p5 k5 c5, lim (Nat.gcd A C)), (Value.slice p6 k6 c6, lim (Nat.gcd A C)), (Value.slice p7 k7 c7, lim (A)), (Value.slice p8 k8 c8, lim (A))] [Value.slice p1 k1 c1, Value.slice p2 k2 c2, Value.slice p3 k3 c3, Value.slice p4 k4 c4, Value.slice p5 k5 c5, Value.slice p6 k6 c6, Value.slice p7 k7 c7, Value.slice p8 k8 c8] [Value.slice ps ks cs, Value.slice pt kt ct, Value.slice pk kk ck, Value.slice pl kl cl, Value.slice pd kd cd, Value.slice pd kd cd, Value.slice pn kn cn, Value.slice pn kn cn] (w12.alloc (.cells [Value.slice ps ks cs, Value.slice pt kt ct, Value.slice pk kk ck, Value.slice pl kl cl, Value.slice pd kd cd, Value.slice pd kd cd, Value.slice pn kn cn, Value.slice pn kn cn].toArray 23)) (by simp; omega) hg2 rfl (by decide) rfl hgx (heap_alloc_new _ _) (hbag.step ((Below.refl _ _).alloc (Nat.le_refl _) _)) hws HLN.out
  have HAP : Hid (∀ w', Below w2.heap.size (w12.alloc (.cells [Value.slice ps ks cs, Value.slice pt kt ct, Value.slice pk kk ck, Value.slice pl kl cl, Value.slice pd kd cd, Value.slice pd kd cd, Value.slice pn kn cn, Value.slice pn kn cn].toArray 23)) w' → Below w2.heap.size w2 w' ∧ w2.heap.size ≤ w'.heap.size) := fun w' h => by have h2 := (hbel.alloc hsz (.cells [Value.slice ps ks cs, Value.slice pt kt ct, Value.slice pk kk ck, Value.slice pl kl cl, Value.slice pd kd cd, Value.slice pd kd cd, Value.slice pn kn cn, Value.slice pn kn cn].toArray 23)).trans h; exact ⟨h2, h2.size⟩
  clear hws hgx hbag hgot hg2 HLN hbel hsz ns nt nk nl nd nn
  go_wp2_with fail
  refine hap.mono ?_
  rintro e wA ⟨rfl, _, hb⟩
  obtain ⟨hbel, hsz⟩ := HAP.out _ hb
  clear hap HAP hb
  go_wp2_with fail
  have hra := ra2.below hbel
  have hrb := rb2.below hbel
  have hqk := kept_yes _ _ _ _ _ hra (nx2.below (Nat.le_refl _) hbel) (by have := HLX.out; omega)
  refine hqk.mono ?_
  rintro e wC ⟨rfl, q, hq⟩
  have b : Below wA.heap.size wA wC := by rw [hq]; exact belowD _ _
  obtain ⟨hbel, hsz⟩ := nextB hbel hsz b
  replace hra := hra.below b
  replace hrb := hrb.below b
  clear b hq hqk
  go_wp2_with fail
  refine (kept_yes _ _ _ _ _ hrb (ny2.below (Nat.le_refl _) hbel) (by have := HLY.out; omega)).mono ?_
  rintro e wD ⟨rfl, q, hq⟩
  have b : Below wC.heap.size wC wD := by rw [hq]; exact belowD _ _
  obtain ⟨hbel, hsz⟩ := nextB hbel hsz b
  replace hra := hra.below b
  replace hrb := hrb.below b
  clear b hq
  have hoa := hra.own
  have hob := hrb.own
  go_wp2_with fail
  refine (anew_yes w1.heap.size ga xn ca gb yn cb X Y _ hoa hob HNE.out HXN.out HYN.out (by have := HLX.out; have := HXN.out; omega) (by have := HLY.out; have := HYN.out; omega)).mono ?_
  rintro e wE ⟨rfl, b⟩
  have HF : Hid (Below w1.heap.size w1 wE) := (HB2.out.trans (hbel.mono HB2.out.size)).trans b
  clear b hbel hsz hra hrb hoa hob
  go_wp2
  go_ret
  exact ⟨rfl, HF.out⟩

theorem natDiv_top (vx : Value) (xs : List Nat) (vy : Value) (ys : List Nat) (w : World) (hx : Num w vx xs) (hy : Num w vy ys) :
    Calls Try.prog 3 #[vx, vy] w fun e w' => e = .returned (.bool true) ∧ Below w.heap.size w w' := natDiv_walk vx vy xs ys w hx hy
end Go.Proofs.Ytnlajeinegampaa

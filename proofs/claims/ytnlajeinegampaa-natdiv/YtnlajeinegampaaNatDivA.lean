/-
  Proved here: NatDiv of any two numbers returns true, and writes nothing that was there.
-/
import Derived.Test.YtnlajeinegampaaAllAll
import Derived.Test.YtnlajeinegampaaRefGcd
import Derived.Test.YtnlajeinegampaaGcd
import Derived.Test.YtnlajeinegampaaOver
namespace Go.Proofs.Ytnlajeinegampaa
open Go.RowKit

theorem Bag.push2 {B : Nat} {w w' : World} {l : List (Value × List Nat)} {v u : Value} {xs ys : List Nat} (h : Bag B w l) (h1 : Own w.heap.size 40 w' v xs) (h2 : Own w.heap.size 40 w' u ys) (hap : v.ownBlock = none ∨ v.ownBlock ≠ u.ownBlock) (hb : Below w.heap.size w w') (hB : B ≤ w.heap.size) : Bag B w' (l ++ [(v, xs), (u, ys)]) := by
  refine ⟨fun p hp => ?_, ?_⟩
  · rcases List.mem_append.1 hp with hp | hp
    · exact (h.1 p hp).below hb
    · simp only [List.mem_cons, List.not_mem_nil, or_false] at hp
      rcases hp with rfl | rfl
      · exact h1.mono hB
      · exact h2.mono hB
  · rw [List.pairwise_append]
    refine ⟨h.2, List.Pairwise.cons (fun q hq => ?_) (by simp), fun p hp q hq => ?_⟩
    · simp only [List.mem_singleton] at hq
      subst hq
      exact hap
    · simp only [List.mem_cons, List.not_mem_nil, or_false] at hq
      rcases hq with rfl | rfl
      · exact apart_later (h.1 p hp) h1 (Nat.le_refl _)
      · exact apart_later (h.1 p hp) h2 (Nat.le_refl _)
theorem own_bex {B B' e g n cap : Nat} {w w' : World} {v : Value} {xs : List Nat} (h : Own B e w v xs) (hb : Bex [.slice (some ⟨g, 0, none⟩) n cap] w w') (hg : g < B') (hB : B' ≤ B) : Own B e w' v xs := by
  refine h.bex hb fun j hj => ?_
  have hj0 : j = 0 := by simp at hj; exact hj
  subst hj0
  right
  intro he
  have h1 := (h.block g he.symm).1
  omega
theorem bex_own {B e g n cap g2 n2 cap2 : Nat} {w w' : World} {xs : List Nat} (h : Own B e w (.slice (some ⟨g, 0, none⟩) n cap) xs) (hb : Bex [.slice (some ⟨g2, 0, none⟩) n2 cap2] w w') (hne : g ≠ g2) : Own B e w' (.slice (some ⟨g, 0, none⟩) n cap) xs := by
  refine h.bex hb fun j hj => ?_
  have hj0 : j = 0 := by simp at hj; exact hj
  subst hj0
  right
  intro he
  have he2 : some g2 = some g := he
  injection he2 with he3
  exact hne he3.symm
theorem bex_below {B e g n cap : Nat} {w w' : World} {xs : List Nat} (h : Own B e w (.slice (some ⟨g, 0, none⟩) n cap) xs) (hb : Bex [.slice (some ⟨g, 0, none⟩) n cap] w w') : Below B w w' := by
  have hl := own_lt h
  refine hb.below (by omega) fun j k hj hk => ?_
  have hj0 : j = 0 := by simp at hj; exact hj
  subst hj0
  have he2 : some g = some k := hk
  injection he2 with he3
  omega
theorem lim_val_len {xs : List Nat} {k : Nat} (h : limbs xs) (hk : xs.length ≤ k) : (lim (val xs)).length ≤ k := Nat.le_trans (lim_len_le (val_lt h)) hk

set_option maxRecDepth 100000 in
set_option maxHeartbeats 6400000 in
theorem anew_yes (B ga na ca gb nb cb : Nat) (X Y : List Nat) (w : World) (ha : Own B 40 w (.slice (some ⟨ga, 0, none⟩) na ca) X) (hb : Own B 40 w (.slice (some ⟨gb, 0, none⟩) nb cb) Y) (hne : ga ≠ gb) (hna : X.length = na) (hnb : Y.length = nb) (la : na ≤ 1000) (lb : nb ≤ 1000) :
    Calls Try.prog 16 #[.slice (some ⟨ga, 0, none⟩) na ca, .slice (some ⟨gb, 0, none⟩) nb cb] w fun e w' => e = .returned (.bool true) ∧ Below B w w' := by
  have h1 := over_any B ga na ca X w ha hna la
  have HLX : Hid ((X.map ov).length = na) := by show _ = _; simp [hna]
  have HLY : Hid ((Y.map ov).length = nb) := by show _ = _; simp [hnb]
  have HNB : Hid (Y.length = nb) := hnb
  have HNE : Hid (ga ≠ gb) := hne
  have HGB : Hid (gb < w.heap.size) := (own_lt hb).2
  clear hna hnb hne
  go_enter Try.func16, Try.ntmps16
  go_wp2_with fail
  refine h1.mono ?_
  rintro e w1 ⟨x, rfl, oa, ox, bx1⟩
  have bel := bex_below ha bx1
  replace hb := bex_own hb bx1 (Ne.symm HNE.out)
  have hS1 := bx1.size
  obtain ⟨xo, xl, xc, rfl⟩ := ox.sl
  clear h1 ha bx1
  have h2 := over_any B gb nb cb Y w1 hb HNB.out lb
  go_wp2_with fail
  refine h2.mono ?_
  rintro e w2 ⟨y, rfl, ob, oy, bx2⟩
  have b2 := bex_below hb bx2
  replace oa := bex_own oa bx2 HNE.out
  replace ox := own_bex ox bx2 HGB.out (Nat.le_refl _)
  have hBw : B ≤ w1.heap.size := Nat.le_trans (own_lt hb).1 (Nat.le_of_lt (own_lt hb).2)
  replace bel := bel.trans b2
  obtain ⟨yo, yl, yc, rfl⟩ := oy.sl
  clear h2 hb bx2 b2 hS1 HGB HNE
  have hB2 : B ≤ w2.heap.size := Nat.le_trans (own_lt oa).1 (Nat.le_of_lt (own_lt oa).2)
  obtain ⟨P, hP⟩ : ∃ P, P = X.map ov := ⟨_, rfl⟩
  obtain ⟨Q, hQ⟩ : ∃ P, P = Y.map ov := ⟨_, rfl⟩
  rw [← hP] at oa ox HLX
  rw [← hQ] at ob oy HLY
  clear hP hQ HNB hBw
  have na := oa.num
  have nb := ob.num
  have nx := ox.num
  have ny := oy.num
  clear oa ob ox oy
  go_wp2_with fail
  refine (divMod_any _ _ _ _ _ na nb (by rw [HLX.out]; omega)).mono ?_
  rintro e w3 ⟨q, r, rfl, oq, or_, _, b⟩
  obtain ⟨qo, ql, qc, rfl⟩ := oq.sl
  obtain ⟨ro, rl, rc, rfl⟩ := or_.sl
  replace na := na.below (Nat.le_refl _) b
  replace nb := nb.below (Nat.le_refl _) b
  replace nx := nx.below (Nat.le_refl _) b
  replace ny := ny.below (Nat.le_refl _) b
  replace bel := bel.trans (b.mono hB2)
  replace hB2 := Nat.le_trans hB2 b.size
  clear b
  have nq := oq.num
  have nr := or_.num
  clear oq or_
  go_wp2_with fail
  refine (divMod_ref _ _ _ _ _ nx ny (by rw [HLX.out]; omega) (by rw [HLY.out]; omega)).mono ?_
  rintro e w4 ⟨s, t, rfl, os, ot, b⟩
  obtain ⟨so, sl, sc, rfl⟩ := os.sl
  obtain ⟨to_, tl, tc, rfl⟩ := ot.sl
  replace na := na.below (Nat.le_refl _) b
  replace nb := nb.below (Nat.le_refl _) b
  replace nx := nx.below (Nat.le_refl _) b
  replace ny := ny.below (Nat.le_refl _) b
  replace nq := nq.below (Nat.le_refl _) b
  replace nr := nr.below (Nat.le_refl _) b
  replace bel := bel.trans (b.mono hB2)
  replace hB2 := Nat.le_trans hB2 b.size
  clear b
  have ns := os.num
  have nt := ot.num
  clear os ot
  have fe : (errZ (val Q) == errZ (val Q)) = true := by simp
  generalize errZ (val Q) = er at *
  go_wp2_with fail
  refine (same_yes _ _ _ _ nq ns).mono ?_
  rintro e w5 ⟨rfl, q5, hq⟩
  have b := belowK hq
  clear hq
  replace na := na.below (Nat.le_refl _) b
  replace nb := nb.below (Nat.le_refl _) b
  replace nx := nx.below (Nat.le_refl _) b
  replace ny := ny.below (Nat.le_refl _) b
  replace nq := nq.below (Nat.le_refl _) b
  replace nr := nr.below (Nat.le_refl _) b
  replace ns := ns.below (Nat.le_refl _) b
  replace nt := nt.below (Nat.le_refl _) b
  replace bel := bel.trans (b.mono hB2)
  replace hB2 := Nat.le_trans hB2 b.size
  clear b
  go_wp2_with fail
  refine (same_yes _ _ _ _ nr nt).mono ?_
  rintro e w6 ⟨rfl, q6, hq⟩
  have b := belowK hq
  clear hq
  replace na := na.below (Nat.le_refl _) b
  replace nb := nb.below (Nat.le_refl _) b
  replace nx := nx.below (Nat.le_refl _) b
  replace ny := ny.below (Nat.le_refl _) b
  replace nq := nq.below (Nat.le_refl _) b
  replace nr := nr.below (Nat.le_refl _) b
  replace ns := ns.below (Nat.le_refl _) b
  replace nt := nt.below (Nat.le_refl _) b
  replace bel := bel.trans (b.mono hB2)
  replace hB2 := Nat.le_trans hB2 b.size
  clear b
  clear nq nr ns nt
  go_wp2_with fail
  refine (gcd_any _ _ _ _ _ na nb (by rw [HLX.out]; omega) (by rw [HLY.out]; omega)).mono ?_
  rintro e w7 ⟨g, rfl, og, b⟩
  obtain ⟨go, gl, gc, rfl⟩ := og.sl
  replace na := na.below (Nat.le_refl _) b
  replace nb := nb.below (Nat.le_refl _) b
  replace nx := nx.below (Nat.le_refl _) b
  replace ny := ny.below (Nat.le_refl _) b
  replace bel := bel.trans (b.mono hB2)
  replace hB2 := Nat.le_trans hB2 b.size
  clear b
  have ng := og.num
  clear og
  go_wp2_with fail
  refine (gcd_ref _ _ _ _ _ nx ny (by rw [HLX.out]; omega) (by rw [HLY.out]; omega)).mono ?_
  rintro e w8 ⟨h, rfl, oh, b⟩
  obtain ⟨ho, hl, hc, rfl⟩ := oh.sl
  replace na := na.below (Nat.le_refl _) b
  replace nb := nb.below (Nat.le_refl _) b
  replace nx := nx.below (Nat.le_refl _) b
  replace ny := ny.below (Nat.le_refl _) b
  replace ng := ng.below (Nat.le_refl _) b
  replace bel := bel.trans (b.mono hB2)
  replace hB2 := Nat.le_trans hB2 b.size
  clear b
  have nh := oh.num
  clear oh
  go_wp2_with fail
  refine (same_yes _ _ _ _ ng nh).mono ?_
  rintro e w9 ⟨rfl, q9, hq⟩
  have b := belowK hq
  clear hq
  replace na := na.below (Nat.le_refl _) b
  replace nb := nb.below (Nat.le_refl _) b
  replace nx := nx.below (Nat.le_refl _) b
  replace ny := ny.below (Nat.le_refl _) b
  replace ng := ng.below (Nat.le_refl _) b
  replace nh := nh.below (Nat.le_refl _) b
  replace bel := bel.trans (b.mono hB2)
  replace hB2 := Nat.le_trans hB2 b.size
  clear b
  have HE : Hid (Below B w w9) := bel
  clear bel hB2 na nb nx ny ng nh
  go_wp2
  go_ret
  exact ⟨rfl, HE.out⟩
end Go.Proofs.Ytnlajeinegampaa

/-
  Proved here: NatRoot of any number returns true, and writes nothing that was there.
-/
import Derived.Test.YtboohobkjhianaaBag
import Derived.Test.YtboohobkjhianaaRefRoot
namespace Go.Proofs.Ytboohobkjhianaa
open Go.RowKit

set_option maxRecDepth 100000 in
set_option maxHeartbeats 8000000 in
theorem natRoot_top (vx : Value) (xs : List Nat) (w1 : World) (hx : Num w1 vx xs) :
    Calls Try.prog 7 #[vx] w1 fun e w' => e = .returned (.bool true) ∧ Below w1.heap.size w1 w' := by
  go_enter Try.func7, Try.ntmps7
  go_wp2_with fail
  refine (cut_any _ _ 40 _ hx (by decide)).mono ?_
  rintro e w1 ⟨rfl, rfl⟩
  have nx := hx.cut (k := min 40 xs.length) (Nat.min_le_right _ _)
  have lx : (xs.take (min 40 xs.length)).length ≤ 40 := by simp; omega
  generalize xs.take (min 40 xs.length) = X at *
  generalize cutTo vx (min 40 xs.length) = x at *
  clear hx
  go_wp2_with fail
  refine (roomy_any _ _ _ nx (by omega)).mono ?_
  rintro e w2 ⟨a, rfl, ra2, hB2⟩
  have nx2 := nx.below (Nat.le_refl _) hB2
  clear nx
  have na2 := ra2.own.num
  have hbel : Below w2.heap.size w2 w2 := Below.refl _ _
  have hsz : w2.heap.size ≤ w2.heap.size := Nat.le_refl _
  have hbag : Bag w2.heap.size w2 [] := Bag.nil _ _
  go_wp2_with fail
  refine (root_ref _ _ _ nx2 (by omega)).mono ?_
  rintro e w3 ⟨r, v3, rfl, hr, ho, hb⟩
  obtain ⟨p3, k3, c3, rfl⟩ := ho.sl
  have nr := ho.num
  have hrl : (lim r).length ≤ 1099511627776 := by
    have h1 := lim_len_of_lt (root_le hr.1)
    have h2 := lim_short nx2
    omega
  replace hbag := hbag.step hb
  obtain ⟨hbel, hsz⟩ := nextB hbel hsz hb
  clear ho hb
  go_wp2_with fail
  refine (root_any _ _ _ (na2.below (Nat.le_refl _) hbel) (by omega)).mono ?_
  rintro e w4 ⟨r1, v1, rfl, hr1, ho, hb⟩
  rw [hr1.unique hr] at ho
  obtain ⟨p1, k1, c1, rfl⟩ := ho.sl
  replace hbag := hbag.push ho hb hsz
  have nr := nr.below (Nat.le_refl _) hb
  obtain ⟨hbel, hsz⟩ := nextB hbel hsz hb
  clear ho hb hr1
  go_wp2_with fail
  refine (root_any _ _ _ (na2.below (Nat.le_refl _) hbel) (by omega)).mono ?_
  rintro e w5 ⟨r1, v2, rfl, hr1, ho, hb⟩
  rw [hr1.unique hr] at ho
  obtain ⟨p2, k2, c2, rfl⟩ := ho.sl
  replace hbag := hbag.push ho hb hsz
  have nr := nr.below (Nat.le_refl _) hb
  obtain ⟨hbel, hsz⟩ := nextB hbel hsz hb
  have HBG : Hid (Bag w2.heap.size w5 [(.slice p1 k1 c1, lim r), (.slice p2 k2 c2, lim r)]) := hbag
  clear ho hb hr1 hbag hr
  go_wp2_with fail
  refine (apart_bag w2.heap.size w5.heap.size (w5.heap.size + 1) 2 [(.slice p1 k1 c1, lim r), (.slice p2 k2 c2, lim r)] [.slice p1 k1 c1, .slice p2 k2 c2] [.slice p3 k3 c3, .slice p3 k3 c3] _ ?_ hsz rfl (by decide) rfl ?_ ?_ ?_ ?_ ?_).mono ?_
  · simp; omega
  · exact heap_alloc2_old w5 _ _
  · exact heap_alloc2_new w5 _ _
  · exact (HBG.out.step ((Below.refl _ _).alloc (Nat.le_refl _) _)).step ((Below.refl _ _).alloc (Nat.le_refl _) _)
  · exact Wants.cons ((nr.alloc _).alloc _) (Wants.cons ((nr.alloc _).alloc _) (Wants.nil _))
  · intro p hp
    simp only [List.mem_cons, List.not_mem_nil, or_false] at hp
    rcases hp with rfl | rfl
    · exact hrl
    · exact hrl
  rintro e wA ⟨rfl, _, hb⟩
  have hbelA : Below w2.heap.size w2 wA := ((hbel.alloc hsz _).alloc (by simp; omega) _).trans hb
  clear hb hbel HBG nr
  go_wp2_with fail
  refine (kept_yes _ _ _ _ _ (ra2.below hbelA) (nx2.below (Nat.le_refl _) hbelA) (by omega)).mono ?_
  rintro e wC ⟨rfl, q, hq⟩
  have hb : Below wA.heap.size wA wC := by rw [hq]; exact belowD _ _
  have HF : Hid (Below w1.heap.size w1 wC) := hB2.trans ((hbelA.trans (hb.mono hbelA.size)).mono hB2.size)
  clear hb hq hbelA
  go_wp2
  go_ret
  exact ⟨rfl, HF.out⟩
end Go.Proofs.Ytboohobkjhianaa

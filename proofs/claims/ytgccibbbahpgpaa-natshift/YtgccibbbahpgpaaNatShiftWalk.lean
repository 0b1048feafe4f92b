/-
  Proved here: NatShift of any number and any shift returns true, and writes nothing that was there.
-/
import Derived.Test.YtgccibbbahpgpaaBag
import Derived.Test.YtgccibbbahpgpaaRefShift
namespace Go.Proofs.Ytgccibbbahpgpaa
open Go.RowKit

set_option maxRecDepth 100000 in
set_option maxHeartbeats 8000000 in
theorem natShift_bad (vx : Value) (xs : List Nat) (n : Int) (w1 : World) (hx : Num w1 vx xs) (hn : n < -262144 ∨ 262144 < n) :
    Calls Try.prog 6 #[vx, .int .i64 n] w1 fun e w' => e = .returned (.bool true) ∧ Below w1.heap.size w1 w' := by
  go_enter Try.func6, Try.ntmps6
  go_wp2_with fail
  refine (cut_any _ _ 200 _ hx (by decide)).mono ?_
  rintro e w1 ⟨rfl, rfl⟩
  have nx := hx.cut (k := min 200 xs.length) (Nat.min_le_right _ _)
  have lx : (xs.take (min 200 xs.length)).length ≤ 200 := by simp; omega
  generalize xs.take (min 200 xs.length) = X at *
  generalize cutTo vx (min 200 xs.length) = x at *
  clear hx
  go_wp2_with fail
  refine (roomy_any _ _ _ nx (by omega)).mono ?_
  rintro e w2 ⟨a, rfl, ra2, hB2⟩
  have nx2 := nx.below (Nat.le_refl _) hB2
  clear nx
  have na2 := ra2.own.num
  go_wp2_with fail
  refine (shift_bad _ _ _ hn).mono ?_
  rintro e w2 ⟨rfl, rfl⟩
  go_wp2_with fail
  refine (shift_bad _ _ _ hn).mono ?_
  rintro e w2 ⟨rfl, rfl⟩
  go_wp2_with fail
  refine (shift_ref_bad _ _ _ hn).mono ?_
  rintro e w2 ⟨rfl, rfl⟩
  clear hn
  go_wp2_with fail
  refine (apart_bag w2.heap.size w2.heap.size (w2.heap.size + 1) 2 [(.slice none 0 0, []), (.slice none 0 0, [])] [.slice none 0 0, .slice none 0 0] [.slice none 0 0, .slice none 0 0] _ ?_ (Nat.le_refl _) rfl (by decide) rfl ?_ ?_ ?_ ?_ ?_).mono ?_
  · simp; omega
  · exact heap_alloc2_old w2 _ _
  · exact heap_alloc2_new w2 _ _
  · exact ⟨fun p hp => by simp at hp; subst hp; exact Own.of_nil _ _ _, by simp [Value.ownBlock]⟩
  · exact Wants.cons (Num.of_nil _) (Wants.cons (Num.of_nil _) (Wants.nil _))
  · intro p hp; simp at hp; subst hp; simp
  rintro e wA ⟨rfl, _, hb⟩
  have hbel : Below w2.heap.size w2 wA := (((Below.refl w2.heap.size w2).alloc (Nat.le_refl _) _).alloc (by simp) _).trans hb
  clear hb
  go_wp2_with fail
  refine (kept_yes _ _ _ _ _ (ra2.below hbel) (nx2.below (Nat.le_refl _) hbel) (by omega)).mono ?_
  rintro e wC ⟨rfl, q, hq⟩
  have hb : Below wA.heap.size wA wC := by rw [hq]; exact belowD _ _
  have HF : Hid (Below w1.heap.size w1 wC) := hB2.trans ((hbel.trans (hb.mono hbel.size)).mono hB2.size)
  clear hb hq hbel
  go_wp2
  go_ret
  exact ⟨rfl, HF.out⟩

theorem shl_pow {v k M : Nat} {n : Int} (h : v < 4294967296 ^ k) (hn : n ≤ 32 * (M : Int)) : shl v n < 4294967296 ^ (k + M) := by
  have h2 : shl v n ≤ v * 2 ^ (32 * M) := by
    unfold shl
    by_cases h0 : 0 ≤ n
    · rw [if_pos h0]; exact Nat.mul_le_mul_left _ (Nat.pow_le_pow_right (by decide) (by omega))
    · rw [if_neg h0]
      exact Nat.le_trans (Nat.div_le_self _ _) (Nat.le_mul_of_pos_right _ (Nat.two_pow_pos _))
  refine Nat.lt_of_le_of_lt h2 ?_
  rw [Nat.pow_add, Nat.pow_mul]
  exact Nat.mul_lt_mul_of_pos_right h (Nat.pow_pos (by decide))
theorem shl_len {v k : Nat} {n : Int} (h : v < 4294967296 ^ k) (hk : k ≤ 1000) (hn : n ≤ 262144) : (lim (shl v n)).length ≤ 1099511627776 :=
  Nat.le_trans (lim_len_le (shl_pow (M := 8192) h (by omega))) (by omega)

set_option maxRecDepth 100000 in
set_option maxHeartbeats 8000000 in
theorem natShift_ok (vx : Value) (xs : List Nat) (n : Int) (w1 : World) (hx : Num w1 vx xs) (hn1 : -262144 ≤ n) (hn2 : n ≤ 262144) :
    Calls Try.prog 6 #[vx, .int .i64 n] w1 fun e w' => e = .returned (.bool true) ∧ Below w1.heap.size w1 w' := by
  go_enter Try.func6, Try.ntmps6
  go_wp2_with fail
  refine (cut_any _ _ 200 _ hx (by decide)).mono ?_
  rintro e w1 ⟨rfl, rfl⟩
  have nx := hx.cut (k := min 200 xs.length) (Nat.min_le_right _ _)
  have lx : (xs.take (min 200 xs.length)).length ≤ 200 := by simp; omega
  generalize xs.take (min 200 xs.length) = X at *
  generalize cutTo vx (min 200 xs.length) = x at *
  clear hx
  go_wp2_with fail
  refine (roomy_any _ _ _ nx (by omega)).mono ?_
  rintro e w2 ⟨a, rfl, ra2, hB2⟩
  have nx2 := nx.below (Nat.le_refl _) hB2
  clear nx
  have na2 := ra2.own.num
  have hbel : Below w2.heap.size w2 w2 := Below.refl _ _
  have hsz : w2.heap.size ≤ w2.heap.size := Nat.le_refl _
  have hbag : Bag w2.heap.size w2 [] := Bag.nil _ _
  have HLN : Hid ((lim (shl (val X) n)).length ≤ 1099511627776) := shl_len (Nat.lt_of_lt_of_le (val_lt nx2.1) (Nat.pow_le_pow_right (by decide) lx)) (by decide) hn2
  go_wp2_with fail
  refine (shift_ok _ _ _ _ (na2.below (Nat.le_refl _) hbel) (by omega) hn1 hn2).mono ?_
  rintro e w3 ⟨v1, rfl, ho, hb⟩
  obtain ⟨p1, k1, c1, rfl⟩ := ho.sl
  replace hbag := hbag.push ho hb hsz
  obtain ⟨hbel, hsz⟩ := nextB hbel hsz hb
  clear ho hb
  go_wp2_with fail
  refine (shift_ok _ _ _ _ (na2.below (Nat.le_refl _) hbel) (by omega) hn1 hn2).mono ?_
  rintro e w4 ⟨v2, rfl, ho, hb⟩
  obtain ⟨p2, k2, c2, rfl⟩ := ho.sl
  replace hbag := hbag.push ho hb hsz
  obtain ⟨hbel, hsz⟩ := nextB hbel hsz hb
  clear ho hb
  go_wp2_with fail
  refine (shift_ref _ _ _ _ (nx2.below (Nat.le_refl _) hbel) (by omega) hn1 hn2).mono ?_
  rintro e w5 ⟨v3, rfl, ho, hb⟩
  obtain ⟨p3, k3, c3, rfl⟩ := ho.sl
  have nr := ho.num
  replace hbag := hbag.step hb
  obtain ⟨hbel, hsz⟩ := nextB hbel hsz hb
  have HBG : Hid (Bag w2.heap.size w5 [(.slice p1 k1 c1, lim (shl (val X) n)), (.slice p2 k2 c2, lim (shl (val X) n))]) := hbag
  clear ho hb hbag hn1 hn2
  go_wp2_with fail
  refine (apart_bag w2.heap.size w5.heap.size (w5.heap.size + 1) 2 [(.slice p1 k1 c1, lim (shl (val X) n)), (.slice p2 k2 c2, lim (shl (val X) n))] [.slice p1 k1 c1, .slice p2 k2 c2] [.slice p3 k3 c3, .slice p3 k3 c3] _ ?_ hsz rfl (by decide) rfl ?_ ?_ ?_ ?_ ?_).mono ?_
  · simp; omega
  · exact heap_alloc2_old w5 _ _
  · exact heap_alloc2_new w5 _ _
  · exact (HBG.out.step ((Below.refl _ _).alloc (Nat.le_refl _) _)).step ((Below.refl _ _).alloc (Nat.le_refl _) _)
  · exact Wants.cons ((nr.alloc _).alloc _) (Wants.cons ((nr.alloc _).alloc _) (Wants.nil _))
  · intro p hp
    simp only [List.mem_cons, List.not_mem_nil, or_false] at hp
    rcases hp with rfl | rfl
    · exact HLN.out
    · exact HLN.out
  rintro e wA ⟨rfl, _, hb⟩
  have hb0 : Below w2.heap.size w2 wA := ((hbel.alloc hsz _).alloc (by simp; omega) _).trans hb
  clear hb hbel hsz HBG nr
  go_wp2_with fail
  refine (kept_yes _ _ _ _ _ (ra2.below hb0) (nx2.below (Nat.le_refl _) hb0) (by omega)).mono ?_
  rintro e wC ⟨rfl, q, hq⟩
  have hb : Below wA.heap.size wA wC := by rw [hq]; exact belowD _ _
  have HF : Hid (Below w1.heap.size w1 wC) := hB2.trans ((hb0.trans (hb.mono hb0.size)).mono hB2.size)
  clear hb hq hb0
  go_wp2
  go_ret
  exact ⟨rfl, HF.out⟩

theorem natShift_top (vx : Value) (xs : List Nat) (n : Int) (w : World) (hx : Num w vx xs) (_hn : (Lit.int .i64 n).wf = true) :
    Calls Try.prog 6 #[vx, .int .i64 n] w fun e w' => e = .returned (.bool true) ∧ Below w.heap.size w w' := by
  by_cases h : n < -262144 ∨ 262144 < n
  · exact natShift_bad vx xs n w hx h
  · exact natShift_ok vx xs n w hx (by omega) (by omega)
end Go.Proofs.Ytgccibbbahpgpaa

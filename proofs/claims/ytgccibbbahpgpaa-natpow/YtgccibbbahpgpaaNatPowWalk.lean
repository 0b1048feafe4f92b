/-
  Proved here: NatPow of any number and any power returns true, and writes nothing that was there.
-/
import Derived.Test.YtgccibbbahpgpaaBag
import Derived.Test.YtgccibbbahpgpaaRefPow
namespace Go.Proofs.Ytgccibbbahpgpaa
open Go.RowKit

set_option maxRecDepth 100000 in
set_option maxHeartbeats 8000000 in
theorem natPow_bad (vx : Value) (xs : List Nat) (n : Int) (w1 : World) (hx : Num w1 vx xs) (hn : n < 0 ∨ 1024 < n) :
    Calls Try.prog 5 #[vx, .int .i64 n] w1 fun e w' => e = .returned (.bool true) ∧ Below w1.heap.size w1 w' := by
  go_enter Try.func5, Try.ntmps5
  go_wp2_with fail
  refine (cut_any _ _ 60 _ hx (by decide)).mono ?_
  rintro e w1 ⟨rfl, rfl⟩
  have nx := hx.cut (k := min 60 xs.length) (Nat.min_le_right _ _)
  have lx : (xs.take (min 60 xs.length)).length ≤ 60 := by simp; omega
  generalize xs.take (min 60 xs.length) = X at *
  generalize cutTo vx (min 60 xs.length) = x at *
  clear hx
  go_wp2_with fail
  refine (roomy_any _ _ _ nx (by omega)).mono ?_
  rintro e w2 ⟨a, rfl, ra2, hB2⟩
  have nx2 := nx.below (Nat.le_refl _) hB2
  clear nx
  have na2 := ra2.own.num
  go_wp2_with fail
  refine (pow_bad _ _ _ hn).mono ?_
  rintro e w2 ⟨rfl, rfl⟩
  go_wp2_with fail
  refine (pow_bad _ _ _ hn).mono ?_
  rintro e w2 ⟨rfl, rfl⟩
  go_wp2_with fail
  refine (pow_ref_bad _ _ _ hn).mono ?_
  rintro e w2 ⟨rfl, rfl⟩
  clear hn
  go_wp2_with fail
  refine (apart_bag w2.heap.size w2.heap.size (w2.heap.size + 1) 2 [(.slice none 0 0, []), (.slice none 0 0, [])] [.slice none 0 0, .slice none 0 0] [.slice none 0 0, .slice none 0 0] _ ?_ (Nat.le_refl _) rfl (by decide) rfl ?_ ?_ ?_ ?_ ?_).mono ?_
  · simp; omega
  · exact heap_alloc2_old w2 _ _
  · exact heap_alloc2_new w2 _ _
  · exact ⟨fun p hp => by simp at hp; subst hp; exact Own.of_nil _ _ _, by simp [Value.ownBlock]⟩
  · exact Wants.cons (Num.of_nil _) (Wants.cons (Num.of_nil _) (Wants.nil _))
  · intro p hp; simp at hp; subst hp; simp
  rintro e wA ⟨rfl, _, hb⟩
  have hbel : Below w2.heap.size w2 wA := (((Below.refl w2.heap.size w2).alloc (Nat.le_refl _) _).alloc (by simp) _).trans hb
  clear hb
  go_wp2_with fail
  refine (kept_yes _ _ _ _ _ (ra2.below hbel) (nx2.below (Nat.le_refl _) hbel) (by omega)).mono ?_
  rintro e wC ⟨rfl, q, hq⟩
  have hb : Below wA.heap.size wA wC := by rw [hq]; exact belowD _ _
  have HF : Hid (Below w1.heap.size w1 wC) := hB2.trans ((hbel.trans (hb.mono hbel.size)).mono hB2.size)
  clear hb hq hbel
  go_wp2
  go_ret
  exact ⟨rfl, HF.out⟩

set_option maxRecDepth 100000 in
set_option maxHeartbeats 8000000 in
theorem natPow_big (vx : Value) (xs : List Nat) (n : Nat) (w1 : World) (hx : Num w1 vx xs) (hn : n ≤ 1024) (hbig : 262144 < bl (val (xs.take (min 60 xs.length)) ^ n)) :
    Calls Try.prog 5 #[vx, .int .i64 (n : Int)] w1 fun e w' => e = .returned (.bool true) ∧ Below w1.heap.size w1 w' := by
  go_enter Try.func5, Try.ntmps5
  go_wp2_with fail
  refine (cut_any _ _ 60 _ hx (by decide)).mono ?_
  rintro e w1 ⟨rfl, rfl⟩
  have nx := hx.cut (k := min 60 xs.length) (Nat.min_le_right _ _)
  have lx : (xs.take (min 60 xs.length)).length ≤ 60 := by simp; omega
  generalize xs.take (min 60 xs.length) = X at *
  generalize cutTo vx (min 60 xs.length) = x at *
  clear hx
  go_wp2_with fail
  refine (roomy_any _ _ _ nx (by omega)).mono ?_
  rintro e w2 ⟨a, rfl, ra2, hB2⟩
  have nx2 := nx.below (Nat.le_refl _) hB2
  clear nx
  have na2 := ra2.own.num
  have hbel : Below w2.heap.size w2 w2 := Below.refl _ _
  have hsz : w2.heap.size ≤ w2.heap.size := Nat.le_refl _
  go_wp2_with fail
  refine (pow_any _ _ _ _ (na2.below (Nat.le_refl _) hbel) (by omega) hn).mono ?_
  rintro e w3 ⟨_, he, hb⟩
  have he' := he hbig
  subst he'
  clear he
  obtain ⟨hbel, hsz⟩ := nextB hbel hsz hb
  clear hb
  go_wp2_with fail
  refine (pow_any _ _ _ _ (na2.below (Nat.le_refl _) hbel) (by omega) hn).mono ?_
  rintro e w4 ⟨_, he, hb⟩
  have he' := he hbig
  subst he'
  clear he
  obtain ⟨hbel, hsz⟩ := nextB hbel hsz hb
  clear hb
  go_wp2_with fail
  refine (pow_ref _ _ _ _ (nx2.below (Nat.le_refl _) hbel) (by omega) hn).mono ?_
  rintro e w5 ⟨_, he, hb⟩
  have he' := he hbig
  subst he'
  clear he hbig
  obtain ⟨hbel, hsz⟩ := nextB hbel hsz hb
  clear hb
  clear hn
  go_wp2_with fail
  refine (apart_bag w2.heap.size w5.heap.size (w5.heap.size + 1) 2 [(.slice none 0 0, []), (.slice none 0 0, [])] [.slice none 0 0, .slice none 0 0] [.slice none 0 0, .slice none 0 0] _ ?_ hsz rfl (by decide) rfl ?_ ?_ ?_ ?_ ?_).mono ?_
  · simp; omega
  · exact heap_alloc2_old w5 _ _
  · exact heap_alloc2_new w5 _ _
  · exact ⟨fun p hp => by simp at hp; subst hp; exact Own.of_nil _ _ _, by simp [Value.ownBlock]⟩
  · exact Wants.cons (Num.of_nil _) (Wants.cons (Num.of_nil _) (Wants.nil _))
  · intro p hp; simp at hp; subst hp; simp
  rintro e wA ⟨rfl, _, hb⟩
  have hb0 : Below w2.heap.size w2 wA := ((hbel.alloc hsz _).alloc (by simp; omega) _).trans hb
  clear hb hbel hsz
  go_wp2_with fail
  refine (kept_yes _ _ _ _ _ (ra2.below hb0) (nx2.below (Nat.le_refl _) hb0) (by omega)).mono ?_
  rintro e wC ⟨rfl, q, hq⟩
  have hb : Below wA.heap.size wA wC := by rw [hq]; exact belowD _ _
  have HF : Hid (Below w1.heap.size w1 wC) := hB2.trans ((hb0.trans (hb.mono hb0.size)).mono hB2.size)
  clear hb hq hb0
  go_wp2
  go_ret
  exact ⟨rfl, HF.out⟩

set_option maxRecDepth 100000 in
set_option maxHeartbeats 8000000 in
theorem natPow_ok (vx : Value) (xs : List Nat) (n : Nat) (w1 : World) (hx : Num w1 vx xs) (hn : n ≤ 1024) (hsm : bl (val (xs.take (min 60 xs.length)) ^ n) ≤ 262144) :
    Calls Try.prog 5 #[vx, .int .i64 (n : Int)] w1 fun e w' => e = .returned (.bool true) ∧ Below w1.heap.size w1 w' := by
  go_enter Try.func5, Try.ntmps5
  go_wp2_with fail
  refine (cut_any _ _ 60 _ hx (by decide)).mono ?_
  rintro e w1 ⟨rfl, rfl⟩
  have nx := hx.cut (k := min 60 xs.length) (Nat.min_le_right _ _)
  have lx : (xs.take (min 60 xs.length)).length ≤ 60 := by simp; omega
  generalize xs.take (min 60 xs.length) = X at *
  generalize cutTo vx (min 60 xs.length) = x at *
  clear hx
  go_wp2_with fail
  refine (roomy_any _ _ _ nx (by omega)).mono ?_
  rintro e w2 ⟨a, rfl, ra2, hB2⟩
  have nx2 := nx.below (Nat.le_refl _) hB2
  clear nx
  have na2 := ra2.own.num
  have hbel : Below w2.heap.size w2 w2 := Below.refl _ _
  have hsz : w2.heap.size ≤ w2.heap.size := Nat.le_refl _
  have hbag : Bag w2.heap.size w2 [] := Bag.nil _ _
  have HLN : Hid ((lim (val X ^ n)).length ≤ 1099511627776) := Nat.le_trans (len_of_bl (k := 8192) (by omega)) (by decide)
  go_wp2_with fail
  refine (pow_any _ _ _ _ (na2.below (Nat.le_refl _) hbel) (by omega) hn).mono ?_
  rintro e w3 ⟨he, _, hb⟩
  obtain ⟨v1, he', ho⟩ := he hsm
  subst he'
  clear he
  obtain ⟨p1, k1, c1, rfl⟩ := ho.sl
  replace hbag := hbag.push ho hb hsz
  obtain ⟨hbel, hsz⟩ := nextB hbel hsz hb
  clear ho hb
  go_wp2_with fail
  refine (pow_any _ _ _ _ (na2.below (Nat.le_refl _) hbel) (by omega) hn).mono ?_
  rintro e w4 ⟨he, _, hb⟩
  obtain ⟨v2, he', ho⟩ := he hsm
  subst he'
  clear he
  obtain ⟨p2, k2, c2, rfl⟩ := ho.sl
  replace hbag := hbag.push ho hb hsz
  obtain ⟨hbel, hsz⟩ := nextB hbel hsz hb
  clear ho hb
  go_wp2_with fail
  refine (pow_ref _ _ _ _ (nx2.below (Nat.le_refl _) hbel) (by omega) hn).mono ?_
  rintro e w5 ⟨he, _, hb⟩
  obtain ⟨v3, he', nr⟩ := he hsm
  subst he'
  clear he
  obtain ⟨p3, k3, c3, rfl⟩ : ∃ ao k cap, v3 = .slice ao k cap := by obtain ⟨_, ao, cap, h, _⟩ := nr; exact ⟨ao, _, cap, h⟩
  replace hbag := hbag.step hb
  obtain ⟨hbel, hsz⟩ := nextB hbel hsz hb
  have HBG : Hid (Bag w2.heap.size w5 [(.slice p1 k1 c1, lim (val X ^ n)), (.slice p2 k2 c2, lim (val X ^ n))]) := hbag
  clear hb hbag hn hsm
  go_wp2_with fail
  refine (apart_bag w2.heap.size w5.heap.size (w5.heap.size + 1) 2 [(.slice p1 k1 c1, lim (val X ^ n)), (.slice p2 k2 c2, lim (val X ^ n))] [.slice p1 k1 c1, .slice p2 k2 c2] [.slice p3 k3 c3, .slice p3 k3 c3] _ ?_ hsz rfl (by decide) rfl ?_ ?_ ?_ ?_ ?_).mono ?_
  · simp; omega
  · exact heap_alloc2_old w5 _ _
  · exact heap_alloc2_new w5 _ _
  · exact (HBG.out.step ((Below.refl _ _).alloc (Nat.le_refl _) _)).step ((Below.refl _ _).alloc (Nat.le_refl _) _)
  · exact Wants.cons ((nr.alloc _).alloc _) (Wants.cons ((nr.alloc _).alloc _) (Wants.nil _))
  · intro p hp
    simp only [List.mem_cons, List.not_mem_nil, or_false] at hp
    rcases hp with rfl | rfl
    · exact HLN.out
    · exact HLN.out
  rintro e wA ⟨rfl, _, hb⟩
  have hb0 : Below w2.heap.size w2 wA := ((hbel.alloc hsz _).alloc (by simp; omega) _).trans hb
  clear hb hbel hsz HBG nr
  go_wp2_with fail
  refine (kept_yes _ _ _ _ _ (ra2.below hb0) (nx2.below (Nat.le_refl _) hb0) (by omega)).mono ?_
  rintro e wC ⟨rfl, q, hq⟩
  have hb : Below wA.heap.size wA wC := by rw [hq]; exact belowD _ _
  have HF : Hid (Below w1.heap.size w1 wC) := hB2.trans ((hb0.trans (hb.mono hb0.size)).mono hB2.size)
  clear hb hq hb0
  go_wp2
  go_ret
  exact ⟨rfl, HF.out⟩

theorem natPow_top (vx : Value) (xs : List Nat) (n : Int) (w : World) (hx : Num w vx xs) (_hn : (Lit.int .i64 n).wf = true) :
    Calls Try.prog 5 #[vx, .int .i64 n] w fun e w' => e = .returned (.bool true) ∧ Below w.heap.size w w' := by
  by_cases h : n < 0 ∨ 1024 < n
  · exact natPow_bad vx xs n w hx h
  · obtain ⟨m, rfl⟩ := Int.eq_ofNat_of_zero_le (show 0 ≤ n by omega)
    by_cases hb : bl (val (xs.take (min 60 xs.length)) ^ m) ≤ 262144
    · exact natPow_ok vx xs m w hx (by omega) hb
    · exact natPow_big vx xs m w hx (by omega) (by omega)
end Go.Proofs.Ytgccibbbahpgpaa

/-
  Proved here: NatText of any number and any text returns true, and writes nothing that was there.
-/
import Derived.Test.YtboohobkjhianabDoorBag
import Derived.Test.YtboohobkjhianabDoorRefText
import Derived.Test.YtboohobkjhianabDoorRefParse
namespace Go.Proofs.YtboohobkjhianabDoor
open Go.RowKit

set_option maxRecDepth 100000 in
set_option maxHeartbeats 8000000 in
theorem natText_top (vx : Value) (xs : List Nat) (s : ByteArray) (w1 : World) (hx : Num w1 vx xs) (_hs : s.size ≤ maxLen) :
    Calls Tryd.prog 3 #[vx, .string s] w1 fun e w' => e = .returned (.bool true) ∧ Below w1.heap.size w1 w' := by
  go_enter Tryd.func3, Tryd.ntmps3
  go_wp2_with fail
  refine (cut_any _ _ 200 _ hx (by decide)).mono ?_
  rintro e w1 ⟨rfl, rfl⟩
  have nx := hx.cut (k := min 200 xs.length) (Nat.min_le_right _ _)
  have lx : (xs.take (min 200 xs.length)).length ≤ 200 := by simp; omega
  generalize xs.take (min 200 xs.length) = X at *
  generalize cutTo vx (min 200 xs.length) = x at *
  clear hx
  by_cases hbig : 2000 < s.size
  · have hbig' : (2000 : Int) < (s.size : Int) := by omega
    have hcutn : 2000 ≤ s.size := by omega
    have hS : (s.extract 0 2000).size ≤ 1000000 := by rw [ByteArray.size_extract]; omega
    go_wp2_with fail
    refine (roomy_any _ _ _ nx (by omega)).mono ?_
    rintro e w2 ⟨a, rfl, ra2, hB2⟩
    have nx2 := nx.below (Nat.le_refl _) hB2
    clear nx
    have na2 := ra2.own.num
    have hbel : Below w2.heap.size w2 w2 := Below.refl _ _
    have hsz : w2.heap.size ≤ w2.heap.size := Nat.le_refl _
    have hbag : Bag w2.heap.size w2 [] := Bag.nil _ _
    obtain ⟨cc, hcc⟩ : ∃ cc : Int, cc = if DigOk (s.extract 0 2000) ∧ 0 < (s.extract 0 2000).size then 0 else 10 := ⟨_, rfl⟩
    obtain ⟨V, hV⟩ : ∃ V : List Nat, V = if DigOk (s.extract 0 2000) ∧ 0 < (s.extract 0 2000).size then lim (bval (dgs (s.extract 0 2000))) else [] := ⟨_, rfl⟩
    have hVl : V.length ≤ 1099511627776 := by
      rw [hV]
      split
      · rename_i hd
        have h2 : (lim (bval (dgs (s.extract 0 2000)))).length ≤ (s.extract 0 2000).size := by
          apply lim_len_le
          have h1 := dval_lt (decs_rev hd.1.decs)
          rw [List.length_reverse, dgs_len] at h1
          exact Nat.lt_of_lt_of_le h1 (Nat.pow_le_pow_left (by decide : 10 ≤ 4294967296) _)
        omega
      · simp
    have hne : (cc != cc) = false := by simp
    have HCV : Hid (cc = (if DigOk (s.extract 0 2000) ∧ 0 < (s.extract 0 2000).size then 0 else 10) ∧ V = if DigOk (s.extract 0 2000) ∧ 0 < (s.extract 0 2000).size then lim (bval (dgs (s.extract 0 2000))) else []) := ⟨hcc, hV⟩
    clear hcc hV
    go_wp2_with fail
    refine (parse_any _ _ hS).mono ?_
    rintro e w3 ⟨v1, rfl, ho, hb⟩
    rw [← HCV.out.2] at ho
    rw [← HCV.out.1]
    obtain ⟨p1, k1, c1, rfl⟩ := ho.sl
    replace hbag := hbag.push ho hb hsz
    obtain ⟨hbel, hsz⟩ := nextB hbel hsz hb
    clear ho hb
    go_wp2_with fail
    refine (parse_any _ _ hS).mono ?_
    rintro e w4 ⟨v2, rfl, ho, hb⟩
    rw [← HCV.out.2] at ho
    rw [← HCV.out.1]
    obtain ⟨p2, k2, c2, rfl⟩ := ho.sl
    replace hbag := hbag.push ho hb hsz
    obtain ⟨hbel, hsz⟩ := nextB hbel hsz hb
    clear ho hb
    go_wp2_with fail
    refine (parse_ref _ _ hS).mono ?_
    rintro e w5 ⟨v3, rfl, ho, hb⟩
    rw [← HCV.out.2] at ho
    rw [← HCV.out.1]
    obtain ⟨p3, k3, c3, rfl⟩ := ho.sl
    have nr := ho.num
    replace hbag := hbag.step hb
    obtain ⟨hbel, hsz⟩ := nextB hbel hsz hb
    clear ho hb HCV hS
    go_wp2_with fail
    refine (text_any _ _ _ (na2.below (Nat.le_refl _) hbel) (by omega)).mono ?_
    rintro e w6 ⟨rfl, hb⟩
    replace hbag := hbag.step hb
    replace nr := nr.below (Nat.le_refl _) hb
    obtain ⟨hbel, hsz⟩ := nextB hbel hsz hb
    clear hb
    go_wp2_with fail
    refine (text_ref _ _ _ (nx2.below (Nat.le_refl _) hbel) (by omega)).mono ?_
    rintro e w7 ⟨rfl, hb⟩
    replace hbag := hbag.step hb
    replace nr := nr.below (Nat.le_refl _) hb
    obtain ⟨hbel, hsz⟩ := nextB hbel hsz hb
    have HBG : Hid (Bag w2.heap.size w7 [(.slice p1 k1 c1, V), (.slice p2 k2 c2, V)]) := hbag
    clear hb hbag
    generalize txt (val X) = T at *
    go_wp2_with fail
    refine (apart_bag w2.heap.size w7.heap.size (w7.heap.size + 1) 2 [(.slice p1 k1 c1, V), (.slice p2 k2 c2, V)] [.slice p1 k1 c1, .slice p2 k2 c2] [.slice p3 k3 c3, .slice p3 k3 c3] _ ?_ hsz rfl (by decide) rfl ?_ ?_ ?_ ?_ ?_).mono ?_
    · simp; omega
    · exact heap_alloc2_old w7 _ _
    · exact heap_alloc2_new w7 _ _
    · exact (HBG.out.step ((Below.refl _ _).alloc (Nat.le_refl _) _)).step ((Below.refl _ _).alloc (Nat.le_refl _) _)
    · exact Wants.cons ((nr.alloc _).alloc _) (Wants.cons ((nr.alloc _).alloc _) (Wants.nil _))
    · intro p hp
      simp only [List.mem_cons, List.not_mem_nil, or_false] at hp
      rcases hp with rfl | rfl
      · exact hVl
      · exact hVl
    rintro e wA ⟨rfl, _, hb⟩
    have hbelA : Below w2.heap.size w2 wA := ((hbel.alloc hsz _).alloc (by simp; omega) _).trans hb
    clear hb hbel HBG nr
    go_wp2_with fail
    refine (kept_yes _ _ _ _ _ (ra2.below hbelA) (nx2.below (Nat.le_refl _) hbelA) (by omega)).mono ?_
    rintro e wC ⟨rfl, q, hq⟩
    have hb : Below wA.heap.size wA wC := by rw [hq]; exact belowD _ _
    have HF : Hid (Below w1.heap.size w1 wC) := hB2.trans ((hbelA.trans (hb.mono hbelA.size)).mono hB2.size)
    clear hb hq hbelA
    go_wp2
    go_ret
    exact ⟨rfl, HF.out⟩
  · have hbig' : ¬ (2000 : Int) < (s.size : Int) := by omega
    have hS : s.size ≤ 1000000 := by omega
    go_wp2_with fail
    refine (roomy_any _ _ _ nx (by omega)).mono ?_
    rintro e w2 ⟨a, rfl, ra2, hB2⟩
    have nx2 := nx.below (Nat.le_refl _) hB2
    clear nx
    have na2 := ra2.own.num
    have hbel : Below w2.heap.size w2 w2 := Below.refl _ _
    have hsz : w2.heap.size ≤ w2.heap.size := Nat.le_refl _
    have hbag : Bag w2.heap.size w2 [] := Bag.nil _ _
    obtain ⟨cc, hcc⟩ : ∃ cc : Int, cc = if DigOk s ∧ 0 < s.size then 0 else 10 := ⟨_, rfl⟩
    obtain ⟨V, hV⟩ : ∃ V : List Nat, V = if DigOk s ∧ 0 < s.size then lim (bval (dgs s)) else [] := ⟨_, rfl⟩
    have hVl : V.length ≤ 1099511627776 := by
      rw [hV]
      split
      · rename_i hd
        have h2 : (lim (bval (dgs s))).length ≤ s.size := by
          apply lim_len_le
          have h1 := dval_lt (decs_rev hd.1.decs)
          rw [List.length_reverse, dgs_len] at h1
          exact Nat.lt_of_lt_of_le h1 (Nat.pow_le_pow_left (by decide : 10 ≤ 4294967296) _)
        omega
      · simp
    have hne : (cc != cc) = false := by simp
    have HCV : Hid (cc = (if DigOk s ∧ 0 < s.size then 0 else 10) ∧ V = if DigOk s ∧ 0 < s.size then lim (bval (dgs s)) else []) := ⟨hcc, hV⟩
    clear hcc hV
    go_wp2_with fail
    refine (parse_any _ _ hS).mono ?_
    rintro e w3 ⟨v1, rfl, ho, hb⟩
    rw [← HCV.out.2] at ho
    rw [← HCV.out.1]
    obtain ⟨p1, k1, c1, rfl⟩ := ho.sl
    replace hbag := hbag.push ho hb hsz
    obtain ⟨hbel, hsz⟩ := nextB hbel hsz hb
    clear ho hb
    go_wp2_with fail
    refine (parse_any _ _ hS).mono ?_
    rintro e w4 ⟨v2, rfl, ho, hb⟩
    rw [← HCV.out.2] at ho
    rw [← HCV.out.1]
    obtain ⟨p2, k2, c2, rfl⟩ := ho.sl
    replace hbag := hbag.push ho hb hsz
    obtain ⟨hbel, hsz⟩ := nextB hbel hsz hb
    clear ho hb
    go_wp2_with fail
    refine (parse_ref _ _ hS).mono ?_
    rintro e w5 ⟨v3, rfl, ho, hb⟩
    rw [← HCV.out.2] at ho
    rw [← HCV.out.1]
    obtain ⟨p3, k3, c3, rfl⟩ := ho.sl
    have nr := ho.num
    replace hbag := hbag.step hb
    obtain ⟨hbel, hsz⟩ := nextB hbel hsz hb
    clear ho hb HCV hS
    go_wp2_with fail
    refine (text_any _ _ _ (na2.below (Nat.le_refl _) hbel) (by omega)).mono ?_
    rintro e w6 ⟨rfl, hb⟩
    replace hbag := hbag.step hb
    replace nr := nr.below (Nat.le_refl _) hb
    obtain ⟨hbel, hsz⟩ := nextB hbel hsz hb
    clear hb
    go_wp2_with fail
    refine (text_ref _ _ _ (nx2.below (Nat.le_refl _) hbel) (by omega)).mono ?_
    rintro e w7 ⟨rfl, hb⟩
    replace hbag := hbag.step hb
    replace nr := nr.below (Nat.le_refl _) hb
    obtain ⟨hbel, hsz⟩ := nextB hbel hsz hb
    have HBG : Hid (Bag w2.heap.size w7 [(.slice p1 k1 c1, V), (.slice p2 k2 c2, V)]) := hbag
    clear hb hbag
    generalize txt (val X) = T at *
    go_wp2_with fail
    refine (apart_bag w2.heap.size w7.heap.size (w7.heap.size + 1) 2 [(.slice p1 k1 c1, V), (.slice p2 k2 c2, V)] [.slice p1 k1 c1, .slice p2 k2 c2] [.slice p3 k3 c3, .slice p3 k3 c3] _ ?_ hsz rfl (by decide) rfl ?_ ?_ ?_ ?_ ?_).mono ?_
    · simp; omega
    · exact heap_alloc2_old w7 _ _
    · exact heap_alloc2_new w7 _ _
    · exact (HBG.out.step ((Below.refl _ _).alloc (Nat.le_refl _) _)).step ((Below.refl _ _).alloc (Nat.le_refl _) _)
    · exact Wants.cons ((nr.alloc _).alloc _) (Wants.cons ((nr.alloc _).alloc _) (Wants.nil _))
    · intro p hp
      simp only [List.mem_cons, List.not_mem_nil, or_false] at hp
      rcases hp with rfl | rfl
      · exact hVl
      · exact hVl
    rintro e wA ⟨rfl, _, hb⟩
    have hbelA : Below w2.heap.size w2 wA := ((hbel.alloc hsz _).alloc (by simp; omega) _).trans hb
    clear hb hbel HBG nr
    go_wp2_with fail
    refine (kept_yes _ _ _ _ _ (ra2.below hbelA) (nx2.below (Nat.le_refl _) hbelA) (by omega)).mono ?_
    rintro e wC ⟨rfl, q, hq⟩
    have hb : Below wA.heap.size wA wC := by rw [hq]; exact belowD _ _
    have HF : Hid (Below w1.heap.size w1 wC) := hB2.trans ((hbelA.trans (hb.mono hbelA.size)).mono hB2.size)
    clear hb hq hbelA
    go_wp2
    go_ret
    exact ⟨rfl, HF.out⟩
end Go.Proofs.YtboohobkjhianabDoor

/-
  Proved here: what the document's own number answers.
-/
import Derived.Test.YtlemnbegblpllaaDoorLexX
import Derived.Test.YtlemnbegblpllaaDoorLexIAll
import Derived.Test.YtlemnbegblpllaaDoorLexH
namespace Go.Proofs.YtlemnbegblpllaaDoor
open Go.RowKit
theorem far_none (u : ByteArray) (p : Nat) : isFarF (u.extract p p) = false := by
  have h : (u.extract p p).size = 0 := by rw [ByteArray.size_extract]; omega
  unfold isFarF
  rw [h]
  rfl
theorem xpo_no {u : ByteArray} {p : Nat} (h : ¬ ((atB u p = 101 ∨ atB u p = 69) ∧ xFirst u p < runEnd isD u (xFirst u p))) : xpo u p = (p, p) := if_neg h
theorem xpo_yes {u : ByteArray} {p f r : Nat} (h : atB u p = 101 ∨ atB u p = 69) (hf : xFirst u p = f) (hr : runEnd isD u f = r) (hl : f < r) : xpo u p = (f, r) := by
  subst hf; subst hr
  exact if_pos ⟨h, hl⟩
set_option maxRecDepth 100000 in
set_option maxHeartbeats 6400000 in
theorem numberR_any (u : ByteArray) (w : World) (hs : u.size < 2305843009213693952) :
    Calls Tryd.prog 46 #[.string u] w fun e w' => e = .returned (.tuple #[.int .i64 ((numEnd u 0).2 : Nat), .bool (isFarF (u.extract (numEnd u 0).1 (numEnd u 0).2))]) ∧ w' = w := by
  have HD : ∀ w, Calls Tryd.prog 65 #[.string u, .int .i64 0] w fun e w' => e = .returned (.int .i64 (runEnd isD u 0 - 0 : Nat)) ∧ w' = w := fun w => digitsR_any u 0 w (by omega) (Nat.zero_le _)
  have hne : numEnd u 0 = xpo u (ptEnd u (runEnd isD u 0)) := rfl
  have hle := runEnd_size isD u (Nat.zero_le u.size)
  rw [hne]
  rw [Nat.sub_zero] at HD
  clear hne
  generalize runEnd isD u 0 = e1 at *
  obtain ⟨N, hN⟩ : ∃ N, N = xpo u (ptEnd u e1) := ⟨_, rfl⟩
  rw [← hN]
  have ha := fun i w => atR_any u i w
  have hw1 : IntKind.i64.wrap ((e1 : Int) + 1) = ((e1 + 1 : Nat) : Int) := by rw [IntKind.wrap_i64]; omega
  go_enter Tryd.func46, Tryd.ntmps46
  go_wp2_with fail
  refine (HD _).mono ?_
  rintro e w2 ⟨rfl, rfl⟩
  clear HD
  by_cases hdot : atB u e1 = 46
  · have hin : e1 < u.size := atB_in (by rw [hdot]; decide)
    have hq := fun w => digitsR_any u (e1 + 1) w (by omega) (by omega)
    have hpt : ptEnd u e1 = if e1 + 1 < runEnd isD u (e1 + 1) then runEnd isD u (e1 + 1) else e1 := by
      unfold ptEnd
      by_cases h2 : e1 + 1 < runEnd isD u (e1 + 1)
      · rw [if_pos ⟨hdot, h2⟩, if_pos h2]
      · rw [if_neg (fun h3 => h2 h3.2), if_neg h2]
    have hr1 := le_runEnd isD u (e1 + 1)
    have hr2 := runEnd_size isD u (i := e1 + 1) (by omega)
    rw [hpt] at hN
    clear hpt
    generalize runEnd isD u (e1 + 1) = r at *
    have x46 : ((atB u e1 : Int) == 46) = true := by rw [hdot]; rfl
    clear hdot
    by_cases hk : e1 + 1 < r
    · rw [if_pos hk] at hN
      have HN : Hid (N = xpo u r) := hN
      clear hN
      obtain ⟨d, hd⟩ : ∃ d, d = r - (e1 + 1) := ⟨_, rfl⟩
      rw [← hd] at hq
      have hd0 : (0 : Int) < (d : Int) := by omega
      have hw2 : wrap64 ((e1 : Int) + 1 + (d : Int)) = (r : Int) := by unfold wrap64; omega
      have hle2 : r ≤ u.size := hr2
      clear hr1 hr2 hk hd hin
      go_wp2_with fail
      refine (ha e1 _).mono ?_
      rintro e w3 ⟨rfl, rfl⟩
      go_wp2_with fail
      refine (hq _).mono ?_
      rintro e w4 ⟨rfl, rfl⟩
      clear hq
      go_wp2_with fail
      simp only [hw2]
      clear hw2 hd0
      clear x46 hw1
      by_cases he : atB u r = 101 ∨ atB u r = 69
      · have hin : r < u.size := atB_in (by rcases he with h | h <;> rw [h] <;> decide)
        have hwp : IntKind.i64.wrap ((r : Int) + 1) = ((r + 1 : Nat) : Int) := by rw [IntKind.wrap_i64]; omega
        have hwq : IntKind.i64.wrap (((r + 1 : Nat) : Int) + 1) = ((r + 2 : Nat) : Int) := by rw [IntKind.wrap_i64]; omega
        have hor : (((atB u r : Int) == 101) = true) ∨ (((atB u r : Int) == 101) = false ∧ ((atB u r : Int) == 69) = true) := he.elim (fun h => .inl (by rw [h]; rfl)) (fun h => .inr ⟨by rw [h]; rfl, by rw [h]; rfl⟩)
        by_cases hsg : atB u (r + 1) = 43 ∨ atB u (r + 1) = 45
        · have hxf : xFirst u r = r + 2 := if_pos hsg
          have hin2 : r + 1 < u.size := atB_in (by rcases hsg with h | h <;> rw [h] <;> decide)
          have hos : (((atB u (r + 1) : Int) == 43) = true) ∨ (((atB u (r + 1) : Int) == 43) = false ∧ ((atB u (r + 1) : Int) == 45) = true) := hsg.elim (fun h => .inl (by rw [h]; rfl)) (fun h => .inr ⟨by rw [h]; rfl, by rw [h]; rfl⟩)
          have hq := fun w => digitsR_any u (r + 2) w (by omega) (by omega)
          have hr1 := le_runEnd isD u (r + 2)
          have hr2 := runEnd_size isD u (i := r + 2) (by omega)
          have hal := runEnd_all isD u _ (r + 2) rfl
          have hxy := fun h => xpo_yes (f := r + 2) he hxf (r := runEnd isD u (r + 2)) rfl h
          have hxn : ¬ r + 2 < runEnd isD u (r + 2) → xpo u r = (r, r) := fun h => xpo_no (fun h2 => h (by rw [hxf] at h2; exact h2.2))
          clear he hsg hxf
          generalize runEnd isD u (r + 2) = q at *
          obtain ⟨d, hd⟩ : ∃ d, d = q - (r + 2) := ⟨_, rfl⟩
          rw [← hd] at hq
          by_cases hm : r + 2 < q
          · have HE : Hid ((.tuple #[.int .i64 (q : Nat), .bool (isFarF (u.extract (r + 2) q))] : Value) = .tuple #[.int .i64 (N.2 : Nat), .bool (isFarF (u.extract N.1 N.2))]) := by show _ = _; rw [HN.out, hxy hm]
            have hd0 : (0 : Int) < (d : Int) := by omega
            have hw4 : wrap64 ((r : Int) + 1 + 1 + (d : Int)) = (q : Int) := by unfold wrap64; omega
            have hsl := slice_str u (r + 2) q ((r : Int) + 1 + 1) (q : Int) (by omega) rfl (by omega) hr2
            have hlg := fun w => largeR_any (u.extract (r + 2) q) w (by rw [ByteArray.size_extract]; omega) (by
              intro k hk
              rw [ByteArray.size_extract] at hk
              have hx := atB_extract (s := u) (i := r + 2) (c := q - (r + 2)) (k := k) (by omega) (by omega)
              rw [show r + 2 + (q - (r + 2)) = q by omega] at hx
              rw [hx]
              exact hal _ (by omega) (by omega))
            clear hxy hxn hal hm hd hr1 hr2 hin hin2
            generalize u.extract (r + 2) q = x at *
            generalize isFarF x = bb at *
            refine (ha (r) _).mono ?_
            rintro e w5 ⟨rfl, rfl⟩
            rcases hor with y1 | ⟨y1, y2⟩
            · go_wp2_with fail
              refine (ha (r + 1) _).mono ?_
              rintro e w5 ⟨rfl, rfl⟩
              rcases hos with y3 | ⟨y3, y4⟩
              · go_wp2_with fail
                refine (hq _).mono ?_
                rintro e w6 ⟨rfl, rfl⟩
                clear hq
                go_wp2_with fail
                refine (hlg _).mono ?_
                rintro e w7 ⟨rfl, rfl⟩
                clear hlg
                go_wp2
                go_ret2
                exact ⟨congrArg Ending.returned HE.out, by first | trivial | rfl⟩
              · go_wp2_with fail
                refine (ha (r + 1) _).mono ?_
                rintro e w5 ⟨rfl, rfl⟩
                go_wp2_with fail
                refine (hq _).mono ?_
                rintro e w6 ⟨rfl, rfl⟩
                clear hq
                go_wp2_with fail
                refine (hlg _).mono ?_
                rintro e w7 ⟨rfl, rfl⟩
                clear hlg
                go_wp2
                go_ret2
                exact ⟨congrArg Ending.returned HE.out, by first | trivial | rfl⟩
            · go_wp2_with fail
              refine (ha (r) _).mono ?_
              rintro e w5 ⟨rfl, rfl⟩
              go_wp2_with fail
              refine (ha (r + 1) _).mono ?_
              rintro e w5 ⟨rfl, rfl⟩
              rcases hos with y3 | ⟨y3, y4⟩
              · go_wp2_with fail
                refine (hq _).mono ?_
                rintro e w6 ⟨rfl, rfl⟩
                clear hq
                go_wp2_with fail
                refine (hlg _).mono ?_
                rintro e w7 ⟨rfl, rfl⟩
                clear hlg
                go_wp2
                go_ret2
                exact ⟨congrArg Ending.returned HE.out, by first | trivial | rfl⟩
              · go_wp2_with fail
                refine (ha (r + 1) _).mono ?_
                rintro e w5 ⟨rfl, rfl⟩
                go_wp2_with fail
                refine (hq _).mono ?_
                rintro e w6 ⟨rfl, rfl⟩
                clear hq
                go_wp2_with fail
                refine (hlg _).mono ?_
                rintro e w7 ⟨rfl, rfl⟩
                clear hlg
                go_wp2
                go_ret2
                exact ⟨congrArg Ending.returned HE.out, by first | trivial | rfl⟩
          · have HE : Hid ((.tuple #[.int .i64 (r : Nat), .bool false] : Value) = .tuple #[.int .i64 (N.2 : Nat), .bool (isFarF (u.extract N.1 N.2))]) := by show _ = _; rw [HN.out, hxn hm]; show _ = (.tuple #[.int .i64 (r : Nat), .bool (isFarF (u.extract r r))] : Value); rw [far_none]
            have hd0 : d = 0 := by omega
            subst hd0
            clear hxy hxn hal hm hd hr1 hr2 hin hin2
            refine (ha (r) _).mono ?_
            rintro e w5 ⟨rfl, rfl⟩
            rcases hor with y1 | ⟨y1, y2⟩
            · go_wp2_with fail
              refine (ha (r + 1) _).mono ?_
              rintro e w5 ⟨rfl, rfl⟩
              rcases hos with y3 | ⟨y3, y4⟩
              · go_wp2_with fail
                refine (hq _).mono ?_
                rintro e w6 ⟨rfl, rfl⟩
                clear hq
                go_wp2_with fail
                go_ret2
                exact ⟨congrArg Ending.returned HE.out, by first | trivial | rfl⟩
              · go_wp2_with fail
                refine (ha (r + 1) _).mono ?_
                rintro e w5 ⟨rfl, rfl⟩
                go_wp2_with fail
                refine (hq _).mono ?_
                rintro e w6 ⟨rfl, rfl⟩
                clear hq
                go_wp2_with fail
                go_ret2
                exact ⟨congrArg Ending.returned HE.out, by first | trivial | rfl⟩
            · go_wp2_with fail
              refine (ha (r) _).mono ?_
              rintro e w5 ⟨rfl, rfl⟩
              go_wp2_with fail
              refine (ha (r + 1) _).mono ?_
              rintro e w5 ⟨rfl, rfl⟩
              rcases hos with y3 | ⟨y3, y4⟩
              · go_wp2_with fail
                refine (hq _).mono ?_
                rintro e w6 ⟨rfl, rfl⟩
                clear hq
                go_wp2_with fail
                go_ret2
                exact ⟨congrArg Ending.returned HE.out, by first | trivial | rfl⟩
              · go_wp2_with fail
                refine (ha (r + 1) _).mono ?_
                rintro e w5 ⟨rfl, rfl⟩
                go_wp2_with fail
                refine (hq _).mono ?_
                rintro e w6 ⟨rfl, rfl⟩
                clear hq
                go_wp2_with fail
                go_ret2
                exact ⟨congrArg Ending.returned HE.out, by first | trivial | rfl⟩
        · have hxf : xFirst u r = r + 1 := if_neg hsg
          have hs1 : ((atB u (r + 1) : Int) == 43) = false := nat_beq (fun h => hsg (.inl h))
          have hs2 : ((atB u (r + 1) : Int) == 45) = false := nat_beq (fun h => hsg (.inr h))
          have hq := fun w => digitsR_any u (r + 1) w (by omega) (by omega)
          have hr1 := le_runEnd isD u (r + 1)
          have hr2 := runEnd_size isD u (i := r + 1) (by omega)
          have hal := runEnd_all isD u _ (r + 1) rfl
          have hxy := fun h => xpo_yes (f := r + 1) he hxf (r := runEnd isD u (r + 1)) rfl h
          have hxn : ¬ r + 1 < runEnd isD u (r + 1) → xpo u r = (r, r) := fun h => xpo_no (fun h2 => h (by rw [hxf] at h2; exact h2.2))
          clear he hsg hxf
          generalize runEnd isD u (r + 1) = q at *
          obtain ⟨d, hd⟩ : ∃ d, d = q - (r + 1) := ⟨_, rfl⟩
          rw [← hd] at hq
          by_cases hm : r + 1 < q
          · have HE : Hid ((.tuple #[.int .i64 (q : Nat), .bool (isFarF (u.extract (r + 1) q))] : Value) = .tuple #[.int .i64 (N.2 : Nat), .bool (isFarF (u.extract N.1 N.2))]) := by show _ = _; rw [HN.out, hxy hm]
            have hd0 : (0 : Int) < (d : Int) := by omega
            have hw4 : wrap64 ((r : Int) + 1 + (d : Int)) = (q : Int) := by unfold wrap64; omega
            have hsl := slice_str u (r + 1) q ((r : Int) + 1) (q : Int) (by omega) rfl (by omega) hr2
            have hlg := fun w => largeR_any (u.extract (r + 1) q) w (by rw [ByteArray.size_extract]; omega) (by
              intro k hk
              rw [ByteArray.size_extract] at hk
              have hx := atB_extract (s := u) (i := r + 1) (c := q - (r + 1)) (k := k) (by omega) (by omega)
              rw [show r + 1 + (q - (r + 1)) = q by omega] at hx
              rw [hx]
              exact hal _ (by omega) (by omega))
            clear hxy hxn hal hm hd hr1 hr2 hin
            generalize u.extract (r + 1) q = x at *
            generalize isFarF x = bb at *
            refine (ha (r) _).mono ?_
            rintro e w5 ⟨rfl, rfl⟩
            rcases hor with y1 | ⟨y1, y2⟩
            · go_wp2_with fail
              refine (ha (r + 1) _).mono ?_
              rintro e w5 ⟨rfl, rfl⟩
              go_wp2_with fail
              refine (ha (r + 1) _).mono ?_
              rintro e w5 ⟨rfl, rfl⟩
              go_wp2_with fail
              refine (hq _).mono ?_
              rintro e w6 ⟨rfl, rfl⟩
              clear hq
              go_wp2_with fail
              refine (hlg _).mono ?_
              rintro e w7 ⟨rfl, rfl⟩
              clear hlg
              go_wp2
              go_ret2
              exact ⟨congrArg Ending.returned HE.out, by first | trivial | rfl⟩
            · go_wp2_with fail
              refine (ha (r) _).mono ?_
              rintro e w5 ⟨rfl, rfl⟩
              go_wp2_with fail
              refine (ha (r + 1) _).mono ?_
              rintro e w5 ⟨rfl, rfl⟩
              go_wp2_with fail
              refine (ha (r + 1) _).mono ?_
              rintro e w5 ⟨rfl, rfl⟩
              go_wp2_with fail
              refine (hq _).mono ?_
              rintro e w6 ⟨rfl, rfl⟩
              clear hq
              go_wp2_with fail
              refine (hlg _).mono ?_
              rintro e w7 ⟨rfl, rfl⟩
              clear hlg
              go_wp2
              go_ret2
              exact ⟨congrArg Ending.returned HE.out, by first | trivial | rfl⟩
          · have HE : Hid ((.tuple #[.int .i64 (r : Nat), .bool false] : Value) = .tuple #[.int .i64 (N.2 : Nat), .bool (isFarF (u.extract N.1 N.2))]) := by show _ = _; rw [HN.out, hxn hm]; show _ = (.tuple #[.int .i64 (r : Nat), .bool (isFarF (u.extract r r))] : Value); rw [far_none]
            have hd0 : d = 0 := by omega
            subst hd0
            clear hxy hxn hal hm hd hr1 hr2 hin
            refine (ha (r) _).mono ?_
            rintro e w5 ⟨rfl, rfl⟩
            rcases hor with y1 | ⟨y1, y2⟩
            · go_wp2_with fail
              refine (ha (r + 1) _).mono ?_
              rintro e w5 ⟨rfl, rfl⟩
              go_wp2_with fail
              refine (ha (r + 1) _).mono ?_
              rintro e w5 ⟨rfl, rfl⟩
              go_wp2_with fail
              refine (hq _).mono ?_
              rintro e w6 ⟨rfl, rfl⟩
              clear hq
              go_wp2_with fail
              go_ret2
              exact ⟨congrArg Ending.returned HE.out, by first | trivial | rfl⟩
            · go_wp2_with fail
              refine (ha (r) _).mono ?_
              rintro e w5 ⟨rfl, rfl⟩
              go_wp2_with fail
              refine (ha (r + 1) _).mono ?_
              rintro e w5 ⟨rfl, rfl⟩
              go_wp2_with fail
              refine (ha (r + 1) _).mono ?_
              rintro e w5 ⟨rfl, rfl⟩
              go_wp2_with fail
              refine (hq _).mono ?_
              rintro e w6 ⟨rfl, rfl⟩
              clear hq
              go_wp2_with fail
              go_ret2
              exact ⟨congrArg Ending.returned HE.out, by first | trivial | rfl⟩
      · have y1 : ((atB u r : Int) == 101) = false := nat_beq (fun h => he (.inl h))
        have y2 : ((atB u r : Int) == 69) = false := nat_beq (fun h => he (.inr h))
        have HE : Hid ((.tuple #[.int .i64 (r : Nat), .bool false] : Value) = .tuple #[.int .i64 (N.2 : Nat), .bool (isFarF (u.extract N.1 N.2))]) := by show _ = _; rw [HN.out, xpo_no (fun h => he h.1)]; show _ = (.tuple #[.int .i64 (r : Nat), .bool (isFarF (u.extract r r))] : Value); rw [far_none]
        clear he
        refine (ha (r) _).mono ?_
        rintro e w5 ⟨rfl, rfl⟩
        go_wp2_with fail
        refine (ha (r) _).mono ?_
        rintro e w5 ⟨rfl, rfl⟩
        go_wp2_with fail
        go_ret2
        exact ⟨congrArg Ending.returned HE.out, by first | trivial | rfl⟩
    · rw [if_neg hk] at hN
      have HN : Hid (N = xpo u e1) := hN
      clear hN
      have hd0 : r - (e1 + 1) = 0 := by omega
      rw [hd0] at hq
      have hq2 : ∀ w, Calls Tryd.prog 65 #[.string u, .int .i64 ((e1 + 1 : Nat) : Int)] w fun e w' => e = .returned (.int .i64 0) ∧ w' = w := hq
      clear hq hr1 hr2 hk hin hd0
      go_wp2_with fail
      refine (ha e1 _).mono ?_
      rintro e w3 ⟨rfl, rfl⟩
      go_wp2_with fail
      refine (hq2 _).mono ?_
      rintro e w4 ⟨rfl, rfl⟩
      clear hq2
      go_wp2_with fail
      clear x46 hw1
      by_cases he : atB u e1 = 101 ∨ atB u e1 = 69
      · have hin : e1 < u.size := atB_in (by rcases he with h | h <;> rw [h] <;> decide)
        have hwp : IntKind.i64.wrap ((e1 : Int) + 1) = ((e1 + 1 : Nat) : Int) := by rw [IntKind.wrap_i64]; omega
        have hwq : IntKind.i64.wrap (((e1 + 1 : Nat) : Int) + 1) = ((e1 + 2 : Nat) : Int) := by rw [IntKind.wrap_i64]; omega
        have hor : (((atB u e1 : Int) == 101) = true) ∨ (((atB u e1 : Int) == 101) = false ∧ ((atB u e1 : Int) == 69) = true) := he.elim (fun h => .inl (by rw [h]; rfl)) (fun h => .inr ⟨by rw [h]; rfl, by rw [h]; rfl⟩)
        by_cases hsg : atB u (e1 + 1) = 43 ∨ atB u (e1 + 1) = 45
        · have hxf : xFirst u e1 = e1 + 2 := if_pos hsg
          have hin2 : e1 + 1 < u.size := atB_in (by rcases hsg with h | h <;> rw [h] <;> decide)
          have hos : (((atB u (e1 + 1) : Int) == 43) = true) ∨ (((atB u (e1 + 1) : Int) == 43) = false ∧ ((atB u (e1 + 1) : Int) == 45) = true) := hsg.elim (fun h => .inl (by rw [h]; rfl)) (fun h => .inr ⟨by rw [h]; rfl, by rw [h]; rfl⟩)
          have hq := fun w => digitsR_any u (e1 + 2) w (by omega) (by omega)
          have hr1 := le_runEnd isD u (e1 + 2)
          have hr2 := runEnd_size isD u (i := e1 + 2) (by omega)
          have hal := runEnd_all isD u _ (e1 + 2) rfl
          have hxy := fun h => xpo_yes (f := e1 + 2) he hxf (r := runEnd isD u (e1 + 2)) rfl h
          have hxn : ¬ e1 + 2 < runEnd isD u (e1 + 2) → xpo u e1 = (e1, e1) := fun h => xpo_no (fun h2 => h (by rw [hxf] at h2; exact h2.2))
          clear he hsg hxf
          generalize runEnd isD u (e1 + 2) = q at *
          obtain ⟨d, hd⟩ : ∃ d, d = q - (e1 + 2) := ⟨_, rfl⟩
          rw [← hd] at hq
          by_cases hm : e1 + 2 < q
          · have HE : Hid ((.tuple #[.int .i64 (q : Nat), .bool (isFarF (u.extract (e1 + 2) q))] : Value) = .tuple #[.int .i64 (N.2 : Nat), .bool (isFarF (u.extract N.1 N.2))]) := by show _ = _; rw [HN.out, hxy hm]
            have hd0 : (0 : Int) < (d : Int) := by omega
            have hw4 : wrap64 ((e1 : Int) + 1 + 1 + (d : Int)) = (q : Int) := by unfold wrap64; omega
            have hsl := slice_str u (e1 + 2) q ((e1 : Int) + 1 + 1) (q : Int) (by omega) rfl (by omega) hr2
            have hlg := fun w => largeR_any (u.extract (e1 + 2) q) w (by rw [ByteArray.size_extract]; omega) (by
              intro k hk
              rw [ByteArray.size_extract] at hk
              have hx := atB_extract (s := u) (i := e1 + 2) (c := q - (e1 + 2)) (k := k) (by omega) (by omega)
              rw [show e1 + 2 + (q - (e1 + 2)) = q by omega] at hx
              rw [hx]
              exact hal _ (by omega) (by omega))
            clear hxy hxn hal hm hd hr1 hr2 hin hin2
            generalize u.extract (e1 + 2) q = x at *
            generalize isFarF x = bb at *
            refine (ha (e1) _).mono ?_
            rintro e w5 ⟨rfl, rfl⟩
            rcases hor with y1 | ⟨y1, y2⟩
            · go_wp2_with fail
              refine (ha (e1 + 1) _).mono ?_
              rintro e w5 ⟨rfl, rfl⟩
              rcases hos with y3 | ⟨y3, y4⟩
              · go_wp2_with fail
                refine (hq _).mono ?_
                rintro e w6 ⟨rfl, rfl⟩
                clear hq
                go_wp2_with fail
                refine (hlg _).mono ?_
                rintro e w7 ⟨rfl, rfl⟩
                clear hlg
                go_wp2
                go_ret2
                exact ⟨congrArg Ending.returned HE.out, by first | trivial | rfl⟩
              · go_wp2_with fail
                refine (ha (e1 + 1) _).mono ?_
                rintro e w5 ⟨rfl, rfl⟩
                go_wp2_with fail
                refine (hq _).mono ?_
                rintro e w6 ⟨rfl, rfl⟩
                clear hq
                go_wp2_with fail
                refine (hlg _).mono ?_
                rintro e w7 ⟨rfl, rfl⟩
                clear hlg
                go_wp2
                go_ret2
                exact ⟨congrArg Ending.returned HE.out, by first | trivial | rfl⟩
            · go_wp2_with fail
              refine (ha (e1) _).mono ?_
              rintro e w5 ⟨rfl, rfl⟩
              go_wp2_with fail
              refine (ha (e1 + 1) _).mono ?_
              rintro e w5 ⟨rfl, rfl⟩
              rcases hos with y3 | ⟨y3, y4⟩
              · go_wp2_with fail
                refine (hq _).mono ?_
                rintro e w6 ⟨rfl, rfl⟩
                clear hq
                go_wp2_with fail
                refine (hlg _).mono ?_
                rintro e w7 ⟨rfl, rfl⟩
                clear hlg
                go_wp2
                go_ret2
                exact ⟨congrArg Ending.returned HE.out, by first | trivial | rfl⟩
              · go_wp2_with fail
                refine (ha (e1 + 1) _).mono ?_
                rintro e w5 ⟨rfl, rfl⟩
                go_wp2_with fail
                refine (hq _).mono ?_
                rintro e w6 ⟨rfl, rfl⟩
                clear hq
                go_wp2_with fail
                refine (hlg _).mono ?_
                rintro e w7 ⟨rfl, rfl⟩
                clear hlg
                go_wp2
                go_ret2
                exact ⟨congrArg Ending.returned HE.out, by first | trivial | rfl⟩
          · have HE : Hid ((.tuple #[.int .i64 (e1 : Nat), .bool false] : Value) = .tuple #[.int .i64 (N.2 : Nat), .bool (isFarF (u.extract N.1 N.2))]) := by show _ = _; rw [HN.out, hxn hm]; show _ = (.tuple #[.int .i64 (e1 : Nat), .bool (isFarF (u.extract e1 e1))] : Value); rw [far_none]
            have hd0 : d = 0 := by omega
            subst hd0
            clear hxy hxn hal hm hd hr1 hr2 hin hin2
            refine (ha (e1) _).mono ?_
            rintro e w5 ⟨rfl, rfl⟩
            rcases hor with y1 | ⟨y1, y2⟩
            · go_wp2_with fail
              refine (ha (e1 + 1) _).mono ?_
              rintro e w5 ⟨rfl, rfl⟩
              rcases hos with y3 | ⟨y3, y4⟩
              · go_wp2_with fail
                refine (hq _).mono ?_
                rintro e w6 ⟨rfl, rfl⟩
                clear hq
                go_wp2_with fail
                go_ret2
                exact ⟨congrArg Ending.returned HE.out, by first | trivial | rfl⟩
              · go_wp2_with fail
                refine (ha (e1 + 1) _).mono ?_
                rintro e w5 ⟨rfl, rfl⟩
                go_wp2_with fail
                refine (hq _).mono ?_
                rintro e w6 ⟨rfl, rfl⟩
                clear hq
                go_wp2_with fail
                go_ret2
                exact ⟨congrArg Ending.returned HE.out, by first | trivial | rfl⟩
            · go_wp2_with fail
              refine (ha (e1) _).mono ?_
              rintro e w5 ⟨rfl, rfl⟩
              go_wp2_with fail
              refine (ha (e1 + 1) _).mono ?_
              rintro e w5 ⟨rfl, rfl⟩
              rcases hos with y3 | ⟨y3, y4⟩
              · go_wp2_with fail
                refine (hq _).mono ?_
                rintro e w6 ⟨rfl, rfl⟩
                clear hq
                go_wp2_with fail
                go_ret2
                exact ⟨congrArg Ending.returned HE.out, by first | trivial | rfl⟩
              · go_wp2_with fail
                refine (ha (e1 + 1) _).mono ?_
                rintro e w5 ⟨rfl, rfl⟩
                go_wp2_with fail
                refine (hq _).mono ?_
                rintro e w6 ⟨rfl, rfl⟩
                clear hq
                go_wp2_with fail
                go_ret2
                exact ⟨congrArg Ending.returned HE.out, by first | trivial | rfl⟩
        · have hxf : xFirst u e1 = e1 + 1 := if_neg hsg
          have hs1 : ((atB u (e1 + 1) : Int) == 43) = false := nat_beq (fun h => hsg (.inl h))
          have hs2 : ((atB u (e1 + 1) : Int) == 45) = false := nat_beq (fun h => hsg (.inr h))
          have hq := fun w => digitsR_any u (e1 + 1) w (by omega) (by omega)
          have hr1 := le_runEnd isD u (e1 + 1)
          have hr2 := runEnd_size isD u (i := e1 + 1) (by omega)
          have hal := runEnd_all isD u _ (e1 + 1) rfl
          have hxy := fun h => xpo_yes (f := e1 + 1) he hxf (r := runEnd isD u (e1 + 1)) rfl h
          have hxn : ¬ e1 + 1 < runEnd isD u (e1 + 1) → xpo u e1 = (e1, e1) := fun h => xpo_no (fun h2 => h (by rw [hxf] at h2; exact h2.2))
          clear he hsg hxf
          generalize runEnd isD u (e1 + 1) = q at *
          obtain ⟨d, hd⟩ : ∃ d, d = q - (e1 + 1) := ⟨_, rfl⟩
          rw [← hd] at hq
          by_cases hm : e1 + 1 < q
          · have HE : Hid ((.tuple #[.int .i64 (q : Nat), .bool (isFarF (u.extract (e1 + 1) q))] : Value) = .tuple #[.int .i64 (N.2 : Nat), .bool (isFarF (u.extract N.1 N.2))]) := by show _ = _; rw [HN.out, hxy hm]
            have hd0 : (0 : Int) < (d : Int) := by omega
            have hw4 : wrap64 ((e1 : Int) + 1 + (d : Int)) = (q : Int) := by unfold wrap64; omega
            have hsl := slice_str u (e1 + 1) q ((e1 : Int) + 1) (q : Int) (by omega) rfl (by omega) hr2
            have hlg := fun w => largeR_any (u.extract (e1 + 1) q) w (by rw [ByteArray.size_extract]; omega) (by
              intro k hk
              rw [ByteArray.size_extract] at hk
              have hx := atB_extract (s := u) (i := e1 + 1) (c := q - (e1 + 1)) (k := k) (by omega) (by omega)
              rw [show e1 + 1 + (q - (e1 + 1)) = q by omega] at hx
              rw [hx]
              exact hal _ (by omega) (by omega))
            clear hxy hxn hal hm hd hr1 hr2 hin
            generalize u.extract (e1 + 1) q = x at *
            generalize isFarF x = bb at *
            refine (ha (e1) _).mono ?_
            rintro e w5 ⟨rfl, rfl⟩
            rcases hor with y1 | ⟨y1, y2⟩
            · go_wp2_with fail
              refine (ha (e1 + 1) _).mono ?_
              rintro e w5 ⟨rfl, rfl⟩
              go_wp2_with fail
              refine (ha (e1 + 1) _).mono ?_
              rintro e w5 ⟨rfl, rfl⟩
              go_wp2_with fail
              refine (hq _).mono ?_
              rintro e w6 ⟨rfl, rfl⟩
              clear hq
              go_wp2_with fail
              refine (hlg _).mono ?_
              rintro e w7 ⟨rfl, rfl⟩
              clear hlg
              go_wp2
              go_ret2
              exact ⟨congrArg Ending.returned HE.out, by first | trivial | rfl⟩
            · go_wp2_with fail
              refine (ha (e1) _).mono ?_
              rintro e w5 ⟨rfl, rfl⟩
              go_wp2_with fail
              refine (ha (e1 + 1) _).mono ?_
              rintro e w5 ⟨rfl, rfl⟩
              go_wp2_with fail
              refine (ha (e1 + 1) _).mono ?_
              rintro e w5 ⟨rfl, rfl⟩
              go_wp2_with fail
              refine (hq _).mono ?_
              rintro e w6 ⟨rfl, rfl⟩
              clear hq
              go_wp2_with fail
              refine (hlg _).mono ?_
              rintro e w7 ⟨rfl, rfl⟩
              clear hlg
              go_wp2
              go_ret2
              exact ⟨congrArg Ending.returned HE.out, by first | trivial | rfl⟩
          · have HE : Hid ((.tuple #[.int .i64 (e1 : Nat), .bool false] : Value) = .tuple #[.int .i64 (N.2 : Nat), .bool (isFarF (u.extract N.1 N.2))]) := by show _ = _; rw [HN.out, hxn hm]; show _ = (.tuple #[.int .i64 (e1 : Nat), .bool (isFarF (u.extract e1 e1))] : Value); rw [far_none]
            have hd0 : d = 0 := by omega
            subst hd0
            clear hxy hxn hal hm hd hr1 hr2 hin
            refine (ha (e1) _).mono ?_
            rintro e w5 ⟨rfl, rfl⟩
            rcases hor with y1 | ⟨y1, y2⟩
            · go_wp2_with fail
              refine (ha (e1 + 1) _).mono ?_
              rintro e w5 ⟨rfl, rfl⟩
              go_wp2_with fail
              refine (ha (e1 + 1) _).mono ?_
              rintro e w5 ⟨rfl, rfl⟩
              go_wp2_with fail
              refine (hq _).mono ?_
              rintro e w6 ⟨rfl, rfl⟩
              clear hq
              go_wp2_with fail
              go_ret2
              exact ⟨congrArg Ending.returned HE.out, by first | trivial | rfl⟩
            · go_wp2_with fail
              refine (ha (e1) _).mono ?_
              rintro e w5 ⟨rfl, rfl⟩
              go_wp2_with fail
              refine (ha (e1 + 1) _).mono ?_
              rintro e w5 ⟨rfl, rfl⟩
              go_wp2_with fail
              refine (ha (e1 + 1) _).mono ?_
              rintro e w5 ⟨rfl, rfl⟩
              go_wp2_with fail
              refine (hq _).mono ?_
              rintro e w6 ⟨rfl, rfl⟩
              clear hq
              go_wp2_with fail
              go_ret2
              exact ⟨congrArg Ending.returned HE.out, by first | trivial | rfl⟩
      · have y1 : ((atB u e1 : Int) == 101) = false := nat_beq (fun h => he (.inl h))
        have y2 : ((atB u e1 : Int) == 69) = false := nat_beq (fun h => he (.inr h))
        have HE : Hid ((.tuple #[.int .i64 (e1 : Nat), .bool false] : Value) = .tuple #[.int .i64 (N.2 : Nat), .bool (isFarF (u.extract N.1 N.2))]) := by show _ = _; rw [HN.out, xpo_no (fun h => he h.1)]; show _ = (.tuple #[.int .i64 (e1 : Nat), .bool (isFarF (u.extract e1 e1))] : Value); rw [far_none]
        clear he
        refine (ha (e1) _).mono ?_
        rintro e w5 ⟨rfl, rfl⟩
        go_wp2_with fail
        refine (ha (e1) _).mono ?_
        rintro e w5 ⟨rfl, rfl⟩
        go_wp2_with fail
        go_ret2
        exact ⟨congrArg Ending.returned HE.out, by first | trivial | rfl⟩
  · have hpt : ptEnd u e1 = e1 := if_neg (fun h => hdot h.1)
    rw [hpt] at hN
    have HN : Hid (N = xpo u e1) := hN
    have x46 : ((atB u e1 : Int) == 46) = false := nat_beq hdot
    clear hpt hN hdot
    go_wp2_with fail
    refine (ha e1 _).mono ?_
    rintro e w3 ⟨rfl, rfl⟩
    go_wp2_with fail
    clear x46 hw1
    by_cases he : atB u e1 = 101 ∨ atB u e1 = 69
    · have hin : e1 < u.size := atB_in (by rcases he with h | h <;> rw [h] <;> decide)
      have hwp : IntKind.i64.wrap ((e1 : Int) + 1) = ((e1 + 1 : Nat) : Int) := by rw [IntKind.wrap_i64]; omega
      have hwq : IntKind.i64.wrap (((e1 + 1 : Nat) : Int) + 1) = ((e1 + 2 : Nat) : Int) := by rw [IntKind.wrap_i64]; omega
      have hor : (((atB u e1 : Int) == 101) = true) ∨ (((atB u e1 : Int) == 101) = false ∧ ((atB u e1 : Int) == 69) = true) := he.elim (fun h => .inl (by rw [h]; rfl)) (fun h => .inr ⟨by rw [h]; rfl, by rw [h]; rfl⟩)
      by_cases hsg : atB u (e1 + 1) = 43 ∨ atB u (e1 + 1) = 45
      · have hxf : xFirst u e1 = e1 + 2 := if_pos hsg
        have hin2 : e1 + 1 < u.size := atB_in (by rcases hsg with h | h <;> rw [h] <;> decide)
        have hos : (((atB u (e1 + 1) : Int) == 43) = true) ∨ (((atB u (e1 + 1) : Int) == 43) = false ∧ ((atB u (e1 + 1) : Int) == 45) = true) := hsg.elim (fun h => .inl (by rw [h]; rfl)) (fun h => .inr ⟨by rw [h]; rfl, by rw [h]; rfl⟩)
        have hq := fun w => digitsR_any u (e1 + 2) w (by omega) (by omega)
        have hr1 := le_runEnd isD u (e1 + 2)
        have hr2 := runEnd_size isD u (i := e1 + 2) (by omega)
        have hal := runEnd_all isD u _ (e1 + 2) rfl
        have hxy := fun h => xpo_yes (f := e1 + 2) he hxf (r := runEnd isD u (e1 + 2)) rfl h
        have hxn : ¬ e1 + 2 < runEnd isD u (e1 + 2) → xpo u e1 = (e1, e1) := fun h => xpo_no (fun h2 => h (by rw [hxf] at h2; exact h2.2))
        clear he hsg hxf
        generalize runEnd isD u (e1 + 2) = q at *
        obtain ⟨d, hd⟩ : ∃ d, d = q - (e1 + 2) := ⟨_, rfl⟩
        rw [← hd] at hq
        by_cases hm : e1 + 2 < q
        · have HE : Hid ((.tuple #[.int .i64 (q : Nat), .bool (isFarF (u.extract (e1 + 2) q))] : Value) = .tuple #[.int .i64 (N.2 : Nat), .bool (isFarF (u.extract N.1 N.2))]) := by show _ = _; rw [HN.out, hxy hm]
          have hd0 : (0 : Int) < (d : Int) := by omega
          have hw4 : wrap64 ((e1 : Int) + 1 + 1 + (d : Int)) = (q : Int) := by unfold wrap64; omega
          have hsl := slice_str u (e1 + 2) q ((e1 : Int) + 1 + 1) (q : Int) (by omega) rfl (by omega) hr2
          have hlg := fun w => largeR_any (u.extract (e1 + 2) q) w (by rw [ByteArray.size_extract]; omega) (by
            intro k hk
            rw [ByteArray.size_extract] at hk
            have hx := atB_extract (s := u) (i := e1 + 2) (c := q - (e1 + 2)) (k := k) (by omega) (by omega)
            rw [show e1 + 2 + (q - (e1 + 2)) = q by omega] at hx
            rw [hx]
            exact hal _ (by omega) (by omega))
          clear hxy hxn hal hm hd hr1 hr2 hin hin2
          generalize u.extract (e1 + 2) q = x at *
          generalize isFarF x = bb at *
          refine (ha (e1) _).mono ?_
          rintro e w5 ⟨rfl, rfl⟩
          rcases hor with y1 | ⟨y1, y2⟩
          · go_wp2_with fail
            refine (ha (e1 + 1) _).mono ?_
            rintro e w5 ⟨rfl, rfl⟩
            rcases hos with y3 | ⟨y3, y4⟩
            · go_wp2_with fail
              refine (hq _).mono ?_
              rintro e w6 ⟨rfl, rfl⟩
              clear hq
              go_wp2_with fail
              refine (hlg _).mono ?_
              rintro e w7 ⟨rfl, rfl⟩
              clear hlg
              go_wp2
              go_ret2
              exact ⟨congrArg Ending.returned HE.out, by first | trivial | rfl⟩
            · go_wp2_with fail
              refine (ha (e1 + 1) _).mono ?_
              rintro e w5 ⟨rfl, rfl⟩
              go_wp2_with fail
              refine (hq _).mono ?_
              rintro e w6 ⟨rfl, rfl⟩
              clear hq
              go_wp2_with fail
              refine (hlg _).mono ?_
              rintro e w7 ⟨rfl, rfl⟩
              clear hlg
              go_wp2
              go_ret2
              exact ⟨congrArg Ending.returned HE.out, by first | trivial | rfl⟩
          · go_wp2_with fail
            refine (ha (e1) _).mono ?_
            rintro e w5 ⟨rfl, rfl⟩
            go_wp2_with fail
            refine (ha (e1 + 1) _).mono ?_
            rintro e w5 ⟨rfl, rfl⟩
            rcases hos with y3 | ⟨y3, y4⟩
            · go_wp2_with fail
              refine (hq _).mono ?_
              rintro e w6 ⟨rfl, rfl⟩
              clear hq
              go_wp2_with fail
              refine (hlg _).mono ?_
              rintro e w7 ⟨rfl, rfl⟩
              clear hlg
              go_wp2
              go_ret2
              exact ⟨congrArg Ending.returned HE.out, by first | trivial | rfl⟩
            · go_wp2_with fail
              refine (ha (e1 + 1) _).mono ?_
              rintro e w5 ⟨rfl, rfl⟩
              go_wp2_with fail
              refine (hq _).mono ?_
              rintro e w6 ⟨rfl, rfl⟩
              clear hq
              go_wp2_with fail
              refine (hlg _).mono ?_
              rintro e w7 ⟨rfl, rfl⟩
              clear hlg
              go_wp2
              go_ret2
              exact ⟨congrArg Ending.returned HE.out, by first | trivial | rfl⟩
        · have HE : Hid ((.tuple #[.int .i64 (e1 : Nat), .bool false] : Value) = .tuple #[.int .i64 (N.2 : Nat), .bool (isFarF (u.extract N.1 N.2))]) := by show _ = _; rw [HN.out, hxn hm]; show _ = (.tuple #[.int .i64 (e1 : Nat), .bool (isFarF (u.extract e1 e1))] : Value); rw [far_none]
          have hd0 : d = 0 := by omega
          subst hd0
          clear hxy hxn hal hm hd hr1 hr2 hin hin2
          refine (ha (e1) _).mono ?_
          rintro e w5 ⟨rfl, rfl⟩
          rcases hor with y1 | ⟨y1, y2⟩
          · go_wp2_with fail
            refine (ha (e1 + 1) _).mono ?_
            rintro e w5 ⟨rfl, rfl⟩
            rcases hos with y3 | ⟨y3, y4⟩
            · go_wp2_with fail
              refine (hq _).mono ?_
              rintro e w6 ⟨rfl, rfl⟩
              clear hq
              go_wp2_with fail
              go_ret2
              exact ⟨congrArg Ending.returned HE.out, by first | trivial | rfl⟩
            · go_wp2_with fail
              refine (ha (e1 + 1) _).mono ?_
              rintro e w5 ⟨rfl, rfl⟩
              go_wp2_with fail
              refine (hq _).mono ?_
              rintro e w6 ⟨rfl, rfl⟩
              clear hq
              go_wp2_with fail
              go_ret2
              exact ⟨congrArg Ending.returned HE.out, by first | trivial | rfl⟩
          · go_wp2_with fail
            refine (ha (e1) _).mono ?_
            rintro e w5 ⟨rfl, rfl⟩
            go_wp2_with fail
            refine (ha (e1 + 1) _).mono ?_
            rintro e w5 ⟨rfl, rfl⟩
            rcases hos with y3 | ⟨y3, y4⟩
            · go_wp2_with fail
              refine (hq _).mono ?_
              rintro e w6 ⟨rfl, rfl⟩
              clear hq
              go_wp2_with fail
              go_ret2
              exact ⟨congrArg Ending.returned HE.out, by first | trivial | rfl⟩
            · go_wp2_with fail
              refine (ha (e1 + 1) _).mono ?_
              rintro e w5 ⟨rfl, rfl⟩
              go_wp2_with fail
              refine (hq _).mono ?_
              rintro e w6 ⟨rfl, rfl⟩
              clear hq
              go_wp2_with fail
              go_ret2
              exact ⟨congrArg Ending.returned HE.out, by first | trivial | rfl⟩
      · have hxf : xFirst u e1 = e1 + 1 := if_neg hsg
        have hs1 : ((atB u (e1 + 1) : Int) == 43) = false := nat_beq (fun h => hsg (.inl h))
        have hs2 : ((atB u (e1 + 1) : Int) == 45) = false := nat_beq (fun h => hsg (.inr h))
        have hq := fun w => digitsR_any u (e1 + 1) w (by omega) (by omega)
        have hr1 := le_runEnd isD u (e1 + 1)
        have hr2 := runEnd_size isD u (i := e1 + 1) (by omega)
        have hal := runEnd_all isD u _ (e1 + 1) rfl
        have hxy := fun h => xpo_yes (f := e1 + 1) he hxf (r := runEnd isD u (e1 + 1)) rfl h
        have hxn : ¬ e1 + 1 < runEnd isD u (e1 + 1) → xpo u e1 = (e1, e1) := fun h => xpo_no (fun h2 => h (by rw [hxf] at h2; exact h2.2))
        clear he hsg hxf
        generalize runEnd isD u (e1 + 1) = q at *
        obtain ⟨d, hd⟩ : ∃ d, d = q - (e1 + 1) := ⟨_, rfl⟩
        rw [← hd] at hq
        by_cases hm : e1 + 1 < q
        · have HE : Hid ((.tuple #[.int .i64 (q : Nat), .bool (isFarF (u.extract (e1 + 1) q))] : Value) = .tuple #[.int .i64 (N.2 : Nat), .bool (isFarF (u.extract N.1 N.2))]) := by show _ = _; rw [HN.out, hxy hm]
          have hd0 : (0 : Int) < (d : Int) := by omega
          have hw4 : wrap64 ((e1 : Int) + 1 + (d : Int)) = (q : Int) := by unfold wrap64; omega
          have hsl := slice_str u (e1 + 1) q ((e1 : Int) + 1) (q : Int) (by omega) rfl (by omega) hr2
          have hlg := fun w => largeR_any (u.extract (e1 + 1) q) w (by rw [ByteArray.size_extract]; omega) (by
            intro k hk
            rw [ByteArray.size_extract] at hk
            have hx := atB_extract (s := u) (i := e1 + 1) (c := q - (e1 + 1)) (k := k) (by omega) (by omega)
            rw [show e1 + 1 + (q - (e1 + 1)) = q by omega] at hx
            rw [hx]
            exact hal _ (by omega) (by omega))
          clear hxy hxn hal hm hd hr1 hr2 hin
          generalize u.extract (e1 + 1) q = x at *
          generalize isFarF x = bb at *
          refine (ha (e1) _).mono ?_
          rintro e w5 ⟨rfl, rfl⟩
          rcases hor with y1 | ⟨y1, y2⟩
          · go_wp2_with fail
            refine (ha (e1 + 1) _).mono ?_
            rintro e w5 ⟨rfl, rfl⟩
            go_wp2_with fail
            refine (ha (e1 + 1) _).mono ?_
            rintro e w5 ⟨rfl, rfl⟩
            go_wp2_with fail
            refine (hq _).mono ?_
            rintro e w6 ⟨rfl, rfl⟩
            clear hq
            go_wp2_with fail
            refine (hlg _).mono ?_
            rintro e w7 ⟨rfl, rfl⟩
            clear hlg
            go_wp2
            go_ret2
            exact ⟨congrArg Ending.returned HE.out, by first | trivial | rfl⟩
          · go_wp2_with fail
            refine (ha (e1) _).mono ?_
            rintro e w5 ⟨rfl, rfl⟩
            go_wp2_with fail
            refine (ha (e1 + 1) _).mono ?_
            rintro e w5 ⟨rfl, rfl⟩
            go_wp2_with fail
            refine (ha (e1 + 1) _).mono ?_
            rintro e w5 ⟨rfl, rfl⟩
            go_wp2_with fail
            refine (hq _).mono ?_
            rintro e w6 ⟨rfl, rfl⟩
            clear hq
            go_wp2_with fail
            refine (hlg _).mono ?_
            rintro e w7 ⟨rfl, rfl⟩
            clear hlg
            go_wp2
            go_ret2
            exact ⟨congrArg Ending.returned HE.out, by first | trivial | rfl⟩
        · have HE : Hid ((.tuple #[.int .i64 (e1 : Nat), .bool false] : Value) = .tuple #[.int .i64 (N.2 : Nat), .bool (isFarF (u.extract N.1 N.2))]) := by show _ = _; rw [HN.out, hxn hm]; show _ = (.tuple #[.int .i64 (e1 : Nat), .bool (isFarF (u.extract e1 e1))] : Value); rw [far_none]
          have hd0 : d = 0 := by omega
          subst hd0
          clear hxy hxn hal hm hd hr1 hr2 hin
          refine (ha (e1) _).mono ?_
          rintro e w5 ⟨rfl, rfl⟩
          rcases hor with y1 | ⟨y1, y2⟩
          · go_wp2_with fail
            refine (ha (e1 + 1) _).mono ?_
            rintro e w5 ⟨rfl, rfl⟩
            go_wp2_with fail
            refine (ha (e1 + 1) _).mono ?_
            rintro e w5 ⟨rfl, rfl⟩
            go_wp2_with fail
            refine (hq _).mono ?_
            rintro e w6 ⟨rfl, rfl⟩
            clear hq
            go_wp2_with fail
            go_ret2
            exact ⟨congrArg Ending.returned HE.out, by first | trivial | rfl⟩
          · go_wp2_with fail
            refine (ha (e1) _).mono ?_
            rintro e w5 ⟨rfl, rfl⟩
            go_wp2_with fail
            refine (ha (e1 + 1) _).mono ?_
            rintro e w5 ⟨rfl, rfl⟩
            go_wp2_with fail
            refine (ha (e1 + 1) _).mono ?_
            rintro e w5 ⟨rfl, rfl⟩
            go_wp2_with fail
            refine (hq _).mono ?_
            rintro e w6 ⟨rfl, rfl⟩
            clear hq
            go_wp2_with fail
            go_ret2
            exact ⟨congrArg Ending.returned HE.out, by first | trivial | rfl⟩
    · have y1 : ((atB u e1 : Int) == 101) = false := nat_beq (fun h => he (.inl h))
      have y2 : ((atB u e1 : Int) == 69) = false := nat_beq (fun h => he (.inr h))
      have HE : Hid ((.tuple #[.int .i64 (e1 : Nat), .bool false] : Value) = .tuple #[.int .i64 (N.2 : Nat), .bool (isFarF (u.extract N.1 N.2))]) := by show _ = _; rw [HN.out, xpo_no (fun h => he h.1)]; show _ = (.tuple #[.int .i64 (e1 : Nat), .bool (isFarF (u.extract e1 e1))] : Value); rw [far_none]
      clear he
      refine (ha (e1) _).mono ?_
      rintro e w5 ⟨rfl, rfl⟩
      go_wp2_with fail
      refine (ha (e1) _).mono ?_
      rintro e w5 ⟨rfl, rfl⟩
      go_wp2_with fail
      go_ret2
      exact ⟨congrArg Ending.returned HE.out, by first | trivial | rfl⟩
end Go.Proofs.YtlemnbegblpllaaDoor

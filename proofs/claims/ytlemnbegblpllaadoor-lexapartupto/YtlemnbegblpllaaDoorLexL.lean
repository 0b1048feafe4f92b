/-
  Proved here: what skip of package lex answers.
-/
import Derived.Test.YtlemnbegblpllaaDoorLexJ
namespace Go.Proofs.YtlemnbegblpllaaDoor
open Go.RowKit

/-- A reader's place, as it lies in memory. -/
def atOf (w : World) (g : Nat) : Nat := (intOf ((w.cell? ⟨g, 1, none⟩).getD undef)).toNat
theorem RdC.atOf {w : World} {g : Nat} {s : ByteArray} {i : Nat} (h : RdC w g s i) : atOf w g = i := by
  unfold Go.Proofs.YtlemnbegblpllaaDoor.atOf
  rw [h.cells.2.1]
  rfl
/-- What skip leaves. -/
def SkEnd (w : World) (g : Nat) (s : ByteArray) (r : Bool × Nat) (e : Ending) (w' : World) : Prop := e = .returned (.bool r.1) ∧ RdC w' g s r.2 ∧ Off g w w'
theorem Off.cell1 {g : Nat} {w w' : World} {v : Value} (h : Off g w w') (hg : g ≠ 1) (hm : w.cell? ⟨1, 0, none⟩ = some v) : w'.cell? ⟨1, 0, none⟩ = some v :=
  World.grownBy.cell h hm (fun e => hg (Option.some.inj e).symm)

theorem slice_from (s : ByteArray) (i : Nat) (hi : i ≤ s.size) (w : World) : (Instr.slice 9 (.string s) (some (.int .i64 (i : Int))) none none).run Tryd.prog w = .ok (.string (s.extract i s.size)) w := by go_simp
theorem cut_any (s sep : ByteArray) (m : Int) (w : World) (hs : s.size < 4294967281) (hm : w.cell? ⟨1, 0, none⟩ = some (.int .i64 m)) :
    Calls Tryd.prog 57 #[.string s, .string sep] w fun e w' => (∃ x y : ByteArray, e = .returned (.tuple #[.string x, .string y, .bool (decide (0 ≤ Lib.indexB s sep))]) ∧ x.size = (if Lib.indexB s sep < 0 then s.size else (Lib.indexB s sep).toNat)) ∧ Below w.heap.size w w' := by
  refine (Tryd.strings_Cut s sep m w hs hm).mono ?_
  rintro e w' ⟨rfl, n, rfl⟩
  refine ⟨?_, below_drewN (Below.refl _ _) n⟩
  rcases Lib.indexB_cases s sep with h | ⟨i, h, h2⟩
  · obtain ⟨h3, h4, h5⟩ := Lib.cutB_miss s sep h
    exact ⟨_, _, by rw [h5, h]; rfl, by rw [h3, h]; rfl⟩
  · obtain ⟨h3, h4, h5⟩ := Lib.cutB_hit s sep i h
    refine ⟨_, _, by rw [h5, h, decide_eq_true (by omega)], ?_⟩
    rw [h3, h, if_neg (by omega), ByteArray.size_extract]
    omega

set_option maxRecDepth 100000 in
set_option maxHeartbeats 6400000 in
theorem skip_any (g : Nat) (s : ByteArray) (i : Nat) (m : Int) (w : World) (h : RdC w g s i) (hi : i ≤ s.size) (hz : s.size < 4294967281) (hm : w.cell? ⟨1, 0, none⟩ = some (.int .i64 m)) (hg : g ≠ 1) :
    Calls Tryd.prog 37 #[.pointer (some ⟨g, 0, none⟩)] w (SkEnd w g s (skF s (s.size + 1) i)) := by
  obtain ⟨r, hr⟩ : ∃ r, r = skF s (s.size + 1) i := ⟨_, rfl⟩
  rw [← hr]
  go_enter Tryd.func37, Tryd.ntmps37
  go_wp2_with fail
  go_loopw [] (fun wr => ∃ n k : Nat, k ≤ s.size ∧ s.size < n + k ∧ skF s n k = r ∧ RdC wr g s k ∧ Off g w wr) (fun wr => s.size - atOf wr g)
  case atStart => exact ⟨s.size + 1, i, hi, by omega, hr.symm, h, Off.refl _ _⟩
  case round =>
    clear hr hi h
    obtain ⟨n, k, hk, hn, hkr, hR, hO⟩ := hrel
    obtain ⟨n, rfl⟩ : ∃ q, n = q + 1 := ⟨n - 1, by omega⟩
    have hsl : ∀ w, (Instr.slice 9 (.string s) (some (.int .i64 (k : Int))) none none).run Tryd.prog w = .ok (.string (s.extract k s.size)) w := fun w => by go_simp
    have hrz : (s.extract k s.size).size = s.size - k := by rw [ByteArray.size_extract]; omega
    have hb0 := fun w => byteAt_any (s.extract k s.size) 0 w
    rw [atB_rest hk 0, Nat.add_zero] at hb0
    have hkd := fun w => kindOf_any (atB s k) w
    have hp1 := fun w => Tryd.strings_HasPrefix (s.extract k s.size) ⟨#[47, 47]⟩ w
    have hp3 := fun w => Tryd.strings_HasPrefix (s.extract k s.size) ⟨#[47, 42]⟩ w
    have e1 : Lib.hasPrefix (s.extract k s.size).data.toList (⟨#[47, 47]⟩ : ByteArray).data.toList = decide (atB s k = 47 ∧ atB s (k + 1) = 47) := by
      have := hp2 (s.extract k s.size) 47 47 (by decide) (by decide)
      rw [atB_rest hk 0, atB_rest hk 1] at this
      exact this
    have e2 : Lib.hasPrefix (s.extract k s.size).data.toList (⟨#[47, 42]⟩ : ByteArray).data.toList = decide (atB s k = 47 ∧ atB s (k + 1) = 42) := by
      have := hp2 (s.extract k s.size) 47 42 (by decide) (by decide)
      rw [atB_rest hk 0, atB_rest hk 1] at this
      exact this
    rw [e1] at hp1
    rw [e2] at hp3
    obtain ⟨c0, c1, c2, c3⟩ := hR.cells
    have hkr' := hkr
    unfold skF at hkr'
    go_wp2_with fail
    go_quiet (fail)
    have D0 : Below wr.heap.size wr (wr.drewN nq) := below_drewN (Below.refl _ _) nq
    replace hR := hR.below D0
    replace hO := hO.trans (Off.of D0)
    have hm2 := hO.cell1 hg hm
    have HA : Hid (atOf wr g = k) := by
      show _ = _
      unfold atOf
      rw [c1]
      rfl
    generalize wr.drewN nq = w2 at *
    clear c0 c1 c2 c3 D0 e1 e2 hkr
    go_wp2_with fail
    refine (hb0 _).mono ?_
    rintro e w3 ⟨rfl, rfl⟩
    go_wp2_with fail
    refine (hkd _).mono ?_
    rintro e w3 ⟨rfl, rfl⟩
    clear hb0 hkd hsl
    by_cases h1 : kd (atB s k) = 1
    · have h1' : (kd (atB s k) == 1) = true := by rw [h1]; rfl
      rw [if_pos h1] at hkr'
      have hks : k < s.size := by
        rcases Nat.lt_or_ge k s.size with h2 | h2
        · exact h2
        · rw [atB_out (Nat.not_lt.2 h2)] at h1; exact absurd h1 (by decide)
      have hmv := move_any g s k 1 w3 hR (by omega) (by omega)
      clear hp1 hp3
      generalize kd (atB s k) = kk at *
      go_wp2_with fail
      refine hmv.mono ?_
      rintro e w4 ⟨rfl, hR4, hO4⟩
      have HE : Hid (skF s n (k + 1) = r ∧ RdC w4 g s (k + 1) ∧ Off g w w4) := ⟨hkr', hR4, hO.trans hO4⟩
      have HM : Hid (atOf w4 g = k + 1) := hR4.atOf
      clear hmv hR hO hR4 hO4 hkr' h1 h1'
      go_wp2
      go_roundw
      case rel => exact ⟨n, k + 1, by omega, by omega, HE.out⟩
      case measure => rw [HM.out, HA.out]; omega
    · have h1' : (kd (atB s k) == 1) = false := beq_eq_false_iff_ne.2 h1
      rw [if_neg h1] at hkr'
      generalize kd (atB s k) = kk at *
      go_wp2_with fail
      refine (hp1 _).mono ?_
      rintro e w4 ⟨rfl, rfl⟩
      clear hp1 h1 h1'
      by_cases h2 : atB s k = 47 ∧ atB s (k + 1) = 47
      · rw [decide_eq_true h2]
        rw [if_pos h2] at hkr'
        obtain ⟨hl1, hl2⟩ := lineLen_facts hk h2.1
        have HL : Hid (1 ≤ lineLen s k ∧ k + lineLen s k ≤ s.size) := ⟨hl1, hl2⟩
        have hct := cut_any (s.extract k s.size) ⟨#[10]⟩ m w4 (by omega) hm2
        have ell : (if Lib.indexB (s.extract k s.size) ⟨#[10]⟩ < 0 then (s.extract k s.size).size else (Lib.indexB (s.extract k s.size) ⟨#[10]⟩).toNat) = lineLen s k := by unfold lineLen; rw [hrz]
        rw [ell] at hct
        clear ell h2 hp3
        generalize decide (0 ≤ Lib.indexB (s.extract k s.size) ⟨#[10]⟩) = fo at *
        generalize s.extract k s.size = rs at *
        generalize lineLen s k = ll at *
        go_wp2_with fail
        refine hct.mono ?_
        rintro e w5 ⟨⟨x, y, rfl, hx⟩, b5⟩
        have hmv := move_any g s k ll w5 (hR.below b5) hl2 (by omega)
        replace hO := hO.trans (Off.of b5)
        have hxi : (x.size : Int) = (ll : Int) := by omega
        clear hct hm2 hx b5 hl1 hl2
        go_wp2_with fail
        try rw [hxi]
        refine hmv.mono ?_
        rintro e w6 ⟨rfl, hR4, hO4⟩
        have HE : Hid (skF s n (k + ll) = r ∧ RdC w6 g s (k + ll) ∧ Off g w w6) := ⟨hkr', hR4, hO.trans hO4⟩
        have HM : Hid (atOf w6 g = k + ll) := hR4.atOf
        clear hmv hR hO hR4 hO4 hkr'
        go_wp2
        go_roundw
        case rel => exact ⟨n, k + ll, HL.out.2, by have := HL.out; omega, HE.out⟩
        case measure => rw [HM.out, HA.out]; have := HL.out; omega
      · rw [decide_eq_false h2]
        rw [if_neg h2] at hkr'
        clear h2
        go_wp2_with fail
        refine (hp3 _).mono ?_
        rintro e w5 ⟨rfl, rfl⟩
        clear hp3
        by_cases h3 : atB s k = 47 ∧ atB s (k + 1) = 42
        · rw [decide_eq_true h3]
          rw [if_pos h3] at hkr'
          have h4 : k + 1 < s.size := atB_in (by rw [h3.2]; decide)
          have hsh : 0 ≤ shutAt s k → k + (2 + (shutAt s k).toNat + 2) ≤ s.size := fun h => shut_facts hk h h4
          have hz2 : ((s.extract k s.size).extract 2 (s.extract k s.size).size).size = s.size - k - 2 := by rw [ByteArray.size_extract, hrz]; omega
          have hct := cut_any ((s.extract k s.size).extract 2 (s.extract k s.size).size) ⟨#[42, 47]⟩ m w5 (by omega) hm2
          have esh : Lib.indexB ((s.extract k s.size).extract 2 (s.extract k s.size).size) ⟨#[42, 47]⟩ = shutAt s k := rfl
          have hsl2 : ∀ w, (Instr.slice 9 (.string (s.extract k s.size)) (some (.int .i64 2)) none none).run Tryd.prog w = .ok (.string ((s.extract k s.size).extract 2 (s.extract k s.size).size)) w := fun w => slice_from _ 2 (by omega) w
          rw [esh] at hct
          clear esh h3
          generalize (s.extract k s.size).extract 2 (s.extract k s.size).size = r2 at *
          generalize s.extract k s.size = rs at *
          generalize shutAt s k = sh at *
          go_wp2_with fail
          refine hct.mono ?_
          rintro e w6 ⟨⟨x, y, rfl, hx⟩, b6⟩
          replace hR := hR.below b6
          replace hO := hO.trans (Off.of b6)
          clear hct hsl2 hm2 b6
          by_cases h5 : sh < 0
          · rw [if_pos h5] at hkr'
            rw [decide_eq_false (by omega)]
            have HE : Hid (SkEnd w g s r (.returned (.bool false)) w6) := by
              rw [← hkr']
              exact ⟨rfl, hR, hO⟩
            clear hR hO hkr' hx h5 hsh
            go_wp2
            go_ret
            exact HE.out
          · rw [if_neg h5] at hkr' hx
            rw [decide_eq_true (by omega)]
            have hsh2 := hsh (by omega)
            have HL : Hid (1 ≤ 2 + sh.toNat + 2 ∧ k + (2 + sh.toNat + 2) ≤ s.size) := ⟨by omega, hsh2⟩
            generalize sh.toNat = sn at *
            have hmv := move_any g s k (2 + sn + 2) w6 hR hsh2 (by omega)
            have hxi : (x.size : Int) = (sn : Int) := by omega
            have hca : ((2 + sn + 2 : Nat) : Int) = 2 + (sn : Int) + 2 := by omega
            rw [hca] at hmv
            clear hx h5 hsh
            go_wp2_with fail
            try rw [hxi]
            refine hmv.mono ?_
            rintro e w7 ⟨rfl, hR4, hO4⟩
            have HE : Hid (skF s n (k + (2 + sn + 2)) = r ∧ RdC w7 g s (k + (2 + sn + 2)) ∧ Off g w w7) := ⟨hkr', hR4, hO.trans hO4⟩
            have HM : Hid (atOf w7 g = k + (2 + sn + 2)) := hR4.atOf
            clear hmv hR hO hR4 hO4 hkr'
            go_wp2
            go_roundw
            case rel => exact ⟨n, k + (2 + sn + 2), HL.out.2, by have := HL.out; omega, HE.out⟩
            case measure => rw [HM.out, HA.out]; have := HL.out; omega
        · rw [decide_eq_false h3]
          rw [if_neg h3] at hkr'
          have HE : Hid (SkEnd w g s r (.returned (.bool true)) w5) := by
            rw [← hkr']
            exact ⟨rfl, hR, hO⟩
          clear hR hO hkr' h3
          go_wp2
          go_ret
          exact HE.out
end Go.Proofs.YtlemnbegblpllaaDoor

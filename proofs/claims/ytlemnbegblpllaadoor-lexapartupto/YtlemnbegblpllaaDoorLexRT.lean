/-
  Proved here: what the document's own Take answers.
-/
import Derived.Test.YtlemnbegblpllaaDoorLexRS
import Derived.Test.YtlemnbegblpllaaDoorLexR
import Derived.Test.YtlemnbegblpllaaDoorLexVAll
namespace Go.Proofs.YtlemnbegblpllaaDoor
open Go.RowKit
/-- What is taken: how many bytes, the word, the fault. -/
def takeV (n k : Int) (ms : ByteArray) (c : Int) (wd : ByteArray) : Value := .tuple #[.int .i64 n, .agg #[.int .i8 k, .string ms, .int .i64 0, .int .i64 0], .agg #[.int .i64 c, .int .i64 0, .int .i64 0, .string wd]]
def takeW : Out → Value
  | .tok k ms _ _ j => takeV (j : Int) k ms 0 ⟨#[]⟩
  | .flt c _ _ wd => takeV 0 0 ⟨#[]⟩ c wd
def takeF (u : ByteArray) : Value := if skip1 u < 0 then takeV 0 0 ⟨#[]⟩ 21 ⟨#[47, 42]⟩ else if 0 < skip1 u then takeV (skip1 u) 0 ⟨#[]⟩ 0 ⟨#[]⟩ else takeW (wordOut u 0)
/-- Results of a slot and two cells. -/
theorem results_tcc2 {P : Program} {fn : Func} {p q u : Tmp} {ty ty2 : TypeId} (h : fn.results = #[.tmp u, .cell p ty, .cell q ty2]) (tmps : Array Value) (w : World) (g g2 : Nat) (t t2 : TypeId) (cs cs2 : Array Value) (fr fr2 : Nat × Nat) (d d2 : TypeDesc)
    (hp : tmps.getD p undef = .pointer (some ⟨g, 0, none⟩)) (hg : w.heap[g]? = some (.cells cs t fr)) (hq : tmps.getD q undef = .pointer (some ⟨g2, 0, none⟩)) (hg2 : w.heap[g2]? = some (.cells cs2 t2 fr2))
    (hu : P.underlying ty = some d) (hd : (match d with | .struct _ | .array _ _ => true | _ => false) = true) (hi : (P.info? ty).map (·.size) = some cs.size)
    (hu2 : P.underlying ty2 = some d2) (hd2 : (match d2 with | .struct _ | .array _ _ => true | _ => false) = true) (hi2 : (P.info? ty2).map (·.size) = some cs2.size) :
    (results fn tmps).run P w = .ok (.tuple #[tmps.getD u undef, .agg cs, .agg cs2]) w := by
  have hp' : tmps[p]?.getD undef = .pointer (some ⟨g, 0, none⟩) := by simpa using hp
  have hq' : tmps[q]?.getD undef = .pointer (some ⟨g2, 0, none⟩) := by simpa using hq
  simp [results, h, hp', hq', asAddr, run_loadVar_row w g t ty cs fr d hg hu hd hi, run_loadVar_row w g2 t2 ty2 cs2 fr2 d2 hg2 hu2 hd2 hi2]
/-- The two results, and all but them as it was. -/
structure TkEnd (w : World) (a b c d a2 b2 c2 d2 : Value) (X : World) : Prop where
  tok : TkC X w.heap.size a b c d
  flt : FtC X (w.heap.size + 1) a2 b2 c2 d2
  bel : Below w.heap.size w X
theorem TkEnd.write {w X : World} {a b c d a2 b2 c2 d2 : Value} (h : TkEnd w a b c d a2 b2 c2 d2 X) (x0 x1 x2 x3 y0 y1 y2 y3 : Value) :
    TkEnd w x0 x1 x2 x3 y0 y1 y2 y3 ((((((((X.setCell ⟨w.heap.size, 0, none⟩ x0).setCell ⟨w.heap.size, 1, none⟩ x1).setCell ⟨w.heap.size, 2, none⟩ x2).setCell ⟨w.heap.size, 3, none⟩ x3).setCell ⟨w.heap.size + 1, 0, none⟩ y0).setCell ⟨w.heap.size + 1, 1, none⟩ y1).setCell ⟨w.heap.size + 1, 2, none⟩ y2).setCell ⟨w.heap.size + 1, 3, none⟩ y3) := by
  have ne : w.heap.size ≠ w.heap.size + 1 := by omega
  have h1 := h.tok.write x0 x1 x2 x3
  have h2 := ((((h.flt.set (p := ⟨w.heap.size, 0, none⟩) ne.symm x0).set (p := ⟨w.heap.size, 1, none⟩) ne.symm x1).set (p := ⟨w.heap.size, 2, none⟩) ne.symm x2).set (p := ⟨w.heap.size, 3, none⟩) ne.symm x3)
  have b1 := (((h.bel.setCell (p := ⟨w.heap.size, 0, none⟩) (Nat.le_refl _) x0).setCell (p := ⟨w.heap.size, 1, none⟩) (Nat.le_refl _) x1).setCell (p := ⟨w.heap.size, 2, none⟩) (Nat.le_refl _) x2).setCell (p := ⟨w.heap.size, 3, none⟩) (Nat.le_refl _) x3
  exact ⟨((((h1.set (p := ⟨w.heap.size + 1, 0, none⟩) ne y0).set (p := ⟨w.heap.size + 1, 1, none⟩) ne y1).set (p := ⟨w.heap.size + 1, 2, none⟩) ne y2).set (p := ⟨w.heap.size + 1, 3, none⟩) ne y3), h2.write y0 y1 y2 y3, (((b1.setCell (p := ⟨w.heap.size + 1, 0, none⟩) (Nat.le_succ _) y0).setCell (p := ⟨w.heap.size + 1, 1, none⟩) (Nat.le_succ _) y1).setCell (p := ⟨w.heap.size + 1, 2, none⟩) (Nat.le_succ _) y2).setCell (p := ⟨w.heap.size + 1, 3, none⟩) (Nat.le_succ _) y3⟩
theorem TkEnd.drew {w X : World} {a b c d a2 b2 c2 d2 : Value} (h : TkEnd w a b c d a2 b2 c2 d2 X) : TkEnd w a b c d a2 b2 c2 d2 X.drew :=
  have D := (Below.refl X.heap.size X).drew
  ⟨h.tok.below D, h.flt.below D, bstep1 h.bel D⟩
theorem TkEnd.drewN {w X : World} {a b c d a2 b2 c2 d2 : Value} (h : TkEnd w a b c d a2 b2 c2 d2 X) (n : Nat) : TkEnd w a b c d a2 b2 c2 d2 (X.drewN n) :=
  have D := below_drewN (Below.refl X.heap.size X) n
  ⟨h.tok.below D, h.flt.below D, bstep1 h.bel D⟩
theorem run_stop {p : Nat → Bool} (hp : p 0 = false) (s : ByteArray) : ∀ n i, s.size - i = n → p (atB s (runEnd p s i)) = false
  | 0, i, h => by
    rw [runEnd_no (by omega), atB_out (by omega)]; exact hp
  | n + 1, i, h => by
    by_cases hc : i < s.size ∧ p (atB s i) = true
    · rw [runEnd_yes hc.1 hc.2]; exact run_stop hp s n (i + 1) (by omega)
    · rw [runEnd_no hc]
      rcases Nat.lt_or_ge i s.size with h1 | h1
      · exact Bool.eq_false_iff.2 (fun h2 => hc ⟨h1, h2⟩)
      · rw [atB_out (by omega)]; exact hp
theorem num_stop (u : ByteArray) (i : Nat) : isD (atB u (numEnd u i).2) = false := by
  unfold numEnd
  have h0 : isD (atB u (runEnd isD u i)) = false := run_stop rfl u _ _ rfl
  have h1 : isD (atB u (ptEnd u (runEnd isD u i))) = false := by
    unfold ptEnd
    split
    · exact run_stop rfl u _ _ rfl
    · exact h0
  unfold xpo
  split
  · exact run_stop rfl u _ _ rfl
  · exact h1
theorem num_bad (u : ByteArray) (i : Nat) (hi : i ≤ u.size) : numBad u i = (isFarF (u.extract (numEnd u i).1 (numEnd u i).2) || (kd (atB u (numEnd u i).2) == 2)) := by
  have hs := num_stop u i
  have hf := num_facts u i hi
  unfold numBad
  rw [Bool.or_comm]
  congr 1
  generalize (numEnd u i).2 = e at *
  by_cases h : kd (atB u e) = 2
  · have hin : e < u.size := by
      rcases Nat.lt_or_ge e u.size with h1 | h1
      · exact h1
      · rw [atB_out (by omega)] at h; exact absurd h (by decide)
    rw [h, decide_eq_true (run_adv hin (by unfold isW; rw [h]; rfl))]
    rfl
  · rw [beq_eq_false_iff_ne.2 h, runEnd_no (by
      rintro ⟨_, h2⟩
      unfold isW at h2
      unfold isD at hs
      rw [beq_eq_false_iff_ne.2 h, hs] at h2
      cases h2)]
    exact decide_eq_false (Nat.lt_irrefl _)
theorem slice_str0 (s : ByteArray) (j : Nat) (b : Int) (hb : b = (j : Int)) (h2 : j ≤ s.size) (w : World) :
    (Instr.slice 9 (.string s) none (some (.int .i64 b)) none).run Tryd.prog w = .ok (.string (s.extract 0 j)) w := by
  subst hb
  go_simp
set_option maxRecDepth 100000 in
set_option maxHeartbeats 6400000 in
theorem takeR_any (u : ByteArray) (w : World) (hs : u.size < 2305843009213693952) (h1 : 1 ≤ u.size) :
    Calls Tryd.prog 26 #[.string u] w fun e w' => e = .returned (takeF u) ∧ Below w.heap.size w w' := by
  obtain ⟨V, hV⟩ : ∃ V, V = takeF u := ⟨_, rfl⟩
  rw [← hV]
  have HV0 : Hid (V = takeF u) := hV
  clear hV
  obtain ⟨W1, hW1⟩ : ∃ W1, (w.alloc (.cells #[.int .i8 0, .string ⟨#[]⟩, .int .i64 0, .int .i64 0] 38)).alloc (.cells #[.int .i64 0, .int .i64 0, .int .i64 0, .string ⟨#[]⟩] 26) = W1 := ⟨_, rfl⟩
  have hE : TkEnd w (.int .i8 0) (.string ⟨#[]⟩) (.int .i64 0) (.int .i64 0) (.int .i64 0) (.int .i64 0) (.int .i64 0) (.string ⟨#[]⟩) W1 := by
    rw [← hW1]
    exact ⟨(tkc_new _ rfl).below (belowA1 _ _), ftc_new _ (by simp), bstep1 (belowA1 _ _) (belowA1 _ _)⟩
  obtain ⟨t0, t1, t2, t3⟩ := hE.tok.cells
  obtain ⟨f0, f1, f2, f3⟩ := hE.flt.cells
  have z0 := hE.tok.thaw 0
  have z1 := hE.tok.thaw 1
  have z2 := hE.tok.thaw 2
  have z3 := hE.tok.thaw 3
  have q0 := hE.flt.thaw 0
  have q1 := hE.flt.thaw 1
  have q2 := hE.flt.thaw 2
  have q3 := hE.flt.thaw 3
  have hsk := fun w => skippedR_any u w hs h1
  have HB0 : Hid (u[0].toNat = atB u 0) := by show _ = _; unfold atB; rw [dif_pos (by omega)]; rfl
  have hz0 : (0 : Int) < (u.size : Int) := by omega
  go_enter Tryd.func26, Tryd.ntmps26
  go_wp2_with fail
  refine (hsk _).mono ?_
  rintro e w2 ⟨rfl, rfl⟩
  clear hsk
  have hV := HV0.out
  unfold takeF at hV
  clear HV0
  obtain ⟨S, hS⟩ : ∃ S, S = skip1 u := ⟨_, rfl⟩
  rw [← hS] at hV ⊢
  clear hS
  by_cases hn : S < 0
  · rw [if_pos hn] at hV
    have HV : Hid (V = takeV 0 0 ⟨#[]⟩ 21 ⟨#[47, 42]⟩) := hV
    clear hV
    go_wp2_with fail
    (try simp only [Exit.inBlock, Exit.then])
    have hX := hE.write (.int .i8 0) (.string ⟨#[]⟩) (.int .i64 0) (.int .i64 0) (.int .i64 21) (.int .i64 0) (.int .i64 0) (.string ⟨#[47, 42]⟩)
    exact bodyPost_ret (results_tcc2 (u := 2) (p := 3) (q := 4) rfl _ _ w.heap.size (w.heap.size + 1) 38 26 _ _ (0, 0) (0, 0) _ _ rfl hX.tok rfl hX.flt Tryd.underlying38 rfl (by kernel_rfl) Tryd.underlying26 rfl (by kernel_rfl)) rfl ⟨congrArg Ending.returned HV.out.symm, hX.bel⟩
  · rw [if_neg hn] at hV
    by_cases hp : 0 < S
    · rw [if_pos hp] at hV
      have HV : Hid (V = takeV S 0 ⟨#[]⟩ 0 ⟨#[]⟩) := hV
      clear hV
      go_wp2_with fail
      (try simp only [Exit.inBlock, Exit.then])
      have hX := hE.write (.int .i8 0) (.string ⟨#[]⟩) (.int .i64 0) (.int .i64 0) (.int .i64 0) (.int .i64 0) (.int .i64 0) (.string ⟨#[]⟩)
      exact bodyPost_ret (results_tcc2 (u := 2) (p := 3) (q := 4) rfl _ _ w.heap.size (w.heap.size + 1) 38 26 _ _ (0, 0) (0, 0) _ _ rfl hX.tok rfl hX.flt Tryd.underlying38 rfl (by kernel_rfl) Tryd.underlying26 rfl (by kernel_rfl)) rfl ⟨congrArg Ending.returned HV.out.symm, hX.bel⟩
    · rw [if_neg hp] at hV
      have hle := fun w => letter_any (u[0].toNat) w
      have HVW : Hid (V = takeW (wordOut u 0)) := hV
      clear hV
      go_wp2_with fail
      refine (hle _).mono ?_
      rintro e w3 ⟨rfl, rfl⟩
      clear hle
      have hb0 := HB0.out
      rw [hb0]
      have hVW := HVW.out
      unfold wordOut at hVW
      rw [if_neg (by omega)] at hVW
      clear HVW
      by_cases hk2 : kd (atB u 0) = 2
      · rw [if_pos hk2] at hVW
        have hkb : (kd (atB u 0) == 2) = true := by rw [hk2]; rfl
        rw [hkb]
        have hwd : ∀ w, Calls Tryd.prog 31 #[.string u, .int .i64 0] w fun e w' => e = .returned (.int .i64 (runEnd isW u 0 - 0 : Nat)) ∧ w' = w := fun w => wordR_any u 0 w (by omega) (Nat.zero_le _)
        have hrz := runEnd_size isW u (Nat.zero_le u.size)
        unfold nameOut at hVW
        rw [Nat.sub_zero] at hwd hVW
        generalize runEnd isW u 0 = r at *
        clear hb0 hkb hk2
        have hri : (r : Int) ≤ (u.size : Int) := by omega
        by_cases h64 : 64 < r
        · rw [if_pos h64] at hVW
          have HV : Hid (V = takeV 0 0 ⟨#[]⟩ 20 (u.extract 0 r)) := hVW
          have h64i : (64 : Int) < (r : Int) := by omega
          clear hVW
          go_wp2_with fail
          refine (hwd _).mono ?_
          rintro e w4 ⟨rfl, rfl⟩
          clear hwd
          go_wp2_with fail
          go_region
          all_goals (try go_wp2)
          all_goals (try simp only [Exit.inBlock, Exit.then])
          all_goals (have hX := (hE.write (.int .i8 0) (.string ⟨#[]⟩) (.int .i64 0) (.int .i64 0) (.int .i64 20) (.int .i64 0) (.int .i64 0) (.string (u.extract 0 r))).drew)
          all_goals exact bodyPost_ret (results_tcc2 (u := 2) (p := 3) (q := 4) rfl _ _ w.heap.size (w.heap.size + 1) 38 26 _ _ (0, 0) (0, 0) _ _ rfl hX.tok rfl hX.flt Tryd.underlying38 rfl (by kernel_rfl) Tryd.underlying26 rfl (by kernel_rfl)) rfl ⟨congrArg Ending.returned HV.out.symm, hX.bel⟩
        · rw [if_neg h64] at hVW
          have HV : Hid (V = takeV (r : Int) 1 (u.extract 0 r) 0 ⟨#[]⟩) := hVW
          have h64i : ¬ (64 : Int) < (r : Int) := by omega
          clear hVW
          go_wp2_with fail
          refine (hwd _).mono ?_
          rintro e w4 ⟨rfl, rfl⟩
          clear hwd
          go_wp2_with fail
          go_region
          all_goals (try go_wp2)
          all_goals (try simp only [Exit.inBlock, Exit.then])
          all_goals (have hX := (hE.write (.int .i8 1) (.string (u.extract 0 r)) (.int .i64 0) (.int .i64 0) (.int .i64 0) (.int .i64 0) (.int .i64 0) (.string ⟨#[]⟩)).drew)
          all_goals exact bodyPost_ret (results_tcc2 (u := 2) (p := 3) (q := 4) rfl _ _ w.heap.size (w.heap.size + 1) 38 26 _ _ (0, 0) (0, 0) _ _ rfl hX.tok rfl hX.flt Tryd.underlying38 rfl (by kernel_rfl) Tryd.underlying26 rfl (by kernel_rfl)) rfl ⟨congrArg Ending.returned HV.out.symm, hX.bel⟩
      · rw [if_neg hk2] at hVW
        have hkb : (kd (atB u 0) == 2) = false := beq_eq_false_iff_ne.2 hk2
        rw [hkb]
        have hdi := fun w => digit_any (atB u 0) w
        have HVW : Hid (V = takeW (if kd (atB u 0) = 3 then numOut u 0 else if kd (atB u 0) = 4 then quoteOut u 0 else if kd (atB u 0) = 5 then .tok 4 (u.extract 0 (0 + 1)) (lineOf u 0) (colOf u 0) (0 + 1) else .flt 20 (lineOf u 0) (colOf u 0) (u.extract 0 (0 + 1)))) := hVW
        clear hVW hkb hk2
        go_wp2_with fail
        refine (hdi _).mono ?_
        rintro e w4 ⟨rfl, rfl⟩
        clear hdi
        have hVW := HVW.out
        clear HVW
        by_cases hk3 : kd (atB u 0) = 3
        · rw [if_pos hk3] at hVW
          have hkd : isD (atB u 0) = true := by unfold isD; rw [hk3]; rfl
          rw [hkd]
          have hnu := fun w => numberR_any u w hs
          have hnf := num_facts u 0 (Nat.zero_le _)
          unfold numOut at hVW
          rw [num_bad u 0 (Nat.zero_le _)] at hVW
          have hat := fun w => atR_any u (numEnd u 0).2 w
          have hlt := fun w => letter_any (atB u (numEnd u 0).2) w
          have hwd := fun w => wordR_any u (numEnd u 0).2 w (by omega) hnf.2.2.1
          have hrl := le_runEnd isW u (numEnd u 0).2
          have hrz := runEnd_size isW u hnf.2.2.1
          have hez := hnf.2.2.1
          generalize isFarF (u.extract (numEnd u 0).1 (numEnd u 0).2) = bf at *
          generalize (kd (atB u (numEnd u 0).2) == 2) = bl at *
          generalize runEnd isW u (numEnd u 0).2 = r at *
          generalize (numEnd u 0).2 = e at *
          clear hb0 hkd hk3 hnf
          have hei : (e : Int) ≤ (u.size : Int) := by omega
          have hri : (r : Int) ≤ (u.size : Int) := by omega
          obtain ⟨d, hd⟩ : ∃ d, d = r - e := ⟨_, rfl⟩
          rw [← hd] at hwd
          have hwr : wrap64 ((e : Int) + (d : Int)) = (r : Int) := by unfold wrap64; omega
          have hwr2 : IntKind.i64.wrap ((e : Int) + (d : Int)) = (r : Int) := by rw [IntKind.wrap_i64]; omega
          have hed : (e : Int) + (d : Int) = (r : Int) := by omega
          cases bf with
          | true =>
            have HV : Hid (V = takeV 0 0 ⟨#[]⟩ 22 (u.extract 0 r)) := hVW
            clear hVW hd hrl hed
            go_wp2_with fail
            refine (hnu _).mono ?_
            rintro e w5 ⟨rfl, rfl⟩
            clear hnu
            go_wp2_with fail
            go_region_with (go_at_call 31; refine (hwd _).mono ?_; rintro e w6 ⟨rfl, rfl⟩)
            all_goals (try go_wp2)
            all_goals (try simp only [Exit.inBlock, Exit.then])
            all_goals (have hX := (hE.write (.int .i8 0) (.string ⟨#[]⟩) (.int .i64 0) (.int .i64 0) (.int .i64 22) (.int .i64 0) (.int .i64 0) (.string (u.extract 0 r))).drew)
            all_goals exact bodyPost_ret (results_tcc2 (u := 2) (p := 3) (q := 4) rfl _ _ w.heap.size (w.heap.size + 1) 38 26 _ _ (0, 0) (0, 0) _ _ rfl hX.tok rfl hX.flt Tryd.underlying38 rfl (by kernel_rfl) Tryd.underlying26 rfl (by kernel_rfl)) rfl ⟨congrArg Ending.returned HV.out.symm, hX.bel⟩
          | false =>
            cases bl with
            | true =>
              have HV : Hid (V = takeV 0 0 ⟨#[]⟩ 22 (u.extract 0 r)) := hVW
              clear hVW hd hrl hed
              go_wp2_with fail
              refine (hnu _).mono ?_
              rintro e w5 ⟨rfl, rfl⟩
              clear hnu
              go_wp2_with fail
              refine (hat _).mono ?_
              rintro e w6 ⟨rfl, rfl⟩
              clear hat
              go_wp2_with fail
              refine (hlt _).mono ?_
              rintro e w7 ⟨rfl, rfl⟩
              clear hlt
              go_wp2_with fail
              go_region_with (go_at_call 31; refine (hwd _).mono ?_; rintro e w8 ⟨rfl, rfl⟩)
              all_goals (try go_wp2)
              all_goals (try simp only [Exit.inBlock, Exit.then])
              all_goals (have hX := (hE.write (.int .i8 0) (.string ⟨#[]⟩) (.int .i64 0) (.int .i64 0) (.int .i64 22) (.int .i64 0) (.int .i64 0) (.string (u.extract 0 r))).drew)
              all_goals exact bodyPost_ret (results_tcc2 (u := 2) (p := 3) (q := 4) rfl _ _ w.heap.size (w.heap.size + 1) 38 26 _ _ (0, 0) (0, 0) _ _ rfl hX.tok rfl hX.flt Tryd.underlying38 rfl (by kernel_rfl) Tryd.underlying26 rfl (by kernel_rfl)) rfl ⟨congrArg Ending.returned HV.out.symm, hX.bel⟩
            | false =>
              have HV : Hid (V = takeV (e : Int) 2 (u.extract 0 e) 0 ⟨#[]⟩) := hVW
              clear hVW hd hrl hed hwd
              go_wp2_with fail
              refine (hnu _).mono ?_
              rintro e w5 ⟨rfl, rfl⟩
              clear hnu
              go_wp2_with fail
              refine (hat _).mono ?_
              rintro e w6 ⟨rfl, rfl⟩
              clear hat
              go_wp2_with fail
              refine (hlt _).mono ?_
              rintro e w7 ⟨rfl, rfl⟩
              clear hlt
              go_wp2_with fail
              go_region
              all_goals (try go_wp2)
              all_goals (try simp only [Exit.inBlock, Exit.then])
              all_goals (have hX := (hE.write (.int .i8 2) (.string (u.extract 0 e)) (.int .i64 0) (.int .i64 0) (.int .i64 0) (.int .i64 0) (.int .i64 0) (.string ⟨#[]⟩)).drew)
              all_goals exact bodyPost_ret (results_tcc2 (u := 2) (p := 3) (q := 4) rfl _ _ w.heap.size (w.heap.size + 1) 38 26 _ _ (0, 0) (0, 0) _ _ rfl hX.tok rfl hX.flt Tryd.underlying38 rfl (by kernel_rfl) Tryd.underlying26 rfl (by kernel_rfl)) rfl ⟨congrArg Ending.returned HV.out.symm, hX.bel⟩
        · rw [if_neg hk3] at hVW
          have hkd : isD (atB u 0) = false := beq_eq_false_iff_ne.2 hk3
          rw [hkd]
          have hx1 : u.extract 0 (0 + 1) = bts [atB u 0] := bts_one u 0 (by omega)
          rw [hx1] at hVW
          by_cases hk4 : kd (atB u 0) = 4
          · rw [if_pos hk4] at hVW
            have h34 : atB u 0 = 34 := kd_quote hk4
            have x34 : ((atB u 0 : Int) == 34) = true := by rw [h34]; rfl
            have hqu := fun w => quotedR_any u w hs
            unfold quoteOut at hVW
            rw [Nat.zero_add] at hVW
            cases hR : qF u (u.size + 1) 1 [] with
            | none =>
              rw [hR] at hVW hqu
              have HV : Hid (V = takeV 0 0 ⟨#[]⟩ 21 ⟨#[34]⟩) := by show _ = _; rw [hVW]; show takeV 0 0 ⟨#[]⟩ 21 (u.extract 0 (0 + 1)) = _; rw [hx1, h34]; rfl
              clear hVW hR h34 hk4 hk3 hkd hx1
              go_wp2_with fail
              refine (hqu _).mono ?_
              rintro e w5 ⟨rfl, rfl⟩
              clear hqu
              unfold quotedR
              go_wp2_with fail
              (try simp only [Exit.inBlock, Exit.then])
              have hX := hE.write (.int .i8 0) (.string ⟨#[]⟩) (.int .i64 0) (.int .i64 0) (.int .i64 21) (.int .i64 0) (.int .i64 0) (.string ⟨#[34]⟩)
              exact bodyPost_ret (results_tcc2 (u := 2) (p := 3) (q := 4) rfl _ _ w.heap.size (w.heap.size + 1) 38 26 _ _ (0, 0) (0, 0) _ _ rfl hX.tok rfl hX.flt Tryd.underlying38 rfl (by kernel_rfl) Tryd.underlying26 rfl (by kernel_rfl)) rfl ⟨congrArg Ending.returned HV.out.symm, hX.bel⟩
            | some lj =>
              obtain ⟨l, j⟩ := lj
              rw [hR] at hVW hqu
              have HV : Hid (V = takeV (j : Int) 3 (bts l) 0 ⟨#[]⟩) := hVW
              clear hVW hR h34 hk4 hk3 hkd hx1
              go_wp2_with fail
              refine (hqu _).mono ?_
              rintro e w5 ⟨rfl, rfl⟩
              clear hqu
              unfold quotedR
              go_wp2_with fail
              (try simp only [Exit.inBlock, Exit.then])
              have hX := hE.write (.int .i8 3) (.string (bts l)) (.int .i64 0) (.int .i64 0) (.int .i64 0) (.int .i64 0) (.int .i64 0) (.string ⟨#[]⟩)
              exact bodyPost_ret (results_tcc2 (u := 2) (p := 3) (q := 4) rfl _ _ w.heap.size (w.heap.size + 1) 38 26 _ _ (0, 0) (0, 0) _ _ rfl hX.tok rfl hX.flt Tryd.underlying38 rfl (by kernel_rfl) Tryd.underlying26 rfl (by kernel_rfl)) rfl ⟨congrArg Ending.returned HV.out.symm, hX.bel⟩
          · rw [if_neg hk4] at hVW
            have h34 : atB u 0 ≠ 34 := fun e => hk4 (by rw [e]; decide)
            have x34 : ((atB u 0 : Int) == 34) = false := nat_beq h34
            have hsg := fun w => signR_any (atB u 0) w
            rw [← hx1] at hVW
            have hui : (1 : Int) ≤ (u.size : Int) := by omega
            by_cases hk5 : kd (atB u 0) = 5
            · rw [if_pos hk5] at hVW
              have HV : Hid (V = takeV 1 4 (u.extract 0 1) 0 ⟨#[]⟩) := hVW
              have hk5b : (kd (atB u 0) == 5) = true := by rw [hk5]; rfl
              rw [hk5b] at hsg
              clear hVW h34 hk5 hk5b hk4 hk3 hkd hx1
              go_wp2_with fail
              refine (hsg _).mono ?_
              rintro e w5 ⟨rfl, rfl⟩
              clear hsg
              go_wp2_with fail
              go_region
              all_goals (try go_wp2)
              all_goals (try simp only [Exit.inBlock, Exit.then])
              all_goals (have hX := (hE.write (.int .i8 4) (.string (u.extract 0 1)) (.int .i64 0) (.int .i64 0) (.int .i64 0) (.int .i64 0) (.int .i64 0) (.string ⟨#[]⟩)).drew)
              all_goals exact bodyPost_ret (results_tcc2 (u := 2) (p := 3) (q := 4) rfl _ _ w.heap.size (w.heap.size + 1) 38 26 _ _ (0, 0) (0, 0) _ _ rfl hX.tok rfl hX.flt Tryd.underlying38 rfl (by kernel_rfl) Tryd.underlying26 rfl (by kernel_rfl)) rfl ⟨congrArg Ending.returned HV.out.symm, hX.bel⟩
            · rw [if_neg hk5] at hVW
              have HV : Hid (V = takeV 0 0 ⟨#[]⟩ 20 (u.extract 0 1)) := hVW
              have hk5b : (kd (atB u 0) == 5) = false := beq_eq_false_iff_ne.2 hk5
              rw [hk5b] at hsg
              clear hVW h34 hk5 hk5b hk4 hk3 hkd hx1
              go_wp2_with fail
              refine (hsg _).mono ?_
              rintro e w5 ⟨rfl, rfl⟩
              clear hsg
              go_wp2_with fail
              go_region
              all_goals (try go_wp2)
              all_goals (try simp only [Exit.inBlock, Exit.then])
              all_goals (have hX := (hE.write (.int .i8 0) (.string ⟨#[]⟩) (.int .i64 0) (.int .i64 0) (.int .i64 20) (.int .i64 0) (.int .i64 0) (.string (u.extract 0 1))).drew)
              all_goals exact bodyPost_ret (results_tcc2 (u := 2) (p := 3) (q := 4) rfl _ _ w.heap.size (w.heap.size + 1) 38 26 _ _ (0, 0) (0, 0) _ _ rfl hX.tok rfl hX.flt Tryd.underlying38 rfl (by kernel_rfl) Tryd.underlying26 rfl (by kernel_rfl)) rfl ⟨congrArg Ending.returned HV.out.symm, hX.bel⟩
end Go.Proofs.YtlemnbegblpllaaDoor

/-
  Proved here: package dag's reached: all to which steps lead, rising.
  Proved here: package dag's leastAt; the way that a search tells.
-/
import Derived.Test.YtmgbhbdcnciccaaDagOAll
import Derived.Test.YtmgbhbdcnciccaaDagMp
namespace Go.Proofs.Ytmgbhbdcnciccaa
set_option linter.unusedVariables false
open Go.RowKit
/-- What reached answers. -/
def ReE (B : Nat) (C : List (List Int)) (n : Nat) (pts : List Int) (w' : World) (e : Ending) : Prop :=
  (noPts (n : Int) pts = true ∧ e = .returned (.tuple #[.slice none 0 0, .int .i64 3])) ∨
  (noPts (n : Int) pts = false ∧ ∃ tv R, e = .returned (.tuple #[tv, .int .i64 0]) ∧ OG (Value.int .i64) B 3 w' tv R ∧ R.Pairwise (· < ·) ∧ ∀ x, x ∈ R ↔ RchP C pts x)
set_option maxRecDepth 100000 in
set_option maxHeartbeats 12800000 in
theorem reachedD (sv pv : Value) (svs : List Value) (C : List (List Int)) (pts : List Int) (w : World) (h : RRD w sv svs C) (n : Nat) (hn : C.length = n) (hb : n ≤ 100000) (hbl : ∀ i, (C.getD i []).length ≤ 100000) (hP : WfP C) (hp : RG (Value.int .i64) w pv pts) (hpl : pts.length ≤ 1100000) :
    Calls Try.prog 40 #[sv, pv] w fun e w' => ReE w.heap.size C n pts w' e ∧ Below w.heap.size w w' := by
  have hmm := @run_makeMap Try.prog
  obtain ⟨i0, hi, hz0, hz1, hz2⟩ := info_parts Try.infoI
  have CA : Hid _ := arePointsD (n : Int) pv pts w hp
  obtain ⟨so, sn, sc, rfl⟩ : ∃ o n c, sv = .slice o n c := by obtain ⟨ao, cap, e⟩ := h.out.sl; exact ⟨_, _, _, e⟩
  obtain ⟨po, pn, pc, rfl⟩ : ∃ o n c, pv = .slice o n c := by obtain ⟨ao, cap, e⟩ := hp.sl; exact ⟨_, _, _, e⟩
  obtain rfl : sn = n := by rw [← hn, ← h.len, h.out.len]
  have HR : Hid (∀ W, Below w.heap.size w W → RRD W (.slice so sn sc) svs C) := fun W hW => h.below (Nat.le_refl _) hW
  have HPT : Hid (∀ W, Below w.heap.size w W → RG (Value.int .i64) W (.slice po pn pc) pts) := fun W hW => hp.below (Nat.le_refl _) hW
  have HN : Hid (C.length = sn) := hn
  have HWF : Hid (WfP C) := hP
  have HBL : Hid (∀ i, (C.getD i []).length ≤ 100000) := hbl
  clear h hp hn hP hbl
  go_enter Try.func40, Try.ntmps40
  go_wp2_with fail
  refine Calls.mono CA.out ?_
  clear CA
  rintro e w1 ⟨rfl, hw1⟩
  have HB1 : Hid (Below w.heap.size w w1) := hw1
  clear hw1
  rcases hno : noPts (sn : Int) pts with _ | _
  · have HNO : Hid (noPts (sn : Int) pts = false) := hno
    have HIN : Hid (∀ x ∈ pts, 0 ≤ x ∧ x < (sn : Int)) := fun x hx => by
      have := List.any_eq_false.1 hno x hx
      unfold noPt at this
      simp at this
      omega
    obtain ⟨b, hbb⟩ : ∃ b, b = w1.heap.size := ⟨_, rfl⟩
    obtain ⟨W2, hW2⟩ : ∃ W, W = w1.alloc (.map #[] 0) := ⟨_, rfl⟩
    have HMK : Hid (MpU W2 b 0 []) := by show MpU _ _ _ _; rw [hbb, hW2]; exact MpU.made w1
    have HB2 : Hid (Below w.heap.size w W2) := by show Below _ _ _; rw [hW2]; exact HB1.out.alloc HB1.out.size _
    have hbw : w.heap.size ≤ b := by rw [hbb]; exact HB1.out.size
    have HW2 : Hid (W2 = w1.alloc (.map #[] 0)) := hW2
    have HBB : Hid (b = w1.heap.size) := hbb
    have CC : Hid _ := cloneD (.slice po pn pc) pts W2 (HPT.out W2 HB2.out) (by omega)
    clear hno hbb hW2
    go_wp2_with fail
    rw [← HW2.out]
    refine Calls.mono CC.out ?_
    clear CC
    rintro e W3 ⟨u, rfl, hu, hw3⟩
    have HB3 : Hid (Below w.heap.size w W3) := HB2.out.trans (hw3.mono HB2.out.size)
    have HM3 : Hid (MpU W3 b 0 []) := HMK.out.of_block (hw3.block _ HMK.out.lt)
    have HO3 : Hid (OG (Value.int .i64) w.heap.size 3 W3 u pts) := hu.mono HB2.out.size
    obtain ⟨uo, un, uc, rfl⟩ : ∃ o n c, u = .slice o n c := by obtain ⟨ao, cap, e⟩ := hu.rg.sl; exact ⟨_, _, _, e⟩
    have HI0 : Hid (ReI C sn pts [] pts) := ReI.start HIN.out
    clear hu hw3 HMK HB2 HB1 HW2
    rw [← HBB.out]
    clear HBB
    go_wp2
    go_loopg [7, 8, 9, 10] (sn * 100002 + pts.length) (fun g1 v7 _v8 _v9 _v10 wr => ∃ (Z K : List Int) (wo : Option Addr) (wn wc : Nat), v7 = .slice wo wn wc ∧ Z.length ≤ sn ∧ (sn - Z.length) * 100002 + K.length ≤ g1 ∧ Hid (ReI C sn pts Z K) ∧ Hid (OG (Value.int .i64) w.heap.size 3 wr (.slice wo wn wc) K) ∧ Hid (MpU wr b Z.length Z) ∧ Hid (Below w.heap.size w wr))
    case atStart => exact ⟨[], pts, _, _, _, rfl, by simp, by simp, HI0, HO3, HM3, HB3⟩
    case round =>
      clear HI0 HO3 HM3 HB3
      obtain ⟨Z, K, wo, wn, wc, rfl, hzn, hg1, HI, HO, HM, HB⟩ := hrel
      rcases List.eq_nil_or_concat K with hk | ⟨K1, x, hk⟩
      · subst hk
        have hwn : wn = 0 := by have := HO.out.rg.len; simpa using this.symm
        subst hwn
        have CK : Hid _ := keysD wr b
        have CS : Hid _ := sortedD wr b Z.length Z HM.out (by omega)
        go_wp2_with fail
        refine Calls.mono CK.out ?_
        clear CK
        rintro e w5 ⟨rfl, rfl⟩
        go_wp2_with fail
        refine Calls.mono CS.out ?_
        clear CS
        rintro e w6 ⟨tv, R, rfl, hR1, hR2, hR3, hR4⟩
        have HB6 : Hid (Below w.heap.size w w6) := HB.out.trans (hR4.mono HB.out.size)
        have HR1 : Hid (OG (Value.int .i64) w.heap.size 3 w6 tv R) := hR1.mono HB.out.size
        have HR2 : Hid (R.Pairwise (· < ·)) := hR2
        have HR3 : Hid (∀ x, x ∈ R ↔ RchP C pts x) := fun x => (hR3 x).trans (HI.out.done x)
        clear hR1 hR2 hR3 hR4 HI HO HM HB
        go_wp2
        go_ret2
        exact ⟨Or.inr ⟨HNO.out, tv, R, rfl, HR1.out, HR2.out, HR3.out⟩, HB6.out⟩
      · rw [List.concat_eq_append] at hk
        subst hk
        have hwl := HO.out.rg.len
        rw [List.length_append, List.length_singleton] at hwl
        rw [List.length_append, List.length_singleton] at hg1
        obtain ⟨m, hm⟩ : ∃ m, K1.length = m := ⟨_, rfl⟩
        rw [hm] at hwl hg1
        subst hwl
        obtain ⟨ao, cap, e1, e2, e3, e4, _⟩ := HO.out.sl
        rw [List.length_append, List.length_singleton, hm] at e1 e2 e3
        simp only [Value.slice.injEq] at e1
        obtain ⟨rfl, _, rfl⟩ := e1
        obtain ⟨gk, _, rfl⟩ := e2 (by omega)
        have hxp := HI.out.kp x (by simp)
        obtain ⟨u, rfl⟩ : ∃ u : Nat, x = (u : Int) := ⟨x.toNat, by omega⟩
        have hun : u < sn := by omega
        have hcx := (HO.out.cell (show (K1 ++ [(u : Int)])[m]? = some (u : Int) by rw [List.getElem?_append_right (by omega), hm, Nat.sub_self]; rfl)).1
        have hwfu : (Lit.int .i64 (u : Int)).wf = true := WalkArith.wf_i64 (by omega)
        have hlen := HI.out.len
        rw [List.length_append, List.length_singleton, hm] at hlen
        unfold maxLen at e4
        have hmw : IntKind.i64.wrap ((m : Nat) : Int) = ((m : Nat) : Int) := by rw [IntKind.wrap_i64]; omega
        have hmm1 : ¬ ((m : Nat) : Int) + 1 ≤ ((m : Nat) : Int) := by omega
        have HO1 : Hid (OG (Value.int .i64) w.heap.size 3 wr (.slice (some ⟨gk, 0, none⟩) m wc) K1) := by
          have := HO.out.cutD (m := m) (by rw [List.length_append, hm]; omega)
          rw [List.take_left' hm] at this
          exact this
        have HKM : Hid (K1.length = m) := hm
        clear hm HO
        obtain ⟨WB, hWB⟩ : ∃ W, W = wr.alloc (.cells #[] 76) := ⟨_, rfl⟩
        have HBX : Hid (Below wr.heap.size wr WB) := by show Below _ _ _; rw [hWB]; exact belowB _ _
        have HOB : Hid (OG (Value.int .i64) w.heap.size 3 WB (.slice (some ⟨gk, 0, none⟩) m wc) K1) := HO1.out.below HBX.out
        have HMB : Hid (MpU WB b Z.length Z) := HM.out.of_block (HBX.out.block _ HM.out.lt)
        have HBB2 : Hid (Below w.heap.size w WB) := HB.out.trans (HBX.out.mono HB.out.size)
        have HWB : Hid (WB = wr.alloc (.cells #[] 76)) := hWB
        clear hWB
        by_cases hux : (u : Int) ∈ Z
        · have HI2 : Hid (ReI C sn pts Z K1) := HI.out.seen hux
          go_wp2_with (at_lookup; refine wpList_muLook rfl _ _ rfl b _ Z rfl HM.out _ rfl hwfu ?_; rw [decide_eq_true hux])
          rw [← HWB.out]
          clear HI HM HB HO1 HBX HWB hcx
          go_roundg ((sn - Z.length) * 100002 + m)
          case measure => omega
          case rel => exact ⟨Z, K1, _, _, _, rfl, hzn, by rw [HKM.out]; exact Nat.le_refl _, HI2, HOB, HMB, HBB2⟩
        · have hzl : Z.length < sn := by
            have := (HI.out.zn.snoc hun hux).len
            rw [List.length_append, List.length_singleton] at this
            omega
          have HI2 : Hid (ReI C sn pts (Z ++ [(u : Int)]) (K1 ++ C.getD u [])) := by
            have := HI.out.new hux (fun y hy => by
              rw [Int.toNat_natCast] at hy
              obtain ⟨p, e, hp⟩ := HWF.out u y hy
              rw [HN.out] at hp
              omega) (HBL.out _)
            rw [Int.toNat_natCast] at this
            exact this
          have hbu := HBL.out u
          have hml : Z.length < maxLen := by unfold maxLen; omega
          obtain ⟨q, gp, op, hq1, rfl, hq2⟩ := (HR.out w (Below.refl _ _)).out.at hun
          have hqr : Hid (∀ W, Below w.heap.size w W → RG (Value.int .i64) W q (C.getD u [])) := fun W hW => (HR.out W hW).inn u q hq1
          obtain ⟨qo, qn, qc, rfl⟩ : ∃ o n c, q = .slice o n c := by obtain ⟨ao, cap, e⟩ := (hqr.out w (Below.refl _ _)).sl; exact ⟨_, _, _, e⟩
          have HQC : Hid (∀ W, Below w.heap.size w W → W.cell? ⟨gp, op + u, none⟩ = some (.slice qo qn qc)) := fun W hW => keepR hW hq2
          have hunz : (u : Int) < (sn : Int) := by omega
          clear hq1 hq2
          go_wp2_with (first | (at_lookup; refine wpList_muLook rfl _ _ rfl b _ Z rfl HM.out _ rfl hwfu ?_; rw [decide_eq_false hux]) | (at_mapUpdate; rw [← HWB.out]; refine wpList_muPut rfl _ _ _ rfl b _ Z rfl HMB.out hml _ rfl rfl hwfu ?_))
          intro w5 hM5 hg5
          have HM5 : Hid (MpU w5 b (Z ++ [(u : Int)]).length (Z ++ [(u : Int)])) := by show MpU _ _ _ _; rw [List.length_append, List.length_singleton]; exact hM5
          have HB5 : Hid (Below w.heap.size w w5) := by
            show Below _ _ _
            exact HBB2.out.grown hg5 HBB2.out.size (fun q e => by simp only [Option.some.injEq] at e; rw [← e]; exact hbw)
          have HO5 : Hid (OG (Value.int .i64) w.heap.size 3 w5 (.slice (some ⟨gk, 0, none⟩) m wc) K1) := HOB.out.of_blocks fun q hq => hg5.block q (HOB.out.lt q hq).2 (fun e => by
            simp only [Option.some.injEq] at e
            obtain ⟨cs, hcs9⟩ := HOB.out.blockE hq
            exact HMB.out.ne hcs9 e.symm)
          have hqc5 := HQC.out w5 HB5.out
          have hqr5 := hqr.out w5 HB5.out
          have hb1 : K1.length + (C.getD u []).length ≤ maxLen := by rw [HKM.out]; unfold maxLen; omega
          have hb2 : (K1.length + (C.getD u []).length) * 8 ≤ 140737488355328 := by rw [HKM.out]; omega
          have HQ5 : Hid (RG (Value.int .i64) w5 (.slice qo qn qc) (C.getD u [])) := hqr5
          have HB1' : Hid (K1.length + (C.getD u []).length ≤ maxLen) := hb1
          have HB2' : Hid ((K1.length + (C.getD u []).length) * 8 ≤ 140737488355328) := hb2
          clear hM5 hg5 HI HM HB HO1 HBX HWB hcx HOB HMB HBB2 hqr5 hb1 hb2
          go_wp2_with (at_builtin; refine wpList_appG _ (fun _ => rfl) rfl _ _ 24 rfl w.heap.size 3 i0 (.int .i64 0) 8 Try.underlying24 hi hz0 hz1 hz2 rfl _ _ K1 (C.getD u []) rfl HO5.out rfl HQ5.out HB1'.out HB2'.out HB5.out.size ?_)
          intro v7 w7 ho7 hg7
          have HB7 : Hid (Below w.heap.size w w7) := by
            show Below _ _ _
            exact HB5.out.trans ⟨hg7.os, hg7.tape, hg7.output, hg7.size, fun q hq => hg7.block q (Nat.lt_of_lt_of_le hq HB5.out.size) (fun e => by have := (HO5.out.lt q e.symm).1; omega)⟩
          have HM7 : Hid (MpU w7 b (Z ++ [(u : Int)]).length (Z ++ [(u : Int)])) := HM5.out.of_block (hg7.block _ HM5.out.lt (fun e => by
            obtain ⟨cs, hcs9⟩ := HO5.out.blockE e.symm
            exact HM5.out.ne hcs9 rfl))
          have HO7 : Hid (OG (Value.int .i64) w.heap.size 3 w7 v7 (K1 ++ C.getD u [])) := ho7
          obtain ⟨vo, vn, vc, rfl⟩ : ∃ o n c, v7 = .slice o n c := by obtain ⟨ao, cap, e⟩ := HO7.out.rg.sl; exact ⟨_, _, _, e⟩
          clear ho7 hg7 HM5 HB5 HO5 HQ5 hqc5 HB1' HB2'
          go_wp2
          go_roundg ((sn - (Z.length + 1)) * 100002 + (m + (C.getD u []).length))
          case measure => omega
          case rel => exact ⟨Z ++ [(u : Int)], K1 ++ C.getD u [], _, _, _, rfl, by rw [List.length_append, List.length_singleton]; omega, by rw [List.length_append, List.length_singleton, List.length_append, HKM.out]; exact Nat.le_refl _, HI2, HO7, HM7, HB7⟩
  · have HNO : Hid (noPts (sn : Int) pts = true) := hno
    clear hno
    go_wp2
    go_ret2
    exact ⟨Or.inl ⟨HNO.out, rfl⟩, HB1.out⟩
end Go.Proofs.Ytmgbhbdcnciccaa

namespace Go.Proofs.Ytmgbhbdcnciccaa
set_option linter.unusedVariables false
open Go.RowKit
/-- One more of a list: the least from which so many steps are left. -/
def lsS (M : Int → Option Int) (left : Int) (a x : Int) : Int := if M x = some left ∧ (a < 0 ∨ x < a) then x else a
def lsF (M : Int → Option Int) (left : Int) (L : List Int) : Int := L.foldl (lsS M left) (-1)
theorem lsF_step {M : Int → Option Int} {left x : Int} {L : List Int} {k : Nat} (h : L[k]? = some x) : lsF M left (L.take (k + 1)) = lsS M left (lsF M left (L.take k)) x := by
  unfold lsF
  rw [List.take_add_one, h, List.foldl_append]; rfl
theorem lsF_wf {M : Int → Option Int} {left : Int} {L : List Int} (h : ∀ x ∈ L, ∃ p : Nat, x = (p : Int) ∧ p < 100000) : -1 ≤ lsF M left L ∧ lsF M left L < 100000 := by
  have : ∀ (L : List Int) (a : Int), (-1 ≤ a ∧ a < 100000) → (∀ x ∈ L, ∃ p : Nat, x = (p : Int) ∧ p < 100000) → -1 ≤ L.foldl (lsS M left) a ∧ L.foldl (lsS M left) a < 100000 := by
    intro L
    induction L with
    | nil => intro a ha _; exact ha
    | cons x L ih =>
      intro a ha h
      refine ih _ ?_ (fun y hy => h y (List.mem_cons_of_mem _ hy))
      unfold lsS
      split
      · obtain ⟨p, rfl, hp⟩ := h x (by simp); omega
      · exact ha
  exact this L (-1) (by omega) h
set_option maxRecDepth 100000 in
set_option maxHeartbeats 6400000 in
theorem leastAtD (w : World) (left : Int) (v : Value) (L : List Int) (b n : Nat) (M : Int → Option Int) (h : RG (Value.int .i64) w v L) (hM : MpI w b n M) (hL : ∀ x ∈ L, ∃ p : Nat, x = (p : Int) ∧ p < 100000) :
    Calls Try.prog 53 #[.int .i64 left, v, .map (some b)] w fun e w' => e = .returned (.int .i64 (lsF M left L)) ∧ w' = w := by
  obtain ⟨ao, cap, rfl⟩ := h.sl
  obtain ⟨n2, hn2⟩ : ∃ n2, L.length = n2 := ⟨_, rfl⟩
  have hroom := h.room
  rw [hn2] at h hroom ⊢
  unfold maxLen at hroom
  have HR : Hid (RG (Value.int .i64) w (.slice ao n2 cap) L) := h
  have HM : Hid (MpI w b n M) := hM
  have HL : Hid (∀ x ∈ L, ∃ p : Nat, x = (p : Int) ∧ p < 100000) := hL
  have HN : Hid (L.length = n2) := hn2
  clear h hM hL hn2
  go_enter Try.func53, Try.ntmps53
  go_wp2
  go_loopg [7, 9, 10, 11, 14] n2 (fun g1 v7 _v9 _v10 _v11 v14 wr => ∃ k : Nat, v14 = .int .i64 k ∧ k ≤ n2 ∧ n2 - k ≤ g1 ∧ v7 = .int .i64 (lsF M left (L.take k)) ∧ wr = w)
  case atStart => exact ⟨0, rfl, by omega, by omega, rfl, rfl⟩
  case round =>
    obtain ⟨k, rfl, hkn, hg1, rfl, rfl⟩ := hrel
    by_cases hlt : k < n2
    · have hltz : (k : Int) < (n2 : Int) := by omega
      obtain ⟨x, gx, ox, hx1, rfl, hx2⟩ := HR.out.at hlt
      obtain ⟨p, rfl, hp⟩ := HL.out x (List.mem_of_getElem? hx1)
      have HST : Hid (lsF M left (L.take (k + 1)) = lsS M left (lsF M left (L.take k)) (p : Int)) := lsF_step hx1
      obtain ⟨a, ha⟩ : ∃ a, a = lsF M left (L.take k) := ⟨_, rfl⟩
      rw [← ha] at HST ⊢
      have hwf : (Lit.int .i64 (p : Int)).wf = true := WalkArith.wf_i64 (by omega)
      clear ha hx1
      rcases hMx : M (p : Int) with _ | c
      · have hS : lsS M left a (p : Int) = a := by unfold lsS; rw [hMx]; simp
        rw [hS] at HST
        go_wp2_with (at_lookup; refine wpList_mpLookOk rfl _ _ rfl b n M rfl HM.out _ rfl hwf ?_; rw [hMx])
        go_wp2
        go_roundg (n2 - (k + 1))
        case measure => omega
        case rel => exact ⟨k + 1, by first | rfl | go_num, by omega, Nat.le_refl _, by rw [HST.out], rfl⟩
      · by_cases hcl : c = left
        · have hS : lsS M left a (p : Int) = if a < 0 ∨ (p : Int) < a then (p : Int) else a := by unfold lsS; rw [hMx, hcl]; simp
          rw [hS] at HST
          have hcq : (c == left) = true := by simp [hcl]
          by_cases ha0 : a < 0
          · rw [if_pos (Or.inl ha0)] at HST
            go_wp2_with (at_lookup; refine wpList_mpLookOk rfl _ _ rfl b n M rfl HM.out _ rfl hwf ?_; rw [hMx])
            go_wp2
            go_roundg (n2 - (k + 1))
            case measure => omega
            case rel => exact ⟨k + 1, by first | rfl | go_num, by omega, Nat.le_refl _, by rw [HST.out], rfl⟩
          · by_cases hpa : (p : Int) < a
            · rw [if_pos (Or.inr hpa)] at HST
              go_wp2_with (at_lookup; refine wpList_mpLookOk rfl _ _ rfl b n M rfl HM.out _ rfl hwf ?_; rw [hMx])
              go_wp2
              go_roundg (n2 - (k + 1))
              case measure => omega
              case rel => exact ⟨k + 1, by first | rfl | go_num, by omega, Nat.le_refl _, by rw [HST.out], rfl⟩
            · rw [if_neg (by omega)] at HST
              go_wp2_with (at_lookup; refine wpList_mpLookOk rfl _ _ rfl b n M rfl HM.out _ rfl hwf ?_; rw [hMx])
              go_wp2
              go_roundg (n2 - (k + 1))
              case measure => omega
              case rel => exact ⟨k + 1, by first | rfl | go_num, by omega, Nat.le_refl _, by rw [HST.out], rfl⟩
        · have hS : lsS M left a (p : Int) = a := by unfold lsS; rw [hMx, if_neg (fun h => hcl (by simpa using h.1))]
          rw [hS] at HST
          have hcq : (c == left) = false := by simp [hcl]
          go_wp2_with (at_lookup; refine wpList_mpLookOk rfl _ _ rfl b n M rfl HM.out _ rfl hwf ?_; rw [hMx])
          go_wp2
          go_roundg (n2 - (k + 1))
          case measure => omega
          case rel => exact ⟨k + 1, by first | rfl | go_num, by omega, Nat.le_refl _, by rw [HST.out], rfl⟩
    · have hltz : ¬ (k : Int) < (n2 : Int) := by omega
      have HE : Hid (L.take k = L) := List.take_of_length_le (by rw [HN.out]; omega)
      go_wp2
      go_ret
      exact ⟨by rw [HE.out]; rfl, rfl⟩
end Go.Proofs.Ytmgbhbdcnciccaa

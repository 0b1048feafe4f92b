/-
  Proved here: package dag's reached: all to which steps lead, rising.
  Proved here: package dag's leastAt; the way that a search tells.
  Proved here: package dag's take, of a point that may still wait.
-/
import Derived.Test.YthdpomgpcblpeaaGreatDagOAll
import Derived.Test.YthdpomgpcblpeaaGreatDagMpAll
import Derived.Test.YthdpomgpcblpeaaGreatDagKAll
namespace Go.Proofs.YthdpomgpcblpeaaGreat
set_option linter.unusedVariables false
open Go.RowKit
/-- What reached answers. -/
def ReE (B : Nat) (C : List (List Int)) (n : Nat) (pts : List Int) (w' : World) (e : Ending) : Prop :=
  (noPts (n : Int) pts = true ∧ e = .returned (.tuple #[.slice none 0 0, .int .i64 3])) ∨
  (noPts (n : Int) pts = false ∧ ∃ tv R, e = .returned (.tuple #[tv, .int .i64 0]) ∧ OG (Value.int .i64) B 3 w' tv R ∧ R.Pairwise (· < ·) ∧ ∀ x, x ∈ R ↔ RchP C pts x)
set_option maxRecDepth 100000 in
set_option maxHeartbeats 12800000 in
theorem reachedD (sv pv : Value) (svs : List Value) (C : List (List Int)) (pts : List Int) (w : World) (h : RRD w sv svs C) (n : Nat) (hn : C.length = n) (hb : n ≤ 100000) (hbl : ∀ i, (C.getD i []).length ≤ 100000) (hP : WfP C) (hp : RG (Value.int .i64) w pv pts) (hpl : pts.length ≤ 1100000) :
    Calls Tryz.prog 32 #[sv, pv] w fun e w' => ReE w.heap.size C n pts w' e ∧ Below w.heap.size w w' := by
  have hmm := @run_makeMap Tryz.prog
  obtain ⟨i0, hi, hz0, hz1, hz2⟩ := info_parts Tryz.infoI
  have CA : Hid _ := arePointsD (n : Int) pv pts w hp
  obtain ⟨so, sn, sc, rfl⟩ : ∃ o n c, sv = .slice o n c := by obtain ⟨ao, cap, e⟩ := h.out.sl; exact ⟨_, _, _, e⟩
  obtain ⟨po, pn, pc, rfl⟩ : ∃ o n c, pv = .slice o n c := by obtain ⟨ao, cap, e⟩ := hp.sl; exact ⟨_, _, _, e⟩
  obtain rfl : sn = n := by rw [← hn, ← h.len, h.out.len]
  have HR : Hid (∀ W, Below w.heap.size w W → RRD W (.slice so sn sc) svs C) := fun W hW => h.below (Nat.le_refl _) hW
  have HPT : Hid (∀ W, Below w.heap.size w W → RG (Value.int .i64) W (.slice po pn pc) pts) := fun W hW => hp.below (Nat.le_refl _) hW
  have HN : Hid (C.length = sn) := hn
  have HWF : Hid (WfP C) := hP
  have HBL : Hid (∀ i, (C.getD i []).length ≤ 100000) := hbl
  clear h hp hn hP hbl
  go_enter Tryz.func32, Tryz.ntmps32
  go_wp2_with fail
  refine Calls.mono CA.out ?_
  clear CA
  rintro e w1 ⟨rfl, hw1⟩
  have HB1 : Hid (Below w.heap.size w w1) := hw1
  clear hw1
  rcases hno : noPts (sn : Int) pts with _ | _
  · have HNO : Hid (noPts (sn : Int) pts = false) := hno
    have HIN : Hid (∀ x ∈ pts, 0 ≤ x ∧ x < (sn : Int)) := fun x hx => by
      have := List.any_eq_false.1 hno x hx
      unfold noPt at this
      simp at this
      omega
    obtain ⟨b, hbb⟩ : ∃ b, b = w1.heap.size := ⟨_, rfl⟩
    obtain ⟨W2, hW2⟩ : ∃ W, W = w1.alloc (.map #[] 0) := ⟨_, rfl⟩
    have HMK : Hid (MpU W2 b 0 []) := by show MpU _ _ _ _; rw [hbb, hW2]; exact MpU.made w1
    have HB2 : Hid (Below w.heap.size w W2) := by show Below _ _ _; rw [hW2]; exact HB1.out.alloc HB1.out.size _
    have hbw : w.heap.size ≤ b := by rw [hbb]; exact HB1.out.size
    have HW2 : Hid (W2 = w1.alloc (.map #[] 0)) := hW2
    have HBB : Hid (b = w1.heap.size) := hbb
    have CC : Hid _ := cloneD (.slice po pn pc) pts W2 (HPT.out W2 HB2.out) (by omega)
    clear hno hbb hW2
    go_wp2_with fail
    rw [← HW2.out]
    refine Calls.mono CC.out ?_
    clear CC
    rintro e W3 ⟨u, rfl, hu, hw3⟩
    have HB3 : Hid (Below w.heap.size w W3) := HB2.out.trans (hw3.mono HB2.out.size)
    have HM3 : Hid (MpU W3 b 0 []) := HMK.out.of_block (hw3.block _ HMK.out.lt)
    have HO3 : Hid (OG (Value.int .i64) w.heap.size 3 W3 u pts) := hu.mono HB2.out.size
    obtain ⟨uo, un, uc, rfl⟩ : ∃ o n c, u = .slice o n c := by obtain ⟨ao, cap, e⟩ := hu.rg.sl; exact ⟨_, _, _, e⟩
    have HI0 : Hid (ReI C sn pts [] pts) := ReI.start HIN.out
    clear hu hw3 HMK HB2 HB1 HW2
    rw [← HBB.out]
    clear HBB
    go_wp2
    go_loopg [7, 8, 9, 10] (sn * 100002 + pts.length) (fun g1 v7 _v8 _v9 _v10 wr => ∃ (Z K : List Int) (wo : Option Addr) (wn wc : Nat), v7 = .slice wo wn wc ∧ Z.length ≤ sn ∧ (sn - Z.length) * 100002 + K.length ≤ g1 ∧ Hid (ReI C sn pts Z K) ∧ Hid (OG (Value.int .i64) w.heap.size 3 wr (.slice wo wn wc) K) ∧ Hid (MpU wr b Z.length Z) ∧ Hid (Below w.heap.size w wr))
    case atStart => exact ⟨[], pts, _, _, _, rfl, by simp, by simp, HI0, HO3, HM3, HB3⟩
    case round =>
      clear HI0 HO3 HM3 HB3
      obtain ⟨Z, K, wo, wn, wc, rfl, hzn, hg1, HI, HO, HM, HB⟩ := hrel
      rcases List.eq_nil_or_concat K with hk | ⟨K1, x, hk⟩
      · subst hk
        have hwn : wn = 0 := by have := HO.out.rg.len; simpa using this.symm
        subst hwn
        have CK : Hid _ := keysD wr b
        have CS : Hid _ := sortedD wr b Z.length Z HM.out (by omega)
        go_wp2_with fail
        refine Calls.mono CK.out ?_
        clear CK
        rintro e w5 ⟨rfl, rfl⟩
        go_wp2_with fail
        refine Calls.mono CS.out ?_
        clear CS
        rintro e w6 ⟨tv, R, rfl, hR1, hR2, hR3, hR4⟩
        have HB6 : Hid (Below w.heap.size w w6) := HB.out.trans (hR4.mono HB.out.size)
        have HR1 : Hid (OG (Value.int .i64) w.heap.size 3 w6 tv R) := hR1.mono HB.out.size
        have HR2 : Hid (R.Pairwise (· < ·)) := hR2
        have HR3 : Hid (∀ x, x ∈ R ↔ RchP C pts x) := fun x => (hR3 x).trans (HI.out.done x)
        clear hR1 hR2 hR3 hR4 HI HO HM HB
        go_wp2
        go_ret2
        exact ⟨Or.inr ⟨HNO.out, tv, R, rfl, HR1.out, HR2.out, HR3.out⟩, HB6.out⟩
      · rw [List.concat_eq_append] at hk
        subst hk
        have hwl := HO.out.rg.len
        rw [List.length_append, List.length_singleton] at hwl
        rw [List.length_append, List.length_singleton] at hg1
        obtain ⟨m, hm⟩ : ∃ m, K1.length = m := ⟨_, rfl⟩
        rw [hm] at hwl hg1
        subst hwl
        obtain ⟨ao, cap, e1, e2, e3, e4, _⟩ := HO.out.sl
        rw [List.length_append, List.length_singleton, hm] at e1 e2 e3
        simp only [Value.slice.injEq] at e1
        obtain ⟨rfl, _, rfl⟩ := e1
        obtain ⟨gk, _, rfl⟩ := e2 (by omega)
        have hxp := HI.out.kp x (by simp)
        obtain ⟨u, rfl⟩ : ∃ u : Nat, x = (u : Int) := ⟨x.toNat, by omega⟩
        have hun : u < sn := by omega
        have hcx := (HO.out.cell (show (K1 ++ [(u : Int)])[m]? = some (u : Int) by rw [List.getElem?_append_right (by omega), hm, Nat.sub_self]; rfl)).1
        have hwfu : (Lit.int .i64 (u : Int)).wf = true := WalkArith.wf_i64 (by omega)
        have hlen := HI.out.len
        rw [List.length_append, List.length_singleton, hm] at hlen
        unfold maxLen at e4
        have hmw : IntKind.i64.wrap ((m : Nat) : Int) = ((m : Nat) : Int) := by rw [IntKind.wrap_i64]; omega
        have hmm1 : ¬ ((m : Nat) : Int) + 1 ≤ ((m : Nat) : Int) := by omega
        have HO1 : Hid (OG (Value.int .i64) w.heap.size 3 wr (.slice (some ⟨gk, 0, none⟩) m wc) K1) := by
          have := HO.out.cutD (m := m) (by rw [List.length_append, hm]; omega)
          rw [List.take_left' hm] at this
          exact this
        have HKM : Hid (K1.length = m) := hm
        clear hm HO
        obtain ⟨WB, hWB⟩ : ∃ W, W = wr.alloc (.cells #[] 65) := ⟨_, rfl⟩
        have HBX : Hid (Below wr.heap.size wr WB) := by show Below _ _ _; rw [hWB]; exact belowB _ _
        have HOB : Hid (OG (Value.int .i64) w.heap.size 3 WB (.slice (some ⟨gk, 0, none⟩) m wc) K1) := HO1.out.below HBX.out
        have HMB : Hid (MpU WB b Z.length Z) := HM.out.of_block (HBX.out.block _ HM.out.lt)
        have HBB2 : Hid (Below w.heap.size w WB) := HB.out.trans (HBX.out.mono HB.out.size)
        have HWB : Hid (WB = wr.alloc (.cells #[] 65)) := hWB
        clear hWB
        by_cases hux : (u : Int) ∈ Z
        · have HI2 : Hid (ReI C sn pts Z K1) := HI.out.seen hux
          go_wp2_with (at_lookup; refine wpList_muLook rfl _ _ rfl b _ Z rfl HM.out _ rfl hwfu ?_; rw [decide_eq_true hux])
          rw [← HWB.out]
          clear HI HM HB HO1 HBX HWB hcx
          go_roundg ((sn - Z.length) * 100002 + m)
          case measure => omega
          case rel => exact ⟨Z, K1, _, _, _, rfl, hzn, by rw [HKM.out]; exact Nat.le_refl _, HI2, HOB, HMB, HBB2⟩
        · have hzl : Z.length < sn := by
            have := (HI.out.zn.snoc hun hux).len
            rw [List.length_append, List.length_singleton] at this
            omega
          have HI2 : Hid (ReI C sn pts (Z ++ [(u : Int)]) (K1 ++ C.getD u [])) := by
            have := HI.out.new hux (fun y hy => by
              rw [Int.toNat_natCast] at hy
              obtain ⟨p, e, hp⟩ := HWF.out u y hy
              rw [HN.out] at hp
              omega) (HBL.out _)
            rw [Int.toNat_natCast] at this
            exact this
          have hbu := HBL.out u
          have hml : Z.length < maxLen := by unfold maxLen; omega
          obtain ⟨q, gp, op, hq1, rfl, hq2⟩ := (HR.out w (Below.refl _ _)).out.at hun
          have hqr : Hid (∀ W, Below w.heap.size w W → RG (Value.int .i64) W q (C.getD u [])) := fun W hW => (HR.out W hW).inn u q hq1
          obtain ⟨qo, qn, qc, rfl⟩ : ∃ o n c, q = .slice o n c := by obtain ⟨ao, cap, e⟩ := (hqr.out w (Below.refl _ _)).sl; exact ⟨_, _, _, e⟩
          have HQC : Hid (∀ W, Below w.heap.size w W → W.cell? ⟨gp, op + u, none⟩ = some (.slice qo qn qc)) := fun W hW => keepR hW hq2
          have hunz : (u : Int) < (sn : Int) := by omega
          clear hq1 hq2
          go_wp2_with (first | (at_lookup; refine wpList_muLook rfl _ _ rfl b _ Z rfl HM.out _ rfl hwfu ?_; rw [decide_eq_false hux]) | (at_mapUpdate; rw [← HWB.out]; refine wpList_muPut rfl _ _ _ rfl b _ Z rfl HMB.out hml _ rfl rfl hwfu ?_))
          intro w5 hM5 hg5
          have HM5 : Hid (MpU w5 b (Z ++ [(u : Int)]).length (Z ++ [(u : Int)])) := by show MpU _ _ _ _; rw [List.length_append, List.length_singleton]; exact hM5
          have HB5 : Hid (Below w.heap.size w w5) := by
            show Below _ _ _
            exact HBB2.out.grown hg5 HBB2.out.size (fun q e => by simp only [Option.some.injEq] at e; rw [← e]; exact hbw)
          have HO5 : Hid (OG (Value.int .i64) w.heap.size 3 w5 (.slice (some ⟨gk, 0, none⟩) m wc) K1) := HOB.out.of_blocks fun q hq => hg5.block q (HOB.out.lt q hq).2 (fun e => by
            simp only [Option.some.injEq] at e
            obtain ⟨cs, hcs9⟩ := HOB.out.blockE hq
            exact HMB.out.ne hcs9 e.symm)
          have hqc5 := HQC.out w5 HB5.out
          have hqr5 := hqr.out w5 HB5.out
          have hb1 : K1.length + (C.getD u []).length ≤ maxLen := by rw [HKM.out]; unfold maxLen; omega
          have hb2 : (K1.length + (C.getD u []).length) * 8 ≤ 140737488355328 := by rw [HKM.out]; omega
          have HQ5 : Hid (RG (Value.int .i64) w5 (.slice qo qn qc) (C.getD u [])) := hqr5
          have HB1' : Hid (K1.length + (C.getD u []).length ≤ maxLen) := hb1
          have HB2' : Hid ((K1.length + (C.getD u []).length) * 8 ≤ 140737488355328) := hb2
          clear hM5 hg5 HI HM HB HO1 HBX HWB hcx HOB HMB HBB2 hqr5 hb1 hb2
          go_wp2_with (at_builtin; refine wpList_appG _ (fun _ => rfl) rfl _ _ 23 rfl w.heap.size 3 i0 (.int .i64 0) 8 Tryz.underlying23 hi hz0 hz1 hz2 rfl _ _ K1 (C.getD u []) rfl HO5.out rfl HQ5.out HB1'.out HB2'.out HB5.out.size ?_)
          intro v7 w7 ho7 hg7
          have HB7 : Hid (Below w.heap.size w w7) := by
            show Below _ _ _
            exact HB5.out.trans ⟨hg7.os, hg7.tape, hg7.output, hg7.size, fun q hq => hg7.block q (Nat.lt_of_lt_of_le hq HB5.out.size) (fun e => by have := (HO5.out.lt q e.symm).1; omega)⟩
          have HM7 : Hid (MpU w7 b (Z ++ [(u : Int)]).length (Z ++ [(u : Int)])) := HM5.out.of_block (hg7.block _ HM5.out.lt (fun e => by
            obtain ⟨cs, hcs9⟩ := HO5.out.blockE e.symm
            exact HM5.out.ne hcs9 rfl))
          have HO7 : Hid (OG (Value.int .i64) w.heap.size 3 w7 v7 (K1 ++ C.getD u [])) := ho7
          obtain ⟨vo, vn, vc, rfl⟩ : ∃ o n c, v7 = .slice o n c := by obtain ⟨ao, cap, e⟩ := HO7.out.rg.sl; exact ⟨_, _, _, e⟩
          clear ho7 hg7 HM5 HB5 HO5 HQ5 hqc5 HB1' HB2'
          go_wp2
          go_roundg ((sn - (Z.length + 1)) * 100002 + (m + (C.getD u []).length))
          case measure => omega
          case rel => exact ⟨Z ++ [(u : Int)], K1 ++ C.getD u [], _, _, _, rfl, by rw [List.length_append, List.length_singleton]; omega, by rw [List.length_append, List.length_singleton, List.length_append, HKM.out]; exact Nat.le_refl _, HI2, HO7, HM7, HB7⟩
  · have HNO : Hid (noPts (sn : Int) pts = true) := hno
    clear hno
    go_wp2
    go_ret2
    exact ⟨Or.inl ⟨HNO.out, rfl⟩, HB1.out⟩
end Go.Proofs.YthdpomgpcblpeaaGreat

namespace Go.Proofs.YthdpomgpcblpeaaGreat
set_option linter.unusedVariables false
open Go.RowKit
/-- One more of a list: the least from which so many steps are left. -/
def lsS (M : Int → Option Int) (left : Int) (a x : Int) : Int := if M x = some left ∧ (a < 0 ∨ x < a) then x else a
def lsF (M : Int → Option Int) (left : Int) (L : List Int) : Int := L.foldl (lsS M left) (-1)
theorem lsF_step {M : Int → Option Int} {left x : Int} {L : List Int} {k : Nat} (h : L[k]? = some x) : lsF M left (L.take (k + 1)) = lsS M left (lsF M left (L.take k)) x := by
  unfold lsF
  rw [List.take_add_one, h, List.foldl_append]; rfl
theorem lsF_wf {M : Int → Option Int} {left : Int} {L : List Int} (h : ∀ x ∈ L, ∃ p : Nat, x = (p : Int) ∧ p < 100000) : -1 ≤ lsF M left L ∧ lsF M left L < 100000 := by
  have : ∀ (L : List Int) (a : Int), (-1 ≤ a ∧ a < 100000) → (∀ x ∈ L, ∃ p : Nat, x = (p : Int) ∧ p < 100000) → -1 ≤ L.foldl (lsS M left) a ∧ L.foldl (lsS M left) a < 100000 := by
    intro L
    induction L with
    | nil => intro a ha _; exact ha
    | cons x L ih =>
      intro a ha h
      refine ih _ ?_ (fun y hy => h y (List.mem_cons_of_mem _ hy))
      unfold lsS
      split
      · obtain ⟨p, rfl, hp⟩ := h x (by simp); omega
      · exact ha
  exact this L (-1) (by omega) h
end Go.Proofs.YthdpomgpcblpeaaGreat

namespace Go.Proofs.YthdpomgpcblpeaaGreat
set_option linter.unusedVariables false
open Go.RowKit
theorem tk_end2 {P : List (List Int)} {T : List Int} {pt : Nat} {ch : List Int} (hch : ∀ i : Nat, i < P.length → ((i : Int) ∈ ch ↔ (pt : Int) ∈ P.getD i [])) {i : Nat} (hi : i < P.length) : TkR P T pt ch i ↔ rdy P (T ++ [(pt : Int)]) i := by
  constructor
  · rintro (⟨h, hne⟩ | ⟨_, h⟩)
    · refine ⟨fun hm => ?_, fun p hp => List.mem_append_left _ (h.2 p hp)⟩
      rcases List.mem_append.1 hm with e | e
      · exact h.1 e
      · rw [List.mem_singleton] at e; omega
    · exact h
  · intro h
    by_cases hm : (pt : Int) ∈ P.getD i []
    · exact Or.inr ⟨(hch i hi).2 hm, h⟩
    · refine Or.inl ⟨⟨fun e => h.1 (List.mem_append_left _ e), fun p hp => ?_⟩, fun e => h.1 (by subst e; simp)⟩
      rcases List.mem_append.1 (h.2 p hp) with e | e
      · exact e
      · rw [List.mem_singleton] at e; subst e; exact absurd hp hm
set_option maxRecDepth 100000 in
set_option maxHeartbeats 12800000 in
theorem takeG (B : Nat) (S : Nat → Prop) (w : World) (rb : Nat) (a v : Value) (g go gw n : Nat) (cvs : List Value) (P : List (List Int)) (Ob : List Bool) (Wt L T : List Int) (pt : Nat)
    (h : RtC B S w rb a v g go gw n cvs (fun j => chF P j n) Ob Wt L) (hB : B ≤ w.heap.size) (hn : P.length = n) (hb : n ≤ 100000) (hbl : ∀ i, (P.getD i []).length ≤ 100000) (hnd : ∀ i, (P.getD i []).Nodup) (hpt : pt < n) (hr : (pt : Int) ∉ T)
    (hO : ObR n T Ob) (hW : WtR P T [] Wt) (hL : LnOk n L (fun i => rdy P T i ∧ i ≠ pt)) :
    Calls Tryz.prog 85 #[.pointer (some ⟨rb, 0, none⟩), .int .i64 (pt : Int)] w fun e w' => e = .returned (.tuple #[]) ∧ ∃ v' Ob' Wt' L', RtC B S w' rb a v' g go gw n cvs (fun j => chF P j n) Ob' Wt' L' ∧ ObR n (T ++ [(pt : Int)]) Ob' ∧ WtR P (T ++ [(pt : Int)]) [] Wt' ∧ LnOk n L' (rdy P (T ++ [(pt : Int)])) ∧ FrP (RtS rb go gw v) w w' ∧ (∀ q, v'.ownBlock = some q → v.ownBlock = some q ∨ w.heap.size ≤ q) := by
  obtain ⟨ch, hch⟩ : ∃ ch, ch = chF P pt n := ⟨_, rfl⟩
  have hcm : ∀ x, x ∈ ch ↔ ∃ i : Nat, i < n ∧ x = (i : Int) ∧ (pt : Int) ∈ P.getD i [] := fun x => by rw [hch]; exact chF_mem
  have hcn : ch.Nodup := by rw [hch]; exact chF_nodup _ _ _
  have hcm2 : ∀ i : Nat, i < P.length → ((i : Int) ∈ ch ↔ (pt : Int) ∈ P.getD i []) := fun i hi => by
    rw [hcm]
    exact ⟨fun ⟨j, h1, h2, h3⟩ => by have : i = j := by omega
                                     subst this; exact h3, fun h => ⟨i, by omega, rfl, h⟩⟩
  have hcl := h.row.len
  obtain ⟨u, hu⟩ : ∃ u, cvs[pt]? = some u := ⟨_, List.getElem?_eq_getElem (by omega)⟩
  have hur : RG (Value.int .i64) w u ch := by have := h.inn pt u hu; rw [← hch] at this; exact this
  obtain ⟨uo, un, uc, rfl⟩ : ∃ o n c, u = .slice o n c := by obtain ⟨ao, cap, e⟩ := hur.sl; exact ⟨_, _, _, e⟩
  have hul : ch.length = un := hur.len
  have hun : un ≤ n := by rw [← hul, hch]; exact chF_len _ _ _
  have HUR : Hid (∀ (W : World) (v' : Value) (Ob' : List Bool) (Wt' L' : List Int), RtC B S W rb a v' g go gw n cvs (fun j => chF P j n) Ob' Wt' L' → RG (Value.int .i64) W (.slice uo un uc) ch ∧ RG id W (.slice (some ⟨g, 0, none⟩) n n) cvs) := fun W v' Ob' Wt' L' hW => ⟨by have := hW.inn pt _ hu; rw [← hch] at this; exact this, hW.row⟩
  obtain ⟨d1, d2, d3, d4⟩ := h.ln.box.cells
  have hol : Ob.length = n := h.out.rg.len
  obtain ⟨hob, hof⟩ := h.out.cell (hO pt hpt)
  have hptz : (pt : Int) < (n : Int) := by omega
  have HS := h.setO pt true
  obtain ⟨W1, hW1⟩ : ∃ W, W = w.setCell ⟨go, pt, none⟩ (.bool true) := ⟨_, rfl⟩
  rw [← hW1] at HS
  have H1 : Hid (RtC B S W1 rb a v g go gw n cvs (fun j => chF P j n) (Ob.set pt true) Wt L) := HS.1
  have HO : Hid (ObR n (T ++ [(pt : Int)]) (Ob.set pt true)) := hO.snoc hpt hol
  have HF : Hid (FrP (RtS rb go gw v) w W1) := HS.2.mono (fun q _ e => Or.inr (Or.inl e))
  have HW : Hid (WtR P T (ch.take 0) Wt) := hW
  have HL : Hid (LnOk n L (TkR P T pt (ch.take 0))) := hL.congr fun i _ => tk_start
  have HV0 : Hid (∀ q, v.ownBlock = some q → v.ownBlock = some q ∨ w.heap.size ≤ q) := fun q hq => Or.inl hq
  have HW1 : Hid (W1 = w.setCell ⟨go, pt, none⟩ (.bool true)) := hW1
  have HCM : Hid (∀ x, x ∈ ch ↔ ∃ i : Nat, i < n ∧ x = (i : Int) ∧ (pt : Int) ∈ P.getD i []) := hcm
  have HCN : Hid ch.Nodup := hcn
  have HC2 : Hid (∀ i : Nat, i < P.length → ((i : Int) ∈ ch ↔ (pt : Int) ∈ P.getD i [])) := hcm2
  have HN : Hid (P.length = n) := hn
  have HND : Hid (∀ i, (P.getD i []).Nodup) := hnd
  have HBL : Hid (∀ i, (P.getD i []).length ≤ 100000) := hbl
  have HRD : Hid ((pt : Int) ∉ T) := hr
  have HUL : Hid (ch.length = un) := hul
  have HU : Hid (cvs[pt]? = some (.slice uo un uc)) := hu
  have HH : Hid (∀ q, RtS rb go gw v q → B ≤ q) := fun q hq => by
    have := h.frw
    rcases hq with e | e | e | e
    · rw [e]; exact h.hB
    · rw [e]; exact this.1
    · rw [e]; exact this.2.1
    · exact this.2.2 q e
  have e1 := entLnPush
  clear hch hcm hcn hcm2 hcl hu hur hul HS hW1 hn hnd hbl hr hO hW hL h hol
  go_enter Tryz.func85, Tryz.ntmps85
  go_upto_region 1 with fail
  rw [← HW1.out]
  clear HW1 d1 d2 d3 d4 hob hof
  obtain ⟨d1, d2, d3, d4⟩ := H1.out.ln.box.cells
  obtain ⟨x, gp, op, hx1, hx3, hx2⟩ := (HUR.out _ _ _ _ _ H1.out).2.at hpt
  simp only [Option.some.injEq, Addr.mk.injEq, and_true] at hx3
  obtain ⟨rfl, rfl⟩ := hx3
  rw [HU.out] at hx1
  simp only [Option.some.injEq] at hx1
  subst hx1
  rw [Nat.zero_add] at hx2
  change W1.cell? ⟨g, pt, none⟩ = some (.slice uo un uc) at hx2
  go_wp2
  clear hx2 d1 d2 d3 d4
  go_loopg [5, 20] un (fun g1 _v5 v20 wr => ∃ (k : Nat) (v' : Value) (Wt' L' : List Int), v20 = .int .i64 k ∧ k ≤ un ∧ un - k ≤ g1 ∧ Hid (RtC B S wr rb a v' g go gw n cvs (fun j => chF P j n) (Ob.set pt true) Wt' L') ∧ Hid (WtR P T (ch.take k) Wt') ∧ Hid (LnOk n L' (TkR P T pt (ch.take k))) ∧ Hid (FrP (RtS rb go gw v) w wr) ∧ Hid (∀ q, v'.ownBlock = some q → v.ownBlock = some q ∨ w.heap.size ≤ q))
  case atStart => exact ⟨0, v, Wt, L, rfl, by omega, by omega, H1, HW, HL, HF, HV0⟩
  case round =>
    clear H1 HW HL HF HV0
    obtain ⟨k, v', Wt', L', rfl, hku, hg1, H1, HW, HL, HF, HV⟩ := hrel
    by_cases hlk : k < un
    · have hlkz : (k : Int) < (un : Int) := by omega
      obtain ⟨y, gx, ox, hy1, rfl, hy2⟩ := (HUR.out _ _ _ _ _ H1.out).1.at hlk
      obtain ⟨c, hcn, rfl, hpc⟩ := (HCM.out y).1 (List.mem_of_getElem? hy1)
      have hcz : (c : Int) < (n : Int) := by omega
      have htk : ch.take (k + 1) = ch.take k ++ [(c : Int)] := by rw [List.take_add_one, hy1]; rfl
      have hnk : (c : Int) ∉ ch.take k := by
        intro hm
        have h2 : (ch.take (k + 1)).Nodup := HCN.out.sublist (List.take_sublist _ _)
        rw [htk, List.nodup_append] at h2
        exact h2.2.2 _ hm _ (by simp) rfl
      have hst := HW.out.step (by rw [HN.out]; exact hcn) hnk
      have hcs := cnt_step (P := P) (T := T) (pt := pt) (i := c) (HND.out c) HRD.out
      rw [if_pos hpc] at hcs
      obtain ⟨c1, hc1⟩ : ∃ c1, c1 = cntW P (T ++ [(pt : Int)]) c := ⟨_, rfl⟩
      have hcb : cntW P T c ≤ 100000 := Nat.le_trans cnt_le (HBL.out c)
      rw [← hc1] at hcs
      rw [← hcs] at hst hcb
      have er : ((c1 + 1 : Nat) : Int) - 1 = (c1 : Int) := by omega
      rw [er] at hst
      have hwl := H1.out.wts.rg.len
      have hwc : Wt'[c]? = some ((c1 + 1 : Nat) : Int) := by rw [← hst.1]; exact getD_some (by omega)
      obtain ⟨hw1, hw2⟩ := H1.out.wts.cell hwc
      obtain ⟨d1, d2, d3, d4⟩ := H1.out.ln.box.cells
      have HS := H1.out.setW c (c1 : Int)
      obtain ⟨W2, hW2⟩ : ∃ W, W = wr.setCell ⟨gw, c, none⟩ (.int .i64 (c1 : Int)) := ⟨_, rfl⟩
      rw [← hW2] at HS
      have H2 : Hid (RtC B S W2 rb a v' g go gw n cvs (fun j => chF P j n) (Ob.set pt true) (Wt'.set c (c1 : Int)) L') := HS.1
      have HF2 : Hid (FrP (RtS rb go gw v) w W2) := HF.out.tr HS.2 (fun q _ e => Or.inr (Or.inr (Or.inl e)))
      have HWN : Hid (WtR P T (ch.take (k + 1)) (Wt'.set c (c1 : Int))) := by rw [htk]; exact hst.2
      have HW2 : Hid (W2 = wr.setCell ⟨gw, c, none⟩ (.int .i64 (c1 : Int))) := hW2
      have HTK : Hid (ch.take (k + 1) = ch.take k ++ [(c : Int)]) := htk
      have HNK : Hid ((c : Int) ∉ ch.take k) := hnk
      have HPC : Hid ((pt : Int) ∈ P.getD c []) := hpc
      have HC1 : Hid (rdy P (T ++ [(pt : Int)]) c ↔ (c1 = 0 ∧ (c : Int) ∉ T ++ [(pt : Int)])) := by
        have := rdy_zero (HND.out c) hpc HRD.out
        rw [← hcs, er] at this
        refine this.trans ⟨fun h => ⟨by have := h.1; omega, h.2⟩, fun h => ⟨by have := h.1; omega, h.2⟩⟩
      have hw3 : (Wt'.set c (c1 : Int))[c]? = some (c1 : Int) := by rw [List.getElem?_set, if_pos rfl, if_pos (by omega)]
      have HW3 : Hid ((Wt'.set c (c1 : Int))[c]? = some (c1 : Int)) := hw3
      clear HS hW2 hst hcs hc1 htk hnk hpc hwc hw3 hy1 hwl H1 HW HF
      go_upto_region 5 with fail
      rw [← HW2.out]
      clear HW2 hw1 hw2 hy2 d1 d2 d3 d4
      obtain ⟨hw1, hw2⟩ := H2.out.wts.cell HW3.out
      obtain ⟨d1, d2, d3, d4⟩ := H2.out.ln.box.cells
      obtain ⟨ho1, ho2⟩ := H2.out.out.cell (HO.out c hcn)
      by_cases hc0 : c1 = 0
      · subst hc0
        by_cases hct : (c : Int) ∈ T ++ [(pt : Int)]
        · rw [decide_eq_true hct] at ho1
          have HNR : Hid (¬ rdy P (T ++ [(pt : Int)]) c) := fun h => (HC1.out.1 h).2 hct
          have HLN : Hid (LnOk n L' (TkR P T pt (ch.take (k + 1)))) := HL.out.congr fun i _ => by rw [HTK.out]; exact tk_no HNR.out
          clear hct HC1 HNR HL
          go_wp2
          clear hw1 hw2 d1 d2 d3 d4 ho1 ho2
          go_roundg (un - (k + 1))
          case measure => omega
          case rel => exact ⟨k + 1, _, _, _, by first | rfl | go_num, by omega, Nat.le_refl _, H2, HWN, HLN, HF2, HV⟩
        · rw [decide_eq_false hct] at ho1
          have HYR : Hid (rdy P (T ++ [(pt : Int)]) c) := HC1.out.2 ⟨rfl, hct⟩
          have HNT : Hid (¬ TkR P T pt (ch.take k) c) := tk_new HPC.out HRD.out HNK.out
          have hll := HL.out.len
          have HLN : Hid (LnOk n (upL (L' ++ [(c : Int)]) L'.length) (TkR P T pt (ch.take (k + 1)))) := (HL.out.push hcn HNT.out).congr fun i _ => by rw [HTK.out]; exact tk_yes HYR.out
          have CP : Hid _ := heapPush B rb a _ _ _ v' L' (c : Int) W2 H2.out.ln (Nat.le_trans hB HF2.out.size) (by omega)
          clear hct HC1 HYR HNT HL hll
          go_wp2_with fail
          refine Calls.mono CP.out ?_
          rintro e z ⟨rfl, ng, cap, hz1, hz2, hz3⟩
          have HV1 : ∀ q, (Value.slice (some ⟨ng, 0, none⟩) (L'.length + 1) cap).ownBlock = some q → v'.ownBlock = some q ∨ W2.heap.size ≤ q := fun q hq => by
            have e1 : ng = q := by simpa [Value.ownBlock] using hq
            subst e1; exact hz2
          have H3 : Hid (RtC B S z rb a (.slice (some ⟨ng, 0, none⟩) (L'.length + 1) cap) g go gw n cvs (fun j => chF P j n) (Ob.set pt true) (Wt'.set c ((0 : Nat) : Int)) (upL (L' ++ [(c : Int)]) L'.length)) := H2.out.line hz1 HV1 hz3
          have HV2 : Hid (∀ q, (Value.slice (some ⟨ng, 0, none⟩) (L'.length + 1) cap).ownBlock = some q → v.ownBlock = some q ∨ w.heap.size ≤ q) := fun q hq => by
            rcases HV1 q hq with e | e
            · exact HV.out q e
            · exact Or.inr (Nat.le_trans HF2.out.size e)
          have HF3 : Hid (FrP (RtS rb go gw v) w z) := HF2.out.tr hz3 (fun q hq e => by
            rcases e with e | e
            · exact Or.inl e
            · rcases HV.out q e with e2 | e2
              · exact Or.inr (Or.inr (Or.inr e2))
              · omega)
          clear CP hz1 hz2 hz3 HV1 H2 HF2 HV hw1 hw2 d1 d2 d3 d4 ho1 ho2
          go_wp2
          go_roundg (un - (k + 1))
          case measure => omega
          case rel => exact ⟨k + 1, _, _, _, by first | rfl | go_num, by omega, Nat.le_refl _, H3, HWN, HLN, HF3, HV2⟩
      · have hc0z : ((c1 : Int) == 0) = false := by simp; omega
        have HNR : Hid (¬ rdy P (T ++ [(pt : Int)]) c) := fun h => hc0 (HC1.out.1 h).1
        have HLN : Hid (LnOk n L' (TkR P T pt (ch.take (k + 1)))) := HL.out.congr fun i _ => by rw [HTK.out]; exact tk_no HNR.out
        clear HC1 HNR HL hc0
        go_wp2
        clear hw1 hw2 d1 d2 d3 d4 ho1 ho2
        go_roundg (un - (k + 1))
        case measure => omega
        case rel => exact ⟨k + 1, _, _, _, by first | rfl | go_num, by omega, Nat.le_refl _, H2, HWN, HLN, HF2, HV⟩
    · have hlkz : ¬ (k : Int) < (un : Int) := by omega
      have htk : ch.take k = ch := List.take_of_length_le (by rw [HUL.out]; omega)
      have HR : Hid (WtR P (T ++ [(pt : Int)]) [] Wt' ∧ LnOk n L' (rdy P (T ++ [(pt : Int)]))) := by
        have h1 := HW.out
        have h2 := HL.out
        rw [htk] at h1 h2
        exact ⟨h1.done HC2.out HND.out HRD.out, h2.congr fun i hi => tk_end2 HC2.out (by rw [HN.out]; exact hi)⟩
      clear htk HW HL
      go_wp2
      go_end0
      exact ⟨rfl, v', _, Wt', L', H1.out, HO.out, HR.out.1, HR.out.2, HF.out, HV.out⟩
end Go.Proofs.YthdpomgpcblpeaaGreat

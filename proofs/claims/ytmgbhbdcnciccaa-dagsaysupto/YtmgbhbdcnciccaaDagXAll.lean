/-
  Proved here: package dag's Children.
  Proved here: package dag's Above and Below.
  Proved here: the law's many, long; the document's Same.
-/
import Derived.Test.YtmgbhbdcnciccaaDagRAll
import Derived.Test.YtmgbhbdcnciccaaDagCyAAll
import Derived.Test.YtmgbhbdcnciccaaDagOAll
import Derived.Test.YtmgbhbdcnciccaaDagTAll
namespace Go.Proofs.Ytmgbhbdcnciccaa
set_option linter.unusedVariables false
open Go.RowKit
/-- What Children answers: of parents that may be, the children of each point; else none. -/
def ChE (w : World) (P : List (List Int)) (n : Nat) (v : Value) (w' : World) : Prop := (ckE P = 0 ∧ ∃ W g cvs, Below w.heap.size w W ∧ v = .slice (some ⟨g, 0, none⟩) n n ∧ TuC W.heap.size W w' g n cvs (fun j => chF P j n)) ∨ (ckE P ≠ 0 ∧ v = .slice none 0 0)
theorem ck_zero {P : List (List Int)} (h : ckE P = 0) : clE P = 0 := by
  unfold ckE at h
  by_cases e : clE P = 0
  · exact e
  · rw [if_neg e] at h; exact h
set_option maxRecDepth 100000 in
set_option maxHeartbeats 3200000 in
theorem childrenD (pv : Value) (pvs : List Value) (P : List (List Int)) (w : World) (h : RRD w pv pvs P) (n : Nat) (hn : P.length = n) (hb : n ≤ 100000) (hbl : ∀ i, (P.getD i []).length ≤ 100000) :
    Calls Try.prog 23 #[pv] w fun e w' => ∃ v, e = .returned (.tuple #[v, .int .i64 (ckE P)]) ∧ ChE w P n v w' ∧ Below w.heap.size w w' := by
  have CC : Hid _ := checkD pv pvs P w h n hn hb hbl
  obtain ⟨po, pn, pc, rfl⟩ : ∃ o n c, pv = .slice o n c := by obtain ⟨ao, cap, e⟩ := h.out.sl; exact ⟨_, _, _, e⟩
  obtain rfl : pn = n := by rw [← hn, ← h.len, h.out.len]
  have HR : Hid (RRD w (.slice po pn pc) pvs P) := h
  have HN : Hid (P.length = pn) := hn
  clear h hn hbl
  go_enter Try.func23, Try.ntmps23
  go_wp2_with fail
  refine Calls.mono CC.out ?_
  rintro e y ⟨rfl, hy⟩
  have HB : Hid (Below w.heap.size w y) := hy
  clear CC hy
  obtain ⟨c, hc⟩ : ∃ c, c = ckE P := ⟨_, rfl⟩
  have HC : Hid (c = ckE P) := hc
  rw [← hc]
  clear hc
  by_cases h0 : c = 0
  · subst h0
    have hz := cl_zero (ck_zero HC.out.symm)
    have CT : Hid _ := turnedD _ pvs P y (HR.out.below (Nat.le_refl _) HB.out) (outs_no hz.1) (twices_no hz.2) pn HN.out hb
    clear hz
    go_wp2_with fail
    refine Calls.mono CT.out ?_
    rintro e z ⟨g, cvs, rfl, hz⟩
    have HE : Hid (ChE w P pn (.slice (some ⟨g, 0, none⟩) pn pn) z) := Or.inl ⟨HC.out.symm, y, g, cvs, HB.out, rfl, hz⟩
    have HB2 : Hid (Below w.heap.size w z) := bstepB HB.out hz.frm
    clear CT hz HB
    go_wp2
    go_ret2
    exact ⟨_, by rw [← HC.out]; rfl, HE.out, HB2.out⟩
  · have hcz : (c != (0 : Int)) = true := by simpa using h0
    have HE : Hid (ChE w P pn (.slice none 0 0) y) := Or.inr ⟨by rw [← HC.out]; exact h0, rfl⟩
    clear h0
    go_wp2
    go_ret2
    exact ⟨_, by rw [← HC.out]; rfl, HE.out, HB.out⟩
end Go.Proofs.Ytmgbhbdcnciccaa

namespace Go.Proofs.Ytmgbhbdcnciccaa
set_option linter.unusedVariables false
open Go.RowKit
/-- What Above and Below answer: steps C. -/
def AbE (B : Nat) (P C : List (List Int)) (n : Nat) (pts : List Int) (w' : World) (e : Ending) : Prop :=
  (ckE P ≠ 0 ∧ e = .returned (.tuple #[.slice none 0 0, .int .i64 (ckE P)])) ∨ (ckE P = 0 ∧ ReE B C n pts w' e)
theorem ReE.mono {B B' : Nat} {C : List (List Int)} {n : Nat} {pts : List Int} {w' : World} {e : Ending} (h : ReE B C n pts w' e) (hB : B' ≤ B) : ReE B' C n pts w' e := by
  rcases h with h | ⟨h0, tv, R, h1, h2, h3, h4⟩
  · exact Or.inl h
  · exact Or.inr ⟨h0, tv, R, h1, h2.mono hB, h3, h4⟩
/-- It is a pair. -/
theorem ReE.pair {B : Nat} {C : List (List Int)} {n : Nat} {pts : List Int} {w' : World} {e : Ending} (h : ReE B C n pts w' e) : ∃ o nn cc c, e = .returned (.tuple #[.slice o nn cc, .int .i64 c]) := by
  rcases h with ⟨_, h⟩ | ⟨h0, tv, R, h1, h2, h3, h4⟩
  · exact ⟨_, _, _, _, h⟩
  · obtain ⟨ao, cap, e1⟩ := h2.rg.sl
    exact ⟨ao, R.length, cap, 0, by rw [h1, e1]⟩
set_option maxRecDepth 100000 in
set_option maxHeartbeats 3200000 in
theorem aboveD (pv qv : Value) (pvs : List Value) (P : List (List Int)) (pts : List Int) (w : World) (h : RRD w pv pvs P) (n : Nat) (hn : P.length = n) (hb : n ≤ 100000) (hbl : ∀ i, (P.getD i []).length ≤ 100000) (hq : RG (Value.int .i64) w qv pts) (hql : pts.length ≤ 1100000) :
    Calls Try.prog 24 #[pv, qv] w fun e w' => AbE w.heap.size P P n pts w' e ∧ Below w.heap.size w w' := by
  have CC : Hid _ := checkD pv pvs P w h n hn hb hbl
  obtain ⟨po, pn, pc, rfl⟩ : ∃ o n c, pv = .slice o n c := by obtain ⟨ao, cap, e⟩ := h.out.sl; exact ⟨_, _, _, e⟩
  obtain ⟨qo, qn, qc, rfl⟩ : ∃ o n c, qv = .slice o n c := by obtain ⟨ao, cap, e⟩ := hq.sl; exact ⟨_, _, _, e⟩
  have HR : Hid (∀ W, Below w.heap.size w W → RRD W (.slice po pn pc) pvs P) := fun W hW => h.below (Nat.le_refl _) hW
  have HQ : Hid (∀ W, Below w.heap.size w W → RG (Value.int .i64) W (.slice qo qn qc) pts) := fun W hW => hq.below (Nat.le_refl _) hW
  have HN : Hid (P.length = n) := hn
  have HBL : Hid (∀ i, (P.getD i []).length ≤ 100000) := hbl
  clear h hn hbl hq
  go_enter Try.func24, Try.ntmps24
  go_wp2_with fail
  refine Calls.mono CC.out ?_
  rintro e y ⟨rfl, hy⟩
  have HB : Hid (Below w.heap.size w y) := hy
  clear CC hy
  obtain ⟨c, hc⟩ : ∃ c, c = ckE P := ⟨_, rfl⟩
  have HC : Hid (c = ckE P) := hc
  rw [← hc]
  clear hc
  by_cases h0 : c = 0
  · subst h0
    have hz := cl_zero (ck_zero HC.out.symm)
    have CT : Hid _ := reachedD _ _ pvs P pts y (HR.out y HB.out) n HN.out hb HBL.out (outs_no hz.1) (HQ.out y HB.out) hql
    clear hz
    go_wp2_with fail
    refine Calls.mono CT.out ?_
    rintro e z ⟨hz1, hz2⟩
    obtain ⟨ro, rn, rc, rk, rfl⟩ := hz1.pair
    have HE : Hid (AbE w.heap.size P P n pts z (.returned (.tuple #[.slice ro rn rc, .int .i64 rk]))) := Or.inr ⟨HC.out.symm, hz1.mono HB.out.size⟩
    have HB2 : Hid (Below w.heap.size w z) := HB.out.trans (hz2.mono HB.out.size)
    clear CT hz1 hz2 HB
    go_wp2
    go_ret2
    exact ⟨HE.out, HB2.out⟩
  · have hcz : (c != (0 : Int)) = true := by simpa using h0
    have HE : Hid (AbE w.heap.size P P n pts y (.returned (.tuple #[.slice none 0 0, .int .i64 c]))) := Or.inl ⟨by rw [← HC.out]; exact h0, by rw [← HC.out]⟩
    clear h0
    go_wp2
    go_ret2
    exact ⟨HE.out, HB.out⟩
/-- The children of each point, as rows. -/
def chL (P : List (List Int)) (n : Nat) : List (List Int) := (List.range n).map (fun j => chF P j n)
theorem chL_get {P : List (List Int)} {n j : Nat} (h : j < n) : (chL P n).getD j [] = chF P j n := by
  unfold chL
  rw [List.getD_eq_getElem?_getD, List.getElem?_map, List.getElem?_range h]; rfl
theorem chL_len (P : List (List Int)) (n : Nat) : (chL P n).length = n := by simp [chL]
theorem chL_bound (P : List (List Int)) (n i : Nat) : ((chL P n).getD i []).length ≤ n := by
  by_cases h : i < n
  · rw [chL_get h]; exact chF_len _ _ _
  · rw [List.getD_eq_getElem?_getD, List.getElem?_eq_none (by rw [chL_len]; omega)]; simp
theorem chL_wf (P : List (List Int)) (n : Nat) : WfP (chL P n) := fun i x hx => by
  rw [chL_len]
  by_cases h : i < n
  · rw [chL_get h] at hx
    obtain ⟨p, h1, h2, _⟩ := chF_mem.1 hx
    exact ⟨p, h2, h1⟩
  · rw [List.getD_eq_getElem?_getD, List.getElem?_eq_none (by rw [chL_len]; omega)] at hx
    simp at hx
theorem TuC.rrd {B : Nat} {w W : World} {g n : Nat} {cvs : List Value} {P : List (List Int)} (h : TuC B w W g n cvs (fun j => chF P j n)) : RRD W (.slice (some ⟨g, 0, none⟩) n n) cvs (chL P n) := by
  refine ⟨h.row.rg, by rw [h.len, chL_len], fun i x hx => ?_⟩
  have hi : i < n := by have := (List.getElem?_eq_some_iff.1 hx).1; rw [h.len] at this; exact this
  rw [chL_get hi]
  exact (h.inn i x hx).rg
set_option maxRecDepth 100000 in
set_option maxHeartbeats 3200000 in
theorem belowD (pv qv : Value) (pvs : List Value) (P : List (List Int)) (pts : List Int) (w : World) (h : RRD w pv pvs P) (n : Nat) (hn : P.length = n) (hb : n ≤ 100000) (hbl : ∀ i, (P.getD i []).length ≤ 100000) (hq : RG (Value.int .i64) w qv pts) (hql : pts.length ≤ 1100000) :
    Calls Try.prog 25 #[pv, qv] w fun e w' => AbE w.heap.size P (chL P n) n pts w' e ∧ Below w.heap.size w w' := by
  have CC : Hid _ := childrenD pv pvs P w h n hn hb hbl
  obtain ⟨po, pn, pc, rfl⟩ : ∃ o n c, pv = .slice o n c := by obtain ⟨ao, cap, e⟩ := h.out.sl; exact ⟨_, _, _, e⟩
  obtain ⟨qo, qn, qc, rfl⟩ : ∃ o n c, qv = .slice o n c := by obtain ⟨ao, cap, e⟩ := hq.sl; exact ⟨_, _, _, e⟩
  have HQ : Hid (∀ W, Below w.heap.size w W → RG (Value.int .i64) W (.slice qo qn qc) pts) := fun W hW => hq.below (Nat.le_refl _) hW
  clear h hn hbl hq
  go_enter Try.func25, Try.ntmps25
  go_wp2_with fail
  refine Calls.mono CC.out ?_
  clear CC
  rintro e y ⟨v, rfl, hE, hy⟩
  have HB : Hid (Below w.heap.size w y) := hy
  clear hy
  obtain ⟨c, hc⟩ : ∃ c, c = ckE P := ⟨_, rfl⟩
  have HC : Hid (c = ckE P) := hc
  rw [← hc]
  rcases hE with ⟨h0, W, g, cvs, hW, rfl, hT⟩ | ⟨h0, rfl⟩
  · have hcz : c = 0 := by rw [hc]; exact h0
    subst hcz
    have CT : Hid _ := reachedD (.slice (some ⟨g, 0, none⟩) n n) _ cvs (chL P n) pts y hT.rrd n (chL_len _ _) hb (fun i => Nat.le_trans (chL_bound P n i) hb) (chL_wf P n) (HQ.out y HB.out) hql
    clear hc h0 hW hT
    go_wp2_with fail
    refine Calls.mono CT.out ?_
    rintro e z ⟨hz1, hz2⟩
    obtain ⟨ro, rn, rc, rk, rfl⟩ := hz1.pair
    have HE : Hid (AbE w.heap.size P (chL P n) n pts z (.returned (.tuple #[.slice ro rn rc, .int .i64 rk]))) := Or.inr ⟨HC.out.symm, hz1.mono HB.out.size⟩
    have HB2 : Hid (Below w.heap.size w z) := HB.out.trans (hz2.mono HB.out.size)
    clear CT hz1 hz2 HB
    go_wp2
    go_ret2
    exact ⟨HE.out, HB2.out⟩
  · have hcz : (c != (0 : Int)) = true := by rw [hc]; simpa using h0
    have HE : Hid (AbE w.heap.size P (chL P n) n pts y (.returned (.tuple #[.slice none 0 0, .int .i64 c]))) := Or.inl ⟨h0, by rw [← HC.out]⟩
    clear hc h0
    go_wp2
    go_ret2
    exact ⟨HE.out, HB.out⟩
end Go.Proofs.Ytmgbhbdcnciccaa

namespace Go.Proofs.Ytmgbhbdcnciccaa
set_option linter.unusedVariables false
open Go.RowKit
/-- How many parents the first points have. -/
def smL (P : List (List Int)) : Nat → Nat
  | 0 => 0
  | i + 1 => smL P i + (P.getD i []).length
theorem smL_le {P : List (List Int)} (h : ∀ i, (P.getD i []).length ≤ 1048576) (i : Nat) : smL P i ≤ i * 1048576 := by
  induction i with
  | zero => simp [smL]
  | succ i ih => simp only [smL]; have := h i; omega
theorem smL_mono {P : List (List Int)} {i j : Nat} (h : i ≤ j) : smL P i ≤ smL P j := by
  induction j with
  | zero => rw [Nat.le_zero.1 h]; exact Nat.le_refl _
  | succ j ih =>
    by_cases e : i = j + 1
    · rw [e]; exact Nat.le_refl _
    · have := ih (by omega); simp only [smL]; omega
/-- What many answers. -/
def manyB (P : List (List Int)) : Bool := decide (200 < P.length) || decide (2000 < smL P P.length)
set_option maxRecDepth 100000 in
set_option maxHeartbeats 1600000 in
theorem manyD (pv : Value) (pvs : List Value) (P : List (List Int)) (w : World) (h : RRD w pv pvs P) (hbl : ∀ i, (P.getD i []).length ≤ 1048576) :
    Calls Try.prog 9 #[pv] w fun e w' => e = .returned (.bool (manyB P)) ∧ w' = w := by
  obtain ⟨po, pn, pc, rfl⟩ : ∃ o n c, pv = .slice o n c := by obtain ⟨ao, cap, e⟩ := h.out.sl; exact ⟨_, _, _, e⟩
  have hn : P.length = pn := by rw [← h.len, h.out.len]
  have hpm : pn ≤ 9223372036854775807 := by have := h.out.room.2.1; have := h.out.room.1; unfold maxLen at *; omega
  have HR : Hid (RRD w (.slice po pn pc) pvs P) := h
  have HN : Hid (P.length = pn) := hn
  have HBL : Hid (∀ i, (P.getD i []).length ≤ 1048576) := hbl
  clear h hn hbl
  go_enter Try.func9, Try.ntmps9
  go_wp2
  go_loopg [3, 4] 201 (fun g1 v3 v4 wr => ∃ i s : Nat, v3 = .int .i64 s ∧ v4 = .int .i64 i ∧ i ≤ pn ∧ i ≤ 201 ∧ 201 - i ≤ g1 ∧ Hid (smL P i = s) ∧ wr = w)
  case atStart => exact ⟨0, 0, rfl, rfl, by omega, by omega, by omega, rfl, rfl⟩
  case round =>
    obtain ⟨i, s, rfl, rfl, hin, hi2, hg1, HS, rfl⟩ := hrel
    have hsb : s ≤ 210763776 := by have := smL_le HBL.out i; rw [HS.out] at this; omega
    by_cases hlt : i < pn
    · have hltz : (i : Int) < (pn : Int) := by omega
      by_cases hl2 : i ≤ 200
      · have hl2z : (i : Int) ≤ 200 := by omega
        obtain ⟨x, gp, op, hx1, rfl, hx2⟩ := HR.out.out.at hlt
        have hxr := HR.out.inn i x hx1
        obtain ⟨xo, xn, xc, rfl⟩ : ∃ o n c, x = .slice o n c := by obtain ⟨ao, cap, e⟩ := hxr.sl; exact ⟨_, _, _, e⟩
        have hxl : (P.getD i []).length = xn := hxr.len
        have hxb : xn ≤ 1048576 := by rw [← hxl]; exact HBL.out i
        change wr.cell? ⟨gp, op + i, none⟩ = some (.slice xo xn xc) at hx2
        have HS2 : Hid (smL P (i + 1) = s + xn) := by show _ = _; simp only [smL]; rw [HS.out, hxl]
        have hws : IntKind.i64.wrap ((s : Int) + (xn : Int)) = (s : Int) + (xn : Int) := by rw [IntKind.wrap_i64]; omega
        clear hxl hxr hx1 HS
        go_wp2
        clear hx2
        go_roundg (201 - (i + 1))
        case measure => omega
        case rel => exact ⟨i + 1, s + xn, by first | rfl | go_num, by first | rfl | go_num, by omega, by omega, Nat.le_refl _, HS2, rfl⟩
      · have hl2z : ¬ (i : Int) ≤ 200 := by omega
        have hbig : (200 : Int) < (pn : Int) := by omega
        have hbig2 : (pn : Int) > 200 := by omega
        have HE : Hid (manyB P = true) := by show _ = _; unfold manyB; rw [HN.out, decide_eq_true (show 200 < pn by omega)]; rfl
        clear HS
        go_wp2
        go_ret
        exact ⟨by rw [HE.out]; rfl, rfl⟩
    · have hltz : ¬ (i : Int) < (pn : Int) := by omega
      obtain rfl : i = pn := by omega
      by_cases hb2 : 200 < i
      · have hbig : (200 : Int) < (i : Int) := by omega
        have hbig2 : (i : Int) > 200 := by omega
        have HE : Hid (manyB P = true) := by show _ = _; unfold manyB; rw [HN.out, decide_eq_true hb2]; rfl
        clear HS
        go_wp2
        go_ret
        exact ⟨by rw [HE.out]; rfl, rfl⟩
      · have hbig : ¬ (200 : Int) < (i : Int) := by omega
        have HE : Hid (manyB P = decide ((2000 : Int) < (s : Int))) := by
          show _ = _
          unfold manyB
          rw [HN.out, decide_eq_false hb2, HS.out, Bool.false_or]
          exact decide_eq_decide.2 (by omega)
        clear HS
        go_wp2
        go_ret
        exact ⟨by rw [HE.out]; rfl, rfl⟩
/-- The marks behind a list that is lent. -/
def mrks : List Int := [-90, -91, -92, -93, -94, -95]
set_option maxRecDepth 100000 in
set_option maxHeartbeats 1600000 in
theorem longD (v : Value) (zs : List Int) (w : World) (hv : RG (Value.int .i64) w v zs) (hl : zs.length ≤ 1048576) :
    Calls Try.prog 27 #[v] w fun e w' => ∃ g cap, e = .returned (.slice (some ⟨g, 0, none⟩) (zs.length + 6) cap) ∧ OG (Value.int .i64) w.heap.size 3 w' (.slice (some ⟨g, 0, none⟩) (zs.length + 6) cap) (zs ++ mrks) ∧ Below w.heap.size w w' := by
  obtain ⟨i0, hi, hz0, hz1, hz2⟩ := info_parts Try.infoI
  obtain ⟨vo, vn, vc, rfl⟩ : ∃ o n c, v = .slice o n c := by obtain ⟨ao, cap, e⟩ := hv.sl; exact ⟨_, _, _, e⟩
  have HV : Hid (RG (Value.int .i64) w (.slice vo vn vc) zs) := hv
  have HL : Hid (zs.length ≤ 1048576) := hl
  clear hv hl
  go_enter Try.func27, Try.ntmps27
  go_upto_region 3 with (at_builtin; refine wpList_appG _ (fun _ => rfl) rfl _ _ 24 rfl w.heap.size 3 i0 (.int .i64 0) 8 Try.underlying24 hi hz0 hz1 hz2 rfl _ _ [] zs rfl (OG.nil _ _ _) rfl HV.out (by have := HL.out; unfold maxLen; simp; omega) (by have := HL.out; simp; omega) (Nat.le_refl _) ?_)
  intro v0 y0 ho0 hg0
  try rw [List.nil_append] at ho0
  have HO : Hid (OG (Value.int .i64) w.heap.size 3 y0 v0 zs) := ho0
  have HB : Hid (Below w.heap.size w y0) := ⟨hg0.os, hg0.tape, hg0.output, hg0.size, fun q hq => hg0.block q hq (by simp [Value.ownBlock])⟩
  obtain ⟨o0, n0, c0, rfl⟩ : ∃ o n c, v0 = .slice o n c := by obtain ⟨ao, cap, e, -⟩ := ho0.sl; exact ⟨_, _, _, e⟩
  obtain ⟨WA, hWA⟩ : ∃ W, W = y0.alloc (.cells #[.int .i64 (-90), .int .i64 (-91), .int .i64 (-92), .int .i64 (-93), .int .i64 (-94), .int .i64 (-95)] 3) := ⟨_, rfl⟩
  obtain ⟨gb, hgb⟩ : ∃ g, g = y0.heap.size := ⟨_, rfl⟩
  have HBA : Hid (Below y0.heap.size y0 WA) := by show Below _ _ _; rw [hWA]; exact belowB _ _
  have HRM : Hid (RG (Value.int .i64) WA (.slice (some ⟨gb, 0, none⟩) 6 6) mrks) := by
    have := OG.lit (enc := Value.int .i64) 3 y0 mrks (by unfold maxLen mrks; simp)
    rw [hWA, hgb]
    exact this.rg
  have HWA : Hid (WA = y0.alloc (.cells #[.int .i64 (-90), .int .i64 (-91), .int .i64 (-92), .int .i64 (-93), .int .i64 (-94), .int .i64 (-95)] 3)) := hWA
  have HGB : Hid (gb = y0.heap.size) := hgb
  clear ho0 hg0 hWA hgb
  go_wp2_with (at_builtin; rw [← HWA.out, ← HGB.out]; refine wpList_appG _ (fun _ => rfl) rfl _ _ 24 rfl w.heap.size 3 i0 (.int .i64 0) 8 Try.underlying24 hi hz0 hz1 hz2 rfl _ _ zs mrks rfl (HO.out.below HBA.out) rfl HRM.out (by have := HL.out; unfold maxLen mrks; simp; omega) (by have := HL.out; unfold mrks; simp; omega) (Nat.le_trans HB.out.size HBA.out.size) ?_)
  intro v1 y1 ho1 hg1
  have HB1 : Hid (Below w.heap.size w y1) := (bstepB HB.out HBA.out).trans ⟨hg1.os, hg1.tape, hg1.output, hg1.size, fun q hq => hg1.block q (Nat.lt_of_lt_of_le hq (Nat.le_trans HB.out.size HBA.out.size)) (fun e => by have := (HO.out.lt q e.symm).1; omega)⟩
  obtain ⟨ao, cap, rfl, hsm, -⟩ := ho1.sl
  obtain ⟨g, -, rfl⟩ := hsm (by simp [mrks])
  have hln : (zs ++ mrks).length = zs.length + 6 := by simp [mrks]
  rw [hln] at ho1 ⊢
  have HO1 : Hid (OG (Value.int .i64) w.heap.size 3 y1 (.slice (some ⟨g, 0, none⟩) (zs.length + 6) cap) (zs ++ mrks)) := ho1
  clear ho1 hg1 hln hsm
  go_wp2
  go_ret
  exact ⟨g, cap, rfl, HO1.out, HB1.out⟩
set_option maxRecDepth 100000 in
set_option maxHeartbeats 1600000 in
theorem sameD (u v : Value) (xs ys : List Int) (w : World) (hu : RG (Value.int .i64) w u xs) (hv : RG (Value.int .i64) w v ys) :
    Calls Try.prog 16 #[u, v] w fun e w' => e = .returned (.bool (decide (xs = ys))) ∧ ∃ q, w' = w.drewN q := by
  obtain ⟨uo, un, uc, rfl⟩ : ∃ o n c, u = .slice o n c := by obtain ⟨ao, cap, e⟩ := hu.sl; exact ⟨_, _, _, e⟩
  obtain ⟨vo, vn, vc, rfl⟩ : ∃ o n c, v = .slice o n c := by obtain ⟨ao, cap, e⟩ := hv.sl; exact ⟨_, _, _, e⟩
  have hum : un ≤ 9223372036854775807 := by have := hu.room.2.1; have := hu.room.1; unfold maxLen at *; omega
  have HU : Hid (RG (Value.int .i64) w (.slice uo un uc) xs) := hu
  have HV : Hid (RG (Value.int .i64) w (.slice vo vn vc) ys) := hv
  have HUL : Hid (xs.length = un) := hu.len
  have HVL : Hid (ys.length = vn) := hv.len
  clear hu hv
  by_cases hne : un = vn
  · subst hne
    go_enter Try.func16, Try.ntmps16
    go_wp2
    go_loopg [5] un (fun g1 v5 wr => ∃ k q : Nat, v5 = .int .i64 k ∧ k ≤ un ∧ un - k ≤ g1 ∧ Hid (xs.take k = ys.take k) ∧ Hid (wr = w.drewN q))
    case atStart => exact ⟨0, 0, rfl, by omega, by omega, rfl, rfl⟩
    case round =>
      obtain ⟨k, q0, rfl, hkn, hg1, HA, HQ⟩ := hrel
      have HU2 : Hid (RG (Value.int .i64) wr (.slice uo un uc) xs) := by rw [HQ.out]; exact HU.out.drewN q0
      have HV2 : Hid (RG (Value.int .i64) wr (.slice vo un vc) ys) := by rw [HQ.out]; exact HV.out.drewN q0
      by_cases hlt : k < un
      · have hltz : (k : Int) < (un : Int) := by omega
        obtain ⟨x, gx, ox, hx1, rfl, hx2⟩ := HU2.out.at hlt
        obtain ⟨y, gy, oy, hy1, rfl, hy2⟩ := HV2.out.at hlt
        by_cases he : x = y
        · have HA2 : Hid (xs.take (k + 1) = ys.take (k + 1)) := by show _ = _; rw [List.take_add_one, List.take_add_one, hx1, hy1, HA.out, he]
          have hez : (x != y) = false := by simpa using he
          clear he hx1 hy1 HA
          go_wp2
          go_quiet (fail)
          clear hx2 hy2
          go_wp2
          go_roundg (un - (k + 1))
          case measure => omega
          case rel => exact ⟨k + 1, _, by first | rfl | go_num, by omega, Nat.le_refl _, HA2, by show _ = _; rw [HQ.out]; exact drewR_add _ _ _⟩
        · have HE : Hid (decide (xs = ys) = false) := decide_eq_false fun e => he (by rw [e, hy1] at hx1; exact (Option.some.inj hx1).symm)
          have hez : (x != y) = true := by simpa using he
          clear he hx1 hy1 HA
          go_wp2
          go_quiet (fail)
          clear hx2 hy2
          go_wp2
          go_ret
          exact ⟨by rw [HE.out]; rfl, _, by rw [HQ.out]; exact drewR_add _ _ _⟩
      · have hltz : ¬ (k : Int) < (un : Int) := by omega
        have HE : Hid (decide (xs = ys) = true) := decide_eq_true (by
          have := HA.out
          rw [List.take_of_length_le (by rw [HUL.out]; omega), List.take_of_length_le (by rw [HVL.out]; omega)] at this
          exact this)
        clear HA
        go_wp2
        go_ret
        exact ⟨by rw [HE.out]; rfl, _, HQ.out⟩
  · have HE : Hid (decide (xs = ys) = false) := decide_eq_false fun e => hne (by rw [← HUL.out, ← HVL.out, e])
    have hnz : ((un : Int) != (vn : Int)) = true := by simp; omega
    clear hne
    go_enter Try.func16, Try.ntmps16
    go_wp2
    go_ret
    exact ⟨by rw [HE.out]; rfl, 0, rfl⟩
end Go.Proofs.Ytmgbhbdcnciccaa

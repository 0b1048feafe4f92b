/-
  Proved here: the document's closed, walked.
  Proved here: the document's out and Check.
  Proved here: the document's Cycle, Order.
  Proved here: package dag's Children.
  Proved here: package dag's Above and Below.
  Proved here: the document's Children, Above, Below.
  Proved here: the document's Above and Below.
  Proved here: package dag's Order, Check and Children once more: lists may be long where they may not be.
-/
import Derived.Test.YtcadljpdokhpmabGreatDagClAll
import Derived.Test.YtcadljpdokhpmabGreatDagCyCAll
import Derived.Test.YtcadljpdokhpmabGreatSpB1All
import Derived.Test.YtcadljpdokhpmabGreatDagCyDAll
import Derived.Test.YtcadljpdokhpmabGreatDagK2All
namespace Go.Proofs.YtcadljpdokhpmabGreat
set_option linter.unusedVariables false
open Go.RowKit
end Go.Proofs.YtcadljpdokhpmabGreat

namespace Go.Proofs.YtcadljpdokhpmabGreat
set_option linter.unusedVariables false
open Go.RowKit
/-- Is a point's beginning of parents out, and it not? -/
def rdyK (P : List (List Int)) (T : List Int) (i k : Nat) : Bool := decide ((i : Int) ∉ T) && ((P.getD i []).take k).all (fun p => decide (p ∈ T))
theorem rdyK_zero (P : List (List Int)) (T : List Int) (i : Nat) : rdyK P T i 0 = !decide ((i : Int) ∈ T) := by simp [rdyK]
theorem rdyK_step {P : List (List Int)} {T : List Int} {i k : Nat} {x : Int} (h : (P.getD i [])[k]? = some x) : rdyK P T i (k + 1) = (rdyK P T i k && decide (x ∈ T)) := by
  unfold rdyK
  rw [List.take_add_one, h, List.all_append]
  simp [Bool.and_assoc]
theorem rdyK_end {P : List (List Int)} {T : List Int} {i k : Nat} (h : (P.getD i []).length ≤ k) : rdyK P T i k = decide (rdy P T i) := by
  unfold rdyK rdy
  rw [List.take_of_length_le h]
  rw [Bool.eq_iff_iff]
  simp
/-- The first of the first i that is ready, or -1. -/
def fstR (P : List (List Int)) (T : List Int) (i : Nat) (nx : Int) : Prop := (nx = -1 ∧ ∀ j, j < i → ¬ rdy P T j) ∨ ∃ j : Nat, nx = (j : Int) ∧ j < i ∧ rdy P T j ∧ ∀ q, q < j → ¬ rdy P T q
end Go.Proofs.YtcadljpdokhpmabGreat

namespace Go.Proofs.YtcadljpdokhpmabGreat
set_option linter.unusedVariables false
open Go.RowKit
theorem wyD_len (P : List (List Int)) (s : Nat) : ∀ (k : Nat) (c : Int), (wyD P s k c).length = k
  | 0, _ => rfl
  | k + 1, c => by unfold wyD; rw [List.length_cons, wyD_len P s k]
theorem wyD_step (P : List (List Int)) (s : Nat) : ∀ (k : Nat) (c : Int) (j : Nat) (x : Int), j < k → (c :: wyD P s k c)[j]? = some x → (c :: wyD P s k c)[j + 1]? = some (lsF (Md P s (k - j)) ((k - j : Nat) : Int) (P.getD x.toNat []))
  | 0, _, _, _, h, _ => by omega
  | k + 1, c, 0, x, _, h => by
    simp at h; subst h
    simp [wyD]
  | k + 1, c, j + 1, x, h, hx => by
    have e1 : (c :: wyD P s (k + 1) c)[j + 1]? = (wyD P s (k + 1) c)[j]? := by simp
    rw [e1] at hx
    unfold wyD at hx
    have := wyD_step P s k _ j x (by omega) hx
    have e2 : (c :: wyD P s (k + 1) c)[j + 1 + 1]? = (wyD P s (k + 1) c)[j + 1]? := by simp
    rw [e2]
    unfold wyD
    rw [this]
    have e3 : k + 1 - (j + 1) = k - j := by omega
    rw [e3]
theorem lsS_md {P : List (List Int)} {s c : Nat} {a : Int} {p : Nat} : lsS (Md P s c) (c : Int) a (p : Int) = if (s : Int) ≤ (p : Int) ∧ wkB P s c p = true ∧ (a < 0 ∨ (p : Int) < a) then (p : Int) else a := by
  unfold lsS Md
  rw [Int.toNat_natCast]
  by_cases h1 : (s : Int) ≤ (p : Int)
  · by_cases h2 : wkB P s c p = true
    · simp [h1, h2]
    · simp [h1, h2]
  · simp [h1]
end Go.Proofs.YtcadljpdokhpmabGreat

namespace Go.Proofs.YtcadljpdokhpmabGreat
set_option linter.unusedVariables false
open Go.RowKit
/-- What Children answers: of parents that may be, the children of each point; else none. -/
def ChE (w : World) (P : List (List Int)) (n : Nat) (v : Value) (w' : World) : Prop := (ckE P = 0 ∧ ∃ W g cvs, Below w.heap.size w W ∧ v = .slice (some ⟨g, 0, none⟩) n n ∧ TuC W.heap.size W w' g n cvs (fun j => chF P j n)) ∨ (ckE P ≠ 0 ∧ v = .slice none 0 0)
theorem ck_zero {P : List (List Int)} (h : ckE P = 0) : clE P = 0 := by
  unfold ckE at h
  by_cases e : clE P = 0
  · exact e
  · rw [if_neg e] at h; exact h
set_option maxRecDepth 100000 in
set_option maxHeartbeats 3200000 in
theorem childrenD (pv : Value) (pvs : List Value) (P : List (List Int)) (w : World) (h : RRD w pv pvs P) (n : Nat) (hn : P.length = n) (hb : n ≤ 100000) (hbl : ∀ i, (P.getD i []).length ≤ 100000) :
    Calls Tryz.prog 24 #[pv] w fun e w' => ∃ v, e = .returned (.tuple #[v, .int .i64 (ckE P)]) ∧ ChE w P n v w' ∧ Below w.heap.size w w' := by
  have CC : Hid _ := checkD pv pvs P w h n hn hb hbl
  obtain ⟨po, pn, pc, rfl⟩ : ∃ o n c, pv = .slice o n c := by obtain ⟨ao, cap, e⟩ := h.out.sl; exact ⟨_, _, _, e⟩
  obtain rfl : pn = n := by rw [← hn, ← h.len, h.out.len]
  have HR : Hid (RRD w (.slice po pn pc) pvs P) := h
  have HN : Hid (P.length = pn) := hn
  clear h hn hbl
  go_enter Tryz.func24, Tryz.ntmps24
  go_wp2_with fail
  refine Calls.mono CC.out ?_
  rintro e y ⟨rfl, hy⟩
  have HB : Hid (Below w.heap.size w y) := hy
  clear CC hy
  obtain ⟨c, hc⟩ : ∃ c, c = ckE P := ⟨_, rfl⟩
  have HC : Hid (c = ckE P) := hc
  rw [← hc]
  clear hc
  by_cases h0 : c = 0
  · subst h0
    have hz := cl_zero (ck_zero HC.out.symm)
    have CT : Hid _ := turnedD _ pvs P y (HR.out.below (Nat.le_refl _) HB.out) (outs_no hz.1) (twices_no hz.2) pn HN.out hb
    clear hz
    go_wp2_with fail
    refine Calls.mono CT.out ?_
    rintro e z ⟨g, cvs, rfl, hz⟩
    have HE : Hid (ChE w P pn (.slice (some ⟨g, 0, none⟩) pn pn) z) := Or.inl ⟨HC.out.symm, y, g, cvs, HB.out, rfl, hz⟩
    have HB2 : Hid (Below w.heap.size w z) := bstepB HB.out hz.frm
    clear CT hz HB
    go_wp2
    go_ret2
    exact ⟨_, by rw [← HC.out]; rfl, HE.out, HB2.out⟩
  · have hcz : (c != (0 : Int)) = true := by simpa using h0
    have HE : Hid (ChE w P pn (.slice none 0 0) y) := Or.inr ⟨by rw [← HC.out]; exact h0, rfl⟩
    clear h0
    go_wp2
    go_ret2
    exact ⟨_, by rw [← HC.out]; rfl, HE.out, HB.out⟩
end Go.Proofs.YtcadljpdokhpmabGreat

namespace Go.Proofs.YtcadljpdokhpmabGreat
set_option linter.unusedVariables false
open Go.RowKit
/-- What Above and Below answer: steps C. -/
def AbE (B : Nat) (P C : List (List Int)) (n : Nat) (pts : List Int) (w' : World) (e : Ending) : Prop :=
  (ckE P ≠ 0 ∧ e = .returned (.tuple #[.slice none 0 0, .int .i64 (ckE P)])) ∨ (ckE P = 0 ∧ ReE B C n pts w' e)
theorem ReE.mono {B B' : Nat} {C : List (List Int)} {n : Nat} {pts : List Int} {w' : World} {e : Ending} (h : ReE B C n pts w' e) (hB : B' ≤ B) : ReE B' C n pts w' e := by
  rcases h with h | ⟨h0, tv, R, h1, h2, h3, h4⟩
  · exact Or.inl h
  · exact Or.inr ⟨h0, tv, R, h1, h2.mono hB, h3, h4⟩
/-- It is a pair. -/
theorem ReE.pair {B : Nat} {C : List (List Int)} {n : Nat} {pts : List Int} {w' : World} {e : Ending} (h : ReE B C n pts w' e) : ∃ o nn cc c, e = .returned (.tuple #[.slice o nn cc, .int .i64 c]) := by
  rcases h with ⟨_, h⟩ | ⟨h0, tv, R, h1, h2, h3, h4⟩
  · exact ⟨_, _, _, _, h⟩
  · obtain ⟨ao, cap, e1⟩ := h2.rg.sl
    exact ⟨ao, R.length, cap, 0, by rw [h1, e1]⟩
set_option maxRecDepth 100000 in
set_option maxHeartbeats 3200000 in
theorem aboveD (pv qv : Value) (pvs : List Value) (P : List (List Int)) (pts : List Int) (w : World) (h : RRD w pv pvs P) (n : Nat) (hn : P.length = n) (hb : n ≤ 100000) (hbl : ∀ i, (P.getD i []).length ≤ 100000) (hq : RG (Value.int .i64) w qv pts) (hql : pts.length ≤ 1100000) :
    Calls Tryz.prog 51 #[pv, qv] w fun e w' => AbE w.heap.size P P n pts w' e ∧ Below w.heap.size w w' := by
  have CC : Hid _ := checkD pv pvs P w h n hn hb hbl
  obtain ⟨po, pn, pc, rfl⟩ : ∃ o n c, pv = .slice o n c := by obtain ⟨ao, cap, e⟩ := h.out.sl; exact ⟨_, _, _, e⟩
  obtain ⟨qo, qn, qc, rfl⟩ : ∃ o n c, qv = .slice o n c := by obtain ⟨ao, cap, e⟩ := hq.sl; exact ⟨_, _, _, e⟩
  have HR : Hid (∀ W, Below w.heap.size w W → RRD W (.slice po pn pc) pvs P) := fun W hW => h.below (Nat.le_refl _) hW
  have HQ : Hid (∀ W, Below w.heap.size w W → RG (Value.int .i64) W (.slice qo qn qc) pts) := fun W hW => hq.below (Nat.le_refl _) hW
  have HN : Hid (P.length = n) := hn
  have HBL : Hid (∀ i, (P.getD i []).length ≤ 100000) := hbl
  clear h hn hbl hq
  go_enter Tryz.func51, Tryz.ntmps51
  go_wp2_with fail
  refine Calls.mono CC.out ?_
  rintro e y ⟨rfl, hy⟩
  have HB : Hid (Below w.heap.size w y) := hy
  clear CC hy
  obtain ⟨c, hc⟩ : ∃ c, c = ckE P := ⟨_, rfl⟩
  have HC : Hid (c = ckE P) := hc
  rw [← hc]
  clear hc
  by_cases h0 : c = 0
  · subst h0
    have hz := cl_zero (ck_zero HC.out.symm)
    have CT : Hid _ := reachedD _ _ pvs P pts y (HR.out y HB.out) n HN.out hb HBL.out (outs_no hz.1) (HQ.out y HB.out) hql
    clear hz
    go_wp2_with fail
    refine Calls.mono CT.out ?_
    rintro e z ⟨hz1, hz2⟩
    obtain ⟨ro, rn, rc, rk, rfl⟩ := hz1.pair
    have HE : Hid (AbE w.heap.size P P n pts z (.returned (.tuple #[.slice ro rn rc, .int .i64 rk]))) := Or.inr ⟨HC.out.symm, hz1.mono HB.out.size⟩
    have HB2 : Hid (Below w.heap.size w z) := HB.out.trans (hz2.mono HB.out.size)
    clear CT hz1 hz2 HB
    go_wp2
    go_ret2
    exact ⟨HE.out, HB2.out⟩
  · have hcz : (c != (0 : Int)) = true := by simpa using h0
    have HE : Hid (AbE w.heap.size P P n pts y (.returned (.tuple #[.slice none 0 0, .int .i64 c]))) := Or.inl ⟨by rw [← HC.out]; exact h0, by rw [← HC.out]⟩
    clear h0
    go_wp2
    go_ret2
    exact ⟨HE.out, HB.out⟩
/-- The children of each point, as rows. -/
def chL (P : List (List Int)) (n : Nat) : List (List Int) := (List.range n).map (fun j => chF P j n)
theorem chL_get {P : List (List Int)} {n j : Nat} (h : j < n) : (chL P n).getD j [] = chF P j n := by
  unfold chL
  rw [List.getD_eq_getElem?_getD, List.getElem?_map, List.getElem?_range h]; rfl
theorem chL_len (P : List (List Int)) (n : Nat) : (chL P n).length = n := by simp [chL]
theorem chL_bound (P : List (List Int)) (n i : Nat) : ((chL P n).getD i []).length ≤ n := by
  by_cases h : i < n
  · rw [chL_get h]; exact chF_len _ _ _
  · rw [List.getD_eq_getElem?_getD, List.getElem?_eq_none (by rw [chL_len]; omega)]; simp
theorem chL_wf (P : List (List Int)) (n : Nat) : WfP (chL P n) := fun i x hx => by
  rw [chL_len]
  by_cases h : i < n
  · rw [chL_get h] at hx
    obtain ⟨p, h1, h2, _⟩ := chF_mem.1 hx
    exact ⟨p, h2, h1⟩
  · rw [List.getD_eq_getElem?_getD, List.getElem?_eq_none (by rw [chL_len]; omega)] at hx
    simp at hx
theorem TuC.rrd {B : Nat} {w W : World} {g n : Nat} {cvs : List Value} {P : List (List Int)} (h : TuC B w W g n cvs (fun j => chF P j n)) : RRD W (.slice (some ⟨g, 0, none⟩) n n) cvs (chL P n) := by
  refine ⟨h.row.rg, by rw [h.len, chL_len], fun i x hx => ?_⟩
  have hi : i < n := by have := (List.getElem?_eq_some_iff.1 hx).1; rw [h.len] at this; exact this
  rw [chL_get hi]
  exact (h.inn i x hx).rg
set_option maxRecDepth 100000 in
set_option maxHeartbeats 3200000 in
theorem belowD (pv qv : Value) (pvs : List Value) (P : List (List Int)) (pts : List Int) (w : World) (h : RRD w pv pvs P) (n : Nat) (hn : P.length = n) (hb : n ≤ 100000) (hbl : ∀ i, (P.getD i []).length ≤ 100000) (hq : RG (Value.int .i64) w qv pts) (hql : pts.length ≤ 1100000) :
    Calls Tryz.prog 15 #[pv, qv] w fun e w' => AbE w.heap.size P (chL P n) n pts w' e ∧ Below w.heap.size w w' := by
  have CC : Hid _ := childrenD pv pvs P w h n hn hb hbl
  obtain ⟨po, pn, pc, rfl⟩ : ∃ o n c, pv = .slice o n c := by obtain ⟨ao, cap, e⟩ := h.out.sl; exact ⟨_, _, _, e⟩
  obtain ⟨qo, qn, qc, rfl⟩ : ∃ o n c, qv = .slice o n c := by obtain ⟨ao, cap, e⟩ := hq.sl; exact ⟨_, _, _, e⟩
  have HQ : Hid (∀ W, Below w.heap.size w W → RG (Value.int .i64) W (.slice qo qn qc) pts) := fun W hW => hq.below (Nat.le_refl _) hW
  clear h hn hbl hq
  go_enter Tryz.func15, Tryz.ntmps15
  go_wp2_with fail
  refine Calls.mono CC.out ?_
  clear CC
  rintro e y ⟨v, rfl, hE, hy⟩
  have HB : Hid (Below w.heap.size w y) := hy
  clear hy
  obtain ⟨c, hc⟩ : ∃ c, c = ckE P := ⟨_, rfl⟩
  have HC : Hid (c = ckE P) := hc
  rw [← hc]
  rcases hE with ⟨h0, W, g, cvs, hW, rfl, hT⟩ | ⟨h0, rfl⟩
  · have hcz : c = 0 := by rw [hc]; exact h0
    subst hcz
    have CT : Hid _ := reachedD (.slice (some ⟨g, 0, none⟩) n n) _ cvs (chL P n) pts y hT.rrd n (chL_len _ _) hb (fun i => Nat.le_trans (chL_bound P n i) hb) (chL_wf P n) (HQ.out y HB.out) hql
    clear hc h0 hW hT
    go_wp2_with fail
    refine Calls.mono CT.out ?_
    rintro e z ⟨hz1, hz2⟩
    obtain ⟨ro, rn, rc, rk, rfl⟩ := hz1.pair
    have HE : Hid (AbE w.heap.size P (chL P n) n pts z (.returned (.tuple #[.slice ro rn rc, .int .i64 rk]))) := Or.inr ⟨HC.out.symm, hz1.mono HB.out.size⟩
    have HB2 : Hid (Below w.heap.size w z) := HB.out.trans (hz2.mono HB.out.size)
    clear CT hz1 hz2 HB
    go_wp2
    go_ret2
    exact ⟨HE.out, HB2.out⟩
  · have hcz : (c != (0 : Int)) = true := by rw [hc]; simpa using h0
    have HE : Hid (AbE w.heap.size P (chL P n) n pts y (.returned (.tuple #[.slice none 0 0, .int .i64 c]))) := Or.inl ⟨h0, by rw [← HC.out]⟩
    clear hc h0
    go_wp2
    go_ret2
    exact ⟨HE.out, HB.out⟩
end Go.Proofs.YtcadljpdokhpmabGreat

namespace Go.Proofs.YtcadljpdokhpmabGreat
set_option linter.unusedVariables false
open Go.RowKit
/-- What the document's Children answers. -/
def RcE (B : Nat) (P : List (List Int)) (n : Nat) (v : Value) (w' : World) : Prop := (ckE P = 0 ∧ ∃ rvs, OG id B 23 w' v rvs ∧ rvs.length = n ∧ ∀ (j : Nat) (u : Value), rvs[j]? = some u → OG (Value.int .i64) B 3 w' u (chF P j n)) ∨ (ckE P ≠ 0 ∧ v = .slice none 0 0)
theorem RcE.rrd {B : Nat} {P : List (List Int)} {n : Nat} {v : Value} {w' : World} (h : RcE B P n v w') : ∃ rvs, RRD w' v rvs (if ckE P = 0 then chL P n else []) := by
  rcases h with ⟨h0, rvs, h1, h2, h3⟩ | ⟨h0, rfl⟩
  · rw [if_pos h0]
    refine ⟨rvs, h1.rg, by rw [h2, chL_len], fun i x hx => ?_⟩
    have hi : i < n := by have := (List.getElem?_eq_some_iff.1 hx).1; omega
    rw [chL_get hi]; exact (h3 i x hx).rg
  · rw [if_neg h0]
    exact ⟨[], RG.nil _, rfl, fun i x h => by simp at h⟩
end Go.Proofs.YtcadljpdokhpmabGreat

namespace Go.Proofs.YtcadljpdokhpmabGreat
set_option linter.unusedVariables false
open Go.RowKit
end Go.Proofs.YtcadljpdokhpmabGreat

namespace Go.Proofs.YtcadljpdokhpmabGreat
set_option linter.unusedVariables false
open Go.RowKit
theorem len_nd : ∀ (n : Nat) (L : List Int), L.Nodup → (∀ x ∈ L, ∃ p : Nat, x = (p : Int) ∧ p < n) → L.length ≤ n
  | 0, L, _, h => by
    cases L with
    | nil => exact Nat.le_refl _
    | cons x L => obtain ⟨p, _, hp⟩ := h x (by simp); omega
  | n + 1, L, hd, h => by
    by_cases hm : (n : Int) ∈ L
    · have h1 := List.length_erase_of_mem hm
      have h2 := len_nd n (L.erase (n : Int)) (hd.erase _) (fun x hx => by
        rw [hd.mem_erase_iff] at hx
        obtain ⟨p, e, hp⟩ := h x hx.2
        refine ⟨p, e, ?_⟩
        have : p ≠ n := fun e2 => hx.1 (by rw [e, e2])
        omega)
      omega
    · have := len_nd n L hd (fun x hx => by
        obtain ⟨p, e, hp⟩ := h x hx
        refine ⟨p, e, ?_⟩
        have : p ≠ n := fun e2 => hm (by rw [← e2, ← e]; exact hx)
        omega)
      omega
theorem len_cl {P : List (List Int)} (h : clE P = 0) (i : Nat) : (P.getD i []).length ≤ P.length := by
  have hz := cl_zero h
  exact len_nd _ _ (twices_no hz.2 i) (outs_no hz.1 i)
set_option maxRecDepth 100000 in
set_option maxHeartbeats 3200000 in
theorem orderL (pv : Value) (pvs : List Value) (P : List (List Int)) (w : World) (h : RRD w pv pvs P) (n : Nat) (hn : P.length = n) (hb : n ≤ 100000) (hbl : clE P = 0 → ∀ i, (P.getD i []).length ≤ 100000) :
    Calls Tryz.prog 60 #[pv] w fun e w' => ∃ tv, e = .returned (.tuple #[tv, .int .i64 (ckE P)]) ∧ OG (Value.int .i64) w.heap.size 3 w' tv (ordL P) ∧ Below w.heap.size w w' := by
  have CC : Hid _ := checkListsD pv pvs P w h n hn hb
  obtain ⟨po, pn, pc, rfl⟩ : ∃ o n c, pv = .slice o n c := by obtain ⟨ao, cap, e⟩ := h.out.sl; exact ⟨_, _, _, e⟩
  obtain rfl : pn = n := by rw [← hn, ← h.len, h.out.len]
  have HR : Hid (RRD w (.slice po pn pc) pvs P) := h
  have HN : Hid (P.length = pn) := hn
  have HBL : Hid (clE P = 0 → ∀ i, (P.getD i []).length ≤ 100000) := hbl
  clear h hn hbl
  go_enter Tryz.func60, Tryz.ntmps60
  go_wp2_with fail
  refine Calls.mono CC.out ?_
  rintro e y ⟨rfl, hy⟩
  have HB : Hid (Below w.heap.size w y) := hy
  clear CC hy
  by_cases h0 : clE P = 0
  · have hz := cl_zero h0
    have HBL2 : Hid (∀ i, (P.getD i []).length ≤ 100000) := HBL.out h0
    have hP := outs_no hz.1
    have hnd := twices_no hz.2
    have CR : Hid _ := restOfD _ pvs P y (HR.out.below (Nat.le_refl _) HB.out) hP hnd pn HN.out hb HBL2.out
    have HND : Hid (∀ i, (P.getD i []).Nodup) := hnd
    have HCK : Hid (ckE P = if (outL P).length < pn then 42 else 0) := by show _ = _; unfold ckE; rw [if_pos h0, HN.out]
    rw [h0]
    clear hz hP hnd h0
    go_wp2_with fail
    refine Calls.mono CR.out ?_
    rintro e z ⟨rb, rfl, S, v, g, go, gw, cvs, Ob, Wt, L, hz1, hz2, hz3, hz4, hz5⟩
    have CD : Hid _ := drainD y.heap.size S z rb _ v g go gw pn cvs P Ob Wt L hz1 hz5.size HN.out hb HBL2.out HND.out hz2 hz3 hz4
    have HB2 : Hid (Below w.heap.size w z) := bstepB HB.out hz5
    have HBK : Hid (∀ q, RtS rb go gw v q → w.heap.size ≤ q) := fun q hq => by
      have h1 := hz1.frw
      have h2 := HB.out.size
      rcases hq with e | e | e | e
      · rw [e]; exact Nat.le_trans h2 hz1.hB
      · rw [e]; exact Nat.le_trans h2 h1.1
      · rw [e]; exact Nat.le_trans h2 h1.2.1
      · exact Nat.le_trans h2 (h1.2.2 q e)
    clear CR hz1 hz2 hz3 hz4 hz5 HB
    go_wp2_with fail
    refine Calls.mono CD.out ?_
    rintro e x ⟨tv, rfl, hx1, hx2⟩
    have HB3 : Hid (Below w.heap.size w x) := HB2.out.trans (hx2.below HB2.out.size HBK.out)
    have HO : Hid (OG (Value.int .i64) w.heap.size 3 x tv (outL P)) := hx1.mono HB2.out.size
    obtain ⟨to', tn, tc, rfl⟩ : ∃ o n c, tv = .slice o n c := by obtain ⟨ao, cap, e⟩ := hx1.rg.sl; exact ⟨_, _, _, e⟩
    have hl : (outL P).length = tn := hx1.rg.len
    rw [hl] at HCK
    clear CD hx1 hx2 hl HBK HB2
    by_cases hlt : tn < pn
    · have hltz : (tn : Int) < (pn : Int) := by omega
      have HE : Hid (ckE P = 42) := by show _ = _; rw [HCK.out, if_pos hlt]
      clear HCK
      go_wp2
      go_ret2
      exact ⟨_, by rw [HE.out]; rfl, by unfold ordL; rw [HE.out]; exact OG.nil _ _ _, HB3.out⟩
    · have hltz : ¬ (tn : Int) < (pn : Int) := by omega
      have HE : Hid (ckE P = 0) := by show _ = _; rw [HCK.out, if_neg hlt]
      clear HCK
      go_wp2
      go_ret2
      exact ⟨_, by rw [HE.out]; rfl, by unfold ordL; rw [HE.out]; exact HO.out, HB3.out⟩
  · have HE : Hid (ckE P = clE P) := by show _ = _; unfold ckE; rw [if_neg h0]
    obtain ⟨c, hc⟩ : ∃ c, c = clE P := ⟨_, rfl⟩
    rw [← hc] at h0 HE ⊢
    have hcz : (c != (0 : Int)) = true := by simpa using h0
    have HC0 : Hid (c ≠ 0) := h0
    clear h0 hc
    go_wp2
    go_ret2
    exact ⟨_, by rw [HE.out]; rfl, by unfold ordL; rw [HE.out, if_neg HC0.out]; exact OG.nil _ _ _, HB.out⟩
set_option maxRecDepth 100000 in
set_option maxHeartbeats 1600000 in
theorem checkL (pv : Value) (pvs : List Value) (P : List (List Int)) (w : World) (h : RRD w pv pvs P) (n : Nat) (hn : P.length = n) (hb : n ≤ 100000) (hbl : clE P = 0 → ∀ i, (P.getD i []).length ≤ 100000) :
    Calls Tryz.prog 41 #[pv] w fun e w' => e = .returned (.int .i64 (ckE P)) ∧ Below w.heap.size w w' := by
  have CC : Hid _ := orderL pv pvs P w h n hn hb hbl
  obtain ⟨po, pn, pc, rfl⟩ : ∃ o n c, pv = .slice o n c := by obtain ⟨ao, cap, e⟩ := h.out.sl; exact ⟨_, _, _, e⟩
  clear h hn hbl
  go_enter Tryz.func41, Tryz.ntmps41
  go_wp2_with fail
  refine Calls.mono CC.out ?_
  rintro e y ⟨tv, rfl, _, hy⟩
  have HB : Hid (Below w.heap.size w y) := hy
  clear CC hy
  go_wp2
  go_ret
  exact ⟨rfl, HB.out⟩
set_option maxRecDepth 100000 in
set_option maxHeartbeats 3200000 in
theorem childrenL (pv : Value) (pvs : List Value) (P : List (List Int)) (w : World) (h : RRD w pv pvs P) (n : Nat) (hn : P.length = n) (hb : n ≤ 100000) (hbl : clE P = 0 → ∀ i, (P.getD i []).length ≤ 100000) :
    Calls Tryz.prog 24 #[pv] w fun e w' => ∃ v, e = .returned (.tuple #[v, .int .i64 (ckE P)]) ∧ ChE w P n v w' ∧ Below w.heap.size w w' := by
  have CC : Hid _ := checkL pv pvs P w h n hn hb hbl
  obtain ⟨po, pn, pc, rfl⟩ : ∃ o n c, pv = .slice o n c := by obtain ⟨ao, cap, e⟩ := h.out.sl; exact ⟨_, _, _, e⟩
  obtain rfl : pn = n := by rw [← hn, ← h.len, h.out.len]
  have HR : Hid (RRD w (.slice po pn pc) pvs P) := h
  have HN : Hid (P.length = pn) := hn
  clear h hn hbl
  go_enter Tryz.func24, Tryz.ntmps24
  go_wp2_with fail
  refine Calls.mono CC.out ?_
  rintro e y ⟨rfl, hy⟩
  have HB : Hid (Below w.heap.size w y) := hy
  clear CC hy
  obtain ⟨c, hc⟩ : ∃ c, c = ckE P := ⟨_, rfl⟩
  have HC : Hid (c = ckE P) := hc
  rw [← hc]
  clear hc
  by_cases h0 : c = 0
  · subst h0
    have hz := cl_zero (ck_zero HC.out.symm)
    have CT : Hid _ := turnedD _ pvs P y (HR.out.below (Nat.le_refl _) HB.out) (outs_no hz.1) (twices_no hz.2) pn HN.out hb
    clear hz
    go_wp2_with fail
    refine Calls.mono CT.out ?_
    rintro e z ⟨g, cvs, rfl, hz⟩
    have HE : Hid (ChE w P pn (.slice (some ⟨g, 0, none⟩) pn pn) z) := Or.inl ⟨HC.out.symm, y, g, cvs, HB.out, rfl, hz⟩
    have HB2 : Hid (Below w.heap.size w z) := bstepB HB.out hz.frm
    clear CT hz HB
    go_wp2
    go_ret2
    exact ⟨_, by rw [← HC.out]; rfl, HE.out, HB2.out⟩
  · have hcz : (c != (0 : Int)) = true := by simpa using h0
    have HE : Hid (ChE w P pn (.slice none 0 0) y) := Or.inr ⟨by rw [← HC.out]; exact h0, rfl⟩
    clear h0
    go_wp2
    go_ret2
    exact ⟨_, by rw [← HC.out]; rfl, HE.out, HB.out⟩
end Go.Proofs.YtcadljpdokhpmabGreat

/-
  Proved here: the document's Cycle, Order.
  Proved here: package dag's Children.
  Proved here: package dag's Above and Below.
  Proved here: the law's many, long; the document's Same.
  Proved here: the law's lent: parents to be handed in, each list a piece of a longer one.
  Proved here: the document's Children, Above, Below.
  Proved here: the document's Above and Below.
  Proved here: package dag's Order, Check and Children once more: lists may be long where they may not be.
-/
import Derived.Test.YthdpomgpcblpeaaGreatDagClAll
import Derived.Test.YthdpomgpcblpeaaGreatDagVAll
import Derived.Test.YthdpomgpcblpeaaGreatDagCyCAll
import Derived.Test.YthdpomgpcblpeaaGreatDagCyOAll
import Derived.Test.YthdpomgpcblpeaaGreatDagK2All
import Derived.Test.YthdpomgpcblpeaaGreatDagOAll
import Derived.Test.YthdpomgpcblpeaaGreatDagTAll
import Derived.Test.YthdpomgpcblpeaaGreatDagCl2
namespace Go.Proofs.YthdpomgpcblpeaaGreat
set_option linter.unusedVariables false
open Go.RowKit
theorem wyD_len (P : List (List Int)) (s : Nat) : ∀ (k : Nat) (c : Int), (wyD P s k c).length = k
  | 0, _ => rfl
  | k + 1, c => by unfold wyD; rw [List.length_cons, wyD_len P s k]
theorem wyD_step (P : List (List Int)) (s : Nat) : ∀ (k : Nat) (c : Int) (j : Nat) (x : Int), j < k → (c :: wyD P s k c)[j]? = some x → (c :: wyD P s k c)[j + 1]? = some (lsF (Md P s (k - j)) ((k - j : Nat) : Int) (P.getD x.toNat []))
  | 0, _, _, _, h, _ => by omega
  | k + 1, c, 0, x, _, h => by
    simp at h; subst h
    simp [wyD]
  | k + 1, c, j + 1, x, h, hx => by
    have e1 : (c :: wyD P s (k + 1) c)[j + 1]? = (wyD P s (k + 1) c)[j]? := by simp
    rw [e1] at hx
    unfold wyD at hx
    have := wyD_step P s k _ j x (by omega) hx
    have e2 : (c :: wyD P s (k + 1) c)[j + 1 + 1]? = (wyD P s (k + 1) c)[j + 1]? := by simp
    rw [e2]
    unfold wyD
    rw [this]
    have e3 : k + 1 - (j + 1) = k - j := by omega
    rw [e3]
theorem lsS_md {P : List (List Int)} {s c : Nat} {a : Int} {p : Nat} : lsS (Md P s c) (c : Int) a (p : Int) = if (s : Int) ≤ (p : Int) ∧ wkB P s c p = true ∧ (a < 0 ∨ (p : Int) < a) then (p : Int) else a := by
  unfold lsS Md
  rw [Int.toNat_natCast]
  by_cases h1 : (s : Int) ≤ (p : Int)
  · by_cases h2 : wkB P s c p = true
    · simp [h1, h2]
    · simp [h1, h2]
  · simp [h1]
end Go.Proofs.YthdpomgpcblpeaaGreat

namespace Go.Proofs.YthdpomgpcblpeaaGreat
set_option linter.unusedVariables false
open Go.RowKit
/-- What Children answers: of parents that may be, the children of each point; else none. -/
def ChE (w : World) (P : List (List Int)) (n : Nat) (v : Value) (w' : World) : Prop := (ckE P = 0 ∧ ∃ W g cvs, Below w.heap.size w W ∧ v = .slice (some ⟨g, 0, none⟩) n n ∧ TuC W.heap.size W w' g n cvs (fun j => chF P j n)) ∨ (ckE P ≠ 0 ∧ v = .slice none 0 0)
theorem ck_zero {P : List (List Int)} (h : ckE P = 0) : clE P = 0 := by
  unfold ckE at h
  by_cases e : clE P = 0
  · exact e
  · rw [if_neg e] at h; exact h
set_option maxRecDepth 100000 in
set_option maxHeartbeats 3200000 in
theorem childrenD (pv : Value) (pvs : List Value) (P : List (List Int)) (w : World) (h : RRD w pv pvs P) (n : Nat) (hn : P.length = n) (hb : n ≤ 100000) (hbl : ∀ i, (P.getD i []).length ≤ 100000) :
    Calls Tryz.prog 67 #[pv] w fun e w' => ∃ v, e = .returned (.tuple #[v, .int .i64 (ckE P)]) ∧ ChE w P n v w' ∧ Below w.heap.size w w' := by
  have CC : Hid _ := checkD pv pvs P w h n hn hb hbl
  obtain ⟨po, pn, pc, rfl⟩ : ∃ o n c, pv = .slice o n c := by obtain ⟨ao, cap, e⟩ := h.out.sl; exact ⟨_, _, _, e⟩
  obtain rfl : pn = n := by rw [← hn, ← h.len, h.out.len]
  have HR : Hid (RRD w (.slice po pn pc) pvs P) := h
  have HN : Hid (P.length = pn) := hn
  clear h hn hbl
  go_enter Tryz.func67, Tryz.ntmps67
  go_wp2_with fail
  refine Calls.mono CC.out ?_
  rintro e y ⟨rfl, hy⟩
  have HB : Hid (Below w.heap.size w y) := hy
  clear CC hy
  obtain ⟨c, hc⟩ : ∃ c, c = ckE P := ⟨_, rfl⟩
  have HC : Hid (c = ckE P) := hc
  rw [← hc]
  clear hc
  by_cases h0 : c = 0
  · subst h0
    have hz := cl_zero (ck_zero HC.out.symm)
    have CT : Hid _ := turnedD _ pvs P y (HR.out.below (Nat.le_refl _) HB.out) (outs_no hz.1) (twices_no hz.2) pn HN.out hb
    clear hz
    go_wp2_with fail
    refine Calls.mono CT.out ?_
    rintro e z ⟨g, cvs, rfl, hz⟩
    have HE : Hid (ChE w P pn (.slice (some ⟨g, 0, none⟩) pn pn) z) := Or.inl ⟨HC.out.symm, y, g, cvs, HB.out, rfl, hz⟩
    have HB2 : Hid (Below w.heap.size w z) := bstepB HB.out hz.frm
    clear CT hz HB
    go_wp2
    go_ret2
    exact ⟨_, by rw [← HC.out]; rfl, HE.out, HB2.out⟩
  · have hcz : (c != (0 : Int)) = true := by simpa using h0
    have HE : Hid (ChE w P pn (.slice none 0 0) y) := Or.inr ⟨by rw [← HC.out]; exact h0, rfl⟩
    clear h0
    go_wp2
    go_ret2
    exact ⟨_, by rw [← HC.out]; rfl, HE.out, HB.out⟩
end Go.Proofs.YthdpomgpcblpeaaGreat

namespace Go.Proofs.YthdpomgpcblpeaaGreat
set_option linter.unusedVariables false
open Go.RowKit
/-- What Above and Below answer: steps C. -/
def AbE (B : Nat) (P C : List (List Int)) (n : Nat) (pts : List Int) (w' : World) (e : Ending) : Prop :=
  (ckE P ≠ 0 ∧ e = .returned (.tuple #[.slice none 0 0, .int .i64 (ckE P)])) ∨ (ckE P = 0 ∧ ReE B C n pts w' e)
theorem ReE.mono {B B' : Nat} {C : List (List Int)} {n : Nat} {pts : List Int} {w' : World} {e : Ending} (h : ReE B C n pts w' e) (hB : B' ≤ B) : ReE B' C n pts w' e := by
  rcases h with h | ⟨h0, tv, R, h1, h2, h3, h4⟩
  · exact Or.inl h
  · exact Or.inr ⟨h0, tv, R, h1, h2.mono hB, h3, h4⟩
/-- It is a pair. -/
theorem ReE.pair {B : Nat} {C : List (List Int)} {n : Nat} {pts : List Int} {w' : World} {e : Ending} (h : ReE B C n pts w' e) : ∃ o nn cc c, e = .returned (.tuple #[.slice o nn cc, .int .i64 c]) := by
  rcases h with ⟨_, h⟩ | ⟨h0, tv, R, h1, h2, h3, h4⟩
  · exact ⟨_, _, _, _, h⟩
  · obtain ⟨ao, cap, e1⟩ := h2.rg.sl
    exact ⟨ao, R.length, cap, 0, by rw [h1, e1]⟩
set_option maxRecDepth 100000 in
set_option maxHeartbeats 3200000 in
theorem aboveD (pv qv : Value) (pvs : List Value) (P : List (List Int)) (pts : List Int) (w : World) (h : RRD w pv pvs P) (n : Nat) (hn : P.length = n) (hb : n ≤ 100000) (hbl : ∀ i, (P.getD i []).length ≤ 100000) (hq : RG (Value.int .i64) w qv pts) (hql : pts.length ≤ 1100000) :
    Calls Tryz.prog 21 #[pv, qv] w fun e w' => AbE w.heap.size P P n pts w' e ∧ Below w.heap.size w w' := by
  have CC : Hid _ := checkD pv pvs P w h n hn hb hbl
  obtain ⟨po, pn, pc, rfl⟩ : ∃ o n c, pv = .slice o n c := by obtain ⟨ao, cap, e⟩ := h.out.sl; exact ⟨_, _, _, e⟩
  obtain ⟨qo, qn, qc, rfl⟩ : ∃ o n c, qv = .slice o n c := by obtain ⟨ao, cap, e⟩ := hq.sl; exact ⟨_, _, _, e⟩
  have HR : Hid (∀ W, Below w.heap.size w W → RRD W (.slice po pn pc) pvs P) := fun W hW => h.below (Nat.le_refl _) hW
  have HQ : Hid (∀ W, Below w.heap.size w W → RG (Value.int .i64) W (.slice qo qn qc) pts) := fun W hW => hq.below (Nat.le_refl _) hW
  have HN : Hid (P.length = n) := hn
  have HBL : Hid (∀ i, (P.getD i []).length ≤ 100000) := hbl
  clear h hn hbl hq
  go_enter Tryz.func21, Tryz.ntmps21
  go_wp2_with fail
  refine Calls.mono CC.out ?_
  rintro e y ⟨rfl, hy⟩
  have HB : Hid (Below w.heap.size w y) := hy
  clear CC hy
  obtain ⟨c, hc⟩ : ∃ c, c = ckE P := ⟨_, rfl⟩
  have HC : Hid (c = ckE P) := hc
  rw [← hc]
  clear hc
  by_cases h0 : c = 0
  · subst h0
    have hz := cl_zero (ck_zero HC.out.symm)
    have CT : Hid _ := reachedD _ _ pvs P pts y (HR.out y HB.out) n HN.out hb HBL.out (outs_no hz.1) (HQ.out y HB.out) hql
    clear hz
    go_wp2_with fail
    refine Calls.mono CT.out ?_
    rintro e z ⟨hz1, hz2⟩
    obtain ⟨ro, rn, rc, rk, rfl⟩ := hz1.pair
    have HE : Hid (AbE w.heap.size P P n pts z (.returned (.tuple #[.slice ro rn rc, .int .i64 rk]))) := Or.inr ⟨HC.out.symm, hz1.mono HB.out.size⟩
    have HB2 : Hid (Below w.heap.size w z) := HB.out.trans (hz2.mono HB.out.size)
    clear CT hz1 hz2 HB
    go_wp2
    go_ret2
    exact ⟨HE.out, HB2.out⟩
  · have hcz : (c != (0 : Int)) = true := by simpa using h0
    have HE : Hid (AbE w.heap.size P P n pts y (.returned (.tuple #[.slice none 0 0, .int .i64 c]))) := Or.inl ⟨by rw [← HC.out]; exact h0, by rw [← HC.out]⟩
    clear h0
    go_wp2
    go_ret2
    exact ⟨HE.out, HB.out⟩
/-- The children of each point, as rows. -/
def chL (P : List (List Int)) (n : Nat) : List (List Int) := (List.range n).map (fun j => chF P j n)
theorem chL_get {P : List (List Int)} {n j : Nat} (h : j < n) : (chL P n).getD j [] = chF P j n := by
  unfold chL
  rw [List.getD_eq_getElem?_getD, List.getElem?_map, List.getElem?_range h]; rfl
theorem chL_len (P : List (List Int)) (n : Nat) : (chL P n).length = n := by simp [chL]
theorem chL_bound (P : List (List Int)) (n i : Nat) : ((chL P n).getD i []).length ≤ n := by
  by_cases h : i < n
  · rw [chL_get h]; exact chF_len _ _ _
  · rw [List.getD_eq_getElem?_getD, List.getElem?_eq_none (by rw [chL_len]; omega)]; simp
theorem chL_wf (P : List (List Int)) (n : Nat) : WfP (chL P n) := fun i x hx => by
  rw [chL_len]
  by_cases h : i < n
  · rw [chL_get h] at hx
    obtain ⟨p, h1, h2, _⟩ := chF_mem.1 hx
    exact ⟨p, h2, h1⟩
  · rw [List.getD_eq_getElem?_getD, List.getElem?_eq_none (by rw [chL_len]; omega)] at hx
    simp at hx
theorem TuC.rrd {B : Nat} {w W : World} {g n : Nat} {cvs : List Value} {P : List (List Int)} (h : TuC B w W g n cvs (fun j => chF P j n)) : RRD W (.slice (some ⟨g, 0, none⟩) n n) cvs (chL P n) := by
  refine ⟨h.row.rg, by rw [h.len, chL_len], fun i x hx => ?_⟩
  have hi : i < n := by have := (List.getElem?_eq_some_iff.1 hx).1; rw [h.len] at this; exact this
  rw [chL_get hi]
  exact (h.inn i x hx).rg
end Go.Proofs.YthdpomgpcblpeaaGreat

namespace Go.Proofs.YthdpomgpcblpeaaGreat
set_option linter.unusedVariables false
open Go.RowKit
/-- How many parents the first points have. -/
def smL (P : List (List Int)) : Nat → Nat
  | 0 => 0
  | i + 1 => smL P i + (P.getD i []).length
theorem smL_le {P : List (List Int)} (h : ∀ i, (P.getD i []).length ≤ 1048576) (i : Nat) : smL P i ≤ i * 1048576 := by
  induction i with
  | zero => simp [smL]
  | succ i ih => simp only [smL]; have := h i; omega
theorem smL_mono {P : List (List Int)} {i j : Nat} (h : i ≤ j) : smL P i ≤ smL P j := by
  induction j with
  | zero => rw [Nat.le_zero.1 h]; exact Nat.le_refl _
  | succ j ih =>
    by_cases e : i = j + 1
    · rw [e]; exact Nat.le_refl _
    · have := ih (by omega); simp only [smL]; omega
/-- What many answers. -/
def manyB (P : List (List Int)) : Bool := decide (200 < P.length) || decide (2000 < smL P P.length)
/-- The marks behind a list that is lent. -/
def mrks : List Int := [-90, -91, -92, -93, -94, -95]
set_option maxRecDepth 100000 in
set_option maxHeartbeats 1600000 in
theorem sameD (u v : Value) (xs ys : List Int) (w : World) (hu : RG (Value.int .i64) w u xs) (hv : RG (Value.int .i64) w v ys) :
    Calls Tryz.prog 10 #[u, v] w fun e w' => e = .returned (.bool (decide (xs = ys))) ∧ ∃ q, w' = w.drewN q := by
  obtain ⟨uo, un, uc, rfl⟩ : ∃ o n c, u = .slice o n c := by obtain ⟨ao, cap, e⟩ := hu.sl; exact ⟨_, _, _, e⟩
  obtain ⟨vo, vn, vc, rfl⟩ : ∃ o n c, v = .slice o n c := by obtain ⟨ao, cap, e⟩ := hv.sl; exact ⟨_, _, _, e⟩
  have hum : un ≤ 9223372036854775807 := by have := hu.room.2.1; have := hu.room.1; unfold maxLen at *; omega
  have HU : Hid (RG (Value.int .i64) w (.slice uo un uc) xs) := hu
  have HV : Hid (RG (Value.int .i64) w (.slice vo vn vc) ys) := hv
  have HUL : Hid (xs.length = un) := hu.len
  have HVL : Hid (ys.length = vn) := hv.len
  clear hu hv
  by_cases hne : un = vn
  · subst hne
    go_enter Tryz.func10, Tryz.ntmps10
    go_wp2
    go_loopg [5] un (fun g1 v5 wr => ∃ k q : Nat, v5 = .int .i64 k ∧ k ≤ un ∧ un - k ≤ g1 ∧ Hid (xs.take k = ys.take k) ∧ Hid (wr = w.drewN q))
    case atStart => exact ⟨0, 0, rfl, by omega, by omega, rfl, rfl⟩
    case round =>
      obtain ⟨k, q0, rfl, hkn, hg1, HA, HQ⟩ := hrel
      have HU2 : Hid (RG (Value.int .i64) wr (.slice uo un uc) xs) := by rw [HQ.out]; exact HU.out.drewN q0
      have HV2 : Hid (RG (Value.int .i64) wr (.slice vo un vc) ys) := by rw [HQ.out]; exact HV.out.drewN q0
      by_cases hlt : k < un
      · have hltz : (k : Int) < (un : Int) := by omega
        obtain ⟨x, gx, ox, hx1, rfl, hx2⟩ := HU2.out.at hlt
        obtain ⟨y, gy, oy, hy1, rfl, hy2⟩ := HV2.out.at hlt
        by_cases he : x = y
        · have HA2 : Hid (xs.take (k + 1) = ys.take (k + 1)) := by show _ = _; rw [List.take_add_one, List.take_add_one, hx1, hy1, HA.out, he]
          have hez : (x != y) = false := by simpa using he
          clear he hx1 hy1 HA
          go_wp2
          go_quiet (fail)
          clear hx2 hy2
          go_wp2
          go_roundg (un - (k + 1))
          case measure => omega
          case rel => exact ⟨k + 1, _, by first | rfl | go_num, by omega, Nat.le_refl _, HA2, by show _ = _; rw [HQ.out]; exact drewR_add _ _ _⟩
        · have HE : Hid (decide (xs = ys) = false) := decide_eq_false fun e => he (by rw [e, hy1] at hx1; exact (Option.some.inj hx1).symm)
          have hez : (x != y) = true := by simpa using he
          clear he hx1 hy1 HA
          go_wp2
          go_quiet (fail)
          clear hx2 hy2
          go_wp2
          go_ret
          exact ⟨by rw [HE.out]; rfl, _, by rw [HQ.out]; exact drewR_add _ _ _⟩
      · have hltz : ¬ (k : Int) < (un : Int) := by omega
        have HE : Hid (decide (xs = ys) = true) := decide_eq_true (by
          have := HA.out
          rw [List.take_of_length_le (by rw [HUL.out]; omega), List.take_of_length_le (by rw [HVL.out]; omega)] at this
          exact this)
        clear HA
        go_wp2
        go_ret
        exact ⟨by rw [HE.out]; rfl, _, HQ.out⟩
  · have HE : Hid (decide (xs = ys) = false) := decide_eq_false fun e => hne (by rw [← HUL.out, ← HVL.out, e])
    have hnz : ((un : Int) != (vn : Int)) = true := by simp; omega
    clear hne
    go_enter Tryz.func10, Tryz.ntmps10
    go_wp2
    go_ret
    exact ⟨by rw [HE.out]; rfl, 0, rfl⟩
end Go.Proofs.YthdpomgpcblpeaaGreat

namespace Go.Proofs.YthdpomgpcblpeaaGreat
set_option linter.unusedVariables false
open Go.RowKit
/-- How memory stands while lists are lent. -/
structure LtI (w W : World) (P : List (List Int)) (i : Nat) (vF vL : Value) (fvs lvs : List Value) : Prop where
  full : OG id w.heap.size 23 W vF fvs
  lent : OG id w.heap.size 23 W vL lvs
  apt : ∀ q, vF.ownBlock = some q → vL.ownBlock ≠ some q
  flen : fvs.length = i
  llen : lvs.length = i
  each : ∀ j, j < i → ∃ g cap, fvs[j]? = some (.slice (some ⟨g, 0, none⟩) ((P.getD j []).length + 6) cap) ∧ lvs[j]? = some (.slice (some ⟨g, 0, none⟩) (P.getD j []).length cap) ∧ OG (Value.int .i64) w.heap.size 3 W (.slice (some ⟨g, 0, none⟩) ((P.getD j []).length + 6) cap) (P.getD j [] ++ mrks)
  frm : Below w.heap.size w W
theorem LtI.below {w W W' : World} {P : List (List Int)} {i : Nat} {vF vL : Value} {fvs lvs : List Value} (h : LtI w W P i vF vL fvs lvs) (b : Below W.heap.size W W') : LtI w W' P i vF vL fvs lvs :=
  ⟨h.full.below b, h.lent.below b, h.apt, h.flen, h.llen, fun j hj => by obtain ⟨g, cap, h1, h2, h3⟩ := h.each j hj; exact ⟨g, cap, h1, h2, h3.below b⟩, bstepB h.frm b⟩
/-- What lent leaves: all that is lent can be read. -/
structure LtE (w : World) (P : List (List Int)) (n : Nat) (l full : Value) (gl lc : Nat) (fvs lvs : List Value) (m : Value) : Prop where
  le : l = .slice (some ⟨gl, 0, none⟩) n lc
  behind : RG id w (.slice (some ⟨gl, 0, none⟩) (n + 1) lc) (lvs ++ [m])
  mark : RG (Value.int .i64) w m [-77]
  lent : RRD w l lvs P
  full : RRD w full fvs (P.map (· ++ mrks))
theorem LtE.below {w w' : World} {P : List (List Int)} {n : Nat} {l full : Value} {gl lc : Nat} {fvs lvs : List Value} {m : Value} (h : LtE w P n l full gl lc fvs lvs m) (b : Below w.heap.size w w') : LtE w' P n l full gl lc fvs lvs m :=
  ⟨h.le, h.behind.below (Nat.le_refl _) b, h.mark.below (Nat.le_refl _) b, h.lent.below (Nat.le_refl _) b, h.full.below (Nat.le_refl _) b⟩
/-- One more is put into the full ones. -/
theorem LtI.pushF {w W W2 : World} {P : List (List Int)} {i : Nat} {vF vL vF' : Value} {fvs lvs fvs' : List Value} (h : LtI w W P i vF vL fvs lvs) (ho : OG id w.heap.size 23 W2 vF' fvs') (hg : W.grownBy W2 vF.ownBlock) (hn : ∀ q, vF'.ownBlock = some q → vF.ownBlock = some q ∨ W.heap.size ≤ q) :
    OG id w.heap.size 23 W2 vL lvs ∧ (∀ q, vF'.ownBlock = some q → vL.ownBlock ≠ some q) ∧ (∀ v L, OG (Value.int .i64) w.heap.size 3 W v L → OG (Value.int .i64) w.heap.size 3 W2 v L) ∧ Below w.heap.size w W2 := by
  refine ⟨h.lent.of_blocks fun q hq => hg.block q (h.lent.lt q hq).2 (fun e => h.apt q e.symm hq), fun q hq e => ?_, fun v L hv => hv.of_blocks fun q hq => hg.block q (hv.lt q hq).2 (fun e => hv.neO h.full (by decide) hq e.symm), h.frm.trans ⟨hg.os, hg.tape, hg.output, hg.size, fun q hq => hg.block q (Nat.lt_of_lt_of_le hq h.frm.size) (fun e => by have := (h.full.lt q e.symm).1; omega)⟩⟩
  rcases hn q hq with e2 | e2
  · exact h.apt q e2 e
  · have := (h.lent.lt q e).2; omega
theorem LtI.pushL {w W W2 : World} {P : List (List Int)} {i : Nat} {vF vL vL' : Value} {fvs lvs lvs' : List Value} (hF : OG id w.heap.size 23 W vF fvs) (hL : OG id w.heap.size 23 W vL lvs) (ha : ∀ q, vF.ownBlock = some q → vL.ownBlock ≠ some q) (hfr : Below w.heap.size w W) (ho : OG id w.heap.size 23 W2 vL' lvs') (hg : W.grownBy W2 vL.ownBlock) (hn : ∀ q, vL'.ownBlock = some q → vL.ownBlock = some q ∨ W.heap.size ≤ q) :
    OG id w.heap.size 23 W2 vF fvs ∧ (∀ q, vF.ownBlock = some q → vL'.ownBlock ≠ some q) ∧ (∀ v L, OG (Value.int .i64) w.heap.size 3 W v L → OG (Value.int .i64) w.heap.size 3 W2 v L) ∧ Below w.heap.size w W2 := by
  refine ⟨hF.of_blocks fun q hq => hg.block q (hF.lt q hq).2 (fun e => ha q hq e.symm), fun q hq e => ?_, fun v L hv => hv.of_blocks fun q hq => hg.block q (hv.lt q hq).2 (fun e => hv.neO hL (by decide) hq e.symm), hfr.trans ⟨hg.os, hg.tape, hg.output, hg.size, fun q hq => hg.block q (Nat.lt_of_lt_of_le hq hfr.size) (fun e => by have := (hL.lt q e.symm).1; omega)⟩⟩
  rcases hn q e with e2 | e2
  · exact ha q hq e2
  · have := (hF.lt q hq).2; omega
theorem own_new {ng m cap : Nat} {v : Value} {s : Nat} (h : v.ownBlock = some ng ∨ ng = s) : ∀ q, (Value.slice (some ⟨ng, 0, none⟩) m cap).ownBlock = some q → v.ownBlock = some q ∨ s ≤ q := fun q hq => by
  have e1 : ng = q := by simpa [Value.ownBlock] using hq
  subst e1
  exact h.imp id (fun e => by omega)
theorem LtI.done {w W : World} {P : List (List Int)} {n : Nat} {vF : Value} {fvs lvs : List Value} {gl lc : Nat} {m : Value} (hn : P.length = n) (hF : OG id w.heap.size 23 W vF fvs) (hfl : fvs.length = n) (hll : lvs.length = n) (he : ∀ j, j < n → ∃ g cap, fvs[j]? = some (.slice (some ⟨g, 0, none⟩) ((P.getD j []).length + 6) cap) ∧ lvs[j]? = some (.slice (some ⟨g, 0, none⟩) (P.getD j []).length cap) ∧ OG (Value.int .i64) w.heap.size 3 W (.slice (some ⟨g, 0, none⟩) ((P.getD j []).length + 6) cap) (P.getD j [] ++ mrks))
    (hL : OG id w.heap.size 23 W (.slice (some ⟨gl, 0, none⟩) (n + 1) lc) (lvs ++ [m])) (hm : RG (Value.int .i64) W m [-77]) : LtE W P n (.slice (some ⟨gl, 0, none⟩) n lc) vF gl lc fvs lvs m := by
  refine ⟨rfl, hL.rg, hm, ⟨?_, by rw [hll, hn], fun i x hx => ?_⟩, ⟨hF.rg, by rw [List.length_map, hfl, hn], fun i x hx => ?_⟩⟩
  · have h1 := hL.rg.cut (m := n) (by omega)
    rw [List.take_left' hll] at h1
    exact h1
  · have hi : i < n := by have := (List.getElem?_eq_some_iff.1 hx).1; omega
    obtain ⟨g, cap, h1, h2, h3⟩ := he i hi
    rw [h2] at hx
    simp only [Option.some.injEq] at hx
    subst hx
    have h4 := h3.rg.cut (m := (P.getD i []).length) (by omega)
    rw [List.take_left' rfl] at h4
    exact h4
  · have hi : i < n := by have := (List.getElem?_eq_some_iff.1 hx).1; omega
    obtain ⟨g, cap, h1, h2, h3⟩ := he i hi
    rw [h1] at hx
    simp only [Option.some.injEq] at hx
    subst hx
    have e1 : (P.map (· ++ mrks)).getD i [] = P.getD i [] ++ mrks := by
      rw [List.getD_eq_getElem?_getD, List.getD_eq_getElem?_getD, List.getElem?_map, List.getElem?_eq_getElem (by omega)]; rfl
    rw [e1]
    exact h3.rg
/-- An append of one thing to a row of the call's own: it stays, or moves to the end. -/
theorem wpList_pushV {α : Type} {enc : α → Value} {P : Program} (w : World) {ops : Array Oper} {rest : List Oper} {o : Oper} {a : Act} {Q : Exit → Act → World → Prop} (hg : o.guard = none) (s x : Operand) (t : TypeId) (hop : o.op = .call { callee := .builtin .append, args := #[s, x], argTypes := #[t, t] })
    (B : Nat) (e : TypeId) (i : TypeInfo) (z : Value) (bytes : Nat) (h1 : P.underlying t = some (.slice e)) (h2 : P.info? e = some i) (h3 : i.zero = some z) (h4 : i.size = 1) (h5 : i.bytes = bytes) (h6 : z.cells.size = 1)
    (v : Value) (L : List α) (hs : a.eval s = v) (hown : OG enc B e w v L) (gb : Nat) (sv : α) (hx : a.eval x = .slice (some ⟨gb, 0, none⟩) 1 1) (cb : w.cell? ⟨gb, 0, none⟩ = some (enc sv)) (hone : (enc sv).oneCell' = true) (hl1 : L.length + 1 ≤ maxLen) (hl2 : (L.length + 1) * bytes ≤ 140737488355328) (hB : B ≤ w.heap.size)
    (hK : ∀ ng n ncap w', OG enc B e w' (.slice (some ⟨ng, 0, none⟩) n ncap) (L ++ [sv]) → w.grownBy w' v.ownBlock → (v.ownBlock = some ng ∨ ng = w.heap.size) → ng < w'.heap.size → wpList P ops Q rest (a.put o.dst (.slice (some ⟨ng, 0, none⟩) n ncap)) w') : wpList P ops Q (o :: rest) a w := by
  refine wpList_plain hg fun K hK' => ?_
  refine wp_append_lies _ s x t hop B e i z 1 bytes h1 h2 h3 h4 h5 h6 (by decide) v L.length _ hs hown ⟨gb, 0, none⟩ 1 1 [enc sv] hx rfl (fun j u hj => by match j, hj with | 0, hj => simp at hj; subst hj; rw [Addr.add_lit, Nat.add_zero]; exact cb) (by intro u hu; simp at hu; subst hu; exact hone) (by decide) hl1 hl2 hB _ rfl ?_
  intro ng ncap w' ho hg' hgg hlt
  refine hK' _ _ (hK ng _ ncap w' ?_ hg' hgg hlt)
  unfold OG
  rw [List.length_append, List.map_append]
  exact ho
end Go.Proofs.YthdpomgpcblpeaaGreat

namespace Go.Proofs.YthdpomgpcblpeaaGreat
set_option linter.unusedVariables false
open Go.RowKit
/-- What the document's Children answers. -/
def RcE (B : Nat) (P : List (List Int)) (n : Nat) (v : Value) (w' : World) : Prop := (ckE P = 0 ∧ ∃ rvs, OG id B 23 w' v rvs ∧ rvs.length = n ∧ ∀ (j : Nat) (u : Value), rvs[j]? = some u → OG (Value.int .i64) B 3 w' u (chF P j n)) ∨ (ckE P ≠ 0 ∧ v = .slice none 0 0)
theorem RcE.rrd {B : Nat} {P : List (List Int)} {n : Nat} {v : Value} {w' : World} (h : RcE B P n v w') : ∃ rvs, RRD w' v rvs (if ckE P = 0 then chL P n else []) := by
  rcases h with ⟨h0, rvs, h1, h2, h3⟩ | ⟨h0, rfl⟩
  · rw [if_pos h0]
    refine ⟨rvs, h1.rg, by rw [h2, chL_len], fun i x hx => ?_⟩
    have hi : i < n := by have := (List.getElem?_eq_some_iff.1 hx).1; omega
    rw [chL_get hi]; exact (h3 i x hx).rg
  · rw [if_neg h0]
    exact ⟨[], RG.nil _, rfl, fun i x h => by simp at h⟩
end Go.Proofs.YthdpomgpcblpeaaGreat

namespace Go.Proofs.YthdpomgpcblpeaaGreat
set_option linter.unusedVariables false
open Go.RowKit
set_option maxRecDepth 100000 in
set_option maxHeartbeats 3200000 in
theorem refAboveD (pv qv : Value) (pvs : List Value) (P : List (List Int)) (pts : List Int) (w : World) (h : RRD w pv pvs P) (n : Nat) (hn : P.length = n) (hb : n ≤ 100000) (hbl : ∀ i, (P.getD i []).length ≤ 100000) (hq : RG (Value.int .i64) w qv pts) (hql : pts.length ≤ 1100000) :
    Calls Tryz.prog 18 #[pv, qv] w fun e w' => AbE w.heap.size P P n pts w' e ∧ Below w.heap.size w w' := by
  have CC : Hid _ := refCheckD pv pvs P w h n hn hb
  obtain ⟨po, pn, pc, rfl⟩ : ∃ o n c, pv = .slice o n c := by obtain ⟨ao, cap, e⟩ := h.out.sl; exact ⟨_, _, _, e⟩
  obtain ⟨qo, qn, qc, rfl⟩ : ∃ o n c, qv = .slice o n c := by obtain ⟨ao, cap, e⟩ := hq.sl; exact ⟨_, _, _, e⟩
  have HR : Hid (∀ W, Below w.heap.size w W → RRD W (.slice po pn pc) pvs P) := fun W hW => h.below (Nat.le_refl _) hW
  have HQ : Hid (∀ W, Below w.heap.size w W → RG (Value.int .i64) W (.slice qo qn qc) pts) := fun W hW => hq.below (Nat.le_refl _) hW
  have HN : Hid (P.length = n) := hn
  have HBL : Hid (∀ i, (P.getD i []).length ≤ 100000) := hbl
  clear h hn hbl hq
  go_enter Tryz.func18, Tryz.ntmps18
  go_wp2_with fail
  refine Calls.mono CC.out ?_
  rintro e y ⟨rfl, hy⟩
  have HB : Hid (Below w.heap.size w y) := hy
  clear CC hy
  obtain ⟨c, hc⟩ : ∃ c, c = ckE P := ⟨_, rfl⟩
  have HC : Hid (c = ckE P) := hc
  rw [← hc]
  clear hc
  by_cases h0 : c = 0
  · subst h0
    have hz := cl_zero (ck_zero HC.out.symm)
    have CT : Hid _ := closedD _ _ pvs P pts y (HR.out y HB.out) n HN.out hb HBL.out (outs_no hz.1) (HQ.out y HB.out) hql
    clear hz
    go_wp2_with fail
    refine Calls.mono CT.out ?_
    rintro e z ⟨hz1, hz2⟩
    obtain ⟨ro, rn, rc, rk, rfl⟩ := hz1.pair
    have HE : Hid (AbE w.heap.size P P n pts z (.returned (.tuple #[.slice ro rn rc, .int .i64 rk]))) := Or.inr ⟨HC.out.symm, hz1.mono HB.out.size⟩
    have HB2 : Hid (Below w.heap.size w z) := HB.out.trans (hz2.mono HB.out.size)
    clear CT hz1 hz2 HB
    go_wp2
    go_ret2
    exact ⟨HE.out, HB2.out⟩
  · have hcz : (c != (0 : Int)) = true := by simpa using h0
    have HE : Hid (AbE w.heap.size P P n pts y (.returned (.tuple #[.slice none 0 0, .int .i64 c]))) := Or.inl ⟨by rw [← HC.out]; exact h0, by rw [← HC.out]⟩
    clear h0
    go_wp2
    go_ret2
    exact ⟨HE.out, HB.out⟩
end Go.Proofs.YthdpomgpcblpeaaGreat

namespace Go.Proofs.YthdpomgpcblpeaaGreat
set_option linter.unusedVariables false
open Go.RowKit
theorem len_nd : ∀ (n : Nat) (L : List Int), L.Nodup → (∀ x ∈ L, ∃ p : Nat, x = (p : Int) ∧ p < n) → L.length ≤ n
  | 0, L, _, h => by
    cases L with
    | nil => exact Nat.le_refl _
    | cons x L => obtain ⟨p, _, hp⟩ := h x (by simp); omega
  | n + 1, L, hd, h => by
    by_cases hm : (n : Int) ∈ L
    · have h1 := List.length_erase_of_mem hm
      have h2 := len_nd n (L.erase (n : Int)) (hd.erase _) (fun x hx => by
        rw [hd.mem_erase_iff] at hx
        obtain ⟨p, e, hp⟩ := h x hx.2
        refine ⟨p, e, ?_⟩
        have : p ≠ n := fun e2 => hx.1 (by rw [e, e2])
        omega)
      omega
    · have := len_nd n L hd (fun x hx => by
        obtain ⟨p, e, hp⟩ := h x hx
        refine ⟨p, e, ?_⟩
        have : p ≠ n := fun e2 => hm (by rw [← e2, ← e]; exact hx)
        omega)
      omega
theorem len_cl {P : List (List Int)} (h : clE P = 0) (i : Nat) : (P.getD i []).length ≤ P.length := by
  have hz := cl_zero h
  exact len_nd _ _ (twices_no hz.2 i) (outs_no hz.1 i)
set_option maxRecDepth 100000 in
set_option maxHeartbeats 3200000 in
theorem orderL (pv : Value) (pvs : List Value) (P : List (List Int)) (w : World) (h : RRD w pv pvs P) (n : Nat) (hn : P.length = n) (hb : n ≤ 100000) (hbl : clE P = 0 → ∀ i, (P.getD i []).length ≤ 100000) :
    Calls Tryz.prog 45 #[pv] w fun e w' => ∃ tv, e = .returned (.tuple #[tv, .int .i64 (ckE P)]) ∧ OG (Value.int .i64) w.heap.size 3 w' tv (ordL P) ∧ Below w.heap.size w w' := by
  have CC : Hid _ := checkListsD pv pvs P w h n hn hb
  obtain ⟨po, pn, pc, rfl⟩ : ∃ o n c, pv = .slice o n c := by obtain ⟨ao, cap, e⟩ := h.out.sl; exact ⟨_, _, _, e⟩
  obtain rfl : pn = n := by rw [← hn, ← h.len, h.out.len]
  have HR : Hid (RRD w (.slice po pn pc) pvs P) := h
  have HN : Hid (P.length = pn) := hn
  have HBL : Hid (clE P = 0 → ∀ i, (P.getD i []).length ≤ 100000) := hbl
  clear h hn hbl
  go_enter Tryz.func45, Tryz.ntmps45
  go_wp2_with fail
  refine Calls.mono CC.out ?_
  rintro e y ⟨rfl, hy⟩
  have HB : Hid (Below w.heap.size w y) := hy
  clear CC hy
  by_cases h0 : clE P = 0
  · have hz := cl_zero h0
    have HBL2 : Hid (∀ i, (P.getD i []).length ≤ 100000) := HBL.out h0
    have hP := outs_no hz.1
    have hnd := twices_no hz.2
    have CR : Hid _ := restOfD _ pvs P y (HR.out.below (Nat.le_refl _) HB.out) hP hnd pn HN.out hb HBL2.out
    have HND : Hid (∀ i, (P.getD i []).Nodup) := hnd
    have HCK : Hid (ckE P = if (outL P).length < pn then 42 else 0) := by show _ = _; unfold ckE; rw [if_pos h0, HN.out]
    rw [h0]
    clear hz hP hnd h0
    go_wp2_with fail
    refine Calls.mono CR.out ?_
    rintro e z ⟨rb, rfl, S, v, g, go, gw, cvs, Ob, Wt, L, hz1, hz2, hz3, hz4, hz5⟩
    have CD : Hid _ := drainD y.heap.size S z rb _ v g go gw pn cvs P Ob Wt L hz1 hz5.size HN.out hb HBL2.out HND.out hz2 hz3 hz4
    have HB2 : Hid (Below w.heap.size w z) := bstepB HB.out hz5
    have HBK : Hid (∀ q, RtS rb go gw v q → w.heap.size ≤ q) := fun q hq => by
      have h1 := hz1.frw
      have h2 := HB.out.size
      rcases hq with e | e | e | e
      · rw [e]; exact Nat.le_trans h2 hz1.hB
      · rw [e]; exact Nat.le_trans h2 h1.1
      · rw [e]; exact Nat.le_trans h2 h1.2.1
      · exact Nat.le_trans h2 (h1.2.2 q e)
    clear CR hz1 hz2 hz3 hz4 hz5 HB
    go_wp2_with fail
    refine Calls.mono CD.out ?_
    rintro e x ⟨tv, rfl, hx1, hx2⟩
    have HB3 : Hid (Below w.heap.size w x) := HB2.out.trans (hx2.below HB2.out.size HBK.out)
    have HO : Hid (OG (Value.int .i64) w.heap.size 3 x tv (outL P)) := hx1.mono HB2.out.size
    obtain ⟨to', tn, tc, rfl⟩ : ∃ o n c, tv = .slice o n c := by obtain ⟨ao, cap, e⟩ := hx1.rg.sl; exact ⟨_, _, _, e⟩
    have hl : (outL P).length = tn := hx1.rg.len
    rw [hl] at HCK
    clear CD hx1 hx2 hl HBK HB2
    by_cases hlt : tn < pn
    · have hltz : (tn : Int) < (pn : Int) := by omega
      have HE : Hid (ckE P = 42) := by show _ = _; rw [HCK.out, if_pos hlt]
      clear HCK
      go_wp2
      go_ret2
      exact ⟨_, by rw [HE.out]; rfl, by unfold ordL; rw [HE.out]; exact OG.nil _ _ _, HB3.out⟩
    · have hltz : ¬ (tn : Int) < (pn : Int) := by omega
      have HE : Hid (ckE P = 0) := by show _ = _; rw [HCK.out, if_neg hlt]
      clear HCK
      go_wp2
      go_ret2
      exact ⟨_, by rw [HE.out]; rfl, by unfold ordL; rw [HE.out]; exact HO.out, HB3.out⟩
  · have HE : Hid (ckE P = clE P) := by show _ = _; unfold ckE; rw [if_neg h0]
    obtain ⟨c, hc⟩ : ∃ c, c = clE P := ⟨_, rfl⟩
    rw [← hc] at h0 HE ⊢
    have hcz : (c != (0 : Int)) = true := by simpa using h0
    have HC0 : Hid (c ≠ 0) := h0
    clear h0 hc
    go_wp2
    go_ret2
    exact ⟨_, by rw [HE.out]; rfl, by unfold ordL; rw [HE.out, if_neg HC0.out]; exact OG.nil _ _ _, HB.out⟩
set_option maxRecDepth 100000 in
set_option maxHeartbeats 1600000 in
theorem checkL (pv : Value) (pvs : List Value) (P : List (List Int)) (w : World) (h : RRD w pv pvs P) (n : Nat) (hn : P.length = n) (hb : n ≤ 100000) (hbl : clE P = 0 → ∀ i, (P.getD i []).length ≤ 100000) :
    Calls Tryz.prog 31 #[pv] w fun e w' => e = .returned (.int .i64 (ckE P)) ∧ Below w.heap.size w w' := by
  have CC : Hid _ := orderL pv pvs P w h n hn hb hbl
  obtain ⟨po, pn, pc, rfl⟩ : ∃ o n c, pv = .slice o n c := by obtain ⟨ao, cap, e⟩ := h.out.sl; exact ⟨_, _, _, e⟩
  clear h hn hbl
  go_enter Tryz.func31, Tryz.ntmps31
  go_wp2_with fail
  refine Calls.mono CC.out ?_
  rintro e y ⟨tv, rfl, _, hy⟩
  have HB : Hid (Below w.heap.size w y) := hy
  clear CC hy
  go_wp2
  go_ret
  exact ⟨rfl, HB.out⟩
set_option maxRecDepth 100000 in
set_option maxHeartbeats 3200000 in
theorem childrenL (pv : Value) (pvs : List Value) (P : List (List Int)) (w : World) (h : RRD w pv pvs P) (n : Nat) (hn : P.length = n) (hb : n ≤ 100000) (hbl : clE P = 0 → ∀ i, (P.getD i []).length ≤ 100000) :
    Calls Tryz.prog 67 #[pv] w fun e w' => ∃ v, e = .returned (.tuple #[v, .int .i64 (ckE P)]) ∧ ChE w P n v w' ∧ Below w.heap.size w w' := by
  have CC : Hid _ := checkL pv pvs P w h n hn hb hbl
  obtain ⟨po, pn, pc, rfl⟩ : ∃ o n c, pv = .slice o n c := by obtain ⟨ao, cap, e⟩ := h.out.sl; exact ⟨_, _, _, e⟩
  obtain rfl : pn = n := by rw [← hn, ← h.len, h.out.len]
  have HR : Hid (RRD w (.slice po pn pc) pvs P) := h
  have HN : Hid (P.length = pn) := hn
  clear h hn hbl
  go_enter Tryz.func67, Tryz.ntmps67
  go_wp2_with fail
  refine Calls.mono CC.out ?_
  rintro e y ⟨rfl, hy⟩
  have HB : Hid (Below w.heap.size w y) := hy
  clear CC hy
  obtain ⟨c, hc⟩ : ∃ c, c = ckE P := ⟨_, rfl⟩
  have HC : Hid (c = ckE P) := hc
  rw [← hc]
  clear hc
  by_cases h0 : c = 0
  · subst h0
    have hz := cl_zero (ck_zero HC.out.symm)
    have CT : Hid _ := turnedD _ pvs P y (HR.out.below (Nat.le_refl _) HB.out) (outs_no hz.1) (twices_no hz.2) pn HN.out hb
    clear hz
    go_wp2_with fail
    refine Calls.mono CT.out ?_
    rintro e z ⟨g, cvs, rfl, hz⟩
    have HE : Hid (ChE w P pn (.slice (some ⟨g, 0, none⟩) pn pn) z) := Or.inl ⟨HC.out.symm, y, g, cvs, HB.out, rfl, hz⟩
    have HB2 : Hid (Below w.heap.size w z) := bstepB HB.out hz.frm
    clear CT hz HB
    go_wp2
    go_ret2
    exact ⟨_, by rw [← HC.out]; rfl, HE.out, HB2.out⟩
  · have hcz : (c != (0 : Int)) = true := by simpa using h0
    have HE : Hid (ChE w P pn (.slice none 0 0) y) := Or.inr ⟨by rw [← HC.out]; exact h0, rfl⟩
    clear h0
    go_wp2
    go_ret2
    exact ⟨_, by rw [← HC.out]; rfl, HE.out, HB.out⟩
end Go.Proofs.YthdpomgpcblpeaaGreat

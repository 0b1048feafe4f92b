/-
  Proved here: the document's Above and Below.
  Proved here: the law's in and place.
  Proved here, plain mathematics: in the order each point stands once, behind all that it hangs on.
-/
import Derived.Test.YtmgbhbdcnciccaaDagRc
import Derived.Test.YtmgbhbdcnciccaaDagXAll
import Derived.Test.YtmgbhbdcnciccaaDagCyO
namespace Go.Proofs.Ytmgbhbdcnciccaa
set_option linter.unusedVariables false
open Go.RowKit
set_option maxRecDepth 100000 in
set_option maxHeartbeats 3200000 in
theorem refAboveD (pv qv : Value) (pvs : List Value) (P : List (List Int)) (pts : List Int) (w : World) (h : RRD w pv pvs P) (n : Nat) (hn : P.length = n) (hb : n ≤ 100000) (hbl : ∀ i, (P.getD i []).length ≤ 100000) (hq : RG (Value.int .i64) w qv pts) (hql : pts.length ≤ 1100000) :
    Calls Try.prog 43 #[pv, qv] w fun e w' => AbE w.heap.size P P n pts w' e ∧ Below w.heap.size w w' := by
  have CC : Hid _ := refCheckD pv pvs P w h n hn hb
  obtain ⟨po, pn, pc, rfl⟩ : ∃ o n c, pv = .slice o n c := by obtain ⟨ao, cap, e⟩ := h.out.sl; exact ⟨_, _, _, e⟩
  obtain ⟨qo, qn, qc, rfl⟩ : ∃ o n c, qv = .slice o n c := by obtain ⟨ao, cap, e⟩ := hq.sl; exact ⟨_, _, _, e⟩
  have HR : Hid (∀ W, Below w.heap.size w W → RRD W (.slice po pn pc) pvs P) := fun W hW => h.below (Nat.le_refl _) hW
  have HQ : Hid (∀ W, Below w.heap.size w W → RG (Value.int .i64) W (.slice qo qn qc) pts) := fun W hW => hq.below (Nat.le_refl _) hW
  have HN : Hid (P.length = n) := hn
  have HBL : Hid (∀ i, (P.getD i []).length ≤ 100000) := hbl
  clear h hn hbl hq
  go_enter Try.func43, Try.ntmps43
  go_wp2_with fail
  refine Calls.mono CC.out ?_
  rintro e y ⟨rfl, hy⟩
  have HB : Hid (Below w.heap.size w y) := hy
  clear CC hy
  obtain ⟨c, hc⟩ : ∃ c, c = ckE P := ⟨_, rfl⟩
  have HC : Hid (c = ckE P) := hc
  rw [← hc]
  clear hc
  by_cases h0 : c = 0
  · subst h0
    have hz := cl_zero (ck_zero HC.out.symm)
    have CT : Hid _ := closedD _ _ pvs P pts y (HR.out y HB.out) n HN.out hb HBL.out (outs_no hz.1) (HQ.out y HB.out) hql
    clear hz
    go_wp2_with fail
    refine Calls.mono CT.out ?_
    rintro e z ⟨hz1, hz2⟩
    obtain ⟨ro, rn, rc, rk, rfl⟩ := hz1.pair
    have HE : Hid (AbE w.heap.size P P n pts z (.returned (.tuple #[.slice ro rn rc, .int .i64 rk]))) := Or.inr ⟨HC.out.symm, hz1.mono HB.out.size⟩
    have HB2 : Hid (Below w.heap.size w z) := HB.out.trans (hz2.mono HB.out.size)
    clear CT hz1 hz2 HB
    go_wp2
    go_ret2
    exact ⟨HE.out, HB2.out⟩
  · have hcz : (c != (0 : Int)) = true := by simpa using h0
    have HE : Hid (AbE w.heap.size P P n pts y (.returned (.tuple #[.slice none 0 0, .int .i64 c]))) := Or.inl ⟨by rw [← HC.out]; exact h0, by rw [← HC.out]⟩
    clear h0
    go_wp2
    go_ret2
    exact ⟨HE.out, HB.out⟩
set_option maxRecDepth 100000 in
set_option maxHeartbeats 3200000 in
theorem refBelowD (pv qv : Value) (pvs : List Value) (P : List (List Int)) (pts : List Int) (w : World) (h : RRD w pv pvs P) (n : Nat) (hn : P.length = n) (hb : n ≤ 100000) (hbl : ∀ i, (P.getD i []).length ≤ 100000) (hq : RG (Value.int .i64) w qv pts) (hql : pts.length ≤ 1100000) :
    Calls Try.prog 44 #[pv, qv] w fun e w' => AbE w.heap.size P (chL P n) n pts w' e ∧ Below w.heap.size w w' := by
  have CC : Hid _ := refChildrenD pv pvs P w h n hn hb
  obtain ⟨po, pn, pc, rfl⟩ : ∃ o n c, pv = .slice o n c := by obtain ⟨ao, cap, e⟩ := h.out.sl; exact ⟨_, _, _, e⟩
  obtain ⟨qo, qn, qc, rfl⟩ : ∃ o n c, qv = .slice o n c := by obtain ⟨ao, cap, e⟩ := hq.sl; exact ⟨_, _, _, e⟩
  have HQ : Hid (∀ W, Below w.heap.size w W → RG (Value.int .i64) W (.slice qo qn qc) pts) := fun W hW => hq.below (Nat.le_refl _) hW
  clear h hn hbl hq
  go_enter Try.func44, Try.ntmps44
  go_wp2_with fail
  refine Calls.mono CC.out ?_
  clear CC
  rintro e y ⟨vo, vn, vc, rfl, hE, hy⟩
  have HB : Hid (Below w.heap.size w y) := hy
  clear hy
  obtain ⟨c, hc⟩ : ∃ c, c = ckE P := ⟨_, rfl⟩
  have HC : Hid (c = ckE P) := hc
  rw [← hc]
  by_cases h0 : ckE P = 0
  · have hcz : c = 0 := by rw [hc]; exact h0
    subst hcz
    obtain ⟨cvs, hT⟩ := hE.rrd
    rw [if_pos h0] at hT
    have CT : Hid _ := closedD (.slice vo vn vc) _ cvs (chL P n) pts y hT n (chL_len _ _) hb (fun i => Nat.le_trans (chL_bound P n i) hb) (chL_wf P n) (HQ.out y HB.out) hql
    clear hc h0 hE hT
    go_wp2_with fail
    refine Calls.mono CT.out ?_
    rintro e z ⟨hz1, hz2⟩
    obtain ⟨ro, rn, rc, rk, rfl⟩ := hz1.pair
    have HE : Hid (AbE w.heap.size P (chL P n) n pts z (.returned (.tuple #[.slice ro rn rc, .int .i64 rk]))) := Or.inr ⟨HC.out.symm, hz1.mono HB.out.size⟩
    have HB2 : Hid (Below w.heap.size w z) := HB.out.trans (hz2.mono HB.out.size)
    clear CT hz1 hz2 HB
    go_wp2
    go_ret2
    exact ⟨HE.out, HB2.out⟩
  · have hcz : (c != (0 : Int)) = true := by rw [hc]; simpa using h0
    have HE : Hid (AbE w.heap.size P (chL P n) n pts y (.returned (.tuple #[.slice none 0 0, .int .i64 c]))) := Or.inl ⟨h0, by rw [← HC.out]⟩
    clear hc h0 hE
    go_wp2
    go_ret2
    exact ⟨HE.out, HB.out⟩
end Go.Proofs.Ytmgbhbdcnciccaa

namespace Go.Proofs.Ytmgbhbdcnciccaa
set_option linter.unusedVariables false
open Go.RowKit
/-- Where a number stands in a list; -1: nowhere. -/
def plF (xs : List Int) (x : Int) : Int := match xs.findIdx? (fun y => decide (y = x)) with | some i => (i : Int) | none => -1
theorem plF_some {xs : List Int} {x : Int} {i : Nat} (h : xs[i]? = some x) (hn : x ∉ xs.take i) : plF xs x = (i : Int) := by
  unfold plF
  have : xs.findIdx? (fun y => decide (y = x)) = some i := by
    rw [List.findIdx?_eq_some_iff_getElem]
    have hi := (List.getElem?_eq_some_iff.1 h).1
    refine ⟨hi, by have := (List.getElem?_eq_some_iff.1 h).2; simp [this], fun j hj => ?_⟩
    have hj2 : j < xs.length := by omega
    simp only [decide_eq_true_eq]
    intro e
    refine hn (List.mem_of_getElem? (i := j) ?_)
    rw [List.getElem?_take_of_lt hj, List.getElem?_eq_getElem hj2, e]
  rw [this]
theorem plF_none {xs : List Int} {x : Int} (hn : x ∉ xs) : plF xs x = -1 := by
  unfold plF
  have : xs.findIdx? (fun y => decide (y = x)) = none := by
    rw [List.findIdx?_eq_none_iff]
    intro y hy
    simp only [decide_eq_false_iff_not]
    intro e; subst e; exact hn hy
  rw [this]
theorem mem_take_succ {xs : List Int} {x y : Int} {k : Nat} (h : xs[k]? = some y) (hx : x ∉ xs.take k) (hne : y ≠ x) : x ∉ xs.take (k + 1) := by
  rw [List.take_add_one, h]
  intro hm
  rcases List.mem_append.1 hm with e | e
  · exact hx e
  · simp at e; exact hne e.symm
set_option maxRecDepth 100000 in
set_option maxHeartbeats 3200000 in
theorem inD (v : Value) (xs : List Int) (x : Int) (w : World) (hv : RG (Value.int .i64) w v xs) :
    Calls Try.prog 22 #[v, .int .i64 x] w fun e w' => e = .returned (.bool (decide (x ∈ xs))) ∧ w' = w := by
  obtain ⟨ao, cap, rfl⟩ := hv.sl
  obtain ⟨n, hn⟩ : ∃ n, xs.length = n := ⟨_, rfl⟩
  have hroom := hv.room
  rw [hn] at hv hroom ⊢
  unfold maxLen at hroom
  have HV : Hid (RG (Value.int .i64) w (.slice ao n cap) xs) := hv
  have HN : Hid (xs.length = n) := hn
  clear hv hn
  go_enter Try.func22, Try.ntmps22
  go_wp2
  go_loopg [5] n (fun g1 v5 wr => ∃ k : Nat, v5 = .int .i64 k ∧ k ≤ n ∧ n - k ≤ g1 ∧ Hid (x ∉ xs.take k) ∧ wr = w)
  case atStart => exact ⟨0, rfl, by omega, by omega, by simp [Hid], rfl⟩
  case round =>
    obtain ⟨k, rfl, hkn, hg1, HX, rfl⟩ := hrel
    by_cases hlt : k < n
    · have hltz : (k : Int) < (n : Int) := by omega
      obtain ⟨y, gx, ox, hy1, rfl, hy2⟩ := HV.out.at hlt
      by_cases hyx : y = x
      · have HM : Hid (x ∈ xs) := by show _ ∈ _; rw [← hyx]; exact List.mem_of_getElem? hy1
        subst hyx
        clear hy1
        go_wp2
        go_ret
        exact ⟨by rw [decide_eq_true HM.out]; rfl, rfl⟩
      · have hyb : (y == x) = false := by simp [hyx]
        have HX2 : Hid (x ∉ xs.take (k + 1)) := mem_take_succ hy1 HX.out hyx
        clear hy1 hyx
        go_wp2
        go_roundg (n - (k + 1))
        case measure => omega
        case rel => exact ⟨k + 1, by first | rfl | go_num, by omega, Nat.le_refl _, HX2, rfl⟩
    · have hltz : ¬ (k : Int) < (n : Int) := by omega
      have HM : Hid (x ∉ xs) := by
        have := HX.out
        rw [List.take_of_length_le (by rw [HN.out]; omega)] at this
        exact this
      go_wp2
      go_ret
      exact ⟨by rw [decide_eq_false HM.out]; rfl, rfl⟩
set_option maxRecDepth 100000 in
set_option maxHeartbeats 3200000 in
theorem placeD (v : Value) (xs : List Int) (x : Int) (w : World) (hv : RG (Value.int .i64) w v xs) :
    Calls Try.prog 21 #[v, .int .i64 x] w fun e w' => e = .returned (.int .i64 (plF xs x)) ∧ w' = w := by
  obtain ⟨ao, cap, rfl⟩ := hv.sl
  obtain ⟨n, hn⟩ : ∃ n, xs.length = n := ⟨_, rfl⟩
  have hroom := hv.room
  rw [hn] at hv hroom ⊢
  unfold maxLen at hroom
  have HV : Hid (RG (Value.int .i64) w (.slice ao n cap) xs) := hv
  have HN : Hid (xs.length = n) := hn
  clear hv hn
  go_enter Try.func21, Try.ntmps21
  go_wp2
  go_loopg [5] n (fun g1 v5 wr => ∃ k : Nat, v5 = .int .i64 k ∧ k ≤ n ∧ n - k ≤ g1 ∧ Hid (x ∉ xs.take k) ∧ wr = w)
  case atStart => exact ⟨0, rfl, by omega, by omega, by simp [Hid], rfl⟩
  case round =>
    obtain ⟨k, rfl, hkn, hg1, HX, rfl⟩ := hrel
    by_cases hlt : k < n
    · have hltz : (k : Int) < (n : Int) := by omega
      obtain ⟨y, gx, ox, hy1, rfl, hy2⟩ := HV.out.at hlt
      by_cases hyx : y = x
      · have HM : Hid (plF xs x = (k : Int)) := plF_some (by rw [← hyx]; exact hy1) HX.out
        subst hyx
        clear hy1
        go_wp2
        go_ret
        exact ⟨by rw [HM.out]; rfl, rfl⟩
      · have hyb : (y == x) = false := by simp [hyx]
        have HX2 : Hid (x ∉ xs.take (k + 1)) := mem_take_succ hy1 HX.out hyx
        clear hy1 hyx
        go_wp2
        go_roundg (n - (k + 1))
        case measure => omega
        case rel => exact ⟨k + 1, by first | rfl | go_num, by omega, Nat.le_refl _, HX2, rfl⟩
    · have hltz : ¬ (k : Int) < (n : Int) := by omega
      have HM : Hid (plF xs x = -1) := by
        have := HX.out
        rw [List.take_of_length_le (by rw [HN.out]; omega)] at this
        exact plF_none this
      go_wp2
      go_ret
      exact ⟨by rw [HM.out]; rfl, rfl⟩
end Go.Proofs.Ytmgbhbdcnciccaa

namespace Go.Proofs.Ytmgbhbdcnciccaa
set_option linter.unusedVariables false
/-- Each stands behind its parents, and not twice. -/
def GdO (P : List (List Int)) (T : List Int) : Prop := ∀ (k : Nat) (x : Int), T[k]? = some x → (∀ p ∈ P.getD x.toNat [], p ∈ T.take k) ∧ x ∉ T.take k
theorem GdO.snoc {P : List (List Int)} {T : List Int} (h : GdO P T) {i : Nat} (hr : rdy P T i) : GdO P (T ++ [(i : Int)]) := by
  intro k x hx
  rcases Nat.lt_or_ge k T.length with e | e
  · rw [List.getElem?_append_left e] at hx
    rw [List.take_append_of_le_length (by omega)]
    exact h k x hx
  · have hk : k = T.length := by
      have := (List.getElem?_eq_some_iff.1 hx).1
      rw [List.length_append, List.length_singleton] at this
      omega
    subst hk
    rw [List.getElem?_append_right (Nat.le_refl _), Nat.sub_self] at hx
    have e2 : x = (i : Int) := by simpa using hx.symm
    subst e2
    rw [List.take_left', Int.toNat_natCast]
    · exact ⟨hr.2, hr.1⟩
    · rfl
theorem GdO.out {P : List (List Int)} : ∀ (f : Nat) (T : List Int), GdO P T → GdO P (outF P f T) := by
  intro f
  induction f with
  | zero => intro T h; exact h
  | succ f ih =>
    intro T h
    rcases hn : nxtF P T with _ | i
    · have e : outF P (f + 1) T = T := by rw [outF, hn]
      rw [e]; exact h
    · have e : outF P (f + 1) T = outF P f (T ++ [(i : Int)]) := by rw [outF, hn]
      rw [e]
      refine ih _ (h.snoc ?_)
      unfold nxtF at hn
      have h1 := List.find?_some hn
      simpa using h1
theorem out_gd (P : List (List Int)) : GdO P (outL P) := GdO.out _ _ (fun k x h => by simp at h)
/-- Where all are in the order: where a point stands, and where its parents do. -/
theorem out_place {P : List (List Int)} (h : (outL P).length = P.length) {i : Nat} (hi : i < P.length) : ∃ k : Nat, plF (outL P) (i : Int) = (k : Int) ∧ ∀ p ∈ P.getD i [], plF (outL P) p < (k : Int) := by
  have hpn : Pts P.length ([] : List Int) := ⟨List.nodup_nil, by simp⟩
  have hP := (out_all (P := P) P.length [] hpn).2.1
  have hP' : Pts P.length (outL P) := hP
  have hmem : (i : Int) ∈ outL P := by
    rcases Classical.em ((i : Int) ∈ outL P) with e | e
    · exact e
    · have := (hP'.snoc hi e).len
      rw [List.length_append, List.length_singleton] at this
      omega
  obtain ⟨k, hk, e⟩ := List.getElem_of_mem hmem
  have hk2 : (outL P)[k]? = some (i : Int) := by rw [← e]; exact List.getElem?_eq_getElem hk
  obtain ⟨g1, g2⟩ := out_gd P k _ hk2
  rw [Int.toNat_natCast] at g1
  refine ⟨k, plF_some hk2 g2, fun p hp => ?_⟩
  obtain ⟨j, hj, ej⟩ := List.getElem_of_mem (g1 p hp)
  rw [List.length_take] at hj
  have hj2 : (outL P)[j]? = some p := by
    have h1 : ((outL P).take k)[j]? = some p := by rw [← ej]; exact List.getElem?_eq_getElem (by rw [List.length_take]; exact hj)
    rwa [List.getElem?_take_of_lt (by omega)] at h1
  rw [plF_some hj2 (out_gd P j p hj2).2]
  omega
end Go.Proofs.Ytmgbhbdcnciccaa

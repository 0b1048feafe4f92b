/-
  Proved here: package dag's Above and Below.
  Proved here: the law's in and place.
-/
import Derived.Test.YtmgbhbdcnciccaaDagRe
import Derived.Test.YtmgbhbdcnciccaaDagCaAll
namespace Go.Proofs.Ytmgbhbdcnciccaa
set_option linter.unusedVariables false
open Go.RowKit
/-- What Above and Below answer: steps C. -/
def AbE (B : Nat) (P C : List (List Int)) (n : Nat) (pts : List Int) (w' : World) (e : Ending) : Prop :=
  (ckE P ≠ 0 ∧ e = .returned (.tuple #[.slice none 0 0, .int .i64 (ckE P)])) ∨ (ckE P = 0 ∧ ReE B C n pts w' e)
theorem ReE.mono {B B' : Nat} {C : List (List Int)} {n : Nat} {pts : List Int} {w' : World} {e : Ending} (h : ReE B C n pts w' e) (hB : B' ≤ B) : ReE B' C n pts w' e := by
  rcases h with h | ⟨h0, tv, R, h1, h2, h3, h4⟩
  · exact Or.inl h
  · exact Or.inr ⟨h0, tv, R, h1, h2.mono hB, h3, h4⟩
/-- It is a pair. -/
theorem ReE.pair {B : Nat} {C : List (List Int)} {n : Nat} {pts : List Int} {w' : World} {e : Ending} (h : ReE B C n pts w' e) : ∃ o nn cc c, e = .returned (.tuple #[.slice o nn cc, .int .i64 c]) := by
  rcases h with ⟨_, h⟩ | ⟨h0, tv, R, h1, h2, h3, h4⟩
  · exact ⟨_, _, _, _, h⟩
  · obtain ⟨ao, cap, e1⟩ := h2.rg.sl
    exact ⟨ao, R.length, cap, 0, by rw [h1, e1]⟩
set_option maxRecDepth 100000 in
set_option maxHeartbeats 3200000 in
theorem aboveD (pv qv : Value) (pvs : List Value) (P : List (List Int)) (pts : List Int) (w : World) (h : RRD w pv pvs P) (n : Nat) (hn : P.length = n) (hb : n ≤ 100000) (hbl : ∀ i, (P.getD i []).length ≤ 100000) (hq : RG (Value.int .i64) w qv pts) (hql : pts.length ≤ 1100000) :
    Calls Try.prog 24 #[pv, qv] w fun e w' => AbE w.heap.size P P n pts w' e ∧ Below w.heap.size w w' := by
  have CC : Hid _ := checkD pv pvs P w h n hn hb hbl
  obtain ⟨po, pn, pc, rfl⟩ : ∃ o n c, pv = .slice o n c := by obtain ⟨ao, cap, e⟩ := h.out.sl; exact ⟨_, _, _, e⟩
  obtain ⟨qo, qn, qc, rfl⟩ : ∃ o n c, qv = .slice o n c := by obtain ⟨ao, cap, e⟩ := hq.sl; exact ⟨_, _, _, e⟩
  have HR : Hid (∀ W, Below w.heap.size w W → RRD W (.slice po pn pc) pvs P) := fun W hW => h.below (Nat.le_refl _) hW
  have HQ : Hid (∀ W, Below w.heap.size w W → RG (Value.int .i64) W (.slice qo qn qc) pts) := fun W hW => hq.below (Nat.le_refl _) hW
  have HN : Hid (P.length = n) := hn
  have HBL : Hid (∀ i, (P.getD i []).length ≤ 100000) := hbl
  clear h hn hbl hq
  go_enter Try.func24, Try.ntmps24
  go_wp2_with fail
  refine Calls.mono CC.out ?_
  rintro e y ⟨rfl, hy⟩
  have HB : Hid (Below w.heap.size w y) := hy
  clear CC hy
  obtain ⟨c, hc⟩ : ∃ c, c = ckE P := ⟨_, rfl⟩
  have HC : Hid (c = ckE P) := hc
  rw [← hc]
  clear hc
  by_cases h0 : c = 0
  · subst h0
    have hz := cl_zero (ck_zero HC.out.symm)
    have CT : Hid _ := reachedD _ _ pvs P pts y (HR.out y HB.out) n HN.out hb HBL.out (outs_no hz.1) (HQ.out y HB.out) hql
    clear hz
    go_wp2_with fail
    refine Calls.mono CT.out ?_
    rintro e z ⟨hz1, hz2⟩
    obtain ⟨ro, rn, rc, rk, rfl⟩ := hz1.pair
    have HE : Hid (AbE w.heap.size P P n pts z (.returned (.tuple #[.slice ro rn rc, .int .i64 rk]))) := Or.inr ⟨HC.out.symm, hz1.mono HB.out.size⟩
    have HB2 : Hid (Below w.heap.size w z) := HB.out.trans (hz2.mono HB.out.size)
    clear CT hz1 hz2 HB
    go_wp2
    go_ret2
    exact ⟨HE.out, HB2.out⟩
  · have hcz : (c != (0 : Int)) = true := by simpa using h0
    have HE : Hid (AbE w.heap.size P P n pts y (.returned (.tuple #[.slice none 0 0, .int .i64 c]))) := Or.inl ⟨by rw [← HC.out]; exact h0, by rw [← HC.out]⟩
    clear h0
    go_wp2
    go_ret2
    exact ⟨HE.out, HB.out⟩
/-- The children of each point, as rows. -/
def chL (P : List (List Int)) (n : Nat) : List (List Int) := (List.range n).map (fun j => chF P j n)
theorem chL_get {P : List (List Int)} {n j : Nat} (h : j < n) : (chL P n).getD j [] = chF P j n := by
  unfold chL
  rw [List.getD_eq_getElem?_getD, List.getElem?_map, List.getElem?_range h]; rfl
theorem chL_len (P : List (List Int)) (n : Nat) : (chL P n).length = n := by simp [chL]
theorem chL_bound (P : List (List Int)) (n i : Nat) : ((chL P n).getD i []).length ≤ n := by
  by_cases h : i < n
  · rw [chL_get h]; exact chF_len _ _ _
  · rw [List.getD_eq_getElem?_getD, List.getElem?_eq_none (by rw [chL_len]; omega)]; simp
theorem chL_wf (P : List (List Int)) (n : Nat) : WfP (chL P n) := fun i x hx => by
  rw [chL_len]
  by_cases h : i < n
  · rw [chL_get h] at hx
    obtain ⟨p, h1, h2, _⟩ := chF_mem.1 hx
    exact ⟨p, h2, h1⟩
  · rw [List.getD_eq_getElem?_getD, List.getElem?_eq_none (by rw [chL_len]; omega)] at hx
    simp at hx
theorem TuC.rrd {B : Nat} {w W : World} {g n : Nat} {cvs : List Value} {P : List (List Int)} (h : TuC B w W g n cvs (fun j => chF P j n)) : RRD W (.slice (some ⟨g, 0, none⟩) n n) cvs (chL P n) := by
  refine ⟨h.row.rg, by rw [h.len, chL_len], fun i x hx => ?_⟩
  have hi : i < n := by have := (List.getElem?_eq_some_iff.1 hx).1; rw [h.len] at this; exact this
  rw [chL_get hi]
  exact (h.inn i x hx).rg
set_option maxRecDepth 100000 in
set_option maxHeartbeats 3200000 in
theorem belowD (pv qv : Value) (pvs : List Value) (P : List (List Int)) (pts : List Int) (w : World) (h : RRD w pv pvs P) (n : Nat) (hn : P.length = n) (hb : n ≤ 100000) (hbl : ∀ i, (P.getD i []).length ≤ 100000) (hq : RG (Value.int .i64) w qv pts) (hql : pts.length ≤ 1100000) :
    Calls Try.prog 25 #[pv, qv] w fun e w' => AbE w.heap.size P (chL P n) n pts w' e ∧ Below w.heap.size w w' := by
  have CC : Hid _ := childrenD pv pvs P w h n hn hb hbl
  obtain ⟨po, pn, pc, rfl⟩ : ∃ o n c, pv = .slice o n c := by obtain ⟨ao, cap, e⟩ := h.out.sl; exact ⟨_, _, _, e⟩
  obtain ⟨qo, qn, qc, rfl⟩ : ∃ o n c, qv = .slice o n c := by obtain ⟨ao, cap, e⟩ := hq.sl; exact ⟨_, _, _, e⟩
  have HQ : Hid (∀ W, Below w.heap.size w W → RG (Value.int .i64) W (.slice qo qn qc) pts) := fun W hW => hq.below (Nat.le_refl _) hW
  clear h hn hbl hq
  go_enter Try.func25, Try.ntmps25
  go_wp2_with fail
  refine Calls.mono CC.out ?_
  clear CC
  rintro e y ⟨v, rfl, hE, hy⟩
  have HB : Hid (Below w.heap.size w y) := hy
  clear hy
  obtain ⟨c, hc⟩ : ∃ c, c = ckE P := ⟨_, rfl⟩
  have HC : Hid (c = ckE P) := hc
  rw [← hc]
  rcases hE with ⟨h0, W, g, cvs, hW, rfl, hT⟩ | ⟨h0, rfl⟩
  · have hcz : c = 0 := by rw [hc]; exact h0
    subst hcz
    have CT : Hid _ := reachedD (.slice (some ⟨g, 0, none⟩) n n) _ cvs (chL P n) pts y hT.rrd n (chL_len _ _) hb (fun i => Nat.le_trans (chL_bound P n i) hb) (chL_wf P n) (HQ.out y HB.out) hql
    clear hc h0 hW hT
    go_wp2_with fail
    refine Calls.mono CT.out ?_
    rintro e z ⟨hz1, hz2⟩
    obtain ⟨ro, rn, rc, rk, rfl⟩ := hz1.pair
    have HE : Hid (AbE w.heap.size P (chL P n) n pts z (.returned (.tuple #[.slice ro rn rc, .int .i64 rk]))) := Or.inr ⟨HC.out.symm, hz1.mono HB.out.size⟩
    have HB2 : Hid (Below w.heap.size w z) := HB.out.trans (hz2.mono HB.out.size)
    clear CT hz1 hz2 HB
    go_wp2
    go_ret2
    exact ⟨HE.out, HB2.out⟩
  · have hcz : (c != (0 : Int)) = true := by rw [hc]; simpa using h0
    have HE : Hid (AbE w.heap.size P (chL P n) n pts y (.returned (.tuple #[.slice none 0 0, .int .i64 c]))) := Or.inl ⟨h0, by rw [← HC.out]⟩
    clear hc h0
    go_wp2
    go_ret2
    exact ⟨HE.out, HB.out⟩
end Go.Proofs.Ytmgbhbdcnciccaa

namespace Go.Proofs.Ytmgbhbdcnciccaa
set_option linter.unusedVariables false
open Go.RowKit
/-- Where a number stands in a list; -1: nowhere. -/
def plF (xs : List Int) (x : Int) : Int := match xs.findIdx? (fun y => decide (y = x)) with | some i => (i : Int) | none => -1
theorem plF_some {xs : List Int} {x : Int} {i : Nat} (h : xs[i]? = some x) (hn : x ∉ xs.take i) : plF xs x = (i : Int) := by
  unfold plF
  have : xs.findIdx? (fun y => decide (y = x)) = some i := by
    rw [List.findIdx?_eq_some_iff_getElem]
    have hi := (List.getElem?_eq_some_iff.1 h).1
    refine ⟨hi, by have := (List.getElem?_eq_some_iff.1 h).2; simp [this], fun j hj => ?_⟩
    have hj2 : j < xs.length := by omega
    simp only [decide_eq_true_eq]
    intro e
    refine hn (List.mem_of_getElem? (i := j) ?_)
    rw [List.getElem?_take_of_lt hj, List.getElem?_eq_getElem hj2, e]
  rw [this]
theorem plF_none {xs : List Int} {x : Int} (hn : x ∉ xs) : plF xs x = -1 := by
  unfold plF
  have : xs.findIdx? (fun y => decide (y = x)) = none := by
    rw [List.findIdx?_eq_none_iff]
    intro y hy
    simp only [decide_eq_false_iff_not]
    intro e; subst e; exact hn hy
  rw [this]
theorem mem_take_succ {xs : List Int} {x y : Int} {k : Nat} (h : xs[k]? = some y) (hx : x ∉ xs.take k) (hne : y ≠ x) : x ∉ xs.take (k + 1) := by
  rw [List.take_add_one, h]
  intro hm
  rcases List.mem_append.1 hm with e | e
  · exact hx e
  · simp at e; exact hne e.symm
set_option maxRecDepth 100000 in
set_option maxHeartbeats 3200000 in
theorem inD (v : Value) (xs : List Int) (x : Int) (w : World) (hv : RG (Value.int .i64) w v xs) :
    Calls Try.prog 22 #[v, .int .i64 x] w fun e w' => e = .returned (.bool (decide (x ∈ xs))) ∧ w' = w := by
  obtain ⟨ao, cap, rfl⟩ := hv.sl
  obtain ⟨n, hn⟩ : ∃ n, xs.length = n := ⟨_, rfl⟩
  have hroom := hv.room
  rw [hn] at hv hroom ⊢
  unfold maxLen at hroom
  have HV : Hid (RG (Value.int .i64) w (.slice ao n cap) xs) := hv
  have HN : Hid (xs.length = n) := hn
  clear hv hn
  go_enter Try.func22, Try.ntmps22
  go_wp2
  go_loopg [5] n (fun g1 v5 wr => ∃ k : Nat, v5 = .int .i64 k ∧ k ≤ n ∧ n - k ≤ g1 ∧ Hid (x ∉ xs.take k) ∧ wr = w)
  case atStart => exact ⟨0, rfl, by omega, by omega, by simp [Hid], rfl⟩
  case round =>
    obtain ⟨k, rfl, hkn, hg1, HX, rfl⟩ := hrel
    by_cases hlt : k < n
    · have hltz : (k : Int) < (n : Int) := by omega
      obtain ⟨y, gx, ox, hy1, rfl, hy2⟩ := HV.out.at hlt
      by_cases hyx : y = x
      · have HM : Hid (x ∈ xs) := by show _ ∈ _; rw [← hyx]; exact List.mem_of_getElem? hy1
        subst hyx
        clear hy1
        go_wp2
        go_ret
        exact ⟨by rw [decide_eq_true HM.out]; rfl, rfl⟩
      · have hyb : (y == x) = false := by simp [hyx]
        have HX2 : Hid (x ∉ xs.take (k + 1)) := mem_take_succ hy1 HX.out hyx
        clear hy1 hyx
        go_wp2
        go_roundg (n - (k + 1))
        case measure => omega
        case rel => exact ⟨k + 1, by first | rfl | go_num, by omega, Nat.le_refl _, HX2, rfl⟩
    · have hltz : ¬ (k : Int) < (n : Int) := by omega
      have HM : Hid (x ∉ xs) := by
        have := HX.out
        rw [List.take_of_length_le (by rw [HN.out]; omega)] at this
        exact this
      go_wp2
      go_ret
      exact ⟨by rw [decide_eq_false HM.out]; rfl, rfl⟩
set_option maxRecDepth 100000 in
set_option maxHeartbeats 3200000 in
theorem placeD (v : Value) (xs : List Int) (x : Int) (w : World) (hv : RG (Value.int .i64) w v xs) :
    Calls Try.prog 21 #[v, .int .i64 x] w fun e w' => e = .returned (.int .i64 (plF xs x)) ∧ w' = w := by
  obtain ⟨ao, cap, rfl⟩ := hv.sl
  obtain ⟨n, hn⟩ : ∃ n, xs.length = n := ⟨_, rfl⟩
  have hroom := hv.room
  rw [hn] at hv hroom ⊢
  unfold maxLen at hroom
  have HV : Hid (RG (Value.int .i64) w (.slice ao n cap) xs) := hv
  have HN : Hid (xs.length = n) := hn
  clear hv hn
  go_enter Try.func21, Try.ntmps21
  go_wp2
  go_loopg [5] n (fun g1 v5 wr => ∃ k : Nat, v5 = .int .i64 k ∧ k ≤ n ∧ n - k ≤ g1 ∧ Hid (x ∉ xs.take k) ∧ wr = w)
  case atStart => exact ⟨0, rfl, by omega, by omega, by simp [Hid], rfl⟩
  case round =>
    obtain ⟨k, rfl, hkn, hg1, HX, rfl⟩ := hrel
    by_cases hlt : k < n
    · have hltz : (k : Int) < (n : Int) := by omega
      obtain ⟨y, gx, ox, hy1, rfl, hy2⟩ := HV.out.at hlt
      by_cases hyx : y = x
      · have HM : Hid (plF xs x = (k : Int)) := plF_some (by rw [← hyx]; exact hy1) HX.out
        subst hyx
        clear hy1
        go_wp2
        go_ret
        exact ⟨by rw [HM.out]; rfl, rfl⟩
      · have hyb : (y == x) = false := by simp [hyx]
        have HX2 : Hid (x ∉ xs.take (k + 1)) := mem_take_succ hy1 HX.out hyx
        clear hy1 hyx
        go_wp2
        go_roundg (n - (k + 1))
        case measure => omega
        case rel => exact ⟨k + 1, by first | rfl | go_num, by omega, Nat.le_refl _, HX2, rfl⟩
    · have hltz : ¬ (k : Int) < (n : Int) := by omega
      have HM : Hid (plF xs x = -1) := by
        have := HX.out
        rw [List.take_of_length_le (by rw [HN.out]; omega)] at this
        exact plF_none this
      go_wp2
      go_ret
      exact ⟨by rw [HM.out]; rfl, rfl⟩
end Go.Proofs.Ytmgbhbdcnciccaa

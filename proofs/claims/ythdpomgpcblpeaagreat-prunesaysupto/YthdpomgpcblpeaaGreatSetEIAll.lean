/-
  Proved here: slices.BinarySearch and slices.EqualFunc at int, over rows that can be read.
  Proved here: plain facts (no program): a box of one cell; strictly rising lists by whatever order: where a thing stands tells whether it is in; what is left of sorting and leaving out rises.
  Proved here: package set at int: Len, List, Has, Of, Same, Within.
-/
import Derived.Test.YthdpomgpcblpeaaGreatSetDIAll
namespace Go.Proofs.YthdpomgpcblpeaaGreat
open Go.Shelf Go.RowKit Go.Lib Go.Sort
/-- whether the thing at place k is the same -/
def fndI (L : List Int) (x : Int) (k : Nat) : Bool := match L[k]? with
  | some y => smI y x
  | none => false
theorem fndI_at {L : List Int} {x y : Int} {k : Nat} (h : L[k]? = some y) : fndI L x k = smI y x := by unfold fndI; rw [h]
theorem fndI_off {L : List Int} {x : Int} {k : Nat} (h : L.length ≤ k) : fndI L x k = false := by unfold fndI; rw [List.getElem?_eq_none h]
set_option maxHeartbeats 4000000 in
set_option maxRecDepth 1000000 in
theorem searchI (v : Value) (L : List Int) (x : Int) (w : World) (hv : RG (Value.int .i64) w v L) (hS : Srt (leOf (ltOf cfI)) L) (hz : L.length ≤ 1152921504606846976) :
    Calls Tryz.prog 37 #[v, (Value.int .i64) x] w fun e w' => ∃ k : Nat, e = .returned (.tuple #[.int .i64 k, .bool (fndI L x k)]) ∧ Pos (ltOf cfI) L x k ∧ ∃ q, w' = w.drewN q := by
  obtain ⟨ao, cap, rfl, hc, hm, hnil, hcell⟩ := hv
  clear hnil
  unfold maxLen at hm
  obtain ⟨n, hn⟩ : ∃ n, L.length = n := ⟨_, rfl⟩
  rw [hn] at hc hz ⊢
  have HN : Hid (L.length = n) := hn
  have HC : Hid (∀ i x, L[i]? = some x → ∃ g o, ao = some ⟨g, o, none⟩ ∧ w.cell? ⟨g, o + i, none⟩ = some ((Value.int .i64) x)) := hcell
  have HM : Hid (∀ s t y z, s ≤ t → L[s]? = some y → L[t]? = some z → ltOf cfI z x = true → ltOf cfI y x = true) := fun s t y z h1 h2 h3 h4 => srt_mono ordI hS h1 h2 h3 h4
  clear hn hcell hS
  go_enter Tryz.func37, Tryz.ntmps37
  go_wp2
  go_loopg [7, 8] n (fun g1 v7 v8 wr => ∃ lo hi : Nat, v7 = .int .i64 lo ∧ v8 = .int .i64 hi ∧ lo ≤ hi ∧ hi ≤ n ∧ hi - lo ≤ g1 ∧ Hid (∀ t y, t < lo → L[t]? = some y → ltOf cfI y x = true) ∧ Hid (∀ t y, hi ≤ t → L[t]? = some y → ltOf cfI y x = false) ∧ ∃ q, wr = w.drewN q)
  case atStart => exact ⟨0, n, rfl, rfl, Nat.zero_le _, Nat.le_refl _, by omega, fun t y h => absurd h (Nat.not_lt_zero _), fun t y h1 h2 => by have := (List.getElem?_eq_some_iff.1 h2).1; rw [HN.out] at this; omega, 0, rfl⟩
  case round =>
    obtain ⟨lo, hi, rfl, rfl, hlh, hin, hg, HL, HH, q, rfl⟩ := hrel
    by_cases hlt : lo < hi
    · have hltz : (lo : Int) < (hi : Int) := by omega
      obtain ⟨h, hh⟩ : ∃ h, h = (lo + hi) / 2 := ⟨_, rfl⟩
      have hh1 : lo ≤ h := by omega
      have hh2 : h < hi := by omega
      have eh : ((lo : Int) + (hi : Int)) / 2 = (h : Int) := by omega
      clear hh
      obtain ⟨y, hy⟩ : ∃ y, L[h]? = some y := ⟨_, List.getElem?_eq_getElem (by rw [HN.out]; omega)⟩
      obtain ⟨g, o, rfl, hc0⟩ := HC.out h y hy
      have HY : Hid (L[h]? = some y) := hy
      have hhn : (h : Int) < (n : Int) := by omega
      clear hy
      cases hlv : ltOf cfI y x with
      | true =>
        go_wp2_with (first | (go_at_call 51; refine (lessI _ _ _).mono ?_; rintro e w' ⟨rfl, rfl⟩) | (go_at_call 52; refine (snanI _ _).mono ?_; rintro e w' ⟨rfl, rfl⟩))
        go_roundg (hi - (h + 1))
        case measure => omega
        case rel => exact ⟨h + 1, hi, by go_num, rfl, by omega, hin, Nat.le_refl _, fun t z h1 h2 => HM.out t h z y (by omega) h2 HY.out hlv, HH, _, rfl⟩
      | false =>
        go_wp2_with (first | (go_at_call 51; refine (lessI _ _ _).mono ?_; rintro e w' ⟨rfl, rfl⟩) | (go_at_call 52; refine (snanI _ _).mono ?_; rintro e w' ⟨rfl, rfl⟩))
        go_roundg (h - lo)
        case measure => omega
        case rel =>
          refine ⟨lo, h, rfl, rfl, hh1, by omega, Nat.le_refl _, HL, fun t z h1 h2 => ?_, _, rfl⟩
          cases ht : ltOf cfI z x with
          | false => rfl
          | true => have := HM.out h t y z h1 HY.out h2 ht; rw [hlv] at this; exact absurd this (by simp)
    · have hltz : ¬ (lo : Int) < (hi : Int) := by omega
      have he : hi = lo := by omega
      subst he
      have HP : Hid (Pos (ltOf cfI) L x hi) := ⟨by rw [HN.out]; exact hin, HL.out, HH.out⟩
      clear HL HH hltz
      by_cases hk : hi < n
      · have hkz : (hi : Int) < (n : Int) := by omega
        obtain ⟨y, hy⟩ : ∃ y, L[hi]? = some y := ⟨_, List.getElem?_eq_getElem (by rw [HN.out]; omega)⟩
        obtain ⟨g, o, rfl, hc0⟩ := HC.out hi y hy
        have HF : Hid (fndI L x hi = smI y x) := fndI_at hy
        clear hy
        by_cases hyx : y = x
        · have HS : Hid (smI y x = true) := by show smI y x = true; unfold smI; rw [cfI_zero]; exact decide_eq_true hyx
          have hb : decide (y = x) = true := decide_eq_true hyx
          have hbb : (y == x) = true := by simpa using hyx
          go_wp2_with (first | (go_at_call 51; refine (lessI _ _ _).mono ?_; rintro e w' ⟨rfl, rfl⟩) | (go_at_call 52; refine (snanI _ _).mono ?_; rintro e w' ⟨rfl, rfl⟩))
          go_ret2
          exact ⟨hi, by rw [HF.out, HS.out]; rfl, HP.out, _, rfl⟩
        · have HS : Hid (smI y x = false) := by show smI y x = false; unfold smI; rw [cfI_zero]; exact decide_eq_false hyx
          have hb : decide (y = x) = false := decide_eq_false hyx
          have hbb : (y == x) = false := by simpa using hyx
          go_wp2_with (first | (go_at_call 51; refine (lessI _ _ _).mono ?_; rintro e w' ⟨rfl, rfl⟩) | (go_at_call 52; refine (snanI _ _).mono ?_; rintro e w' ⟨rfl, rfl⟩))
          go_ret2
          exact ⟨hi, by rw [HF.out, HS.out]; rfl, HP.out, _, rfl⟩
      · have hkz : ¬ (hi : Int) < (n : Int) := by omega
        have HF : Hid (fndI L x hi = false) := fndI_off (by rw [HN.out]; omega)
        go_wp2_with (first | (go_at_call 51; refine (lessI _ _ _).mono ?_; rintro e w' ⟨rfl, rfl⟩) | (go_at_call 52; refine (snanI _ _).mono ?_; rintro e w' ⟨rfl, rfl⟩))
        go_ret2
        exact ⟨hi, by rw [HF.out]; rfl, HP.out, _, rfl⟩
end Go.Proofs.YthdpomgpcblpeaaGreat

namespace Go.Proofs.YthdpomgpcblpeaaGreat
open Go.Shelf Go.RowKit Go.Lib Go.Sort
theorem RG.of_nil {α : Type} {enc : α → Value} {w w' : World} {v : Value} (h : RG enc w v []) : RG enc w' v [] := by
  obtain ⟨ao, cap, e, h1, h2, h3, -⟩ := h
  exact ⟨ao, cap, e, h1, h2, h3, fun i x hx => by simp at hx⟩
theorem RG.move {α : Type} {enc : α → Value} {w w' : World} {v : Value} {L : List α} (h : RG enc w v L) (hb : 0 < L.length → ∀ g, v.ownBlock = some g → w'.heap[g]? = w.heap[g]?) : RG enc w' v L := by
  by_cases h0 : 0 < L.length
  · exact h.of_blocks (hb h0)
  · have : L = [] := List.eq_nil_of_length_eq_zero (by omega)
    subst this
    exact h.of_nil
/-- a box of one cell -/
def SCell (T : TypeId) (w : World) (g : Nat) (v : Value) : Prop := w.heap[g]? = some (.cells #[v] T (0, 0))
section
variable {T : TypeId} {w w' : World} {g : Nat} {v : Value}
theorem SCell.cell (h : SCell T w g v) : w.cell? ⟨g, 0, none⟩ = some v := by rw [cell_of_row w g _ _ _ _ h]; rfl
theorem SCell.thaw (h : SCell T w g v) : w.frozen? ⟨g, 0, none⟩ = false := frozen_of_row w g 0 _ _ h
theorem SCell.lt (h : SCell T w g v) : g < w.heap.size := (Array.getElem?_eq_some_iff.1 h).1
theorem SCell.below (h : SCell T w g v) (hb : Below w.heap.size w w') : SCell T w' g v := by unfold SCell; rw [hb.block _ h.lt]; exact h
theorem SCell.new (w : World) {k : Nat} (hk : w.heap.size = k) : SCell T (w.alloc (.cells #[v] T)) k v := by subst hk; exact heap_alloc_new w _
theorem SCell.step (h : SCell T w g v) (o : Obj) : SCell T (w.alloc o) g v := h.below ((Below.refl _ _).alloc (Nat.le_refl _) o)
theorem SCell.write (h : SCell T w g v) (u : Value) : SCell T (w.setCell ⟨g, 0, none⟩ u) g u := by
  unfold SCell
  rw [heap_setCell_same w g 0 _ _ u h]
  rfl
theorem SCell.other (h : SCell T w g v) {g' : Nat} (hne : g ≠ g') (k : Nat) (u : Value) : SCell T (w.setCell ⟨g', k, none⟩ u) g v := by
  unfold SCell
  rw [heap_setCell_other]
  · exact h
  · exact hne
theorem below_drewN {B : Nat} {a w : World} (h : Below B a w) (q : Nat) : Below B a (w.drewN q) :=
  h.trans ⟨(drewN_same w q).1, (drewN_same w q).2.1, (drewN_same w q).2.2, by rw [heap_drewG]; exact Nat.le_refl _, fun k _ => by rw [heap_drewG]⟩
end
section
variable {α : Type}
def Rs (lt : α → α → Bool) (L : List α) : Prop := L.Pairwise fun x y => lt x y = true
variable {lt : α → α → Bool}
theorem lt_asym (O : Ord (leOf lt)) {x y : α} (h : lt x y = true) : lt y x = false := by
  rcases O.total x y with h1 | h1
  · simpa [leOf] using h1
  · exact (le_off h h1).elim
theorem Rs.srt (O : Ord (leOf lt)) {L : List α} (h : Rs lt L) : Srt (leOf lt) L := h.imp fun hxy => le_yes (lt_asym O hxy)
theorem has_pos (O : Ord (leOf lt)) {L : List α} (hR : Rs lt L) {x : α} {k : Nat} (hP : Pos lt L x k) (sm : α → α → Bool) (hsm : ∀ y x, sm y x = (!lt y x && !lt x y)) :
    L.any (fun y => sm y x) = match L[k]? with | some y => sm y x | none => false := by
  have h1 : (L.take k).any (fun y => sm y x) = false := by
    rw [List.any_eq_false]
    intro y hy
    obtain ⟨i, hi, e⟩ := List.mem_iff_getElem?.1 hy |>.imp fun i h => (⟨(by have := (List.getElem?_eq_some_iff.1 h).1; rw [List.length_take] at this; omega), h⟩ : i < k ∧ (L.take k)[i]? = some y)
    rw [List.getElem?_take_of_lt hi] at e
    rw [hsm, hP.lo i y hi e]
    simp
  have h2 : L.any (fun y => sm y x) = (L.drop k).any (fun y => sm y x) := by
    conv => lhs; rw [← List.take_append_drop k L]
    rw [List.any_append, h1, Bool.false_or]
  rw [h2]
  cases e : L[k]? with
  | none => rw [List.drop_of_length_le (by simpa using e)]; rfl
  | some y =>
    have hd := drop_cons e
    rw [hd, List.any_cons]
    have h3 : (L.drop (k + 1)).any (fun y => sm y x) = false := by
      rw [List.any_eq_false]
      intro z hz
      have hs : Rs lt (y :: L.drop (k + 1)) := by rw [← hd]; exact List.Pairwise.sublist (List.drop_sublist k L) hR
      have hyz := (List.pairwise_cons.1 hs).1 z hz
      have hyx := hP.hi k y (Nat.le_refl _) e
      rw [hsm]
      intro hc
      simp only [Bool.and_eq_true, Bool.not_eq_true'] at hc
      have := O.trans z x y (le_yes hc.2) (le_yes hyx)
      exact le_off hyz this
    rw [h3, Bool.or_false]
theorem Pos.uniq {L : List α} {x : α} {k j : Nat} (h1 : Pos lt L x k) (h2 : Pos lt L x j) : k = j := by
  rcases Nat.lt_trichotomy k j with h | h | h
  · have hk : k < L.length := Nat.lt_of_lt_of_le h h2.le
    have a := h1.hi k L[k] (Nat.le_refl _) (List.getElem?_eq_getElem hk)
    have b := h2.lo k L[k] h (List.getElem?_eq_getElem hk)
    rw [a] at b; exact absurd b (by simp)
  · exact h
  · have hk : j < L.length := Nat.lt_of_lt_of_le h h1.le
    have a := h2.hi j L[j] (Nat.le_refl _) (List.getElem?_eq_getElem hk)
    have b := h1.lo j L[j] h (List.getElem?_eq_getElem hk)
    rw [a] at b; exact absurd b (by simp)
theorem cptF_rs (O : Ord (leOf lt)) {sm : α → α → Bool} (hsm : ∀ y x, sm y x = (!lt y x && !lt x y)) : ∀ (l : List α) (p : α), Srt (leOf lt) (p :: l) → Rs lt (cptF sm p l) ∧ ∀ z ∈ cptF sm p l, lt p z = true
  | [], p, _ => ⟨List.Pairwise.nil, by simp [cptF]⟩
  | x :: l, p, h => by
    have h' := List.pairwise_cons.1 h
    have hpx := h'.1 x (by simp)
    have ih := cptF_rs O hsm l x h'.2
    cases e : sm x p with
    | true =>
      rw [cptF_yes _ e]
      refine ⟨ih.1, fun z hz => ?_⟩
      have := ih.2 z hz
      rw [hsm] at e
      simp only [Bool.and_eq_true, Bool.not_eq_true'] at e
      cases e2 : lt p z with
      | true => rfl
      | false =>
        have h2 : leOf lt z x = true := O.trans z p x (le_yes e2) hpx
        exact (le_off this h2).elim
    | false =>
      rw [cptF_no _ e]
      have hlt : lt p x = true := by
        cases e2 : lt p x with
        | true => rfl
        | false =>
          rw [hsm, e2] at e
          simp only [Bool.not_false, Bool.and_true, Bool.not_eq_false'] at e
          exact (le_off e hpx).elim
      refine ⟨List.pairwise_cons.2 ⟨ih.2, ih.1⟩, fun z hz => ?_⟩
      rcases List.mem_cons.1 hz with rfl | hz
      · exact hlt
      · cases e2 : lt p z with
        | true => rfl
        | false =>
          have h2 : leOf lt z x = true := O.trans z p x (le_yes e2) hpx
          exact (le_off (ih.2 z hz) h2).elim
theorem cpt_rs (O : Ord (leOf lt)) {sm : α → α → Bool} (hsm : ∀ y x, sm y x = (!lt y x && !lt x y)) {l : List α} (h : Srt (leOf lt) l) : Rs lt (cpt sm l) := by
  cases l with
  | nil => exact List.Pairwise.nil
  | cons x l => exact List.pairwise_cons.2 ⟨(cptF_rs O hsm l x h).2, (cptF_rs O hsm l x h).1⟩
theorem mem_cptF {sm : α → α → Bool} : ∀ (l : List α) (p z : α), z ∈ cptF sm p l → z ∈ l
  | [], _, _, h => by simp [cptF] at h
  | x :: l, p, z, h => by
    cases e : sm x p with
    | true => rw [cptF_yes _ e] at h; exact List.mem_cons_of_mem _ (mem_cptF l x z h)
    | false =>
      rw [cptF_no _ e] at h
      rcases List.mem_cons.1 h with rfl | h
      · exact List.mem_cons_self ..
      · exact List.mem_cons_of_mem _ (mem_cptF l x z h)
theorem mem_cpt {sm : α → α → Bool} {l : List α} {z : α} (h : z ∈ cpt sm l) : z ∈ l := by
  cases l with
  | nil => simp [cpt] at h
  | cons x l =>
    rcases List.mem_cons.1 h with rfl | h
    · exact List.mem_cons_self ..
    · exact List.mem_cons_of_mem _ (mem_cptF l x z h)
theorem cptF_mem {sm : α → α → Bool} (hs : ∀ x y, sm x y = true → x = y) : ∀ (l : List α) (p z : α), z ∈ l → z = p ∨ z ∈ cptF sm p l
  | x :: l, p, z, h => by
    rcases List.mem_cons.1 h with rfl | h
    · cases e : sm z p with
      | true => exact .inl (hs _ _ e)
      | false => rw [cptF_no _ e]; exact .inr (List.mem_cons_self ..)
    · cases e : sm x p with
      | true =>
        rw [cptF_yes _ e]
        rcases cptF_mem hs l x z h with rfl | h
        · exact .inl (hs _ _ e)
        · exact .inr h
      | false =>
        rw [cptF_no _ e]
        rcases cptF_mem hs l x z h with rfl | h
        · exact .inr (List.mem_cons_self ..)
        · exact .inr (List.mem_cons_of_mem _ h)
theorem cpt_mem {sm : α → α → Bool} (hs : ∀ x y, sm x y = true → x = y) {l : List α} {z : α} (h : z ∈ l) : z ∈ cpt sm l := by
  cases l with
  | nil => simp at h
  | cons x l =>
    rcases List.mem_cons.1 h with rfl | h
    · exact List.mem_cons_self ..
    · rcases cptF_mem hs l x z h with rfl | h
      · exact List.mem_cons_self ..
      · exact List.mem_cons_of_mem _ h
theorem len_cptF {sm : α → α → Bool} : ∀ (l : List α) (p : α), (cptF sm p l).length ≤ l.length
  | [], _ => Nat.le_refl _
  | x :: l, p => by
    cases e : sm x p with
    | true => rw [cptF_yes _ e]; exact Nat.le_succ_of_le (len_cptF l x)
    | false => rw [cptF_no _ e]; exact Nat.succ_le_succ (len_cptF l x)
theorem len_cpt {sm : α → α → Bool} (l : List α) : (cpt sm l).length ≤ l.length := by
  cases l with
  | nil => exact Nat.le_refl _
  | cons x l => exact Nat.succ_le_succ (len_cptF l x)
end
end Go.Proofs.YthdpomgpcblpeaaGreat

namespace Go.Proofs.YthdpomgpcblpeaaGreat
open Go.Shelf Go.RowKit Go.Lib Go.Sort
theorem smI_lt (y x : Int) : smI y x = (!ltOf cfI y x && !ltOf cfI x y) := by
  unfold smI
  rw [cfI_zero, ltI, ltI]
  by_cases h : y = x
  · subst h; simp
  · by_cases h2 : y < x
    · simp [h, h2]
    · have h3 : x < y := by omega
      simp [h, h3]
theorem smI_eq (x y : Int) (h : smI x y = true) : x = y := by
  unfold smI at h
  rw [cfI_zero] at h
  exact of_decide_eq_true h
def hasI (L : List Int) (x : Int) : Bool := L.any fun y => smI y x
theorem fndI_has {L : List Int} (hR : Rs (ltOf cfI) L) {x : Int} {k : Nat} (hP : Pos (ltOf cfI) L x k) : fndI L x k = hasI L x := by
  have := has_pos ordI hR hP smI smI_lt
  unfold hasI fndI
  rw [this]
  cases L[k]? <;> rfl
def ofI (l : List Int) : List Int := cpt smI (sortS (leOf (ltOf cfI)) l)
theorem ofI_rs (l : List Int) : Rs (ltOf cfI) (ofI l) := cpt_rs ordI smI_lt (srt_sortS ordI l)
theorem ofI_len (l : List Int) : (ofI l).length ≤ l.length := by have := len_cpt (sm := smI) (sortS (leOf (ltOf cfI)) l); rw [len_sortS] at this; exact this
set_option maxHeartbeats 4000000 in
set_option maxRecDepth 1000000 in
theorem setLenI (v : Value) (L : List Int) (w : World) (hv : RG (Value.int .i64) w v L) : Calls Tryz.prog 146 #[.agg #[v]] w fun e w' => e = .returned (.int .i64 L.length) ∧ Below w.heap.size w w' := by
  obtain ⟨ao, cap, rfl, hc, hm, -⟩ := hv
  unfold maxLen at hm
  obtain ⟨n, hn⟩ : ∃ n, n = L.length := ⟨_, rfl⟩
  rw [← hn] at hc ⊢
  clear hn
  go_enter Tryz.func146, Tryz.ntmps146
  go_wp2
  go_ret
  exact ⟨rfl, (Below.refl _ _).alloc (Nat.le_refl _) _⟩
set_option maxHeartbeats 4000000 in
set_option maxRecDepth 1000000 in
theorem setListI (v : Value) (L : List Int) (w : World) (hv : RG (Value.int .i64) w v L) (hz : L.length ≤ 1048576) : Calls Tryz.prog 40 #[.agg #[v]] w fun e w' => ∃ u, e = .returned u ∧ OG (Value.int .i64) w.heap.size 3 w' u L ∧ Below w.heap.size w w' := by
  have C : Hid (∀ o, Calls Tryz.prog 47 #[v] (w.alloc o) fun e w' => ∃ u, e = .returned u ∧ OG (Value.int .i64) w.heap.size 3 w' u L ∧ Below w.heap.size w w') := fun o => (cloneI v L (w.alloc o) (hv.alloc o) hz).mono fun _ _ ⟨u, h1, h2, h3⟩ => ⟨u, h1, h2.mono (by simp), ((Below.refl w.heap.size w).alloc (Nat.le_refl _) o).trans (h3.mono (by simp))⟩
  clear hv
  go_enter Tryz.func40, Tryz.ntmps40
  go_wp2_with (go_at_call 47; refine Calls.mono (C.out _) ?_; rintro e w' ⟨u, rfl, h1, h2⟩)
  go_ret
  exact ⟨_, rfl, h1, h2⟩
set_option maxHeartbeats 4000000 in
set_option maxRecDepth 1000000 in
theorem setHasI (v : Value) (L : List Int) (x : Int) (w : World) (hv : RG (Value.int .i64) w v L) (hR : Rs (ltOf cfI) L) (hz : L.length ≤ 1048576) : Calls Tryz.prog 69 #[.agg #[v], (Value.int .i64) x] w fun e w' => e = .returned (.bool (hasI L x)) ∧ Below w.heap.size w w' := by
  have C : Hid (∀ o, Calls Tryz.prog 37 #[v, (Value.int .i64) x] (w.alloc o) fun e w' => ∃ k : Nat, e = .returned (.tuple #[.int .i64 k, .bool (hasI L x)]) ∧ Below w.heap.size w w') := fun o => (searchI v L x (w.alloc o) (hv.alloc o) (hR.srt ordI) (by omega)).mono fun _ _ ⟨k, h1, h2, q, h3⟩ => ⟨k, by rw [h1, fndI_has hR h2], by rw [h3]; exact below_drewN ((Below.refl w.heap.size w).alloc (Nat.le_refl _) o) q⟩
  generalize hasI L x = b at *
  clear hv
  go_enter Tryz.func69, Tryz.ntmps69
  go_wp2_with (go_at_call 37; refine Calls.mono (C.out _) ?_; rintro e w' ⟨k, rfl, h2⟩)
  go_ret
  exact ⟨rfl, h2⟩
set_option maxHeartbeats 4000000 in
set_option maxRecDepth 1000000 in
theorem setOfI (v : Value) (L : List Int) (w : World) (hv : RG (Value.int .i64) w v L) (hz : L.length ≤ 1048576) : Calls Tryz.prog 55 #[v] w fun e w' => ∃ u, e = .returned (.agg #[u]) ∧ OG (Value.int .i64) w.heap.size 3 w' u (ofI L) ∧ Below w.heap.size w w' := by
  obtain ⟨W1, hW1⟩ : ∃ W1, W1 = w.alloc (.cells #[.slice none 0 0] 56) := ⟨_, rfl⟩
  have s0 : SCell 56 W1 w.heap.size (.slice none 0 0) := by rw [hW1]; exact SCell.new w rfl
  have b0 : Below w.heap.size w W1 := by rw [hW1]; exact (Below.refl _ _).alloc (Nat.le_refl _) _
  have z0 : W1.heap.size = w.heap.size + 1 := by rw [hW1]; simp
  have C := cloneI v L W1 (hv.below (Nat.le_refl _) b0) hz
  have HW1 : Hid (W1 = w.alloc (.cells #[.slice none 0 0] 56)) := hW1
  obtain ⟨g, hg⟩ : ∃ g, g = w.heap.size := ⟨_, rfl⟩
  rw [← hg] at s0 b0 z0 ⊢
  have HG : Hid (g = w.heap.size) := hg
  clear hW1 hv
  go_enter Tryz.func55, Tryz.ntmps55
  go_wp2_with fail
  rw [← HW1.out, ← HG.out]
  clear HW1 hg
  refine C.mono ?_
  rintro e w2 ⟨u, rfl, ho, hb⟩
  have s1 := s0.below hb
  have b1 := b0.trans (hb.mono (by omega))
  have z1 : g + 1 ≤ w2.heap.size := by have := hb.size; omega
  clear C s0 b0 hb
  have C2 := sortedI _ u L w2 ho (by omega)
  go_wp2_with fail
  refine C2.mono ?_
  rintro e w3 ⟨rfl, ho3, hg3⟩
  have hbelow3 : Below (g + 1) w2 w3 := (Below.refl (g + 1) w2).grown hg3 z1 (fun j hj => by have := (ho.lt j hj).1; omega)
  have s2 : SCell 56 w3 g (.slice none 0 0) := by unfold SCell; rw [hbelow3.block g (by omega)]; exact s1
  have b2 := b1.trans (hbelow3.mono (by omega))
  have z2 : g + 1 ≤ w3.heap.size := by have := hbelow3.size; omega
  clear C2 s1 b1 hbelow3 hg3 ho
  have C3 := compactI _ u _ w3 ho3
  go_wp2_with fail
  refine C3.mono ?_
  rintro e w4 ⟨u4, rfl, ho4, hg4⟩
  have hbelow4 : Below (g + 1) w3 w4 := (Below.refl (g + 1) w3).grown hg4 z2 (fun j hj => by have := (ho3.lt j hj).1; omega)
  have s3 : SCell 56 w4 g (.slice none 0 0) := by unfold SCell; rw [hbelow4.block g (by omega)]; exact s2
  have b3 := b2.trans (hbelow4.mono (by omega))
  have hne : ∀ j, u4.ownBlock = some j → j ≠ g := fun j hj => by have := (ho4.lt j hj).1; omega
  have HO : Hid (OG (Value.int .i64) g 3 (w4.setCell ⟨g, 0, none⟩ u4) u4 (ofI L)) := (OG.of_blocks ho4 fun j hj => Below.heap_setCell _ _ _ _ (hne j hj)).mono (by omega)
  have HB : Hid (Below g w (w4.setCell ⟨g, 0, none⟩ u4)) := b3.setCell (p := ⟨g, 0, none⟩) (Nat.le_refl _) u4
  have HW : Hid (SCell 56 (w4.setCell ⟨g, 0, none⟩ u4) g u4) := s3.write u4
  have c0 := s3.cell
  have f0 := s3.thaw
  obtain ⟨uo, uc, rfl, -⟩ := ho4.sl
  clear C3 s2 b2 hbelow4 hg4 ho3 s3 ho4 b3 hne z0 z1 z2
  go_wp2_with fail
  (try simp only [Exit.inBlock, Exit.then])
  exact bodyPost_ret (results_cell_row rfl _ _ (g) 56 _ (0, 0) _ rfl HW.out Tryz.underlying56 rfl (by kernel_rfl)) rfl ⟨_, rfl, HO.out, HB.out⟩
end Go.Proofs.YthdpomgpcblpeaaGreat

/-
  Proved here: sets of float64s by their rising lists: what each call of package set makes of them.
-/
import Derived.Test.YtknibmehbplpbaaSetRF
import Derived.Test.YtknibmehbplpbaaSetGF
import Derived.Test.YtknibmehbplpbaaSetJF
namespace Go.Proofs.Ytknibmehbplpbaa
open Go.Shelf Go.RowKit Go.Lib Go.Sort
/-- a set: a rising list that can be read, of at most k things -/
structure SXF (w : World) (v : Value) (T : List Nat) (k : Nat) : Prop where
  rg : RG (Value.float .f64) w v T
  rs : Rs (ltOf cfF) T
  len : T.length ≤ k
theorem SXF.below {w w' : World} {v : Value} {T : List Nat} {k : Nat} (h : SXF w v T k) (hb : Below w.heap.size w w') : SXF w' v T k := ⟨h.rg.below (Nat.le_refl _) hb, h.rs, h.len⟩
/-- a set that was made -/
def SEF (w : World) (T : List Nat) (k : Nat) (e : Ending) (w' : World) : Prop := ∃ ao n cap, e = .returned (.agg #[.slice ao n cap]) ∧ SXF w' (.slice ao n cap) T k ∧ Below w.heap.size w w'
theorem seF {w : World} {T : List Nat} {k : Nat} {u : Value} {w' : World} (h : RG (Value.float .f64) w' u T) (hr : Rs (ltOf cfF) T) (hk : T.length ≤ k) (hb : Below w.heap.size w w') : SEF w T k (.returned (.agg #[u])) w' := by
  obtain ⟨ao, cap, rfl⟩ := h.sl
  exact ⟨ao, _, cap, rfl, ⟨h, hr, hk⟩, hb⟩
theorem sxOfF {v : Value} {L : List Nat} {k : Nat} {w : World} (hv : RG (Value.float .f64) w v L) (hl : L.length ≤ k) (hk : k ≤ 100000) : Calls Try.prog 24 #[v] w fun e w' => SEF w (ofD (ltOf cfF) L) k e w' := by
  refine (setOfF v L w hv (by omega)).mono ?_
  rintro e w' ⟨u, rfl, h, hb⟩
  rw [ofX_F] at h
  exact seF h.rg (rs_ofD ordF L) (Nat.le_trans (ofD_len L) hl) hb
theorem sxHasF {v : Value} {T : List Nat} {k : Nat} {w : World} (h : SXF w v T k) (hk : k ≤ 100000) (x : Nat) : Calls Try.prog 27 #[.agg #[v], (Value.float .f64) x] w fun e w' => e = .returned (.bool (hasF T x)) ∧ Below w.heap.size w w' := setHasF v T x w h.rg h.rs (by have := h.len; omega)
theorem sxWithF {v : Value} {T : List Nat} {k : Nat} {w : World} (h : SXF w v T k) (hk : k ≤ 100000) (x : Nat) : Calls Try.prog 30 #[.agg #[v], (Value.float .f64) x] w fun e w' => SEF w (insD (ltOf cfF) x T) (k + 1) e w' := by
  refine (setWithF v T x w h.rg h.rs (by have := h.len; omega)).mono ?_
  rintro e w' ⟨u, j, rfl, hP, hr, hb⟩
  have e1 := with_ins ordF smF_lt h.rs hP
  rw [show hasF T x = T.any (fun y => smF y x) from rfl, e1] at hr
  exact seF hr (rs_ins ordF h.rs).1 (Nat.le_trans (insD_len _ _) (Nat.succ_le_succ h.len)) hb
theorem sxWithoutF {v : Value} {T : List Nat} {k : Nat} {w : World} (h : SXF w v T k) (hk : k ≤ 100000) (x : Nat) : Calls Try.prog 34 #[.agg #[v], (Value.float .f64) x] w fun e w' => SEF w (wout smF T x) k e w' := by
  refine (setWithoutF v T x w h.rg h.rs (by have := h.len; omega)).mono ?_
  rintro e w' ⟨u, j, rfl, hP, hr, hb⟩
  have e1 := wout_at ordF smF_lt h.rs hP
  rw [show hasF T x = T.any (fun y => smF y x) from rfl, e1] at hr
  exact seF hr (rs_wout h.rs x) (Nat.le_trans (List.length_filter_le _ _) h.len) hb
theorem sxListF {v : Value} {T : List Nat} {k : Nat} {w : World} (h : SXF w v T k) (hk : k ≤ 100000) : Calls Try.prog 26 #[.agg #[v]] w fun e w' => ∃ u, e = .returned u ∧ OG (Value.float .f64) w.heap.size 48 w' u T ∧ Below w.heap.size w w' := setListF v T w h.rg (by have := h.len; omega)
theorem sxMeetF {v u : Value} {T U : List Nat} {k j : Nat} {w : World} (h : SXF w v T k) (h2 : SXF w u U j) (hk : k ≤ 100000) (hj : j ≤ 100000) : Calls Try.prog 31 #[.agg #[v], .agg #[u]] w fun e w' => SEF w (T.filter (hasF U)) k e w' := by
  refine (setMeetF v u T U w h.rg h2.rg h2.rs (by have := h.len; omega) (by have := h2.len; omega)).mono ?_
  rintro e w' ⟨x, rfl, hr, hb⟩
  exact seF hr.rg (List.Pairwise.sublist List.filter_sublist h.rs) (Nat.le_trans (List.length_filter_le _ _) h.len) hb
theorem sxMinusF {v u : Value} {T U : List Nat} {k j : Nat} {w : World} (h : SXF w v T k) (h2 : SXF w u U j) (hk : k ≤ 100000) (hj : j ≤ 100000) : Calls Try.prog 32 #[.agg #[v], .agg #[u]] w fun e w' => SEF w (T.filter (fun x => !hasF U x)) k e w' := by
  refine (setMinusF v u T U w h.rg h2.rg h2.rs (by have := h.len; omega) (by have := h2.len; omega)).mono ?_
  rintro e w' ⟨x, rfl, hr, hb⟩
  exact seF hr.rg (List.Pairwise.sublist List.filter_sublist h.rs) (Nat.le_trans (List.length_filter_le _ _) h.len) hb
theorem sxWithinF {v u : Value} {T U : List Nat} {k j : Nat} {w : World} (h : SXF w v T k) (h2 : SXF w u U j) (hj : j ≤ 100000) : Calls Try.prog 33 #[.agg #[v], .agg #[u]] w fun e w' => e = .returned (.bool (T.all (hasF U))) ∧ Below w.heap.size w w' := setWithinF v u T U w h.rg h2.rg h2.rs (by have := h2.len; omega)
theorem smself_F (x : Nat) : smF x x = true := by
  rw [smF_lt]
  have : ltOf cfF x x = false := by cases e : ltOf cfF x x with | false => rfl | true => have := lt_asym ordF e; rw [e] at this; exact this
  rw [this]; rfl
theorem has_withF (T : List Nat) (x : Nat) : hasF (insD (ltOf cfF) x T) x = true := has_ins ordF smF_lt
theorem has_withoutF (T : List Nat) (x : Nat) : hasF (wout smF T x) x = false := has_wout T x
theorem meet_selfF (T : List Nat) : T.filter (hasF T) = T := filter_has smself_F T
theorem same_selfF (T : List Nat) : allS smF T T = true := allS_refl smself_F T
end Go.Proofs.Ytknibmehbplpbaa

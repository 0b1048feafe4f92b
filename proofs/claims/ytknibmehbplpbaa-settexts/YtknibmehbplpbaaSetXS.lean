/-
  Proved here: sets of strings by their rising lists: what each call of package set makes of them.
-/
import Derived.Test.YtknibmehbplpbaaSetRS
import Derived.Test.YtknibmehbplpbaaSetGS
namespace Go.Proofs.Ytknibmehbplpbaa
open Go.Shelf Go.RowKit Go.Lib Go.Sort
/-- a set: a rising list that can be read, of at most k things -/
structure SXS (w : World) (v : Value) (T : List ByteArray) (k : Nat) : Prop where
  rg : RG Value.string w v T
  rs : Rs (ltOf cfS) T
  len : T.length ≤ k
theorem SXS.below {w w' : World} {v : Value} {T : List ByteArray} {k : Nat} (h : SXS w v T k) (hb : Below w.heap.size w w') : SXS w' v T k := ⟨h.rg.below (Nat.le_refl _) hb, h.rs, h.len⟩
/-- a set that was made -/
def SES (w : World) (T : List ByteArray) (k : Nat) (e : Ending) (w' : World) : Prop := ∃ ao n cap, e = .returned (.agg #[.slice ao n cap]) ∧ SXS w' (.slice ao n cap) T k ∧ Below w.heap.size w w'
theorem seS {w : World} {T : List ByteArray} {k : Nat} {u : Value} {w' : World} (h : RG Value.string w' u T) (hr : Rs (ltOf cfS) T) (hk : T.length ≤ k) (hb : Below w.heap.size w w') : SES w T k (.returned (.agg #[u])) w' := by
  obtain ⟨ao, cap, rfl⟩ := h.sl
  exact ⟨ao, _, cap, rfl, ⟨h, hr, hk⟩, hb⟩
theorem sxOfS {v : Value} {L : List ByteArray} {k : Nat} {w : World} (hv : RG Value.string w v L) (hl : L.length ≤ k) (hk : k ≤ 100000) : Calls Try.prog 15 #[v] w fun e w' => SES w (ofD (ltOf cfS) L) k e w' := by
  refine (setOfS v L w hv (by omega)).mono ?_
  rintro e w' ⟨u, rfl, h, hb⟩
  rw [ofX_S] at h
  exact seS h.rg (rs_ofD ordS L) (Nat.le_trans (ofD_len L) hl) hb
theorem sxHasS {v : Value} {T : List ByteArray} {k : Nat} {w : World} (h : SXS w v T k) (hk : k ≤ 100000) (x : ByteArray) : Calls Try.prog 18 #[.agg #[v], Value.string x] w fun e w' => e = .returned (.bool (hasS T x)) ∧ Below w.heap.size w w' := setHasS v T x w h.rg h.rs (by have := h.len; omega)
theorem sxWithS {v : Value} {T : List ByteArray} {k : Nat} {w : World} (h : SXS w v T k) (hk : k ≤ 100000) (x : ByteArray) : Calls Try.prog 19 #[.agg #[v], Value.string x] w fun e w' => SES w (insD (ltOf cfS) x T) (k + 1) e w' := by
  refine (setWithS v T x w h.rg h.rs (by have := h.len; omega)).mono ?_
  rintro e w' ⟨u, j, rfl, hP, hr, hb⟩
  have e1 := with_ins ordS smS_lt h.rs hP
  rw [show hasS T x = T.any (fun y => smS y x) from rfl, e1] at hr
  exact seS hr (rs_ins ordS h.rs).1 (Nat.le_trans (insD_len _ _) (Nat.succ_le_succ h.len)) hb
theorem sxWithoutS {v : Value} {T : List ByteArray} {k : Nat} {w : World} (h : SXS w v T k) (hk : k ≤ 100000) (x : ByteArray) : Calls Try.prog 20 #[.agg #[v], Value.string x] w fun e w' => SES w (wout smS T x) k e w' := by
  refine (setWithoutS v T x w h.rg h.rs (by have := h.len; omega)).mono ?_
  rintro e w' ⟨u, j, rfl, hP, hr, hb⟩
  have e1 := wout_at ordS smS_lt h.rs hP
  rw [show hasS T x = T.any (fun y => smS y x) from rfl, e1] at hr
  exact seS hr (rs_wout h.rs x) (Nat.le_trans (List.length_filter_le _ _) h.len) hb
theorem sxListS {v : Value} {T : List ByteArray} {k : Nat} {w : World} (h : SXS w v T k) (hk : k ≤ 100000) : Calls Try.prog 16 #[.agg #[v]] w fun e w' => ∃ u, e = .returned u ∧ OG Value.string w.heap.size 9 w' u T ∧ Below w.heap.size w w' := setListS v T w h.rg (by have := h.len; omega)
theorem sxLenS {v : Value} {T : List ByteArray} {k : Nat} {w : World} (h : SXS w v T k) : Calls Try.prog 17 #[.agg #[v]] w fun e w' => e = .returned (.int .i64 T.length) ∧ Below w.heap.size w w' := setLenS v T w h.rg
theorem sxMeetS {v u : Value} {T U : List ByteArray} {k j : Nat} {w : World} (h : SXS w v T k) (h2 : SXS w u U j) (hk : k ≤ 100000) (hj : j ≤ 100000) : Calls Try.prog 21 #[.agg #[v], .agg #[u]] w fun e w' => SES w (T.filter (hasS U)) k e w' := by
  refine (setMeetS v u T U w h.rg h2.rg h2.rs (by have := h.len; omega) (by have := h2.len; omega)).mono ?_
  rintro e w' ⟨x, rfl, hr, hb⟩
  exact seS hr.rg (List.Pairwise.sublist List.filter_sublist h.rs) (Nat.le_trans (List.length_filter_le _ _) h.len) hb
theorem sxSameS {v u : Value} {T U : List ByteArray} {k j : Nat} {w : World} (h : SXS w v T k) (h2 : SXS w u U j) : Calls Try.prog 22 #[.agg #[v], .agg #[u]] w fun e w' => e = .returned (.bool (allS smS T U)) ∧ Below w.heap.size w w' := setSameS v u T U w h.rg h2.rg
theorem smself_S (x : ByteArray) : smS x x = true := by
  rw [smS_lt]
  have : ltOf cfS x x = false := by cases e : ltOf cfS x x with | false => rfl | true => have := lt_asym ordS e; rw [e] at this; exact this
  rw [this]; rfl
theorem has_withS (T : List ByteArray) (x : ByteArray) : hasS (insD (ltOf cfS) x T) x = true := has_ins ordS smS_lt
theorem has_withoutS (T : List ByteArray) (x : ByteArray) : hasS (wout smS T x) x = false := has_wout T x
theorem meet_selfS (T : List ByteArray) : T.filter (hasS T) = T := filter_has smself_S T
theorem same_selfS (T : List ByteArray) : allS smS T T = true := allS_refl smself_S T
theorem has_S (T : List ByteArray) (x : ByteArray) : hasS T x = T.any (fun y => y.toList == x.toList) := by
  unfold hasS smS
  congr 1
  funext y
  rw [cfS_zero, eqS]
theorem rg_of_strs {W : World} {x : Addr} {len cap : Nat} {zs : List ByteArray} (hl : len ≤ cap) (hm : cap ≤ maxLen) (hz : zs.length = cap)
    (hcell : ∀ i, i < zs.length → W.cell? (x.add i) = some (.string (zs.getD i ByteArray.empty))) : ∃ ys, ys.length = len ∧ RG Value.string W (.slice (some x) len cap) ys := by
  have hlen : (zs.take len).length = len := by simp; omega
  refine ⟨zs.take len, hlen, some x, cap, by rw [hlen], by rw [hlen]; exact hl, hm, fun h => by simp at h, fun i y hy => ?_⟩
  have hi : i < len := by have := (List.getElem?_eq_some_iff.1 hy).1; omega
  have hc := hcell i (by omega)
  obtain ⟨b, off, spot⟩ := x
  have hspot : spot = none := by
    have := World.cell?_spot (hcell 0 (by omega))
    simpa [Addr.add] using this
  subst hspot
  refine ⟨b, off, rfl, ?_⟩
  rw [Addr.add_lit] at hc
  rw [List.getElem?_take_of_lt hi] at hy
  rw [hc, List.getD_eq_getElem?_getD, hy]
  rfl
end Go.Proofs.Ytknibmehbplpbaa

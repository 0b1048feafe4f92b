/-
  Proved here: the law's in and place.
  Proved here, plain mathematics: in the order each point stands once, behind all that it hangs on.
  Proved here: package sep's Blanket.
-/
import Derived.Test.YtcoiapgfaibkgaaGreatSpLAll
import Derived.Test.YtcoiapgfaibkgaaGreatDagCyOAll
import Derived.Test.YtcoiapgfaibkgaaGreatSpOAll
import Derived.Test.YtcoiapgfaibkgaaGreatDagMuAll
import Derived.Test.YtcoiapgfaibkgaaGreatSetDIAll
import Derived.Test.YtcoiapgfaibkgaaGreatLate4
namespace Go.Proofs.YtcoiapgfaibkgaaGreat
set_option linter.unusedVariables false
open Go.RowKit
/-- Where a number stands in a list; -1: nowhere. -/
def plF (xs : List Int) (x : Int) : Int := match xs.findIdx? (fun y => decide (y = x)) with | some i => (i : Int) | none => -1
theorem plF_some {xs : List Int} {x : Int} {i : Nat} (h : xs[i]? = some x) (hn : x ∉ xs.take i) : plF xs x = (i : Int) := by
  unfold plF
  have : xs.findIdx? (fun y => decide (y = x)) = some i := by
    rw [List.findIdx?_eq_some_iff_getElem]
    have hi := (List.getElem?_eq_some_iff.1 h).1
    refine ⟨hi, by have := (List.getElem?_eq_some_iff.1 h).2; simp [this], fun j hj => ?_⟩
    have hj2 : j < xs.length := by omega
    simp only [decide_eq_true_eq]
    intro e
    refine hn (List.mem_of_getElem? (i := j) ?_)
    rw [List.getElem?_take_of_lt hj, List.getElem?_eq_getElem hj2, e]
  rw [this]
theorem plF_none {xs : List Int} {x : Int} (hn : x ∉ xs) : plF xs x = -1 := by
  unfold plF
  have : xs.findIdx? (fun y => decide (y = x)) = none := by
    rw [List.findIdx?_eq_none_iff]
    intro y hy
    simp only [decide_eq_false_iff_not]
    intro e; subst e; exact hn hy
  rw [this]
theorem mem_take_succ {xs : List Int} {x y : Int} {k : Nat} (h : xs[k]? = some y) (hx : x ∉ xs.take k) (hne : y ≠ x) : x ∉ xs.take (k + 1) := by
  rw [List.take_add_one, h]
  intro hm
  rcases List.mem_append.1 hm with e | e
  · exact hx e
  · simp at e; exact hne e.symm
end Go.Proofs.YtcoiapgfaibkgaaGreat

namespace Go.Proofs.YtcoiapgfaibkgaaGreat
set_option linter.unusedVariables false
/-- Each stands behind its parents, and not twice. -/
def GdO (P : List (List Int)) (T : List Int) : Prop := ∀ (k : Nat) (x : Int), T[k]? = some x → (∀ p ∈ P.getD x.toNat [], p ∈ T.take k) ∧ x ∉ T.take k
theorem GdO.snoc {P : List (List Int)} {T : List Int} (h : GdO P T) {i : Nat} (hr : rdy P T i) : GdO P (T ++ [(i : Int)]) := by
  intro k x hx
  rcases Nat.lt_or_ge k T.length with e | e
  · rw [List.getElem?_append_left e] at hx
    rw [List.take_append_of_le_length (by omega)]
    exact h k x hx
  · have hk : k = T.length := by
      have := (List.getElem?_eq_some_iff.1 hx).1
      rw [List.length_append, List.length_singleton] at this
      omega
    subst hk
    rw [List.getElem?_append_right (Nat.le_refl _), Nat.sub_self] at hx
    have e2 : x = (i : Int) := by simpa using hx.symm
    subst e2
    rw [List.take_left', Int.toNat_natCast]
    · exact ⟨hr.2, hr.1⟩
    · rfl
theorem GdO.out {P : List (List Int)} : ∀ (f : Nat) (T : List Int), GdO P T → GdO P (outF P f T) := by
  intro f
  induction f with
  | zero => intro T h; exact h
  | succ f ih =>
    intro T h
    rcases hn : nxtF P T with _ | i
    · have e : outF P (f + 1) T = T := by rw [outF, hn]
      rw [e]; exact h
    · have e : outF P (f + 1) T = outF P f (T ++ [(i : Int)]) := by rw [outF, hn]
      rw [e]
      refine ih _ (h.snoc ?_)
      unfold nxtF at hn
      have h1 := List.find?_some hn
      simpa using h1
theorem out_gd (P : List (List Int)) : GdO P (outL P) := GdO.out _ _ (fun k x h => by simp at h)
/-- Where all are in the order: where a point stands, and where its parents do. -/
theorem out_place {P : List (List Int)} (h : (outL P).length = P.length) {i : Nat} (hi : i < P.length) : ∃ k : Nat, plF (outL P) (i : Int) = (k : Int) ∧ ∀ p ∈ P.getD i [], plF (outL P) p < (k : Int) := by
  have hpn : Pts P.length ([] : List Int) := ⟨List.nodup_nil, by simp⟩
  have hP := (out_all (P := P) P.length [] hpn).2.1
  have hP' : Pts P.length (outL P) := hP
  have hmem : (i : Int) ∈ outL P := by
    rcases Classical.em ((i : Int) ∈ outL P) with e | e
    · exact e
    · have := (hP'.snoc hi e).len
      rw [List.length_append, List.length_singleton] at this
      omega
  obtain ⟨k, hk, e⟩ := List.getElem_of_mem hmem
  have hk2 : (outL P)[k]? = some (i : Int) := by rw [← e]; exact List.getElem?_eq_getElem hk
  obtain ⟨g1, g2⟩ := out_gd P k _ hk2
  rw [Int.toNat_natCast] at g1
  refine ⟨k, plF_some hk2 g2, fun p hp => ?_⟩
  obtain ⟨j, hj, ej⟩ := List.getElem_of_mem (g1 p hp)
  rw [List.length_take] at hj
  have hj2 : (outL P)[j]? = some p := by
    have h1 : ((outL P).take k)[j]? = some p := by rw [← ej]; exact List.getElem?_eq_getElem (by rw [List.length_take]; exact hj)
    rwa [List.getElem?_take_of_lt (by omega)] at h1
  rw [plF_some hj2 (out_gd P j p hj2).2]
  omega
end Go.Proofs.YtcoiapgfaibkgaaGreat

namespace Go.Proofs.YtcoiapgfaibkgaaGreat
set_option linter.unusedVariables false
open Go.RowKit Go.Shelf Go.Lib Go.Sort
/-- All that is near a point, as the program lays it end to end. -/
def nearK (P : List (List Int)) (n a k : Nat) : List Int := P.getD a [] ++ chF P a n ++ (((chF P a n).take k).map fun c => P.getD c.toNat []).flatten
def blE (P : List (List Int)) (n : Nat) (a : Int) : Int := if ckE P ≠ 0 then ckE P else if noPt (n : Int) a = true then 3 else 0
def blR (P : List (List Int)) (n : Nat) (a : Int) : List Int := if blE P n a = 0 then (ofR (nearK P n a.toNat n)).filter fun z => decide (z ∈ [a]) == false else []
theorem nearK_succ {P : List (List Int)} {n a k : Nat} {c : Int} (h : (chF P a n)[k]? = some c) : nearK P n a (k + 1) = nearK P n a k ++ P.getD c.toNat [] := by
  unfold nearK
  rw [List.take_add_one, h]
  simp only [Option.toList_some, List.map_append, List.map_cons, List.map_nil, List.flatten_append, List.flatten_cons, List.flatten_nil, List.append_nil, List.append_assoc]
theorem flat_len {L : List (List Int)} {m : Nat} (h : ∀ l ∈ L, l.length ≤ m) : L.flatten.length ≤ L.length * m := by
  induction L with
  | nil => simp
  | cons x L ih =>
    have h1 := h x (by simp)
    have h2 := ih fun l hl => h l (by simp [hl])
    rw [List.flatten_cons, List.length_append, List.length_cons, Nat.add_mul, Nat.one_mul]
    omega
theorem nearK_len {P : List (List Int)} {n a k : Nat} (hl : ∀ i, (P.getD i []).length ≤ n) (hb : n ≤ 300) : (nearK P n a k).length ≤ 90600 := by
  have h1 := hl a
  have h2 := chF_len P a n
  have h3 : ((((chF P a n).take k).map fun c => P.getD c.toNat []).flatten).length ≤ _ := flat_len (m := 300) (fun l hl2 => by
    obtain ⟨c, _, e⟩ := List.mem_map.1 hl2
    have := hl c.toNat
    rw [← e]; omega)
  have h4 : (((chF P a n).take k).map fun c => P.getD c.toNat []).length ≤ 300 := by rw [List.length_map, List.length_take]; omega
  unfold nearK
  rw [List.length_append, List.length_append]
  omega
theorem nearK_all {P : List (List Int)} {n a k : Nat} (h : (chF P a n).length ≤ k) : nearK P n a k = nearK P n a n := by
  unfold nearK
  rw [List.take_of_length_le h, List.take_of_length_le (chF_len P a n)]
theorem chF_memS {P : List (List Int)} {j i : Nat} {c : Int} (h : c ∈ chF P j i) : ∃ q : Nat, c = (q : Int) ∧ q < i ∧ (j : Int) ∈ P.getD q [] := by
  unfold chF at h
  obtain ⟨q, hq, e⟩ := List.mem_map.1 h
  rw [List.mem_filter] at hq
  exact ⟨q, e.symm, List.mem_range.1 hq.1, of_decide_eq_true hq.2⟩
theorem rr_two {w : World} {gb : Nat} {x y : Value} {X Y : List Int} (hr : OG id w.heap.size 23 (w.alloc (.cells #[x, y] 23)) (.slice (some ⟨gb, 0, none⟩) 2 2) [x, y]) (hx : RG (Value.int .i64) w x X) (hy : RG (Value.int .i64) w y Y) : RR (Value.int .i64) (w.alloc (.cells #[x, y] 23)) (.slice (some ⟨gb, 0, none⟩) 2 2) [X, Y] :=
  ⟨[x, y], hr.rg, rfl, fun i u L hu hL => by
    match i, hu, hL with
    | 0, hu, hL => simp at hu hL; subst hu; subst hL; exact hx.alloc _
    | 1, hu, hL => simp at hu hL; subst hu; subst hL; exact hy.alloc _
    | i + 2, hu, _ => simp at hu⟩
set_option maxRecDepth 1000000 in
set_option maxHeartbeats 6400000 in
theorem blanketS (pv : Value) (pvs : List Value) (P : List (List Int)) (w : World) (h : RRD w pv pvs P) (n : Nat) (hn : P.length = n) (hb : n ≤ 300) (a : Int) :
    Calls Tryz.prog 45 #[pv, .int .i64 a] w fun e w' => ∃ v, e = .returned (.tuple #[v, .int .i64 (blE P n a)]) ∧ OG (Value.int .i64) w.heap.size 3 w' v (blR P n a) ∧ Below w.heap.size w w' := by
  obtain ⟨i0, hi, hz0, hz1, hz2⟩ := info_parts Tryz.infoI
  have CC : Hid _ := childrenL pv pvs P w h n hn (by omega) (fun h0 i => by have := len_cl h0 i; omega)
  obtain ⟨po, pn, pc, rfl⟩ : ∃ o n c, pv = .slice o n c := by obtain ⟨ao, cap, e⟩ := h.out.sl; exact ⟨_, _, _, e⟩
  obtain rfl : pn = n := by rw [← hn, ← h.len, h.out.len]
  have HR : Hid (RRD w (.slice po pn pc) pvs P) := h
  have HN : Hid (P.length = pn) := hn
  clear h hn
  go_enter Tryz.func45, Tryz.ntmps45
  go_wp2_with fail
  refine Calls.mono CC.out ?_
  rintro e y ⟨v, rfl, hce, hy⟩
  have HB : Hid (Below w.heap.size w y) := hy
  clear CC hy
  by_cases h0 : ckE P = 0
  · obtain ⟨-, W, g, cvs, hW, rfl, ht⟩ : ckE P = 0 ∧ ∃ W g cvs, Below w.heap.size w W ∧ v = .slice (some ⟨g, 0, none⟩) pn pn ∧ TuC W.heap.size W y g pn cvs (fun j => chF P j pn) := by
      rcases hce with h1 | h1
      · exact h1
      · exact absurd h0 h1.1
    have HT : Hid (TuC W.heap.size W y g pn cvs (fun j => chF P j pn)) := ht
    have HWS : Hid (w.heap.size ≤ W.heap.size) := hW.size
    have HLN : Hid (∀ i, (P.getD i []).length ≤ pn) := fun i => by have := len_cl (ck_zero h0) i; rw [HN.out] at this; exact this
    have HZ := cl_zero (ck_zero h0)
    have HOUT : Hid (∀ (i : Nat) (x : Int), x ∈ P.getD i [] → ∃ p : Nat, x = (p : Int) ∧ p < pn) := fun i x hx => by have := outs_no HZ.1 i x hx; rw [HN.out] at this; exact this
    clear HZ hce ht hW
    obtain ⟨WA, hWA⟩ : ∃ W, W = y.alloc (.cells #[.int .i64 a] 3) := ⟨_, rfl⟩
    obtain ⟨gb, hgb⟩ : ∃ g, g = y.heap.size := ⟨_, rfl⟩
    have hBA : Below y.heap.size y WA := by rw [hWA]; exact belowB _ _
    have hlit : OG (Value.int .i64) y.heap.size 3 WA (.slice (some ⟨gb, 0, none⟩) 1 1) [a] := by rw [hWA, hgb]; exact OG.lit 3 y [a] (by unfold maxLen; simp)
    have CA : Hid _ := arePointsS po pn pc _ [a] WA hlit.rg
    have HWA : Hid (WA = y.alloc (.cells #[.int .i64 a] 3)) := hWA
    have HGB : Hid (gb = y.heap.size) := hgb
    have HTA : Hid (TuC W.heap.size W WA g pn cvs (fun j => chF P j pn)) := by
      have ht := HT.out
      exact ⟨ht.frm.trans (hBA.mono (Nat.le_trans ht.frm.size (Nat.le_refl _))), ht.row.below hBA, fun j v hv => (ht.inn j v hv).below hBA, ht.apt⟩
    have HBW : Hid (Below w.heap.size w WA) := bstepB HB.out hBA
    have hpa : noPts (pn : Int) [a] = noPt (pn : Int) a := by simp [noPts]
    rw [hpa] at CA
    rw [h0]
    have HCK : Hid (ckE P = 0) := h0
    clear hWA hgb hBA hlit hpa HT HB h0
    go_wp2_with fail
    rw [← HWA.out, ← HGB.out]
    refine Calls.mono CA.out ?_
    rintro e z ⟨rfl, hz⟩
    have HTZ : Hid (TuC W.heap.size W z g pn cvs (fun j => chF P j pn)) := by
      have ht := HTA.out
      exact ⟨ht.frm.trans (hz.mono ht.frm.size), ht.row.below hz, fun j v hv => (ht.inn j v hv).below hz, ht.apt⟩
    have HBZ : Hid (Below w.heap.size w z) := bstepB HBW.out hz
    clear CA hz HTA HBW HWA HGB
    by_cases hpt : noPt (pn : Int) a = true
    · have HE : Hid (blE P pn a = 3) := by show _ = _; unfold blE; rw [if_neg (by rw [HCK.out]; decide), if_pos hpt]
      have HRE : Hid (blR P pn a = []) := by show _ = _; unfold blR; rw [if_neg (by rw [HE.out]; decide)]
      rw [hpt]
      clear hpt
      go_wp2
      go_ret2
      exact ⟨_, by rw [HE.out]; rfl, by rw [HRE.out]; exact OG.nil _ _ _, HBZ.out⟩
    · have hpt : noPt (pn : Int) a = false := by simpa using hpt
      have HE : Hid (blE P pn a = 0) := by show _ = _; unfold blE; rw [if_neg (by rw [HCK.out]; decide), if_neg (by rw [hpt]; decide)]
      obtain ⟨an, rfl, han⟩ : ∃ an : Nat, a = (an : Int) ∧ an < pn := by
        unfold noPt at hpt
        simp only [Bool.or_eq_false_iff, decide_eq_false_iff_not] at hpt
        exact ⟨a.toNat, by omega, by omega⟩
      have HRE : Hid (blR P pn (an : Int) = (ofR (nearK P pn an pn)).filter fun z => decide (z ∈ [(an : Int)]) == false) := by show _ = _; unfold blR; rw [if_pos HE.out]; rfl
      rw [hpt]
      have hltz : (an : Int) < (pn : Int) := by omega
      have hR := HR.out.below (Nat.le_refl _) HBZ.out
      obtain ⟨x, gp, op, hx1, rfl, hx2⟩ := hR.out.at han
      have hxr := hR.inn an x hx1
      obtain ⟨xo, xn, xc, rfl⟩ : ∃ o n c, x = .slice o n c := by obtain ⟨ao, cap, e⟩ := hxr.sl; exact ⟨_, _, _, e⟩
      change z.cell? ⟨gp, op + an, none⟩ = some (.slice xo xn xc) at hx2
      obtain ⟨v, hv⟩ : ∃ v, cvs[an]? = some v := ⟨_, List.getElem?_eq_getElem (by rw [HTZ.out.len]; exact han)⟩
      have hvr := HTZ.out.inn an v hv
      have hv2 := (HTZ.out.row.cell hv).1
      obtain ⟨vo, vn, vc, rfl⟩ : ∃ o n c, v = .slice o n c := by obtain ⟨ao, cap, e, -⟩ := hvr.sl; exact ⟨_, _, _, e⟩
      change z.cell? ⟨g, an, none⟩ = some (.slice vo vn vc) at hv2
      have HXR : Hid (RG (Value.int .i64) z (.slice xo xn xc) (P.getD an [])) := hxr
      have HVR : Hid (RG (Value.int .i64) z (.slice vo vn vc) (chF P an pn)) := hvr.rg
      have HVN : Hid ((chF P an pn).length = vn) := hvr.rg.len
      have HX2 : Hid (z.cell? ⟨gp, op + an, none⟩ = some (.slice xo xn xc)) := hx2
      have HV2 : Hid (z.cell? ⟨g, an, none⟩ = some (.slice vo vn vc)) := hv2
      clear hR hx1 hxr hv hvr hpt
      go_upto_region 6 with fail
      have KEEP : ∀ u, Below z.heap.size z u → L4.AllL u [(3, fun w' => w'.cell? ⟨gp, op + an, none⟩ = some (.slice xo xn xc)), (7, fun w' => w'.cell? ⟨g, an, none⟩ = some (.slice vo vn vc))] := fun u hu => ⟨keepR hu HX2.out, keepR hu HV2.out, trivial⟩
      refine L4.region_late [(3, fun w' => w'.cell? ⟨gp, op + an, none⟩ = some (.slice xo xn xc)), (7, fun w' => w'.cell? ⟨g, an, none⟩ = some (.slice vo vn vc))] (by kernel_rfl) ?_
      have B : Below z.heap.size z z.drew := (Below.refl _ _).drew
      obtain ⟨w1, hw1⟩ : ∃ u, u = z.drew := ⟨_, rfl⟩
      rw [← hw1] at B ⊢
      clear hw1
      have hHeld := KEEP _ B
      refine L4.late_free 0 (v := .slice (some ⟨gp, op, none⟩) pn pc) rfl (by kernel_rfl) (by kernel_rfl) (by kernel_rfl) (by kernel_rfl) (by kernel_rfl) (by kernel_rfl) (fun _ _ _ h => h) (Or.inl ⟨by rfl, ?_⟩) hHeld ?_
      · (intro u _; go_simp)
      (try simp only [Act.put, List.setIfInBounds_toArray, List.set_cons_zero, List.set_cons_succ])
      refine L4.late_free 1 (v := .int .i64 ((an : Nat) : Int)) rfl (by kernel_rfl) (by kernel_rfl) (by kernel_rfl) (by kernel_rfl) (by kernel_rfl) (by kernel_rfl) (fun _ _ _ h => h) (Or.inl ⟨by rfl, ?_⟩) hHeld ?_
      · (intro u _; go_simp)
      (try simp only [Act.put, List.setIfInBounds_toArray, List.set_cons_zero, List.set_cons_succ])
      refine L4.late_free 2 (v := .pointer (some ⟨gp, op + an, none⟩)) rfl (by kernel_rfl) (by kernel_rfl) (by kernel_rfl) (by kernel_rfl) (by kernel_rfl) (by kernel_rfl) (fun _ _ _ h => h) (Or.inl ⟨by rfl, ?_⟩) hHeld ?_
      · (intro u _; go_simp)
      (try simp only [Act.put, List.setIfInBounds_toArray, List.set_cons_zero, List.set_cons_succ])
      refine L4.late_take 3 (v := .slice xo xn xc) rfl (by kernel_rfl) (List.Mem.head _) (by kernel_rfl) (by kernel_rfl) (by kernel_rfl) (by kernel_rfl) (fun _ _ _ h => h) (Or.inl ⟨by rfl, ?_⟩) hHeld ?_
      · (intro u hu; (try dsimp only at hu); go_split_ands; go_simp)
      (try simp only [Act.put, List.setIfInBounds_toArray, List.set_cons_zero, List.set_cons_succ])
      refine L4.late_free 4 (v := .slice (some ⟨g, 0, none⟩) pn pn) rfl (by kernel_rfl) (by kernel_rfl) (by kernel_rfl) (by kernel_rfl) (by kernel_rfl) (by kernel_rfl) (fun _ _ _ h => h) (Or.inl ⟨by rfl, ?_⟩) hHeld ?_
      · (intro u _; go_simp)
      (try simp only [Act.put, List.setIfInBounds_toArray, List.set_cons_zero, List.set_cons_succ])
      refine L4.late_free 5 (v := .int .i64 ((an : Nat) : Int)) rfl (by kernel_rfl) (by kernel_rfl) (by kernel_rfl) (by kernel_rfl) (by kernel_rfl) (by kernel_rfl) (fun _ _ _ h => h) (Or.inl ⟨by rfl, ?_⟩) hHeld ?_
      · (intro u _; go_simp)
      (try simp only [Act.put, List.setIfInBounds_toArray, List.set_cons_zero, List.set_cons_succ])
      refine L4.late_free 6 (v := .pointer (some ⟨g, an, none⟩)) rfl (by kernel_rfl) (by kernel_rfl) (by kernel_rfl) (by kernel_rfl) (by kernel_rfl) (by kernel_rfl) (fun _ _ _ h => h) (Or.inl ⟨by rfl, ?_⟩) hHeld ?_
      · (intro u _; go_simp)
      (try simp only [Act.put, List.setIfInBounds_toArray, List.set_cons_zero, List.set_cons_succ])
      refine L4.late_take 7 (v := .slice vo vn vc) rfl (by kernel_rfl) (List.Mem.tail _ (List.Mem.head _)) (by kernel_rfl) (by kernel_rfl) (by kernel_rfl) (by kernel_rfl) (fun _ _ _ h => h) (Or.inl ⟨by rfl, ?_⟩) hHeld ?_
      · (intro u hu; (try dsimp only at hu); go_split_ands; go_simp)
      (try simp only [Act.put, List.setIfInBounds_toArray, List.set_cons_zero, List.set_cons_succ])
      refine L4.late_step 8 (by kernel_rfl) rfl (fun K hK => ?_)
      go_simp
      obtain ⟨y2, hy2⟩ : ∃ u, u = w1.alloc (.cells #[.slice xo xn xc, .slice vo vn vc] 23) := ⟨_, rfl⟩
      obtain ⟨gb, hgb⟩ : ∃ u, u = w1.heap.size := ⟨_, rfl⟩
      rw [← hy2, ← hgb]
      have c2 : Below w1.heap.size w1 y2 := by rw [hy2]; exact belowB _ _
      have hrr : RR (Value.int .i64) y2 (.slice (some ⟨gb, 0, none⟩) 2 2) [P.getD an [], chF P an pn] := by rw [hy2]; exact rr_two (by rw [hgb]; exact OG.lit (enc := id) 23 w1 [.slice xo xn xc, .slice vo vn vc] (by unfold maxLen; simp)) (HXR.out.below (Nat.le_refl _) B) (HVR.out.below (Nat.le_refl _) B)
      clear hy2 hgb
      have B := B.trans (c2.mono B.size)
      clear c2 hHeld
      have hHeld := KEEP _ B
      refine hK.out _ _ (L4.AllL.kept hHeld) ?_
      clear hK K
      (try simp only [Act.put, List.setIfInBounds_toArray, List.set_cons_zero, List.set_cons_succ])
      refine L4.late_step 9 (by kernel_rfl) rfl (fun K hK => ?_)
      go_simp
      have BZ : Hid (Below z.heap.size z y2) := B
      refine (concatI _ _ _ hrr (by have h1 := HLN.out an; have h2 := chF_len P an pn; simp only [List.flatten_cons, List.flatten_nil, List.append_nil, List.length_append]; omega) (by simp)).mono ?_
      rintro e y3 ⟨cv, rfl, hco, c3⟩
      obtain ⟨co, cn, cc, rfl⟩ : ∃ o n c, cv = .slice o n c := by obtain ⟨ao, cap, e, -⟩ := hco.sl; exact ⟨_, _, _, e⟩
      clear hrr
      have B := B.trans (c3.mono B.size)
      clear c3 hHeld
      have hHeld := KEEP _ B
      go_wp2_with fail
      refine hK.out _ _ (L4.AllL.kept hHeld) ?_
      clear hK K
      (try simp only [Act.put, List.setIfInBounds_toArray, List.set_cons_zero, List.set_cons_succ])
      refine L4.late_step 10 (by kernel_rfl) rfl (fun K hK => ?_)
      go_simp
      refine hK.out _ _ (L4.AllL.kept hHeld) ?_
      clear hK K
      (try simp only [Act.put, List.setIfInBounds_toArray, List.set_cons_zero, List.set_cons_succ])
      refine L4.late_done (by kernel_rfl) ?_ _
      clear hHeld KEEP
      have HBN : Hid (Below z.heap.size z y3) := B
      have HCO : Hid (OG (Value.int .i64) z.heap.size 3 y3 (.slice co cn cc) (nearK P pn an 0)) := by
        have e1 : nearK P pn an 0 = [P.getD an [], chF P an pn].flatten := by simp [nearK]
        show OG _ _ _ _ _ _
        rw [e1]; exact hco.mono BZ.out.size
      clear B hco BZ hx2 hv2
      have hv2 : y3.cell? ⟨g, an, none⟩ = some (.slice vo vn vc) := keepR HBN.out HV2.out
      have hvb : vn ≤ 300 := by rw [← HVN.out]; have := chF_len P an pn; omega
      go_wp2
      clear hv2
      go_loopg [8, 10, 39] vn (fun g1 v8 _v10 v39 wr => ∃ (k : Nat) (ro : Option Addr) (rn rc : Nat), v8 = .slice ro rn rc ∧ v39 = .int .i64 k ∧ k ≤ vn ∧ vn - k ≤ g1 ∧ Hid (OG (Value.int .i64) z.heap.size 3 wr (.slice ro rn rc) (nearK P pn an k)) ∧ Hid (Below z.heap.size z wr))
      case atStart => exact ⟨0, co, cn, cc, rfl, rfl, Nat.zero_le _, by omega, HCO, HBN⟩
      case round =>
        clear HCO HBN
        obtain ⟨k, ro, rn, rc, rfl, rfl, hkn, hg1, HO, HBK⟩ := hrel
        by_cases hlt : k < vn
        · have hltz2 : (k : Int) < (vn : Int) := by omega
          obtain ⟨c, gv, ov, hc1, rfl, hc0⟩ := HVR.out.at hlt
          obtain ⟨cn2, rfl, hcn, -⟩ := chF_memS (List.mem_of_getElem? hc1)
          have hc2 : wr.cell? ⟨gv, ov + k, none⟩ = some (.int .i64 (cn2 : Int)) := keepR HBK.out hc0
          have hcz : (cn2 : Int) < (pn : Int) := by omega
          have hR := HR.out.below (Nat.le_refl _) (bstepB HBZ.out HBK.out)
          obtain ⟨u, gu, ou, hu1, hu3, hu2⟩ := hR.out.at hcn
          simp only [Option.some.injEq, Addr.mk.injEq, and_true] at hu3
          obtain ⟨rfl, rfl⟩ := hu3
          have hur := hR.inn cn2 u hu1
          obtain ⟨uo, un, uc, rfl⟩ : ∃ o n c, u = .slice o n c := by obtain ⟨ao, cap, e⟩ := hur.sl; exact ⟨_, _, _, e⟩
          change wr.cell? ⟨gp, op + cn2, none⟩ = some (.slice uo un uc) at hu2
          have HUR : Hid (RG (Value.int .i64) wr (.slice uo un uc) (P.getD cn2 [])) := hur
          have HST : Hid (nearK P pn an (k + 1) = nearK P pn an k ++ P.getD cn2 []) := nearK_succ hc1
          have HL1 : Hid ((nearK P pn an k).length ≤ 90600) := nearK_len HLN.out hb
          have HL2 : Hid ((P.getD cn2 []).length ≤ 300) := Nat.le_trans (HLN.out cn2) hb
          clear hc1 hc0 hR hu1 hur
          go_wp2_with (at_builtin; refine wpList_appG _ (fun _ => rfl) rfl _ _ 23 rfl z.heap.size 3 i0 (.int .i64 0) 8 Tryz.underlying23 hi hz0 hz1 hz2 rfl _ _ (nearK P pn an k) (P.getD cn2 []) rfl HO.out rfl HUR.out (by have := HL1.out; have := HL2.out; unfold maxLen; omega) (by have := HL1.out; have := HL2.out; omega) HBK.out.size ?_)
          intro v2 w2 ho2 hg2
          obtain ⟨o2, n2, c2, rfl⟩ : ∃ o n c, v2 = .slice o n c := by obtain ⟨ao, cap, e, -⟩ := ho2.sl; exact ⟨_, _, _, e⟩
          have O2 : Hid (OG (Value.int .i64) z.heap.size 3 w2 (.slice o2 n2 c2) (nearK P pn an (k + 1))) := by rw [HST.out]; exact ho2
          have B2 : Hid (Below z.heap.size z w2) := HO.out.grown HBK.out HBK.out.size hg2
          clear ho2 hg2 HO HBK HUR HST HL1 HL2 hc2 hu2
          go_wp2
          go_roundg (vn - (k + 1))
          case measure => omega
          case rel => exact ⟨k + 1, _, _, _, rfl, by go_num, by omega, Nat.le_refl _, O2, B2⟩
        · have hltz2 : ¬ (k : Int) < (vn : Int) := by omega
          have HO2 : Hid (RG (Value.int .i64) wr (.slice ro rn rc) (nearK P pn an pn)) := by
            have h := HO.out
            rw [nearK_all (by rw [HVN.out]; omega)] at h
            exact h.rg
          have C1 : Hid _ := siOf HO2.out (k := 90600) (nearK_len HLN.out hb) (by omega)
          clear HO hltz2
          go_wp2_with fail
          refine Calls.mono C1.out ?_
          rintro e y1 ⟨o1, n1, c1, rfl, hs1, b1⟩
          have HB1 : Hid (Below z.heap.size z y1) := bstepB HBK.out b1
          have C2 : Hid _ := siWithout hs1 (an : Int) (by omega)
          clear C1 hs1 b1 HBK HO2
          go_wp2_with fail
          refine Calls.mono C2.out ?_
          rintro e y2 ⟨o2, n2, c2, rfl, hs2, b2⟩
          have HB2 : Hid (Below z.heap.size z y2) := bstepB HB1.out b2
          have C3 : Hid _ := siList hs2 (by omega)
          clear C2 hs2 b2 HB1
          go_wp2_with fail
          refine Calls.mono C3.out ?_
          rintro e y3 ⟨u, rfl, hu, b3⟩
          have HB3 : Hid (Below w.heap.size w y3) := bstepB HBZ.out (bstepB HB2.out b3)
          have HU : Hid (OG (Value.int .i64) w.heap.size 3 y3 u (blR P pn (an : Int))) := by
            show OG _ _ _ _ _ _
            rw [HRE.out]; exact hu.mono (Nat.le_trans HBZ.out.size HB2.out.size)
          clear C3 hu b3 HB2
          go_wp2
          go_ret2
          exact ⟨_, by rw [HE.out]; rfl, HU.out, HB3.out⟩
  · have HE : Hid (blE P pn a = ckE P) := by show _ = _; unfold blE; rw [if_pos h0]
    have HRE : Hid (blR P pn a = []) := by show _ = _; unfold blR; rw [if_neg (by rw [HE.out]; exact h0)]
    have hvn : v = .slice none 0 0 := by
      rcases hce with h1 | h1
      · exact absurd h1.1 h0
      · exact h1.2
    subst hvn
    rw [← HE.out]
    have hcz : (blE P pn a != (0 : Int)) = true := by rw [HE.out]; simpa using h0
    obtain ⟨c, hc⟩ : ∃ c, c = blE P pn a := ⟨_, rfl⟩
    rw [← hc] at hcz ⊢
    have HC : Hid (c = blE P pn a) := hc
    clear hc hce h0
    go_wp2
    go_ret2
    exact ⟨_, by rw [← HC.out]; rfl, by rw [HRE.out]; exact OG.nil _ _ _, HB.out⟩
end Go.Proofs.YtcoiapgfaibkgaaGreat

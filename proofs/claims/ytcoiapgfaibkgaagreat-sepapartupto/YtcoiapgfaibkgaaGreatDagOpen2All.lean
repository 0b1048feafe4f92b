/-
  Proved here: layer 16's document: Apart.
  Proved here: layer 16's law: own (two answers that must be these, the first written over and gone on with).
  Proved here: what both ways tell of Reach; rows cut short.
  Proved here: the law SepReach answers true.
  Proved here: rows of rows of numbers that are handed in can be read; and the bound on what they hold.
  Proved here: a row of numbers that is handed in can be read; and the bound on what it holds.
-/
import Derived.Test.YtcoiapgfaibkgaaGreatHuQAll
import Derived.Test.YtcoiapgfaibkgaaGreatSpB1All
import Derived.Test.YtcoiapgfaibkgaaGreatDagMuAll
import Derived.Test.YtcoiapgfaibkgaaGreatDagHAll
import Derived.Test.YtcoiapgfaibkgaaGreatRows
import Derived.Deep.Matrix
namespace Go.Proofs.YtcoiapgfaibkgaaGreat
set_option linter.unusedVariables false
open Go.RowKit Go.Shelf Go.Sort Go.Lib
def ApV (P : List (List Int)) (a b G : List Int) (c : Int) (v : Value) : Prop := ∃ r : Bool, v = .bool r ∧ (c ≠ 0 → r = false) ∧ (c = 0 → (r = true ↔ ¬ ∃ x ∈ a, ∃ y ∈ b, TelM P G x y))
set_option maxRecDepth 1000000 in
set_option maxHeartbeats 12800000 in
theorem refApart (pv av bv qv : Value) (pvs : List Value) (P : List (List Int)) (a b G : List Int) (w : World) (h : RRD w pv pvs P) (n : Nat) (hn : P.length = n) (hn7 : n ≤ 100) (ha : RG (Value.int .i64) w av a) (hal : a.length ≤ 1048576) (hbv : RG (Value.int .i64) w bv b) (hbvl : b.length ≤ 1048576) (hq : RG (Value.int .i64) w qv G) (hql : G.length ≤ 1048576) :
    Calls Tryz.prog 16 #[pv, av, bv, qv] w fun e w' => ∃ v, e = .returned (.tuple #[v, .int .i64 (apE P n a b G)]) ∧ ApV P a b G (apE P n a b G) v ∧ Below w.heap.size w w' := by
  obtain ⟨i0, hi, hz0, hz1, hz2⟩ := info_parts Tryz.infoI
  obtain ⟨po, pn, pc, rfl⟩ : ∃ o n c, pv = .slice o n c := by obtain ⟨ao, cap, e⟩ := h.out.sl; exact ⟨_, _, _, e⟩
  obtain rfl : pn = n := by rw [← hn, ← h.len, h.out.len]
  obtain ⟨qo, qn, qc, rfl⟩ : ∃ o n c, qv = .slice o n c := by obtain ⟨ao, cap, e⟩ := hq.sl; exact ⟨_, _, _, e⟩
  obtain ⟨ao, an, ac, rfl⟩ : ∃ o n c, av = .slice o n c := by obtain ⟨ao, cap, e⟩ := ha.sl; exact ⟨_, _, _, e⟩
  obtain ⟨bo, bn, bc, rfl⟩ : ∃ o n c, bv = .slice o n c := by obtain ⟨ao, cap, e⟩ := hbv.sl; exact ⟨_, _, _, e⟩
  have HR : Hid (∀ W, Below w.heap.size w W → RRD W (.slice po pn pc) pvs P) := fun W hW => h.below (Nat.le_refl _) hW
  have HQ : Hid (∀ W, Below w.heap.size w W → RG (Value.int .i64) W (.slice qo qn qc) G) := fun W hW => hq.below (Nat.le_refl _) hW
  have HA : Hid (∀ W, Below w.heap.size w W → RG (Value.int .i64) W (.slice ao an ac) a) := fun W hW => ha.below (Nat.le_refl _) hW
  have HBV : Hid (∀ W, Below w.heap.size w W → RG (Value.int .i64) W (.slice bo bn bc) b) := fun W hW => hbv.below (Nat.le_refl _) hW
  have HBN : Hid (b.length = bn) := hbv.len
  have hbnm : bn ≤ 1048576 := by rw [← hbv.len]; exact hbvl
  have HN : Hid (P.length = pn) := hn
  have HQL : Hid (G.length ≤ 1048576) := hql
  have HAL : Hid (a.length ≤ 1048576) := hal
  have HBVL : Hid (b.length ≤ 1048576) := hbvl
  obtain ⟨W1, hW1⟩ : ∃ W, W = w.alloc (.cells #[] 3) := ⟨_, rfl⟩
  obtain ⟨g1, hg1⟩ : ∃ g, g = w.heap.size := ⟨_, rfl⟩
  have hb1 : Below w.heap.size w W1 := by rw [hW1]; exact belowB _ _
  have HO1 : Hid (OG (Value.int .i64) w.heap.size 3 W1 (.slice (some ⟨g1, 0, none⟩) 0 0) []) := by
    show OG _ _ _ _ _ _
    rw [hW1, hg1]; exact OG.lit0 (enc := Value.int .i64) 3 w
  have HB1 : Hid (Below w.heap.size w W1) := hb1
  have HW1 : Hid (W1 = w.alloc (.cells #[] 3)) := hW1
  have HG1 : Hid (g1 = w.heap.size) := hg1
  clear h hq ha hbv hn hql hal hbvl hW1 hg1 hb1
  go_enter Tryz.func16, Tryz.ntmps16
  go_wp2_with (at_builtin; rw [← HW1.out, ← HG1.out]; refine wpList_appG _ (fun _ => rfl) rfl _ _ 23 rfl w.heap.size 3 i0 (.int .i64 0) 8 Tryz.underlying23 hi hz0 hz1 hz2 rfl _ _ [] a rfl HO1.out rfl (HA.out W1 HB1.out) (by have := HAL.out; unfold maxLen; simp only [List.length_nil]; omega) (by have := HAL.out; simp only [List.length_nil]; omega) HB1.out.size ?_)
  intro v0 y0 ho0 hgr0
  obtain ⟨o0, n0, c0, rfl⟩ : ∃ o n c, v0 = .slice o n c := by obtain ⟨ao, cap, e, -⟩ := ho0.sl; exact ⟨_, _, _, e⟩
  have HO0 : Hid (OG (Value.int .i64) w.heap.size 3 y0 (.slice o0 n0 c0) a) := ho0
  have HB0 : Hid (Below w.heap.size w y0) := HO1.out.grown HB1.out HB1.out.size hgr0
  clear ho0 hgr0 HW1 HG1 HO1 HB1
  go_wp2_with (at_builtin; refine wpList_appG _ (fun _ => rfl) rfl _ _ 23 rfl w.heap.size 3 i0 (.int .i64 0) 8 Tryz.underlying23 hi hz0 hz1 hz2 rfl _ _ a b rfl HO0.out rfl (HBV.out y0 HB0.out) (by have := HBVL.out; have := HAL.out; unfold maxLen; omega) (by have := HBVL.out; have := HAL.out; omega) HB0.out.size ?_)
  intro v2 y4 ho2 hgr2
  obtain ⟨o2, n2, c2, rfl⟩ : ∃ o n c, v2 = .slice o n c := by obtain ⟨ao, cap, e, -⟩ := ho2.sl; exact ⟨_, _, _, e⟩
  have HO2 : Hid (OG (Value.int .i64) w.heap.size 3 y4 (.slice o2 n2 c2) (a ++ b)) := ho2
  have HB4 : Hid (Below w.heap.size w y4) := HO0.out.grown HB0.out HB0.out.size hgr2
  clear ho2 hgr2 HO0 HB0
  go_wp2_with (at_builtin; refine wpList_appG _ (fun _ => rfl) rfl _ _ 23 rfl w.heap.size 3 i0 (.int .i64 0) 8 Tryz.underlying23 hi hz0 hz1 hz2 rfl _ _ (a ++ b) G rfl HO2.out rfl (HQ.out y4 HB4.out) (by have := HQL.out; have := HAL.out; have := HBVL.out; rw [List.length_append]; unfold maxLen; omega) (by have := HQL.out; have := HAL.out; have := HBVL.out; rw [List.length_append]; omega) HB4.out.size ?_)
  intro v1 y1 ho1 hgr1
  obtain ⟨o1, n1, c1, rfl⟩ : ∃ o n c, v1 = .slice o n c := by obtain ⟨ao, cap, e, -⟩ := ho1.sl; exact ⟨_, _, _, e⟩
  have HB2 : Hid (Below w.heap.size w y1) := HO2.out.grown HB4.out HB4.out.size hgr1
  have CB : Hid _ := refBad (.slice po pn pc) pvs P y1 (HR.out y1 HB2.out) pn HN.out (by omega) (.slice o1 n1 c1) (a ++ b ++ G) (by rw [List.append_assoc]; exact ho1.rg)
  rw [bd_ap] at CB
  clear ho1 hgr1 HO2 HB4
  go_wp2_with fail
  refine Calls.mono CB.out ?_
  rintro e y2 ⟨rfl, by2⟩
  have HB3 : Hid (Below w.heap.size w y2) := bstepB HB2.out by2
  clear CB by2 HB2
  by_cases h0 : apE P pn a b G = 0
  · have HE : Hid (apE P pn a b G = 0) := h0
    have hwk : wkE P pn a G = 0 := Classical.byContradiction fun hne => by
      unfold apE at h0
      rw [if_pos hne] at h0
      exact hne h0
    have CR : Hid _ := refReach (.slice po pn pc) (.slice ao an ac) (.slice qo qn qc) pvs P a G y2 (HR.out y2 HB3.out) pn HN.out hn7 (HA.out y2 HB3.out) HAL.out (HQ.out y2 HB3.out) HQL.out
    have HWK : Hid (wkE P pn a G = 0) := hwk
    rw [h0]
    clear h0 hwk
    go_wp2_with fail
    refine Calls.mono CR.out ?_
    rintro e y3 ⟨v, rfl, -, hL, by3⟩
    obtain ⟨L, hoL, -, hmL⟩ := hL HWK.out
    obtain ⟨lo, ln, lc, rfl⟩ : ∃ o n c, v = .slice o n c := by obtain ⟨ao, cap, e, -⟩ := hoL.sl; exact ⟨_, _, _, e⟩
    have HL : Hid (∀ W, Below y3.heap.size y3 W → RG (Value.int .i64) W (.slice lo ln lc) L) := fun W hW => hoL.rg.below (Nat.le_refl _) hW
    have HML : Hid (∀ y, y ∈ L ↔ ∃ x ∈ a, TelM P G x y) := hmL
    have HB5 : Hid (Below w.heap.size w y3) := bstepB HB3.out by3
    have HZ : Hid (∀ y ∈ b.take 0, y ∉ L) := fun y hy => by simp at hy
    have HY3 : Hid (Below y3.heap.size y3 y3) := Below.refl _ _
    clear CR hoL hmL by3 hL
    go_wp2
    go_loopg [13, 14] bn (fun g1 v13 _v14 wr => ∃ i : Nat, v13 = .int .i64 i ∧ i ≤ bn ∧ bn - i ≤ g1 ∧ Hid (∀ y ∈ b.take i, y ∉ L) ∧ Hid (Below w.heap.size w wr) ∧ Hid (Below y3.heap.size y3 wr))
    case atStart => exact ⟨0, rfl, by omega, by omega, HZ, HB5, HY3⟩
    case round =>
      clear HZ HB5 HY3
      obtain ⟨i, rfl, hin, hg1, HZ, HB, HY⟩ := hrel
      by_cases hlt : i < bn
      · have hltz : (i : Int) < (bn : Int) := by omega
        obtain ⟨x, gx, ox, hx1, rfl, hx2⟩ := (HBV.out wr HB.out).at hlt
        have CH : Hid _ := hasD (.slice lo ln lc) L x wr (HL.out wr HY.out)
        obtain ⟨r, hr⟩ : ∃ r, r = decide (x ∈ L) := ⟨_, rfl⟩
        rw [← hr] at CH
        have HRR : Hid (r = decide (x ∈ L)) := hr
        have HX1 : Hid (b[i]? = some x) := hx1
        clear hr hx1
        go_wp2_with fail
        clear hx2
        refine Calls.mono CH.out ?_
        rintro e y ⟨rfl, hy⟩
        rw [hy]
        clear CH hy y
        cases r with
        | true =>
          have hxl : x ∈ L := of_decide_eq_true HRR.out.symm
          have HEX : Hid (∃ x ∈ a, ∃ y ∈ b, TelM P G x y) := by
            obtain ⟨z, hz, ht⟩ := (HML.out x).1 hxl
            exact ⟨z, hz, x, List.mem_of_getElem? HX1.out, ht⟩
          clear hxl HX1 HZ
          go_wp2
          go_ret2
          exact ⟨_, by rw [HE.out]; rfl, ⟨false, rfl, fun _ => rfl, fun _ => ⟨fun h => by simp at h, fun h => (h HEX.out).elim⟩⟩, HB.out⟩
        | false =>
          have hxl : x ∉ L := of_decide_eq_false HRR.out.symm
          have HZ2 : Hid (∀ y ∈ b.take (i + 1), y ∉ L) := fun y hy => by
            rw [List.take_add_one, HX1.out] at hy
            rcases List.mem_append.1 hy with e | e
            · exact HZ.out y e
            · have : y = x := by simpa using e
              rw [this]; exact hxl
          clear hxl HX1 HZ
          go_wp2
          go_roundg (bn - (i + 1))
          case measure => omega
          case rel => exact ⟨i + 1, by first | rfl | go_num, by omega, Nat.le_refl _, HZ2, HB, HY⟩
      · have hltz : ¬ (i : Int) < (bn : Int) := by omega
        have HNO : Hid (¬ ∃ x ∈ a, ∃ y ∈ b, TelM P G x y) := by
          have h1 := HZ.out
          rw [List.take_of_length_le (by rw [HBN.out]; omega)] at h1
          rintro ⟨x, hx, y, hy, ht⟩
          exact h1 y hy ((HML.out y).2 ⟨x, hx, ht⟩)
        clear HZ
        go_wp2
        go_ret2
        exact ⟨_, by rw [HE.out]; rfl, ⟨true, rfl, fun h => absurd HE.out h, fun _ => ⟨fun _ => HNO.out, fun _ => rfl⟩⟩, HB.out⟩
  · obtain ⟨c, hc⟩ : ∃ c, c = apE P pn a b G := ⟨_, rfl⟩
    rw [← hc] at h0 ⊢
    have HC : Hid (c = apE P pn a b G) := hc
    have H0 : Hid (c ≠ 0) := h0
    have hcz : (c != (0 : Int)) = true := by simpa using h0
    clear hc h0
    go_wp2
    go_ret2
    exact ⟨_, by rw [← HC.out]; rfl, ⟨false, rfl, fun _ => rfl, fun h => absurd (by rw [HC.out]; exact h) H0.out⟩, HB3.out⟩
end Go.Proofs.YtcoiapgfaibkgaaGreat

namespace Go.Proofs.YtcoiapgfaibkgaaGreat
set_option linter.unusedVariables false
open Go.RowKit
end Go.Proofs.YtcoiapgfaibkgaaGreat

namespace Go.Proofs.YtcoiapgfaibkgaaGreat
set_option linter.unusedVariables false
open Go.RowKit Go.Shelf Go.Sort Go.Lib
theorem RRD.cut7 {w : World} {po : Option Addr} {n pc m : Nat} {pvs : List Value} {P : List (List Int)} (h : RRD w (.slice po n pc) pvs P) (hm : m ≤ n) : RRD w (.slice po m pc) (pvs.take m) (P.take m) := by
  refine ⟨h.out.cut hm, by rw [List.length_take, List.length_take, h.len], fun i x hx => ?_⟩
  have hi : i < m := by have := (List.getElem?_eq_some_iff.1 hx).1; rw [List.length_take] at this; omega
  rw [List.getElem?_take_of_lt hi] at hx
  have h1 := h.inn i x hx
  rw [List.getD_eq_getElem?_getD, List.getElem?_take_of_lt hi, ← List.getD_eq_getElem?_getD]
  exact h1
theorem len_take7 {P : List (List Int)} {b : Nat} (m : Nat) (h : ∀ i, (P.getD i []).length ≤ b) (i : Nat) : ((P.take m).getD i []).length ≤ b := by
  by_cases hi : i < m
  · rw [List.getD_eq_getElem?_getD, List.getElem?_take_of_lt hi, ← List.getD_eq_getElem?_getD]; exact h i
  · rw [List.getD_eq_getElem?_getD, List.getElem?_eq_none (by rw [List.length_take]; omega)]; exact Nat.zero_le _
/-- What is told of a question. -/
structure ReL (P : List (List Int)) (n : Nat) (a G L : List Int) : Prop where
  bad : wkE P n a G ≠ 0 → L = []
  rise : wkE P n a G = 0 → Rise L
  mem : wkE P n a G = 0 → ∀ y, y ∈ L ↔ ∃ x ∈ a, TelM P G x y
theorem ReL.same {P : List (List Int)} {n : Nat} {a G L L' : List Int} (h : ReL P n a G L) (h' : ReL P n a G L') : L = L' := by
  by_cases h0 : wkE P n a G = 0
  · exact rise_ext (h.rise h0) (h'.rise h0) fun y => (h.mem h0 y).trans (h'.mem h0 y).symm
  · rw [h.bad h0, h'.bad h0]
theorem ReL.len {P : List (List Int)} {n : Nat} {a G L : List Int} (hn : P.length = n) (h : ReL P n a G L) : L.length ≤ n := by
  by_cases h0 : wkE P n a G = 0
  · obtain ⟨hck, hG, hna⟩ := wk_parts h0
    refine len_nd n _ ((h.rise h0).imp fun h => by omega) fun y hy => ?_
    obtain ⟨x, hx, ht⟩ := (h.mem h0 y).1 hy
    obtain ⟨v, hv, hl⟩ := tel_pt hck (by rw [hn]; exact hG) (by rw [hn]; exact no_in hna hx) ht
    exact ⟨v, hv, by omega⟩
  · rw [h.bad h0]; exact Nat.zero_le _
end Go.Proofs.YtcoiapgfaibkgaaGreat

namespace Go.Proofs.YtcoiapgfaibkgaaGreat
set_option linter.unusedVariables false
open Go.RowKit Go.ChangeShapes Go.Deep
theorem bulk_mem {H : Type} {d : DataW H} {l : List (DataW H)} (h : d ∈ l) : Rows.uptoBulk d ≤ Rows.uptoBulkAll l := by
  induction l with
  | nil => cases h
  | cons x r ih =>
    simp only [Rows.uptoBulkAll]
    rcases List.mem_cons.1 h with e | e
    · subst e; omega
    · have := ih e; omega
theorem bulk_pos {H : Type} (d : DataW H) : 1 ≤ Rows.uptoBulk d := by
  cases d with
  | lit l => cases l <;> simp [Rows.uptoBulk]
  | _ => simp [Rows.uptoBulk]
theorem bulk_len {H : Type} (l : List (DataW H)) : l.length ≤ Rows.uptoBulkAll l := by
  induction l with
  | nil => simp [Rows.uptoBulkAll]
  | cons x r ih => have := bulk_pos x; simp only [Rows.uptoBulkAll, List.length_cons]; omega
theorem addr_plain {w : World} {a : Addr} {v : Value} (h : w.cell? a = some v) {x : Addr} (e : a = x.add 0) : ∃ b o, x = ⟨b, o, none⟩ := by
  obtain ⟨b, off, spot⟩ := x
  subst e
  have hspot : spot = none := by
    have := World.cell?_spot h
    simpa [Addr.add] using this
  exact ⟨b, off, by rw [hspot]⟩
theorem rg_row {w : World} {ao : Option Addr} {l c : Nat} {zs : List Int} (hl : l ≤ c) (hm : c ≤ maxLen) (hz : zs.length = c) (hn : ao = none → c = 0) (hc : ∀ a, ao = some a → ∀ j, j < c → w.cell? (a.add j) = some (.int .i64 (zs.getD j 0))) : RG (Value.int .i64) w (.slice ao l c) (zs.take l) := by
  have hlen : (zs.take l).length = l := by rw [List.length_take]; omega
  refine ⟨ao, c, by rw [hlen], by rw [hlen]; exact hl, hm, hn, fun i x hx => ?_⟩
  have hi : i < l := by have := (List.getElem?_eq_some_iff.1 hx).1; omega
  cases ao with
  | none => have := hn rfl; omega
  | some a =>
    obtain ⟨b, o, rfl⟩ := addr_plain (hc a rfl 0 (by omega)) (x := a) rfl
    refine ⟨b, o, rfl, ?_⟩
    have h1 := hc _ rfl i (by omega)
    rw [Addr.add_lit] at h1
    rw [List.getElem?_take_of_lt hi] at hx
    rw [h1, List.getD_eq_getElem?_getD, hx]; rfl
theorem rrd_open {H : Type} {enc : TypeId × Value → H} {W : World} {base : Nat} {held : Bool} {fuel : Nat} {a : Option Addr} {len cap : Nat} {d : DataW H} {p : List MemPlace} (hf : DataW.trod enc Tryz.prog W base (fun _ => true) held fuel 22 (Value.cells (.slice a len cap)).toList = some (d, p)) (hbd : Rows.uptoBulk d ≤ 1048576) :
    ∃ pvs P, RRD W (.slice a len cap) pvs P ∧ ∀ i, (P.getD i []).length ≤ 1048576 := by
  rcases open_int_rows Tryz.underlying22 Tryz.underlying23 Tryz.underlying3 (by kernel_rfl) (by kernel_rfl) hf with ⟨hcs, _⟩ | ⟨a', l, c, A, L, C, Z, hcs, _, hl, hm, hx, hr⟩
  · simp [Value.cells] at hcs
    obtain ⟨rfl, rfl, rfl⟩ := hcs
    exact ⟨[], [], ⟨RG.nil _, rfl, fun i x h => by simp at h⟩, fun i => by simp⟩
  · simp [Value.cells] at hcs
    obtain ⟨rfl, rfl, rfl⟩ := hcs
    simp only [Prod.mk.injEq] at hx
    obtain ⟨hd, -⟩ := hx
    have hP : ∀ i, i < len → ((List.range len).map fun r => (Z r).take (L r)).getD i [] = (Z i).take (L i) := fun i hi => by
      rw [List.getD_eq_getElem?_getD, List.getElem?_map, List.getElem?_range hi]; rfl
    have hlp : ((List.range len).map fun r => Value.slice (A r) (L r) (C r)).length = len := by simp
    refine ⟨(List.range len).map fun r => Value.slice (A r) (L r) (C r), (List.range len).map fun r => (Z r).take (L r), ⟨?_, by simp, fun i x hi => ?_⟩, fun i => ?_⟩
    · refine ⟨some a', cap, by rw [hlp], by rw [hlp]; exact hl, hm, fun e => by simp at e, fun i x hi => ?_⟩
      have hil : i < len := by have := (List.getElem?_eq_some_iff.1 hi).1; rw [hlp] at this; exact this
      have h0 := (hr 0 (by omega)).1
      obtain ⟨b, o, rfl⟩ := addr_plain h0 (x := a') rfl
      have h1 := (hr i (by omega)).1
      rw [Addr.add_lit] at h1
      rw [List.getElem?_map, List.getElem?_range hil] at hi
      simp only [Option.map_some, Option.some.injEq] at hi
      subst hi
      exact ⟨b, o, rfl, h1⟩
    · have hil : i < len := by have := (List.getElem?_eq_some_iff.1 hi).1; rw [hlp] at this; exact this
      rw [List.getElem?_map, List.getElem?_range hil] at hi
      simp only [Option.map_some, Option.some.injEq] at hi
      subst hi
      rw [hP i hil]
      obtain ⟨-, r1, r2, r3, -, r5, r6⟩ := hr i (by omega)
      exact rg_row r1 r2 r3 r5 (fun a h j hj => (r6 a h).2 j hj)
    · by_cases hil : i < len
      · rw [hP i hil]
        obtain ⟨-, r1, r2, r3, -, r5, r6⟩ := hr i (by omega)
        cases hA : A i with
        | none => have := r5 hA; rw [List.length_take]; omega
        | some b =>
          have hmem : (intRow .i64 (A i) (L i) (Z i) : DataW H) ∈ (List.range len).map fun r => intRow .i64 (A r) (L r) (Z r) := List.mem_map.2 ⟨i, List.mem_range.2 hil, rfl⟩
          have h1 := bulk_mem hmem
          have h2 : Rows.uptoBulk d = _ := congrArg Rows.uptoBulk hd
          simp only [Rows.uptoBulk] at h2
          have e1 : (intRow .i64 (A i) (L i) (Z i) : DataW H) = .slice (lits .i64 ((Z i).take (L i))) (lits .i64 ((Z i).drop (L i))) := by rw [hA]; rfl
          have h5 : Rows.uptoBulk (intRow .i64 (A i) (L i) (Z i) : DataW H) = Rows.uptoBulkAll (lits (H := H) .i64 ((Z i).take (L i))) + Rows.uptoBulkAll (lits (H := H) .i64 ((Z i).drop (L i))) + 1 := by rw [e1]; simp only [Rows.uptoBulk]
          have h3 := bulk_len (lits (H := H) .i64 ((Z i).take (L i)))
          have h4 : (lits (H := H) .i64 ((Z i).take (L i))).length = ((Z i).take (L i)).length := by simp [lits]
          omega
      · rw [List.getD_eq_getElem?_getD, List.getElem?_eq_none (by simp; omega)]
        simp
end Go.Proofs.YtcoiapgfaibkgaaGreat

namespace Go.Proofs.YtcoiapgfaibkgaaGreat
set_option linter.unusedVariables false
open Go.RowKit Go.ChangeShapes Go.Deep
theorem rg_open {H : Type} {enc : TypeId × Value → H} {W : World} {base : Nat} {held : Bool} {fuel : Nat} {a : Option Addr} {len cap : Nat} {d : DataW H} {p : List MemPlace} (hf : DataW.trod enc Tryz.prog W base (fun _ => true) held fuel 23 (Value.cells (.slice a len cap)).toList = some (d, p)) (hbd : Rows.uptoBulk d ≤ 1048576) :
    ∃ zs, RG (Value.int .i64) W (.slice a len cap) zs ∧ zs.length ≤ 1048576 := by
  rcases open_ints Tryz.underlying23 Tryz.underlying3 (by kernel_rfl) hf with ⟨hcs, _⟩ | ⟨x, l, c, zs, hcs, _, hl, hm, hz, hd, hcell, hwz⟩
  · simp [Value.cells] at hcs
    obtain ⟨rfl, rfl, rfl⟩ := hcs
    exact ⟨[], RG.nil _, by simp⟩
  · simp [Value.cells] at hcs
    obtain ⟨rfl, rfl, rfl⟩ := hcs
    simp only [if_true] at hz
    refine ⟨zs.take len, rg_row hl hm hz (fun e => by simp at e) (fun a ha j hj => ?_), ?_⟩
    · simp only [Option.some.injEq] at ha
      rw [← ha]; exact hcell j (by omega)
    · simp only [Prod.mk.injEq] at hd
      have h2 : Rows.uptoBulk d = _ := congrArg Rows.uptoBulk hd.1
      simp only [Rows.uptoBulk] at h2
      have h3 := bulk_len (lits (H := H) .i64 (zs.take len))
      have h4 : (lits (H := H) .i64 (zs.take len)).length = (zs.take len).length := by simp [lits]
      omega
end Go.Proofs.YtcoiapgfaibkgaaGreat

/-
  Proved here: the law SepBlanket answers true.
  Proved here: rows of rows of numbers that are handed in can be read; and the bound on what they hold.
  Proved here: a row of numbers that is handed in can be read; and the bound on what it holds.
-/
import Derived.Test.YtcadljpdokhpmaaSpC
import Derived.Test.YtcadljpdokhpmaaSpF
import Derived.Test.YtcadljpdokhpmaaDagHAll
import Derived.Test.YtcadljpdokhpmaaRows
import Derived.Deep.Matrix
namespace Go.Proofs.Ytcadljpdokhpmaa
set_option linter.unusedVariables false
open Go.RowKit
theorem getD_takeP (P : List (List Int)) (m i : Nat) : (P.take m).getD i [] = P.getD i [] ∨ (P.take m).getD i [] = [] := by
  by_cases h : i < m
  · left; rw [List.getD_eq_getElem?_getD, List.getD_eq_getElem?_getD, List.getElem?_take_of_lt h]
  · right; rw [List.getD_eq_getElem?_getD, List.getElem?_eq_none (by rw [List.length_take]; omega)]; rfl
theorem RRD.cut {w : World} {po : Option Addr} {n pc m : Nat} {pvs : List Value} {P : List (List Int)} (h : RRD w (.slice po n pc) pvs P) (hm : m ≤ n) : RRD w (.slice po m pc) (pvs.take m) (P.take m) := by
  refine ⟨h.out.cut hm, by rw [List.length_take, List.length_take, h.len], fun i x hx => ?_⟩
  have hi : i < m := by have := (List.getElem?_eq_some_iff.1 hx).1; rw [List.length_take] at this; omega
  rw [List.getElem?_take_of_lt hi] at hx
  have h1 := h.inn i x hx
  rw [List.getD_eq_getElem?_getD, List.getElem?_take_of_lt hi, ← List.getD_eq_getElem?_getD]
  exact h1
theorem len_takeP {P : List (List Int)} {b : Nat} (m : Nat) (h : ∀ i, (P.getD i []).length ≤ b) (i : Nat) : ((P.take m).getD i []).length ≤ b := by
  rcases getD_takeP P m i with e | e
  · rw [e]; exact h i
  · rw [e]; exact Nat.zero_le _
theorem blR_len {P : List (List Int)} {n : Nat} (hn : P.length = n) (hb : n ≤ 300) (a : Int) : (blR P n a).length ≤ 90600 := by
  unfold blR
  by_cases h : blE P n a = 0
  · rw [if_pos h]
    have hck : ckE P = 0 := by
      unfold blE at h
      by_cases h1 : ckE P = 0
      · exact h1
      · rw [if_pos h1] at h; exact h
    have h1 := nearK_len (P := P) (n := n) (a := a.toNat) (k := n) (fun i => by have := len_cl (ck_zero hck) i; rw [hn] at this; exact this) hb
    have h2 := ofI_len (nearK P n a.toNat n)
    rw [ofI_eq] at h2
    exact Nat.le_trans (List.length_filter_le _ _) (by omega)
  · rw [if_neg h]; exact Nat.zero_le _
set_option maxRecDepth 1000000 in
set_option maxHeartbeats 6400000 in
theorem sepBlanket_top (pv : Value) (pvs : List Value) (P : List (List Int)) (a : Int) (w : World) (h : RRD w pv pvs P) (hbl : ∀ i, (P.getD i []).length ≤ 1048576) (ha : (Lit.int .i64 a).wf = true) :
    Calls Try.prog 3 #[pv, .int .i64 a] w fun e w' => e = .returned (.bool true) ∧ Below w.heap.size w w' := by
  obtain ⟨po, n, pc, rfl⟩ : ∃ o n c, pv = .slice o n c := by obtain ⟨ao, cap, e⟩ := h.out.sl; exact ⟨_, _, _, e⟩
  have hnP : P.length = n := by rw [← h.len, h.out.len]
  have hnc := h.out.room.1
  have hncz : (n : Int) ≤ (pc : Int) := by omega
  obtain ⟨m, hm⟩ : ∃ m, m = min n 40 := ⟨_, rfl⟩
  have hcut := h.cut (m := m) (by omega)
  have hl := len_takeP m hbl
  have hnm : (P.take m).length = m := by rw [List.length_take]; omega
  generalize P.take m = Q at hcut hl hnm
  generalize pvs.take m = qvs at hcut
  have HR : Hid (RRD w (.slice po m pc) qvs Q) := hcut
  have HL : Hid (∀ i, (Q.getD i []).length ≤ 1048576) := hl
  have HN : Hid (Q.length = m) := hnm
  have hm40 : m ≤ 40 := by omega
  have hm2 : n ≤ 40 ∧ m = n ∨ ¬ n ≤ 40 ∧ m = 40 := by omega
  clear hcut h hbl hnP hm hl hnm
  go_enter Try.func3, Try.ntmps3
  go_upto_region 1 with fail
  go_cut [0] from 12 to 16 (fun v0 wx => v0 = .slice po m pc ∧ wx = w)
  case first =>
    rcases hm2 with ⟨h40, hmm⟩ | ⟨h40, hmm⟩
    · subst hmm
      have h40z : (m : Int) ≤ 40 := by omega
      have hmin : min (m : Int) 40 = (m : Int) := by omega
      go_wp2
      go_meet
      exact ⟨rfl, rfl⟩
    · subst hmm
      have h40z : ¬ (n : Int) ≤ 40 := by omega
      have hmin : min (n : Int) 40 = 40 := by omega
      have hpc : (40 : Int) ≤ (pc : Int) := by omega
      go_wp2
      go_meet
      exact ⟨rfl, rfl⟩
  case rest =>
    obtain ⟨rfl, hwc⟩ := hcut
    obtain rfl := hwc.symm
    have CT : Hid _ := twin16 _ _ Q w HR.out m HN.out (by omega) HL.out
    clear hm2
    go_wp2_with fail
    refine Calls.mono CT.out ?_
    rintro e y ⟨tv, tvs, rfl, ht⟩
    obtain ⟨tO, tn, tc, rfl⟩ : ∃ o n c, tv = .slice o n c := by obtain ⟨ao, cap, e⟩ := ht.row.rg.sl; exact ⟨_, _, _, e⟩
    have HT : Hid (TwI w.heap.size w y Q m (.slice tO tn tc) tvs) := ht
    have HBY : Hid (Below w.heap.size w y) := ht.frm
    have CR : Hid _ := refBlanket _ _ Q y (HR.out.below (Nat.le_refl _) ht.frm) m HN.out (by omega) a
    clear CT ht
    go_wp2_with fail
    refine Calls.mono CR.out ?_
    rintro e y1 ⟨wv, rfl, hw, b1⟩
    obtain ⟨wo, wn, wc2, rfl⟩ : ∃ o n c, wv = .slice o n c := by obtain ⟨ao, cap, e, -⟩ := hw.sl; exact ⟨_, _, _, e⟩
    have HW : Hid (OG (Value.int .i64) y.heap.size 3 y1 (.slice wo wn wc2) (blR Q m a)) := hw
    have HB1 : Hid (Below y.heap.size y y1) := b1
    have HT1 : Hid (TwI w.heap.size w y1 Q m (.slice tO tn tc) tvs) := HT.out.below HBY.out.size b1
    have HRT : Hid (∀ W, Below y1.heap.size y1 W → RRD W (.slice tO tn tc) tvs Q) := fun W hW => by
      have h1 := HT1.out.below HT1.out.frm.size hW
      have h2 := HN.out
      subst h2
      exact h1.rrd
    have C1 : Hid _ := blanketS _ _ Q y1 (HRT.out y1 (Below.refl _ _)) m HN.out (by omega) a
    clear CR hw b1
    go_wp2_with fail
    refine Calls.mono C1.out ?_
    rintro e y2 ⟨xv, rfl, hx, b2⟩
    obtain ⟨xo, xn, xc, rfl⟩ : ∃ o n c, xv = .slice o n c := by obtain ⟨ao, cap, e, -⟩ := hx.sl; exact ⟨_, _, _, e⟩
    have HX : Hid (OG (Value.int .i64) y1.heap.size 3 y2 (.slice xo xn xc) (blR Q m a)) := hx
    have HB2 : Hid (Below y1.heap.size y1 y2) := b2
    have C2 : Hid _ := blanketS _ _ Q y2 (HRT.out y2 b2) m HN.out (by omega) a
    clear C1 hx b2
    go_wp2_with fail
    refine Calls.mono C2.out ?_
    rintro e y3 ⟨zv, rfl, hz, b3⟩
    obtain ⟨zo, zn, zc, rfl⟩ : ∃ o n c, zv = .slice o n c := by obtain ⟨ao, cap, e, -⟩ := hz.sl; exact ⟨_, _, _, e⟩
    have HX3 : Hid (OG (Value.int .i64) y1.heap.size 3 y3 (.slice xo xn xc) (blR Q m a)) := HX.out.below b3
    have HB3 : Hid (Below y1.heap.size y1 y3) := bstepB HB2.out b3
    have CO : Hid _ := own16 y1.heap.size _ _ (.slice wo wn wc2) (blR Q m a) y3 HX3.out HB3.out.size hz.rg (HW.out.below HB3.out).rg (by have := blR_len HN.out (by omega) a; omega)
      (fun _ b g hb hg => by have h1 := (hz.lt b hb).1; have h2 := (HX.out.lt g hg).2; omega) (fun _ b g hb hg => by have h1 := (HW.out.lt b hb).2; have h2 := (HX.out.lt g hg).1; omega)
    obtain ⟨c, hc⟩ : ∃ c, c = blE Q m a := ⟨_, rfl⟩
    rw [← hc]
    have hcc : (c == c) = true := by simp
    clear C2 hz b3 hc HB2 HX
    go_wp2_with fail
    refine Calls.mono CO.out ?_
    rintro e y4 ⟨rfl, hg⟩
    have HB4 : Hid (Below y1.heap.size y1 y4) := HX3.out.grown HB3.out HB3.out.size hg
    have CK : Hid _ := kept16 w.heap.size w _ _ qvs tvs Q y4 (HR.out.below (Nat.le_refl _) (bstepB HBY.out (bstepB HB1.out HB4.out))) m HN.out HL.out (HT1.out.below HT1.out.frm.size HB4.out)
    clear CO hg HX3 HB3
    go_wp2_with fail
    refine Calls.mono CK.out ?_
    rintro e y5 ⟨rfl, q, rfl⟩
    clear CK
    go_wp2
    go_ret
    exact ⟨rfl, below_drewN (bstepB HBY.out (bstepB HB1.out HB4.out)) _⟩
end Go.Proofs.Ytcadljpdokhpmaa

namespace Go.Proofs.Ytcadljpdokhpmaa
set_option linter.unusedVariables false
open Go.RowKit Go.ChangeShapes Go.Deep
theorem bulk_mem {H : Type} {d : DataW H} {l : List (DataW H)} (h : d ∈ l) : Rows.uptoBulk d ≤ Rows.uptoBulkAll l := by
  induction l with
  | nil => cases h
  | cons x r ih =>
    simp only [Rows.uptoBulkAll]
    rcases List.mem_cons.1 h with e | e
    · subst e; omega
    · have := ih e; omega
theorem bulk_pos {H : Type} (d : DataW H) : 1 ≤ Rows.uptoBulk d := by
  cases d with
  | lit l => cases l <;> simp [Rows.uptoBulk]
  | _ => simp [Rows.uptoBulk]
theorem bulk_len {H : Type} (l : List (DataW H)) : l.length ≤ Rows.uptoBulkAll l := by
  induction l with
  | nil => simp [Rows.uptoBulkAll]
  | cons x r ih => have := bulk_pos x; simp only [Rows.uptoBulkAll, List.length_cons]; omega
theorem addr_plain {w : World} {a : Addr} {v : Value} (h : w.cell? a = some v) {x : Addr} (e : a = x.add 0) : ∃ b o, x = ⟨b, o, none⟩ := by
  obtain ⟨b, off, spot⟩ := x
  subst e
  have hspot : spot = none := by
    have := World.cell?_spot h
    simpa [Addr.add] using this
  exact ⟨b, off, by rw [hspot]⟩
theorem rg_row {w : World} {ao : Option Addr} {l c : Nat} {zs : List Int} (hl : l ≤ c) (hm : c ≤ maxLen) (hz : zs.length = c) (hn : ao = none → c = 0) (hc : ∀ a, ao = some a → ∀ j, j < c → w.cell? (a.add j) = some (.int .i64 (zs.getD j 0))) : RG (Value.int .i64) w (.slice ao l c) (zs.take l) := by
  have hlen : (zs.take l).length = l := by rw [List.length_take]; omega
  refine ⟨ao, c, by rw [hlen], by rw [hlen]; exact hl, hm, hn, fun i x hx => ?_⟩
  have hi : i < l := by have := (List.getElem?_eq_some_iff.1 hx).1; omega
  cases ao with
  | none => have := hn rfl; omega
  | some a =>
    obtain ⟨b, o, rfl⟩ := addr_plain (hc a rfl 0 (by omega)) (x := a) rfl
    refine ⟨b, o, rfl, ?_⟩
    have h1 := hc _ rfl i (by omega)
    rw [Addr.add_lit] at h1
    rw [List.getElem?_take_of_lt hi] at hx
    rw [h1, List.getD_eq_getElem?_getD, hx]; rfl
theorem rrd_open {H : Type} {enc : TypeId × Value → H} {W : World} {base : Nat} {held : Bool} {fuel : Nat} {a : Option Addr} {len cap : Nat} {d : DataW H} {p : List MemPlace} (hf : DataW.trod enc Try.prog W base (fun _ => true) held fuel 22 (Value.cells (.slice a len cap)).toList = some (d, p)) (hbd : Rows.uptoBulk d ≤ 1048576) :
    ∃ pvs P, RRD W (.slice a len cap) pvs P ∧ ∀ i, (P.getD i []).length ≤ 1048576 := by
  rcases open_int_rows Try.underlying22 Try.underlying24 Try.underlying3 (by kernel_rfl) (by kernel_rfl) hf with ⟨hcs, _⟩ | ⟨a', l, c, A, L, C, Z, hcs, _, hl, hm, hx, hr⟩
  · simp [Value.cells] at hcs
    obtain ⟨rfl, rfl, rfl⟩ := hcs
    exact ⟨[], [], ⟨RG.nil _, rfl, fun i x h => by simp at h⟩, fun i => by simp⟩
  · simp [Value.cells] at hcs
    obtain ⟨rfl, rfl, rfl⟩ := hcs
    simp only [Prod.mk.injEq] at hx
    obtain ⟨hd, -⟩ := hx
    have hP : ∀ i, i < len → ((List.range len).map fun r => (Z r).take (L r)).getD i [] = (Z i).take (L i) := fun i hi => by
      rw [List.getD_eq_getElem?_getD, List.getElem?_map, List.getElem?_range hi]; rfl
    have hlp : ((List.range len).map fun r => Value.slice (A r) (L r) (C r)).length = len := by simp
    refine ⟨(List.range len).map fun r => Value.slice (A r) (L r) (C r), (List.range len).map fun r => (Z r).take (L r), ⟨?_, by simp, fun i x hi => ?_⟩, fun i => ?_⟩
    · refine ⟨some a', cap, by rw [hlp], by rw [hlp]; exact hl, hm, fun e => by simp at e, fun i x hi => ?_⟩
      have hil : i < len := by have := (List.getElem?_eq_some_iff.1 hi).1; rw [hlp] at this; exact this
      have h0 := (hr 0 (by omega)).1
      obtain ⟨b, o, rfl⟩ := addr_plain h0 (x := a') rfl
      have h1 := (hr i (by omega)).1
      rw [Addr.add_lit] at h1
      rw [List.getElem?_map, List.getElem?_range hil] at hi
      simp only [Option.map_some, Option.some.injEq] at hi
      subst hi
      exact ⟨b, o, rfl, h1⟩
    · have hil : i < len := by have := (List.getElem?_eq_some_iff.1 hi).1; rw [hlp] at this; exact this
      rw [List.getElem?_map, List.getElem?_range hil] at hi
      simp only [Option.map_some, Option.some.injEq] at hi
      subst hi
      rw [hP i hil]
      obtain ⟨-, r1, r2, r3, -, r5, r6⟩ := hr i (by omega)
      exact rg_row r1 r2 r3 r5 (fun a h j hj => (r6 a h).2 j hj)
    · by_cases hil : i < len
      · rw [hP i hil]
        obtain ⟨-, r1, r2, r3, -, r5, r6⟩ := hr i (by omega)
        cases hA : A i with
        | none => have := r5 hA; rw [List.length_take]; omega
        | some b =>
          have hmem : (intRow .i64 (A i) (L i) (Z i) : DataW H) ∈ (List.range len).map fun r => intRow .i64 (A r) (L r) (Z r) := List.mem_map.2 ⟨i, List.mem_range.2 hil, rfl⟩
          have h1 := bulk_mem hmem
          have h2 : Rows.uptoBulk d = _ := congrArg Rows.uptoBulk hd
          simp only [Rows.uptoBulk] at h2
          have e1 : (intRow .i64 (A i) (L i) (Z i) : DataW H) = .slice (lits .i64 ((Z i).take (L i))) (lits .i64 ((Z i).drop (L i))) := by rw [hA]; rfl
          have h5 : Rows.uptoBulk (intRow .i64 (A i) (L i) (Z i) : DataW H) = Rows.uptoBulkAll (lits (H := H) .i64 ((Z i).take (L i))) + Rows.uptoBulkAll (lits (H := H) .i64 ((Z i).drop (L i))) + 1 := by rw [e1]; simp only [Rows.uptoBulk]
          have h3 := bulk_len (lits (H := H) .i64 ((Z i).take (L i)))
          have h4 : (lits (H := H) .i64 ((Z i).take (L i))).length = ((Z i).take (L i)).length := by simp [lits]
          omega
      · rw [List.getD_eq_getElem?_getD, List.getElem?_eq_none (by simp; omega)]
        simp
end Go.Proofs.Ytcadljpdokhpmaa

namespace Go.Proofs.Ytcadljpdokhpmaa
set_option linter.unusedVariables false
open Go.RowKit Go.ChangeShapes Go.Deep
theorem rg_open {H : Type} {enc : TypeId × Value → H} {W : World} {base : Nat} {held : Bool} {fuel : Nat} {a : Option Addr} {len cap : Nat} {d : DataW H} {p : List MemPlace} (hf : DataW.trod enc Try.prog W base (fun _ => true) held fuel 24 (Value.cells (.slice a len cap)).toList = some (d, p)) (hbd : Rows.uptoBulk d ≤ 1048576) :
    ∃ zs, RG (Value.int .i64) W (.slice a len cap) zs ∧ zs.length ≤ 1048576 := by
  rcases open_ints Try.underlying24 Try.underlying3 (by kernel_rfl) hf with ⟨hcs, _⟩ | ⟨x, l, c, zs, hcs, _, hl, hm, hz, hd, hcell, hwz⟩
  · simp [Value.cells] at hcs
    obtain ⟨rfl, rfl, rfl⟩ := hcs
    exact ⟨[], RG.nil _, by simp⟩
  · simp [Value.cells] at hcs
    obtain ⟨rfl, rfl, rfl⟩ := hcs
    simp only [if_true] at hz
    refine ⟨zs.take len, rg_row hl hm hz (fun e => by simp at e) (fun a ha j hj => ?_), ?_⟩
    · simp only [Option.some.injEq] at ha
      rw [← ha]; exact hcell j (by omega)
    · simp only [Prod.mk.injEq] at hd
      have h2 : Rows.uptoBulk d = _ := congrArg Rows.uptoBulk hd.1
      simp only [Rows.uptoBulk] at h2
      have h3 := bulk_len (lits (H := H) .i64 (zs.take len))
      have h4 : (lits (H := H) .i64 (zs.take len)).length = (zs.take len).length := by simp [lits]
      omega
end Go.Proofs.Ytcadljpdokhpmaa

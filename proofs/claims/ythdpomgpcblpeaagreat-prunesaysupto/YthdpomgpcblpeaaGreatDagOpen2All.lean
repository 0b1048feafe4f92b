/-
  Proved here: layer 17's law: made: what a question is answered is its holder's.
  Proved here: the law that holds package prune's answers against the document's, walked.
  Proved here: rows of rows of numbers that are handed in can be read; and the bound on what they hold.
  Proved here: a row of numbers that is handed in can be read; and the bound on what it holds.
-/
import Derived.Test.YthdpomgpcblpeaaGreatPsCAll
import Derived.Test.YthdpomgpcblpeaaGreatPsSAll
import Derived.Test.YthdpomgpcblpeaaGreatDagHAll
import Derived.Test.YthdpomgpcblpeaaGreatRows
import Derived.Deep.Matrix
namespace Go.Proofs.YthdpomgpcblpeaaGreat
set_option linter.unusedVariables false
open Go.RowKit Go.Shelf Go.Sort Go.Lib
/-- What a list holds that is answered. -/
structure PrL (P : List (List Int)) (n : Nat) (a G : List Int) (Q : Int → Prop) (L : List Int) : Prop where
  no : nsE P n (a ++ G) ≠ 0 → L = []
  yes : nsE P n (a ++ G) = 0 → Rise L ∧ ∀ x, x ∈ L ↔ Q x
theorem PrL.uniq {P : List (List Int)} {n : Nat} {a G : List Int} {Q : Int → Prop} {L L' : List Int} (h : PrL P n a G Q L) (h' : PrL P n a G Q L') : L = L' := by
  by_cases h0 : nsE P n (a ++ G) = 0
  · exact rise_ext (h.yes h0).1 (h'.yes h0).1 fun x => ((h.yes h0).2 x).trans ((h'.yes h0).2 x).symm
  · rw [h.no h0, h'.no h0]
theorem whQ_pt {d : Nat} {P : List (List Int)} {n : Nat} {a G : List Int} {x : Int} (h : WhQ d P n a G x) : ∃ k : Nat, x = (k : Int) ∧ k < n := by
  unfold WhQ at h
  split at h <;> (obtain ⟨k, e, hk, _⟩ := h; exact ⟨k, e, hk⟩)
theorem PrL.len {d : Nat} {P : List (List Int)} {n : Nat} {a G : List Int} {L : List Int} (h : PrL P n a G (WhQ d P n a G) L) : L.length ≤ n := by
  by_cases h0 : nsE P n (a ++ G) = 0
  · obtain ⟨h1, h2⟩ := h.yes h0
    have h3 := subs_len (L := L) (M := (List.range n).map Int.ofNat) (h1.imp (fun {a b} (h : a < b) (e : a = b) => by omega)) (fun x hx => by
      obtain ⟨k, rfl, hk⟩ := whQ_pt ((h2 x).1 hx)
      exact List.mem_map.2 ⟨k, List.mem_range.2 hk, rfl⟩)
    simpa using h3
  · rw [h.no h0]; simp
theorem belowS7 {a b c : World} (h : Below a.heap.size a b) (h2 : Below b.heap.size b c) : Below a.heap.size a c := h.trans (h2.mono h.size)
/-- A point's mirror, as reckoned. -/
def mwS (n : Nat) (x : Int) : Int := wrap64 ((n : Int) - 1 - x)
/-- A list while it is written over. -/
def mxF (L : List Int) (n i : Nat) : List Int := (L.take i).map (mwS n) ++ L.drop i
theorem mxF_len {L : List Int} {n i : Nat} (h : i ≤ L.length) : (mxF L n i).length = L.length := by unfold mxF; rw [List.length_append, List.length_map, List.length_take, List.length_drop]; omega
theorem mxF_read {L : List Int} {n i : Nat} {x : Int} (h : L[i]? = some x) : (mxF L n i)[i]? = some x := by
  have hl := (List.getElem?_eq_some_iff.1 h).1
  unfold mxF
  rw [List.getElem?_append_right (by rw [List.length_map, List.length_take]; omega), List.length_map, List.length_take, Nat.min_eq_left (by omega), Nat.sub_self, List.getElem?_drop, Nat.add_zero]
  exact h
theorem mxF_at {L : List Int} {n i : Nat} {x : Int} (h : L[i]? = some x) : (mxF L n i).set i (mwS n x) = mxF L n (i + 1) := by
  have hl := (List.getElem?_eq_some_iff.1 h).1
  unfold mxF
  rw [List.set_append_right _ _ (by simp; omega)]
  rw [List.length_map, List.length_take, Nat.min_eq_left (by omega), Nat.sub_self, List.drop_eq_getElem_cons hl, List.set_cons_zero, List.take_add_one, h, List.map_append, List.append_assoc]
  rfl
theorem mxF_end {L : List Int} {n i : Nat} (h : L.length = i) : mxF L n i = L.map (mwS n) := by
  unfold mxF; rw [List.take_of_length_le (by omega), List.drop_of_length_le (by omega), List.append_nil]
/-- One block. -/
def OneB (g q : Nat) : Prop := q = g
set_option maxRecDepth 1000000 in
set_option maxHeartbeats 25600000 in
theorem made17 (d : Nat) (hd : d ≤ 4) (pv av qv : Value) (pvs : List Value) (P : List (List Int)) (a G : List Int) (w : World) (h : RRD w pv pvs P) (n : Nat) (hn : P.length = n) (hb : n ≤ 14) (hbl : ∀ i, (P.getD i []).length ≤ 90) (ha : RG (Value.int .i64) w av a) (hal : a.length ≤ 100) (hq : RG (Value.int .i64) w qv G) (hql : G.length ≤ 100) :
    Calls Tryz.prog 5 #[.int .i64 (d : Int), pv, av, qv] w fun e w' => e = .returned (.bool true) ∧ Below w.heap.size w w' := by
  obtain ⟨i0, hi, hz0, hz1, hz2⟩ := info_parts Tryz.infoI
  have CT : Hid _ := told17 d hd pv av qv pvs P a G w h n hn hb hbl ha hal hq hql
  obtain ⟨po, pn, pc, rfl⟩ : ∃ o n c, pv = .slice o n c := by obtain ⟨ao, cap, e⟩ := h.out.sl; exact ⟨_, _, _, e⟩
  obtain rfl : pn = n := by rw [← hn, ← h.len, h.out.len]
  obtain ⟨ao, an, ac, rfl⟩ : ∃ o n c, av = .slice o n c := by obtain ⟨ao, cap, e⟩ := ha.sl; exact ⟨_, _, _, e⟩
  obtain ⟨qo, qn, qc, rfl⟩ : ∃ o n c, qv = .slice o n c := by obtain ⟨ao, cap, e⟩ := hq.sl; exact ⟨_, _, _, e⟩
  have HR : Hid (∀ W, Below w.heap.size w W → RRD W (.slice po pn pc) pvs P) := fun W hW => h.below (Nat.le_refl _) hW
  have HA : Hid (∀ W, Below w.heap.size w W → RG (Value.int .i64) W (.slice ao an ac) a) := fun W hW => ha.below (Nat.le_refl _) hW
  have HQ : Hid (∀ W, Below w.heap.size w W → RG (Value.int .i64) W (.slice qo qn qc) G) := fun W hW => hq.below (Nat.le_refl _) hW
  have HN : Hid (P.length = pn) := hn
  have HAN : Hid (a.length = an) := ha.len
  have HQN : Hid (G.length = qn) := hq.len
  have hanm : an ≤ 100 := by rw [← ha.len]; exact hal
  have hqnm : qn ≤ 100 := by rw [← hq.len]; exact hql
  have HAL : Hid (a.length ≤ 100) := hal
  have HQL : Hid (G.length ≤ 100) := hql
  have HBL : Hid (∀ i, (P.getD i []).length ≤ 90) := hbl
  have HD : Hid (d ≤ 4) := hd
  clear h hn ha hal hq hql hbl hd
  go_enter Tryz.func5, Tryz.ntmps5
  go_wp2_with fail
  refine Calls.mono CT.out ?_
  clear CT
  rintro e w1 ⟨⟨wo, wn, wc, L, rfl, hL, her, hok⟩, hw1⟩
  have HPL : Hid (PrL P pn a G (WhQ d P pn a G) L) := ⟨fun h => (her h).2.2.2, hok⟩
  have HLL : Hid (L.length ≤ 100000) := by have := HPL.out.len; show _ ≤ _; omega
  have HB1 : Hid (Below w.heap.size w w1) := hw1
  have HWT : Hid (∀ W, Below w1.heap.size w1 W → RG (Value.int .i64) W (.slice wo wn wc) L) := fun W hW => hL.rg.below (Nat.le_refl _) hW
  obtain ⟨c, hc⟩ : ∃ c, nsE P pn (a ++ G) = c := ⟨_, rfl⟩
  have HC : Hid (nsE P pn (a ++ G) = c) := hc
  rw [hc]
  have CL : Hid _ := lent17 (.slice po pn pc) pvs P w1 (HR.out w1 hw1) pn HN.out (by omega) (fun i => by have := HBL.out i; omega)
  clear hL her hok hw1 hc
  go_wp2_with fail
  refine Calls.mono CL.out ?_
  clear CL
  rintro e w2 ⟨gl, lc, rfl, ⟨lvs, m, hE⟩, hw2⟩
  have HB2 : Hid (Below w1.heap.size w1 w2) := hw2
  have HLE : Hid (∀ W, Below w2.heap.size w2 W → LsE w1.heap.size W P pn gl lc lvs m) := fun W hW => hE.below hW
  have CG : Hid _ := long17 (.slice ao an ac) a w2 (HA.out w2 (belowS7 HB1.out hw2)) (by rw [HAN.out]; omega)
  rw [HAN.out] at CG
  clear hE hw2
  go_wp2_with fail
  refine Calls.mono CG.out ?_
  clear CG
  rintro e w3 ⟨gp, cp, rfl, hg, hw3⟩
  have hcz : (an : Int) ≤ (cp : Int) := by have := hg.rg.room.1; omega
  have hcz2 : an ≤ an + 6 := by omega
  have HB3 : Hid (Below w2.heap.size w2 w3) := hw3
  have HPR : Hid (∀ W, Below w3.heap.size w3 W → RG (Value.int .i64) W (.slice (some ⟨gp, 0, none⟩) (an + 6) cp) (a ++ mrks)) := fun W hW => hg.rg.below (Nat.le_refl _) hW
  have hgp := hg.lt gp rfl
  have HGP : Hid (w2.heap.size ≤ gp ∧ gp < w3.heap.size) := hgp
  have HPO : Hid (OG (Value.int .i64) w2.heap.size 3 w3 (.slice (some ⟨gp, 0, none⟩) an cp) a) := by
    have h1 := hg.cutD (m := an) (by rw [List.length_append, HAN.out]; omega)
    rw [List.take_left' HAN.out] at h1
    exact h1
  have CG : Hid _ := long17 (.slice qo qn qc) G w3 (HQ.out w3 (belowS7 HB1.out (belowS7 HB2.out hw3))) (by rw [HQN.out]; omega)
  rw [HQN.out] at CG
  clear hg hw3 hgp
  go_wp2_with fail
  refine Calls.mono CG.out ?_
  clear CG
  rintro e w4 ⟨gq, cq, rfl, hg, hw4⟩
  have hcy : (qn : Int) ≤ (cq : Int) := by have := hg.rg.room.1; omega
  have hcy2 : qn ≤ qn + 6 := by omega
  have HB4 : Hid (Below w3.heap.size w3 w4) := hw4
  have HQR : Hid (∀ W, Below w4.heap.size w4 W → RG (Value.int .i64) W (.slice (some ⟨gq, 0, none⟩) (qn + 6) cq) (G ++ mrks)) := fun W hW => hg.rg.below (Nat.le_refl _) hW
  have hgq := hg.lt gq rfl
  have HGQ : Hid (w3.heap.size ≤ gq ∧ gq < w4.heap.size) := hgq
  have HQO : Hid (OG (Value.int .i64) w3.heap.size 3 w4 (.slice (some ⟨gq, 0, none⟩) qn cq) G) := by
    have h1 := hg.cutD (m := qn) (by rw [List.length_append, HQN.out]; omega)
    rw [List.take_left' HQN.out] at h1
    exact h1
  have HPO4 : Hid (OG (Value.int .i64) w2.heap.size 3 w4 (.slice (some ⟨gp, 0, none⟩) an cp) a) := HPO.out.below hw4
  have CC1 : Hid _ := call17 d HD.out (.slice (some ⟨gl, 0, none⟩) pn lc) (.slice (some ⟨gp, 0, none⟩) an cp) (.slice (some ⟨gq, 0, none⟩) qn cq) lvs P a G w4 (HLE.out w4 (belowS7 HB3.out hw4)).own.rrd pn HN.out hb HBL.out HPO4.out.rg HAL.out HQO.out.rg HQL.out
  clear hg hw4 hgq HPO
  go_wp2_with fail
  refine Calls.mono CC1.out ?_
  clear CC1
  rintro e w5 ⟨⟨o1, n1, k1, L1, rfl, ho1, her, hok⟩, hw5⟩
  rw [HC.out]
  have e1 : L1 = L := PrL.uniq ⟨fun h => (her h).2.2.2, hok⟩ HPL.out
  rw [e1] at ho1
  have HO1 : Hid (OG (Value.int .i64) w4.heap.size 3 w5 (.slice o1 n1 k1) L) := ho1
  have HB5 : Hid (Below w4.heap.size w4 w5) := hw5
  have CC2 : Hid _ := call17 d HD.out (.slice (some ⟨gl, 0, none⟩) pn lc) (.slice (some ⟨gp, 0, none⟩) an cp) (.slice (some ⟨gq, 0, none⟩) qn cq) lvs P a G w5 (HLE.out w5 (belowS7 HB3.out (belowS7 HB4.out hw5))).own.rrd pn HN.out hb HBL.out (HPO4.out.below hw5).rg HAL.out (HQO.out.below hw5).rg HQL.out
  clear ho1 her hok hw5 e1 L1
  go_wp2_with fail
  refine Calls.mono CC2.out ?_
  clear CC2
  rintro e w6 ⟨⟨o2, n2, k2, L1, rfl, ho1, her, hok⟩, hw6⟩
  rw [HC.out]
  have e1 : L1 = L := PrL.uniq ⟨fun h => (her h).2.2.2, hok⟩ HPL.out
  rw [e1] at ho1
  have HO2 : Hid (OG (Value.int .i64) w5.heap.size 3 w6 (.slice o2 n2 k2) L) := ho1
  have HB6 : Hid (Below w5.heap.size w5 w6) := hw6
  have CC3 : Hid _ := call17 d HD.out (.slice (some ⟨gl, 0, none⟩) pn lc) (.slice (some ⟨gp, 0, none⟩) an cp) (.slice (some ⟨gq, 0, none⟩) qn cq) lvs P a G w6 (HLE.out w6 (belowS7 HB3.out (belowS7 HB4.out (belowS7 HB5.out hw6)))).own.rrd pn HN.out hb HBL.out (HPO4.out.below (belowS7 HB5.out hw6)).rg HAL.out (HQO.out.below (belowS7 HB5.out hw6)).rg HQL.out
  clear ho1 her hok hw6 e1 L1
  go_wp2_with fail
  refine Calls.mono CC3.out ?_
  clear CC3
  rintro e w7 ⟨⟨o3, n3, k3, L1, rfl, ho1, her, hok⟩, hw7⟩
  rw [HC.out]
  have e1 : L1 = L := PrL.uniq ⟨fun h => (her h).2.2.2, hok⟩ HPL.out
  rw [e1] at ho1
  have HO3 : Hid (OG (Value.int .i64) w6.heap.size 3 w7 (.slice o3 n3 k3) L) := ho1
  have HB7 : Hid (Below w6.heap.size w6 w7) := hw7
  have hcc : (c != c) = false := by simp
  have HW7 : Hid (Below w1.heap.size w1 w7) := belowS7 HB2.out (belowS7 HB3.out (belowS7 HB4.out (belowS7 HB5.out (belowS7 HB6.out hw7))))
  have SA : Hid _ := same17 (.slice o1 n1 k1) (.slice wo wn wc) L w7 (HO1.out.below (belowS7 HB6.out hw7)).rg (HWT.out w7 HW7.out)
  clear ho1 her hok hw7 e1 L1
  go_wp2_with fail
  refine Calls.mono SA.out ?_
  clear SA
  rintro e w8 ⟨rfl, hw8⟩
  have HB8 : Hid (Below w7.heap.size w7 w8) := hw8
  have SB : Hid _ := same17 (.slice o2 n2 k2) (.slice wo wn wc) L w8 (HO2.out.below (belowS7 HB7.out hw8)).rg (HWT.out w8 (belowS7 HW7.out hw8))
  clear hw8
  go_wp2_with fail
  refine Calls.mono SB.out ?_
  clear SB
  rintro e w9 ⟨rfl, hw9⟩
  have HB9 : Hid (Below w7.heap.size w7 w9) := belowS7 HB8.out hw9
  have SC : Hid _ := same17 (.slice o3 n3 k3) (.slice wo wn wc) L w9 (HO3.out.below HB9.out).rg (HWT.out w9 (belowS7 HW7.out HB9.out))
  clear hw9
  go_wp2_with fail
  refine Calls.mono SC.out ?_
  clear SC
  rintro e w10 ⟨rfl, hw10⟩
  have HBX : Hid (Below w7.heap.size w7 w10) := belowS7 HB9.out hw10
  have H110 : Hid (OG (Value.int .i64) w4.heap.size 3 w10 (.slice o1 n1 k1) L) := HO1.out.below (belowS7 HB6.out (belowS7 HB7.out HBX.out))
  have H210 : Hid (OG (Value.int .i64) w5.heap.size 3 w10 (.slice o2 n2 k2) L) := HO2.out.below (belowS7 HB7.out HBX.out)
  have H310 : Hid (OG (Value.int .i64) w6.heap.size 3 w10 (.slice o3 n3 k3) L) := HO3.out.below HBX.out
  have B410 : Hid (Below w4.heap.size w4 w10) := belowS7 HB5.out (belowS7 HB6.out (belowS7 HB7.out HBX.out))
  have L45 : Hid (w4.heap.size ≤ w5.heap.size) := HB5.out.size
  have H6W : Hid (w6.heap.size ≤ w10.heap.size) := Nat.le_trans HB7.out.size HBX.out.size
  have L56 : Hid (w5.heap.size ≤ w6.heap.size) := HB6.out.size
  have L1LT : Hid (∀ q, OfV (.slice o1 n1 k1) q → w4.heap.size ≤ q ∧ q < w5.heap.size) := fun q hq => HO1.out.lt q hq
  have L2LT : Hid (∀ q, OfV (.slice o2 n2 k2) q → w5.heap.size ≤ q ∧ q < w6.heap.size) := fun q hq => HO2.out.lt q hq
  have L3LT : Hid (∀ q, OfV (.slice o3 n3 k3) q → w6.heap.size ≤ q ∧ q < w7.heap.size) := fun q hq => HO3.out.lt q hq
  have CS : Hid _ := spoilt17 (.slice o1 n1 k1) L (-1) w4.heap.size w10 H110.out B410.out.size HLL.out
  clear hw10 HO1 HO2 HO3 HB5 HB6 HB7 HB8 HB9 HBX HW7 H110 hcc
  go_wp2_with fail
  refine Calls.mono CS.out ?_
  clear CS
  rintro e w11 ⟨rfl, hf⟩
  have B411 : Hid (Below w4.heap.size w4 w11) := B410.out.trans (hf.below B410.out.size (fun q hq => (L1LT.out q hq).1))
  have H211 : Hid (OG (Value.int .i64) w5.heap.size 3 w11 (.slice o2 n2 k2) L) := H210.out.of_blocks fun q hq => hf.block q (H210.out.lt q hq).2 (fun e => by have h1 := (L1LT.out q e).2; have h2 := (L2LT.out q hq).1; omega)
  have H311 : Hid (OG (Value.int .i64) w6.heap.size 3 w11 (.slice o3 n3 k3) L) := H310.out.of_blocks fun q hq => hf.block q (H310.out.lt q hq).2 (fun e => by have h1 := (L1LT.out q e).2; have h2 := (L3LT.out q hq).1; have := L56.out; omega)
  have L611 : Hid (w6.heap.size ≤ w11.heap.size) := Nat.le_trans H6W.out hf.size
  have CS : Hid _ := spoilt17 (.slice o3 n3 k3) L (-2) w6.heap.size w11 H311.out L611.out HLL.out
  clear hf H210 H310 B410
  go_wp2_with fail
  refine Calls.mono CS.out ?_
  clear CS
  rintro e y ⟨rfl, hf⟩
  have B4Y : Hid (Below w4.heap.size w4 y) := B411.out.trans (hf.below B411.out.size (fun q hq => by have h1 := (L3LT.out q hq).1; have := L45.out; have := L56.out; omega))
  have H2Y : Hid (OG (Value.int .i64) w5.heap.size 3 y (.slice o2 n2 k2) L) := H211.out.of_blocks fun q hq => hf.block q (H211.out.lt q hq).2 (fun e => by have h1 := (L3LT.out q e).1; have h2 := (L2LT.out q hq).2; omega)
  have W4Y : Hid (∀ z : World, z.heap.size ≤ w4.heap.size → Below z.heap.size z w4 → Below z.heap.size z y) := fun z hz hb9 => hb9.trans (B4Y.out.mono hz)
  clear hf H211 H311 B411 L611
  have BW1 : Hid (Below w1.heap.size w1 y) := belowS7 HB2.out (belowS7 HB3.out (belowS7 HB4.out B4Y.out))
  have BW2 : Hid (Below w2.heap.size w2 y) := belowS7 HB3.out (belowS7 HB4.out B4Y.out)
  have BW3 : Hid (Below w3.heap.size w3 y) := belowS7 HB4.out B4Y.out
  have BWY : Hid (Below w.heap.size w y) := belowS7 HB1.out BW1.out
  have SD : Hid _ := same17 (.slice o2 n2 k2) (.slice wo wn wc) L y H2Y.out.rg (HWT.out y BW1.out)
  clear W4Y
  go_wp2_with fail
  refine Calls.mono SD.out ?_
  clear SD
  rintro e y1 ⟨rfl, hy1⟩
  have Y1 : Hid (Below y.heap.size y y1) := hy1
  have CK : Hid _ := kept17 (.slice po pn pc) pvs P y1 (HR.out y1 (belowS7 BWY.out hy1)) pn HN.out (by omega) (fun i => by have := HBL.out i; omega) w1.heap.size gl lc lvs m (HLE.out y1 (belowS7 BW2.out hy1))
  clear hy1
  go_wp2_with fail
  refine Calls.mono CK.out ?_
  clear CK
  rintro e y2 ⟨rfl, hy2⟩
  have Y2 : Hid (Below y.heap.size y y2) := belowS7 Y1.out hy2
  have CG : Hid _ := long17 (.slice ao an ac) a y2 (HA.out y2 (belowS7 BWY.out Y2.out)) (by rw [HAN.out]; omega)
  rw [HAN.out] at CG
  clear hy2
  go_wp2_with fail
  refine Calls.mono CG.out ?_
  clear CG
  rintro e y3 ⟨gx, cx, rfl, hg, hy3⟩
  have Y3 : Hid (Below y.heap.size y y3) := belowS7 Y2.out hy3
  have SE : Hid _ := same17 (.slice (some ⟨gp, 0, none⟩) (an + 6) cp) (.slice (some ⟨gx, 0, none⟩) (an + 6) cx) (a ++ mrks) y3 (HPR.out y3 (belowS7 BW3.out Y3.out)) hg.rg
  clear hg hy3
  go_wp2_with fail
  refine Calls.mono SE.out ?_
  clear SE
  rintro e y4 ⟨rfl, hy4⟩
  have Y4 : Hid (Below y.heap.size y y4) := belowS7 Y3.out hy4
  have CG : Hid _ := long17 (.slice qo qn qc) G y4 (HQ.out y4 (belowS7 BWY.out Y4.out)) (by rw [HQN.out]; omega)
  rw [HQN.out] at CG
  clear hy4
  go_wp2_with fail
  refine Calls.mono CG.out ?_
  clear CG
  rintro e y5 ⟨gz, cz, rfl, hg, hy5⟩
  have Y5 : Hid (Below y.heap.size y y5) := belowS7 Y4.out hy5
  have SF : Hid _ := same17 (.slice (some ⟨gq, 0, none⟩) (qn + 6) cq) (.slice (some ⟨gz, 0, none⟩) (qn + 6) cz) (G ++ mrks) y5 (HQR.out y5 (belowS7 B4Y.out Y5.out)) hg.rg
  clear hg hy5
  go_wp2_with fail
  refine Calls.mono SF.out ?_
  clear SF
  rintro e u ⟨rfl, hu⟩
  have YU : Hid (Below y.heap.size y u) := belowS7 Y5.out hu
  have HP0 : Hid (OG (Value.int .i64) w2.heap.size 3 u (.slice (some ⟨gp, 0, none⟩) an cp) (mxF a pn 0)) := by
    show OG _ _ _ _ _ _
    have h1 := HPO4.out.below (belowS7 B4Y.out YU.out)
    simpa [mxF] using h1
  have HQU : Hid (OG (Value.int .i64) w3.heap.size 3 u (.slice (some ⟨gq, 0, none⟩) qn cq) G) := HQO.out.below (belowS7 B4Y.out YU.out)
  have H2U : Hid (OG (Value.int .i64) w5.heap.size 3 u (.slice o2 n2 k2) L) := H2Y.out.below YU.out
  have BU2 : Hid (Below w2.heap.size w2 u) := belowS7 BW2.out YU.out
  have HF0 : Hid (FrP (OneB gp) u u) := FrP.refl _ _
  clear hu Y1 Y2 Y3 Y4 Y5 YU BWY BW1 BW2 BW3 B4Y H2Y HPO4 HQO HPR HQR L1LT L3LT
  go_wp2
  go_loopg [24] an (fun g1 v24 wr => ∃ i : Nat, v24 = .int .i64 i ∧ i ≤ an ∧ an - i ≤ g1 ∧ Hid (OG (Value.int .i64) w2.heap.size 3 wr (.slice (some ⟨gp, 0, none⟩) an cp) (mxF a pn i)) ∧ Hid (FrP (OneB gp) u wr))
  case atStart => exact ⟨0, rfl, Nat.zero_le _, by omega, HP0, HF0⟩
  case round =>
    clear HP0 HF0
    obtain ⟨i, rfl, hin, hg1, HI, HF⟩ := hrel
    by_cases hlt : i < an
    · have hltz : (i : Int) < (an : Int) := by omega
      obtain ⟨x, hx⟩ : ∃ x, a[i]? = some x := ⟨_, List.getElem?_eq_getElem (by rw [HAN.out]; exact hlt)⟩
      obtain ⟨hc1, hc2⟩ := HI.out.cell (mxF_read (n := pn) hx)
      obtain ⟨mx, hmx⟩ : ∃ z, z = mwS pn x := ⟨_, rfl⟩
      have hset := (HI.out.set (by rw [mxF_len (by rw [HAN.out]; omega), HAN.out]) i mx).1
      rw [hmx, mxF_at hx, ← hmx] at hset
      obtain ⟨WN, hWN⟩ : ∃ W, W = wr.setCell ⟨gp, i, none⟩ (.int .i64 mx) := ⟨_, rfl⟩
      change OG (Value.int .i64) w2.heap.size _ (wr.setCell ⟨gp, i, none⟩ (.int .i64 mx)) _ _ at hset
      rw [← hWN] at hset
      have HI2 : Hid (OG (Value.int .i64) w2.heap.size 3 WN (.slice (some ⟨gp, 0, none⟩) an cp) (mxF a pn (i + 1))) := hset
      have HF2 : Hid (FrP (OneB gp) u WN) := by show FrP _ _ _; rw [hWN]; exact HF.out.put ⟨gp, i, none⟩ _ (fun _ => rfl)
      have HMX : Hid (mx = wrap64 ((pn : Int) - 1 - x)) := hmx
      have HWN : Hid (WN = wr.setCell ⟨gp, i, none⟩ (.int .i64 mx)) := hWN
      clear hx hmx hset hWN HI HF
      go_wp2
      rw [← HMX.out, ← HWN.out]
      clear hc1 hc2 HMX HWN
      go_roundg (an - (i + 1))
      case measure => omega
      case rel => exact ⟨i + 1, by first | rfl | go_num, by omega, Nat.le_refl _, HI2, HF2⟩
    · have hltz : ¬ (i : Int) < (an : Int) := by omega
      obtain rfl : i = an := by omega
      obtain ⟨uA, rfl⟩ : ∃ W, W = wr := ⟨_, rfl⟩
      have HPA : Hid (OG (Value.int .i64) w2.heap.size 3 uA (.slice (some ⟨gp, 0, none⟩) i cp) (a.map (mwS pn))) := by
        show OG _ _ _ _ _ _
        have h1 := HI.out
        rw [mxF_end HAN.out] at h1
        exact h1
      have HQA : Hid (OG (Value.int .i64) w3.heap.size 3 uA (.slice (some ⟨gq, 0, none⟩) qn cq) (mxF G pn 0)) := by
        show OG _ _ _ _ _ _
        have h1 := HQU.out.of_blocks fun q hq => HF.out.block q (HQU.out.lt q hq).2 (fun e => by have h1 := (HQU.out.lt q hq).1; have h2 := HGP.out.2; have e2 : q = gp := e; omega)
        simpa [mxF] using h1
      have H2A : Hid (OG (Value.int .i64) w5.heap.size 3 uA (.slice o2 n2 k2) L) := H2U.out.of_blocks fun q hq => HF.out.block q (H2U.out.lt q hq).2 (fun e => by have h1 := (L2LT.out q hq).1; have h2 := HGP.out.2; have h3 := HGQ.out; have e2 : q = gp := e; have := L45.out; omega)
      have BA2 : Hid (Below w2.heap.size w2 uA) := BU2.out.trans (HF.out.below BU2.out.size (fun q e => by have e2 : q = gp := e; rw [e2]; exact HGP.out.1))
      have HF0 : Hid (FrP (OneB gq) uA uA) := FrP.refl _ _
      clear HI HF HQU H2U BU2
      go_wp2
      go_loopg [25] qn (fun g1 v25 wr => ∃ j : Nat, v25 = .int .i64 j ∧ j ≤ qn ∧ qn - j ≤ g1 ∧ Hid (OG (Value.int .i64) w3.heap.size 3 wr (.slice (some ⟨gq, 0, none⟩) qn cq) (mxF G pn j)) ∧ Hid (FrP (OneB gq) uA wr))
      case atStart => exact ⟨0, rfl, Nat.zero_le _, by omega, HQA, HF0⟩
      case round =>
        clear HQA HF0
        obtain ⟨j, rfl, hjn, hg2, HI, HF⟩ := hrel
        by_cases hltj : j < qn
        · have hltjz : (j : Int) < (qn : Int) := by omega
          obtain ⟨x, hx⟩ : ∃ x, G[j]? = some x := ⟨_, List.getElem?_eq_getElem (by rw [HQN.out]; exact hltj)⟩
          obtain ⟨hc1, hc2⟩ := HI.out.cell (mxF_read (n := pn) hx)
          obtain ⟨mx, hmx⟩ : ∃ z, z = mwS pn x := ⟨_, rfl⟩
          have hset := (HI.out.set (by rw [mxF_len (by rw [HQN.out]; omega), HQN.out]) j mx).1
          rw [hmx, mxF_at hx, ← hmx] at hset
          obtain ⟨WN, hWN⟩ : ∃ W, W = wr.setCell ⟨gq, j, none⟩ (.int .i64 mx) := ⟨_, rfl⟩
          change OG (Value.int .i64) w3.heap.size _ (wr.setCell ⟨gq, j, none⟩ (.int .i64 mx)) _ _ at hset
          rw [← hWN] at hset
          have HI2 : Hid (OG (Value.int .i64) w3.heap.size 3 WN (.slice (some ⟨gq, 0, none⟩) qn cq) (mxF G pn (j + 1))) := hset
          have HF2 : Hid (FrP (OneB gq) uA WN) := by show FrP _ _ _; rw [hWN]; exact HF.out.put ⟨gq, j, none⟩ _ (fun _ => rfl)
          have HMX : Hid (mx = wrap64 ((pn : Int) - 1 - x)) := hmx
          have HWN : Hid (WN = wr.setCell ⟨gq, j, none⟩ (.int .i64 mx)) := hWN
          clear hx hmx hset hWN HI HF
          go_wp2
          rw [← HMX.out, ← HWN.out]
          clear hc1 hc2 HMX HWN
          go_roundg (qn - (j + 1))
          case measure => omega
          case rel => exact ⟨j + 1, by first | rfl | go_num, by omega, Nat.le_refl _, HI2, HF2⟩
        · have hltjz : ¬ (j : Int) < (qn : Int) := by omega
          obtain rfl : j = qn := by omega
          obtain ⟨uB, rfl⟩ : ∃ W, W = wr := ⟨_, rfl⟩
          have HQB : Hid (OG (Value.int .i64) w3.heap.size 3 uB (.slice (some ⟨gq, 0, none⟩) j cq) (G.map (mwS pn))) := by
            show OG _ _ _ _ _ _
            have h1 := HI.out
            rw [mxF_end HQN.out] at h1
            exact h1
          have HGPQ : Hid (∀ q, (Value.slice (some ⟨gp, 0, none⟩) i cp).ownBlock = some q → gp = q) := fun q hq => by simpa [Value.ownBlock] using hq
          have HPB : Hid (OG (Value.int .i64) w2.heap.size 3 uB (.slice (some ⟨gp, 0, none⟩) i cp) (a.map (mwS pn))) := HPA.out.of_blocks fun q hq => HF.out.block q (HPA.out.lt q hq).2 (fun e => by have e1 := HGPQ.out q hq; have h2 := HGP.out.2; have h3 := HGQ.out.1; have e2 : q = gq := e; omega)
          have H2B : Hid (OG (Value.int .i64) w5.heap.size 3 uB (.slice o2 n2 k2) L) := H2A.out.of_blocks fun q hq => HF.out.block q (H2A.out.lt q hq).2 (fun e => by have h1 := (L2LT.out q hq).1; have h3 := HGQ.out.2; have e2 : q = gq := e; have := L45.out; omega)
          have BB2 : Hid (Below w2.heap.size w2 uB) := BA2.out.trans (HF.out.below BA2.out.size (fun q e => by have e2 : q = gq := e; rw [e2]; have := HGQ.out.1; have := HB3.out.size; omega))
          have HLM : Hid ((a.map (mwS pn)).length ≤ 100) := by show _ ≤ _; rw [List.length_map]; exact HAL.out
          have HQM : Hid ((G.map (mwS pn)).length ≤ 100) := by show _ ≤ _; rw [List.length_map]; exact HQL.out
          obtain ⟨a2, ha2⟩ : ∃ l, l = a.map (mwS pn) := ⟨_, rfl⟩
          obtain ⟨G2, hG2⟩ : ∃ l, l = G.map (mwS pn) := ⟨_, rfl⟩
          rw [← ha2] at HPB HLM
          rw [← hG2] at HQB HQM
          have BWB : Hid (Below w.heap.size w uB) := belowS7 HB1.out (belowS7 HB2.out BB2.out)
          clear ha2 hG2 HI HF HPA H2A BA2 hltjz hltz hg1 hg2 hin hjn
          go_wp2_with (at_builtin; refine wpList_appG _ (fun _ => rfl) rfl _ _ 23 rfl uB.heap.size 3 i0 (.int .i64 0) 8 Tryz.underlying23 hi hz0 hz1 hz2 rfl _ _ [] a2 rfl (OG.nil _ _ _) rfl HPB.out.rg (by have := HLM.out; unfold maxLen; simp only [List.length_nil]; omega) (by have := HLM.out; simp only [List.length_nil]; omega) (Nat.le_refl _) ?_)
          intro v1 z1 ho1 hg1
          replace ho1 : OG (Value.int .i64) uB.heap.size 3 z1 v1 a2 := ho1
          have Z1 : Hid (Below uB.heap.size uB z1) := below_grown7 hg1 rfl
          obtain ⟨o4, n4, c4, rfl⟩ : ∃ o n c, v1 = .slice o n c := by obtain ⟨ao, cap, e, -⟩ := ho1.sl; exact ⟨_, _, _, e⟩
          have HX1 : Hid (OG (Value.int .i64) uB.heap.size 3 z1 (.slice o4 n4 c4) a2) := ho1
          clear ho1 hg1
          go_wp2_with (at_builtin; refine wpList_appG _ (fun _ => rfl) rfl _ _ 23 rfl z1.heap.size 3 i0 (.int .i64 0) 8 Tryz.underlying23 hi hz0 hz1 hz2 rfl _ _ [] G2 rfl (OG.nil _ _ _) rfl (HQB.out.below Z1.out).rg (by have := HQM.out; unfold maxLen; simp only [List.length_nil]; omega) (by have := HQM.out; simp only [List.length_nil]; omega) (Nat.le_refl _) ?_)
          intro v1 z2 ho1 hg1
          replace ho1 : OG (Value.int .i64) z1.heap.size 3 z2 v1 G2 := ho1
          have hb12 : Below z1.heap.size z1 z2 := below_grown7 hg1 rfl
          have Z2 : Hid (Below uB.heap.size uB z2) := belowS7 Z1.out hb12
          obtain ⟨o5, n5, c5, rfl⟩ : ∃ o n c, v1 = .slice o n c := by obtain ⟨ao, cap, e, -⟩ := ho1.sl; exact ⟨_, _, _, e⟩
          have CT2 : Hid _ := told17 d HD.out (.slice po pn pc) (.slice o4 n4 c4) (.slice o5 n5 c5) pvs P a2 G2 z2 (HR.out z2 (belowS7 BWB.out Z2.out)) pn HN.out hb HBL.out (HX1.out.below hb12).rg HLM.out ho1.rg HQM.out
          clear ho1 hg1 hb12 HX1 Z1
          go_wp2_with fail
          refine Calls.mono CT2.out ?_
          clear CT2
          rintro e z3 ⟨⟨o6, n6, c6, L6, rfl, ho6, her, hok⟩, hz3⟩
          have HPL6 : Hid (PrL P pn a2 G2 (WhQ d P pn a2 G2) L6) := ⟨fun h => (her h).2.2.2, hok⟩
          have HO6 : Hid (OG (Value.int .i64) z2.heap.size 3 z3 (.slice o6 n6 c6) L6) := ho6
          have Z3 : Hid (Below uB.heap.size uB z3) := belowS7 Z2.out hz3
          obtain ⟨c9, hc9⟩ : ∃ c, nsE P pn (a2 ++ G2) = c := ⟨_, rfl⟩
          have HC9 : Hid (nsE P pn (a2 ++ G2) = c9) := hc9
          rw [hc9]
          have CC4 : Hid _ := call17 d HD.out (.slice (some ⟨gl, 0, none⟩) pn lc) (.slice (some ⟨gp, 0, none⟩) i cp) (.slice (some ⟨gq, 0, none⟩) j cq) lvs P a2 G2 z3 (HLE.out z3 (belowS7 BB2.out Z3.out)).own.rrd pn HN.out hb HBL.out (HPB.out.below Z3.out).rg HLM.out (HQB.out.below Z3.out).rg HQM.out
          clear ho6 her hok hz3 hc9
          go_wp2_with fail
          refine Calls.mono CC4.out ?_
          clear CC4
          rintro e z4 ⟨⟨o7, n7, c7, L7, rfl, ho7, her, hok⟩, hz4⟩
          rw [HC9.out]
          have e1 : L7 = L6 := PrL.uniq ⟨fun h => (her h).2.2.2, hok⟩ HPL6.out
          rw [e1] at ho7
          have hcc9 : (c9 == c9) = true := by simp
          have Z4 : Hid (Below uB.heap.size uB z4) := belowS7 Z3.out hz4
          have SG : Hid _ := same17 (.slice o7 n7 c7) (.slice o6 n6 c6) L6 z4 ho7.rg (HO6.out.below hz4).rg
          clear ho7 her hok hz4 e1 L7
          go_wp2_with fail
          refine Calls.mono SG.out ?_
          clear SG
          rintro e z5 ⟨rfl, hz5⟩
          have Z5 : Hid (Below uB.heap.size uB z5) := belowS7 Z4.out hz5
          have SH : Hid _ := same17 (.slice o2 n2 k2) (.slice wo wn wc) L z5 (H2B.out.below Z5.out).rg (HWT.out z5 (belowS7 HB2.out (belowS7 BB2.out Z5.out)))
          clear hz5
          go_wp2_with fail
          refine Calls.mono SH.out ?_
          clear SH
          rintro e z6 ⟨rfl, hz6⟩
          have Z6 : Hid (Below w.heap.size w z6) := belowS7 BWB.out (belowS7 Z5.out hz6)
          clear hz6
          go_wp2
          go_ret
          exact ⟨rfl, Z6.out⟩
end Go.Proofs.YthdpomgpcblpeaaGreat

namespace Go.Proofs.YthdpomgpcblpeaaGreat
set_option linter.unusedVariables false
open Go.RowKit Go.Shelf Go.Sort Go.Lib
set_option maxRecDepth 1000000 in
set_option maxHeartbeats 6400000 in
theorem pruneSays_top (pv : Value) (pvs : List Value) (P : List (List Int)) (av : Value) (a : List Int) (qv : Value) (G : List Int) (w : World) (h : RRD w pv pvs P) (hbl : ∀ i, (P.getD i []).length ≤ 1048576) (ha : RG (Value.int .i64) w av a) (hal : a.length ≤ 1048576) (hq : RG (Value.int .i64) w qv G) (hql : G.length ≤ 1048576) :
    Calls Tryz.prog 3 #[pv, av, qv] w fun e w' => e = .returned (.bool true) ∧ Below w.heap.size w w' := by
  obtain ⟨po, pn, pc, rfl⟩ : ∃ o n c, pv = .slice o n c := by obtain ⟨ao, cap, e⟩ := h.out.sl; exact ⟨_, _, _, e⟩
  have hn : P.length = pn := by rw [← h.len, h.out.len]
  obtain ⟨ao, an, ac, rfl⟩ : ∃ o n c, av = .slice o n c := by obtain ⟨ao, cap, e⟩ := ha.sl; exact ⟨_, _, _, e⟩
  obtain ⟨qo, qn, qc, rfl⟩ : ∃ o n c, qv = .slice o n c := by obtain ⟨ao, cap, e⟩ := hq.sl; exact ⟨_, _, _, e⟩
  have HR : Hid (∀ W, Below w.heap.size w W → RRD W (.slice po pn pc) pvs P) := fun W hW => h.below (Nat.le_refl _) hW
  have HA : Hid (∀ W, Below w.heap.size w W → RG (Value.int .i64) W (.slice ao an ac) a) := fun W hW => ha.below (Nat.le_refl _) hW
  have HQ : Hid (∀ W, Below w.heap.size w W → RG (Value.int .i64) W (.slice qo qn qc) G) := fun W hW => hq.below (Nat.le_refl _) hW
  have HN : Hid (P.length = pn) := hn
  have HAN : Hid (a.length = an) := ha.len
  have HQN : Hid (G.length = qn) := hq.len
  have CM : Hid _ := many17 (.slice po pn pc) pvs P w h hbl
  clear h hn hbl ha hal hq hql
  go_enter Tryz.func3, Tryz.ntmps3
  go_wp2_with fail
  refine Calls.mono CM.out ?_
  clear CM
  rintro e y ⟨rfl, hy0⟩
  rw [hy0]
  clear hy0 y
  have B1 : Hid (Below w.heap.size w w) := Below.refl _ _
  rcases hm : manyC P with _ | _
  case true =>
    clear hm
    go_wp2
    go_ret
    exact ⟨rfl, B1.out⟩
  obtain ⟨hm1, hm2⟩ := many17_no hm
  rw [HN.out] at hm1
  have HP14 : Hid (pn ≤ 14) := hm1
  have HBL : Hid (∀ i, (P.getD i []).length ≤ 90) := fun i => by have := len_smB P i; omega
  clear hm hm1 hm2
  by_cases hbig : 100 < an
  · have hb1 : (100 : Int) < (an : Int) := by omega
    have hb2 : (an : Int) > 100 := by omega
    go_wp2
    go_ret
    exact ⟨rfl, B1.out⟩
  have hb1 : ¬ (100 : Int) < (an : Int) := by omega
  have HA100 : Hid (an ≤ 100) := by show _ ≤ _; omega
  clear hbig
  by_cases hbig : 100 < qn
  · have hb3 : (100 : Int) < (qn : Int) := by omega
    have hb4 : (qn : Int) > 100 := by omega
    go_wp2
    go_ret
    exact ⟨rfl, B1.out⟩
  have hb3 : ¬ (100 : Int) < (qn : Int) := by omega
  have HQ100 : Hid (qn ≤ 100) := by show _ ≤ _; omega
  clear hbig
  go_wp2
  clear hb1 hb3
  go_loopg [7, 8] 5 (fun g1 v7 _v8 wr => ∃ d : Nat, v7 = .int .i64 d ∧ d ≤ 5 ∧ 5 - d ≤ g1 ∧ Hid (Below w.heap.size w wr))
  case atStart => exact ⟨0, rfl, by omega, by omega, B1⟩
  case round =>
    clear B1
    obtain ⟨d, rfl, hd, hg1, HB⟩ := hrel
    by_cases hlt : d < 5
    · have hltz : (d : Int) < 5 := by omega
      have CD : Hid _ := made17 d (by omega) (.slice po pn pc) (.slice ao an ac) (.slice qo qn qc) pvs P a G wr (HR.out wr HB.out) pn HN.out HP14.out HBL.out (HA.out wr HB.out) (by rw [HAN.out]; exact HA100.out) (HQ.out wr HB.out) (by rw [HQN.out]; exact HQ100.out)
      go_wp2_with fail
      refine Calls.mono CD.out ?_
      clear CD
      rintro e y ⟨rfl, hy⟩
      have HB2 : Hid (Below w.heap.size w y) := bstepB HB.out hy
      clear hy HB
      go_wp2
      go_roundg (5 - (d + 1))
      case measure => omega
      case rel => exact ⟨d + 1, by first | rfl | go_num, by omega, Nat.le_refl _, HB2⟩
    · have hltz : ¬ (d : Int) < 5 := by omega
      go_wp2
      go_ret
      exact ⟨rfl, HB.out⟩
end Go.Proofs.YthdpomgpcblpeaaGreat

namespace Go.Proofs.YthdpomgpcblpeaaGreat
set_option linter.unusedVariables false
open Go.RowKit Go.ChangeShapes Go.Deep
theorem bulk_mem {H : Type} {d : DataW H} {l : List (DataW H)} (h : d ∈ l) : Rows.uptoBulk d ≤ Rows.uptoBulkAll l := by
  induction l with
  | nil => cases h
  | cons x r ih =>
    simp only [Rows.uptoBulkAll]
    rcases List.mem_cons.1 h with e | e
    · subst e; omega
    · have := ih e; omega
theorem bulk_pos {H : Type} (d : DataW H) : 1 ≤ Rows.uptoBulk d := by
  cases d with
  | lit l => cases l <;> simp [Rows.uptoBulk]
  | _ => simp [Rows.uptoBulk]
theorem bulk_len {H : Type} (l : List (DataW H)) : l.length ≤ Rows.uptoBulkAll l := by
  induction l with
  | nil => simp [Rows.uptoBulkAll]
  | cons x r ih => have := bulk_pos x; simp only [Rows.uptoBulkAll, List.length_cons]; omega
theorem addr_plain {w : World} {a : Addr} {v : Value} (h : w.cell? a = some v) {x : Addr} (e : a = x.add 0) : ∃ b o, x = ⟨b, o, none⟩ := by
  obtain ⟨b, off, spot⟩ := x
  subst e
  have hspot : spot = none := by
    have := World.cell?_spot h
    simpa [Addr.add] using this
  exact ⟨b, off, by rw [hspot]⟩
theorem rg_row {w : World} {ao : Option Addr} {l c : Nat} {zs : List Int} (hl : l ≤ c) (hm : c ≤ maxLen) (hz : zs.length = c) (hn : ao = none → c = 0) (hc : ∀ a, ao = some a → ∀ j, j < c → w.cell? (a.add j) = some (.int .i64 (zs.getD j 0))) : RG (Value.int .i64) w (.slice ao l c) (zs.take l) := by
  have hlen : (zs.take l).length = l := by rw [List.length_take]; omega
  refine ⟨ao, c, by rw [hlen], by rw [hlen]; exact hl, hm, hn, fun i x hx => ?_⟩
  have hi : i < l := by have := (List.getElem?_eq_some_iff.1 hx).1; omega
  cases ao with
  | none => have := hn rfl; omega
  | some a =>
    obtain ⟨b, o, rfl⟩ := addr_plain (hc a rfl 0 (by omega)) (x := a) rfl
    refine ⟨b, o, rfl, ?_⟩
    have h1 := hc _ rfl i (by omega)
    rw [Addr.add_lit] at h1
    rw [List.getElem?_take_of_lt hi] at hx
    rw [h1, List.getD_eq_getElem?_getD, hx]; rfl
theorem rrd_open {H : Type} {enc : TypeId × Value → H} {W : World} {base : Nat} {held : Bool} {fuel : Nat} {a : Option Addr} {len cap : Nat} {d : DataW H} {p : List MemPlace} (hf : DataW.trod enc Tryz.prog W base (fun _ => true) held fuel 22 (Value.cells (.slice a len cap)).toList = some (d, p)) (hbd : Rows.uptoBulk d ≤ 1048576) :
    ∃ pvs P, RRD W (.slice a len cap) pvs P ∧ ∀ i, (P.getD i []).length ≤ 1048576 := by
  rcases open_int_rows Tryz.underlying22 Tryz.underlying23 Tryz.underlying3 (by kernel_rfl) (by kernel_rfl) hf with ⟨hcs, _⟩ | ⟨a', l, c, A, L, C, Z, hcs, _, hl, hm, hx, hr⟩
  · simp [Value.cells] at hcs
    obtain ⟨rfl, rfl, rfl⟩ := hcs
    exact ⟨[], [], ⟨RG.nil _, rfl, fun i x h => by simp at h⟩, fun i => by simp⟩
  · simp [Value.cells] at hcs
    obtain ⟨rfl, rfl, rfl⟩ := hcs
    simp only [Prod.mk.injEq] at hx
    obtain ⟨hd, -⟩ := hx
    have hP : ∀ i, i < len → ((List.range len).map fun r => (Z r).take (L r)).getD i [] = (Z i).take (L i) := fun i hi => by
      rw [List.getD_eq_getElem?_getD, List.getElem?_map, List.getElem?_range hi]; rfl
    have hlp : ((List.range len).map fun r => Value.slice (A r) (L r) (C r)).length = len := by simp
    refine ⟨(List.range len).map fun r => Value.slice (A r) (L r) (C r), (List.range len).map fun r => (Z r).take (L r), ⟨?_, by simp, fun i x hi => ?_⟩, fun i => ?_⟩
    · refine ⟨some a', cap, by rw [hlp], by rw [hlp]; exact hl, hm, fun e => by simp at e, fun i x hi => ?_⟩
      have hil : i < len := by have := (List.getElem?_eq_some_iff.1 hi).1; rw [hlp] at this; exact this
      have h0 := (hr 0 (by omega)).1
      obtain ⟨b, o, rfl⟩ := addr_plain h0 (x := a') rfl
      have h1 := (hr i (by omega)).1
      rw [Addr.add_lit] at h1
      rw [List.getElem?_map, List.getElem?_range hil] at hi
      simp only [Option.map_some, Option.some.injEq] at hi
      subst hi
      exact ⟨b, o, rfl, h1⟩
    · have hil : i < len := by have := (List.getElem?_eq_some_iff.1 hi).1; rw [hlp] at this; exact this
      rw [List.getElem?_map, List.getElem?_range hil] at hi
      simp only [Option.map_some, Option.some.injEq] at hi
      subst hi
      rw [hP i hil]
      obtain ⟨-, r1, r2, r3, -, r5, r6⟩ := hr i (by omega)
      exact rg_row r1 r2 r3 r5 (fun a h j hj => (r6 a h).2 j hj)
    · by_cases hil : i < len
      · rw [hP i hil]
        obtain ⟨-, r1, r2, r3, -, r5, r6⟩ := hr i (by omega)
        cases hA : A i with
        | none => have := r5 hA; rw [List.length_take]; omega
        | some b =>
          have hmem : (intRow .i64 (A i) (L i) (Z i) : DataW H) ∈ (List.range len).map fun r => intRow .i64 (A r) (L r) (Z r) := List.mem_map.2 ⟨i, List.mem_range.2 hil, rfl⟩
          have h1 := bulk_mem hmem
          have h2 : Rows.uptoBulk d = _ := congrArg Rows.uptoBulk hd
          simp only [Rows.uptoBulk] at h2
          have e1 : (intRow .i64 (A i) (L i) (Z i) : DataW H) = .slice (lits .i64 ((Z i).take (L i))) (lits .i64 ((Z i).drop (L i))) := by rw [hA]; rfl
          have h5 : Rows.uptoBulk (intRow .i64 (A i) (L i) (Z i) : DataW H) = Rows.uptoBulkAll (lits (H := H) .i64 ((Z i).take (L i))) + Rows.uptoBulkAll (lits (H := H) .i64 ((Z i).drop (L i))) + 1 := by rw [e1]; simp only [Rows.uptoBulk]
          have h3 := bulk_len (lits (H := H) .i64 ((Z i).take (L i)))
          have h4 : (lits (H := H) .i64 ((Z i).take (L i))).length = ((Z i).take (L i)).length := by simp [lits]
          omega
      · rw [List.getD_eq_getElem?_getD, List.getElem?_eq_none (by simp; omega)]
        simp
end Go.Proofs.YthdpomgpcblpeaaGreat

namespace Go.Proofs.YthdpomgpcblpeaaGreat
set_option linter.unusedVariables false
open Go.RowKit Go.ChangeShapes Go.Deep
theorem rg_open {H : Type} {enc : TypeId × Value → H} {W : World} {base : Nat} {held : Bool} {fuel : Nat} {a : Option Addr} {len cap : Nat} {d : DataW H} {p : List MemPlace} (hf : DataW.trod enc Tryz.prog W base (fun _ => true) held fuel 23 (Value.cells (.slice a len cap)).toList = some (d, p)) (hbd : Rows.uptoBulk d ≤ 1048576) :
    ∃ zs, RG (Value.int .i64) W (.slice a len cap) zs ∧ zs.length ≤ 1048576 := by
  rcases open_ints Tryz.underlying23 Tryz.underlying3 (by kernel_rfl) hf with ⟨hcs, _⟩ | ⟨x, l, c, zs, hcs, _, hl, hm, hz, hd, hcell, hwz⟩
  · simp [Value.cells] at hcs
    obtain ⟨rfl, rfl, rfl⟩ := hcs
    exact ⟨[], RG.nil _, by simp⟩
  · simp [Value.cells] at hcs
    obtain ⟨rfl, rfl, rfl⟩ := hcs
    simp only [if_true] at hz
    refine ⟨zs.take len, rg_row hl hm hz (fun e => by simp at e) (fun a ha j hj => ?_), ?_⟩
    · simp only [Option.some.injEq] at ha
      rw [← ha]; exact hcell j (by omega)
    · simp only [Prod.mk.injEq] at hd
      have h2 : Rows.uptoBulk d = _ := congrArg Rows.uptoBulk hd.1
      simp only [Rows.uptoBulk] at h2
      have h3 := bulk_len (lits (H := H) .i64 (zs.take len))
      have h4 : (lits (H := H) .i64 (zs.take len)).length = (zs.take len).length := by simp [lits]
      omega
end Go.Proofs.YthdpomgpcblpeaaGreat

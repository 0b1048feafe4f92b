/-
  Proved here: package dag's Order, Check and Children once more: lists may be long where they may not be.
  Proved here: package sep's arePoints: are all numbers points?
-/
import Derived.Test.YtcadljpdokhpmaaDagCaAll
import Derived.Test.YtcadljpdokhpmaaDagXAll
namespace Go.Proofs.Ytcadljpdokhpmaa
set_option linter.unusedVariables false
open Go.RowKit
theorem len_nd : ∀ (n : Nat) (L : List Int), L.Nodup → (∀ x ∈ L, ∃ p : Nat, x = (p : Int) ∧ p < n) → L.length ≤ n
  | 0, L, _, h => by
    cases L with
    | nil => exact Nat.le_refl _
    | cons x L => obtain ⟨p, _, hp⟩ := h x (by simp); omega
  | n + 1, L, hd, h => by
    by_cases hm : (n : Int) ∈ L
    · have h1 := List.length_erase_of_mem hm
      have h2 := len_nd n (L.erase (n : Int)) (hd.erase _) (fun x hx => by
        rw [hd.mem_erase_iff] at hx
        obtain ⟨p, e, hp⟩ := h x hx.2
        refine ⟨p, e, ?_⟩
        have : p ≠ n := fun e2 => hx.1 (by rw [e, e2])
        omega)
      omega
    · have := len_nd n L hd (fun x hx => by
        obtain ⟨p, e, hp⟩ := h x hx
        refine ⟨p, e, ?_⟩
        have : p ≠ n := fun e2 => hm (by rw [← e2, ← e]; exact hx)
        omega)
      omega
theorem len_cl {P : List (List Int)} (h : clE P = 0) (i : Nat) : (P.getD i []).length ≤ P.length := by
  have hz := cl_zero h
  exact len_nd _ _ (twices_no hz.2 i) (outs_no hz.1 i)
set_option maxRecDepth 100000 in
set_option maxHeartbeats 3200000 in
theorem orderL (pv : Value) (pvs : List Value) (P : List (List Int)) (w : World) (h : RRD w pv pvs P) (n : Nat) (hn : P.length = n) (hb : n ≤ 100000) (hbl : clE P = 0 → ∀ i, (P.getD i []).length ≤ 100000) :
    Calls Try.prog 35 #[pv] w fun e w' => ∃ tv, e = .returned (.tuple #[tv, .int .i64 (ckE P)]) ∧ OG (Value.int .i64) w.heap.size 3 w' tv (ordL P) ∧ Below w.heap.size w w' := by
  have CC : Hid _ := checkListsD pv pvs P w h n hn hb
  obtain ⟨po, pn, pc, rfl⟩ : ∃ o n c, pv = .slice o n c := by obtain ⟨ao, cap, e⟩ := h.out.sl; exact ⟨_, _, _, e⟩
  obtain rfl : pn = n := by rw [← hn, ← h.len, h.out.len]
  have HR : Hid (RRD w (.slice po pn pc) pvs P) := h
  have HN : Hid (P.length = pn) := hn
  have HBL : Hid (clE P = 0 → ∀ i, (P.getD i []).length ≤ 100000) := hbl
  clear h hn hbl
  go_enter Try.func35, Try.ntmps35
  go_wp2_with fail
  refine Calls.mono CC.out ?_
  rintro e y ⟨rfl, hy⟩
  have HB : Hid (Below w.heap.size w y) := hy
  clear CC hy
  by_cases h0 : clE P = 0
  · have hz := cl_zero h0
    have HBL2 : Hid (∀ i, (P.getD i []).length ≤ 100000) := HBL.out h0
    have hP := outs_no hz.1
    have hnd := twices_no hz.2
    have CR : Hid _ := restOfD _ pvs P y (HR.out.below (Nat.le_refl _) HB.out) hP hnd pn HN.out hb HBL2.out
    have HND : Hid (∀ i, (P.getD i []).Nodup) := hnd
    have HCK : Hid (ckE P = if (outL P).length < pn then 42 else 0) := by show _ = _; unfold ckE; rw [if_pos h0, HN.out]
    rw [h0]
    clear hz hP hnd h0
    go_wp2_with fail
    refine Calls.mono CR.out ?_
    rintro e z ⟨rb, rfl, S, v, g, go, gw, cvs, Ob, Wt, L, hz1, hz2, hz3, hz4, hz5⟩
    have CD : Hid _ := drainD y.heap.size S z rb _ v g go gw pn cvs P Ob Wt L hz1 hz5.size HN.out hb HBL2.out HND.out hz2 hz3 hz4
    have HB2 : Hid (Below w.heap.size w z) := bstepB HB.out hz5
    have HBK : Hid (∀ q, RtS rb go gw v q → w.heap.size ≤ q) := fun q hq => by
      have h1 := hz1.frw
      have h2 := HB.out.size
      rcases hq with e | e | e | e
      · rw [e]; exact Nat.le_trans h2 hz1.hB
      · rw [e]; exact Nat.le_trans h2 h1.1
      · rw [e]; exact Nat.le_trans h2 h1.2.1
      · exact Nat.le_trans h2 (h1.2.2 q e)
    clear CR hz1 hz2 hz3 hz4 hz5 HB
    go_wp2_with fail
    refine Calls.mono CD.out ?_
    rintro e x ⟨tv, rfl, hx1, hx2⟩
    have HB3 : Hid (Below w.heap.size w x) := HB2.out.trans (hx2.below HB2.out.size HBK.out)
    have HO : Hid (OG (Value.int .i64) w.heap.size 3 x tv (outL P)) := hx1.mono HB2.out.size
    obtain ⟨to', tn, tc, rfl⟩ : ∃ o n c, tv = .slice o n c := by obtain ⟨ao, cap, e⟩ := hx1.rg.sl; exact ⟨_, _, _, e⟩
    have hl : (outL P).length = tn := hx1.rg.len
    rw [hl] at HCK
    clear CD hx1 hx2 hl HBK HB2
    by_cases hlt : tn < pn
    · have hltz : (tn : Int) < (pn : Int) := by omega
      have HE : Hid (ckE P = 42) := by show _ = _; rw [HCK.out, if_pos hlt]
      clear HCK
      go_wp2
      go_ret2
      exact ⟨_, by rw [HE.out]; rfl, by unfold ordL; rw [HE.out]; exact OG.nil _ _ _, HB3.out⟩
    · have hltz : ¬ (tn : Int) < (pn : Int) := by omega
      have HE : Hid (ckE P = 0) := by show _ = _; rw [HCK.out, if_neg hlt]
      clear HCK
      go_wp2
      go_ret2
      exact ⟨_, by rw [HE.out]; rfl, by unfold ordL; rw [HE.out]; exact HO.out, HB3.out⟩
  · have HE : Hid (ckE P = clE P) := by show _ = _; unfold ckE; rw [if_neg h0]
    obtain ⟨c, hc⟩ : ∃ c, c = clE P := ⟨_, rfl⟩
    rw [← hc] at h0 HE ⊢
    have hcz : (c != (0 : Int)) = true := by simpa using h0
    have HC0 : Hid (c ≠ 0) := h0
    clear h0 hc
    go_wp2
    go_ret2
    exact ⟨_, by rw [HE.out]; rfl, by unfold ordL; rw [HE.out, if_neg HC0.out]; exact OG.nil _ _ _, HB.out⟩
set_option maxRecDepth 100000 in
set_option maxHeartbeats 1600000 in
theorem checkL (pv : Value) (pvs : List Value) (P : List (List Int)) (w : World) (h : RRD w pv pvs P) (n : Nat) (hn : P.length = n) (hb : n ≤ 100000) (hbl : clE P = 0 → ∀ i, (P.getD i []).length ≤ 100000) :
    Calls Try.prog 21 #[pv] w fun e w' => e = .returned (.int .i64 (ckE P)) ∧ Below w.heap.size w w' := by
  have CC : Hid _ := orderL pv pvs P w h n hn hb hbl
  obtain ⟨po, pn, pc, rfl⟩ : ∃ o n c, pv = .slice o n c := by obtain ⟨ao, cap, e⟩ := h.out.sl; exact ⟨_, _, _, e⟩
  clear h hn hbl
  go_enter Try.func21, Try.ntmps21
  go_wp2_with fail
  refine Calls.mono CC.out ?_
  rintro e y ⟨tv, rfl, _, hy⟩
  have HB : Hid (Below w.heap.size w y) := hy
  clear CC hy
  go_wp2
  go_ret
  exact ⟨rfl, HB.out⟩
set_option maxRecDepth 100000 in
set_option maxHeartbeats 3200000 in
theorem childrenL (pv : Value) (pvs : List Value) (P : List (List Int)) (w : World) (h : RRD w pv pvs P) (n : Nat) (hn : P.length = n) (hb : n ≤ 100000) (hbl : clE P = 0 → ∀ i, (P.getD i []).length ≤ 100000) :
    Calls Try.prog 12 #[pv] w fun e w' => ∃ v, e = .returned (.tuple #[v, .int .i64 (ckE P)]) ∧ ChE w P n v w' ∧ Below w.heap.size w w' := by
  have CC : Hid _ := checkL pv pvs P w h n hn hb hbl
  obtain ⟨po, pn, pc, rfl⟩ : ∃ o n c, pv = .slice o n c := by obtain ⟨ao, cap, e⟩ := h.out.sl; exact ⟨_, _, _, e⟩
  obtain rfl : pn = n := by rw [← hn, ← h.len, h.out.len]
  have HR : Hid (RRD w (.slice po pn pc) pvs P) := h
  have HN : Hid (P.length = pn) := hn
  clear h hn hbl
  go_enter Try.func12, Try.ntmps12
  go_wp2_with fail
  refine Calls.mono CC.out ?_
  rintro e y ⟨rfl, hy⟩
  have HB : Hid (Below w.heap.size w y) := hy
  clear CC hy
  obtain ⟨c, hc⟩ : ∃ c, c = ckE P := ⟨_, rfl⟩
  have HC : Hid (c = ckE P) := hc
  rw [← hc]
  clear hc
  by_cases h0 : c = 0
  · subst h0
    have hz := cl_zero (ck_zero HC.out.symm)
    have CT : Hid _ := turnedD _ pvs P y (HR.out.below (Nat.le_refl _) HB.out) (outs_no hz.1) (twices_no hz.2) pn HN.out hb
    clear hz
    go_wp2_with fail
    refine Calls.mono CT.out ?_
    rintro e z ⟨g, cvs, rfl, hz⟩
    have HE : Hid (ChE w P pn (.slice (some ⟨g, 0, none⟩) pn pn) z) := Or.inl ⟨HC.out.symm, y, g, cvs, HB.out, rfl, hz⟩
    have HB2 : Hid (Below w.heap.size w z) := bstepB HB.out hz.frm
    clear CT hz HB
    go_wp2
    go_ret2
    exact ⟨_, by rw [← HC.out]; rfl, HE.out, HB2.out⟩
  · have hcz : (c != (0 : Int)) = true := by simpa using h0
    have HE : Hid (ChE w P pn (.slice none 0 0) y) := Or.inr ⟨by rw [← HC.out]; exact h0, rfl⟩
    clear h0
    go_wp2
    go_ret2
    exact ⟨_, by rw [← HC.out]; rfl, HE.out, HB.out⟩
end Go.Proofs.Ytcadljpdokhpmaa

namespace Go.Proofs.Ytcadljpdokhpmaa
set_option linter.unusedVariables false
open Go.RowKit
set_option maxRecDepth 100000 in
set_option maxHeartbeats 800000 in
theorem noPtS (cb : Nat) (po : Option Addr) (n pc : Nat) (x : Int) (w : World) (hc : w.cell? ⟨cb, 0, none⟩ = some (.slice po n pc)) : Calls Try.prog 24 #[.int .i64 x, .pointer (some ⟨cb, 0, none⟩)] w fun e w' => e = .returned (.bool (noPt (n : Int) x)) ∧ w' = w := by
  by_cases h : x < 0
  · have hr : noPt (n : Int) x = true := by simp [noPt, h]
    rw [hr]
    clear hr
    go_enter Try.func24, Try.ntmps24
    go_wp2
    go_ret
    exact ⟨rfl, rfl⟩
  · have hr : noPt (n : Int) x = decide ((n : Int) ≤ x) := by simp [noPt, h]
    rw [hr]
    clear hr
    go_enter Try.func24, Try.ntmps24
    go_wp2
    go_ret
    exact ⟨rfl, rfl⟩
set_option maxRecDepth 100000 in
set_option maxHeartbeats 1600000 in
theorem indexFSp (cb : Nat) (po : Option Addr) (m pc : Nat) (v : Value) (zs : List Int) (w : World) (hv : RG (Value.int .i64) w v zs) (hcb : w.cell? ⟨cb, 0, none⟩ = some (.slice po m pc)) :
    Calls Try.prog 36 #[v, .func (.func 24) #[] #[.pointer (some ⟨cb, 0, none⟩)]] w fun e w' => ∃ r, e = .returned (.int .i64 r) ∧ Found r (noPts (m : Int) zs) ∧ ∃ q, w' = w.drewN q := by
  obtain ⟨ao, cap, rfl, hc, hm, hnil, hcell⟩ := hv
  clear hnil
  unfold maxLen at hm
  obtain ⟨n, hn⟩ : ∃ n, zs.length = n := ⟨_, rfl⟩
  rw [hn] at hc ⊢
  have HN : Hid (zs.length = n) := hn
  have HC : Hid (∀ i x, zs[i]? = some x → ∃ g o, ao = some ⟨g, o, none⟩ ∧ w.cell? ⟨g, o + i, none⟩ = some (Value.int .i64 x)) := hcell
  clear hn hcell
  go_enter Try.func36, Try.ntmps36
  go_wp2
  go_loopw [8] (fun t wr => ∃ k : Nat, k ≤ n ∧ t = .int .i64 k ∧ noPts (m : Int) (zs.take k) = false ∧ ∃ q, wr = w.drewN q) (fun t _ => n - (intOf t).toNat)
  case atStart => exact ⟨0, Nat.zero_le _, rfl, rfl, 0, rfl⟩
  case round =>
    obtain ⟨k, hk, rfl, hno, q, rfl⟩ := hrel
    by_cases hkn : k < n
    · obtain ⟨x, hx0⟩ : ∃ x, zs[k]? = some x := ⟨_, List.getElem?_eq_getElem (by rw [HN.out]; exact hkn)⟩
      obtain ⟨b, off, rfl, hc0⟩ := HC.out k x hx0
      have hlt : (k : Int) < (n : Int) := by omega
      have hst : noPts (m : Int) (zs.take (k + 1)) = (noPts (m : Int) (zs.take k) || noPt (m : Int) (zs.getD k 0)) := any_take (by rw [HN.out]; exact hkn)
      have hyes : noPt (m : Int) (zs.getD k 0) = true → noPts (m : Int) zs = true := any_at (by rw [HN.out]; exact hkn)
      have e0 : zs.getD k 0 = x := by rw [List.getD_eq_getElem?_getD, hx0]; rfl
      rw [e0] at hst hyes
      rw [hno, Bool.false_or] at hst
      have HS : Hid (noPts (m : Int) (zs.take (k + 1)) = noPt (m : Int) x) := hst
      have HY : Hid (noPt (m : Int) x = true → noPts (m : Int) zs = true) := hyes
      have cq : ∀ q, (w.drewN q).cell? ⟨cb, 0, none⟩ = some (.slice po m pc) := fun q => cell_drewD hcb q
      have HB : Hid (∀ q, Calls Try.prog 24 #[.int .i64 x, .pointer (some ⟨cb, 0, none⟩)] (w.drewN q) fun e w' => e = .returned (.bool (noPt (m : Int) x)) ∧ w' = w.drewN q) := fun q => noPtS cb po m pc x (w.drewN q) (cq q)
      clear hst hyes e0 hx0 cq
      by_cases hx : noPt (m : Int) x = true
      · go_wp2_with (go_at_call 24; refine (HB.out _).mono ?_; rintro e w' ⟨rfl, rfl⟩)
        go_ret
        exact ⟨_, rfl, ⟨fun _ => ⟨by omega, by omega⟩, fun h => absurd (HY.out hx) (by rw [h]; exact Bool.false_ne_true)⟩, _, rfl⟩
      · have hx : noPt (m : Int) x = false := by simpa using hx
        go_wp2_with (go_at_call 24; refine (HB.out _).mono ?_; rintro e w' ⟨rfl, rfl⟩)
        go_roundw
        case rel => exact ⟨k + 1, by omega, by go_num, by rw [HS.out]; exact hx, _, rfl⟩
        case measure => simp [intOf]; omega
    · have hge : ¬ (k : Int) < (n : Int) := by omega
      go_wp2
      go_ret
      have hkn' : k = zs.length := by rw [HN.out]; omega
      rw [hkn', List.take_length] at hno
      exact ⟨-1, rfl, ⟨fun h => absurd h (by rw [hno]; exact Bool.false_ne_true), fun _ => rfl⟩, q, rfl⟩
set_option maxHeartbeats 400000 in
theorem containsFSp (cb : Nat) (po : Option Addr) (m pc : Nat) (v : Value) (zs : List Int) (w : World) (hv : RG (Value.int .i64) w v zs) (hcb : w.cell? ⟨cb, 0, none⟩ = some (.slice po m pc)) :
    Calls Try.prog 23 #[v, .func (.func 24) #[] #[.pointer (some ⟨cb, 0, none⟩)]] w fun e w' => e = .returned (.bool (noPts (m : Int) zs)) ∧ ∃ q, w' = w.drewN q := by
  have h1 := indexFSp cb po m pc v zs w hv hcb
  obtain ⟨ao, cap, rfl, -⟩ := hv
  go_enter Try.func23, Try.ntmps23
  go_wp2_with (go_at_call 36; refine h1.mono ?_; rintro e w' ⟨r, rfl, hf, q, rfl⟩)
  go_ret
  exact ⟨by rw [← hf.dec]; rfl, q, rfl⟩
set_option maxRecDepth 100000 in
set_option maxHeartbeats 800000 in
theorem arePointsS (po : Option Addr) (m pc : Nat) (v : Value) (zs : List Int) (w : World) (hv : RG (Value.int .i64) w v zs) :
    Calls Try.prog 13 #[.slice po m pc, v] w fun e w' => e = .returned (.bool (!noPts (m : Int) zs)) ∧ Below w.heap.size w w' := by
  obtain ⟨W1, hW1⟩ : ∃ W1, W1 = w.alloc (.cells #[.slice po m pc] 22) := ⟨_, rfl⟩
  obtain ⟨g, hg⟩ : ∃ g, g = w.heap.size := ⟨_, rfl⟩
  have b0 : Below w.heap.size w W1 := by rw [hW1]; exact belowB w _
  have hcb : W1.cell? ⟨g, 0, none⟩ = some (.slice po m pc) := by rw [hW1, hg, World.cell?_alloc_at _ _ _ _ rfl]; rfl
  have C : Hid _ := containsFSp g po m pc v zs W1 (hv.below (Nat.le_refl _) b0) hcb
  have HB : Hid (Below w.heap.size w W1) := b0
  obtain ⟨ao, cap, rfl, -⟩ := hv
  have HW1 : Hid (W1 = w.alloc (.cells #[.slice po m pc] 22)) := hW1
  have HG : Hid (g = w.heap.size) := hg
  clear hW1 hg b0 hcb
  go_enter Try.func13, Try.ntmps13
  go_upto_region 1 with fail
  rw [← HW1.out, ← HG.out]
  clear HW1
  go_wp2_with fail
  refine Calls.mono C.out ?_
  rintro e y ⟨rfl, q, rfl⟩
  go_wp2
  go_ret
  exact ⟨rfl, below_drewN HB.out q⟩
end Go.Proofs.Ytcadljpdokhpmaa

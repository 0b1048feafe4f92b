/-
  Proved here: package sep's steps that may follow on one: the closure that nextSteps makes.
  Proved here: package sep's nextSteps.
  Proved here: package sep's arePoints: are all numbers points?
-/
import Derived.Test.YtcoiapgfaibkgaaGreatSetCptAll
import Derived.Test.YtcoiapgfaibkgaaGreatDagMuAll
import Derived.Test.YtcoiapgfaibkgaaGreatSpLAll
import Derived.Test.YtcoiapgfaibkgaaGreatDagK2All
namespace Go.Proofs.YtcoiapgfaibkgaaGreat
set_option linter.unusedVariables false
open Go.RowKit Go.Shelf Go.Sort Go.Lib
/-- What the closure keeps, in memory. -/
structure ClO (w : World) (gk gc gq gp : Nat) (P : List (List Int)) (n : Nat) (G A : List Int) : Prop where
  kn : ∃ ko kn kc k, w.cell? ⟨gk, 0, none⟩ = some (.slice ko kn kc) ∧ SI w (.slice ko kn kc) (ofR G) k ∧ k ≤ 100000
  op : ∃ ko kn kc k, w.cell? ⟨gq, 0, none⟩ = some (.slice ko kn kc) ∧ SI w (.slice ko kn kc) (ofR A) k ∧ k ≤ 100000
  ch : ∃ g cvs, w.cell? ⟨gc, 0, none⟩ = some (.slice (some ⟨g, 0, none⟩) n n) ∧ OG id 0 23 w (.slice (some ⟨g, 0, none⟩) n n) cvs ∧ ∀ (j : Nat) (v : Value), cvs[j]? = some v → RG (Value.int .i64) w v (chF P j n)
  pa : ∃ po pc pvs, w.cell? ⟨gp, 0, none⟩ = some (.slice po n pc) ∧ RRD w (.slice po n pc) pvs P
theorem ClO.below {w W : World} {gk gc gq gp : Nat} {P : List (List Int)} {n : Nat} {G A : List Int} (h : ClO w gk gc gq gp P n G A) (hb : Below w.heap.size w W) : ClO W gk gc gq gp P n G A := by
  obtain ⟨k1, k2, k3, k4, c1, s1, h1⟩ := h.kn
  obtain ⟨o1, o2, o3, o4, c2, s2, h2⟩ := h.op
  obtain ⟨g, cvs, c3, r3, h3⟩ := h.ch
  obtain ⟨po, pc, pvs, c4, r4⟩ := h.pa
  exact ⟨⟨k1, k2, k3, k4, keepR hb c1, s1.below hb, h1⟩, ⟨o1, o2, o3, o4, keepR hb c2, s2.below hb, h2⟩, ⟨g, cvs, keepR hb c3, r3.below hb, fun j v hv => (h3 j v hv).below (Nat.le_refl _) hb⟩, ⟨po, pc, pvs, keepR hb c4, r4.below (Nat.le_refl _) hb⟩⟩
/-- The steps that may follow on one, as they are laid end to end. -/
def rawS (P : List (List Int)) (n : Nat) (G A : List Int) (s : Stp) : List Stp :=
  (if s.1 ∈ G then [] else stepsTo (chF P s.1.toNat n) true) ++ (if (s.2 = true ∧ s.1 ∈ A) ∨ (s.2 = false ∧ s.1 ∉ G) then stepsTo (P.getD s.1.toNat []) false else [])
def nxS (P : List (List Int)) (n : Nat) (G A : List Int) (s : Stp) : List Stp := srtP (rawS P n G A s)
set_option maxRecDepth 1000000 in
set_option maxHeartbeats 12800000 in
theorem nextS (w : World) (gk gc gq gp : Nat) (P : List (List Int)) (n : Nat) (G A : List Int) (h : ClO w gk gc gq gp P n G A) (hn : P.length = n) (hb : n ≤ 100000) (hbl : ∀ i, (P.getD i []).length ≤ n) (p : Nat) (hp : p < n) (d : Bool)
    (hdis : (rawS P n G A ((p : Int), d)).Pairwise (fun a b => a.1 ≠ b.1)) :
    Calls Tryz.prog 88 #[.agg #[.int .i64 (p : Int), .bool d], .pointer (some ⟨gk, 0, none⟩), .pointer (some ⟨gc, 0, none⟩), .pointer (some ⟨gq, 0, none⟩), .pointer (some ⟨gp, 0, none⟩)] w fun e w' => ∃ u, e = .returned u ∧ OS w.heap.size w' u (nxS P n G A ((p : Int), d)) ∧ Below w.heap.size w w' := by
  obtain ⟨kO, kN, kC, kk, ck0, sk0, hk0⟩ := h.kn
  obtain ⟨qO, qN, qC, qk, cq0, sq0, hq0⟩ := h.op
  obtain ⟨g, cvs, cc0, rc0, hc0⟩ := h.ch
  obtain ⟨po, pc, pvs, cp0, rp0⟩ := h.pa
  obtain ⟨cv, hcv⟩ : ∃ v, cvs[p]? = some v := ⟨_, List.getElem?_eq_getElem (by rw [rc0.rg.len]; exact hp)⟩
  have hcr := hc0 p cv hcv
  have hcc := (rc0.cell hcv).1
  obtain ⟨cO, cN, cC, rfl⟩ : ∃ o n c, cv = .slice o n c := by obtain ⟨ao, cap, e⟩ := hcr.sl; exact ⟨_, _, _, e⟩
  change w.cell? ⟨g, p, none⟩ = some (.slice cO cN cC) at hcc
  obtain ⟨xv, gx, ox, hx1, hpo, hx2⟩ := rp0.out.at hp
  subst hpo
  have hxr := rp0.inn p xv hx1
  obtain ⟨xO, xN, xC, rfl⟩ : ∃ o n c, xv = .slice o n c := by obtain ⟨ao, cap, e⟩ := hxr.sl; exact ⟨_, _, _, e⟩
  change w.cell? ⟨gx, ox + p, none⟩ = some (.slice xO xN xC) at hx2
  have HK : Hid (∀ W, Below w.heap.size w W → W.cell? ⟨gk, 0, none⟩ = some (.slice kO kN kC)) := fun W hW => keepR hW ck0
  have HQ : Hid (∀ W, Below w.heap.size w W → W.cell? ⟨gq, 0, none⟩ = some (.slice qO qN qC)) := fun W hW => keepR hW cq0
  have HC : Hid (∀ W, Below w.heap.size w W → W.cell? ⟨gc, 0, none⟩ = some (.slice (some ⟨g, 0, none⟩) n n)) := fun W hW => keepR hW cc0
  have HC2 : Hid (∀ W, Below w.heap.size w W → W.cell? ⟨g, p, none⟩ = some (.slice cO cN cC)) := fun W hW => keepR hW hcc
  have HP : Hid (∀ W, Below w.heap.size w W → W.cell? ⟨gp, 0, none⟩ = some (.slice (some ⟨gx, ox, none⟩) n pc)) := fun W hW => keepR hW cp0
  have HP2 : Hid (∀ W, Below w.heap.size w W → W.cell? ⟨gx, ox + p, none⟩ = some (.slice xO xN xC)) := fun W hW => keepR hW hx2
  have HSK : Hid (∀ W, Below w.heap.size w W → SI W (.slice kO kN kC) (ofR G) kk) := fun W hW => sk0.below hW
  have HSQ : Hid (∀ W, Below w.heap.size w W → SI W (.slice qO qN qC) (ofR A) qk) := fun W hW => sq0.below hW
  have HCR : Hid (∀ W, Below w.heap.size w W → RG (Value.int .i64) W (.slice cO cN cC) (chF P p n)) := fun W hW => hcr.below (Nat.le_refl _) hW
  have HXR : Hid (∀ W, Below w.heap.size w W → RG (Value.int .i64) W (.slice xO xN xC) (P.getD p [])) := fun W hW => hxr.below (Nat.le_refl _) hW
  have HLC : Hid ((chF P p n).length ≤ 100000) := Nat.le_trans (chF_len P p n) hb
  have HLX : Hid ((P.getD p []).length ≤ 100000) := Nat.le_trans (hbl p) hb
  have HDIS : Hid ((rawS P n G A ((p : Int), d)).Pairwise (fun a b => a.1 ≠ b.1)) := hdis
  obtain ⟨w1, hw1⟩ : ∃ W, W = w.alloc (.cells #[.int .i64 (p : Int), .bool d] 80) := ⟨_, rfl⟩
  obtain ⟨gs, hgs⟩ : ∃ g, g = w.heap.size := ⟨_, rfl⟩
  have b1 : Below w.heap.size w w1 := by rw [hw1]; exact belowB _ _
  have kS : w1.heap[gs]? = some (.cells #[.int .i64 (p : Int), .bool d] 80 (0, 0)) := by rw [hw1, hgs]; exact heap_alloc_new w _
  have HS0 : Hid (∀ W, Below w1.heap.size w1 W → W.cell? ⟨gs, 0, none⟩ = some (.int .i64 (p : Int))) := fun W hW => keepR hW (cell_of_row w1 gs 0 _ _ _ kS)
  have HS1 : Hid (∀ W, Below w1.heap.size w1 W → W.cell? ⟨gs, 1, none⟩ = some (.bool d)) := fun W hW => keepR hW (cell_of_row w1 gs 1 _ _ _ kS)
  have HB1 : Hid (Below w.heap.size w w1) := b1
  have HW1 : Hid (w1 = w.alloc (.cells #[.int .i64 (p : Int), .bool d] 80)) := hw1
  have HG1 : Hid (gs = w.heap.size) := hgs
  have hpz : (p : Int) < (n : Int) := by omega
  obtain ⟨b, hbe⟩ : ∃ b, decide ((p : Int) ∈ ofR G) = b := ⟨_, rfl⟩
  obtain ⟨q, hqe⟩ : ∃ q, decide ((p : Int) ∈ ofR A) = q := ⟨_, rfl⟩
  have hG : ((p : Int) ∈ G) ↔ b = true := by rw [← hbe, decide_eq_true_iff, mem_ofR]
  have hA : ((p : Int) ∈ A) ↔ q = true := by rw [← hqe, decide_eq_true_iff, mem_ofR]
  have HCH : Hid (∀ W, Below w.heap.size w W → Calls Tryz.prog 42 #[.agg #[.slice kO kN kC], .int .i64 (p : Int)] W fun e w' => e = .returned (.bool b) ∧ Below W.heap.size W w') := fun W hW => siHas (HSK.out W hW) (p : Int) hk0 b hbe
  have HCQ : Hid (∀ W, Below w.heap.size w W → Calls Tryz.prog 42 #[.agg #[.slice qO qN qC], .int .i64 (p : Int)] W fun e w' => e = .returned (.bool q) ∧ Below W.heap.size W w') := fun W hW => siHas (HSQ.out W hW) (p : Int) hq0 q hqe
  have HRAW : Hid (rawS P n G A ((p : Int), d) = (if b = true then [] else stepsTo (chF P p n) true) ++ (if (d = true ∧ q = true) ∨ (d = false ∧ b = false) then stepsTo (P.getD p []) false else [])) := by
    show _ = _
    unfold rawS
    simp only [hG, hA, Int.toNat_natCast, Bool.not_eq_true]
  have HBU : Hid (∀ W, Below w1.heap.size w1 W → Below w.heap.size w W) := fun W hW => bstepB b1 hW
  clear h ck0 sk0 hk0 cq0 sq0 hq0 cc0 rc0 hc0 cp0 rp0 hcv hcr hcc hx1 hx2 hxr hdis hw1 hgs b1 kS hG hA hbe hqe
  go_enter Tryz.func88, Tryz.ntmps88
  go_upto_region 1 with fail
  rw [← HW1.out, ← HG1.out]
  clear HW1 HG1
  cases b with
  | true =>
    cases d with
    | true =>
      cases q with
      | true =>
        have fk := HK.out w1 HB1.out
        have f0 := HS0.out w1 (Below.refl _ _)
        have CX : Hid _ := HCH.out w1 HB1.out
        go_wp2_with fail
        refine Calls.mono CX.out ?_
        rintro e y1 ⟨rfl, by1⟩
        have HY1 : Hid (Below w1.heap.size w1 y1) := by1
        have HZ1 : Hid (Below y1.heap.size y1 y1) := Below.refl _ _
        clear CX by1 fk f0
        have fq := HQ.out y1 (HBU.out y1 HY1.out)
        have f0 := HS0.out y1 HY1.out
        have f1 := HS1.out y1 HY1.out
        have CX : Hid _ := HCQ.out y1 (HBU.out y1 HY1.out)
        go_wp2_with fail
        refine Calls.mono CX.out ?_
        rintro e y2 ⟨rfl, by2⟩
        have HZ2 : Hid (Below y1.heap.size y1 y2) := HZ1.out.trans (by2.mono HZ1.out.size)
        have HY2 : Hid (Below w1.heap.size w1 y2) := bstepB HY1.out HZ2.out
        clear CX by2 fq f0 f1
        have fp := HP.out y2 (HBU.out y2 HY2.out)
        have fp2 := HP2.out y2 (HBU.out y2 HY2.out)
        have f0 := HS0.out y2 HY2.out
        have CX : Hid _ := withStepsS y1.heap.size y2 (.slice none 0 0) _ [] (P.getD p []) false (OS.nil _ _) HZ2.out.size (fun W hW => HXR.out W (HBU.out W (bstepB HY1.out (HZ2.out.trans hW)))) (by have := HLC.out; have := HLX.out; first | (simp; done) | (rw [stepsTo_len]; omega)) (by have := HLX.out; omega)
        go_wp2_with fail
        refine Calls.mono CX.out ?_
        rintro e y3 ⟨u3, rfl, hu3, by3⟩
        obtain ⟨o3, c3, rfl, -⟩ := hu3.sl
        obtain ⟨n3, hn3⟩ : ∃ m, m = ([] ++ stepsTo (P.getD p []) false).length := ⟨_, rfl⟩
        rw [← hn3] at hu3 ⊢
        have HU3 : Hid (OS y1.heap.size y3 (.slice o3 n3 c3) (stepsTo (P.getD p []) false)) := hu3
        have HZ3 : Hid (Below y1.heap.size y1 y3) := HZ2.out.trans by3
        have HY3 : Hid (Below w1.heap.size w1 y3) := bstepB HY1.out HZ3.out
        clear CX hu3 hn3 by3 fp fp2 f0
        have hraw : rawS P n G A ((p : Int), true) = (stepsTo (P.getD p []) false) := by rw [HRAW.out]; simp
        have HDS : Hid ((stepsTo (P.getD p []) false).Pairwise (fun a b : Stp => a.1 ≠ b.1)) := by have h := HDIS.out; rw [hraw] at h; exact h
        have HNX : Hid (nxS P n G A ((p : Int), true) = srtP (stepsTo (P.getD p []) false)) := by show _ = _; unfold nxS; rw [hraw]
        clear hraw
        have CX : Hid _ := sortStS y1.heap.size y3 (.slice o3 n3 c3) (stepsTo (P.getD p []) false) HU3.out HDS.out (by have := HLC.out; have := HLX.out; first | (simp; done) | (rw [stepsTo_len]; omega) | (rw [List.length_append, stepsTo_len, stepsTo_len]; omega))
        go_wp2_with fail
        refine Calls.mono CX.out ?_
        rintro e y4 ⟨rfl, hu4, by4⟩
        have HU4 : Hid (OS w.heap.size y4 (.slice o3 n3 c3) (nxS P n G A ((p : Int), true))) := by show OS _ _ _ _; rw [HNX.out]; exact hu4.mono (HBU.out y1 HY1.out).size
        have HW : Hid (Below w.heap.size w y4) := bstepB (HBU.out y1 HY1.out) (HU3.out.grown HZ3.out HZ3.out.size by4)
        clear CX hu4 by4 
        go_wp2
        go_ret
        exact ⟨_, rfl, HU4.out, HW.out⟩
      | false =>
        have fk := HK.out w1 HB1.out
        have f0 := HS0.out w1 (Below.refl _ _)
        have CX : Hid _ := HCH.out w1 HB1.out
        go_wp2_with fail
        refine Calls.mono CX.out ?_
        rintro e y1 ⟨rfl, by1⟩
        have HY1 : Hid (Below w1.heap.size w1 y1) := by1
        have HZ1 : Hid (Below y1.heap.size y1 y1) := Below.refl _ _
        clear CX by1 fk f0
        have fq := HQ.out y1 (HBU.out y1 HY1.out)
        have f0 := HS0.out y1 HY1.out
        have f1 := HS1.out y1 HY1.out
        have CX : Hid _ := HCQ.out y1 (HBU.out y1 HY1.out)
        go_wp2_with fail
        refine Calls.mono CX.out ?_
        rintro e y2 ⟨rfl, by2⟩
        have HZ2 : Hid (Below y1.heap.size y1 y2) := HZ1.out.trans (by2.mono HZ1.out.size)
        have HY2 : Hid (Below w1.heap.size w1 y2) := bstepB HY1.out HZ2.out
        clear CX by2 fq f0 f1
        have hraw : rawS P n G A ((p : Int), true) = [] := by rw [HRAW.out]; simp
        have HDS : Hid ([].Pairwise (fun a b : Stp => a.1 ≠ b.1)) := by have h := HDIS.out; rw [hraw] at h; exact h
        have HNX : Hid (nxS P n G A ((p : Int), true) = srtP []) := by show _ = _; unfold nxS; rw [hraw]
        clear hraw
        have f0 := HS0.out y2 HY2.out
        have f1 := HS1.out y2 HY2.out
        have CX : Hid _ := sortStS y1.heap.size y2 (.slice none 0 0) [] (OS.nil _ _) HDS.out (by have := HLC.out; have := HLX.out; first | (simp; done) | (rw [stepsTo_len]; omega) | (rw [List.length_append, stepsTo_len, stepsTo_len]; omega))
        go_wp2_with fail
        refine Calls.mono CX.out ?_
        rintro e y3 ⟨rfl, hu3, by3⟩
        have HU3 : Hid (OS w.heap.size y3 (.slice none 0 0) (nxS P n G A ((p : Int), true))) := by show OS _ _ _ _; rw [HNX.out]; exact hu3.mono (HBU.out y1 HY1.out).size
        have HW : Hid (Below w.heap.size w y3) := bstepB (HBU.out y1 HY1.out) ((OS.nil y1.heap.size y2).grown HZ2.out HZ2.out.size by3)
        clear CX hu3 by3 f0 f1
        go_wp2
        go_ret
        exact ⟨_, rfl, HU3.out, HW.out⟩
    | false =>
      have fk := HK.out w1 HB1.out
      have f0 := HS0.out w1 (Below.refl _ _)
      have CX : Hid _ := HCH.out w1 HB1.out
      go_wp2_with fail
      refine Calls.mono CX.out ?_
      rintro e y1 ⟨rfl, by1⟩
      have HY1 : Hid (Below w1.heap.size w1 y1) := by1
      have HZ1 : Hid (Below y1.heap.size y1 y1) := Below.refl _ _
      clear CX by1 fk f0
      have hraw : rawS P n G A ((p : Int), false) = [] := by rw [HRAW.out]; simp
      have HDS : Hid ([].Pairwise (fun a b : Stp => a.1 ≠ b.1)) := by have h := HDIS.out; rw [hraw] at h; exact h
      have HNX : Hid (nxS P n G A ((p : Int), false) = srtP []) := by show _ = _; unfold nxS; rw [hraw]
      clear hraw
      have f0 := HS0.out y1 HY1.out
      have f1 := HS1.out y1 HY1.out
      have CX : Hid _ := sortStS y1.heap.size y1 (.slice none 0 0) [] (OS.nil _ _) HDS.out (by have := HLC.out; have := HLX.out; first | (simp; done) | (rw [stepsTo_len]; omega) | (rw [List.length_append, stepsTo_len, stepsTo_len]; omega))
      go_wp2_with fail
      refine Calls.mono CX.out ?_
      rintro e y2 ⟨rfl, hu2, by2⟩
      have HU2 : Hid (OS w.heap.size y2 (.slice none 0 0) (nxS P n G A ((p : Int), false))) := by show OS _ _ _ _; rw [HNX.out]; exact hu2.mono (HBU.out y1 HY1.out).size
      have HW : Hid (Below w.heap.size w y2) := bstepB (HBU.out y1 HY1.out) ((OS.nil y1.heap.size y1).grown HZ1.out HZ1.out.size by2)
      clear CX hu2 by2 f0 f1
      go_wp2
      go_ret
      exact ⟨_, rfl, HU2.out, HW.out⟩
  | false =>
    cases d with
    | true =>
      cases q with
      | true =>
        have fk := HK.out w1 HB1.out
        have f0 := HS0.out w1 (Below.refl _ _)
        have CX : Hid _ := HCH.out w1 HB1.out
        go_wp2_with fail
        refine Calls.mono CX.out ?_
        rintro e y1 ⟨rfl, by1⟩
        have HY1 : Hid (Below w1.heap.size w1 y1) := by1
        have HZ1 : Hid (Below y1.heap.size y1 y1) := Below.refl _ _
        clear CX by1 fk f0
        have fc := HC.out y1 (HBU.out y1 HY1.out)
        have fc2 := HC2.out y1 (HBU.out y1 HY1.out)
        have f0 := HS0.out y1 HY1.out
        have CX : Hid _ := withStepsS y1.heap.size y1 (.slice none 0 0) _ [] (chF P p n) true (OS.nil _ _) HZ1.out.size (fun W hW => HCR.out W (HBU.out W (bstepB HY1.out (HZ1.out.trans hW)))) (by have := HLC.out; have := HLX.out; first | (simp; done) | (rw [stepsTo_len]; omega)) (by have := HLC.out; omega)
        go_wp2_with fail
        refine Calls.mono CX.out ?_
        rintro e y2 ⟨u2, rfl, hu2, by2⟩
        obtain ⟨o2, c2, rfl, -⟩ := hu2.sl
        obtain ⟨n2, hn2⟩ : ∃ m, m = ([] ++ stepsTo (chF P p n) true).length := ⟨_, rfl⟩
        rw [← hn2] at hu2 ⊢
        have HU2 : Hid (OS y1.heap.size y2 (.slice o2 n2 c2) (stepsTo (chF P p n) true)) := hu2
        have HZ2 : Hid (Below y1.heap.size y1 y2) := HZ1.out.trans by2
        have HY2 : Hid (Below w1.heap.size w1 y2) := bstepB HY1.out HZ2.out
        clear CX hu2 hn2 by2 fc fc2 f0
        have fq := HQ.out y2 (HBU.out y2 HY2.out)
        have f0 := HS0.out y2 HY2.out
        have f1 := HS1.out y2 HY2.out
        have CX : Hid _ := HCQ.out y2 (HBU.out y2 HY2.out)
        go_wp2_with fail
        refine Calls.mono CX.out ?_
        rintro e y3 ⟨rfl, by3⟩
        have HU3 : Hid (OS y1.heap.size y3 (.slice o2 n2 c2) (stepsTo (chF P p n) true)) := HU2.out.below by3
        have HZ3 : Hid (Below y1.heap.size y1 y3) := HZ2.out.trans (by3.mono HZ2.out.size)
        have HY3 : Hid (Below w1.heap.size w1 y3) := bstepB HY1.out HZ3.out
        clear CX by3 fq f0 f1
        have fp := HP.out y3 (HBU.out y3 HY3.out)
        have fp2 := HP2.out y3 (HBU.out y3 HY3.out)
        have f0 := HS0.out y3 HY3.out
        have CX : Hid _ := withStepsS y1.heap.size y3 (.slice o2 n2 c2) _ (stepsTo (chF P p n) true) (P.getD p []) false HU3.out HZ3.out.size (fun W hW => HXR.out W (HBU.out W (bstepB HY1.out (HZ3.out.trans hW)))) (by have := HLC.out; have := HLX.out; first | (simp; done) | (rw [stepsTo_len]; omega)) (by have := HLX.out; omega)
        go_wp2_with fail
        refine Calls.mono CX.out ?_
        rintro e y4 ⟨u4, rfl, hu4, by4⟩
        obtain ⟨o4, c4, rfl, -⟩ := hu4.sl
        obtain ⟨n4, hn4⟩ : ∃ m, m = ((stepsTo (chF P p n) true) ++ stepsTo (P.getD p []) false).length := ⟨_, rfl⟩
        rw [← hn4] at hu4 ⊢
        have HU4 : Hid (OS y1.heap.size y4 (.slice o4 n4 c4) ((stepsTo (chF P p n) true) ++ stepsTo (P.getD p []) false)) := hu4
        have HZ4 : Hid (Below y1.heap.size y1 y4) := HZ3.out.trans by4
        have HY4 : Hid (Below w1.heap.size w1 y4) := bstepB HY1.out HZ4.out
        clear CX hu4 hn4 by4 fp fp2 f0
        have hraw : rawS P n G A ((p : Int), true) = ((stepsTo (chF P p n) true) ++ stepsTo (P.getD p []) false) := by rw [HRAW.out]; simp
        have HDS : Hid (((stepsTo (chF P p n) true) ++ stepsTo (P.getD p []) false).Pairwise (fun a b : Stp => a.1 ≠ b.1)) := by have h := HDIS.out; rw [hraw] at h; exact h
        have HNX : Hid (nxS P n G A ((p : Int), true) = srtP ((stepsTo (chF P p n) true) ++ stepsTo (P.getD p []) false)) := by show _ = _; unfold nxS; rw [hraw]
        clear hraw
        have CX : Hid _ := sortStS y1.heap.size y4 (.slice o4 n4 c4) ((stepsTo (chF P p n) true) ++ stepsTo (P.getD p []) false) HU4.out HDS.out (by have := HLC.out; have := HLX.out; first | (simp; done) | (rw [stepsTo_len]; omega) | (rw [List.length_append, stepsTo_len, stepsTo_len]; omega))
        go_wp2_with fail
        refine Calls.mono CX.out ?_
        rintro e y5 ⟨rfl, hu5, by5⟩
        have HU5 : Hid (OS w.heap.size y5 (.slice o4 n4 c4) (nxS P n G A ((p : Int), true))) := by show OS _ _ _ _; rw [HNX.out]; exact hu5.mono (HBU.out y1 HY1.out).size
        have HW : Hid (Below w.heap.size w y5) := bstepB (HBU.out y1 HY1.out) (HU4.out.grown HZ4.out HZ4.out.size by5)
        clear CX hu5 by5 
        go_wp2
        go_ret
        exact ⟨_, rfl, HU5.out, HW.out⟩
      | false =>
        have fk := HK.out w1 HB1.out
        have f0 := HS0.out w1 (Below.refl _ _)
        have CX : Hid _ := HCH.out w1 HB1.out
        go_wp2_with fail
        refine Calls.mono CX.out ?_
        rintro e y1 ⟨rfl, by1⟩
        have HY1 : Hid (Below w1.heap.size w1 y1) := by1
        have HZ1 : Hid (Below y1.heap.size y1 y1) := Below.refl _ _
        clear CX by1 fk f0
        have fc := HC.out y1 (HBU.out y1 HY1.out)
        have fc2 := HC2.out y1 (HBU.out y1 HY1.out)
        have f0 := HS0.out y1 HY1.out
        have CX : Hid _ := withStepsS y1.heap.size y1 (.slice none 0 0) _ [] (chF P p n) true (OS.nil _ _) HZ1.out.size (fun W hW => HCR.out W (HBU.out W (bstepB HY1.out (HZ1.out.trans hW)))) (by have := HLC.out; have := HLX.out; first | (simp; done) | (rw [stepsTo_len]; omega)) (by have := HLC.out; omega)
        go_wp2_with fail
        refine Calls.mono CX.out ?_
        rintro e y2 ⟨u2, rfl, hu2, by2⟩
        obtain ⟨o2, c2, rfl, -⟩ := hu2.sl
        obtain ⟨n2, hn2⟩ : ∃ m, m = ([] ++ stepsTo (chF P p n) true).length := ⟨_, rfl⟩
        rw [← hn2] at hu2 ⊢
        have HU2 : Hid (OS y1.heap.size y2 (.slice o2 n2 c2) (stepsTo (chF P p n) true)) := hu2
        have HZ2 : Hid (Below y1.heap.size y1 y2) := HZ1.out.trans by2
        have HY2 : Hid (Below w1.heap.size w1 y2) := bstepB HY1.out HZ2.out
        clear CX hu2 hn2 by2 fc fc2 f0
        have fq := HQ.out y2 (HBU.out y2 HY2.out)
        have f0 := HS0.out y2 HY2.out
        have f1 := HS1.out y2 HY2.out
        have CX : Hid _ := HCQ.out y2 (HBU.out y2 HY2.out)
        go_wp2_with fail
        refine Calls.mono CX.out ?_
        rintro e y3 ⟨rfl, by3⟩
        have HU3 : Hid (OS y1.heap.size y3 (.slice o2 n2 c2) (stepsTo (chF P p n) true)) := HU2.out.below by3
        have HZ3 : Hid (Below y1.heap.size y1 y3) := HZ2.out.trans (by3.mono HZ2.out.size)
        have HY3 : Hid (Below w1.heap.size w1 y3) := bstepB HY1.out HZ3.out
        clear CX by3 fq f0 f1
        have hraw : rawS P n G A ((p : Int), true) = (stepsTo (chF P p n) true) := by rw [HRAW.out]; simp
        have HDS : Hid ((stepsTo (chF P p n) true).Pairwise (fun a b : Stp => a.1 ≠ b.1)) := by have h := HDIS.out; rw [hraw] at h; exact h
        have HNX : Hid (nxS P n G A ((p : Int), true) = srtP (stepsTo (chF P p n) true)) := by show _ = _; unfold nxS; rw [hraw]
        clear hraw
        have f0 := HS0.out y3 HY3.out
        have f1 := HS1.out y3 HY3.out
        have CX : Hid _ := sortStS y1.heap.size y3 (.slice o2 n2 c2) (stepsTo (chF P p n) true) HU3.out HDS.out (by have := HLC.out; have := HLX.out; first | (simp; done) | (rw [stepsTo_len]; omega) | (rw [List.length_append, stepsTo_len, stepsTo_len]; omega))
        go_wp2_with fail
        refine Calls.mono CX.out ?_
        rintro e y4 ⟨rfl, hu4, by4⟩
        have HU4 : Hid (OS w.heap.size y4 (.slice o2 n2 c2) (nxS P n G A ((p : Int), true))) := by show OS _ _ _ _; rw [HNX.out]; exact hu4.mono (HBU.out y1 HY1.out).size
        have HW : Hid (Below w.heap.size w y4) := bstepB (HBU.out y1 HY1.out) (HU3.out.grown HZ3.out HZ3.out.size by4)
        clear CX hu4 by4 f0 f1
        go_wp2
        go_ret
        exact ⟨_, rfl, HU4.out, HW.out⟩
    | false =>
      have fk := HK.out w1 HB1.out
      have f0 := HS0.out w1 (Below.refl _ _)
      have CX : Hid _ := HCH.out w1 HB1.out
      go_wp2_with fail
      refine Calls.mono CX.out ?_
      rintro e y1 ⟨rfl, by1⟩
      have HY1 : Hid (Below w1.heap.size w1 y1) := by1
      have HZ1 : Hid (Below y1.heap.size y1 y1) := Below.refl _ _
      clear CX by1 fk f0
      have fc := HC.out y1 (HBU.out y1 HY1.out)
      have fc2 := HC2.out y1 (HBU.out y1 HY1.out)
      have f0 := HS0.out y1 HY1.out
      have CX : Hid _ := withStepsS y1.heap.size y1 (.slice none 0 0) _ [] (chF P p n) true (OS.nil _ _) HZ1.out.size (fun W hW => HCR.out W (HBU.out W (bstepB HY1.out (HZ1.out.trans hW)))) (by have := HLC.out; have := HLX.out; first | (simp; done) | (rw [stepsTo_len]; omega)) (by have := HLC.out; omega)
      go_wp2_with fail
      refine Calls.mono CX.out ?_
      rintro e y2 ⟨u2, rfl, hu2, by2⟩
      obtain ⟨o2, c2, rfl, -⟩ := hu2.sl
      obtain ⟨n2, hn2⟩ : ∃ m, m = ([] ++ stepsTo (chF P p n) true).length := ⟨_, rfl⟩
      rw [← hn2] at hu2 ⊢
      have HU2 : Hid (OS y1.heap.size y2 (.slice o2 n2 c2) (stepsTo (chF P p n) true)) := hu2
      have HZ2 : Hid (Below y1.heap.size y1 y2) := HZ1.out.trans by2
      have HY2 : Hid (Below w1.heap.size w1 y2) := bstepB HY1.out HZ2.out
      clear CX hu2 hn2 by2 fc fc2 f0
      have fp := HP.out y2 (HBU.out y2 HY2.out)
      have fp2 := HP2.out y2 (HBU.out y2 HY2.out)
      have f0 := HS0.out y2 HY2.out
      have f1 := HS1.out y2 HY2.out
      have CX : Hid _ := withStepsS y1.heap.size y2 (.slice o2 n2 c2) _ (stepsTo (chF P p n) true) (P.getD p []) false HU2.out HZ2.out.size (fun W hW => HXR.out W (HBU.out W (bstepB HY1.out (HZ2.out.trans hW)))) (by have := HLC.out; have := HLX.out; first | (simp; done) | (rw [stepsTo_len]; omega)) (by have := HLX.out; omega)
      go_wp2_with fail
      refine Calls.mono CX.out ?_
      rintro e y3 ⟨u3, rfl, hu3, by3⟩
      obtain ⟨o3, c3, rfl, -⟩ := hu3.sl
      obtain ⟨n3, hn3⟩ : ∃ m, m = ((stepsTo (chF P p n) true) ++ stepsTo (P.getD p []) false).length := ⟨_, rfl⟩
      rw [← hn3] at hu3 ⊢
      have HU3 : Hid (OS y1.heap.size y3 (.slice o3 n3 c3) ((stepsTo (chF P p n) true) ++ stepsTo (P.getD p []) false)) := hu3
      have HZ3 : Hid (Below y1.heap.size y1 y3) := HZ2.out.trans by3
      have HY3 : Hid (Below w1.heap.size w1 y3) := bstepB HY1.out HZ3.out
      clear CX hu3 hn3 by3 fp fp2 f0 f1
      have hraw : rawS P n G A ((p : Int), false) = ((stepsTo (chF P p n) true) ++ stepsTo (P.getD p []) false) := by rw [HRAW.out]; simp
      have HDS : Hid (((stepsTo (chF P p n) true) ++ stepsTo (P.getD p []) false).Pairwise (fun a b : Stp => a.1 ≠ b.1)) := by have h := HDIS.out; rw [hraw] at h; exact h
      have HNX : Hid (nxS P n G A ((p : Int), false) = srtP ((stepsTo (chF P p n) true) ++ stepsTo (P.getD p []) false)) := by show _ = _; unfold nxS; rw [hraw]
      clear hraw
      have CX : Hid _ := sortStS y1.heap.size y3 (.slice o3 n3 c3) ((stepsTo (chF P p n) true) ++ stepsTo (P.getD p []) false) HU3.out HDS.out (by have := HLC.out; have := HLX.out; first | (simp; done) | (rw [stepsTo_len]; omega) | (rw [List.length_append, stepsTo_len, stepsTo_len]; omega))
      go_wp2_with fail
      refine Calls.mono CX.out ?_
      rintro e y4 ⟨rfl, hu4, by4⟩
      have HU4 : Hid (OS w.heap.size y4 (.slice o3 n3 c3) (nxS P n G A ((p : Int), false))) := by show OS _ _ _ _; rw [HNX.out]; exact hu4.mono (HBU.out y1 HY1.out).size
      have HW : Hid (Below w.heap.size w y4) := bstepB (HBU.out y1 HY1.out) (HU3.out.grown HZ3.out HZ3.out.size by4)
      clear CX hu4 by4 
      go_wp2
      go_ret
      exact ⟨_, rfl, HU4.out, HW.out⟩
end Go.Proofs.YtcoiapgfaibkgaaGreat

namespace Go.Proofs.YtcoiapgfaibkgaaGreat
set_option linter.unusedVariables false
open Go.RowKit Go.Shelf Go.Sort Go.Lib
def nsE (P : List (List Int)) (n : Nat) (G : List Int) : Int := if ckE P ≠ 0 then ckE P else if noPts (n : Int) G = true then 3 else 0
/-- What lies above some points: rising, just those. -/
def AbvP (P : List (List Int)) (G A : List Int) : Prop := Rise A ∧ ∀ x, x ∈ A ↔ RchP P G x
/-- The closure, as a value. -/
def clV (gk gc gq gp : Nat) : Value := .func (.func 88) #[] #[.pointer (some ⟨gk, 0, none⟩), .pointer (some ⟨gc, 0, none⟩), .pointer (some ⟨gq, 0, none⟩), .pointer (some ⟨gp, 0, none⟩)]
theorem siOfB {w : World} {v : Value} {L : List Int} (hv : RG (Value.int .i64) w v L) (hl : L.length ≤ 1048576) {k : Nat} (hk : (ofR L).length ≤ k) : Calls Tryz.prog 39 #[v] w fun e w' => SE w (ofR L) k e w' :=
  (setOfI v L w hv hl).mono fun _ _ ⟨u, h1, h2, h3⟩ => by
    obtain ⟨ao, cap, rfl, -⟩ := h2.sl
    exact ⟨ao, _, cap, h1, ⟨by have := h2.rg; rwa [ofI_eq L] at this ⊢, rise_ofR L, hk⟩, h3⟩
theorem ofR_pts {L : List Int} {n : Nat} (h : ∀ x ∈ L, ∃ p : Nat, x = (p : Int) ∧ p < n) : (ofR L).length ≤ n :=
  len_nd n _ ((rise_ofR L).imp fun h e => by omega) fun x hx => h x ((mem_ofR L x).1 hx)
theorem rn_ptS {C : List (List Int)} {n : Nat} (hC : ∀ (i : Nat) (x : Int), x ∈ C.getD i [] → ∃ p : Nat, x = (p : Int) ∧ p < C.length) (hn : C.length = n) : ∀ (m : Nat) (x y : Int), (∃ p : Nat, x = (p : Int) ∧ p < n) → Rn C m x y → ∃ p : Nat, y = (p : Int) ∧ p < n
  | 0, x, y, hx, h => by have e : x = y := h; exact e ▸ hx
  | m + 1, x, y, hx, ⟨u, hu, h⟩ => rn_ptS hC hn m u y (by obtain ⟨p, e, hp⟩ := hC _ _ hu; exact ⟨p, e, by omega⟩) h
theorem noPts_pt {n : Nat} {zs : List Int} (h : noPts (n : Int) zs = false) (x : Int) (hx : x ∈ zs) : ∃ p : Nat, x = (p : Int) ∧ p < n := by
  have h1 : noPt (n : Int) x = false := by
    cases h2 : noPt (n : Int) x with
    | false => rfl
    | true => exact absurd (List.any_eq_true.2 ⟨x, hx, h2⟩) (by unfold noPts at h; rw [h]; decide)
  unfold noPt at h1
  simp only [Bool.or_eq_false_iff, decide_eq_false_iff_not] at h1
  exact ⟨x.toNat, by omega, by omega⟩
theorem rch_pt {C : List (List Int)} {n : Nat} {pts : List Int} (hC : ∀ (i : Nat) (x : Int), x ∈ C.getD i [] → ∃ p : Nat, x = (p : Int) ∧ p < C.length) (hn : C.length = n) (hp : noPts (n : Int) pts = false) {y : Int} (h : RchP C pts y) : ∃ p : Nat, y = (p : Int) ∧ p < n := by
  obtain ⟨x, hx, m, hm⟩ := h
  exact rn_ptS hC hn m x y (noPts_pt hp x hx) hm
set_option maxRecDepth 1000000 in
set_option maxHeartbeats 6400000 in
theorem nextStepsS (pv qv : Value) (pvs : List Value) (P : List (List Int)) (G : List Int) (w : World) (h : RRD w pv pvs P) (n : Nat) (hn : P.length = n) (hb : n ≤ 100000) (hq : RG (Value.int .i64) w qv G) (hql : G.length ≤ 1048576) :
    Calls Tryz.prog 55 #[pv, qv] w fun e w' => ∃ fv, e = .returned (.tuple #[fv, .int .i64 (nsE P n G)]) ∧ (nsE P n G = 0 → ∃ gk gc gq gp A, fv = clV gk gc gq gp ∧ ClO w' gk gc gq gp P n G A ∧ AbvP P G A) ∧ Below w.heap.size w w' := by
  obtain ⟨po, pn, pc, rfl⟩ : ∃ o n c, pv = .slice o n c := by obtain ⟨ao, cap, e⟩ := h.out.sl; exact ⟨_, _, _, e⟩
  obtain rfl : pn = n := by rw [← hn, ← h.len, h.out.len]
  obtain ⟨qo, qn, qc, rfl⟩ : ∃ o n c, qv = .slice o n c := by obtain ⟨ao, cap, e⟩ := hq.sl; exact ⟨_, _, _, e⟩
  obtain ⟨w1, hw1⟩ : ∃ W, W = w.alloc (.cells #[.slice po pn pc] 22) := ⟨_, rfl⟩
  obtain ⟨gp, hgp⟩ : ∃ g, g = w.heap.size := ⟨_, rfl⟩
  have b1 : Below w.heap.size w w1 := by rw [hw1]; exact belowB _ _
  have c1 : w1.cell? ⟨gp, 0, none⟩ = some (.slice po pn pc) := by rw [hw1, hgp, World.cell?_alloc_at _ _ _ _ rfl]; rfl
  have HR : Hid (RRD w1 (.slice po pn pc) pvs P) := h.below (Nat.le_refl _) b1
  have HQ : Hid (RG (Value.int .i64) w1 (.slice qo qn qc) G) := hq.below (Nat.le_refl _) b1
  have HN : Hid (P.length = pn) := hn
  have HB1 : Hid (Below w.heap.size w w1) := b1
  have HC1 : Hid (w1.cell? ⟨gp, 0, none⟩ = some (.slice po pn pc)) := c1
  have HW1 : Hid (w1 = w.alloc (.cells #[.slice po pn pc] 22)) := hw1
  have HG1 : Hid (gp = w.heap.size) := hgp
  have CC : Hid _ := childrenL (.slice po pn pc) pvs P w1 HR.out pn hn hb (fun h0 i => by have := len_cl h0 i; omega)
  clear h hq hn hw1 hgp b1
  go_enter Tryz.func55, Tryz.ntmps55
  go_upto_region 1 with fail
  rw [← HW1.out, ← HG1.out]
  clear HW1 HG1
  go_wp2_with fail
  refine Calls.mono CC.out ?_
  rintro e y ⟨v, rfl, hce, hy⟩
  have HY : Hid (Below w1.heap.size w1 y) := hy
  clear CC hy c1
  by_cases h0 : ckE P = 0
  · obtain ⟨-, W, g, cvs, hW, rfl, ht⟩ : ckE P = 0 ∧ ∃ W g cvs, Below w1.heap.size w1 W ∧ v = .slice (some ⟨g, 0, none⟩) pn pn ∧ TuC W.heap.size W y g pn cvs (fun j => chF P j pn) := by
      rcases hce with h1 | h1
      · exact h1
      · exact absurd h0 h1.1
    have HT1 : Hid (OG id 0 23 y (.slice (some ⟨g, 0, none⟩) pn pn) cvs) := ht.row.mono (Nat.zero_le _)
    have HT2 : Hid (∀ (j : Nat) (v : Value), cvs[j]? = some v → RG (Value.int .i64) y v (chF P j pn)) := fun j v hv => (ht.inn j v hv).rg
    have HCK : Hid (ckE P = 0) := h0
    rw [h0]
    clear hce ht hW h0
    obtain ⟨y2, hy2⟩ : ∃ W, W = y.alloc (.cells #[.slice (some ⟨g, 0, none⟩) pn pn] 22) := ⟨_, rfl⟩
    obtain ⟨gc, hgc⟩ : ∃ g, g = y.heap.size := ⟨_, rfl⟩
    have by2 : Below y.heap.size y y2 := by rw [hy2]; exact belowB _ _
    have HY2 : Hid (Below w1.heap.size w1 y2) := bstepB HY.out by2
    have HCC : Hid (y2.cell? ⟨gc, 0, none⟩ = some (.slice (some ⟨g, 0, none⟩) pn pn)) := by show _ = _; rw [hy2, hgc, World.cell?_alloc_at _ _ _ _ rfl]; rfl
    have HT3 : Hid (OG id 0 23 y2 (.slice (some ⟨g, 0, none⟩) pn pn) cvs) := HT1.out.below by2
    have HT4 : Hid (∀ (j : Nat) (v : Value), cvs[j]? = some v → RG (Value.int .i64) y2 v (chF P j pn)) := fun j v hv => (HT2.out j v hv).below (Nat.le_refl _) by2
    have HWY : Hid (y2 = y.alloc (.cells #[.slice (some ⟨g, 0, none⟩) pn pn] 22)) := hy2
    have HGC : Hid (gc = y.heap.size) := hgc
    clear hy2 hgc by2 HT1 HT2
    go_upto_region 2 with fail
    rw [← HWY.out, ← HGC.out]
    clear HWY HGC
    have cp2 : y2.cell? ⟨gp, 0, none⟩ = some (.slice po pn pc) := keepR HY2.out HC1.out
    have CA : Hid _ := aboveD (.slice po pn pc) (.slice qo qn qc) pvs P G y2 (HR.out.below (Nat.le_refl _) HY2.out) pn HN.out hb (fun i => by have := len_cl (ck_zero HCK.out) i; rw [HN.out] at this; omega) (HQ.out.below (Nat.le_refl _) HY2.out) (by omega)
    go_wp2_with fail
    refine Calls.mono CA.out ?_
    rintro e y3 ⟨hab, by3⟩
    have HY3 : Hid (Below w1.heap.size w1 y3) := bstepB HY2.out by3
    have HCC3 : Hid (y3.cell? ⟨gc, 0, none⟩ = some (.slice (some ⟨g, 0, none⟩) pn pn)) := keepR by3 HCC.out
    have HT5 : Hid (OG id 0 23 y3 (.slice (some ⟨g, 0, none⟩) pn pn) cvs) := HT3.out.below by3
    have HT6 : Hid (∀ (j : Nat) (v : Value), cvs[j]? = some v → RG (Value.int .i64) y3 v (chF P j pn)) := fun j v hv => (HT4.out j v hv).below (Nat.le_refl _) by3
    clear CA cp2 HY HCC HT3 HT4
    have hab2 : ReE y2.heap.size P pn G y3 e := by
      rcases hab with h1 | h1
      · exact absurd HCK.out h1.1
      · exact h1.2
    clear hab
    rcases hab2 with ⟨hn1, rfl⟩ | ⟨hn1, tv, R, rfl, hR1, hR2, hR3⟩
    · have HE : Hid (nsE P pn G = 3) := by show _ = _; unfold nsE; rw [if_neg (by rw [HCK.out]; decide), if_pos hn1]
      clear hn1 by3
      go_wp2
      go_ret2
      exact ⟨_, by rw [HE.out]; rfl, fun h => by rw [HE.out] at h; simp at h, bstepB HB1.out HY3.out⟩
    · have HE : Hid (nsE P pn G = 0) := by show _ = _; unfold nsE; rw [if_neg (by rw [HCK.out]; decide), if_neg (by rw [hn1]; decide)]
      obtain ⟨tO, tc, rfl, -⟩ : ∃ o c, tv = .slice o R.length c ∧ True := by obtain ⟨ao, cap, e, -⟩ := hR1.sl; exact ⟨_, _, e, trivial⟩
      obtain ⟨tn, htn⟩ : ∃ m, m = R.length := ⟨_, rfl⟩
      have HRL : Hid (R.length ≤ 100000) := by
        show _ ≤ _
        have h1 := len_nd pn R (hR2.imp fun h => by omega) (fun y hy => rch_pt (outs_no (cl_zero (ck_zero HCK.out)).1) HN.out hn1 ((hR3 y).1 hy))
        omega
      rw [← htn] at hR1 ⊢
      have HTV : Hid (RG (Value.int .i64) y3 (.slice tO tn tc) R) := hR1.rg
      have HAB : Hid (AbvP P G R) := ⟨hR2, hR3⟩
      have C1 : Hid _ := siOfB (HQ.out.below (Nat.le_refl _) HY3.out) hql (k := 100000) (Nat.le_trans (ofR_pts (noPts_pt hn1)) hb)
      clear hn1 hR1 hR2 hR3 by3 htn
      go_wp2_with fail
      refine Calls.mono C1.out ?_
      rintro e y4 ⟨o4, n4, c4, rfl, hs4, by4⟩
      have HS4 : Hid (SI y4 (.slice o4 n4 c4) (ofR G) 100000) := hs4
      have HY4 : Hid (Below y3.heap.size y3 y4) := by4
      have C2 : Hid _ := siOf (HTV.out.below (Nat.le_refl _) by4) (k := 100000) HRL.out (Nat.le_refl _)
      clear C1 hs4 by4
      go_wp2_with fail
      refine Calls.mono C2.out ?_
      rintro e y5 ⟨o5, n5, c5, rfl, hs5, by5⟩
      have HS5 : Hid (SI y5 (.slice o5 n5 c5) (ofR R) 100000) := hs5
      have HS6 : Hid (SI y5 (.slice o4 n4 c4) (ofR G) 100000) := HS4.out.below by5
      have HY5 : Hid (Below y3.heap.size y3 y5) := bstepB HY4.out by5
      clear C2 hs5 by5 HY4 HS4
      obtain ⟨gk, hgk⟩ : ∃ g, g = y5.heap.size := ⟨_, rfl⟩
      obtain ⟨wa, hwa⟩ : ∃ W, W = y5.alloc (.cells #[.slice o4 n4 c4] 55) := ⟨_, rfl⟩
      obtain ⟨wd, hwd⟩ : ∃ W, W = wa.alloc (.cells #[.slice o5 n5 c5] 55) := ⟨_, rfl⟩
      have hsa : wa.heap.size = gk + 1 := by rw [hwa, hgk]; simp
      have ka : wa.heap[gk]? = some (.cells #[.slice o4 n4 c4] 55 (0, 0)) := by rw [hwa, hgk]; exact heap_alloc_new y5 _
      have kd1 : wd.heap[gk]? = some (.cells #[.slice o4 n4 c4] 55 (0, 0)) := by rw [hwd, heap_alloc_old wa _ (by rw [hsa]; omega)]; exact ka
      have kd2 : wd.heap[gk + 1]? = some (.cells #[.slice o5 n5 c5] 55 (0, 0)) := by rw [hwd, ← hsa]; exact heap_alloc_new wa _
      have ba : Below y5.heap.size y5 wa := by rw [hwa]; exact belowB y5 _
      have bb : Below wa.heap.size wa wd := by rw [hwd]; exact belowB wa _
      have bd : Below y5.heap.size y5 wd := bstepB ba bb
      have hbd := bstepB HY5.out bd
      have HCL : Hid (ClO wd gk gc (gk + 1) gp P pn G R) := ⟨⟨o4, n4, c4, 100000, cell_of_row wd gk 0 _ _ _ kd1, HS6.out.below bd, Nat.le_refl _⟩, ⟨o5, n5, c5, 100000, cell_of_row wd (gk + 1) 0 _ _ _ kd2, HS5.out.below bd, Nat.le_refl _⟩, ⟨g, cvs, keepR hbd HCC3.out, HT5.out.below hbd, fun j v hv => (HT6.out j v hv).below (Nat.le_refl _) hbd⟩, ⟨po, pc, pvs, keepR (bstepB HY3.out hbd) HC1.out, HR.out.below (Nat.le_refl _) (bstepB HY3.out hbd)⟩⟩
      have HBD : Hid (Below w.heap.size w wd) := bstepB HB1.out (bstepB HY3.out hbd)
      have HWD : Hid (wd = (y5.alloc (.cells #[.slice o4 n4 c4] 55)).alloc (.cells #[.slice o5 n5 c5] 55)) := by show _ = _; rw [hwd, hwa]
      have HGK : Hid (gk = y5.heap.size) := hgk
      clear hgk hwa hwd hsa ka kd1 kd2 ba bb bd hbd HS5 HS6 HY5 HT5 HT6 HCC3
      go_upto_region 8 with fail
      rw [← HGK.out, ← HWD.out]
      clear HWD HGK
      go_wp2
      go_ret2
      exact ⟨_, by rw [HE.out]; rfl, fun _ => ⟨gk, gc, gk + 1, gp, R, rfl, HCL.out, HAB.out⟩, HBD.out⟩
  · have HE : Hid (nsE P pn G = ckE P) := by show _ = _; unfold nsE; rw [if_pos h0]
    have hvn : v = .slice none 0 0 := by
      rcases hce with h1 | h1
      · exact absurd h1.1 h0
      · exact h1.2
    subst hvn
    obtain ⟨c, hc⟩ : ∃ c, c = ckE P := ⟨_, rfl⟩
    rw [← hc] at h0 ⊢
    have HC : Hid (c = ckE P) := hc
    have hcz : (c != (0 : Int)) = true := by simpa using h0
    have H0 : Hid (c ≠ 0) := h0
    clear hc hce h0
    go_wp2
    go_ret2
    exact ⟨_, by rw [HE.out, ← HC.out]; rfl, fun h => absurd (by rw [HC.out, ← HE.out]; exact h) H0.out, bstepB HB1.out (bstepB HY.out (belowB y _))⟩
end Go.Proofs.YtcoiapgfaibkgaaGreat

namespace Go.Proofs.YtcoiapgfaibkgaaGreat
set_option linter.unusedVariables false
open Go.RowKit
set_option maxRecDepth 100000 in
set_option maxHeartbeats 800000 in
theorem noPtS (cb : Nat) (po : Option Addr) (n pc : Nat) (x : Int) (w : World) (hc : w.cell? ⟨cb, 0, none⟩ = some (.slice po n pc)) : Calls Tryz.prog 60 #[.int .i64 x, .pointer (some ⟨cb, 0, none⟩)] w fun e w' => e = .returned (.bool (noPt (n : Int) x)) ∧ w' = w := by
  by_cases h : x < 0
  · have hr : noPt (n : Int) x = true := by simp [noPt, h]
    rw [hr]
    clear hr
    go_enter Tryz.func60, Tryz.ntmps60
    go_wp2
    go_ret
    exact ⟨rfl, rfl⟩
  · have hr : noPt (n : Int) x = decide ((n : Int) ≤ x) := by simp [noPt, h]
    rw [hr]
    clear hr
    go_enter Tryz.func60, Tryz.ntmps60
    go_wp2
    go_ret
    exact ⟨rfl, rfl⟩
set_option maxRecDepth 100000 in
set_option maxHeartbeats 1600000 in
theorem indexFSp (cb : Nat) (po : Option Addr) (m pc : Nat) (v : Value) (zs : List Int) (w : World) (hv : RG (Value.int .i64) w v zs) (hcb : w.cell? ⟨cb, 0, none⟩ = some (.slice po m pc)) :
    Calls Tryz.prog 93 #[v, .func (.func 60) #[] #[.pointer (some ⟨cb, 0, none⟩)]] w fun e w' => ∃ r, e = .returned (.int .i64 r) ∧ Found r (noPts (m : Int) zs) ∧ ∃ q, w' = w.drewN q := by
  obtain ⟨ao, cap, rfl, hc, hm, hnil, hcell⟩ := hv
  clear hnil
  unfold maxLen at hm
  obtain ⟨n, hn⟩ : ∃ n, zs.length = n := ⟨_, rfl⟩
  rw [hn] at hc ⊢
  have HN : Hid (zs.length = n) := hn
  have HC : Hid (∀ i x, zs[i]? = some x → ∃ g o, ao = some ⟨g, o, none⟩ ∧ w.cell? ⟨g, o + i, none⟩ = some (Value.int .i64 x)) := hcell
  clear hn hcell
  go_enter Tryz.func93, Tryz.ntmps93
  go_wp2
  go_loopw [8] (fun t wr => ∃ k : Nat, k ≤ n ∧ t = .int .i64 k ∧ noPts (m : Int) (zs.take k) = false ∧ ∃ q, wr = w.drewN q) (fun t _ => n - (intOf t).toNat)
  case atStart => exact ⟨0, Nat.zero_le _, rfl, rfl, 0, rfl⟩
  case round =>
    obtain ⟨k, hk, rfl, hno, q, rfl⟩ := hrel
    by_cases hkn : k < n
    · obtain ⟨x, hx0⟩ : ∃ x, zs[k]? = some x := ⟨_, List.getElem?_eq_getElem (by rw [HN.out]; exact hkn)⟩
      obtain ⟨b, off, rfl, hc0⟩ := HC.out k x hx0
      have hlt : (k : Int) < (n : Int) := by omega
      have hst : noPts (m : Int) (zs.take (k + 1)) = (noPts (m : Int) (zs.take k) || noPt (m : Int) (zs.getD k 0)) := any_take (by rw [HN.out]; exact hkn)
      have hyes : noPt (m : Int) (zs.getD k 0) = true → noPts (m : Int) zs = true := any_at (by rw [HN.out]; exact hkn)
      have e0 : zs.getD k 0 = x := by rw [List.getD_eq_getElem?_getD, hx0]; rfl
      rw [e0] at hst hyes
      rw [hno, Bool.false_or] at hst
      have HS : Hid (noPts (m : Int) (zs.take (k + 1)) = noPt (m : Int) x) := hst
      have HY : Hid (noPt (m : Int) x = true → noPts (m : Int) zs = true) := hyes
      have cq : ∀ q, (w.drewN q).cell? ⟨cb, 0, none⟩ = some (.slice po m pc) := fun q => cell_drewD hcb q
      have HB : Hid (∀ q, Calls Tryz.prog 60 #[.int .i64 x, .pointer (some ⟨cb, 0, none⟩)] (w.drewN q) fun e w' => e = .returned (.bool (noPt (m : Int) x)) ∧ w' = w.drewN q) := fun q => noPtS cb po m pc x (w.drewN q) (cq q)
      clear hst hyes e0 hx0 cq
      by_cases hx : noPt (m : Int) x = true
      · go_wp2_with (go_at_call 60; refine (HB.out _).mono ?_; rintro e w' ⟨rfl, rfl⟩)
        go_ret
        exact ⟨_, rfl, ⟨fun _ => ⟨by omega, by omega⟩, fun h => absurd (HY.out hx) (by rw [h]; exact Bool.false_ne_true)⟩, _, rfl⟩
      · have hx : noPt (m : Int) x = false := by simpa using hx
        go_wp2_with (go_at_call 60; refine (HB.out _).mono ?_; rintro e w' ⟨rfl, rfl⟩)
        go_roundw
        case rel => exact ⟨k + 1, by omega, by go_num, by rw [HS.out]; exact hx, _, rfl⟩
        case measure => simp [intOf]; omega
    · have hge : ¬ (k : Int) < (n : Int) := by omega
      go_wp2
      go_ret
      have hkn' : k = zs.length := by rw [HN.out]; omega
      rw [hkn', List.take_length] at hno
      exact ⟨-1, rfl, ⟨fun h => absurd h (by rw [hno]; exact Bool.false_ne_true), fun _ => rfl⟩, q, rfl⟩
set_option maxHeartbeats 400000 in
theorem containsFSp (cb : Nat) (po : Option Addr) (m pc : Nat) (v : Value) (zs : List Int) (w : World) (hv : RG (Value.int .i64) w v zs) (hcb : w.cell? ⟨cb, 0, none⟩ = some (.slice po m pc)) :
    Calls Tryz.prog 59 #[v, .func (.func 60) #[] #[.pointer (some ⟨cb, 0, none⟩)]] w fun e w' => e = .returned (.bool (noPts (m : Int) zs)) ∧ ∃ q, w' = w.drewN q := by
  have h1 := indexFSp cb po m pc v zs w hv hcb
  obtain ⟨ao, cap, rfl, -⟩ := hv
  go_enter Tryz.func59, Tryz.ntmps59
  go_wp2_with (go_at_call 93; refine h1.mono ?_; rintro e w' ⟨r, rfl, hf, q, rfl⟩)
  go_ret
  exact ⟨by rw [← hf.dec]; rfl, q, rfl⟩
set_option maxRecDepth 100000 in
set_option maxHeartbeats 800000 in
theorem arePointsS (po : Option Addr) (m pc : Nat) (v : Value) (zs : List Int) (w : World) (hv : RG (Value.int .i64) w v zs) :
    Calls Tryz.prog 37 #[.slice po m pc, v] w fun e w' => e = .returned (.bool (!noPts (m : Int) zs)) ∧ Below w.heap.size w w' := by
  obtain ⟨W1, hW1⟩ : ∃ W1, W1 = w.alloc (.cells #[.slice po m pc] 22) := ⟨_, rfl⟩
  obtain ⟨g, hg⟩ : ∃ g, g = w.heap.size := ⟨_, rfl⟩
  have b0 : Below w.heap.size w W1 := by rw [hW1]; exact belowB w _
  have hcb : W1.cell? ⟨g, 0, none⟩ = some (.slice po m pc) := by rw [hW1, hg, World.cell?_alloc_at _ _ _ _ rfl]; rfl
  have C : Hid _ := containsFSp g po m pc v zs W1 (hv.below (Nat.le_refl _) b0) hcb
  have HB : Hid (Below w.heap.size w W1) := b0
  obtain ⟨ao, cap, rfl, -⟩ := hv
  have HW1 : Hid (W1 = w.alloc (.cells #[.slice po m pc] 22)) := hW1
  have HG : Hid (g = w.heap.size) := hg
  clear hW1 hg b0 hcb
  go_enter Tryz.func37, Tryz.ntmps37
  go_upto_region 1 with fail
  rw [← HW1.out, ← HG.out]
  clear HW1
  go_wp2_with fail
  refine Calls.mono C.out ?_
  rintro e y ⟨rfl, q, rfl⟩
  go_wp2
  go_ret
  exact ⟨rfl, below_drewN HB.out q⟩
end Go.Proofs.YtcoiapgfaibkgaaGreat

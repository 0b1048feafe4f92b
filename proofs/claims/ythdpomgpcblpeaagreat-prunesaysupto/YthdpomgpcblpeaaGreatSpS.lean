/-
  Proved here: package sep's steps that may follow on one: the closure that nextSteps makes.
-/
import Derived.Test.YthdpomgpcblpeaaGreatSetCptAll
import Derived.Test.YthdpomgpcblpeaaGreatDagMuAll
import Derived.Test.YthdpomgpcblpeaaGreatSpLAll
namespace Go.Proofs.YthdpomgpcblpeaaGreat
set_option linter.unusedVariables false
open Go.RowKit Go.Shelf Go.Sort Go.Lib
/-- What the closure keeps, in memory. -/
structure ClO (w : World) (gk gc gq gp : Nat) (P : List (List Int)) (n : Nat) (G A : List Int) : Prop where
  kn : ∃ ko kn kc k, w.cell? ⟨gk, 0, none⟩ = some (.slice ko kn kc) ∧ SI w (.slice ko kn kc) (ofR G) k ∧ k ≤ 100000
  op : ∃ ko kn kc k, w.cell? ⟨gq, 0, none⟩ = some (.slice ko kn kc) ∧ SI w (.slice ko kn kc) (ofR A) k ∧ k ≤ 100000
  ch : ∃ g cvs, w.cell? ⟨gc, 0, none⟩ = some (.slice (some ⟨g, 0, none⟩) n n) ∧ OG id 0 23 w (.slice (some ⟨g, 0, none⟩) n n) cvs ∧ ∀ (j : Nat) (v : Value), cvs[j]? = some v → RG (Value.int .i64) w v (chF P j n)
  pa : ∃ po pc pvs, w.cell? ⟨gp, 0, none⟩ = some (.slice po n pc) ∧ RRD w (.slice po n pc) pvs P
theorem ClO.below {w W : World} {gk gc gq gp : Nat} {P : List (List Int)} {n : Nat} {G A : List Int} (h : ClO w gk gc gq gp P n G A) (hb : Below w.heap.size w W) : ClO W gk gc gq gp P n G A := by
  obtain ⟨k1, k2, k3, k4, c1, s1, h1⟩ := h.kn
  obtain ⟨o1, o2, o3, o4, c2, s2, h2⟩ := h.op
  obtain ⟨g, cvs, c3, r3, h3⟩ := h.ch
  obtain ⟨po, pc, pvs, c4, r4⟩ := h.pa
  exact ⟨⟨k1, k2, k3, k4, keepR hb c1, s1.below hb, h1⟩, ⟨o1, o2, o3, o4, keepR hb c2, s2.below hb, h2⟩, ⟨g, cvs, keepR hb c3, r3.below hb, fun j v hv => (h3 j v hv).below (Nat.le_refl _) hb⟩, ⟨po, pc, pvs, keepR hb c4, r4.below (Nat.le_refl _) hb⟩⟩
/-- The steps that may follow on one, as they are laid end to end. -/
def rawS (P : List (List Int)) (n : Nat) (G A : List Int) (s : Stp) : List Stp :=
  (if s.1 ∈ G then [] else stepsTo (chF P s.1.toNat n) true) ++ (if (s.2 = true ∧ s.1 ∈ A) ∨ (s.2 = false ∧ s.1 ∉ G) then stepsTo (P.getD s.1.toNat []) false else [])
def nxS (P : List (List Int)) (n : Nat) (G A : List Int) (s : Stp) : List Stp := srtP (rawS P n G A s)
set_option maxRecDepth 1000000 in
set_option maxHeartbeats 12800000 in
theorem nextS (w : World) (gk gc gq gp : Nat) (P : List (List Int)) (n : Nat) (G A : List Int) (h : ClO w gk gc gq gp P n G A) (hn : P.length = n) (hb : n ≤ 100000) (hbl : ∀ i, (P.getD i []).length ≤ n) (p : Nat) (hp : p < n) (d : Bool)
    (hdis : (rawS P n G A ((p : Int), d)).Pairwise (fun a b => a.1 ≠ b.1)) :
    Calls Tryz.prog 68 #[.agg #[.int .i64 (p : Int), .bool d], .pointer (some ⟨gk, 0, none⟩), .pointer (some ⟨gc, 0, none⟩), .pointer (some ⟨gq, 0, none⟩), .pointer (some ⟨gp, 0, none⟩)] w fun e w' => ∃ u, e = .returned u ∧ OS w.heap.size w' u (nxS P n G A ((p : Int), d)) ∧ Below w.heap.size w w' := by
  obtain ⟨kO, kN, kC, kk, ck0, sk0, hk0⟩ := h.kn
  obtain ⟨qO, qN, qC, qk, cq0, sq0, hq0⟩ := h.op
  obtain ⟨g, cvs, cc0, rc0, hc0⟩ := h.ch
  obtain ⟨po, pc, pvs, cp0, rp0⟩ := h.pa
  obtain ⟨cv, hcv⟩ : ∃ v, cvs[p]? = some v := ⟨_, List.getElem?_eq_getElem (by rw [rc0.rg.len]; exact hp)⟩
  have hcr := hc0 p cv hcv
  have hcc := (rc0.cell hcv).1
  obtain ⟨cO, cN, cC, rfl⟩ : ∃ o n c, cv = .slice o n c := by obtain ⟨ao, cap, e⟩ := hcr.sl; exact ⟨_, _, _, e⟩
  change w.cell? ⟨g, p, none⟩ = some (.slice cO cN cC) at hcc
  obtain ⟨xv, gx, ox, hx1, hpo, hx2⟩ := rp0.out.at hp
  subst hpo
  have hxr := rp0.inn p xv hx1
  obtain ⟨xO, xN, xC, rfl⟩ : ∃ o n c, xv = .slice o n c := by obtain ⟨ao, cap, e⟩ := hxr.sl; exact ⟨_, _, _, e⟩
  change w.cell? ⟨gx, ox + p, none⟩ = some (.slice xO xN xC) at hx2
  have HK : Hid (∀ W, Below w.heap.size w W → W.cell? ⟨gk, 0, none⟩ = some (.slice kO kN kC)) := fun W hW => keepR hW ck0
  have HQ : Hid (∀ W, Below w.heap.size w W → W.cell? ⟨gq, 0, none⟩ = some (.slice qO qN qC)) := fun W hW => keepR hW cq0
  have HC : Hid (∀ W, Below w.heap.size w W → W.cell? ⟨gc, 0, none⟩ = some (.slice (some ⟨g, 0, none⟩) n n)) := fun W hW => keepR hW cc0
  have HC2 : Hid (∀ W, Below w.heap.size w W → W.cell? ⟨g, p, none⟩ = some (.slice cO cN cC)) := fun W hW => keepR hW hcc
  have HP : Hid (∀ W, Below w.heap.size w W → W.cell? ⟨gp, 0, none⟩ = some (.slice (some ⟨gx, ox, none⟩) n pc)) := fun W hW => keepR hW cp0
  have HP2 : Hid (∀ W, Below w.heap.size w W → W.cell? ⟨gx, ox + p, none⟩ = some (.slice xO xN xC)) := fun W hW => keepR hW hx2
  have HSK : Hid (∀ W, Below w.heap.size w W → SI W (.slice kO kN kC) (ofR G) kk) := fun W hW => sk0.below hW
  have HSQ : Hid (∀ W, Below w.heap.size w W → SI W (.slice qO qN qC) (ofR A) qk) := fun W hW => sq0.below hW
  have HCR : Hid (∀ W, Below w.heap.size w W → RG (Value.int .i64) W (.slice cO cN cC) (chF P p n)) := fun W hW => hcr.below (Nat.le_refl _) hW
  have HXR : Hid (∀ W, Below w.heap.size w W → RG (Value.int .i64) W (.slice xO xN xC) (P.getD p [])) := fun W hW => hxr.below (Nat.le_refl _) hW
  have HLC : Hid ((chF P p n).length ≤ 100000) := Nat.le_trans (chF_len P p n) hb
  have HLX : Hid ((P.getD p []).length ≤ 100000) := Nat.le_trans (hbl p) hb
  have HDIS : Hid ((rawS P n G A ((p : Int), d)).Pairwise (fun a b => a.1 ≠ b.1)) := hdis
  obtain ⟨w1, hw1⟩ : ∃ W, W = w.alloc (.cells #[.int .i64 (p : Int), .bool d] 84) := ⟨_, rfl⟩
  obtain ⟨gs, hgs⟩ : ∃ g, g = w.heap.size := ⟨_, rfl⟩
  have b1 : Below w.heap.size w w1 := by rw [hw1]; exact belowB _ _
  have kS : w1.heap[gs]? = some (.cells #[.int .i64 (p : Int), .bool d] 84 (0, 0)) := by rw [hw1, hgs]; exact heap_alloc_new w _
  have HS0 : Hid (∀ W, Below w1.heap.size w1 W → W.cell? ⟨gs, 0, none⟩ = some (.int .i64 (p : Int))) := fun W hW => keepR hW (cell_of_row w1 gs 0 _ _ _ kS)
  have HS1 : Hid (∀ W, Below w1.heap.size w1 W → W.cell? ⟨gs, 1, none⟩ = some (.bool d)) := fun W hW => keepR hW (cell_of_row w1 gs 1 _ _ _ kS)
  have HB1 : Hid (Below w.heap.size w w1) := b1
  have HW1 : Hid (w1 = w.alloc (.cells #[.int .i64 (p : Int), .bool d] 84)) := hw1
  have HG1 : Hid (gs = w.heap.size) := hgs
  have hpz : (p : Int) < (n : Int) := by omega
  obtain ⟨b, hbe⟩ : ∃ b, decide ((p : Int) ∈ ofR G) = b := ⟨_, rfl⟩
  obtain ⟨q, hqe⟩ : ∃ q, decide ((p : Int) ∈ ofR A) = q := ⟨_, rfl⟩
  have hG : ((p : Int) ∈ G) ↔ b = true := by rw [← hbe, decide_eq_true_iff, mem_ofR]
  have hA : ((p : Int) ∈ A) ↔ q = true := by rw [← hqe, decide_eq_true_iff, mem_ofR]
  have HCH : Hid (∀ W, Below w.heap.size w W → Calls Tryz.prog 69 #[.agg #[.slice kO kN kC], .int .i64 (p : Int)] W fun e w' => e = .returned (.bool b) ∧ Below W.heap.size W w') := fun W hW => siHas (HSK.out W hW) (p : Int) hk0 b hbe
  have HCQ : Hid (∀ W, Below w.heap.size w W → Calls Tryz.prog 69 #[.agg #[.slice qO qN qC], .int .i64 (p : Int)] W fun e w' => e = .returned (.bool q) ∧ Below W.heap.size W w') := fun W hW => siHas (HSQ.out W hW) (p : Int) hq0 q hqe
  have HRAW : Hid (rawS P n G A ((p : Int), d) = (if b = true then [] else stepsTo (chF P p n) true) ++ (if (d = true ∧ q = true) ∨ (d = false ∧ b = false) then stepsTo (P.getD p []) false else [])) := by
    show _ = _
    unfold rawS
    simp only [hG, hA, Int.toNat_natCast, Bool.not_eq_true]
  have HBU : Hid (∀ W, Below w1.heap.size w1 W → Below w.heap.size w W) := fun W hW => bstepB b1 hW
  clear h ck0 sk0 hk0 cq0 sq0 hq0 cc0 rc0 hc0 cp0 rp0 hcv hcr hcc hx1 hx2 hxr hdis hw1 hgs b1 kS hG hA hbe hqe
  go_enter Tryz.func68, Tryz.ntmps68
  go_upto_region 1 with fail
  rw [← HW1.out, ← HG1.out]
  clear HW1 HG1
  cases b with
  | true =>
    cases d with
    | true =>
      cases q with
      | true =>
        have fk := HK.out w1 HB1.out
        have f0 := HS0.out w1 (Below.refl _ _)
        have CX : Hid _ := HCH.out w1 HB1.out
        go_wp2_with fail
        refine Calls.mono CX.out ?_
        rintro e y1 ⟨rfl, by1⟩
        have HY1 : Hid (Below w1.heap.size w1 y1) := by1
        have HZ1 : Hid (Below y1.heap.size y1 y1) := Below.refl _ _
        clear CX by1 fk f0
        have fq := HQ.out y1 (HBU.out y1 HY1.out)
        have f0 := HS0.out y1 HY1.out
        have f1 := HS1.out y1 HY1.out
        have CX : Hid _ := HCQ.out y1 (HBU.out y1 HY1.out)
        go_wp2_with fail
        refine Calls.mono CX.out ?_
        rintro e y2 ⟨rfl, by2⟩
        have HZ2 : Hid (Below y1.heap.size y1 y2) := HZ1.out.trans (by2.mono HZ1.out.size)
        have HY2 : Hid (Below w1.heap.size w1 y2) := bstepB HY1.out HZ2.out
        clear CX by2 fq f0 f1
        have fp := HP.out y2 (HBU.out y2 HY2.out)
        have fp2 := HP2.out y2 (HBU.out y2 HY2.out)
        have f0 := HS0.out y2 HY2.out
        have CX : Hid _ := withStepsS y1.heap.size y2 (.slice none 0 0) _ [] (P.getD p []) false (OS.nil _ _) HZ2.out.size (fun W hW => HXR.out W (HBU.out W (bstepB HY1.out (HZ2.out.trans hW)))) (by have := HLC.out; have := HLX.out; first | (simp; done) | (rw [stepsTo_len]; omega)) (by have := HLX.out; omega)
        go_wp2_with fail
        refine Calls.mono CX.out ?_
        rintro e y3 ⟨u3, rfl, hu3, by3⟩
        obtain ⟨o3, c3, rfl, -⟩ := hu3.sl
        obtain ⟨n3, hn3⟩ : ∃ m, m = ([] ++ stepsTo (P.getD p []) false).length := ⟨_, rfl⟩
        rw [← hn3] at hu3 ⊢
        have HU3 : Hid (OS y1.heap.size y3 (.slice o3 n3 c3) (stepsTo (P.getD p []) false)) := hu3
        have HZ3 : Hid (Below y1.heap.size y1 y3) := HZ2.out.trans by3
        have HY3 : Hid (Below w1.heap.size w1 y3) := bstepB HY1.out HZ3.out
        clear CX hu3 hn3 by3 fp fp2 f0
        have hraw : rawS P n G A ((p : Int), true) = (stepsTo (P.getD p []) false) := by rw [HRAW.out]; simp
        have HDS : Hid ((stepsTo (P.getD p []) false).Pairwise (fun a b : Stp => a.1 ≠ b.1)) := by have h := HDIS.out; rw [hraw] at h; exact h
        have HNX : Hid (nxS P n G A ((p : Int), true) = srtP (stepsTo (P.getD p []) false)) := by show _ = _; unfold nxS; rw [hraw]
        clear hraw
        have CX : Hid _ := sortStS y1.heap.size y3 (.slice o3 n3 c3) (stepsTo (P.getD p []) false) HU3.out HDS.out (by have := HLC.out; have := HLX.out; first | (simp; done) | (rw [stepsTo_len]; omega) | (rw [List.length_append, stepsTo_len, stepsTo_len]; omega))
        go_wp2_with fail
        refine Calls.mono CX.out ?_
        rintro e y4 ⟨rfl, hu4, by4⟩
        have HU4 : Hid (OS w.heap.size y4 (.slice o3 n3 c3) (nxS P n G A ((p : Int), true))) := by show OS _ _ _ _; rw [HNX.out]; exact hu4.mono (HBU.out y1 HY1.out).size
        have HW : Hid (Below w.heap.size w y4) := bstepB (HBU.out y1 HY1.out) (HU3.out.grown HZ3.out HZ3.out.size by4)
        clear CX hu4 by4 
        go_wp2
        go_ret
        exact ⟨_, rfl, HU4.out, HW.out⟩
      | false =>
        have fk := HK.out w1 HB1.out
        have f0 := HS0.out w1 (Below.refl _ _)
        have CX : Hid _ := HCH.out w1 HB1.out
        go_wp2_with fail
        refine Calls.mono CX.out ?_
        rintro e y1 ⟨rfl, by1⟩
        have HY1 : Hid (Below w1.heap.size w1 y1) := by1
        have HZ1 : Hid (Below y1.heap.size y1 y1) := Below.refl _ _
        clear CX by1 fk f0
        have fq := HQ.out y1 (HBU.out y1 HY1.out)
        have f0 := HS0.out y1 HY1.out
        have f1 := HS1.out y1 HY1.out
        have CX : Hid _ := HCQ.out y1 (HBU.out y1 HY1.out)
        go_wp2_with fail
        refine Calls.mono CX.out ?_
        rintro e y2 ⟨rfl, by2⟩
        have HZ2 : Hid (Below y1.heap.size y1 y2) := HZ1.out.trans (by2.mono HZ1.out.size)
        have HY2 : Hid (Below w1.heap.size w1 y2) := bstepB HY1.out HZ2.out
        clear CX by2 fq f0 f1
        have hraw : rawS P n G A ((p : Int), true) = [] := by rw [HRAW.out]; simp
        have HDS : Hid ([].Pairwise (fun a b : Stp => a.1 ≠ b.1)) := by have h := HDIS.out; rw [hraw] at h; exact h
        have HNX : Hid (nxS P n G A ((p : Int), true) = srtP []) := by show _ = _; unfold nxS; rw [hraw]
        clear hraw
        have f0 := HS0.out y2 HY2.out
        have f1 := HS1.out y2 HY2.out
        have CX : Hid _ := sortStS y1.heap.size y2 (.slice none 0 0) [] (OS.nil _ _) HDS.out (by have := HLC.out; have := HLX.out; first | (simp; done) | (rw [stepsTo_len]; omega) | (rw [List.length_append, stepsTo_len, stepsTo_len]; omega))
        go_wp2_with fail
        refine Calls.mono CX.out ?_
        rintro e y3 ⟨rfl, hu3, by3⟩
        have HU3 : Hid (OS w.heap.size y3 (.slice none 0 0) (nxS P n G A ((p : Int), true))) := by show OS _ _ _ _; rw [HNX.out]; exact hu3.mono (HBU.out y1 HY1.out).size
        have HW : Hid (Below w.heap.size w y3) := bstepB (HBU.out y1 HY1.out) ((OS.nil y1.heap.size y2).grown HZ2.out HZ2.out.size by3)
        clear CX hu3 by3 f0 f1
        go_wp2
        go_ret
        exact ⟨_, rfl, HU3.out, HW.out⟩
    | false =>
      have fk := HK.out w1 HB1.out
      have f0 := HS0.out w1 (Below.refl _ _)
      have CX : Hid _ := HCH.out w1 HB1.out
      go_wp2_with fail
      refine Calls.mono CX.out ?_
      rintro e y1 ⟨rfl, by1⟩
      have HY1 : Hid (Below w1.heap.size w1 y1) := by1
      have HZ1 : Hid (Below y1.heap.size y1 y1) := Below.refl _ _
      clear CX by1 fk f0
      have hraw : rawS P n G A ((p : Int), false) = [] := by rw [HRAW.out]; simp
      have HDS : Hid ([].Pairwise (fun a b : Stp => a.1 ≠ b.1)) := by have h := HDIS.out; rw [hraw] at h; exact h
      have HNX : Hid (nxS P n G A ((p : Int), false) = srtP []) := by show _ = _; unfold nxS; rw [hraw]
      clear hraw
      have f0 := HS0.out y1 HY1.out
      have f1 := HS1.out y1 HY1.out
      have CX : Hid _ := sortStS y1.heap.size y1 (.slice none 0 0) [] (OS.nil _ _) HDS.out (by have := HLC.out; have := HLX.out; first | (simp; done) | (rw [stepsTo_len]; omega) | (rw [List.length_append, stepsTo_len, stepsTo_len]; omega))
      go_wp2_with fail
      refine Calls.mono CX.out ?_
      rintro e y2 ⟨rfl, hu2, by2⟩
      have HU2 : Hid (OS w.heap.size y2 (.slice none 0 0) (nxS P n G A ((p : Int), false))) := by show OS _ _ _ _; rw [HNX.out]; exact hu2.mono (HBU.out y1 HY1.out).size
      have HW : Hid (Below w.heap.size w y2) := bstepB (HBU.out y1 HY1.out) ((OS.nil y1.heap.size y1).grown HZ1.out HZ1.out.size by2)
      clear CX hu2 by2 f0 f1
      go_wp2
      go_ret
      exact ⟨_, rfl, HU2.out, HW.out⟩
  | false =>
    cases d with
    | true =>
      cases q with
      | true =>
        have fk := HK.out w1 HB1.out
        have f0 := HS0.out w1 (Below.refl _ _)
        have CX : Hid _ := HCH.out w1 HB1.out
        go_wp2_with fail
        refine Calls.mono CX.out ?_
        rintro e y1 ⟨rfl, by1⟩
        have HY1 : Hid (Below w1.heap.size w1 y1) := by1
        have HZ1 : Hid (Below y1.heap.size y1 y1) := Below.refl _ _
        clear CX by1 fk f0
        have fc := HC.out y1 (HBU.out y1 HY1.out)
        have fc2 := HC2.out y1 (HBU.out y1 HY1.out)
        have f0 := HS0.out y1 HY1.out
        have CX : Hid _ := withStepsS y1.heap.size y1 (.slice none 0 0) _ [] (chF P p n) true (OS.nil _ _) HZ1.out.size (fun W hW => HCR.out W (HBU.out W (bstepB HY1.out (HZ1.out.trans hW)))) (by have := HLC.out; have := HLX.out; first | (simp; done) | (rw [stepsTo_len]; omega)) (by have := HLC.out; omega)
        go_wp2_with fail
        refine Calls.mono CX.out ?_
        rintro e y2 ⟨u2, rfl, hu2, by2⟩
        obtain ⟨o2, c2, rfl, -⟩ := hu2.sl
        obtain ⟨n2, hn2⟩ : ∃ m, m = ([] ++ stepsTo (chF P p n) true).length := ⟨_, rfl⟩
        rw [← hn2] at hu2 ⊢
        have HU2 : Hid (OS y1.heap.size y2 (.slice o2 n2 c2) (stepsTo (chF P p n) true)) := hu2
        have HZ2 : Hid (Below y1.heap.size y1 y2) := HZ1.out.trans by2
        have HY2 : Hid (Below w1.heap.size w1 y2) := bstepB HY1.out HZ2.out
        clear CX hu2 hn2 by2 fc fc2 f0
        have fq := HQ.out y2 (HBU.out y2 HY2.out)
        have f0 := HS0.out y2 HY2.out
        have f1 := HS1.out y2 HY2.out
        have CX : Hid _ := HCQ.out y2 (HBU.out y2 HY2.out)
        go_wp2_with fail
        refine Calls.mono CX.out ?_
        rintro e y3 ⟨rfl, by3⟩
        have HU3 : Hid (OS y1.heap.size y3 (.slice o2 n2 c2) (stepsTo (chF P p n) true)) := HU2.out.below by3
        have HZ3 : Hid (Below y1.heap.size y1 y3) := HZ2.out.trans (by3.mono HZ2.out.size)
        have HY3 : Hid (Below w1.heap.size w1 y3) := bstepB HY1.out HZ3.out
        clear CX by3 fq f0 f1
        have fp := HP.out y3 (HBU.out y3 HY3.out)
        have fp2 := HP2.out y3 (HBU.out y3 HY3.out)
        have f0 := HS0.out y3 HY3.out
        have CX : Hid _ := withStepsS y1.heap.size y3 (.slice o2 n2 c2) _ (stepsTo (chF P p n) true) (P.getD p []) false HU3.out HZ3.out.size (fun W hW => HXR.out W (HBU.out W (bstepB HY1.out (HZ3.out.trans hW)))) (by have := HLC.out; have := HLX.out; first | (simp; done) | (rw [stepsTo_len]; omega)) (by have := HLX.out; omega)
        go_wp2_with fail
        refine Calls.mono CX.out ?_
        rintro e y4 ⟨u4, rfl, hu4, by4⟩
        obtain ⟨o4, c4, rfl, -⟩ := hu4.sl
        obtain ⟨n4, hn4⟩ : ∃ m, m = ((stepsTo (chF P p n) true) ++ stepsTo (P.getD p []) false).length := ⟨_, rfl⟩
        rw [← hn4] at hu4 ⊢
        have HU4 : Hid (OS y1.heap.size y4 (.slice o4 n4 c4) ((stepsTo (chF P p n) true) ++ stepsTo (P.getD p []) false)) := hu4
        have HZ4 : Hid (Below y1.heap.size y1 y4) := HZ3.out.trans by4
        have HY4 : Hid (Below w1.heap.size w1 y4) := bstepB HY1.out HZ4.out
        clear CX hu4 hn4 by4 fp fp2 f0
        have hraw : rawS P n G A ((p : Int), true) = ((stepsTo (chF P p n) true) ++ stepsTo (P.getD p []) false) := by rw [HRAW.out]; simp
        have HDS : Hid (((stepsTo (chF P p n) true) ++ stepsTo (P.getD p []) false).Pairwise (fun a b : Stp => a.1 ≠ b.1)) := by have h := HDIS.out; rw [hraw] at h; exact h
        have HNX : Hid (nxS P n G A ((p : Int), true) = srtP ((stepsTo (chF P p n) true) ++ stepsTo (P.getD p []) false)) := by show _ = _; unfold nxS; rw [hraw]
        clear hraw
        have CX : Hid _ := sortStS y1.heap.size y4 (.slice o4 n4 c4) ((stepsTo (chF P p n) true) ++ stepsTo (P.getD p []) false) HU4.out HDS.out (by have := HLC.out; have := HLX.out; first | (simp; done) | (rw [stepsTo_len]; omega) | (rw [List.length_append, stepsTo_len, stepsTo_len]; omega))
        go_wp2_with fail
        refine Calls.mono CX.out ?_
        rintro e y5 ⟨rfl, hu5, by5⟩
        have HU5 : Hid (OS w.heap.size y5 (.slice o4 n4 c4) (nxS P n G A ((p : Int), true))) := by show OS _ _ _ _; rw [HNX.out]; exact hu5.mono (HBU.out y1 HY1.out).size
        have HW : Hid (Below w.heap.size w y5) := bstepB (HBU.out y1 HY1.out) (HU4.out.grown HZ4.out HZ4.out.size by5)
        clear CX hu5 by5 
        go_wp2
        go_ret
        exact ⟨_, rfl, HU5.out, HW.out⟩
      | false =>
        have fk := HK.out w1 HB1.out
        have f0 := HS0.out w1 (Below.refl _ _)
        have CX : Hid _ := HCH.out w1 HB1.out
        go_wp2_with fail
        refine Calls.mono CX.out ?_
        rintro e y1 ⟨rfl, by1⟩
        have HY1 : Hid (Below w1.heap.size w1 y1) := by1
        have HZ1 : Hid (Below y1.heap.size y1 y1) := Below.refl _ _
        clear CX by1 fk f0
        have fc := HC.out y1 (HBU.out y1 HY1.out)
        have fc2 := HC2.out y1 (HBU.out y1 HY1.out)
        have f0 := HS0.out y1 HY1.out
        have CX : Hid _ := withStepsS y1.heap.size y1 (.slice none 0 0) _ [] (chF P p n) true (OS.nil _ _) HZ1.out.size (fun W hW => HCR.out W (HBU.out W (bstepB HY1.out (HZ1.out.trans hW)))) (by have := HLC.out; have := HLX.out; first | (simp; done) | (rw [stepsTo_len]; omega)) (by have := HLC.out; omega)
        go_wp2_with fail
        refine Calls.mono CX.out ?_
        rintro e y2 ⟨u2, rfl, hu2, by2⟩
        obtain ⟨o2, c2, rfl, -⟩ := hu2.sl
        obtain ⟨n2, hn2⟩ : ∃ m, m = ([] ++ stepsTo (chF P p n) true).length := ⟨_, rfl⟩
        rw [← hn2] at hu2 ⊢
        have HU2 : Hid (OS y1.heap.size y2 (.slice o2 n2 c2) (stepsTo (chF P p n) true)) := hu2
        have HZ2 : Hid (Below y1.heap.size y1 y2) := HZ1.out.trans by2
        have HY2 : Hid (Below w1.heap.size w1 y2) := bstepB HY1.out HZ2.out
        clear CX hu2 hn2 by2 fc fc2 f0
        have fq := HQ.out y2 (HBU.out y2 HY2.out)
        have f0 := HS0.out y2 HY2.out
        have f1 := HS1.out y2 HY2.out
        have CX : Hid _ := HCQ.out y2 (HBU.out y2 HY2.out)
        go_wp2_with fail
        refine Calls.mono CX.out ?_
        rintro e y3 ⟨rfl, by3⟩
        have HU3 : Hid (OS y1.heap.size y3 (.slice o2 n2 c2) (stepsTo (chF P p n) true)) := HU2.out.below by3
        have HZ3 : Hid (Below y1.heap.size y1 y3) := HZ2.out.trans (by3.mono HZ2.out.size)
        have HY3 : Hid (Below w1.heap.size w1 y3) := bstepB HY1.out HZ3.out
        clear CX by3 fq f0 f1
        have hraw : rawS P n G A ((p : Int), true) = (stepsTo (chF P p n) true) := by rw [HRAW.out]; simp
        have HDS : Hid ((stepsTo (chF P p n) true).Pairwise (fun a b : Stp => a.1 ≠ b.1)) := by have h := HDIS.out; rw [hraw] at h; exact h
        have HNX : Hid (nxS P n G A ((p : Int), true) = srtP (stepsTo (chF P p n) true)) := by show _ = _; unfold nxS; rw [hraw]
        clear hraw
        have f0 := HS0.out y3 HY3.out
        have f1 := HS1.out y3 HY3.out
        have CX : Hid _ := sortStS y1.heap.size y3 (.slice o2 n2 c2) (stepsTo (chF P p n) true) HU3.out HDS.out (by have := HLC.out; have := HLX.out; first | (simp; done) | (rw [stepsTo_len]; omega) | (rw [List.length_append, stepsTo_len, stepsTo_len]; omega))
        go_wp2_with fail
        refine Calls.mono CX.out ?_
        rintro e y4 ⟨rfl, hu4, by4⟩
        have HU4 : Hid (OS w.heap.size y4 (.slice o2 n2 c2) (nxS P n G A ((p : Int), true))) := by show OS _ _ _ _; rw [HNX.out]; exact hu4.mono (HBU.out y1 HY1.out).size
        have HW : Hid (Below w.heap.size w y4) := bstepB (HBU.out y1 HY1.out) (HU3.out.grown HZ3.out HZ3.out.size by4)
        clear CX hu4 by4 f0 f1
        go_wp2
        go_ret
        exact ⟨_, rfl, HU4.out, HW.out⟩
    | false =>
      have fk := HK.out w1 HB1.out
      have f0 := HS0.out w1 (Below.refl _ _)
      have CX : Hid _ := HCH.out w1 HB1.out
      go_wp2_with fail
      refine Calls.mono CX.out ?_
      rintro e y1 ⟨rfl, by1⟩
      have HY1 : Hid (Below w1.heap.size w1 y1) := by1
      have HZ1 : Hid (Below y1.heap.size y1 y1) := Below.refl _ _
      clear CX by1 fk f0
      have fc := HC.out y1 (HBU.out y1 HY1.out)
      have fc2 := HC2.out y1 (HBU.out y1 HY1.out)
      have f0 := HS0.out y1 HY1.out
      have CX : Hid _ := withStepsS y1.heap.size y1 (.slice none 0 0) _ [] (chF P p n) true (OS.nil _ _) HZ1.out.size (fun W hW => HCR.out W (HBU.out W (bstepB HY1.out (HZ1.out.trans hW)))) (by have := HLC.out; have := HLX.out; first | (simp; done) | (rw [stepsTo_len]; omega)) (by have := HLC.out; omega)
      go_wp2_with fail
      refine Calls.mono CX.out ?_
      rintro e y2 ⟨u2, rfl, hu2, by2⟩
      obtain ⟨o2, c2, rfl, -⟩ := hu2.sl
      obtain ⟨n2, hn2⟩ : ∃ m, m = ([] ++ stepsTo (chF P p n) true).length := ⟨_, rfl⟩
      rw [← hn2] at hu2 ⊢
      have HU2 : Hid (OS y1.heap.size y2 (.slice o2 n2 c2) (stepsTo (chF P p n) true)) := hu2
      have HZ2 : Hid (Below y1.heap.size y1 y2) := HZ1.out.trans by2
      have HY2 : Hid (Below w1.heap.size w1 y2) := bstepB HY1.out HZ2.out
      clear CX hu2 hn2 by2 fc fc2 f0
      have fp := HP.out y2 (HBU.out y2 HY2.out)
      have fp2 := HP2.out y2 (HBU.out y2 HY2.out)
      have f0 := HS0.out y2 HY2.out
      have f1 := HS1.out y2 HY2.out
      have CX : Hid _ := withStepsS y1.heap.size y2 (.slice o2 n2 c2) _ (stepsTo (chF P p n) true) (P.getD p []) false HU2.out HZ2.out.size (fun W hW => HXR.out W (HBU.out W (bstepB HY1.out (HZ2.out.trans hW)))) (by have := HLC.out; have := HLX.out; first | (simp; done) | (rw [stepsTo_len]; omega)) (by have := HLX.out; omega)
      go_wp2_with fail
      refine Calls.mono CX.out ?_
      rintro e y3 ⟨u3, rfl, hu3, by3⟩
      obtain ⟨o3, c3, rfl, -⟩ := hu3.sl
      obtain ⟨n3, hn3⟩ : ∃ m, m = ((stepsTo (chF P p n) true) ++ stepsTo (P.getD p []) false).length := ⟨_, rfl⟩
      rw [← hn3] at hu3 ⊢
      have HU3 : Hid (OS y1.heap.size y3 (.slice o3 n3 c3) ((stepsTo (chF P p n) true) ++ stepsTo (P.getD p []) false)) := hu3
      have HZ3 : Hid (Below y1.heap.size y1 y3) := HZ2.out.trans by3
      have HY3 : Hid (Below w1.heap.size w1 y3) := bstepB HY1.out HZ3.out
      clear CX hu3 hn3 by3 fp fp2 f0 f1
      have hraw : rawS P n G A ((p : Int), false) = ((stepsTo (chF P p n) true) ++ stepsTo (P.getD p []) false) := by rw [HRAW.out]; simp
      have HDS : Hid (((stepsTo (chF P p n) true) ++ stepsTo (P.getD p []) false).Pairwise (fun a b : Stp => a.1 ≠ b.1)) := by have h := HDIS.out; rw [hraw] at h; exact h
      have HNX : Hid (nxS P n G A ((p : Int), false) = srtP ((stepsTo (chF P p n) true) ++ stepsTo (P.getD p []) false)) := by show _ = _; unfold nxS; rw [hraw]
      clear hraw
      have CX : Hid _ := sortStS y1.heap.size y3 (.slice o3 n3 c3) ((stepsTo (chF P p n) true) ++ stepsTo (P.getD p []) false) HU3.out HDS.out (by have := HLC.out; have := HLX.out; first | (simp; done) | (rw [stepsTo_len]; omega) | (rw [List.length_append, stepsTo_len, stepsTo_len]; omega))
      go_wp2_with fail
      refine Calls.mono CX.out ?_
      rintro e y4 ⟨rfl, hu4, by4⟩
      have HU4 : Hid (OS w.heap.size y4 (.slice o3 n3 c3) (nxS P n G A ((p : Int), false))) := by show OS _ _ _ _; rw [HNX.out]; exact hu4.mono (HBU.out y1 HY1.out).size
      have HW : Hid (Below w.heap.size w y4) := bstepB (HBU.out y1 HY1.out) (HU3.out.grown HZ3.out HZ3.out.size by4)
      clear CX hu4 by4 
      go_wp2
      go_ret
      exact ⟨_, rfl, HU4.out, HW.out⟩
end Go.Proofs.YthdpomgpcblpeaaGreat

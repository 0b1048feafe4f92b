/-
  Proved here: package dag's restOf: all points are left.
-/
import Derived.Test.YthdpomgpcblpeaaGreatDagKAll
import Derived.Deep.DeepCutAuto
namespace Go.Proofs.YthdpomgpcblpeaaGreat
set_option linter.unusedVariables false
open Go.RowKit
theorem wp_madeD {P : Program} (w : World) {o : Oper} {a : Act} {K : Act → World → Prop} {Q : Exit → Act → World → Prop} (l c : Operand) (t : TypeId) (hop : o.op = Op.makeSlice t l c)
    (e : TypeId) (i : TypeInfo) (z : Value) (h1 : P.underlying t = some (.slice e)) (h2 : P.info? e = some i) (h3 : i.zero = some z) (h4 : i.size = 1) (hzc : z.cells = #[z])
    (kl kc : IntKind) (m : Nat) (hl : a.eval l = .int kl (m : Int)) (hc : a.eval c = .int kc (m : Int)) (b2 : i.bytes * m ≤ 281474976710656) (b3 : m ≤ 9223372036854775807)
    (hK : K (a.put o.dst (.slice (some ⟨w.heap.size, 0, none⟩) m m)) (w.alloc (.cells (Array.replicate m z) e))) : o.wp P a w K Q := by
  have hb' : (i.bytes : Int) * (m : Int) ≤ 281474976710656 := by
    have h : ((i.bytes * m : Nat) : Int) ≤ 281474976710656 := by omega
    rwa [Int.natCast_mul] at h
  have hrun := run_make (P := P) w t e i z h1 h2 h3 kl kc m m (by omega) (Int.le_refl _) hb' (by omega)
  simp only [Int.toNat_natCast, h4, Nat.mul_one, hzc] at hrun
  rw [made_row] at hrun
  unfold Oper.wp
  simp [execOp, hop, hl, hc, hrun, Result.andThen]
  exact hK
theorem Tryz.infoBD : (Tryz.prog.info? 4).map (fun i => (i.zero, i.size, i.bytes)) = some (some (.bool false), 1, 1) := by kernel_rfl
theorem TuC.below {w W W' : World} {g n : Nat} {cvs : List Value} {C : Nat → List Int} (h : TuC w.heap.size w W g n cvs C) (hb : Below W.heap.size W W') : TuC w.heap.size w W' g n cvs C :=
  ⟨h.frm.trans (hb.mono h.frm.size), h.row.below hb, fun j v hv => (h.inn j v hv).below hb, h.apt⟩
/-- The blocks of the children. -/
def ChS (g : Nat) (cvs : List Value) (q : Nat) : Prop := q = g ∨ ∃ (j : Nat) (u : Value), cvs[j]? = some u ∧ u.ownBlock = some q
/-- What is left, at first. -/
theorem RtC.start {w wt U : World} {pv : Value} {g go gw n : Nat} {cvs : List Value} {C : Nat → List Int} (hB : Below w.heap.size w U) (hwt : w.heap.size ≤ wt.heap.size) (hT : TuC wt.heap.size wt U g n cvs C) (hO : OG Value.bool w.heap.size 4 U (.slice (some ⟨go, 0, none⟩) n n) (List.replicate n false)) (hW : OG (Value.int .i64) w.heap.size 3 U (.slice (some ⟨gw, 0, none⟩) n n) (List.replicate n 0)) (hap : ∀ (j : Nat) (u : Value), cvs[j]? = some u → u.ownBlock ≠ some gw) :
    RtC w.heap.size (ChS g cvs) (U.alloc (.cells #[pv, .slice (some ⟨g, 0, none⟩) n n, .slice (some ⟨go, 0, none⟩) n n, .slice (some ⟨gw, 0, none⟩) n n, .slice none 0 0] 105)) U.heap.size pv (.slice none 0 0) g go gw n cvs C (List.replicate n false) (List.replicate n 0) [] := by
  have b := belowB U (.cells #[pv, .slice (some ⟨g, 0, none⟩) n n, .slice (some ⟨go, 0, none⟩) n n, .slice (some ⟨gw, 0, none⟩) n n, .slice none 0 0] 105)
  have hT2 := hT.below b
  have hO2 := hO.below b
  have hW2 := hW.below b
  have hg := hT.row.lt g rfl
  have hgo := hO.lt go rfl
  have hgw := hW.lt gw rfl
  have hsl : ∀ q, ChS g cvs q → q < U.heap.size := fun q hq => by
    rcases hq with e | ⟨j, u, hu, e⟩
    · rw [e]; exact hg.2
    · exact ((hT.inn j u hu).lt q e).2
  refine ⟨⟨by unfold RsC; exact heap_alloc_new _ _, OG.nil _ _ _⟩, hT2.row.rg, fun j u hu => (hT2.inn j u hu).rg, fun j u hu q hq => Or.inr ⟨j, u, hu, hq⟩, Or.inl rfl, fun q hq => by rw [World.size_alloc]; exact Nat.lt_succ_of_lt (hsl q hq), hO2, hW2, ⟨fun e => Nat.lt_irrefl _ (hsl _ e), fun e => ?_, fun e => ?_, fun q hq => by simp [Value.ownBlock] at hq⟩, by simp [Value.ownBlock], hB.size⟩
  · rcases e with e | ⟨j, u, hu, e⟩
    · exact hO.neO hT.row (by decide) (q := g) (by rw [← e]; rfl) rfl
    · exact (hT.inn j u hu).neO hO (by decide) e rfl
  · rcases e with e | ⟨j, u, hu, e⟩
    · exact hW.neO hT.row (by decide) (q := g) (by rw [← e]; rfl) rfl
    · exact hap j u hu e
theorem cnt_nil (P : List (List Int)) (i : Nat) : cntW P [] i = (P.getD i []).length := by
  unfold cntW
  rw [List.countP_eq_length]
  simp
theorem rdy_nil (P : List (List Int)) (i : Nat) : rdy P [] i ↔ (P.getD i []).length = 0 := by
  unfold rdy
  constructor
  · rintro ⟨_, h⟩
    cases hp : P.getD i [] with
    | nil => rfl
    | cons x Q => rw [hp] at h; have := h x (by simp); simp at this
  · intro h
    rw [List.length_eq_zero_iff] at h
    rw [h]; simp
/-- Who waits, while the points are gone through. -/
def WaI (P : List (List Int)) (i : Nat) (Wt : List Int) : Prop := Wt.length = P.length ∧ ∀ j : Nat, j < i → Wt.getD j 0 = ((P.getD j []).length : Int)
theorem WaI.step {P : List (List Int)} {i : Nat} {Wt : List Int} (h : WaI P i Wt) (hi : i < P.length) : WaI P (i + 1) (Wt.set i ((P.getD i []).length : Int)) := by
  refine ⟨by rw [List.length_set]; exact h.1, fun j hj => ?_⟩
  rw [getD_set (by rw [h.1]; exact hi)]
  by_cases e : j = i
  · rw [if_pos e, e]
  · rw [if_neg e]; exact h.2 j (by omega)
theorem WaI.done {P : List (List Int)} {Wt : List Int} (h : WaI P P.length Wt) : WtR P [] [] Wt := ⟨h.1, fun i hi => by rw [h.2 i hi, cnt_nil]; simp⟩
/-- What restOf leaves. -/
def RoE (w : World) (pv : Value) (P : List (List Int)) (n rb : Nat) (w' : World) : Prop := ∃ S v g go gw cvs Ob Wt L, RtC w.heap.size S w' rb pv v g go gw n cvs (fun j => chF P j n) Ob Wt L ∧ ObR n [] Ob ∧ WtR P [] [] Wt ∧ LnOk n L (rdy P []) ∧ Below w.heap.size w w'
set_option maxRecDepth 100000 in
set_option maxHeartbeats 12800000 in
theorem restOfD (pv : Value) (pvs : List Value) (P : List (List Int)) (w : World) (h : RRD w pv pvs P) (hP : ∀ (i : Nat) (x : Int), x ∈ P.getD i [] → ∃ p : Nat, x = (p : Int) ∧ p < P.length) (hnd : ∀ i, (P.getD i []).Nodup) (n : Nat) (hn : P.length = n) (hb : n ≤ 100000) (hbl : ∀ i, (P.getD i []).length ≤ 100000) :
    Calls Tryz.prog 59 #[pv] w fun e w' => ∃ rb, e = .returned (.pointer (some ⟨rb, 0, none⟩)) ∧ RoE w pv P n rb w' := by
  obtain ⟨i0, hi, hz0, hz1, hz2⟩ := info_parts Tryz.infoI
  obtain ⟨i1, hi1, hs0, hs1, hs2⟩ := info_parts Tryz.infoBD
  obtain ⟨po, pn, pc, rfl⟩ : ∃ o n c, pv = .slice o n c := by obtain ⟨ao, cap, e⟩ := h.out.sl; exact ⟨_, _, _, e⟩
  obtain rfl : pn = n := by rw [← hn, ← h.len, h.out.len]
  have HR : Hid (RRD w (.slice po pn pc) pvs P) := h
  have HN : Hid (P.length = pn) := hn
  have HBL : Hid (∀ i, (P.getD i []).length ≤ 100000) := hbl
  have HTU : Hid (∀ W, Below w.heap.size w W → Calls Tryz.prog 81 #[.slice po pn pc] W fun e w' => ∃ g cvs, e = .returned (.slice (some ⟨g, 0, none⟩) pn pn) ∧ TuC W.heap.size W w' g pn cvs (fun j => chF P j pn)) := fun W hW => turnedD _ pvs P W (h.below (Nat.le_refl _) hW) hP hnd pn hn hb
  clear h hP hnd hn hbl
  go_enter Tryz.func59, Tryz.ntmps59
  go_upto_region 1 with fail
  go_cut [3] from 6 to 16 (fun v3 wx => ∃ rb g go gw cvs, v3 = .pointer (some ⟨rb, 0, none⟩) ∧ Hid (RtC w.heap.size (ChS g cvs) wx rb (.slice po pn pc) (.slice none 0 0) g go gw pn cvs (fun j => chF P j pn) (List.replicate pn false) (List.replicate pn 0) [] ∧ Below w.heap.size w wx))
  case first =>
    have KEEP : ∀ u, Below w.heap.size w u → L4.AllL u [] := fun u hu => trivial
    refine L4.region_late [] (by kernel_rfl) ?_
    have B : Below w.heap.size w w.drew := (Below.refl _ _).drew
    obtain ⟨w1, hw1⟩ : ∃ u, u = w.drew := ⟨_, rfl⟩
    rw [← hw1] at B ⊢
    clear hw1
    have hHeld := KEEP _ B
    refine L4.late_free 0 (v := .slice po pn pc) rfl (by kernel_rfl) (by kernel_rfl) (by kernel_rfl) (by kernel_rfl) (by kernel_rfl) (by kernel_rfl) (fun _ _ _ h => h) (Or.inl ⟨by rfl, ?_⟩) hHeld ?_
    · (intro u _; go_simp)
    (try simp only [Act.put, List.setIfInBounds_toArray, List.set_cons_zero, List.set_cons_succ])
    refine L4.late_free 1 (v := .slice po pn pc) rfl (by kernel_rfl) (by kernel_rfl) (by kernel_rfl) (by kernel_rfl) (by kernel_rfl) (by kernel_rfl) (fun _ _ _ h => h) (Or.inl ⟨by rfl, ?_⟩) hHeld ?_
    · (intro u _; go_simp)
    (try simp only [Act.put, List.setIfInBounds_toArray, List.set_cons_zero, List.set_cons_succ])
    refine L4.late_free 3 (v := .slice po pn pc) rfl (by kernel_rfl) (by kernel_rfl) (by kernel_rfl) (by kernel_rfl) (by kernel_rfl) (by kernel_rfl) (fun _ _ _ h => h) (Or.inl ⟨by rfl, ?_⟩) hHeld ?_
    · (intro u _; go_simp)
    (try simp only [Act.put, List.setIfInBounds_toArray, List.set_cons_zero, List.set_cons_succ])
    refine L4.late_free 4 (v := .int .i64 ((pn : Nat) : Int)) rfl (by kernel_rfl) (by kernel_rfl) (by kernel_rfl) (by kernel_rfl) (by kernel_rfl) (by kernel_rfl) (fun _ _ _ h => h) (Or.inl ⟨by rfl, ?_⟩) hHeld ?_
    · (intro u _; go_simp)
    (try simp only [Act.put, List.setIfInBounds_toArray, List.set_cons_zero, List.set_cons_succ])
    refine L4.late_free 6 (v := .slice po pn pc) rfl (by kernel_rfl) (by kernel_rfl) (by kernel_rfl) (by kernel_rfl) (by kernel_rfl) (by kernel_rfl) (fun _ _ _ h => h) (Or.inl ⟨by rfl, ?_⟩) hHeld ?_
    · (intro u _; go_simp)
    (try simp only [Act.put, List.setIfInBounds_toArray, List.set_cons_zero, List.set_cons_succ])
    refine L4.late_free 7 (v := .int .i64 ((pn : Nat) : Int)) rfl (by kernel_rfl) (by kernel_rfl) (by kernel_rfl) (by kernel_rfl) (by kernel_rfl) (by kernel_rfl) (fun _ _ _ h => h) (Or.inl ⟨by rfl, ?_⟩) hHeld ?_
    · (intro u _; go_simp)
    (try simp only [Act.put, List.setIfInBounds_toArray, List.set_cons_zero, List.set_cons_succ])
    refine L4.late_three 2 5 8 (by kernel_rfl) rfl rfl rfl (fun K hK => ?_) (fun K hK => ?_) (fun K hK => ?_)
    · go_simp
      refine (HTU.out _ B).mono ?_
      rintro e y2 ⟨g, cvs, rfl, hT⟩
      have c2 := hT.frm
      have hwt : w.heap.size ≤ w1.heap.size := B.size
      have B := B.trans (c2.mono B.size)
      clear c2 hHeld
      have hHeld := KEEP _ B
      go_wp2_with fail
      refine hK.out _ _ (L4.AllL.kept hHeld) ?_
      clear hK K
      (try simp only [Act.put, List.setIfInBounds_toArray, List.set_cons_zero, List.set_cons_succ])
      refine L4.late_two 5 8 (by kernel_rfl) rfl rfl (fun K hK => ?_) (fun K hK => ?_)
      · refine want_yesD rfl ?_
        refine wp_madeD _ _ _ 60 rfl 4 i1 (.bool false) Tryz.underlying60 hi1 hs0 hs1 rfl _ _ pn rfl rfl (by rw [hs2]; omega) (by omega) ?_
        obtain ⟨y3, hy3⟩ : ∃ u, u = y2.alloc (.cells (Array.replicate pn (.bool false)) 4) := ⟨_, rfl⟩
        obtain ⟨go, hgo⟩ : ∃ u, u = y2.heap.size := ⟨_, rfl⟩
        rw [← hy3, ← hgo]
        have c3 : Below y2.heap.size y2 y3 := by rw [hy3]; exact belowB _ _
        have hO : OG Value.bool w.heap.size 4 y3 (.slice (some ⟨go, 0, none⟩) pn pn) (List.replicate pn false) := by rw [hy3, hgo]; exact (OG.made (enc := Value.bool) y2 _ pn false (by unfold maxLen; omega)).mono B.size
        clear hy3 hgo
        have B := B.trans (c3.mono B.size)
        replace hT := hT.below c3
        clear c3 hHeld
        have hHeld := KEEP _ B
        refine hK.out _ _ (L4.AllL.kept hHeld) ?_
        clear hK K
        (try simp only [Act.put, List.setIfInBounds_toArray, List.set_cons_zero, List.set_cons_succ])
        refine L4.late_step 8 (by kernel_rfl) rfl (fun K hK => ?_)
        refine want_yesD rfl ?_
        refine wp_madeD _ _ _ 23 rfl 3 i0 (.int .i64 0) Tryz.underlying23 hi hz0 hz1 rfl _ _ pn rfl rfl (by rw [hz2]; omega) (by omega) ?_
        obtain ⟨y4, hy4⟩ : ∃ u, u = y3.alloc (.cells (Array.replicate pn (.int .i64 0)) 3) := ⟨_, rfl⟩
        obtain ⟨gw, hgw⟩ : ∃ u, u = y3.heap.size := ⟨_, rfl⟩
        rw [← hy4, ← hgw]
        have c4 : Below y3.heap.size y3 y4 := by rw [hy4]; exact belowB _ _
        have hW : OG (Value.int .i64) w.heap.size 3 y4 (.slice (some ⟨gw, 0, none⟩) pn pn) (List.replicate pn 0) := by rw [hy4, hgw]; exact (OG.made (enc := (Value.int .i64)) y3 _ pn 0 (by unfold maxLen; omega)).mono B.size
        have hap : ∀ (j : Nat) (u : Value), cvs[j]? = some u → u.ownBlock ≠ some gw := fun j u hu e => by have := ((hT.inn j u hu).lt gw e).2; omega
        clear hy4 hgw
        have B := B.trans (c4.mono B.size)
        replace hT := hT.below c4
        replace hO := hO.below c4
        clear c4 hHeld
        have hHeld := KEEP _ B
        refine hK.out _ _ (L4.AllL.kept hHeld) ?_
        clear hK K
        (try simp only [Act.put, List.setIfInBounds_toArray, List.set_cons_zero, List.set_cons_succ])
        refine L4.late_free 9 (v := .agg #[.slice po pn pc, .slice (some ⟨g, 0, none⟩) pn pn, .slice (some ⟨go, 0, none⟩) pn pn, .slice (some ⟨gw, 0, none⟩) pn pn, .slice none 0 0]) rfl (by kernel_rfl) (by kernel_rfl) (by kernel_rfl) (by kernel_rfl) (by kernel_rfl) (by kernel_rfl) (fun _ _ _ h => h) (Or.inl ⟨by rfl, ?_⟩) hHeld ?_
        · (intro u _; go_simp)
        (try simp only [Act.put, List.setIfInBounds_toArray, List.set_cons_zero, List.set_cons_succ])
        refine L4.late_step 10 (by kernel_rfl) rfl (fun K hK => ?_)
        go_simp
        obtain ⟨y5, hy5⟩ : ∃ u, u = y4.alloc (.cells #[.slice po pn pc, .slice (some ⟨g, 0, none⟩) pn pn, .slice (some ⟨go, 0, none⟩) pn pn, .slice (some ⟨gw, 0, none⟩) pn pn, .slice none 0 0] 105) := ⟨_, rfl⟩
        obtain ⟨rb, hrb⟩ : ∃ u, u = y4.heap.size := ⟨_, rfl⟩
        rw [← hy5, ← hrb]
        have c5 : Below y4.heap.size y4 y5 := by rw [hy5]; exact belowB _ _
        have HRT : Hid (RtC w.heap.size (ChS g cvs) y5 rb (.slice po pn pc) (.slice none 0 0) g go gw pn cvs (fun j => chF P j pn) (List.replicate pn false) (List.replicate pn 0) []) := by show RtC _ _ _ _ _ _ _ _ _ _ _ _ _ _ _; rw [hy5, hrb]; exact RtC.start B hwt hT hO hW hap
        clear hy5 hrb hT hO hW hap hwt
        have B := B.trans (c5.mono B.size)
        clear c5 hHeld
        have hHeld := KEEP _ B
        refine hK.out _ _ (L4.AllL.kept hHeld) ?_
        clear hK K
        (try simp only [Act.put, List.setIfInBounds_toArray, List.set_cons_zero, List.set_cons_succ])
        refine L4.late_step 11 (by kernel_rfl) rfl (fun K hK => ?_)
        go_simp
        refine hK.out _ _ (L4.AllL.kept hHeld) ?_
        clear hK K
        (try simp only [Act.put, List.setIfInBounds_toArray, List.set_cons_zero, List.set_cons_succ])
        refine L4.late_done (by kernel_rfl) ?_ _
        have HRES : Hid (RtC w.heap.size (ChS g cvs) y5 rb (.slice po pn pc) (.slice none 0 0) g go gw pn cvs (fun j => chF P j pn) (List.replicate pn false) (List.replicate pn 0) [] ∧ Below w.heap.size w y5) := ⟨HRT.out, B⟩
        clear HRT B KEEP hHeld
        (try go_wp2_with fail)
        go_meet
        exact ⟨rb, g, go, gw, cvs, rfl, HRES⟩
      · refine want_yesD rfl ?_
        refine wp_madeD _ _ _ 23 rfl 3 i0 (.int .i64 0) Tryz.underlying23 hi hz0 hz1 rfl _ _ pn rfl rfl (by rw [hz2]; omega) (by omega) ?_
        obtain ⟨y6, hy6⟩ : ∃ u, u = y2.alloc (.cells (Array.replicate pn (.int .i64 0)) 3) := ⟨_, rfl⟩
        obtain ⟨gw, hgw⟩ : ∃ u, u = y2.heap.size := ⟨_, rfl⟩
        rw [← hy6, ← hgw]
        have c6 : Below y2.heap.size y2 y6 := by rw [hy6]; exact belowB _ _
        have hW : OG (Value.int .i64) w.heap.size 3 y6 (.slice (some ⟨gw, 0, none⟩) pn pn) (List.replicate pn 0) := by rw [hy6, hgw]; exact (OG.made (enc := (Value.int .i64)) y2 _ pn 0 (by unfold maxLen; omega)).mono B.size
        have hap : ∀ (j : Nat) (u : Value), cvs[j]? = some u → u.ownBlock ≠ some gw := fun j u hu e => by have := ((hT.inn j u hu).lt gw e).2; omega
        clear hy6 hgw
        have B := B.trans (c6.mono B.size)
        replace hT := hT.below c6
        clear c6 hHeld
        have hHeld := KEEP _ B
        refine hK.out _ _ (L4.AllL.kept hHeld) ?_
        clear hK K
        (try simp only [Act.put, List.setIfInBounds_toArray, List.set_cons_zero, List.set_cons_succ])
        refine L4.late_step 5 (by kernel_rfl) rfl (fun K hK => ?_)
        refine want_yesD rfl ?_
        refine wp_madeD _ _ _ 60 rfl 4 i1 (.bool false) Tryz.underlying60 hi1 hs0 hs1 rfl _ _ pn rfl rfl (by rw [hs2]; omega) (by omega) ?_
        obtain ⟨y7, hy7⟩ : ∃ u, u = y6.alloc (.cells (Array.replicate pn (.bool false)) 4) := ⟨_, rfl⟩
        obtain ⟨go, hgo⟩ : ∃ u, u = y6.heap.size := ⟨_, rfl⟩
        rw [← hy7, ← hgo]
        have c7 : Below y6.heap.size y6 y7 := by rw [hy7]; exact belowB _ _
        have hO : OG Value.bool w.heap.size 4 y7 (.slice (some ⟨go, 0, none⟩) pn pn) (List.replicate pn false) := by rw [hy7, hgo]; exact (OG.made (enc := Value.bool) y6 _ pn false (by unfold maxLen; omega)).mono B.size
        clear hy7 hgo
        have B := B.trans (c7.mono B.size)
        replace hT := hT.below c7
        replace hW := hW.below c7
        clear c7 hHeld
        have hHeld := KEEP _ B
        refine hK.out _ _ (L4.AllL.kept hHeld) ?_
        clear hK K
        (try simp only [Act.put, List.setIfInBounds_toArray, List.set_cons_zero, List.set_cons_succ])
        refine L4.late_free 9 (v := .agg #[.slice po pn pc, .slice (some ⟨g, 0, none⟩) pn pn, .slice (some ⟨go, 0, none⟩) pn pn, .slice (some ⟨gw, 0, none⟩) pn pn, .slice none 0 0]) rfl (by kernel_rfl) (by kernel_rfl) (by kernel_rfl) (by kernel_rfl) (by kernel_rfl) (by kernel_rfl) (fun _ _ _ h => h) (Or.inl ⟨by rfl, ?_⟩) hHeld ?_
        · (intro u _; go_simp)
        (try simp only [Act.put, List.setIfInBounds_toArray, List.set_cons_zero, List.set_cons_succ])
        refine L4.late_step 10 (by kernel_rfl) rfl (fun K hK => ?_)
        go_simp
        obtain ⟨y8, hy8⟩ : ∃ u, u = y7.alloc (.cells #[.slice po pn pc, .slice (some ⟨g, 0, none⟩) pn pn, .slice (some ⟨go, 0, none⟩) pn pn, .slice (some ⟨gw, 0, none⟩) pn pn, .slice none 0 0] 105) := ⟨_, rfl⟩
        obtain ⟨rb, hrb⟩ : ∃ u, u = y7.heap.size := ⟨_, rfl⟩
        rw [← hy8, ← hrb]
        have c8 : Below y7.heap.size y7 y8 := by rw [hy8]; exact belowB _ _
        have HRT : Hid (RtC w.heap.size (ChS g cvs) y8 rb (.slice po pn pc) (.slice none 0 0) g go gw pn cvs (fun j => chF P j pn) (List.replicate pn false) (List.replicate pn 0) []) := by show RtC _ _ _ _ _ _ _ _ _ _ _ _ _ _ _; rw [hy8, hrb]; exact RtC.start B hwt hT hO hW hap
        clear hy8 hrb hT hO hW hap hwt
        have B := B.trans (c8.mono B.size)
        clear c8 hHeld
        have hHeld := KEEP _ B
        refine hK.out _ _ (L4.AllL.kept hHeld) ?_
        clear hK K
        (try simp only [Act.put, List.setIfInBounds_toArray, List.set_cons_zero, List.set_cons_succ])
        refine L4.late_step 11 (by kernel_rfl) rfl (fun K hK => ?_)
        go_simp
        refine hK.out _ _ (L4.AllL.kept hHeld) ?_
        clear hK K
        (try simp only [Act.put, List.setIfInBounds_toArray, List.set_cons_zero, List.set_cons_succ])
        refine L4.late_done (by kernel_rfl) ?_ _
        have HRES : Hid (RtC w.heap.size (ChS g cvs) y8 rb (.slice po pn pc) (.slice none 0 0) g go gw pn cvs (fun j => chF P j pn) (List.replicate pn false) (List.replicate pn 0) [] ∧ Below w.heap.size w y8) := ⟨HRT.out, B⟩
        clear HRT B KEEP hHeld
        (try go_wp2_with fail)
        go_meet
        exact ⟨rb, g, go, gw, cvs, rfl, HRES⟩
    · refine want_yesD rfl ?_
      refine wp_madeD _ _ _ 60 rfl 4 i1 (.bool false) Tryz.underlying60 hi1 hs0 hs1 rfl _ _ pn rfl rfl (by rw [hs2]; omega) (by omega) ?_
      obtain ⟨y9, hy9⟩ : ∃ u, u = w1.alloc (.cells (Array.replicate pn (.bool false)) 4) := ⟨_, rfl⟩
      obtain ⟨go, hgo⟩ : ∃ u, u = w1.heap.size := ⟨_, rfl⟩
      rw [← hy9, ← hgo]
      have c9 : Below w1.heap.size w1 y9 := by rw [hy9]; exact belowB _ _
      have hO : OG Value.bool w.heap.size 4 y9 (.slice (some ⟨go, 0, none⟩) pn pn) (List.replicate pn false) := by rw [hy9, hgo]; exact (OG.made (enc := Value.bool) w1 _ pn false (by unfold maxLen; omega)).mono B.size
      clear hy9 hgo
      have B := B.trans (c9.mono B.size)
      clear c9 hHeld
      have hHeld := KEEP _ B
      refine hK.out _ _ (L4.AllL.kept hHeld) ?_
      clear hK K
      (try simp only [Act.put, List.setIfInBounds_toArray, List.set_cons_zero, List.set_cons_succ])
      refine L4.late_two 2 8 (by kernel_rfl) rfl rfl (fun K hK => ?_) (fun K hK => ?_)
      · go_simp
        refine (HTU.out _ B).mono ?_
        rintro e y10 ⟨g, cvs, rfl, hT⟩
        have c10 := hT.frm
        have hwt : w.heap.size ≤ y9.heap.size := B.size
        have B := B.trans (c10.mono B.size)
        replace hO := hO.below c10
        clear c10 hHeld
        have hHeld := KEEP _ B
        go_wp2_with fail
        refine hK.out _ _ (L4.AllL.kept hHeld) ?_
        clear hK K
        (try simp only [Act.put, List.setIfInBounds_toArray, List.set_cons_zero, List.set_cons_succ])
        refine L4.late_step 8 (by kernel_rfl) rfl (fun K hK => ?_)
        refine want_yesD rfl ?_
        refine wp_madeD _ _ _ 23 rfl 3 i0 (.int .i64 0) Tryz.underlying23 hi hz0 hz1 rfl _ _ pn rfl rfl (by rw [hz2]; omega) (by omega) ?_
        obtain ⟨y11, hy11⟩ : ∃ u, u = y10.alloc (.cells (Array.replicate pn (.int .i64 0)) 3) := ⟨_, rfl⟩
        obtain ⟨gw, hgw⟩ : ∃ u, u = y10.heap.size := ⟨_, rfl⟩
        rw [← hy11, ← hgw]
        have c11 : Below y10.heap.size y10 y11 := by rw [hy11]; exact belowB _ _
        have hW : OG (Value.int .i64) w.heap.size 3 y11 (.slice (some ⟨gw, 0, none⟩) pn pn) (List.replicate pn 0) := by rw [hy11, hgw]; exact (OG.made (enc := (Value.int .i64)) y10 _ pn 0 (by unfold maxLen; omega)).mono B.size
        have hap : ∀ (j : Nat) (u : Value), cvs[j]? = some u → u.ownBlock ≠ some gw := fun j u hu e => by have := ((hT.inn j u hu).lt gw e).2; omega
        clear hy11 hgw
        have B := B.trans (c11.mono B.size)
        replace hO := hO.below c11
        replace hT := hT.below c11
        clear c11 hHeld
        have hHeld := KEEP _ B
        refine hK.out _ _ (L4.AllL.kept hHeld) ?_
        clear hK K
        (try simp only [Act.put, List.setIfInBounds_toArray, List.set_cons_zero, List.set_cons_succ])
        refine L4.late_free 9 (v := .agg #[.slice po pn pc, .slice (some ⟨g, 0, none⟩) pn pn, .slice (some ⟨go, 0, none⟩) pn pn, .slice (some ⟨gw, 0, none⟩) pn pn, .slice none 0 0]) rfl (by kernel_rfl) (by kernel_rfl) (by kernel_rfl) (by kernel_rfl) (by kernel_rfl) (by kernel_rfl) (fun _ _ _ h => h) (Or.inl ⟨by rfl, ?_⟩) hHeld ?_
        · (intro u _; go_simp)
        (try simp only [Act.put, List.setIfInBounds_toArray, List.set_cons_zero, List.set_cons_succ])
        refine L4.late_step 10 (by kernel_rfl) rfl (fun K hK => ?_)
        go_simp
        obtain ⟨y12, hy12⟩ : ∃ u, u = y11.alloc (.cells #[.slice po pn pc, .slice (some ⟨g, 0, none⟩) pn pn, .slice (some ⟨go, 0, none⟩) pn pn, .slice (some ⟨gw, 0, none⟩) pn pn, .slice none 0 0] 105) := ⟨_, rfl⟩
        obtain ⟨rb, hrb⟩ : ∃ u, u = y11.heap.size := ⟨_, rfl⟩
        rw [← hy12, ← hrb]
        have c12 : Below y11.heap.size y11 y12 := by rw [hy12]; exact belowB _ _
        have HRT : Hid (RtC w.heap.size (ChS g cvs) y12 rb (.slice po pn pc) (.slice none 0 0) g go gw pn cvs (fun j => chF P j pn) (List.replicate pn false) (List.replicate pn 0) []) := by show RtC _ _ _ _ _ _ _ _ _ _ _ _ _ _ _; rw [hy12, hrb]; exact RtC.start B hwt hT hO hW hap
        clear hy12 hrb hT hO hW hap hwt
        have B := B.trans (c12.mono B.size)
        clear c12 hHeld
        have hHeld := KEEP _ B
        refine hK.out _ _ (L4.AllL.kept hHeld) ?_
        clear hK K
        (try simp only [Act.put, List.setIfInBounds_toArray, List.set_cons_zero, List.set_cons_succ])
        refine L4.late_step 11 (by kernel_rfl) rfl (fun K hK => ?_)
        go_simp
        refine hK.out _ _ (L4.AllL.kept hHeld) ?_
        clear hK K
        (try simp only [Act.put, List.setIfInBounds_toArray, List.set_cons_zero, List.set_cons_succ])
        refine L4.late_done (by kernel_rfl) ?_ _
        have HRES : Hid (RtC w.heap.size (ChS g cvs) y12 rb (.slice po pn pc) (.slice none 0 0) g go gw pn cvs (fun j => chF P j pn) (List.replicate pn false) (List.replicate pn 0) [] ∧ Below w.heap.size w y12) := ⟨HRT.out, B⟩
        clear HRT B KEEP hHeld
        (try go_wp2_with fail)
        go_meet
        exact ⟨rb, g, go, gw, cvs, rfl, HRES⟩
      · refine want_yesD rfl ?_
        refine wp_madeD _ _ _ 23 rfl 3 i0 (.int .i64 0) Tryz.underlying23 hi hz0 hz1 rfl _ _ pn rfl rfl (by rw [hz2]; omega) (by omega) ?_
        obtain ⟨y13, hy13⟩ : ∃ u, u = y9.alloc (.cells (Array.replicate pn (.int .i64 0)) 3) := ⟨_, rfl⟩
        obtain ⟨gw, hgw⟩ : ∃ u, u = y9.heap.size := ⟨_, rfl⟩
        rw [← hy13, ← hgw]
        have c13 : Below y9.heap.size y9 y13 := by rw [hy13]; exact belowB _ _
        have hW : OG (Value.int .i64) w.heap.size 3 y13 (.slice (some ⟨gw, 0, none⟩) pn pn) (List.replicate pn 0) := by rw [hy13, hgw]; exact (OG.made (enc := (Value.int .i64)) y9 _ pn 0 (by unfold maxLen; omega)).mono B.size
        clear hy13 hgw
        have B := B.trans (c13.mono B.size)
        replace hO := hO.below c13
        clear c13 hHeld
        have hHeld := KEEP _ B
        refine hK.out _ _ (L4.AllL.kept hHeld) ?_
        clear hK K
        (try simp only [Act.put, List.setIfInBounds_toArray, List.set_cons_zero, List.set_cons_succ])
        refine L4.late_step 2 (by kernel_rfl) rfl (fun K hK => ?_)
        go_simp
        refine (HTU.out _ B).mono ?_
        rintro e y14 ⟨g, cvs, rfl, hT⟩
        have c14 := hT.frm
        have hwt : w.heap.size ≤ y13.heap.size := B.size
        have hap : ∀ (j : Nat) (u : Value), cvs[j]? = some u → u.ownBlock ≠ some gw := fun j u hu e => by have := ((hT.inn j u hu).lt gw e).1; have := (hW.lt gw rfl).2; omega
        have B := B.trans (c14.mono B.size)
        replace hO := hO.below c14
        replace hW := hW.below c14
        clear c14 hHeld
        have hHeld := KEEP _ B
        go_wp2_with fail
        refine hK.out _ _ (L4.AllL.kept hHeld) ?_
        clear hK K
        (try simp only [Act.put, List.setIfInBounds_toArray, List.set_cons_zero, List.set_cons_succ])
        refine L4.late_free 9 (v := .agg #[.slice po pn pc, .slice (some ⟨g, 0, none⟩) pn pn, .slice (some ⟨go, 0, none⟩) pn pn, .slice (some ⟨gw, 0, none⟩) pn pn, .slice none 0 0]) rfl (by kernel_rfl) (by kernel_rfl) (by kernel_rfl) (by kernel_rfl) (by kernel_rfl) (by kernel_rfl) (fun _ _ _ h => h) (Or.inl ⟨by rfl, ?_⟩) hHeld ?_
        · (intro u _; go_simp)
        (try simp only [Act.put, List.setIfInBounds_toArray, List.set_cons_zero, List.set_cons_succ])
        refine L4.late_step 10 (by kernel_rfl) rfl (fun K hK => ?_)
        go_simp
        obtain ⟨y15, hy15⟩ : ∃ u, u = y14.alloc (.cells #[.slice po pn pc, .slice (some ⟨g, 0, none⟩) pn pn, .slice (some ⟨go, 0, none⟩) pn pn, .slice (some ⟨gw, 0, none⟩) pn pn, .slice none 0 0] 105) := ⟨_, rfl⟩
        obtain ⟨rb, hrb⟩ : ∃ u, u = y14.heap.size := ⟨_, rfl⟩
        rw [← hy15, ← hrb]
        have c15 : Below y14.heap.size y14 y15 := by rw [hy15]; exact belowB _ _
        have HRT : Hid (RtC w.heap.size (ChS g cvs) y15 rb (.slice po pn pc) (.slice none 0 0) g go gw pn cvs (fun j => chF P j pn) (List.replicate pn false) (List.replicate pn 0) []) := by show RtC _ _ _ _ _ _ _ _ _ _ _ _ _ _ _; rw [hy15, hrb]; exact RtC.start B hwt hT hO hW hap
        clear hy15 hrb hT hO hW hap hwt
        have B := B.trans (c15.mono B.size)
        clear c15 hHeld
        have hHeld := KEEP _ B
        refine hK.out _ _ (L4.AllL.kept hHeld) ?_
        clear hK K
        (try simp only [Act.put, List.setIfInBounds_toArray, List.set_cons_zero, List.set_cons_succ])
        refine L4.late_step 11 (by kernel_rfl) rfl (fun K hK => ?_)
        go_simp
        refine hK.out _ _ (L4.AllL.kept hHeld) ?_
        clear hK K
        (try simp only [Act.put, List.setIfInBounds_toArray, List.set_cons_zero, List.set_cons_succ])
        refine L4.late_done (by kernel_rfl) ?_ _
        have HRES : Hid (RtC w.heap.size (ChS g cvs) y15 rb (.slice po pn pc) (.slice none 0 0) g go gw pn cvs (fun j => chF P j pn) (List.replicate pn false) (List.replicate pn 0) [] ∧ Below w.heap.size w y15) := ⟨HRT.out, B⟩
        clear HRT B KEEP hHeld
        (try go_wp2_with fail)
        go_meet
        exact ⟨rb, g, go, gw, cvs, rfl, HRES⟩
    · refine want_yesD rfl ?_
      refine wp_madeD _ _ _ 23 rfl 3 i0 (.int .i64 0) Tryz.underlying23 hi hz0 hz1 rfl _ _ pn rfl rfl (by rw [hz2]; omega) (by omega) ?_
      obtain ⟨y16, hy16⟩ : ∃ u, u = w1.alloc (.cells (Array.replicate pn (.int .i64 0)) 3) := ⟨_, rfl⟩
      obtain ⟨gw, hgw⟩ : ∃ u, u = w1.heap.size := ⟨_, rfl⟩
      rw [← hy16, ← hgw]
      have c16 : Below w1.heap.size w1 y16 := by rw [hy16]; exact belowB _ _
      have hW : OG (Value.int .i64) w.heap.size 3 y16 (.slice (some ⟨gw, 0, none⟩) pn pn) (List.replicate pn 0) := by rw [hy16, hgw]; exact (OG.made (enc := (Value.int .i64)) w1 _ pn 0 (by unfold maxLen; omega)).mono B.size
      clear hy16 hgw
      have B := B.trans (c16.mono B.size)
      clear c16 hHeld
      have hHeld := KEEP _ B
      refine hK.out _ _ (L4.AllL.kept hHeld) ?_
      clear hK K
      (try simp only [Act.put, List.setIfInBounds_toArray, List.set_cons_zero, List.set_cons_succ])
      refine L4.late_two 2 5 (by kernel_rfl) rfl rfl (fun K hK => ?_) (fun K hK => ?_)
      · go_simp
        refine (HTU.out _ B).mono ?_
        rintro e y17 ⟨g, cvs, rfl, hT⟩
        have c17 := hT.frm
        have hwt : w.heap.size ≤ y16.heap.size := B.size
        have hap : ∀ (j : Nat) (u : Value), cvs[j]? = some u → u.ownBlock ≠ some gw := fun j u hu e => by have := ((hT.inn j u hu).lt gw e).1; have := (hW.lt gw rfl).2; omega
        have B := B.trans (c17.mono B.size)
        replace hW := hW.below c17
        clear c17 hHeld
        have hHeld := KEEP _ B
        go_wp2_with fail
        refine hK.out _ _ (L4.AllL.kept hHeld) ?_
        clear hK K
        (try simp only [Act.put, List.setIfInBounds_toArray, List.set_cons_zero, List.set_cons_succ])
        refine L4.late_step 5 (by kernel_rfl) rfl (fun K hK => ?_)
        refine want_yesD rfl ?_
        refine wp_madeD _ _ _ 60 rfl 4 i1 (.bool false) Tryz.underlying60 hi1 hs0 hs1 rfl _ _ pn rfl rfl (by rw [hs2]; omega) (by omega) ?_
        obtain ⟨y18, hy18⟩ : ∃ u, u = y17.alloc (.cells (Array.replicate pn (.bool false)) 4) := ⟨_, rfl⟩
        obtain ⟨go, hgo⟩ : ∃ u, u = y17.heap.size := ⟨_, rfl⟩
        rw [← hy18, ← hgo]
        have c18 : Below y17.heap.size y17 y18 := by rw [hy18]; exact belowB _ _
        have hO : OG Value.bool w.heap.size 4 y18 (.slice (some ⟨go, 0, none⟩) pn pn) (List.replicate pn false) := by rw [hy18, hgo]; exact (OG.made (enc := Value.bool) y17 _ pn false (by unfold maxLen; omega)).mono B.size
        clear hy18 hgo
        have B := B.trans (c18.mono B.size)
        replace hW := hW.below c18
        replace hT := hT.below c18
        clear c18 hHeld
        have hHeld := KEEP _ B
        refine hK.out _ _ (L4.AllL.kept hHeld) ?_
        clear hK K
        (try simp only [Act.put, List.setIfInBounds_toArray, List.set_cons_zero, List.set_cons_succ])
        refine L4.late_free 9 (v := .agg #[.slice po pn pc, .slice (some ⟨g, 0, none⟩) pn pn, .slice (some ⟨go, 0, none⟩) pn pn, .slice (some ⟨gw, 0, none⟩) pn pn, .slice none 0 0]) rfl (by kernel_rfl) (by kernel_rfl) (by kernel_rfl) (by kernel_rfl) (by kernel_rfl) (by kernel_rfl) (fun _ _ _ h => h) (Or.inl ⟨by rfl, ?_⟩) hHeld ?_
        · (intro u _; go_simp)
        (try simp only [Act.put, List.setIfInBounds_toArray, List.set_cons_zero, List.set_cons_succ])
        refine L4.late_step 10 (by kernel_rfl) rfl (fun K hK => ?_)
        go_simp
        obtain ⟨y19, hy19⟩ : ∃ u, u = y18.alloc (.cells #[.slice po pn pc, .slice (some ⟨g, 0, none⟩) pn pn, .slice (some ⟨go, 0, none⟩) pn pn, .slice (some ⟨gw, 0, none⟩) pn pn, .slice none 0 0] 105) := ⟨_, rfl⟩
        obtain ⟨rb, hrb⟩ : ∃ u, u = y18.heap.size := ⟨_, rfl⟩
        rw [← hy19, ← hrb]
        have c19 : Below y18.heap.size y18 y19 := by rw [hy19]; exact belowB _ _
        have HRT : Hid (RtC w.heap.size (ChS g cvs) y19 rb (.slice po pn pc) (.slice none 0 0) g go gw pn cvs (fun j => chF P j pn) (List.replicate pn false) (List.replicate pn 0) []) := by show RtC _ _ _ _ _ _ _ _ _ _ _ _ _ _ _; rw [hy19, hrb]; exact RtC.start B hwt hT hO hW hap
        clear hy19 hrb hT hO hW hap hwt
        have B := B.trans (c19.mono B.size)
        clear c19 hHeld
        have hHeld := KEEP _ B
        refine hK.out _ _ (L4.AllL.kept hHeld) ?_
        clear hK K
        (try simp only [Act.put, List.setIfInBounds_toArray, List.set_cons_zero, List.set_cons_succ])
        refine L4.late_step 11 (by kernel_rfl) rfl (fun K hK => ?_)
        go_simp
        refine hK.out _ _ (L4.AllL.kept hHeld) ?_
        clear hK K
        (try simp only [Act.put, List.setIfInBounds_toArray, List.set_cons_zero, List.set_cons_succ])
        refine L4.late_done (by kernel_rfl) ?_ _
        have HRES : Hid (RtC w.heap.size (ChS g cvs) y19 rb (.slice po pn pc) (.slice none 0 0) g go gw pn cvs (fun j => chF P j pn) (List.replicate pn false) (List.replicate pn 0) [] ∧ Below w.heap.size w y19) := ⟨HRT.out, B⟩
        clear HRT B KEEP hHeld
        (try go_wp2_with fail)
        go_meet
        exact ⟨rb, g, go, gw, cvs, rfl, HRES⟩
      · refine want_yesD rfl ?_
        refine wp_madeD _ _ _ 60 rfl 4 i1 (.bool false) Tryz.underlying60 hi1 hs0 hs1 rfl _ _ pn rfl rfl (by rw [hs2]; omega) (by omega) ?_
        obtain ⟨y20, hy20⟩ : ∃ u, u = y16.alloc (.cells (Array.replicate pn (.bool false)) 4) := ⟨_, rfl⟩
        obtain ⟨go, hgo⟩ : ∃ u, u = y16.heap.size := ⟨_, rfl⟩
        rw [← hy20, ← hgo]
        have c20 : Below y16.heap.size y16 y20 := by rw [hy20]; exact belowB _ _
        have hO : OG Value.bool w.heap.size 4 y20 (.slice (some ⟨go, 0, none⟩) pn pn) (List.replicate pn false) := by rw [hy20, hgo]; exact (OG.made (enc := Value.bool) y16 _ pn false (by unfold maxLen; omega)).mono B.size
        clear hy20 hgo
        have B := B.trans (c20.mono B.size)
        replace hW := hW.below c20
        clear c20 hHeld
        have hHeld := KEEP _ B
        refine hK.out _ _ (L4.AllL.kept hHeld) ?_
        clear hK K
        (try simp only [Act.put, List.setIfInBounds_toArray, List.set_cons_zero, List.set_cons_succ])
        refine L4.late_step 2 (by kernel_rfl) rfl (fun K hK => ?_)
        go_simp
        refine (HTU.out _ B).mono ?_
        rintro e y21 ⟨g, cvs, rfl, hT⟩
        have c21 := hT.frm
        have hwt : w.heap.size ≤ y20.heap.size := B.size
        have hap : ∀ (j : Nat) (u : Value), cvs[j]? = some u → u.ownBlock ≠ some gw := fun j u hu e => by have := ((hT.inn j u hu).lt gw e).1; have := (hW.lt gw rfl).2; omega
        have B := B.trans (c21.mono B.size)
        replace hW := hW.below c21
        replace hO := hO.below c21
        clear c21 hHeld
        have hHeld := KEEP _ B
        go_wp2_with fail
        refine hK.out _ _ (L4.AllL.kept hHeld) ?_
        clear hK K
        (try simp only [Act.put, List.setIfInBounds_toArray, List.set_cons_zero, List.set_cons_succ])
        refine L4.late_free 9 (v := .agg #[.slice po pn pc, .slice (some ⟨g, 0, none⟩) pn pn, .slice (some ⟨go, 0, none⟩) pn pn, .slice (some ⟨gw, 0, none⟩) pn pn, .slice none 0 0]) rfl (by kernel_rfl) (by kernel_rfl) (by kernel_rfl) (by kernel_rfl) (by kernel_rfl) (by kernel_rfl) (fun _ _ _ h => h) (Or.inl ⟨by rfl, ?_⟩) hHeld ?_
        · (intro u _; go_simp)
        (try simp only [Act.put, List.setIfInBounds_toArray, List.set_cons_zero, List.set_cons_succ])
        refine L4.late_step 10 (by kernel_rfl) rfl (fun K hK => ?_)
        go_simp
        obtain ⟨y22, hy22⟩ : ∃ u, u = y21.alloc (.cells #[.slice po pn pc, .slice (some ⟨g, 0, none⟩) pn pn, .slice (some ⟨go, 0, none⟩) pn pn, .slice (some ⟨gw, 0, none⟩) pn pn, .slice none 0 0] 105) := ⟨_, rfl⟩
        obtain ⟨rb, hrb⟩ : ∃ u, u = y21.heap.size := ⟨_, rfl⟩
        rw [← hy22, ← hrb]
        have c22 : Below y21.heap.size y21 y22 := by rw [hy22]; exact belowB _ _
        have HRT : Hid (RtC w.heap.size (ChS g cvs) y22 rb (.slice po pn pc) (.slice none 0 0) g go gw pn cvs (fun j => chF P j pn) (List.replicate pn false) (List.replicate pn 0) []) := by show RtC _ _ _ _ _ _ _ _ _ _ _ _ _ _ _; rw [hy22, hrb]; exact RtC.start B hwt hT hO hW hap
        clear hy22 hrb hT hO hW hap hwt
        have B := B.trans (c22.mono B.size)
        clear c22 hHeld
        have hHeld := KEEP _ B
        refine hK.out _ _ (L4.AllL.kept hHeld) ?_
        clear hK K
        (try simp only [Act.put, List.setIfInBounds_toArray, List.set_cons_zero, List.set_cons_succ])
        refine L4.late_step 11 (by kernel_rfl) rfl (fun K hK => ?_)
        go_simp
        refine hK.out _ _ (L4.AllL.kept hHeld) ?_
        clear hK K
        (try simp only [Act.put, List.setIfInBounds_toArray, List.set_cons_zero, List.set_cons_succ])
        refine L4.late_done (by kernel_rfl) ?_ _
        have HRES : Hid (RtC w.heap.size (ChS g cvs) y22 rb (.slice po pn pc) (.slice none 0 0) g go gw pn cvs (fun j => chF P j pn) (List.replicate pn false) (List.replicate pn 0) [] ∧ Below w.heap.size w y22) := ⟨HRT.out, B⟩
        clear HRT B KEEP hHeld
        (try go_wp2_with fail)
        go_meet
        exact ⟨rb, g, go, gw, cvs, rfl, HRES⟩
  case rest =>
    obtain ⟨rb, g, go, gw, cvs, rfl, HC⟩ := hcut
    have H1 : Hid (RtC w.heap.size (ChS g cvs) wc rb (.slice po pn pc) (.slice none 0 0) g go gw pn cvs (fun j => chF P j pn) (List.replicate pn false) (List.replicate pn 0) []) := HC.out.1
    have HB : Hid (Below w.heap.size w wc) := HC.out.2
    have HW : Hid (WaI P 0 (List.replicate pn 0)) := ⟨by rw [List.length_replicate]; exact HN.out.symm, fun j hj => by omega⟩
    have HL : Hid (LnOk pn [] (fun j => j < 0 ∧ (P.getD j []).length = 0)) := LnOk.nil fun i _ h => by omega
    clear HC HTU
    go_wp2
    go_loopg [4, 5, 19] pn (fun g1 _v4 _v5 v19 wr => ∃ (i : Nat) (v : Value) (Wt L : List Int), v19 = .int .i64 i ∧ i ≤ pn ∧ pn - i ≤ g1 ∧ Hid (RtC w.heap.size (ChS g cvs) wr rb (.slice po pn pc) v g go gw pn cvs (fun j => chF P j pn) (List.replicate pn false) Wt L) ∧ Hid (WaI P i Wt) ∧ Hid (LnOk pn L (fun j => j < i ∧ (P.getD j []).length = 0)) ∧ Hid (Below w.heap.size w wr))
    case atStart => exact ⟨0, _, _, _, rfl, by omega, by omega, H1, HW, HL, HB⟩
    case round =>
      clear H1 HW HL HB
      obtain ⟨i, v, Wt, L, rfl, hin, hg1, H1, HW, HL, HB⟩ := hrel
      by_cases hlt : i < pn
      · have hltz : (i : Int) < (pn : Int) := by omega
        obtain ⟨x, gp, op, hx1, rfl, hx2⟩ := (HR.out.below (Nat.le_refl _) HB.out).out.at hlt
        have hxr := HR.out.inn i x hx1
        obtain ⟨xo, xn, xc, rfl⟩ : ∃ o n c, x = .slice o n c := by obtain ⟨ao, cap, e⟩ := hxr.sl; exact ⟨_, _, _, e⟩
        have hxl : (P.getD i []).length = xn := hxr.len
        have hxb : xn ≤ 100000 := by rw [← hxl]; exact HBL.out i
        change wr.cell? ⟨gp, op + i, none⟩ = some (.slice xo xn xc) at hx2
        obtain ⟨d1, d2, d3, d4⟩ := H1.out.ln.box.cells
        have hwl := H1.out.wts.rg.len
        obtain ⟨z, hz⟩ : ∃ z, Wt[i]? = some z := ⟨_, List.getElem?_eq_getElem (by omega)⟩
        obtain ⟨hw1, hw2⟩ := H1.out.wts.cell hz
        have HS := H1.out.setW i (xn : Int)
        obtain ⟨W2, hW2⟩ : ∃ W, W = wr.setCell ⟨gw, i, none⟩ (.int .i64 (xn : Int)) := ⟨_, rfl⟩
        rw [← hW2] at HS
        have H2 : Hid (RtC w.heap.size (ChS g cvs) W2 rb (.slice (some ⟨gp, op, none⟩) pn pc) v g go gw pn cvs (fun j => chF P j pn) (List.replicate pn false) (Wt.set i (xn : Int)) L) := HS.1
        have HB2 : Hid (Below w.heap.size w W2) := HB.out.trans (HS.2.below HB.out.size (fun q e => by rw [e]; exact (H1.out.wts.lt gw rfl).1))
        have HW2 : Hid (WaI P (i + 1) (Wt.set i (xn : Int))) := by rw [← hxl]; exact HW.out.step (by rw [HN.out]; exact hlt)
        have HX : Hid (W2 = wr.setCell ⟨gw, i, none⟩ (.int .i64 (xn : Int))) := hW2
        have HXL : Hid ((P.getD i []).length = xn) := hxl
        clear HS hW2 hxl hz hwl hxr hx1 H1 HW HB
        go_upto_region 6 with fail
        rw [← HX.out]
        clear HX hw1 hw2 hx2 d1 d2 d3 d4
        by_cases h0 : xn = 0
        · subst h0
          have hll := HL.out.len
          have HLN : Hid (LnOk pn (upL (L ++ [(i : Int)]) L.length) (fun j => j < i + 1 ∧ (P.getD j []).length = 0)) := (HL.out.push hlt (fun h => by omega)).congr fun j _ => ⟨fun h => by
            rcases h with h | h
            · exact ⟨by omega, h.2⟩
            · subst h; exact ⟨by omega, HXL.out⟩, fun h => by
            by_cases e : j = i
            · exact Or.inr e
            · exact Or.inl ⟨by omega, h.2⟩⟩
          have CP : Hid _ := heapPush w.heap.size rb _ _ _ _ v L (i : Int) W2 H2.out.ln HB2.out.size (by omega)
          clear HL hll
          go_wp2_with fail
          refine Calls.mono CP.out ?_
          rintro e z ⟨rfl, ng, cap, hz1, hz2', hz3⟩
          have H3 : Hid (RtC w.heap.size (ChS g cvs) z rb (.slice (some ⟨gp, op, none⟩) pn pc) (.slice (some ⟨ng, 0, none⟩) (L.length + 1) cap) g go gw pn cvs (fun j => chF P j pn) (List.replicate pn false) (Wt.set i ((0 : Nat) : Int)) (upL (L ++ [(i : Int)]) L.length)) := H2.out.line hz1 (fun q hq => by
            have e1 : ng = q := by simpa [Value.ownBlock] using hq
            subst e1; exact hz2') hz3
          have HB3 : Hid (Below w.heap.size w z) := HB2.out.trans (hz3.below HB2.out.size (fun q e => by
            rcases e with e | e
            · rw [e]; exact H2.out.hB
            · exact (H2.out.ln.row.lt q e).1))
          clear CP hz1 hz2' hz3 H2 HB2
          go_wp2
          go_roundg (pn - (i + 1))
          case measure => omega
          case rel => exact ⟨i + 1, _, _, _, by first | rfl | go_num, by omega, Nat.le_refl _, H3, HW2, HLN, HB3⟩
        · have h0z : ((xn : Int) == 0) = false := by simp; omega
          have HLN : Hid (LnOk pn L (fun j => j < i + 1 ∧ (P.getD j []).length = 0)) := HL.out.congr fun j _ => ⟨fun h => ⟨by omega, h.2⟩, fun h => by
            have e : j ≠ i := fun e => h0 (by rw [← HXL.out, ← e]; exact h.2)
            exact ⟨by omega, h.2⟩⟩
          clear HL h0
          go_wp2
          go_roundg (pn - (i + 1))
          case measure => omega
          case rel => exact ⟨i + 1, _, _, _, by first | rfl | go_num, by omega, Nat.le_refl _, H2, HW2, HLN, HB2⟩
      · have hltz : ¬ (i : Int) < (pn : Int) := by omega
        obtain rfl : i = pn := by omega
        have HRES : Hid (RoE w (.slice po i pc) P i rb wr) := ⟨_, _, _, _, _, _, _, _, _, H1.out, fun j hj => by rw [List.getElem?_replicate, if_pos hj]; simp, WaI.done (by rw [HN.out]; exact HW.out), HL.out.congr fun j hj => ⟨fun h => (rdy_nil P j).2 h.2, fun h => ⟨hj, (rdy_nil P j).1 h⟩⟩, HB.out⟩
        clear H1 HW HL HB
        go_wp2
        go_ret
        exact ⟨rb, rfl, HRES.out⟩
end Go.Proofs.YthdpomgpcblpeaaGreat

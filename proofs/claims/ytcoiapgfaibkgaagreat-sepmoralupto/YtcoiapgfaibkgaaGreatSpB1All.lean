/-
  Proved here: layer 16's law: roomy (numbers in memory of their own, with marked room behind) and still (they are as they were).
  Proved here: layer 16's law: twin (parents in memory of their own) and kept (they are as they were).
  Proved here: layer 16's law: has; points (points out of any numbers).
-/
import Derived.Test.YtcoiapgfaibkgaaGreatSpLAll
import Derived.Test.YtcoiapgfaibkgaaGreatDagVAll
namespace Go.Proofs.YtcoiapgfaibkgaaGreat
set_option linter.unusedVariables false
open Go.RowKit
/-- The marks behind a list. -/
def mk16 : List Int := [-77, -77, -77, -77]
/-- A list with its first marks. -/
def rmL (L : List Int) (i : Nat) : List Int := L ++ List.replicate i (-77)
theorem rmL_zero (L : List Int) : rmL L 0 = L := by simp [rmL]
theorem rmL_succ (L : List Int) (i : Nat) : rmL L (i + 1) = rmL L i ++ [-77] := by unfold rmL; rw [List.append_assoc, ← List.replicate_succ']
theorem rmL_len (L : List Int) (i : Nat) : (rmL L i).length = L.length + i := by simp [rmL]
theorem rmL_four (L : List Int) : rmL L 4 = L ++ mk16 := rfl
/-- A list of the call's own with four marks behind it. -/
def RmB (B : Nat) (w : World) (u : Value) (L : List Int) : Prop := ∃ g cap, u = .slice (some ⟨g, 0, none⟩) L.length cap ∧ OG (Value.int .i64) B 3 w (.slice (some ⟨g, 0, none⟩) (L.length + 4) cap) (L ++ mk16)
theorem RmB.below {B : Nat} {w w' : World} {u : Value} {L : List Int} (h : RmB B w u L) (hb : Below w.heap.size w w') : RmB B w' u L := by
  obtain ⟨g, cap, h1, h2⟩ := h
  exact ⟨g, cap, h1, h2.below hb⟩
theorem RmB.mono {B B' : Nat} {w : World} {u : Value} {L : List Int} (h : RmB B w u L) (hB : B' ≤ B) : RmB B' w u L := by
  obtain ⟨g, cap, h1, h2⟩ := h
  exact ⟨g, cap, h1, h2.mono hB⟩
theorem RmB.of_blocks {B : Nat} {w w' : World} {u : Value} {L : List Int} (h : RmB B w u L) (hb : ∀ q, B ≤ q → q < w.heap.size → u.ownBlock = some q → w'.heap[q]? = w.heap[q]?) : RmB B w' u L := by
  obtain ⟨g, cap, h1, h2⟩ := h
  exact ⟨g, cap, h1, h2.of_blocks fun q hq => hb q (h2.lt q hq).1 (h2.lt q hq).2 (by rw [h1]; exact hq)⟩
theorem RmB.lt {B : Nat} {w : World} {u : Value} {L : List Int} (h : RmB B w u L) : ∀ q, u.ownBlock = some q → B ≤ q ∧ q < w.heap.size := by
  obtain ⟨g, cap, rfl, h2⟩ := h
  exact fun q hq => h2.lt q hq
theorem RmB.rg {B : Nat} {w : World} {u : Value} {L : List Int} (h : RmB B w u L) : RG (Value.int .i64) w u L := by
  obtain ⟨g, cap, rfl, h2⟩ := h
  have h3 := h2.rg.cut (m := L.length) (by omega)
  rw [List.take_left] at h3
  exact h3
set_option maxHeartbeats 4000000 in
set_option maxRecDepth 1000000 in
theorem roomy16 (v : Value) (L : List Int) (w : World) (hv : RG (Value.int .i64) w v L) (hz : L.length ≤ 1048576) : Calls Tryz.prog 10 #[v] w fun e w' => ∃ u, e = .returned u ∧ RmB w.heap.size w' u L ∧ Below w.heap.size w w' := by
  obtain ⟨i0, hi, hz0, hz1, hz2⟩ := info_parts Tryz.infoI
  have HV : Hid (RG (Value.int .i64) w v L) := hv
  have HL0 : Hid (L.length ≤ 1048576) := hz
  obtain ⟨ao, cap, rfl, -⟩ := hv
  obtain ⟨n, hn⟩ : ∃ n, L.length = n := ⟨_, rfl⟩
  have HN : Hid (L.length = n) := hn
  rw [hn] at HV ⊢
  clear hn hz
  go_enter Tryz.func10, Tryz.ntmps10
  go_wp2_with (at_builtin; refine wpList_appG _ (fun _ => rfl) rfl _ _ 23 rfl w.heap.size 3 i0 (.int .i64 0) 8 Tryz.underlying23 hi hz0 hz1 hz2 rfl _ _ [] L rfl (OG.nil _ _ _) rfl HV.out (by have := HL0.out; unfold maxLen; simp only [List.length_nil]; omega) (by have := HL0.out; simp only [List.length_nil]; omega) (Nat.le_refl _) ?_)
  intro v1 w1 ho1 hg1
  have O1 : Hid (OG (Value.int .i64) w.heap.size 3 w1 v1 (rmL L 0)) := by rw [rmL_zero]; exact ho1
  have B1 : Hid (Below w.heap.size w w1) := (OG.nil (enc := Value.int .i64) w.heap.size 3 w).grown (Below.refl _ _) (Nat.le_refl _) hg1
  clear ho1 hg1 HV
  go_wp2
  go_loopg [3, 4] 4 (fun g1 v3 v4 wr => ∃ (i : Nat) (vt : Value), vt = v3 ∧ v4 = .int .i64 i ∧ i ≤ 4 ∧ 4 - i ≤ g1 ∧ Hid (OG (Value.int .i64) w.heap.size 3 wr vt (rmL L i)) ∧ Hid (Below w.heap.size w wr))
  case atStart => exact ⟨0, _, rfl, rfl, Nat.zero_le _, by omega, O1, B1⟩
  case round =>
    clear O1 B1
    obtain ⟨i, vt, rfl, rfl, hin, hg1, HO, HBW⟩ := hrel
    have HL : Hid ((rmL L i).length ≤ 1048580) := by show _ ≤ _; rw [rmL_len]; have := HL0.out; omega
    by_cases hlt : i < 4
    · have hltz : (i : Int) < 4 := by omega
      have Oa : Hid (OG (Value.int .i64) w.heap.size 3 (wr.alloc (.cells #[.int .i64 (-77)] 3)) vt (rmL L i)) := HO.out.below ((Below.refl _ _).alloc (Nat.le_refl _) _)
      have Ra : Hid (RG (Value.int .i64) (wr.alloc (.cells #[.int .i64 (-77)] 3)) (.slice (some ⟨wr.heap.size, 0, none⟩) 1 1) [-77]) := (OG.lit (enc := Value.int .i64) 3 wr [-77] (by unfold maxLen; simp)).rg
      have Za : Hid (w.heap.size ≤ (wr.alloc (.cells #[.int .i64 (-77)] 3)).heap.size) := Nat.le_trans HBW.out.size (by simp)
      have Ba : Hid (Below w.heap.size w (wr.alloc (.cells #[.int .i64 (-77)] 3))) := HBW.out.alloc HBW.out.size _
      have HS : Hid (rmL L (i + 1) = rmL L i ++ [-77]) := rmL_succ L i
      go_wp2_with (at_builtin; refine wpList_appG _ (fun _ => rfl) rfl _ _ 23 rfl w.heap.size 3 i0 (.int .i64 0) 8 Tryz.underlying23 hi hz0 hz1 hz2 rfl _ _ (rmL L i) [-77] rfl Oa.out rfl Ra.out (by have := HL.out; unfold maxLen; simp only [List.length_cons, List.length_nil]; omega) (by have := HL.out; simp only [List.length_cons, List.length_nil]; omega) Za.out ?_)
      intro v2 w2 ho2 hg2
      have O2 : Hid (OG (Value.int .i64) w.heap.size 3 w2 v2 (rmL L (i + 1))) := by rw [HS.out]; exact ho2
      have B2 : Hid (Below w.heap.size w w2) := Oa.out.grown Ba.out Za.out hg2
      clear ho2 hg2 Oa Ra Za Ba HO HBW
      go_wp2
      go_roundg (4 - (i + 1))
      case measure => omega
      case rel => exact ⟨i + 1, _, rfl, by go_num, by omega, Nat.le_refl _, O2, B2⟩
    · have hltz : ¬ (i : Int) < 4 := by omega
      have hi2 : i = 4 := by omega
      subst hi2
      have HO2 : Hid (OG (Value.int .i64) w.heap.size 3 wr vt (L ++ mk16)) := HO.out
      obtain ⟨bo, bc, hb0, hb1, hb2, -⟩ := HO2.out.sl
      have hln : (L ++ mk16).length = n + 4 := by simp [mk16, HN.out]
      rw [hln] at hb0 hb1 hb2
      obtain ⟨g, hgB, rfl⟩ := hb1 (by omega)
      subst hb0
      have hnc : n ≤ bc := by omega
      clear HL hln hb2 HO
      go_wp2
      go_ret
      refine ⟨_, rfl, ⟨g, bc, ?_, ?_⟩, HBW.out⟩
      · show _ = Value.slice _ L.length _
        rw [HN.out]; rfl
      · rw [HN.out]; exact HO2.out
set_option maxHeartbeats 4000000 in
set_option maxRecDepth 1000000 in
theorem still16 (B : Nat) (u v : Value) (L : List Int) (w : World) (hu : RmB B w u L) (hv : RG (Value.int .i64) w v L) (hz : L.length ≤ 1048576) : Calls Tryz.prog 15 #[u, v] w fun e w' => e = .returned (.bool true) ∧ ∃ q, w' = w.drewN q := by
  obtain ⟨g, cap, rfl, hu2⟩ := hu
  obtain ⟨n, hn⟩ : ∃ n, L.length = n := ⟨_, rfl⟩
  rw [hn] at hu2 hz ⊢
  obtain ⟨vo, vc, rfl⟩ : ∃ o c, v = .slice o n c := by obtain ⟨ao, c, e⟩ := hv.sl; exact ⟨_, _, by rw [← hn]; exact e⟩
  have HU : Hid (OG (Value.int .i64) B 3 w (.slice (some ⟨g, 0, none⟩) (n + 4) cap) (L ++ mk16)) := hu2
  have HV : Hid (RG (Value.int .i64) w (.slice vo n vc) L) := hv
  have hcap : n + 4 ≤ cap := hu2.rg.room.1
  have HN : Hid (L.length = n) := hn
  clear hu2 hv hn
  go_enter Tryz.func15, Tryz.ntmps15
  go_wp2
  go_loopg [6] 4 (fun g1 v6 wr => ∃ (i q : Nat), v6 = .int .i64 i ∧ i ≤ 4 ∧ 4 - i ≤ g1 ∧ Hid (wr = w.drewN q))
  case atStart => exact ⟨0, 0, rfl, Nat.zero_le _, by omega, rfl⟩
  case round =>
    obtain ⟨i, q0, rfl, hin, hg1, HQ⟩ := hrel
    by_cases hlt : i < 4
    · have hltz : (i : Int) < 4 := by omega
      have hx : (L ++ mk16)[n + i]? = some (-77) := by
        rw [List.getElem?_append_right (by rw [HN.out]; omega), HN.out, Nat.add_sub_cancel_left]
        match i, hlt with
        | 0, _ => rfl
        | 1, _ => rfl
        | 2, _ => rfl
        | 3, _ => rfl
      have hc : wr.cell? ⟨g, n + i, none⟩ = some (.int .i64 (-77)) := by rw [HQ.out]; exact ((HU.out.of_blocks (w' := w.drewN q0) fun q _ => by rw [heap_drewG]).cell hx).1
      clear hx
      go_wp2
      go_roundg (4 - (i + 1))
      case measure => omega
      case rel => exact ⟨i + 1, _, by go_num, by omega, Nat.le_refl _, HQ⟩
    · have hltz : ¬ (i : Int) < 4 := by omega
      have H1 : RG (Value.int .i64) wr (.slice (some ⟨g, 0, none⟩) n cap) L := by
        have h3 := HU.out.rg.cut (m := n) (by omega)
        rw [List.take_left' HN.out] at h3
        rw [HQ.out]; exact h3.drewN q0
      have CS : Hid (Calls Tryz.prog 35 #[.slice (some ⟨g, 0, none⟩) n cap, .slice vo n vc] wr fun e w' => e = .returned (.bool true) ∧ ∃ q, w' = wr.drewN q) := Calls.mono (sameD _ _ L L wr H1 (by rw [HQ.out]; exact HV.out.drewN q0)) (fun e w' h => ⟨h.1.trans (by rw [decide_eq_true rfl]), h.2⟩)
      clear H1
      go_wp2_with fail
      refine Calls.mono CS.out ?_
      rintro e y ⟨rfl, q1, rfl⟩
      clear CS
      go_wp2
      go_ret
      exact ⟨rfl, _, by rw [HQ.out]; exact drewR_add _ _ _⟩
end Go.Proofs.YtcoiapgfaibkgaaGreat

namespace Go.Proofs.YtcoiapgfaibkgaaGreat
set_option linter.unusedVariables false
open Go.RowKit
/-- The first i of some parents, in memory of the call's own, each with marked room behind it. -/
structure TwI (B : Nat) (w w' : World) (P : List (List Int)) (i : Nat) (v : Value) (vs : List Value) : Prop where
  frm : Below B w w'
  row : OG id B 23 w' v vs
  len : vs.length = i
  inn : ∀ (j : Nat) (u : Value), vs[j]? = some u → RmB B w' u (P.getD j [])
theorem TwI.below {B : Nat} {w w1 w2 : World} {P : List (List Int)} {i : Nat} {v : Value} {vs : List Value} (h : TwI B w w1 P i v vs) (hB : B ≤ w1.heap.size) (hb : Below w1.heap.size w1 w2) : TwI B w w2 P i v vs :=
  ⟨h.frm.trans (hb.mono hB), h.row.below hb, h.len, fun j u hu => (h.inn j u hu).below hb⟩
theorem TwI.rrd {B : Nat} {w w' : World} {P : List (List Int)} {v : Value} {vs : List Value} (h : TwI B w w' P P.length v vs) : RRD w' v vs P :=
  ⟨h.row.rg, h.len, fun j u hu => (h.inn j u hu).rg⟩
theorem RmB.neO {B B' e' : Nat} {w : World} {u v : Value} {L : List Int} {M : List Value} (h : RmB B w u L) (h' : OG id B' e' w v M) (hne : 3 ≠ e') {q : Nat} (hq : u.ownBlock = some q) : v.ownBlock ≠ some q := by
  obtain ⟨g, cap, rfl, h2⟩ := h
  exact OG.neO h2 h' hne hq
theorem TwI.push {B : Nat} {w W W2 : World} {P : List (List Int)} {i : Nat} {v v' u : Value} {vs : List Value} (h : TwI B w W P i v vs) (hB : B ≤ W.heap.size) (hu : RmB B W u (P.getD i [])) (ho : OG id B 23 W2 v' (vs ++ [u])) (hg : W.grownBy W2 v.ownBlock) : TwI B w W2 P (i + 1) v' (vs ++ [u]) := by
  refine ⟨h.row.grown h.frm hB hg, ho, by rw [List.length_append, h.len]; rfl, fun j x hx => ?_⟩
  have hlen := h.len
  have stay : ∀ (x : Value) (L : List Int), RmB B W x L → RmB B W2 x L := fun x L hxx => hxx.of_blocks fun q _ h2 hq => hg.block q h2 (fun e => hxx.neO h.row (by decide) hq e.symm)
  by_cases e : j < vs.length
  · rw [List.getElem?_append_left e] at hx
    exact stay _ _ (h.inn j x hx)
  · have h1 := (List.getElem?_eq_some_iff.1 hx).1
    rw [List.length_append, List.length_singleton] at h1
    have e1 : j = vs.length := by omega
    subst e1
    rw [List.getElem?_append_right (Nat.le_refl _), Nat.sub_self] at hx
    have e2 : u = x := by simpa using hx
    subst e2
    rw [hlen]
    exact stay _ _ hu
set_option maxRecDepth 1000000 in
set_option maxHeartbeats 6400000 in
theorem twin16 (pv : Value) (pvs : List Value) (P : List (List Int)) (w : World) (h : RRD w pv pvs P) (n : Nat) (hn : P.length = n) (hb : n ≤ 100000) (hbl : ∀ i, (P.getD i []).length ≤ 1048576) :
    Calls Tryz.prog 9 #[pv] w fun e w' => ∃ v vs, e = .returned v ∧ TwI w.heap.size w w' P n v vs := by
  obtain ⟨i1, hi1, ha0, ha1, ha2⟩ := info_parts Tryz.infoRD
  obtain ⟨po, pn, pc, rfl⟩ : ∃ o n c, pv = .slice o n c := by obtain ⟨ao, cap, e⟩ := h.out.sl; exact ⟨_, _, _, e⟩
  obtain rfl : pn = n := by rw [← hn, ← h.len, h.out.len]
  have HR : Hid (RRD w (.slice po pn pc) pvs P) := h
  have HN : Hid (P.length = pn) := hn
  have HBL : Hid (∀ i, (P.getD i []).length ≤ 1048576) := hbl
  clear h hn hbl
  go_enter Tryz.func9, Tryz.ntmps9
  go_wp2
  go_loopg [3, 4] pn (fun g1 v3 v4 wr => ∃ (i : Nat) (lo : Option Addr) (ln lc : Nat) (vs : List Value), v3 = .slice lo ln lc ∧ v4 = .int .i64 i ∧ i ≤ pn ∧ pn - i ≤ g1 ∧ Hid (TwI w.heap.size w wr P i (.slice lo ln lc) vs))
  case atStart => exact ⟨0, none, 0, 0, [], rfl, rfl, Nat.zero_le _, by omega, ⟨Below.refl _ _, OG.nil _ _ _, rfl, fun j u hu => by simp at hu⟩⟩
  case round =>
    obtain ⟨i, lo, ln, lc, vs, rfl, rfl, hin, hg1, HI⟩ := hrel
    by_cases hlt : i < pn
    · have hltz : (i : Int) < (pn : Int) := by omega
      obtain ⟨x, gp, op, hx1, rfl, hx0⟩ := HR.out.out.at hlt
      have hxr := HR.out.inn i x hx1
      obtain ⟨xo, xn, xc, rfl⟩ : ∃ o n c, x = .slice o n c := by obtain ⟨ao, cap, e⟩ := hxr.sl; exact ⟨_, _, _, e⟩
      change w.cell? ⟨gp, op + i, none⟩ = some (.slice xo xn xc) at hx0
      have CL : Hid _ := roomy16 _ _ wr (hxr.below (Nat.le_refl _) HI.out.frm) (HBL.out i)
      have hx2 : wr.cell? ⟨gp, op + i, none⟩ = some (.slice xo xn xc) := keepR HI.out.frm hx0
      clear hxr hx1 hx0
      go_wp2_with fail
      refine Calls.mono CL.out ?_
      rintro e y ⟨u, rfl, hu, hy2⟩
      obtain ⟨uo, un, uc, rfl⟩ : ∃ o n c, u = .slice o n c := by obtain ⟨g, cap, e, -⟩ := hu; exact ⟨_, _, _, e⟩
      have HU : Hid (RmB w.heap.size y (.slice uo un uc) (P.getD i [])) := hu.mono HI.out.frm.size
      have HI1 : Hid (TwI w.heap.size w y P i (.slice lo ln lc) vs) := HI.out.below HI.out.frm.size hy2
      clear CL hu hy2 HI hx2
      obtain ⟨WA, hWA⟩ : ∃ W, W = y.alloc (.cells #[.slice uo un uc] 23) := ⟨_, rfl⟩
      obtain ⟨gb, hgb⟩ : ∃ g, g = y.heap.size := ⟨_, rfl⟩
      have hBA : Below y.heap.size y WA := by rw [hWA]; exact belowB _ _
      have HIA : Hid (TwI w.heap.size w WA P i (.slice lo ln lc) vs) := HI1.out.below HI1.out.frm.size hBA
      have HUA : Hid (RmB w.heap.size WA (.slice uo un uc) (P.getD i [])) := HU.out.below hBA
      have HCB : Hid (WA.cell? ⟨gb, 0, none⟩ = some (id (.slice uo un uc))) := by show _ = _; rw [hWA, hgb, World.cell?_alloc_at _ _ _ _ rfl]; rfl
      have HWA : Hid (WA = y.alloc (.cells #[.slice uo un uc] 23)) := hWA
      have HGB : Hid (gb = y.heap.size) := hgb
      clear hWA hgb HI1 HU hBA
      go_wp2_with (at_builtin; rw [← HWA.out, ← HGB.out]; refine wpList_pushV (enc := id) _ rfl _ _ 22 rfl w.heap.size 23 i1 (.slice none 0 0) 24 Tryz.underlying22 hi1 ha0 ha1 ha2 rfl _ vs rfl HIA.out.row gb (.slice uo un uc) rfl HCB.out rfl (by have := HIA.out.len; unfold maxLen; omega) (by have := HIA.out.len; omega) HIA.out.frm.size ?_)
      intro ng tm ncap W2 ho hg3 hng _
      have HI2 : Hid (TwI w.heap.size w W2 P (i + 1) (.slice (some ⟨ng, 0, none⟩) tm ncap) (vs ++ [.slice uo un uc])) := HIA.out.push HIA.out.frm.size HUA.out ho hg3
      clear ho hg3 hng HIA HUA HCB HWA HGB
      go_wp2
      go_roundg (pn - (i + 1))
      case measure => omega
      case rel => exact ⟨i + 1, _, _, _, _, rfl, by go_num, by omega, Nat.le_refl _, HI2⟩
    · have hltz : ¬ (i : Int) < (pn : Int) := by omega
      obtain rfl : i = pn := by omega
      go_wp2
      go_ret
      exact ⟨_, rfl, _, HI.out⟩
set_option maxRecDepth 1000000 in
set_option maxHeartbeats 6400000 in
theorem kept16 (B : Nat) (w0 : World) (mv pv : Value) (pvs vs : List Value) (P : List (List Int)) (w : World) (h : RRD w pv pvs P) (n : Nat) (hn : P.length = n) (hbl : ∀ i, (P.getD i []).length ≤ 1048576) (hm : TwI B w0 w P n mv vs) :
    Calls Tryz.prog 14 #[mv, pv] w fun e w' => e = .returned (.bool true) ∧ ∃ q, w' = w.drewN q := by
  obtain ⟨po, pn, pc, rfl⟩ : ∃ o n c, pv = .slice o n c := by obtain ⟨ao, cap, e⟩ := h.out.sl; exact ⟨_, _, _, e⟩
  obtain rfl : pn = n := by rw [← hn, ← h.len, h.out.len]
  obtain ⟨mo, mn, mc, rfl⟩ : ∃ o n c, mv = .slice o n c := by obtain ⟨ao, cap, e⟩ := hm.row.rg.sl; exact ⟨_, _, _, e⟩
  obtain rfl : mn = pn := by rw [← hm.row.rg.len, hm.len]
  have hmx : mn ≤ 9223372036854775807 := by have := h.out.room.2.1; have := h.out.room.1; unfold maxLen at *; omega
  have HR : Hid (RRD w (.slice po mn pc) pvs P) := h
  have HM : Hid (TwI B w0 w P mn (.slice mo mn mc) vs) := hm
  have HBL : Hid (∀ i, (P.getD i []).length ≤ 1048576) := hbl
  clear h hm hn hbl
  go_enter Tryz.func14, Tryz.ntmps14
  go_wp2
  go_loopg [5] mn (fun g1 v5 wr => ∃ (i q : Nat), v5 = .int .i64 i ∧ i ≤ mn ∧ mn - i ≤ g1 ∧ Hid (wr = w.drewN q))
  case atStart => exact ⟨0, 0, rfl, Nat.zero_le _, by omega, rfl⟩
  case round =>
    obtain ⟨i, q0, rfl, hin, hg1, HQ⟩ := hrel
    by_cases hlt : i < mn
    · have hltz : (i : Int) < (mn : Int) := by omega
      obtain ⟨x, gp, op, hx1, rfl, hx2⟩ := HR.out.out.at hlt
      obtain ⟨y, gy, oy, hy1, rfl, hy2⟩ := HM.out.row.rg.at hlt
      have hxr := HR.out.inn i x hx1
      have hyr := HM.out.inn i y hy1
      obtain ⟨xo, xn, xc, rfl⟩ : ∃ o n c, x = .slice o n c := by obtain ⟨ao, cap, e⟩ := hxr.sl; exact ⟨_, _, _, e⟩
      obtain ⟨yo, yn, yc, rfl⟩ : ∃ o n c, y = .slice o n c := by obtain ⟨g, cap, e, -⟩ := hyr; exact ⟨_, _, _, e⟩
      have hx3 : wr.cell? ⟨gp, op + i, none⟩ = some (.slice xo xn xc) := by rw [HQ.out]; exact hx2
      have hy3 : wr.cell? ⟨gy, oy + i, none⟩ = some (.slice yo yn yc) := by rw [HQ.out]; exact hy2
      have CS : Hid (∀ k, Calls Tryz.prog 15 #[.slice yo yn yc, .slice xo xn xc] (wr.drewN k) fun e w' => e = .returned (.bool true) ∧ ∃ q, w' = (wr.drewN k).drewN q) := fun k => still16 B _ _ _ _ (by rw [HQ.out]; exact hyr.of_blocks fun q _ _ _ => by rw [heap_drewG, heap_drewG]) (by rw [HQ.out]; exact (hxr.drewN _).drewN _) (HBL.out i)
      clear hx2 hy2 hx1 hy1 hxr hyr
      go_wp2
      go_quiet ((go_at_call 15; exact Calls.quiet_of (CS.out _)))
      clear hx3 hy3 CS
      go_wp2
      go_roundg (mn - (i + 1))
      case measure => omega
      case rel => exact ⟨i + 1, _, by first | rfl | go_num, by omega, Nat.le_refl _, by show _ = _; rw [HQ.out]; exact drewR_add _ _ _⟩
    · have hltz : ¬ (i : Int) < (mn : Int) := by omega
      clear hltz
      have hltz : ¬ (i : Int) < (mn : Int) := by omega
      go_wp2
      go_ret
      exact ⟨rfl, _, HQ.out⟩
end Go.Proofs.YtcoiapgfaibkgaaGreat

namespace Go.Proofs.YtcoiapgfaibkgaaGreat
set_option linter.unusedVariables false
open Go.RowKit
/-- Points, all of them. -/
def PtsI (n : Nat) (L : List Int) : Prop := ∀ x ∈ L, ∃ p : Nat, x = (p : Int) ∧ p < n
theorem PtsI.snoc {n : Nat} {L : List Int} (h : PtsI n L) {r : Int} (h0 : 0 ≤ r) (h1 : r < (n : Int)) : PtsI n (L ++ [r]) := fun x hx => by
  rcases List.mem_append.1 hx with h2 | h2
  · exact h x h2
  · have e : x = r := by simpa using h2
    subst e
    exact ⟨x.toNat, by omega, by omega⟩
set_option maxRecDepth 1000000 in
set_option maxHeartbeats 3200000 in
theorem points16 (v : Value) (L : List Int) (n : Nat) (w : World) (hv : RG (Value.int .i64) w v L) (hl : L.length ≤ 1048576) (hn : n ≤ 100000) :
    Calls Tryz.prog 23 #[v, .int .i64 (n : Int)] w fun e w' => ∃ u M, e = .returned u ∧ OG (Value.int .i64) w.heap.size 3 w' u M ∧ PtsI n M ∧ M.length ≤ L.length ∧ Below w.heap.size w w' := by
  obtain ⟨i0, hi, hz0, hz1, hz2⟩ := info_parts Tryz.infoI
  obtain ⟨vo, vn, vc, rfl⟩ : ∃ o n c, v = .slice o n c := by obtain ⟨ao, cap, e⟩ := hv.sl; exact ⟨_, _, _, e⟩
  have HV : Hid (RG (Value.int .i64) w (.slice vo vn vc) L) := hv
  have HVN : Hid (L.length = vn) := hv.len
  have hvl : vn ≤ 1048576 := by rw [← hv.len]; exact hl
  clear hv hl
  go_enter Tryz.func23, Tryz.ntmps23
  go_wp2
  go_loopg [5, 6, 7] vn (fun g1 v5 v6 _v7 wr => ∃ (i : Nat) (lo : Option Addr) (ln lc : Nat) (M : List Int), v5 = .slice lo ln lc ∧ v6 = .int .i64 i ∧ i ≤ vn ∧ vn - i ≤ g1 ∧ M.length ≤ i ∧ Hid (OG (Value.int .i64) w.heap.size 3 wr (.slice lo ln lc) M) ∧ Hid (PtsI n M) ∧ Hid (Below w.heap.size w wr))
  case atStart => exact ⟨0, none, 0, 0, [], rfl, rfl, Nat.zero_le _, by omega, by simp, OG.nil _ _ _, (fun x hx => by simp at hx), Below.refl _ _⟩
  case round =>
    obtain ⟨i, lo, ln, lc, M, rfl, rfl, hin, hg1, hM, HO, HP, HB⟩ := hrel
    by_cases hlt : i < vn
    · have hltz : (i : Int) < (vn : Int) := by omega
      by_cases hn0 : 0 < n
      · have hnz : (0 : Int) < (n : Int) := by omega
        have hnz2 : ¬ ((n : Int) = 0) := by omega
        obtain ⟨x, gx, ox, hx1, rfl, hx0⟩ := HV.out.at hlt
        have hx2 : wr.cell? ⟨gx, ox + i, none⟩ = some (.int .i64 x) := keepR HB.out hx0
        obtain ⟨r, hr⟩ : ∃ r, x.tmod (n : Int) = r := ⟨_, rfl⟩
        have hr1 : r < (n : Int) := by rw [← hr]; exact Int.tmod_lt_of_pos x hnz
        have hr2 : -(n : Int) < r := by
          have h1 := Int.tmod_lt_of_pos (-x) hnz
          rw [Int.neg_tmod] at h1
          omega
        have hrw : IntKind.i64.wrap r = r := by rw [IntKind.wrap_i64]; omega
        clear hx1 hx0
        have HLN : Hid (M.length ≤ 1048576) := by show _ ≤ _; omega
        by_cases hneg : r < 0
        · obtain ⟨s, hs⟩ : ∃ s, r + (n : Int) = s := ⟨_, rfl⟩
          have hs0 : 0 ≤ s := by omega
          have hs1 : s < (n : Int) := by omega
          have hsw : IntKind.i64.wrap s = s := by rw [IntKind.wrap_i64]; omega
          obtain ⟨WA, hWA⟩ : ∃ W, W = wr.alloc (.cells #[.int .i64 s] 3) := ⟨_, rfl⟩
          obtain ⟨gb, hgb⟩ : ∃ g, g = wr.heap.size := ⟨_, rfl⟩
          have HBA : Hid (Below wr.heap.size wr WA) := by show Below _ _ _; rw [hWA]; exact belowB _ _
          have HCB : Hid (WA.cell? ⟨gb, 0, none⟩ = some (.int .i64 s)) := by show _ = _; rw [hWA, hgb, World.cell?_alloc_at _ _ _ _ rfl]; rfl
          have HWA : Hid (WA = wr.alloc (.cells #[.int .i64 s] 3)) := hWA
          have HGB : Hid (gb = wr.heap.size) := hgb
          have HBW : Hid (Below w.heap.size w WA) := bstepB HB.out HBA.out
          clear hWA hgb
          go_wp2_with (at_builtin; rw [← HWA.out, ← HGB.out]; refine wpList_pushV (enc := Value.int .i64) _ rfl _ _ 23 rfl w.heap.size 3 i0 (.int .i64 0) 8 Tryz.underlying23 hi hz0 hz1 hz2 rfl _ M rfl (HO.out.below HBA.out) gb s rfl HCB.out rfl (by have := HLN.out; unfold maxLen; omega) (by have := HLN.out; omega) HBW.out.size ?_)
          intro ng tm ncap W2 ho hg3 hng _
          have HO2 : Hid (OG (Value.int .i64) w.heap.size 3 W2 (.slice (some ⟨ng, 0, none⟩) tm ncap) (M ++ [s])) := ho
          have HP2 : Hid (PtsI n (M ++ [s])) := HP.out.snoc (by omega) (by omega)
          have HB2 : Hid (Below w.heap.size w W2) := (HO.out.below HBA.out).grown HBW.out HBW.out.size hg3
          have hM2 : (M ++ [s]).length ≤ i + 1 := by rw [List.length_append, List.length_singleton]; omega
          clear ho hg3 hng HO HB HP HBA HCB HWA HGB HBW HLN hx2
          go_wp2
          go_roundg (vn - (i + 1))
          case measure => omega
          case rel => exact ⟨i + 1, _, _, _, _, rfl, by go_num, by omega, Nat.le_refl _, hM2, HO2, HP2, HB2⟩
        · have hr0 : 0 ≤ r := by omega
          obtain ⟨WA, hWA⟩ : ∃ W, W = wr.alloc (.cells #[.int .i64 r] 3) := ⟨_, rfl⟩
          obtain ⟨gb, hgb⟩ : ∃ g, g = wr.heap.size := ⟨_, rfl⟩
          have HBA : Hid (Below wr.heap.size wr WA) := by show Below _ _ _; rw [hWA]; exact belowB _ _
          have HCB : Hid (WA.cell? ⟨gb, 0, none⟩ = some (.int .i64 r)) := by show _ = _; rw [hWA, hgb, World.cell?_alloc_at _ _ _ _ rfl]; rfl
          have HWA : Hid (WA = wr.alloc (.cells #[.int .i64 r] 3)) := hWA
          have HGB : Hid (gb = wr.heap.size) := hgb
          have HBW : Hid (Below w.heap.size w WA) := bstepB HB.out HBA.out
          clear hWA hgb
          go_wp2_with (at_builtin; rw [← HWA.out, ← HGB.out]; refine wpList_pushV (enc := Value.int .i64) _ rfl _ _ 23 rfl w.heap.size 3 i0 (.int .i64 0) 8 Tryz.underlying23 hi hz0 hz1 hz2 rfl _ M rfl (HO.out.below HBA.out) gb r rfl HCB.out rfl (by have := HLN.out; unfold maxLen; omega) (by have := HLN.out; omega) HBW.out.size ?_)
          intro ng tm ncap W2 ho hg3 hng _
          have HO2 : Hid (OG (Value.int .i64) w.heap.size 3 W2 (.slice (some ⟨ng, 0, none⟩) tm ncap) (M ++ [r])) := ho
          have HP2 : Hid (PtsI n (M ++ [r])) := HP.out.snoc (by omega) (by omega)
          have HB2 : Hid (Below w.heap.size w W2) := (HO.out.below HBA.out).grown HBW.out HBW.out.size hg3
          have hM2 : (M ++ [r]).length ≤ i + 1 := by rw [List.length_append, List.length_singleton]; omega
          clear ho hg3 hng HO HB HP HBA HCB HWA HGB HBW HLN hx2
          go_wp2
          go_roundg (vn - (i + 1))
          case measure => omega
          case rel => exact ⟨i + 1, _, _, _, _, rfl, by go_num, by omega, Nat.le_refl _, hM2, HO2, HP2, HB2⟩
      · have hnz : ¬ (0 : Int) < (n : Int) := by omega
        have hlen : Hid (M.length ≤ L.length) := by show _ ≤ _; rw [HVN.out]; omega
        go_wp2
        go_ret
        exact ⟨_, rfl, _, HO.out, HP.out, hlen.out, HB.out⟩
    · have hltz : ¬ (i : Int) < (vn : Int) := by omega
      have hlen : Hid (M.length ≤ L.length) := by show _ ≤ _; rw [HVN.out]; omega
      go_wp2
      go_ret
      exact ⟨_, rfl, _, HO.out, HP.out, hlen.out, HB.out⟩
set_option maxRecDepth 100000 in
set_option maxHeartbeats 1600000 in
theorem has16 (v : Value) (zs : List Int) (x : Int) (w : World) (hv : RG (Value.int .i64) w v zs) :
    Calls Tryz.prog 27 #[v, .int .i64 x] w fun e w' => e = .returned (.bool (decide (x ∈ zs))) ∧ w' = w := by
  obtain ⟨vo, vn, vc, rfl⟩ : ∃ o n c, v = .slice o n c := by obtain ⟨ao, cap, e⟩ := hv.sl; exact ⟨_, _, _, e⟩
  have hm : vn ≤ 9223372036854775807 := by have := hv.room.2.1; have := hv.room.1; unfold maxLen at *; omega
  have HV : Hid (RG (Value.int .i64) w (.slice vo vn vc) zs) := hv
  have HN : Hid (zs.length = vn) := hv.len
  clear hv
  go_enter Tryz.func27, Tryz.ntmps27
  go_wp2
  go_loopg [5] vn (fun g1 v5 wr => ∃ k : Nat, v5 = .int .i64 k ∧ k ≤ vn ∧ vn - k ≤ g1 ∧ Hid (x ∉ zs.take k) ∧ wr = w)
  case atStart => exact ⟨0, rfl, by omega, by omega, by show _ ∉ _; simp, rfl⟩
  case round =>
    obtain ⟨k, rfl, hk, hg1, HA, rfl⟩ := hrel
    by_cases hlt : k < vn
    · have hltz : (k : Int) < (vn : Int) := by omega
      obtain ⟨y, g, o, hy1, rfl, hy2⟩ := HV.out.at hlt
      have htk : zs.take (k + 1) = zs.take k ++ [y] := by rw [List.take_add_one, hy1]; rfl
      by_cases he : y = x
      · have HE : Hid (decide (x ∈ zs) = true) := decide_eq_true (by rw [← he]; exact List.mem_of_getElem? hy1)
        have hez : (y == x) = true := by simpa using he
        clear he hy1 htk HA
        go_wp2
        go_ret
        exact ⟨by rw [HE.out]; rfl, rfl⟩
      · have HA2 : Hid (x ∉ zs.take (k + 1)) := by
          show _ ∉ _
          rw [htk, List.mem_append, List.mem_singleton]
          exact fun h => h.elim HA.out (fun e => he e.symm)
        have hez : (y == x) = false := by simpa using he
        clear he hy1 htk HA
        go_wp2
        clear hy2
        go_roundg (vn - (k + 1))
        case measure => omega
        case rel => exact ⟨k + 1, by first | rfl | go_num, by omega, Nat.le_refl _, HA2, rfl⟩
    · have hltz : ¬ (k : Int) < (vn : Int) := by omega
      have HE : Hid (decide (x ∈ zs) = false) := by
        have := HA.out
        rw [List.take_of_length_le (by rw [HN.out]; omega)] at this
        exact decide_eq_false this
      clear HA
      go_wp2
      go_ret
      exact ⟨by rw [HE.out]; rfl, rfl⟩
end Go.Proofs.YtcoiapgfaibkgaaGreat

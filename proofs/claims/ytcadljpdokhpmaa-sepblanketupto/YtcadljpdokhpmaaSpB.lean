/-
  Proved here: layer 16's law: twin (parents in memory of their own) and kept (they are as they were).
-/
import Derived.Test.YtcadljpdokhpmaaSpA
import Derived.Test.YtcadljpdokhpmaaDagY
namespace Go.Proofs.Ytcadljpdokhpmaa
set_option linter.unusedVariables false
open Go.RowKit
/-- The first i of some parents, in memory of the call's own, each with marked room behind it. -/
structure TwI (B : Nat) (w w' : World) (P : List (List Int)) (i : Nat) (v : Value) (vs : List Value) : Prop where
  frm : Below B w w'
  row : OG id B 24 w' v vs
  len : vs.length = i
  inn : ∀ (j : Nat) (u : Value), vs[j]? = some u → RmB B w' u (P.getD j [])
theorem TwI.below {B : Nat} {w w1 w2 : World} {P : List (List Int)} {i : Nat} {v : Value} {vs : List Value} (h : TwI B w w1 P i v vs) (hB : B ≤ w1.heap.size) (hb : Below w1.heap.size w1 w2) : TwI B w w2 P i v vs :=
  ⟨h.frm.trans (hb.mono hB), h.row.below hb, h.len, fun j u hu => (h.inn j u hu).below hb⟩
theorem TwI.rrd {B : Nat} {w w' : World} {P : List (List Int)} {v : Value} {vs : List Value} (h : TwI B w w' P P.length v vs) : RRD w' v vs P :=
  ⟨h.row.rg, h.len, fun j u hu => (h.inn j u hu).rg⟩
theorem RmB.neO {B B' e' : Nat} {w : World} {u v : Value} {L : List Int} {M : List Value} (h : RmB B w u L) (h' : OG id B' e' w v M) (hne : 3 ≠ e') {q : Nat} (hq : u.ownBlock = some q) : v.ownBlock ≠ some q := by
  obtain ⟨g, cap, rfl, h2⟩ := h
  exact OG.neO h2 h' hne hq
theorem TwI.push {B : Nat} {w W W2 : World} {P : List (List Int)} {i : Nat} {v v' u : Value} {vs : List Value} (h : TwI B w W P i v vs) (hB : B ≤ W.heap.size) (hu : RmB B W u (P.getD i [])) (ho : OG id B 24 W2 v' (vs ++ [u])) (hg : W.grownBy W2 v.ownBlock) : TwI B w W2 P (i + 1) v' (vs ++ [u]) := by
  refine ⟨h.row.grown h.frm hB hg, ho, by rw [List.length_append, h.len]; rfl, fun j x hx => ?_⟩
  have hlen := h.len
  have stay : ∀ (x : Value) (L : List Int), RmB B W x L → RmB B W2 x L := fun x L hxx => hxx.of_blocks fun q _ h2 hq => hg.block q h2 (fun e => hxx.neO h.row (by decide) hq e.symm)
  by_cases e : j < vs.length
  · rw [List.getElem?_append_left e] at hx
    exact stay _ _ (h.inn j x hx)
  · have h1 := (List.getElem?_eq_some_iff.1 hx).1
    rw [List.length_append, List.length_singleton] at h1
    have e1 : j = vs.length := by omega
    subst e1
    rw [List.getElem?_append_right (Nat.le_refl _), Nat.sub_self] at hx
    have e2 : u = x := by simpa using hx
    subst e2
    rw [hlen]
    exact stay _ _ hu
set_option maxRecDepth 1000000 in
set_option maxHeartbeats 6400000 in
theorem twin16 (pv : Value) (pvs : List Value) (P : List (List Int)) (w : World) (h : RRD w pv pvs P) (n : Nat) (hn : P.length = n) (hb : n ≤ 100000) (hbl : ∀ i, (P.getD i []).length ≤ 1048576) :
    Calls Try.prog 4 #[pv] w fun e w' => ∃ v vs, e = .returned v ∧ TwI w.heap.size w w' P n v vs := by
  obtain ⟨i1, hi1, ha0, ha1, ha2⟩ := info_parts Try.infoRD
  obtain ⟨po, pn, pc, rfl⟩ : ∃ o n c, pv = .slice o n c := by obtain ⟨ao, cap, e⟩ := h.out.sl; exact ⟨_, _, _, e⟩
  obtain rfl : pn = n := by rw [← hn, ← h.len, h.out.len]
  have HR : Hid (RRD w (.slice po pn pc) pvs P) := h
  have HN : Hid (P.length = pn) := hn
  have HBL : Hid (∀ i, (P.getD i []).length ≤ 1048576) := hbl
  clear h hn hbl
  go_enter Try.func4, Try.ntmps4
  go_wp2
  go_loopg [3, 4] pn (fun g1 v3 v4 wr => ∃ (i : Nat) (lo : Option Addr) (ln lc : Nat) (vs : List Value), v3 = .slice lo ln lc ∧ v4 = .int .i64 i ∧ i ≤ pn ∧ pn - i ≤ g1 ∧ Hid (TwI w.heap.size w wr P i (.slice lo ln lc) vs))
  case atStart => exact ⟨0, none, 0, 0, [], rfl, rfl, Nat.zero_le _, by omega, ⟨Below.refl _ _, OG.nil _ _ _, rfl, fun j u hu => by simp at hu⟩⟩
  case round =>
    obtain ⟨i, lo, ln, lc, vs, rfl, rfl, hin, hg1, HI⟩ := hrel
    by_cases hlt : i < pn
    · have hltz : (i : Int) < (pn : Int) := by omega
      obtain ⟨x, gp, op, hx1, rfl, hx0⟩ := HR.out.out.at hlt
      have hxr := HR.out.inn i x hx1
      obtain ⟨xo, xn, xc, rfl⟩ : ∃ o n c, x = .slice o n c := by obtain ⟨ao, cap, e⟩ := hxr.sl; exact ⟨_, _, _, e⟩
      change w.cell? ⟨gp, op + i, none⟩ = some (.slice xo xn xc) at hx0
      have CL : Hid _ := roomy16 _ _ wr (hxr.below (Nat.le_refl _) HI.out.frm) (HBL.out i)
      have hx2 : wr.cell? ⟨gp, op + i, none⟩ = some (.slice xo xn xc) := keepR HI.out.frm hx0
      clear hxr hx1 hx0
      go_wp2_with fail
      refine Calls.mono CL.out ?_
      rintro e y ⟨u, rfl, hu, hy2⟩
      obtain ⟨uo, un, uc, rfl⟩ : ∃ o n c, u = .slice o n c := by obtain ⟨g, cap, e, -⟩ := hu; exact ⟨_, _, _, e⟩
      have HU : Hid (RmB w.heap.size y (.slice uo un uc) (P.getD i [])) := hu.mono HI.out.frm.size
      have HI1 : Hid (TwI w.heap.size w y P i (.slice lo ln lc) vs) := HI.out.below HI.out.frm.size hy2
      clear CL hu hy2 HI hx2
      obtain ⟨WA, hWA⟩ : ∃ W, W = y.alloc (.cells #[.slice uo un uc] 24) := ⟨_, rfl⟩
      obtain ⟨gb, hgb⟩ : ∃ g, g = y.heap.size := ⟨_, rfl⟩
      have hBA : Below y.heap.size y WA := by rw [hWA]; exact belowB _ _
      have HIA : Hid (TwI w.heap.size w WA P i (.slice lo ln lc) vs) := HI1.out.below HI1.out.frm.size hBA
      have HUA : Hid (RmB w.heap.size WA (.slice uo un uc) (P.getD i [])) := HU.out.below hBA
      have HCB : Hid (WA.cell? ⟨gb, 0, none⟩ = some (id (.slice uo un uc))) := by show _ = _; rw [hWA, hgb, World.cell?_alloc_at _ _ _ _ rfl]; rfl
      have HWA : Hid (WA = y.alloc (.cells #[.slice uo un uc] 24)) := hWA
      have HGB : Hid (gb = y.heap.size) := hgb
      clear hWA hgb HI1 HU hBA
      go_wp2_with (at_builtin; rw [← HWA.out, ← HGB.out]; refine wpList_pushV (enc := id) _ rfl _ _ 22 rfl w.heap.size 24 i1 (.slice none 0 0) 24 Try.underlying22 hi1 ha0 ha1 ha2 rfl _ vs rfl HIA.out.row gb (.slice uo un uc) rfl HCB.out rfl (by have := HIA.out.len; unfold maxLen; omega) (by have := HIA.out.len; omega) HIA.out.frm.size ?_)
      intro ng tm ncap W2 ho hg3 hng _
      have HI2 : Hid (TwI w.heap.size w W2 P (i + 1) (.slice (some ⟨ng, 0, none⟩) tm ncap) (vs ++ [.slice uo un uc])) := HIA.out.push HIA.out.frm.size HUA.out ho hg3
      clear ho hg3 hng HIA HUA HCB HWA HGB
      go_wp2
      go_roundg (pn - (i + 1))
      case measure => omega
      case rel => exact ⟨i + 1, _, _, _, _, rfl, by go_num, by omega, Nat.le_refl _, HI2⟩
    · have hltz : ¬ (i : Int) < (pn : Int) := by omega
      obtain rfl : i = pn := by omega
      go_wp2
      go_ret
      exact ⟨_, rfl, _, HI.out⟩
set_option maxRecDepth 1000000 in
set_option maxHeartbeats 6400000 in
theorem kept16 (B : Nat) (w0 : World) (mv pv : Value) (pvs vs : List Value) (P : List (List Int)) (w : World) (h : RRD w pv pvs P) (n : Nat) (hn : P.length = n) (hbl : ∀ i, (P.getD i []).length ≤ 1048576) (hm : TwI B w0 w P n mv vs) :
    Calls Try.prog 8 #[mv, pv] w fun e w' => e = .returned (.bool true) ∧ ∃ q, w' = w.drewN q := by
  obtain ⟨po, pn, pc, rfl⟩ : ∃ o n c, pv = .slice o n c := by obtain ⟨ao, cap, e⟩ := h.out.sl; exact ⟨_, _, _, e⟩
  obtain rfl : pn = n := by rw [← hn, ← h.len, h.out.len]
  obtain ⟨mo, mn, mc, rfl⟩ : ∃ o n c, mv = .slice o n c := by obtain ⟨ao, cap, e⟩ := hm.row.rg.sl; exact ⟨_, _, _, e⟩
  obtain rfl : mn = pn := by rw [← hm.row.rg.len, hm.len]
  have hmx : mn ≤ 9223372036854775807 := by have := h.out.room.2.1; have := h.out.room.1; unfold maxLen at *; omega
  have HR : Hid (RRD w (.slice po mn pc) pvs P) := h
  have HM : Hid (TwI B w0 w P mn (.slice mo mn mc) vs) := hm
  have HBL : Hid (∀ i, (P.getD i []).length ≤ 1048576) := hbl
  clear h hm hn hbl
  go_enter Try.func8, Try.ntmps8
  go_wp2
  go_loopg [5] mn (fun g1 v5 wr => ∃ (i q : Nat), v5 = .int .i64 i ∧ i ≤ mn ∧ mn - i ≤ g1 ∧ Hid (wr = w.drewN q))
  case atStart => exact ⟨0, 0, rfl, Nat.zero_le _, by omega, rfl⟩
  case round =>
    obtain ⟨i, q0, rfl, hin, hg1, HQ⟩ := hrel
    by_cases hlt : i < mn
    · have hltz : (i : Int) < (mn : Int) := by omega
      obtain ⟨x, gp, op, hx1, rfl, hx2⟩ := HR.out.out.at hlt
      obtain ⟨y, gy, oy, hy1, rfl, hy2⟩ := HM.out.row.rg.at hlt
      have hxr := HR.out.inn i x hx1
      have hyr := HM.out.inn i y hy1
      obtain ⟨xo, xn, xc, rfl⟩ : ∃ o n c, x = .slice o n c := by obtain ⟨ao, cap, e⟩ := hxr.sl; exact ⟨_, _, _, e⟩
      obtain ⟨yo, yn, yc, rfl⟩ : ∃ o n c, y = .slice o n c := by obtain ⟨g, cap, e, -⟩ := hyr; exact ⟨_, _, _, e⟩
      have hx3 : wr.cell? ⟨gp, op + i, none⟩ = some (.slice xo xn xc) := by rw [HQ.out]; exact hx2
      have hy3 : wr.cell? ⟨gy, oy + i, none⟩ = some (.slice yo yn yc) := by rw [HQ.out]; exact hy2
      have CS : Hid (∀ k, Calls Try.prog 19 #[.slice yo yn yc, .slice xo xn xc] (wr.drewN k) fun e w' => e = .returned (.bool true) ∧ ∃ q, w' = (wr.drewN k).drewN q) := fun k => still16 B _ _ _ _ (by rw [HQ.out]; exact hyr.of_blocks fun q _ _ _ => by rw [heap_drewG, heap_drewG]) (by rw [HQ.out]; exact (hxr.drewN _).drewN _) (HBL.out i)
      clear hx2 hy2 hx1 hy1 hxr hyr
      go_wp2
      go_quiet ((go_at_call 19; exact Calls.quiet_of (CS.out _)))
      clear hx3 hy3 CS
      go_wp2
      go_roundg (mn - (i + 1))
      case measure => omega
      case rel => exact ⟨i + 1, _, by first | rfl | go_num, by omega, Nat.le_refl _, by show _ = _; rw [HQ.out]; exact drewR_add _ _ _⟩
    · have hltz : ¬ (i : Int) < (mn : Int) := by omega
      clear hltz
      have hltz : ¬ (i : Int) < (mn : Int) := by omega
      go_wp2
      go_ret
      exact ⟨rfl, _, HQ.out⟩
end Go.Proofs.Ytcadljpdokhpmaa

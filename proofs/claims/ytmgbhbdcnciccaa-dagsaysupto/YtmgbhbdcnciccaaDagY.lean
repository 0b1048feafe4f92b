/-
  Proved here: the law's lent: parents to be handed in, each list a piece of a longer one.
-/
import Derived.Test.YtmgbhbdcnciccaaDagXAll
namespace Go.Proofs.Ytmgbhbdcnciccaa
set_option linter.unusedVariables false
open Go.RowKit
/-- How memory stands while lists are lent. -/
structure LtI (w W : World) (P : List (List Int)) (i : Nat) (vF vL : Value) (fvs lvs : List Value) : Prop where
  full : OG id w.heap.size 24 W vF fvs
  lent : OG id w.heap.size 24 W vL lvs
  apt : ∀ q, vF.ownBlock = some q → vL.ownBlock ≠ some q
  flen : fvs.length = i
  llen : lvs.length = i
  each : ∀ j, j < i → ∃ g cap, fvs[j]? = some (.slice (some ⟨g, 0, none⟩) ((P.getD j []).length + 6) cap) ∧ lvs[j]? = some (.slice (some ⟨g, 0, none⟩) (P.getD j []).length cap) ∧ OG (Value.int .i64) w.heap.size 3 W (.slice (some ⟨g, 0, none⟩) ((P.getD j []).length + 6) cap) (P.getD j [] ++ mrks)
  frm : Below w.heap.size w W
theorem LtI.below {w W W' : World} {P : List (List Int)} {i : Nat} {vF vL : Value} {fvs lvs : List Value} (h : LtI w W P i vF vL fvs lvs) (b : Below W.heap.size W W') : LtI w W' P i vF vL fvs lvs :=
  ⟨h.full.below b, h.lent.below b, h.apt, h.flen, h.llen, fun j hj => by obtain ⟨g, cap, h1, h2, h3⟩ := h.each j hj; exact ⟨g, cap, h1, h2, h3.below b⟩, bstepB h.frm b⟩
/-- What lent leaves: all that is lent can be read. -/
structure LtE (w : World) (P : List (List Int)) (n : Nat) (l full : Value) (gl lc : Nat) (fvs lvs : List Value) (m : Value) : Prop where
  le : l = .slice (some ⟨gl, 0, none⟩) n lc
  behind : RG id w (.slice (some ⟨gl, 0, none⟩) (n + 1) lc) (lvs ++ [m])
  mark : RG (Value.int .i64) w m [-77]
  lent : RRD w l lvs P
  full : RRD w full fvs (P.map (· ++ mrks))
theorem LtE.below {w w' : World} {P : List (List Int)} {n : Nat} {l full : Value} {gl lc : Nat} {fvs lvs : List Value} {m : Value} (h : LtE w P n l full gl lc fvs lvs m) (b : Below w.heap.size w w') : LtE w' P n l full gl lc fvs lvs m :=
  ⟨h.le, h.behind.below (Nat.le_refl _) b, h.mark.below (Nat.le_refl _) b, h.lent.below (Nat.le_refl _) b, h.full.below (Nat.le_refl _) b⟩
/-- One more is put into the full ones. -/
theorem LtI.pushF {w W W2 : World} {P : List (List Int)} {i : Nat} {vF vL vF' : Value} {fvs lvs fvs' : List Value} (h : LtI w W P i vF vL fvs lvs) (ho : OG id w.heap.size 24 W2 vF' fvs') (hg : W.grownBy W2 vF.ownBlock) (hn : ∀ q, vF'.ownBlock = some q → vF.ownBlock = some q ∨ W.heap.size ≤ q) :
    OG id w.heap.size 24 W2 vL lvs ∧ (∀ q, vF'.ownBlock = some q → vL.ownBlock ≠ some q) ∧ (∀ v L, OG (Value.int .i64) w.heap.size 3 W v L → OG (Value.int .i64) w.heap.size 3 W2 v L) ∧ Below w.heap.size w W2 := by
  refine ⟨h.lent.of_blocks fun q hq => hg.block q (h.lent.lt q hq).2 (fun e => h.apt q e.symm hq), fun q hq e => ?_, fun v L hv => hv.of_blocks fun q hq => hg.block q (hv.lt q hq).2 (fun e => hv.neO h.full (by decide) hq e.symm), h.frm.trans ⟨hg.os, hg.tape, hg.output, hg.size, fun q hq => hg.block q (Nat.lt_of_lt_of_le hq h.frm.size) (fun e => by have := (h.full.lt q e.symm).1; omega)⟩⟩
  rcases hn q hq with e2 | e2
  · exact h.apt q e2 e
  · have := (h.lent.lt q e).2; omega
theorem LtI.pushL {w W W2 : World} {P : List (List Int)} {i : Nat} {vF vL vL' : Value} {fvs lvs lvs' : List Value} (hF : OG id w.heap.size 24 W vF fvs) (hL : OG id w.heap.size 24 W vL lvs) (ha : ∀ q, vF.ownBlock = some q → vL.ownBlock ≠ some q) (hfr : Below w.heap.size w W) (ho : OG id w.heap.size 24 W2 vL' lvs') (hg : W.grownBy W2 vL.ownBlock) (hn : ∀ q, vL'.ownBlock = some q → vL.ownBlock = some q ∨ W.heap.size ≤ q) :
    OG id w.heap.size 24 W2 vF fvs ∧ (∀ q, vF.ownBlock = some q → vL'.ownBlock ≠ some q) ∧ (∀ v L, OG (Value.int .i64) w.heap.size 3 W v L → OG (Value.int .i64) w.heap.size 3 W2 v L) ∧ Below w.heap.size w W2 := by
  refine ⟨hF.of_blocks fun q hq => hg.block q (hF.lt q hq).2 (fun e => ha q hq e.symm), fun q hq e => ?_, fun v L hv => hv.of_blocks fun q hq => hg.block q (hv.lt q hq).2 (fun e => hv.neO hL (by decide) hq e.symm), hfr.trans ⟨hg.os, hg.tape, hg.output, hg.size, fun q hq => hg.block q (Nat.lt_of_lt_of_le hq hfr.size) (fun e => by have := (hL.lt q e.symm).1; omega)⟩⟩
  rcases hn q e with e2 | e2
  · exact ha q hq e2
  · have := (hF.lt q hq).2; omega
theorem own_new {ng m cap : Nat} {v : Value} {s : Nat} (h : v.ownBlock = some ng ∨ ng = s) : ∀ q, (Value.slice (some ⟨ng, 0, none⟩) m cap).ownBlock = some q → v.ownBlock = some q ∨ s ≤ q := fun q hq => by
  have e1 : ng = q := by simpa [Value.ownBlock] using hq
  subst e1
  exact h.imp id (fun e => by omega)
theorem LtI.done {w W : World} {P : List (List Int)} {n : Nat} {vF : Value} {fvs lvs : List Value} {gl lc : Nat} {m : Value} (hn : P.length = n) (hF : OG id w.heap.size 24 W vF fvs) (hfl : fvs.length = n) (hll : lvs.length = n) (he : ∀ j, j < n → ∃ g cap, fvs[j]? = some (.slice (some ⟨g, 0, none⟩) ((P.getD j []).length + 6) cap) ∧ lvs[j]? = some (.slice (some ⟨g, 0, none⟩) (P.getD j []).length cap) ∧ OG (Value.int .i64) w.heap.size 3 W (.slice (some ⟨g, 0, none⟩) ((P.getD j []).length + 6) cap) (P.getD j [] ++ mrks))
    (hL : OG id w.heap.size 24 W (.slice (some ⟨gl, 0, none⟩) (n + 1) lc) (lvs ++ [m])) (hm : RG (Value.int .i64) W m [-77]) : LtE W P n (.slice (some ⟨gl, 0, none⟩) n lc) vF gl lc fvs lvs m := by
  refine ⟨rfl, hL.rg, hm, ⟨?_, by rw [hll, hn], fun i x hx => ?_⟩, ⟨hF.rg, by rw [List.length_map, hfl, hn], fun i x hx => ?_⟩⟩
  · have h1 := hL.rg.cut (m := n) (by omega)
    rw [List.take_left' hll] at h1
    exact h1
  · have hi : i < n := by have := (List.getElem?_eq_some_iff.1 hx).1; omega
    obtain ⟨g, cap, h1, h2, h3⟩ := he i hi
    rw [h2] at hx
    simp only [Option.some.injEq] at hx
    subst hx
    have h4 := h3.rg.cut (m := (P.getD i []).length) (by omega)
    rw [List.take_left' rfl] at h4
    exact h4
  · have hi : i < n := by have := (List.getElem?_eq_some_iff.1 hx).1; omega
    obtain ⟨g, cap, h1, h2, h3⟩ := he i hi
    rw [h1] at hx
    simp only [Option.some.injEq] at hx
    subst hx
    have e1 : (P.map (· ++ mrks)).getD i [] = P.getD i [] ++ mrks := by
      rw [List.getD_eq_getElem?_getD, List.getD_eq_getElem?_getD, List.getElem?_map, List.getElem?_eq_getElem (by omega)]; rfl
    rw [e1]
    exact h3.rg
/-- An append of one thing to a row of the call's own: it stays, or moves to the end. -/
theorem wpList_pushV {α : Type} {enc : α → Value} {P : Program} (w : World) {ops : Array Oper} {rest : List Oper} {o : Oper} {a : Act} {Q : Exit → Act → World → Prop} (hg : o.guard = none) (s x : Operand) (t : TypeId) (hop : o.op = .call { callee := .builtin .append, args := #[s, x], argTypes := #[t, t] })
    (B : Nat) (e : TypeId) (i : TypeInfo) (z : Value) (bytes : Nat) (h1 : P.underlying t = some (.slice e)) (h2 : P.info? e = some i) (h3 : i.zero = some z) (h4 : i.size = 1) (h5 : i.bytes = bytes) (h6 : z.cells.size = 1)
    (v : Value) (L : List α) (hs : a.eval s = v) (hown : OG enc B e w v L) (gb : Nat) (sv : α) (hx : a.eval x = .slice (some ⟨gb, 0, none⟩) 1 1) (cb : w.cell? ⟨gb, 0, none⟩ = some (enc sv)) (hone : (enc sv).oneCell' = true) (hl1 : L.length + 1 ≤ maxLen) (hl2 : (L.length + 1) * bytes ≤ 140737488355328) (hB : B ≤ w.heap.size)
    (hK : ∀ ng n ncap w', OG enc B e w' (.slice (some ⟨ng, 0, none⟩) n ncap) (L ++ [sv]) → w.grownBy w' v.ownBlock → (v.ownBlock = some ng ∨ ng = w.heap.size) → ng < w'.heap.size → wpList P ops Q rest (a.put o.dst (.slice (some ⟨ng, 0, none⟩) n ncap)) w') : wpList P ops Q (o :: rest) a w := by
  refine wpList_plain hg fun K hK' => ?_
  refine wp_append_lies _ s x t hop B e i z 1 bytes h1 h2 h3 h4 h5 h6 (by decide) v L.length _ hs hown ⟨gb, 0, none⟩ 1 1 [enc sv] hx rfl (fun j u hj => by match j, hj with | 0, hj => simp at hj; subst hj; rw [Addr.add_lit, Nat.add_zero]; exact cb) (by intro u hu; simp at hu; subst hu; exact hone) (by decide) hl1 hl2 hB _ rfl ?_
  intro ng ncap w' ho hg' hgg hlt
  refine hK' _ _ (hK ng _ ncap w' ?_ hg' hgg hlt)
  unfold OG
  rw [List.length_append, List.map_append]
  exact ho
set_option maxRecDepth 100000 in
set_option maxHeartbeats 12800000 in
theorem lentD (pv : Value) (pvs : List Value) (P : List (List Int)) (w : World) (h : RRD w pv pvs P) (n : Nat) (hn : P.length = n) (hb : n ≤ 100000) (hbl : ∀ i, (P.getD i []).length ≤ 100000) :
    Calls Try.prog 14 #[pv] w fun e w' => ∃ l full, e = .returned (.tuple #[l, full]) ∧ ∃ gl lc fvs lvs m, LtE w' P n l full gl lc fvs lvs m ∧ Below w.heap.size w w' := by
  obtain ⟨i1, hi1, ha0, ha1, ha2⟩ := info_parts Try.infoRD
  obtain ⟨po, pn, pc, rfl⟩ : ∃ o n c, pv = .slice o n c := by obtain ⟨ao, cap, e⟩ := h.out.sl; exact ⟨_, _, _, e⟩
  obtain rfl : pn = n := by rw [← hn, ← h.len, h.out.len]
  have HR : Hid (RRD w (.slice po pn pc) pvs P) := h
  have HN : Hid (P.length = pn) := hn
  have HBL : Hid (∀ i, (P.getD i []).length ≤ 100000) := hbl
  clear h hn hbl
  go_enter Try.func14, Try.ntmps14
  go_wp2
  go_loopg [4, 5, 6, 7] pn (fun g1 v4 v5 v6 _v7 wr => ∃ (i : Nat) (fo : Option Addr) (fn fc : Nat) (lo : Option Addr) (ln lc : Nat) (fvs lvs : List Value), v4 = .slice fo fn fc ∧ v5 = .slice lo ln lc ∧ v6 = .int .i64 i ∧ i ≤ pn ∧ pn - i ≤ g1 ∧ Hid (LtI w wr P i (.slice fo fn fc) (.slice lo ln lc) fvs lvs))
  case atStart => exact ⟨0, none, 0, 0, none, 0, 0, [], [], rfl, rfl, rfl, by omega, by omega, ⟨OG.nil _ _ _, OG.nil _ _ _, by simp [Value.ownBlock], rfl, rfl, fun j hj => by omega, Below.refl _ _⟩⟩
  case round =>
    obtain ⟨i, fo, fn, fc, lo, ln, lc, fvs, lvs, rfl, rfl, rfl, hin, hg1, HI⟩ := hrel
    by_cases hlt : i < pn
    · have hltz : (i : Int) < (pn : Int) := by omega
      obtain ⟨x, gp, op, hx1, rfl, hx0⟩ := HR.out.out.at hlt
      have hxr := HR.out.inn i x hx1
      obtain ⟨xo, xn, xc, rfl⟩ : ∃ o n c, x = .slice o n c := by obtain ⟨ao, cap, e⟩ := hxr.sl; exact ⟨_, _, _, e⟩
      change w.cell? ⟨gp, op + i, none⟩ = some (.slice xo xn xc) at hx0
      have HX0 : Hid (w.cell? ⟨gp, op + i, none⟩ = some (.slice xo xn xc)) := hx0
      have hxl : (P.getD i []).length = xn := hxr.len
      have hxb : xn ≤ 100000 := by rw [← hxl]; exact HBL.out i
      have CL : Hid _ := longD _ _ wr (hxr.below (Nat.le_refl _) HI.out.frm) (by rw [hxl]; omega)
      rw [hxl] at CL
      have HXL : Hid ((P.getD i []).length = xn) := hxl
      have hx2 : wr.cell? ⟨gp, op + i, none⟩ = some (.slice xo xn xc) := keepR HI.out.frm HX0.out
      clear hxr hx1 hx0 hxl
      go_wp2_with fail
      refine Calls.mono CL.out ?_
      rintro e y ⟨g, cap, rfl, hy1, hy2⟩
      have HI1 : Hid (LtI w y P i (.slice fo fn fc) (.slice lo ln lc) fvs lvs) := HI.out.below hy2
      have HG : Hid (OG (Value.int .i64) w.heap.size 3 y (.slice (some ⟨g, 0, none⟩) (xn + 6) cap) (P.getD i [] ++ mrks)) := hy1.mono HI.out.frm.size
      have hcap : xn ≤ cap := by have := hy1.rg.room.1; omega
      clear CL hy1 hy2 HI hx2
      obtain ⟨WA, hWA⟩ : ∃ W, W = y.alloc (.cells #[.slice (some ⟨g, 0, none⟩) (xn + 6) cap] 24) := ⟨_, rfl⟩
      obtain ⟨gb, hgb⟩ : ∃ g, g = y.heap.size := ⟨_, rfl⟩
      have hBA : Below y.heap.size y WA := by rw [hWA]; exact belowB _ _
      have HIA : Hid (LtI w WA P i (.slice fo fn fc) (.slice lo ln lc) fvs lvs) := HI1.out.below hBA
      have HGA : Hid (OG (Value.int .i64) w.heap.size 3 WA (.slice (some ⟨g, 0, none⟩) (xn + 6) cap) (P.getD i [] ++ mrks)) := HG.out.below hBA
      have HCB : Hid (WA.cell? ⟨gb, 0, none⟩ = some (id (.slice (some ⟨g, 0, none⟩) (xn + 6) cap))) := by show _ = _; rw [hWA, hgb, World.cell?_alloc_at _ _ _ _ rfl]; rfl
      have HWA : Hid (WA = y.alloc (.cells #[.slice (some ⟨g, 0, none⟩) (xn + 6) cap] 24)) := hWA
      have HGB : Hid (gb = y.heap.size) := hgb
      clear hWA hgb HI1 HG hBA
      go_upto_region 8 with (at_builtin; rw [← HWA.out, ← HGB.out]; refine wpList_pushV (enc := id) _ rfl _ _ 23 rfl w.heap.size 24 i1 (.slice none 0 0) 24 Try.underlying23 hi1 ha0 ha1 ha2 rfl _ fvs rfl HIA.out.full gb (.slice (some ⟨g, 0, none⟩) (xn + 6) cap) rfl HCB.out rfl (by have := HIA.out.flen; unfold maxLen; omega) (by have := HIA.out.flen; omega) HIA.out.frm.size ?_)
      intro ng tm ncap W2 ho hg3 hng _
      obtain ⟨q1, q2, q3, q4⟩ := HIA.out.pushF ho hg3 (own_new hng)
      obtain ⟨WB, hWB⟩ : ∃ W, W = W2.alloc (.cells #[.slice (some ⟨g, 0, none⟩) xn cap] 24) := ⟨_, rfl⟩
      obtain ⟨gc, hgc⟩ : ∃ g, g = W2.heap.size := ⟨_, rfl⟩
      have hBB : Below W2.heap.size W2 WB := by rw [hWB]; exact belowB _ _
      have HFB : Hid (OG id w.heap.size 24 WB (.slice (some ⟨ng, 0, none⟩) tm ncap) (fvs ++ [.slice (some ⟨g, 0, none⟩) (xn + 6) cap])) := ho.below hBB
      have HLB : Hid (OG id w.heap.size 24 WB (.slice lo ln lc) lvs) := q1.below hBB
      have HAB : Hid (∀ q, (Value.slice (some ⟨ng, 0, none⟩) tm ncap).ownBlock = some q → (Value.slice lo ln lc).ownBlock ≠ some q) := q2
      have HKB : Hid (∀ v L, OG (Value.int .i64) w.heap.size 3 WA v L → OG (Value.int .i64) w.heap.size 3 WB v L) := fun v L hv => (q3 v L hv).below hBB
      have HBB : Hid (Below w.heap.size w WB) := bstepB q4 hBB
      have HCC : Hid (WB.cell? ⟨gc, 0, none⟩ = some (id (.slice (some ⟨g, 0, none⟩) xn cap))) := by show _ = _; rw [hWB, hgc, World.cell?_alloc_at _ _ _ _ rfl]; rfl
      have HWB : Hid (WB = W2.alloc (.cells #[.slice (some ⟨g, 0, none⟩) xn cap] 24)) := hWB
      have HGC : Hid (gc = W2.heap.size) := hgc
      have hx2 : W2.cell? ⟨gp, op + i, none⟩ = some (.slice xo xn xc) := keepR q4 HX0.out
      have hcz : (xn : Int) ≤ (cap : Int) := by omega
      have hcz2 : xn ≤ xn + 6 := by omega
      clear ho hg3 hng q1 q2 q3 q4 hWB hgc hBB HWA HGB HCB
      go_wp2_with (at_builtin; rw [← HWB.out, ← HGC.out]; refine wpList_pushV (enc := id) _ rfl _ _ 23 rfl w.heap.size 24 i1 (.slice none 0 0) 24 Try.underlying23 hi1 ha0 ha1 ha2 rfl _ lvs rfl HLB.out gc (.slice (some ⟨g, 0, none⟩) xn cap) rfl HCC.out rfl (by have := HIA.out.llen; unfold maxLen; omega) (by have := HIA.out.llen; omega) HBB.out.size ?_)
      intro ng2 tm2 ncap2 W3 ho hg3 hng _
      obtain ⟨q1, q2, q3, q4⟩ := LtI.pushL (P := P) (i := i) HFB.out HLB.out HAB.out HBB.out ho hg3 (own_new hng)
      have HI2 : Hid (LtI w W3 P (i + 1) (.slice (some ⟨ng, 0, none⟩) tm ncap) (.slice (some ⟨ng2, 0, none⟩) tm2 ncap2) (fvs ++ [.slice (some ⟨g, 0, none⟩) (xn + 6) cap]) (lvs ++ [.slice (some ⟨g, 0, none⟩) xn cap])) := by
        refine ⟨q1, ho, q2, by rw [List.length_append, HIA.out.flen]; rfl, by rw [List.length_append, HIA.out.llen]; rfl, fun j hj => ?_, q4⟩
        by_cases e : j < i
        · obtain ⟨g', cap', h1, h2, h3⟩ := HIA.out.each j e
          refine ⟨g', cap', ?_, ?_, q3 _ _ (HKB.out _ _ h3)⟩
          · rw [List.getElem?_append_left (by rw [HIA.out.flen]; exact e)]; exact h1
          · rw [List.getElem?_append_left (by rw [HIA.out.llen]; exact e)]; exact h2
        · obtain rfl : j = i := by omega
          refine ⟨g, cap, ?_, ?_, ?_⟩
          · rw [HXL.out, List.getElem?_append_right (by rw [HIA.out.flen]; exact Nat.le_refl _), HIA.out.flen, Nat.sub_self]; rfl
          · rw [HXL.out, List.getElem?_append_right (by rw [HIA.out.llen]; exact Nat.le_refl _), HIA.out.llen, Nat.sub_self]; rfl
          · rw [HXL.out]; exact q3 _ _ (HKB.out _ _ HGA.out)
      clear ho hg3 hng q1 q2 q3 q4 HIA HGA HFB HLB HAB HKB HBB HCC HWB HGC hx2
      go_wp2
      go_roundg (pn - (i + 1))
      case measure => omega
      case rel => exact ⟨i + 1, _, _, _, _, _, _, _, _, rfl, rfl, by first | rfl | go_num, by omega, Nat.le_refl _, HI2⟩
    · have hltz : ¬ (i : Int) < (pn : Int) := by omega
      obtain rfl : i = pn := by omega
      obtain ⟨WA, hWA⟩ : ∃ W, W = wr.alloc (.cells #[.int .i64 (-77)] 3) := ⟨_, rfl⟩
      obtain ⟨gm, hgm⟩ : ∃ g, g = wr.heap.size := ⟨_, rfl⟩
      have hBA : Below wr.heap.size wr WA := by rw [hWA]; exact belowB _ _
      have hm1 : OG (Value.int .i64) w.heap.size 3 WA (.slice (some ⟨gm, 0, none⟩) 1 1) [-77] := by
        have := OG.lit (enc := Value.int .i64) 3 wr [-77] (by unfold maxLen; simp)
        rw [hWA, hgm]
        exact this.mono HI.out.frm.size
      obtain ⟨WB, hWB⟩ : ∃ W, W = WA.alloc (.cells #[.slice (some ⟨gm, 0, none⟩) 1 1] 24) := ⟨_, rfl⟩
      obtain ⟨gb, hgb⟩ : ∃ g, g = WA.heap.size := ⟨_, rfl⟩
      have hBB : Below WA.heap.size WA WB := by rw [hWB]; exact belowB _ _
      have HIB : Hid (LtI w WB P i (.slice fo fn fc) (.slice lo ln lc) fvs lvs) := (HI.out.below hBA).below hBB
      have HMB : Hid (OG (Value.int .i64) w.heap.size 3 WB (.slice (some ⟨gm, 0, none⟩) 1 1) [-77]) := hm1.below hBB
      have HCB : Hid (WB.cell? ⟨gb, 0, none⟩ = some (id (.slice (some ⟨gm, 0, none⟩) 1 1))) := by show _ = _; rw [hWB, hgb, World.cell?_alloc_at _ _ _ _ rfl]; rfl
      have HWA : Hid (WA = wr.alloc (.cells #[.int .i64 (-77)] 3)) := hWA
      have HGM : Hid (gm = wr.heap.size) := hgm
      have HWB : Hid (WB = WA.alloc (.cells #[.slice (some ⟨gm, 0, none⟩) 1 1] 24)) := hWB
      have HGB : Hid (gb = wr.heap.size + 1) := by show _ = _; rw [hgb, hWA]; simp
      clear hWA hgm hWB hgb hBA hBB hm1 HI
      go_upto_region 10 with (at_builtin; rw [← HGB.out, ← HGM.out, ← HWA.out, ← HWB.out]; refine wpList_pushV (enc := id) _ rfl _ _ 23 rfl w.heap.size 24 i1 (.slice none 0 0) 24 Try.underlying23 hi1 ha0 ha1 ha2 rfl _ lvs rfl HIB.out.lent gb (.slice (some ⟨gm, 0, none⟩) 1 1) rfl HCB.out rfl (by have := HIB.out.llen; unfold maxLen; omega) (by have := HIB.out.llen; omega) HIB.out.frm.size ?_)
      intro ng tm ncap W3 ho hg3 hng _
      obtain ⟨q1, q2, q3, q4⟩ := LtI.pushL (P := P) (i := i) HIB.out.full HIB.out.lent HIB.out.apt HIB.out.frm ho hg3 (own_new hng)
      have htm : tm = i + 1 := by have := ho.rg.len; rw [List.length_append, HIB.out.llen] at this; exact this.symm
      subst htm
      have hnc := ho.rg.room.1
      have hncz : (i : Int) ≤ (ncap : Int) := by omega
      have HE : Hid (LtE W3 P i (.slice (some ⟨ng, 0, none⟩) i ncap) (.slice fo fn fc) ng ncap fvs lvs (.slice (some ⟨gm, 0, none⟩) 1 1)) := LtI.done HN.out q1 HIB.out.flen HIB.out.llen (fun j hj => by
        obtain ⟨g', cap', h1, h2, h3⟩ := HIB.out.each j hj
        exact ⟨g', cap', h1, h2, q3 _ _ h3⟩) ho (q3 _ _ HMB.out).rg
      have HB : Hid (Below w.heap.size w W3) := q4
      clear ho hg3 hng q1 q2 q3 q4 HIB HMB HCB HWA HGM HWB HGB
      go_wp2
      go_ret2
      exact ⟨_, _, rfl, ng, ncap, fvs, lvs, _, HE.out, HB.out⟩
end Go.Proofs.Ytmgbhbdcnciccaa

/-
  Proved here: the law's lent: parents to be handed in, each list a piece of a longer one.
  Proved here: layer 16's law: twin (parents in memory of their own) and kept (they are as they were).
  Proved here: the document's Has, inside, twice.
  Proved here: layer 16's law: has; points (points out of any numbers).
-/
import Derived.Test.YtcadljpdokhpmabGreatSpAAll
namespace Go.Proofs.YtcadljpdokhpmabGreat
set_option linter.unusedVariables false
open Go.RowKit
/-- How memory stands while lists are lent. -/
structure LtI (w W : World) (P : List (List Int)) (i : Nat) (vF vL : Value) (fvs lvs : List Value) : Prop where
  full : OG id w.heap.size 23 W vF fvs
  lent : OG id w.heap.size 23 W vL lvs
  apt : ∀ q, vF.ownBlock = some q → vL.ownBlock ≠ some q
  flen : fvs.length = i
  llen : lvs.length = i
  each : ∀ j, j < i → ∃ g cap, fvs[j]? = some (.slice (some ⟨g, 0, none⟩) ((P.getD j []).length + 6) cap) ∧ lvs[j]? = some (.slice (some ⟨g, 0, none⟩) (P.getD j []).length cap) ∧ OG (Value.int .i64) w.heap.size 3 W (.slice (some ⟨g, 0, none⟩) ((P.getD j []).length + 6) cap) (P.getD j [] ++ mrks)
  frm : Below w.heap.size w W
theorem LtI.below {w W W' : World} {P : List (List Int)} {i : Nat} {vF vL : Value} {fvs lvs : List Value} (h : LtI w W P i vF vL fvs lvs) (b : Below W.heap.size W W') : LtI w W' P i vF vL fvs lvs :=
  ⟨h.full.below b, h.lent.below b, h.apt, h.flen, h.llen, fun j hj => by obtain ⟨g, cap, h1, h2, h3⟩ := h.each j hj; exact ⟨g, cap, h1, h2, h3.below b⟩, bstepB h.frm b⟩
/-- What lent leaves: all that is lent can be read. -/
structure LtE (w : World) (P : List (List Int)) (n : Nat) (l full : Value) (gl lc : Nat) (fvs lvs : List Value) (m : Value) : Prop where
  le : l = .slice (some ⟨gl, 0, none⟩) n lc
  behind : RG id w (.slice (some ⟨gl, 0, none⟩) (n + 1) lc) (lvs ++ [m])
  mark : RG (Value.int .i64) w m [-77]
  lent : RRD w l lvs P
  full : RRD w full fvs (P.map (· ++ mrks))
theorem LtE.below {w w' : World} {P : List (List Int)} {n : Nat} {l full : Value} {gl lc : Nat} {fvs lvs : List Value} {m : Value} (h : LtE w P n l full gl lc fvs lvs m) (b : Below w.heap.size w w') : LtE w' P n l full gl lc fvs lvs m :=
  ⟨h.le, h.behind.below (Nat.le_refl _) b, h.mark.below (Nat.le_refl _) b, h.lent.below (Nat.le_refl _) b, h.full.below (Nat.le_refl _) b⟩
/-- One more is put into the full ones. -/
theorem LtI.pushF {w W W2 : World} {P : List (List Int)} {i : Nat} {vF vL vF' : Value} {fvs lvs fvs' : List Value} (h : LtI w W P i vF vL fvs lvs) (ho : OG id w.heap.size 23 W2 vF' fvs') (hg : W.grownBy W2 vF.ownBlock) (hn : ∀ q, vF'.ownBlock = some q → vF.ownBlock = some q ∨ W.heap.size ≤ q) :
    OG id w.heap.size 23 W2 vL lvs ∧ (∀ q, vF'.ownBlock = some q → vL.ownBlock ≠ some q) ∧ (∀ v L, OG (Value.int .i64) w.heap.size 3 W v L → OG (Value.int .i64) w.heap.size 3 W2 v L) ∧ Below w.heap.size w W2 := by
  refine ⟨h.lent.of_blocks fun q hq => hg.block q (h.lent.lt q hq).2 (fun e => h.apt q e.symm hq), fun q hq e => ?_, fun v L hv => hv.of_blocks fun q hq => hg.block q (hv.lt q hq).2 (fun e => hv.neO h.full (by decide) hq e.symm), h.frm.trans ⟨hg.os, hg.tape, hg.output, hg.size, fun q hq => hg.block q (Nat.lt_of_lt_of_le hq h.frm.size) (fun e => by have := (h.full.lt q e.symm).1; omega)⟩⟩
  rcases hn q hq with e2 | e2
  · exact h.apt q e2 e
  · have := (h.lent.lt q e).2; omega
theorem LtI.pushL {w W W2 : World} {P : List (List Int)} {i : Nat} {vF vL vL' : Value} {fvs lvs lvs' : List Value} (hF : OG id w.heap.size 23 W vF fvs) (hL : OG id w.heap.size 23 W vL lvs) (ha : ∀ q, vF.ownBlock = some q → vL.ownBlock ≠ some q) (hfr : Below w.heap.size w W) (ho : OG id w.heap.size 23 W2 vL' lvs') (hg : W.grownBy W2 vL.ownBlock) (hn : ∀ q, vL'.ownBlock = some q → vL.ownBlock = some q ∨ W.heap.size ≤ q) :
    OG id w.heap.size 23 W2 vF fvs ∧ (∀ q, vF.ownBlock = some q → vL'.ownBlock ≠ some q) ∧ (∀ v L, OG (Value.int .i64) w.heap.size 3 W v L → OG (Value.int .i64) w.heap.size 3 W2 v L) ∧ Below w.heap.size w W2 := by
  refine ⟨hF.of_blocks fun q hq => hg.block q (hF.lt q hq).2 (fun e => ha q hq e.symm), fun q hq e => ?_, fun v L hv => hv.of_blocks fun q hq => hg.block q (hv.lt q hq).2 (fun e => hv.neO hL (by decide) hq e.symm), hfr.trans ⟨hg.os, hg.tape, hg.output, hg.size, fun q hq => hg.block q (Nat.lt_of_lt_of_le hq hfr.size) (fun e => by have := (hL.lt q e.symm).1; omega)⟩⟩
  rcases hn q e with e2 | e2
  · exact ha q hq e2
  · have := (hF.lt q hq).2; omega
theorem own_new {ng m cap : Nat} {v : Value} {s : Nat} (h : v.ownBlock = some ng ∨ ng = s) : ∀ q, (Value.slice (some ⟨ng, 0, none⟩) m cap).ownBlock = some q → v.ownBlock = some q ∨ s ≤ q := fun q hq => by
  have e1 : ng = q := by simpa [Value.ownBlock] using hq
  subst e1
  exact h.imp id (fun e => by omega)
theorem LtI.done {w W : World} {P : List (List Int)} {n : Nat} {vF : Value} {fvs lvs : List Value} {gl lc : Nat} {m : Value} (hn : P.length = n) (hF : OG id w.heap.size 23 W vF fvs) (hfl : fvs.length = n) (hll : lvs.length = n) (he : ∀ j, j < n → ∃ g cap, fvs[j]? = some (.slice (some ⟨g, 0, none⟩) ((P.getD j []).length + 6) cap) ∧ lvs[j]? = some (.slice (some ⟨g, 0, none⟩) (P.getD j []).length cap) ∧ OG (Value.int .i64) w.heap.size 3 W (.slice (some ⟨g, 0, none⟩) ((P.getD j []).length + 6) cap) (P.getD j [] ++ mrks))
    (hL : OG id w.heap.size 23 W (.slice (some ⟨gl, 0, none⟩) (n + 1) lc) (lvs ++ [m])) (hm : RG (Value.int .i64) W m [-77]) : LtE W P n (.slice (some ⟨gl, 0, none⟩) n lc) vF gl lc fvs lvs m := by
  refine ⟨rfl, hL.rg, hm, ⟨?_, by rw [hll, hn], fun i x hx => ?_⟩, ⟨hF.rg, by rw [List.length_map, hfl, hn], fun i x hx => ?_⟩⟩
  · have h1 := hL.rg.cut (m := n) (by omega)
    rw [List.take_left' hll] at h1
    exact h1
  · have hi : i < n := by have := (List.getElem?_eq_some_iff.1 hx).1; omega
    obtain ⟨g, cap, h1, h2, h3⟩ := he i hi
    rw [h2] at hx
    simp only [Option.some.injEq] at hx
    subst hx
    have h4 := h3.rg.cut (m := (P.getD i []).length) (by omega)
    rw [List.take_left' rfl] at h4
    exact h4
  · have hi : i < n := by have := (List.getElem?_eq_some_iff.1 hx).1; omega
    obtain ⟨g, cap, h1, h2, h3⟩ := he i hi
    rw [h1] at hx
    simp only [Option.some.injEq] at hx
    subst hx
    have e1 : (P.map (· ++ mrks)).getD i [] = P.getD i [] ++ mrks := by
      rw [List.getD_eq_getElem?_getD, List.getD_eq_getElem?_getD, List.getElem?_map, List.getElem?_eq_getElem (by omega)]; rfl
    rw [e1]
    exact h3.rg
/-- An append of one thing to a row of the call's own: it stays, or moves to the end. -/
theorem wpList_pushV {α : Type} {enc : α → Value} {P : Program} (w : World) {ops : Array Oper} {rest : List Oper} {o : Oper} {a : Act} {Q : Exit → Act → World → Prop} (hg : o.guard = none) (s x : Operand) (t : TypeId) (hop : o.op = .call { callee := .builtin .append, args := #[s, x], argTypes := #[t, t] })
    (B : Nat) (e : TypeId) (i : TypeInfo) (z : Value) (bytes : Nat) (h1 : P.underlying t = some (.slice e)) (h2 : P.info? e = some i) (h3 : i.zero = some z) (h4 : i.size = 1) (h5 : i.bytes = bytes) (h6 : z.cells.size = 1)
    (v : Value) (L : List α) (hs : a.eval s = v) (hown : OG enc B e w v L) (gb : Nat) (sv : α) (hx : a.eval x = .slice (some ⟨gb, 0, none⟩) 1 1) (cb : w.cell? ⟨gb, 0, none⟩ = some (enc sv)) (hone : (enc sv).oneCell' = true) (hl1 : L.length + 1 ≤ maxLen) (hl2 : (L.length + 1) * bytes ≤ 140737488355328) (hB : B ≤ w.heap.size)
    (hK : ∀ ng n ncap w', OG enc B e w' (.slice (some ⟨ng, 0, none⟩) n ncap) (L ++ [sv]) → w.grownBy w' v.ownBlock → (v.ownBlock = some ng ∨ ng = w.heap.size) → ng < w'.heap.size → wpList P ops Q rest (a.put o.dst (.slice (some ⟨ng, 0, none⟩) n ncap)) w') : wpList P ops Q (o :: rest) a w := by
  refine wpList_plain hg fun K hK' => ?_
  refine wp_append_lies _ s x t hop B e i z 1 bytes h1 h2 h3 h4 h5 h6 (by decide) v L.length _ hs hown ⟨gb, 0, none⟩ 1 1 [enc sv] hx rfl (fun j u hj => by match j, hj with | 0, hj => simp at hj; subst hj; rw [Addr.add_lit, Nat.add_zero]; exact cb) (by intro u hu; simp at hu; subst hu; exact hone) (by decide) hl1 hl2 hB _ rfl ?_
  intro ng ncap w' ho hg' hgg hlt
  refine hK' _ _ (hK ng _ ncap w' ?_ hg' hgg hlt)
  unfold OG
  rw [List.length_append, List.map_append]
  exact ho
end Go.Proofs.YtcadljpdokhpmabGreat

namespace Go.Proofs.YtcadljpdokhpmabGreat
set_option linter.unusedVariables false
open Go.RowKit
/-- The first i of some parents, in memory of the call's own, each with marked room behind it. -/
structure TwI (B : Nat) (w w' : World) (P : List (List Int)) (i : Nat) (v : Value) (vs : List Value) : Prop where
  frm : Below B w w'
  row : OG id B 23 w' v vs
  len : vs.length = i
  inn : ∀ (j : Nat) (u : Value), vs[j]? = some u → RmB B w' u (P.getD j [])
theorem TwI.below {B : Nat} {w w1 w2 : World} {P : List (List Int)} {i : Nat} {v : Value} {vs : List Value} (h : TwI B w w1 P i v vs) (hB : B ≤ w1.heap.size) (hb : Below w1.heap.size w1 w2) : TwI B w w2 P i v vs :=
  ⟨h.frm.trans (hb.mono hB), h.row.below hb, h.len, fun j u hu => (h.inn j u hu).below hb⟩
theorem TwI.rrd {B : Nat} {w w' : World} {P : List (List Int)} {v : Value} {vs : List Value} (h : TwI B w w' P P.length v vs) : RRD w' v vs P :=
  ⟨h.row.rg, h.len, fun j u hu => (h.inn j u hu).rg⟩
theorem RmB.neO {B B' e' : Nat} {w : World} {u v : Value} {L : List Int} {M : List Value} (h : RmB B w u L) (h' : OG id B' e' w v M) (hne : 3 ≠ e') {q : Nat} (hq : u.ownBlock = some q) : v.ownBlock ≠ some q := by
  obtain ⟨g, cap, rfl, h2⟩ := h
  exact OG.neO h2 h' hne hq
theorem TwI.push {B : Nat} {w W W2 : World} {P : List (List Int)} {i : Nat} {v v' u : Value} {vs : List Value} (h : TwI B w W P i v vs) (hB : B ≤ W.heap.size) (hu : RmB B W u (P.getD i [])) (ho : OG id B 23 W2 v' (vs ++ [u])) (hg : W.grownBy W2 v.ownBlock) : TwI B w W2 P (i + 1) v' (vs ++ [u]) := by
  refine ⟨h.row.grown h.frm hB hg, ho, by rw [List.length_append, h.len]; rfl, fun j x hx => ?_⟩
  have hlen := h.len
  have stay : ∀ (x : Value) (L : List Int), RmB B W x L → RmB B W2 x L := fun x L hxx => hxx.of_blocks fun q _ h2 hq => hg.block q h2 (fun e => hxx.neO h.row (by decide) hq e.symm)
  by_cases e : j < vs.length
  · rw [List.getElem?_append_left e] at hx
    exact stay _ _ (h.inn j x hx)
  · have h1 := (List.getElem?_eq_some_iff.1 hx).1
    rw [List.length_append, List.length_singleton] at h1
    have e1 : j = vs.length := by omega
    subst e1
    rw [List.getElem?_append_right (Nat.le_refl _), Nat.sub_self] at hx
    have e2 : u = x := by simpa using hx
    subst e2
    rw [hlen]
    exact stay _ _ hu
end Go.Proofs.YtcadljpdokhpmabGreat

namespace Go.Proofs.YtcadljpdokhpmabGreat
set_option linter.unusedVariables false
open Go.RowKit
end Go.Proofs.YtcadljpdokhpmabGreat

namespace Go.Proofs.YtcadljpdokhpmabGreat
set_option linter.unusedVariables false
open Go.RowKit
/-- Points, all of them. -/
def PtsI (n : Nat) (L : List Int) : Prop := ∀ x ∈ L, ∃ p : Nat, x = (p : Int) ∧ p < n
theorem PtsI.snoc {n : Nat} {L : List Int} (h : PtsI n L) {r : Int} (h0 : 0 ≤ r) (h1 : r < (n : Int)) : PtsI n (L ++ [r]) := fun x hx => by
  rcases List.mem_append.1 hx with h2 | h2
  · exact h x h2
  · have e : x = r := by simpa using h2
    subst e
    exact ⟨x.toNat, by omega, by omega⟩
set_option maxRecDepth 1000000 in
set_option maxHeartbeats 3200000 in
theorem points16 (v : Value) (L : List Int) (n : Nat) (w : World) (hv : RG (Value.int .i64) w v L) (hl : L.length ≤ 1048576) (hn : n ≤ 100000) :
    Calls Tryz.prog 8 #[v, .int .i64 (n : Int)] w fun e w' => ∃ u M, e = .returned u ∧ OG (Value.int .i64) w.heap.size 3 w' u M ∧ PtsI n M ∧ M.length ≤ L.length ∧ Below w.heap.size w w' := by
  obtain ⟨i0, hi, hz0, hz1, hz2⟩ := info_parts Tryz.infoI
  obtain ⟨vo, vn, vc, rfl⟩ : ∃ o n c, v = .slice o n c := by obtain ⟨ao, cap, e⟩ := hv.sl; exact ⟨_, _, _, e⟩
  have HV : Hid (RG (Value.int .i64) w (.slice vo vn vc) L) := hv
  have HVN : Hid (L.length = vn) := hv.len
  have hvl : vn ≤ 1048576 := by rw [← hv.len]; exact hl
  clear hv hl
  go_enter Tryz.func8, Tryz.ntmps8
  go_wp2
  go_loopg [5, 6, 7] vn (fun g1 v5 v6 _v7 wr => ∃ (i : Nat) (lo : Option Addr) (ln lc : Nat) (M : List Int), v5 = .slice lo ln lc ∧ v6 = .int .i64 i ∧ i ≤ vn ∧ vn - i ≤ g1 ∧ M.length ≤ i ∧ Hid (OG (Value.int .i64) w.heap.size 3 wr (.slice lo ln lc) M) ∧ Hid (PtsI n M) ∧ Hid (Below w.heap.size w wr))
  case atStart => exact ⟨0, none, 0, 0, [], rfl, rfl, Nat.zero_le _, by omega, by simp, OG.nil _ _ _, (fun x hx => by simp at hx), Below.refl _ _⟩
  case round =>
    obtain ⟨i, lo, ln, lc, M, rfl, rfl, hin, hg1, hM, HO, HP, HB⟩ := hrel
    by_cases hlt : i < vn
    · have hltz : (i : Int) < (vn : Int) := by omega
      by_cases hn0 : 0 < n
      · have hnz : (0 : Int) < (n : Int) := by omega
        have hnz2 : ¬ ((n : Int) = 0) := by omega
        obtain ⟨x, gx, ox, hx1, rfl, hx0⟩ := HV.out.at hlt
        have hx2 : wr.cell? ⟨gx, ox + i, none⟩ = some (.int .i64 x) := keepR HB.out hx0
        obtain ⟨r, hr⟩ : ∃ r, x.tmod (n : Int) = r := ⟨_, rfl⟩
        have hr1 : r < (n : Int) := by rw [← hr]; exact Int.tmod_lt_of_pos x hnz
        have hr2 : -(n : Int) < r := by
          have h1 := Int.tmod_lt_of_pos (-x) hnz
          rw [Int.neg_tmod] at h1
          omega
        have hrw : IntKind.i64.wrap r = r := by rw [IntKind.wrap_i64]; omega
        clear hx1 hx0
        have HLN : Hid (M.length ≤ 1048576) := by show _ ≤ _; omega
        by_cases hneg : r < 0
        · obtain ⟨s, hs⟩ : ∃ s, r + (n : Int) = s := ⟨_, rfl⟩
          have hs0 : 0 ≤ s := by omega
          have hs1 : s < (n : Int) := by omega
          have hsw : IntKind.i64.wrap s = s := by rw [IntKind.wrap_i64]; omega
          obtain ⟨WA, hWA⟩ : ∃ W, W = wr.alloc (.cells #[.int .i64 s] 3) := ⟨_, rfl⟩
          obtain ⟨gb, hgb⟩ : ∃ g, g = wr.heap.size := ⟨_, rfl⟩
          have HBA : Hid (Below wr.heap.size wr WA) := by show Below _ _ _; rw [hWA]; exact belowB _ _
          have HCB : Hid (WA.cell? ⟨gb, 0, none⟩ = some (.int .i64 s)) := by show _ = _; rw [hWA, hgb, World.cell?_alloc_at _ _ _ _ rfl]; rfl
          have HWA : Hid (WA = wr.alloc (.cells #[.int .i64 s] 3)) := hWA
          have HGB : Hid (gb = wr.heap.size) := hgb
          have HBW : Hid (Below w.heap.size w WA) := bstepB HB.out HBA.out
          clear hWA hgb
          go_wp2_with (at_builtin; rw [← HWA.out, ← HGB.out]; refine wpList_pushV (enc := Value.int .i64) _ rfl _ _ 23 rfl w.heap.size 3 i0 (.int .i64 0) 8 Tryz.underlying23 hi hz0 hz1 hz2 rfl _ M rfl (HO.out.below HBA.out) gb s rfl HCB.out rfl (by have := HLN.out; unfold maxLen; omega) (by have := HLN.out; omega) HBW.out.size ?_)
          intro ng tm ncap W2 ho hg3 hng _
          have HO2 : Hid (OG (Value.int .i64) w.heap.size 3 W2 (.slice (some ⟨ng, 0, none⟩) tm ncap) (M ++ [s])) := ho
          have HP2 : Hid (PtsI n (M ++ [s])) := HP.out.snoc (by omega) (by omega)
          have HB2 : Hid (Below w.heap.size w W2) := (HO.out.below HBA.out).grown HBW.out HBW.out.size hg3
          have hM2 : (M ++ [s]).length ≤ i + 1 := by rw [List.length_append, List.length_singleton]; omega
          clear ho hg3 hng HO HB HP HBA HCB HWA HGB HBW HLN hx2
          go_wp2
          go_roundg (vn - (i + 1))
          case measure => omega
          case rel => exact ⟨i + 1, _, _, _, _, rfl, by go_num, by omega, Nat.le_refl _, hM2, HO2, HP2, HB2⟩
        · have hr0 : 0 ≤ r := by omega
          obtain ⟨WA, hWA⟩ : ∃ W, W = wr.alloc (.cells #[.int .i64 r] 3) := ⟨_, rfl⟩
          obtain ⟨gb, hgb⟩ : ∃ g, g = wr.heap.size := ⟨_, rfl⟩
          have HBA : Hid (Below wr.heap.size wr WA) := by show Below _ _ _; rw [hWA]; exact belowB _ _
          have HCB : Hid (WA.cell? ⟨gb, 0, none⟩ = some (.int .i64 r)) := by show _ = _; rw [hWA, hgb, World.cell?_alloc_at _ _ _ _ rfl]; rfl
          have HWA : Hid (WA = wr.alloc (.cells #[.int .i64 r] 3)) := hWA
          have HGB : Hid (gb = wr.heap.size) := hgb
          have HBW : Hid (Below w.heap.size w WA) := bstepB HB.out HBA.out
          clear hWA hgb
          go_wp2_with (at_builtin; rw [← HWA.out, ← HGB.out]; refine wpList_pushV (enc := Value.int .i64) _ rfl _ _ 23 rfl w.heap.size 3 i0 (.int .i64 0) 8 Tryz.underlying23 hi hz0 hz1 hz2 rfl _ M rfl (HO.out.below HBA.out) gb r rfl HCB.out rfl (by have := HLN.out; unfold maxLen; omega) (by have := HLN.out; omega) HBW.out.size ?_)
          intro ng tm ncap W2 ho hg3 hng _
          have HO2 : Hid (OG (Value.int .i64) w.heap.size 3 W2 (.slice (some ⟨ng, 0, none⟩) tm ncap) (M ++ [r])) := ho
          have HP2 : Hid (PtsI n (M ++ [r])) := HP.out.snoc (by omega) (by omega)
          have HB2 : Hid (Below w.heap.size w W2) := (HO.out.below HBA.out).grown HBW.out HBW.out.size hg3
          have hM2 : (M ++ [r]).length ≤ i + 1 := by rw [List.length_append, List.length_singleton]; omega
          clear ho hg3 hng HO HB HP HBA HCB HWA HGB HBW HLN hx2
          go_wp2
          go_roundg (vn - (i + 1))
          case measure => omega
          case rel => exact ⟨i + 1, _, _, _, _, rfl, by go_num, by omega, Nat.le_refl _, hM2, HO2, HP2, HB2⟩
      · have hnz : ¬ (0 : Int) < (n : Int) := by omega
        have hlen : Hid (M.length ≤ L.length) := by show _ ≤ _; rw [HVN.out]; omega
        go_wp2
        go_ret
        exact ⟨_, rfl, _, HO.out, HP.out, hlen.out, HB.out⟩
    · have hltz : ¬ (i : Int) < (vn : Int) := by omega
      have hlen : Hid (M.length ≤ L.length) := by show _ ≤ _; rw [HVN.out]; omega
      go_wp2
      go_ret
      exact ⟨_, rfl, _, HO.out, HP.out, hlen.out, HB.out⟩
set_option maxRecDepth 100000 in
set_option maxHeartbeats 1600000 in
theorem has16 (v : Value) (zs : List Int) (x : Int) (w : World) (hv : RG (Value.int .i64) w v zs) :
    Calls Tryz.prog 11 #[v, .int .i64 x] w fun e w' => e = .returned (.bool (decide (x ∈ zs))) ∧ w' = w := by
  obtain ⟨vo, vn, vc, rfl⟩ : ∃ o n c, v = .slice o n c := by obtain ⟨ao, cap, e⟩ := hv.sl; exact ⟨_, _, _, e⟩
  have hm : vn ≤ 9223372036854775807 := by have := hv.room.2.1; have := hv.room.1; unfold maxLen at *; omega
  have HV : Hid (RG (Value.int .i64) w (.slice vo vn vc) zs) := hv
  have HN : Hid (zs.length = vn) := hv.len
  clear hv
  go_enter Tryz.func11, Tryz.ntmps11
  go_wp2
  go_loopg [5] vn (fun g1 v5 wr => ∃ k : Nat, v5 = .int .i64 k ∧ k ≤ vn ∧ vn - k ≤ g1 ∧ Hid (x ∉ zs.take k) ∧ wr = w)
  case atStart => exact ⟨0, rfl, by omega, by omega, by show _ ∉ _; simp, rfl⟩
  case round =>
    obtain ⟨k, rfl, hk, hg1, HA, rfl⟩ := hrel
    by_cases hlt : k < vn
    · have hltz : (k : Int) < (vn : Int) := by omega
      obtain ⟨y, g, o, hy1, rfl, hy2⟩ := HV.out.at hlt
      have htk : zs.take (k + 1) = zs.take k ++ [y] := by rw [List.take_add_one, hy1]; rfl
      by_cases he : y = x
      · have HE : Hid (decide (x ∈ zs) = true) := decide_eq_true (by rw [← he]; exact List.mem_of_getElem? hy1)
        have hez : (y == x) = true := by simpa using he
        clear he hy1 htk HA
        go_wp2
        go_ret
        exact ⟨by rw [HE.out]; rfl, rfl⟩
      · have HA2 : Hid (x ∉ zs.take (k + 1)) := by
          show _ ∉ _
          rw [htk, List.mem_append, List.mem_singleton]
          exact fun h => h.elim HA.out (fun e => he e.symm)
        have hez : (y == x) = false := by simpa using he
        clear he hy1 htk HA
        go_wp2
        clear hy2
        go_roundg (vn - (k + 1))
        case measure => omega
        case rel => exact ⟨k + 1, by first | rfl | go_num, by omega, Nat.le_refl _, HA2, rfl⟩
    · have hltz : ¬ (k : Int) < (vn : Int) := by omega
      have HE : Hid (decide (x ∈ zs) = false) := by
        have := HA.out
        rw [List.take_of_length_le (by rw [HN.out]; omega)] at this
        exact decide_eq_false this
      clear HA
      go_wp2
      go_ret
      exact ⟨by rw [HE.out]; rfl, rfl⟩
end Go.Proofs.YtcadljpdokhpmabGreat

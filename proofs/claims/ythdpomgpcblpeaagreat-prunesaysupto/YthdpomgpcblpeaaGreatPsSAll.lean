/-
  Proved here: layer 17's law: kept: what was lent is as it was, behind the ends too.
  Proved here: layer 17's law: spoilt: a row of a call's own is written full, then gone on with; its marks stand.
-/
import Derived.Test.YthdpomgpcblpeaaGreatPsL
import Derived.Test.YthdpomgpcblpeaaGreatPsJAll
import Derived.Test.YthdpomgpcblpeaaGreatDagCyCAll
namespace Go.Proofs.YthdpomgpcblpeaaGreat
set_option linter.unusedVariables false
open Go.RowKit
theorem LsE.at {B : Nat} {w : World} {P : List (List Int)} {n gl lc : Nat} {lvs : List Value} {m : Value} (h : LsE B w P n gl lc lvs m) {i : Nat} (hi : i < n) : ∃ g cap, w.cell? ⟨gl, i, none⟩ = some (.slice (some ⟨g, 0, none⟩) (P.getD i []).length cap) ∧ RG (Value.int .i64) w (.slice (some ⟨g, 0, none⟩) ((P.getD i []).length + 6) cap) (P.getD i [] ++ mrks) := by
  obtain ⟨g, cap, h1, h2⟩ := h.far i hi
  obtain ⟨x, g', o', h3, h4, h5⟩ := h.own.row.rg.at hi
  simp only [Option.some.injEq, Addr.mk.injEq, and_true] at h4
  obtain ⟨rfl, rfl⟩ := h4
  rw [h1] at h3
  rw [Nat.zero_add] at h5
  refine ⟨g, cap, ?_, h2⟩
  rw [h5, ← Option.some.inj h3]; rfl
set_option maxRecDepth 100000 in
set_option maxHeartbeats 6400000 in
theorem kept17 (pv : Value) (pvs : List Value) (P : List (List Int)) (w : World) (h : RRD w pv pvs P) (n : Nat) (hn : P.length = n) (hb : n ≤ 100000) (hbl : ∀ i, (P.getD i []).length ≤ 100000) (B0 gl lc : Nat) (lvs : List Value) (m : Value) (hE : LsE B0 w P n gl lc lvs m) :
    Calls Tryz.prog 12 #[.slice (some ⟨gl, 0, none⟩) n lc, pv] w fun e w' => e = .returned (.bool true) ∧ Below w.heap.size w w' := by
  obtain ⟨po, pn, pc, rfl⟩ : ∃ o n c, pv = .slice o n c := by obtain ⟨ao, cap, e⟩ := h.out.sl; exact ⟨_, _, _, e⟩
  obtain rfl : pn = n := by rw [← hn, ← h.len, h.out.len]
  have HR : Hid (∀ W, Below w.heap.size w W → RRD W (.slice po pn pc) pvs P) := fun W hW => h.below (Nat.le_refl _) hW
  have HE : Hid (∀ W, Below w.heap.size w W → LsE B0 W P pn gl lc lvs m) := fun W hW => hE.below hW
  have HN : Hid (P.length = pn) := hn
  have HBL : Hid (∀ i, (P.getD i []).length ≤ 100000) := hbl
  have hbr := hE.behind.room
  unfold maxLen at hbr
  have hnn : ((pn : Int) != (pn : Int)) = false := by simp
  clear h hE hn hbl
  go_enter Tryz.func12, Tryz.ntmps12
  go_wp2
  go_loopg [5, 6] pn (fun g1 v5 _v6 wr => ∃ i : Nat, v5 = .int .i64 i ∧ i ≤ pn ∧ pn - i ≤ g1 ∧ Hid (Below w.heap.size w wr))
  case atStart => exact ⟨0, rfl, by omega, by omega, Below.refl _ _⟩
  case round =>
    obtain ⟨i, rfl, hin, hg1, HB⟩ := hrel
    by_cases hlt : i < pn
    · have hltz : (i : Int) < (pn : Int) := by omega
      obtain ⟨gp, op, rfl⟩ : ∃ g o, po = some ⟨g, o, none⟩ := by obtain ⟨x, g, o, -, e, -⟩ := (HR.out wr HB.out).out.at hlt; exact ⟨g, o, e⟩
      obtain ⟨xo, xn, xc, hx2, hxr⟩ := (HR.out wr HB.out).rowAt hlt
      obtain ⟨gy, yc, hy2, hyr⟩ := (HE.out wr HB.out).at hlt
      have hxl : (P.getD i []).length = xn := hxr.len
      have hxb : xn ≤ 100000 := by rw [← hxl]; exact HBL.out i
      rw [hxl] at hy2 hyr
      have hyc := hyr.room.1
      have hcz : (xn : Int) + 6 ≤ (yc : Int) := by omega
      have hcz0 : (0 : Int) ≤ (xn : Int) + 6 := by omega
      have hczt : ((xn : Int) + 6).toNat = xn + 6 := by omega
      have hw6 : IntKind.i64.wrap ((xn : Int) + 6) = (xn : Int) + 6 := by rw [IntKind.wrap_i64]; omega
      have hxn : ((xn : Int) != (xn : Int)) = false := by simp
      have HXR : Hid (∀ W, Below wr.heap.size wr W → RG (Value.int .i64) W (.slice xo xn xc) (P.getD i [])) := fun W hW => hxr.below (Nat.le_refl _) hW
      have HYR : Hid (∀ W, Below wr.heap.size wr W → RG (Value.int .i64) W (.slice (some ⟨gy, 0, none⟩) (xn + 6) yc) (P.getD i [] ++ mrks)) := fun W hW => hyr.below (Nat.le_refl _) hW
      have HXL : Hid ((P.getD i []).length = xn) := hxl
      clear hxr hyr hyc hxl
      go_upto_region 7 with fail
      have KEEP : ∀ u, Below wr.heap.size wr u → L4.AllL u [(3, fun w' => w'.cell? ⟨gl, i, none⟩ = some (.slice (some ⟨gy, 0, none⟩) xn yc)), (11, fun w' => w'.cell? ⟨gl, i, none⟩ = some (.slice (some ⟨gy, 0, none⟩) xn yc)), (18, fun w' => w'.cell? ⟨gp, op + i, none⟩ = some (.slice xo xn xc))] := fun u hu => ⟨keepR hu hy2, keepR hu hy2, keepR hu hx2, trivial⟩
      refine L4.region_late [(3, fun w' => w'.cell? ⟨gl, i, none⟩ = some (.slice (some ⟨gy, 0, none⟩) xn yc)), (11, fun w' => w'.cell? ⟨gl, i, none⟩ = some (.slice (some ⟨gy, 0, none⟩) xn yc)), (18, fun w' => w'.cell? ⟨gp, op + i, none⟩ = some (.slice xo xn xc))] (by kernel_rfl) ?_
      have B : Below wr.heap.size wr wr.drew := (Below.refl _ _).drew
      obtain ⟨w1, hw1⟩ : ∃ u, u = wr.drew := ⟨_, rfl⟩
      rw [← hw1] at B ⊢
      clear hw1
      have hHeld := KEEP _ B
      refine L4.late_free 0 (v := .slice (some ⟨gl, 0, none⟩) pn lc) rfl (by kernel_rfl) (by kernel_rfl) (by kernel_rfl) (by kernel_rfl) (by kernel_rfl) (by kernel_rfl) (fun _ _ _ h => h) (Or.inl ⟨by rfl, ?_⟩) hHeld ?_
      · (intro u _; go_simp)
      (try simp only [Act.put, List.setIfInBounds_toArray, List.set_cons_zero, List.set_cons_succ])
      refine L4.late_free 1 (v := .int .i64 ((i : Nat) : Int)) rfl (by kernel_rfl) (by kernel_rfl) (by kernel_rfl) (by kernel_rfl) (by kernel_rfl) (by kernel_rfl) (fun _ _ _ h => h) (Or.inl ⟨by rfl, ?_⟩) hHeld ?_
      · (intro u _; go_simp)
      (try simp only [Act.put, List.setIfInBounds_toArray, List.set_cons_zero, List.set_cons_succ])
      refine L4.late_free 2 (v := .pointer (some ⟨gl, i, none⟩)) rfl (by kernel_rfl) (by kernel_rfl) (by kernel_rfl) (by kernel_rfl) (by kernel_rfl) (by kernel_rfl) (fun _ _ _ h => h) (Or.inl ⟨by rfl, ?_⟩) hHeld ?_
      · (intro u _; go_simp)
      (try simp only [Act.put, List.setIfInBounds_toArray, List.set_cons_zero, List.set_cons_succ])
      refine L4.late_take 3 (v := .slice (some ⟨gy, 0, none⟩) xn yc) rfl (by kernel_rfl) (List.Mem.head _) (by kernel_rfl) (by kernel_rfl) (by kernel_rfl) (by kernel_rfl) (fun _ _ _ h => h) (Or.inl ⟨by rfl, ?_⟩) hHeld ?_
      · (intro u hu; (try dsimp only at hu); go_split_ands; go_simp)
      (try simp only [Act.put, List.setIfInBounds_toArray, List.set_cons_zero, List.set_cons_succ])
      refine L4.late_free 4 (v := .int .i64 ((xn : Nat) : Int)) rfl (by kernel_rfl) (by kernel_rfl) (by kernel_rfl) (by kernel_rfl) (by kernel_rfl) (by kernel_rfl) (fun _ _ _ h => h) (Or.inl ⟨by rfl, ?_⟩) hHeld ?_
      · (intro u _; go_simp)
      (try simp only [Act.put, List.setIfInBounds_toArray, List.set_cons_zero, List.set_cons_succ])
      refine L4.late_free 5 (v := .int .i64 ((xn : Nat) : Int)) rfl (by kernel_rfl) (by kernel_rfl) (by kernel_rfl) (by kernel_rfl) (by kernel_rfl) (by kernel_rfl) (fun _ _ _ h => h) (Or.inl ⟨by rfl, ?_⟩) hHeld ?_
      · (intro u _; go_simp)
      (try simp only [Act.put, List.setIfInBounds_toArray, List.set_cons_zero, List.set_cons_succ])
      refine L4.late_free 6 (v := .bool false) rfl (by kernel_rfl) (by kernel_rfl) (by kernel_rfl) (by kernel_rfl) (by kernel_rfl) (by kernel_rfl) (fun _ _ _ h => h) (Or.inl ⟨by rfl, ?_⟩) hHeld ?_
      · (intro u _; go_simp)
      (try simp only [Act.put, List.setIfInBounds_toArray, List.set_cons_zero, List.set_cons_succ])
      refine L4.late_free 7 (v := .bool false) rfl (by kernel_rfl) (by kernel_rfl) (by kernel_rfl) (by kernel_rfl) (by kernel_rfl) (by kernel_rfl) (fun _ _ _ h => h) (Or.inl ⟨by rfl, ?_⟩) hHeld ?_
      · (intro u _; go_simp)
      (try simp only [Act.put, List.setIfInBounds_toArray, List.set_cons_zero, List.set_cons_succ])
      refine L4.late_free 8 (v := .slice (some ⟨gl, 0, none⟩) pn lc) rfl (by kernel_rfl) (by kernel_rfl) (by kernel_rfl) (by kernel_rfl) (by kernel_rfl) (by kernel_rfl) (fun _ _ _ h => h) (Or.inl ⟨by rfl, ?_⟩) hHeld ?_
      · (intro u _; go_simp)
      (try simp only [Act.put, List.setIfInBounds_toArray, List.set_cons_zero, List.set_cons_succ])
      refine L4.late_free 9 (v := .int .i64 ((i : Nat) : Int)) rfl (by kernel_rfl) (by kernel_rfl) (by kernel_rfl) (by kernel_rfl) (by kernel_rfl) (by kernel_rfl) (fun _ _ _ h => h) (Or.inl ⟨by rfl, ?_⟩) hHeld ?_
      · (intro u _; go_simp)
      (try simp only [Act.put, List.setIfInBounds_toArray, List.set_cons_zero, List.set_cons_succ])
      refine L4.late_free 10 (v := .pointer (some ⟨gl, i, none⟩)) rfl (by kernel_rfl) (by kernel_rfl) (by kernel_rfl) (by kernel_rfl) (by kernel_rfl) (by kernel_rfl) (fun _ _ _ h => h) (Or.inl ⟨by rfl, ?_⟩) hHeld ?_
      · (intro u _; go_simp)
      (try simp only [Act.put, List.setIfInBounds_toArray, List.set_cons_zero, List.set_cons_succ])
      refine L4.late_take 11 (v := .slice (some ⟨gy, 0, none⟩) xn yc) rfl (by kernel_rfl) (List.Mem.tail _ (List.Mem.head _)) (by kernel_rfl) (by kernel_rfl) (by kernel_rfl) (by kernel_rfl) (fun _ _ _ h => h) (Or.inl ⟨by rfl, ?_⟩) hHeld ?_
      · (intro u hu; (try dsimp only at hu); go_split_ands; go_simp)
      (try simp only [Act.put, List.setIfInBounds_toArray, List.set_cons_zero, List.set_cons_succ])
      refine L4.late_free 12 (v := .int .i64 ((xn : Nat) : Int)) rfl (by kernel_rfl) (by kernel_rfl) (by kernel_rfl) (by kernel_rfl) (by kernel_rfl) (by kernel_rfl) (fun _ _ _ h => h) (Or.inl ⟨by rfl, ?_⟩) hHeld ?_
      · (intro u _; go_simp)
      (try simp only [Act.put, List.setIfInBounds_toArray, List.set_cons_zero, List.set_cons_succ])
      refine L4.late_free 13 (v := .int .i64 ((xn : Int) + 6)) rfl (by kernel_rfl) (by kernel_rfl) (by kernel_rfl) (by kernel_rfl) (by kernel_rfl) (by kernel_rfl) (fun _ _ _ h => h) (Or.inl ⟨by rfl, ?_⟩) hHeld ?_
      · (intro u _; go_simp)
      (try simp only [Act.put, List.setIfInBounds_toArray, List.set_cons_zero, List.set_cons_succ])
      refine L4.late_free 14 (v := .slice (some ⟨gy, 0, none⟩) (xn + 6) yc) rfl (by kernel_rfl) (by kernel_rfl) (by kernel_rfl) (by kernel_rfl) (by kernel_rfl) (by kernel_rfl) (fun _ _ _ h => h) (Or.inl ⟨by rfl, ?_⟩) hHeld ?_
      · (intro u _; go_simp; all_goals (try omega))
      (try simp only [Act.put, List.setIfInBounds_toArray, List.set_cons_zero, List.set_cons_succ])
      refine L4.late_free 15 (v := .slice (some ⟨gp, op, none⟩) pn pc) rfl (by kernel_rfl) (by kernel_rfl) (by kernel_rfl) (by kernel_rfl) (by kernel_rfl) (by kernel_rfl) (fun _ _ _ h => h) (Or.inl ⟨by rfl, ?_⟩) hHeld ?_
      · (intro u _; go_simp)
      (try simp only [Act.put, List.setIfInBounds_toArray, List.set_cons_zero, List.set_cons_succ])
      refine L4.late_free 16 (v := .int .i64 ((i : Nat) : Int)) rfl (by kernel_rfl) (by kernel_rfl) (by kernel_rfl) (by kernel_rfl) (by kernel_rfl) (by kernel_rfl) (fun _ _ _ h => h) (Or.inl ⟨by rfl, ?_⟩) hHeld ?_
      · (intro u _; go_simp)
      (try simp only [Act.put, List.setIfInBounds_toArray, List.set_cons_zero, List.set_cons_succ])
      refine L4.late_free 17 (v := .pointer (some ⟨gp, op + i, none⟩)) rfl (by kernel_rfl) (by kernel_rfl) (by kernel_rfl) (by kernel_rfl) (by kernel_rfl) (by kernel_rfl) (fun _ _ _ h => h) (Or.inl ⟨by rfl, ?_⟩) hHeld ?_
      · (intro u _; go_simp)
      (try simp only [Act.put, List.setIfInBounds_toArray, List.set_cons_zero, List.set_cons_succ])
      refine L4.late_take 18 (v := .slice xo xn xc) rfl (by kernel_rfl) (List.Mem.tail _ (List.Mem.tail _ (List.Mem.head _))) (by kernel_rfl) (by kernel_rfl) (by kernel_rfl) (by kernel_rfl) (fun _ _ _ h => h) (Or.inl ⟨by rfl, ?_⟩) hHeld ?_
      · (intro u hu; (try dsimp only at hu); go_split_ands; go_simp)
      (try simp only [Act.put, List.setIfInBounds_toArray, List.set_cons_zero, List.set_cons_succ])
      refine L4.late_step 19 (by kernel_rfl) rfl (fun K hK => ?_)
      go_simp
      refine (long17 _ _ _ (HXR.out _ B) (by have := HXL.out; omega)).mono ?_
      rintro e y2 ⟨gg, gc, rfl, hlg, c2⟩
      replace hlg := hlg.rg
      rw [HXL.out] at hlg ⊢
      have B := B.trans (c2.mono B.size)
      clear c2 hHeld
      have hHeld := KEEP _ B
      go_wp2_with fail
      refine hK.out _ _ (L4.AllL.kept hHeld) ?_
      clear hK K
      (try simp only [Act.put, List.setIfInBounds_toArray, List.set_cons_zero, List.set_cons_succ])
      refine L4.late_step 20 (by kernel_rfl) rfl (fun K hK => ?_)
      go_simp
      refine (same17 _ _ _ _ (HYR.out _ B) hlg).mono ?_
      rintro e y3 ⟨rfl, c3⟩
      have B := B.trans (c3.mono B.size)
      replace hlg := hlg.below (Nat.le_refl _) c3
      clear c3 hHeld
      have hHeld := KEEP _ B
      go_wp2_with fail
      refine hK.out _ _ (L4.AllL.kept hHeld) ?_
      clear hK K
      (try simp only [Act.put, List.setIfInBounds_toArray, List.set_cons_zero, List.set_cons_succ])
      refine L4.late_free 21 (v := .bool false) rfl (by kernel_rfl) (by kernel_rfl) (by kernel_rfl) (by kernel_rfl) (by kernel_rfl) (by kernel_rfl) (fun _ _ _ h => h) (Or.inl ⟨by rfl, ?_⟩) hHeld ?_
      · (intro u _; go_simp)
      (try simp only [Act.put, List.setIfInBounds_toArray, List.set_cons_zero, List.set_cons_succ])
      refine L4.late_free 22 (v := .bool false) rfl (by kernel_rfl) (by kernel_rfl) (by kernel_rfl) (by kernel_rfl) (by kernel_rfl) (by kernel_rfl) (fun _ _ _ h => h) (Or.inl ⟨by rfl, ?_⟩) hHeld ?_
      · (intro u _; go_simp)
      (try simp only [Act.put, List.setIfInBounds_toArray, List.set_cons_zero, List.set_cons_succ])
      refine L4.late_done (by kernel_rfl) ?_ _
      clear hHeld KEEP
      have HB2 : Hid (Below w.heap.size w y3) := HB.out.trans (B.mono HB.out.size)
      clear B hx2 hy2 HXR HYR HB hcz hcz0 hczt hw6 hxn hlg
      go_wp2
      go_roundg (pn - (i + 1))
      case measure => omega
      case rel => exact ⟨i + 1, by first | rfl | go_num, by omega, Nat.le_refl _, HB2⟩
    · have hltz : ¬ (i : Int) < (pn : Int) := by omega
      obtain rfl : i = pn := by omega
      have hE := HE.out wr HB.out
      have hmk := hE.mark
      obtain ⟨y, gy, oy, hy1, hy3, hy2⟩ := hE.behind.at (show i < i + 1 by omega)
      simp only [Option.some.injEq, Addr.mk.injEq, and_true] at hy3
      obtain ⟨rfl, rfl⟩ := hy3
      rw [Nat.zero_add] at hy2
      have hll : lvs.length = i := by rw [hE.own.len, HN.out]
      rw [List.getElem?_append_right (by rw [hll]; exact Nat.le_refl _), hll, Nat.sub_self] at hy1
      have hym : y = m := by simpa using hy1.symm
      subst hym
      obtain ⟨mo, mn, mc, rfl⟩ : ∃ o n c, y = .slice o n c := by obtain ⟨ao, cap, e⟩ := hmk.sl; exact ⟨_, _, _, e⟩
      have hmn : 1 = mn := hmk.len
      subst hmn
      change wr.cell? ⟨gl, i, none⟩ = some (.slice mo 1 mc) at hy2
      obtain ⟨k, gk, ok, hk1, rfl, hk2⟩ := hmk.at (show 0 < 1 by omega)
      have hk77 : k = -77 := by simpa using hk1.symm
      subst hk77
      rw [Nat.add_zero] at hk2
      have hb1 : (i : Int) + 1 ≤ (lc : Int) := by omega
      have hb2 : (i : Int) < (i : Int) + 1 := by omega
      have hb4 : (i : Int) < ((i + 1 : Nat) : Int) := by omega
      have hb5 : ((i + 1 : Nat) : Int) ≤ (lc : Int) := by omega
      clear hE hmk hy1 hll hk1
      go_wp2
      go_ret
      exact ⟨rfl, HB.out⟩
end Go.Proofs.YthdpomgpcblpeaaGreat

namespace Go.Proofs.YthdpomgpcblpeaaGreat
set_option linter.unusedVariables false
open Go.RowKit
theorem wpList_pushT {P : Program} (w : World) {ops : Array Oper} {rest : List Oper} {o : Oper} {a : Act} {Q : Exit → Act → World → Prop} (hg : o.guard = none) (s x : Operand) (t : TypeId) (hop : o.op = .call { callee := .builtin .append, args := #[s, x], argTypes := #[t, t] })
    (B e : Nat) (i : TypeInfo) (h1 : P.underlying t = some (.slice e)) (h2 : P.info? e = some i) (h3 : i.zero = some (.int .i64 0)) (h4 : i.size = 1) (h5 : i.bytes = 8)
    (mo : Option Addr) (n cap : Nat) (L : List Int) (hs : a.eval s = .slice mo n cap) (hown : OG (Value.int .i64) B e w (.slice mo n cap) L) (gb : Nat) (z : Int) (hx : a.eval x = .slice (some ⟨gb, 0, none⟩) 1 1) (cb : w.cell? ⟨gb, 0, none⟩ = some (.int .i64 z)) (hl : L.length ≤ 1000000) (hB : B ≤ w.heap.size)
    (hK : ∀ ng nc w', OG (Value.int .i64) B e w' (.slice (some ⟨ng, 0, none⟩) (n + 1) nc) (L ++ [z]) → w.grownBy w' (Value.slice mo n cap).ownBlock → ((Value.slice mo n cap).ownBlock = some ng ∨ ng = w.heap.size) → (∀ g, (Value.slice mo n cap).ownBlock = some g → ∀ i, i < n → w'.cell? ⟨g, i, none⟩ = w.cell? ⟨g, i, none⟩) → wpList P ops Q rest (a.put o.dst (.slice (some ⟨ng, 0, none⟩) (n + 1) nc)) w') : wpList P ops Q (o :: rest) a w := by
  have hn := hown.rg.len
  rcases hown.2 with ⟨e1, e2⟩ | ⟨g', cap', cur, e1, _⟩
  · simp only [Value.slice.injEq] at e1
    obtain ⟨rfl, rfl, rfl⟩ := e1
    refine wpList_pushD w (fun _ => rfl) hg s x t hop B e i (.int .i64 0) 8 h1 h2 h3 h4 h5 rfl _ L hs hown gb z hx cb (by unfold maxLen; omega) (by omega) hB ?_
    intro ng n' ncap w' ho hg' hng hlt
    have e3 : n' = 0 + 1 := by have := ho.rg.len; rw [List.length_append, e2] at this; exact this.symm
    subst e3
    exact hK ng ncap w' ho hg' hng (fun g hg => by simp [Value.ownBlock] at hg)
  · simp only [Value.slice.injEq] at e1
    obtain ⟨rfl, rfl, rfl⟩ := e1
    refine wpList_plain hg fun K hK' => ?_
    refine wp_pushK s x t hop B e i h1 h2 h3 h4 h5 g' _ cap L hs hown gb z hx cb hl hB ?_
    intro ng nc w' ho hg' hng hcl
    refine hK' _ _ (hK ng nc w' ho hg' (hng.imp (fun e => by rw [e]; rfl) id) (fun g hg => ?_))
    have e4 : g' = g := by simpa [Value.ownBlock] using hg
    subst e4
    exact hcl
/-- A row written full up to a place. -/
def skF (L : List Int) (mark : Int) (k : Nat) : List Int := List.replicate k mark ++ L.drop k
theorem skF_len {L : List Int} {mark : Int} {k : Nat} (hk : k ≤ L.length) : (skF L mark k).length = L.length := by unfold skF; rw [List.length_append, List.length_replicate, List.length_drop]; omega
theorem skF_at {L : List Int} {mark : Int} {k : Nat} (hk : k < L.length) : (skF L mark k).set k mark = skF L mark (k + 1) := by
  unfold skF
  rw [List.set_append_right _ _ (by simp), List.length_replicate, Nat.sub_self, List.drop_eq_getElem_cons hk, List.set_cons_zero, List.replicate_succ', List.append_assoc]
  rfl
theorem skF_end {L : List Int} {mark : Int} {n : Nat} (h : L.length = n) : skF L mark n = List.replicate n mark := by
  unfold skF; rw [List.drop_of_length_le (by omega), List.append_nil]
/-- The blocks of a row. -/
def OfV (v : Value) (q : Nat) : Prop := v.ownBlock = some q
/-- A row written full is gone on with. -/
structure SkI (B : Nat) (w0 w : World) (v m : Value) (n : Nat) (mark : Int) (k : Nat) : Prop where
  row : RG (Value.int .i64) w v (List.replicate n mark)
  pil : OG (Value.int .i64) B 3 w m (List.replicate n mark ++ List.replicate k 7)
  plc : ∀ q, m.ownBlock = some q → v.ownBlock = some q ∨ w0.heap.size ≤ q
  frm : FrP (OfV v) w0 w
theorem SkI.below {B : Nat} {w0 w w' : World} {v m : Value} {n : Nat} {mark : Int} {k : Nat} (h : SkI B w0 w v m n mark k) (b : Below w.heap.size w w') : SkI B w0 w' v m n mark k :=
  ⟨h.row.below (Nat.le_refl _) b, h.pil.below b, h.plc, h.frm.tr (FrP.of_below (S := fun _ => False) b) (fun _ _ e => e.elim)⟩
theorem SkI.push {B : Nat} {w0 w w' : World} {vo mo : Option Addr} {vn vc n mn mc k ng nc : Nat} {mark : Int} (h : SkI B w0 w (.slice vo vn vc) (.slice mo mn mc) n mark k) (hz : ∀ g o, vo = some ⟨g, o, none⟩ → o = 0) (hlt : ∀ q, OfV (.slice vo vn vc) q → q < w0.heap.size)
    (ho : OG (Value.int .i64) B 3 w' (.slice (some ⟨ng, 0, none⟩) (mn + 1) nc) ((List.replicate n mark ++ List.replicate k 7) ++ [7])) (hg : w.grownBy w' (Value.slice mo mn mc).ownBlock) (hng : (Value.slice mo mn mc).ownBlock = some ng ∨ ng = w.heap.size) (hc : ∀ g, (Value.slice mo mn mc).ownBlock = some g → ∀ i, i < mn → w'.cell? ⟨g, i, none⟩ = w.cell? ⟨g, i, none⟩) : SkI B w0 w' (.slice vo vn vc) (.slice (some ⟨ng, 0, none⟩) (mn + 1) nc) n mark (k + 1) := by
  have hsz := h.frm.size
  refine ⟨?_, ?_, fun q hq => ?_, ?_⟩
  · have hr := h.row
    obtain ⟨ao, c2, e1, r1, r2, r3, r5⟩ := hr
    simp only [Value.slice.injEq] at e1
    obtain ⟨rfl, rfl, rfl⟩ := e1
    refine ⟨vo, vc, rfl, r1, r2, r3, fun t y hy => ?_⟩
    obtain ⟨g, o, e2, hcl⟩ := r5 t y hy
    have e0 := hz g o e2
    subst e0
    refine ⟨g, 0, e2, ?_⟩
    by_cases em : (Value.slice mo mn mc).ownBlock = some g
    · have hn : (List.replicate n mark ++ List.replicate k 7).length = mn := h.pil.rg.len
      have ht := (List.getElem?_eq_some_iff.1 hy).1
      rw [List.length_append] at hn
      rw [Nat.zero_add] at hcl ⊢
      rw [hc g em t (by omega)]; exact hcl
    · have hgl : g < w.heap.size := Nat.lt_of_lt_of_le (hlt g (by rw [e2]; rfl)) hsz
      rw [← hcl]
      exact World.cell?_of_block (hg.block g hgl (fun e => em e.symm))
  · rw [List.replicate_succ', ← List.append_assoc]; exact ho
  · have e1 : ng = q := by simpa [Value.ownBlock] using hq
    subst e1
    rcases hng with e2 | e2
    · exact h.plc _ e2
    · exact Or.inr (by rw [e2]; exact hsz)
  · exact h.frm.tr (FrP.of_grown hg) (fun q hq e => by
      rcases h.plc q e with e2 | e2
      · exact e2
      · omega)
set_option maxRecDepth 100000 in
set_option maxHeartbeats 12800000 in
theorem spoilt17 (v : Value) (L : List Int) (mark : Int) (B : Nat) (w : World) (h : OG (Value.int .i64) B 3 w v L) (hB : B ≤ w.heap.size) (hl : L.length ≤ 100000) :
    Calls Tryz.prog 11 #[v, .int .i64 mark] w fun e w' => e = .returned (.bool true) ∧ FrP (OfV v) w w' := by
  obtain ⟨i0, hi, hz0, hz1, hz2⟩ := info_parts Tryz.infoI
  obtain ⟨vo, n, vc, rfl⟩ : ∃ o n c, v = .slice o n c := by obtain ⟨ao, cap, e⟩ := h.rg.sl; exact ⟨_, _, _, e⟩
  have hrn : L.length = n := h.rg.len
  rw [hrn] at hl
  have HRN : Hid (L.length = n) := hrn
  have HLT : Hid (∀ q, OfV (.slice vo n vc) q → q < w.heap.size) := fun q hq => (h.lt q hq).2
  have HZ : Hid ((∀ g o, vo = some ⟨g, o, none⟩ → o = 0) ∧ (0 < n → ∃ g, vo = some ⟨g, 0, none⟩)) := by
    rcases h.2 with ⟨e3, e4⟩ | ⟨g', cap', cur, e3, _⟩
    · simp only [Value.slice.injEq] at e3
      obtain ⟨rfl, rfl, rfl⟩ := e3
      exact ⟨fun g o e => by simp at e, fun h => by omega⟩
    · simp only [Value.slice.injEq] at e3
      obtain ⟨rfl, _, _⟩ := e3
      exact ⟨fun g o e => by simp at e; exact e.2.symm, fun _ => ⟨g', rfl⟩⟩
  have HO0 : Hid (OG (Value.int .i64) B 3 w (.slice vo n vc) (skF L mark 0)) := by show OG _ _ _ _ _ _; unfold skF; simpa using h
  have HF0 : Hid (FrP (OfV (.slice vo n vc)) w w) := FrP.refl _ _
  clear h hrn
  go_enter Tryz.func11, Tryz.ntmps11
  go_wp2
  go_loopg [5] n (fun g1 v5 wr => ∃ k : Nat, v5 = .int .i64 k ∧ k ≤ n ∧ n - k ≤ g1 ∧ Hid (OG (Value.int .i64) B 3 wr (.slice vo n vc) (skF L mark k)) ∧ Hid (FrP (OfV (.slice vo n vc)) w wr))
  case atStart => exact ⟨0, rfl, by omega, by omega, HO0, HF0⟩
  case round =>
    clear HO0 HF0
    obtain ⟨k, rfl, hkn, hg1, HO, HF⟩ := hrel
    by_cases hlk : k < n
    · have hlkz : (k : Int) < (n : Int) := by omega
      obtain ⟨g, rfl⟩ := HZ.out.2 (by omega)
      obtain ⟨y, hy⟩ : ∃ y, (skF L mark k)[k]? = some y := ⟨_, List.getElem?_eq_getElem (by rw [skF_len (by rw [HRN.out]; omega), HRN.out]; exact hlk)⟩
      obtain ⟨hc1, hc2⟩ := HO.out.cell hy
      have hset := (HO.out.set (by rw [skF_len (by rw [HRN.out]; omega), HRN.out]) k mark).1
      rw [skF_at (by rw [HRN.out]; exact hlk)] at hset
      obtain ⟨WN, hWN⟩ : ∃ W, W = wr.setCell ⟨g, k, none⟩ (.int .i64 mark) := ⟨_, rfl⟩
      change OG (Value.int .i64) B _ (wr.setCell ⟨g, k, none⟩ (.int .i64 mark)) _ _ at hset
      rw [← hWN] at hset
      have HN : Hid (OG (Value.int .i64) B 3 WN (.slice (some ⟨g, 0, none⟩) n vc) (skF L mark (k + 1))) := hset
      have HFN : Hid (FrP (OfV (.slice (some ⟨g, 0, none⟩) n vc)) w WN) := by show FrP _ _ _; rw [hWN]; exact HF.out.put ⟨g, k, none⟩ _ (fun _ => rfl)
      have HWN : Hid (WN = wr.setCell ⟨g, k, none⟩ (.int .i64 mark)) := hWN
      clear hy hWN hset HO HF
      go_wp2
      rw [← HWN.out]
      clear hc1 hc2 HWN
      go_roundg (n - (k + 1))
      case measure => omega
      case rel => exact ⟨k + 1, by first | rfl | go_num, by omega, Nat.le_refl _, HN, HFN⟩
    · have hlkz : ¬ (k : Int) < (n : Int) := by omega
      obtain rfl : k = n := by omega
      have HS0 : Hid (SkI B w wr (.slice vo k vc) (.slice vo k vc) k mark 0) := by
        have h1 := HO.out
        rw [skF_end HRN.out] at h1
        exact ⟨h1.rg, by rw [List.replicate_zero, List.append_nil]; exact h1, fun q hq => Or.inl hq, HF.out⟩
      clear HO HF
      go_wp2
      go_loopg [6, 7] 60 (fun g2 v6 v7 wq => ∃ (j : Nat) (mo : Option Addr) (mn mc : Nat), v7 = .int .i64 j ∧ v6 = .slice mo mn mc ∧ j ≤ 60 ∧ 60 - j ≤ g2 ∧ Hid (SkI B w wq (.slice vo k vc) (.slice mo mn mc) k mark j))
      case atStart => exact ⟨0, vo, k, vc, rfl, rfl, by omega, by omega, HS0⟩
      case round =>
        clear HS0
        obtain ⟨j, mo, mn, mc, rfl, rfl, hjn, hg3, HR⟩ := hrel
        by_cases hlj : j < 60
        · have hljz : (j : Int) < 60 := by omega
          obtain ⟨WA, hWA⟩ : ∃ W, W = wr.alloc (.cells #[.int .i64 7] 3) := ⟨_, rfl⟩
          obtain ⟨gb, hgb⟩ : ∃ g, g = wr.heap.size := ⟨_, rfl⟩
          have hBA : Below wr.heap.size wr WA := by rw [hWA]; exact belowB _ _
          have HRA : Hid (SkI B w WA (.slice vo k vc) (.slice mo mn mc) k mark j) := HR.out.below hBA
          have HCB : Hid (WA.cell? ⟨gb, 0, none⟩ = some (.int .i64 7)) := by show _ = _; rw [hWA, hgb, World.cell?_alloc_at _ _ _ _ rfl]; rfl
          have HWA : Hid (WA = wr.alloc (.cells #[.int .i64 7] 3)) := hWA
          have HGB : Hid (gb = wr.heap.size) := hgb
          have HLL : Hid ((List.replicate k mark ++ List.replicate j 7).length ≤ 1000000) := by show _ ≤ _; rw [List.length_append, List.length_replicate, List.length_replicate]; omega
          have HBW : Hid (B ≤ WA.heap.size) := Nat.le_trans hB (Nat.le_trans HR.out.frm.size hBA.size)
          clear hWA hgb hBA HR
          go_wp2_with (at_builtin; rw [← HWA.out, ← HGB.out]; refine wpList_pushT _ rfl _ _ 23 rfl B 3 i0 Tryz.underlying23 hi hz0 hz1 hz2 mo mn mc (List.replicate k mark ++ List.replicate j 7) rfl HRA.out.pil gb 7 rfl HCB.out HLL.out HBW.out ?_)
          intro ng nc W2 ho hg9 hng hcl
          have HR2 : Hid (SkI B w W2 (.slice vo k vc) (.slice (some ⟨ng, 0, none⟩) (mn + 1) nc) k mark (j + 1)) := HRA.out.push HZ.out.1 HLT.out (by simpa only [List.append_assoc] using ho) hg9 hng hcl
          clear ho hg9 hng hcl HRA HCB HWA HGB HLL HBW
          go_wp2
          go_roundg (60 - (j + 1))
          case measure => omega
          case rel => exact ⟨j + 1, _, _, _, by first | rfl | go_num, rfl, by omega, Nat.le_refl _, HR2⟩
        · have hljz : ¬ (j : Int) < 60 := by omega
          have hmn : k ≤ mn := by have := HR.out.pil.rg.len; rw [List.length_append, List.length_replicate] at this; omega
          have HRO : Hid (RG (Value.int .i64) wr (.slice vo k vc) (List.replicate k mark)) := HR.out.row
          have HMO : Hid (RG (Value.int .i64) wr (.slice mo mn mc) (List.replicate k mark ++ List.replicate j 7)) := HR.out.pil.rg
          have HFR : Hid (FrP (OfV (.slice vo k vc)) w wr) := HR.out.frm
          clear HR
          go_wp2
          go_loopg [8] k (fun g1 v8 wz => ∃ t : Nat, v8 = .int .i64 t ∧ t ≤ k ∧ k - t ≤ g1 ∧ wz = wr)
          case atStart => exact ⟨0, rfl, by omega, by omega, rfl⟩
          case round =>
            obtain ⟨t, rfl, htn, hg5, rfl⟩ := hrel
            by_cases hlt : t < k
            · have hltz : (t : Int) < (k : Int) := by omega
              have hltm : (t : Int) < (mn : Int) := by omega
              obtain ⟨x, g, o, hx1, rfl, hx2⟩ := HRO.out.at hlt
              obtain ⟨y, g', o', hy1, rfl, hy2⟩ := HMO.out.at (show t < mn by omega)
              have hxe : x = mark := by
                rw [List.getElem?_replicate, if_pos hlt] at hx1
                exact (Option.some.inj hx1).symm
              have hye : y = mark := by
                rw [List.getElem?_append_left (by rw [List.length_replicate]; exact hlt), List.getElem?_replicate, if_pos hlt] at hy1
                exact (Option.some.inj hy1).symm
              have hxb : (x != mark) = false := by rw [hxe]; simp
              have hyb : (y != mark) = false := by rw [hye]; simp
              rw [hxe] at hx2 hxb
              rw [hye] at hy2 hyb
              clear hx1 hy1 hxe hye
              go_wp2
              clear hx2 hy2
              go_roundg (k - (t + 1))
              case measure => omega
              case rel => exact ⟨t + 1, by first | rfl | go_num, by omega, Nat.le_refl _, rfl⟩
            · have hltz : ¬ (t : Int) < (k : Int) := by omega
              go_wp2
              go_ret
              exact ⟨rfl, HFR.out⟩
end Go.Proofs.YthdpomgpcblpeaaGreat

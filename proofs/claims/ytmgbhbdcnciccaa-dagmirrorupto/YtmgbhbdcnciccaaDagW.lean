/-
  Proved here: Edges, the program's and the document's.
-/
import Derived.Test.YtmgbhbdcnciccaaDagV
namespace Go.Proofs.Ytmgbhbdcnciccaa
set_option linter.unusedVariables false
open Go.RowKit
/-- The cells of edges. -/
def flE (es : List (Int × Int)) : List Value := es.flatMap (fun e => [.int .i64 e.1, .int .i64 e.2])
/-- A row of edges of the call's own. -/
def OE (B : Nat) (w : World) (v : Value) (es : List (Int × Int)) : Prop := w.ownsRow B 39 2 v es.length (flE es)
theorem OE.lt {B : Nat} {w : World} {v : Value} {es : List (Int × Int)} (h : OE B w v es) : ∀ g, v.ownBlock = some g → B ≤ g ∧ g < w.heap.size := World.ownsRow.lt h
theorem OE.nil (B : Nat) (w : World) : OE B w (.slice none 0 0) [] := World.ownsRow_nil _ _ _ _
theorem OE.of_blocks {B : Nat} {w w' : World} {v : Value} {es : List (Int × Int)} (h : OE B w v es) (hb : ∀ g, v.ownBlock = some g → w'.heap[g]? = w.heap[g]?) : OE B w' v es := by
  refine ⟨h.1, ?_⟩
  rcases h.2 with h0 | ⟨g, cap, cur, rfl, h3, h4, h5⟩
  · exact Or.inl h0
  · exact Or.inr ⟨g, cap, cur, rfl, h3, by rw [hb g rfl]; exact h4, h5⟩
theorem OE.below {B : Nat} {w w' : World} {v : Value} {es : List (Int × Int)} (h : OE B w v es) (hb : Below w.heap.size w w') : OE B w' v es := h.of_blocks fun g hg => hb.block g (h.lt g hg).2
theorem OE.mono {B B' : Nat} {w : World} {v : Value} {es : List (Int × Int)} (h : OE B w v es) (hB : B' ≤ B) : OE B' w v es := by
  refine ⟨h.1, ?_⟩
  rcases h.2 with h0 | ⟨g, cap, cur, e, h3, h4⟩
  · exact Or.inl h0
  · exact Or.inr ⟨g, cap, cur, e, Nat.le_trans hB h3, h4⟩
theorem OE.sl {B : Nat} {w : World} {v : Value} {es : List (Int × Int)} (h : OE B w v es) : ∃ ao cap, v = .slice ao es.length cap ∧ es.length ≤ cap ∧ cap ≤ maxLen := by
  rcases h.2 with ⟨e, h0⟩ | ⟨g, cap, cur, e, h3, h4, h5, h6, -⟩
  · exact ⟨none, 0, by rw [h0]; exact e, by omega, by unfold maxLen; omega⟩
  · exact ⟨_, cap, e, h5, h6⟩
theorem flE_len (es : List (Int × Int)) : (flE es).length = 2 * es.length := by
  induction es with
  | nil => rfl
  | cons e es ih => simp [flE] at ih ⊢; omega
theorem flE_app (es fs : List (Int × Int)) : flE (es ++ fs) = flE es ++ flE fs := by simp [flE]
theorem Try.infoED : (Try.prog.info? 39).map (fun i => (i.zero, i.size, i.bytes)) = some (some (.agg #[.int .i64 0, .int .i64 0]), 2, 16) := by kernel_rfl
theorem wpList_pushE {P : Program} (w : World) {ops : Array Oper} {rest : List Oper} {o : Oper} {a : Act} {Q : Exit → Act → World → Prop} (hg : o.guard = none) (s x : Operand) (t : TypeId) (hop : o.op = .call { callee := .builtin .append, args := #[s, x], argTypes := #[t, t] })
    (B : Nat) (i : TypeInfo) (h1 : P.underlying t = some (.slice 39)) (h2 : P.info? 39 = some i) (h3 : i.zero = some (.agg #[.int .i64 0, .int .i64 0])) (h4 : i.size = 2) (h5 : i.bytes = 16)
    (v : Value) (es : List (Int × Int)) (hs : a.eval s = v) (hown : OE B w v es) (gb : Nat) (p q : Int) (hx : a.eval x = .slice (some ⟨gb, 0, none⟩) 1 1) (c0 : w.cell? ⟨gb, 0, none⟩ = some (.int .i64 p)) (c1 : w.cell? ⟨gb, 1, none⟩ = some (.int .i64 q)) (hl : es.length ≤ 1000000) (hB : B ≤ w.heap.size)
    (hK : ∀ ng n ncap w', OE B w' (.slice (some ⟨ng, 0, none⟩) n ncap) (es ++ [(p, q)]) → w.grownBy w' v.ownBlock → (v.ownBlock = some ng ∨ ng = w.heap.size) → ng < w'.heap.size → wpList P ops Q rest (a.put o.dst (.slice (some ⟨ng, 0, none⟩) n ncap)) w') : wpList P ops Q (o :: rest) a w := by
  refine wpList_plain hg fun K hK' => ?_
  refine wp_append_lies _ s x t hop B _ i _ 2 16 h1 h2 h3 h4 h5 rfl (by decide) v es.length _ hs hown ⟨gb, 0, none⟩ 1 1 [.int .i64 p, .int .i64 q] hx rfl (fun j u hj => by match j, hj with
    | 0, hj => simp at hj; subst hj; rw [Addr.add_lit, Nat.add_zero]; exact c0
    | 1, hj => simp at hj; subst hj; rw [Addr.add_lit]; exact c1) (by simp [Value.oneCell']) (by decide) (by unfold maxLen; omega) (by omega) hB _ rfl ?_
  intro ng ncap w' ho hg' hgg hlt
  refine hK' _ _ (hK ng _ ncap w' ?_ hg' hgg hlt)
  unfold OE
  rw [List.length_append, flE_app]
  exact ho
/-- The edges of the first points. -/
def edF (P : List (List Int)) : Nat → List (Int × Int)
  | 0 => []
  | i + 1 => edF P i ++ (P.getD i []).map (fun p => (p, (i : Int)))
def edK (P : List (List Int)) (i k : Nat) : List (Int × Int) := edF P i ++ ((P.getD i []).take k).map (fun p => (p, (i : Int)))
theorem edK_zero (P : List (List Int)) (i : Nat) : edK P i 0 = edF P i := by simp [edK]
theorem edK_end (P : List (List Int)) {i k : Nat} (h : (P.getD i []).length ≤ k) : edK P i k = edF P (i + 1) := by rw [edK, List.take_of_length_le h]; rfl
theorem edK_step {P : List (List Int)} {i k : Nat} {x : Int} (h : (P.getD i [])[k]? = some x) : edK P i (k + 1) = edK P i k ++ [(x, (i : Int))] := by
  unfold edK
  rw [List.take_add_one, h, List.map_append, ← List.append_assoc]
  rfl
theorem edK_len (P : List (List Int)) (i k : Nat) : (edK P i k).length ≤ (edF P (i + 1)).length := by
  simp only [edK, edF, List.length_append, List.length_map, List.length_take]
  omega
/-- What Edges answers. -/
def edA (P : List (List Int)) : List (Int × Int) := if ckE P = 0 then edF P P.length else []
set_option maxRecDepth 100000 in
set_option maxHeartbeats 6400000 in
theorem edgesD (pv : Value) (pvs : List Value) (P : List (List Int)) (w : World) (h : RRD w pv pvs P) (n : Nat) (hn : P.length = n) (hb : n ≤ 100000) (hbl : ∀ i, (P.getD i []).length ≤ 100000) (hel : ∀ i, i ≤ n → (edF P i).length ≤ 100000) :
    Calls Try.prog 15 #[pv] w fun e w' => ∃ tv, e = .returned (.tuple #[tv, .int .i64 (ckE P)]) ∧ OE w.heap.size w' tv (edA P) ∧ Below w.heap.size w w' := by
  obtain ⟨i1, hi1, ha0, ha1, ha2⟩ := info_parts Try.infoED
  have CC : Hid _ := checkD pv pvs P w h n hn hb hbl
  obtain ⟨po, pn, pc, rfl⟩ : ∃ o n c, pv = .slice o n c := by obtain ⟨ao, cap, e⟩ := h.out.sl; exact ⟨_, _, _, e⟩
  obtain rfl : pn = n := by rw [← hn, ← h.len, h.out.len]
  have HR : Hid (RRD w (.slice po pn pc) pvs P) := h
  have HN : Hid (P.length = pn) := hn
  have HEL : Hid (∀ i, i ≤ pn → (edF P i).length ≤ 100000) := hel
  clear h hn hbl hel
  go_enter Try.func15, Try.ntmps15
  go_wp2_with fail
  refine Calls.mono CC.out ?_
  rintro e y ⟨rfl, hy⟩
  have HB : Hid (Below w.heap.size w y) := hy
  clear CC hy
  obtain ⟨c, hc⟩ : ∃ c, c = ckE P := ⟨_, rfl⟩
  have HC : Hid (c = ckE P) := hc
  rw [← hc]
  clear hc
  by_cases h0 : c = 0
  · subst h0
    have HA : Hid (edA P = edF P pn) := by show _ = _; unfold edA; rw [if_pos HC.out.symm, HN.out]
    go_wp2
    go_loopg [5, 6, 7, 9, 17] pn (fun g1 v5 _v6 _v7 _v9 v17 wr => ∃ (i : Nat) (vo : Option Addr) (vn vc : Nat), v17 = .int .i64 i ∧ v5 = .slice vo vn vc ∧ i ≤ pn ∧ pn - i ≤ g1 ∧ Hid (OE w.heap.size wr (.slice vo vn vc) (edF P i)) ∧ Hid (Below w.heap.size w wr))
    case atStart => exact ⟨0, none, 0, 0, rfl, rfl, by omega, by omega, OE.nil _ _, HB⟩
    case round =>
      clear HB
      obtain ⟨i, vo, vn, vc, rfl, rfl, hin, hg1, HO, HB⟩ := hrel
      by_cases hlt : i < pn
      · have hltz : (i : Int) < (pn : Int) := by omega
        obtain ⟨x, gp, op, hx1, rfl, hx0⟩ := HR.out.out.at hlt
        have hxr := HR.out.inn i x hx1
        obtain ⟨xo, xn, xc, rfl⟩ : ∃ o n c, x = .slice o n c := by obtain ⟨ao, cap, e⟩ := hxr.sl; exact ⟨_, _, _, e⟩
        change w.cell? ⟨gp, op + i, none⟩ = some (.slice xo xn xc) at hx0
        have HX0 : Hid (w.cell? ⟨gp, op + i, none⟩ = some (.slice xo xn xc)) := hx0
        have HX : Hid (RG (Value.int .i64) w (.slice xo xn xc) (P.getD i [])) := hxr
        have hxm : xn ≤ 9223372036854775807 := by have := hxr.room.2.1; have := hxr.room.1; unfold maxLen at *; omega
        have hx2 : wr.cell? ⟨gp, op + i, none⟩ = some (.slice xo xn xc) := keepR HB.out HX0.out
        have HO0 : Hid (OE w.heap.size wr (.slice vo vn vc) (edK P i 0)) := by rw [edK_zero]; exact HO
        have HLE : Hid ((edF P (i + 1)).length ≤ 100000) := HEL.out (i + 1) (by omega)
        clear hxr hx1 hx0 HO
        go_wp2
        clear hx2
        go_loopg [5, 9, 24] xn (fun g2 v5 _v9 v24 wq => ∃ (k : Nat) (vo : Option Addr) (vn vc : Nat), v24 = .int .i64 k ∧ v5 = .slice vo vn vc ∧ k ≤ xn ∧ xn - k ≤ g2 ∧ Hid (OE w.heap.size wq (.slice vo vn vc) (edK P i k)) ∧ Hid (Below w.heap.size w wq))
        case atStart => exact ⟨0, vo, vn, vc, rfl, rfl, by omega, by omega, HO0, HB⟩
        case round =>
          clear HO0 HB
          obtain ⟨k, vo, vn, vc, rfl, rfl, hkx, hg2, HO, HB⟩ := hrel
          have hx2 : wr.cell? ⟨gp, op + i, none⟩ = some (.slice xo xn xc) := keepR HB.out HX0.out
          by_cases hlk : k < xn
          · have hlkz : (k : Int) < (xn : Int) := by omega
            obtain ⟨z, gx, ox, hz1, rfl, hz2⟩ := (HX.out.below (Nat.le_refl _) HB.out).at hlk
            obtain ⟨WA, hWA⟩ : ∃ W, W = wr.alloc (.cells #[.int .i64 z, .int .i64 (i : Int)] 39) := ⟨_, rfl⟩
            obtain ⟨gb, hgb⟩ : ∃ g, g = wr.heap.size := ⟨_, rfl⟩
            have HBA : Hid (Below wr.heap.size wr WA) := by show Below _ _ _; rw [hWA]; exact belowB _ _
            have HC0 : Hid (WA.cell? ⟨gb, 0, none⟩ = some (.int .i64 z) ∧ WA.cell? ⟨gb, 1, none⟩ = some (.int .i64 (i : Int))) := ⟨by rw [hWA, hgb, World.cell?_alloc_at _ _ _ _ rfl]; rfl, by rw [hWA, hgb, World.cell?_alloc_at _ _ _ _ rfl]; rfl⟩
            have HWA : Hid (WA = wr.alloc (.cells #[.int .i64 z, .int .i64 (i : Int)] 39)) := hWA
            have HGB : Hid (gb = wr.heap.size) := hgb
            have HST : Hid (edK P i (k + 1) = edK P i k ++ [(z, (i : Int))]) := edK_step hz1
            have HKL : Hid ((edK P i k).length ≤ 100000) := Nat.le_trans (edK_len P i k) HLE.out
            clear hWA hgb hz1
            go_wp2_with (at_builtin; rw [← HWA.out, ← HGB.out]; refine wpList_pushE _ rfl _ _ 30 rfl w.heap.size i1 Try.underlying30 hi1 ha0 ha1 ha2 _ (edK P i k) rfl (HO.out.below HBA.out) gb z (i : Int) rfl HC0.out.1 HC0.out.2 (by have := HKL.out; omega) (Nat.le_trans HB.out.size HBA.out.size) ?_)
            intro ng m ncap W2 ho hg3 hng _
            have HO2 : Hid (OE w.heap.size W2 (.slice (some ⟨ng, 0, none⟩) m ncap) (edK P i (k + 1))) := by rw [HST.out]; exact ho
            have HB2 : Hid (Below w.heap.size w W2) := (bstepB HB.out HBA.out).trans ⟨hg3.os, hg3.tape, hg3.output, hg3.size, fun q hq => hg3.block q (Nat.lt_of_lt_of_le hq (Nat.le_trans HB.out.size HBA.out.size)) (fun e => by have := (HO.out.lt q e.symm).1; omega)⟩
            clear ho hg3 hng HO HB HBA HC0 HWA HGB HST HKL hx2 hz2
            go_wp2
            go_roundg (xn - (k + 1))
            case measure => omega
            case rel => exact ⟨k + 1, _, _, _, by first | rfl | go_num, rfl, by omega, Nat.le_refl _, HO2, HB2⟩
          · have hlkz : ¬ (k : Int) < (xn : Int) := by omega
            have HO2 : Hid (OE w.heap.size wr (.slice vo vn vc) (edF P (i + 1))) := by rw [← edK_end P (k := k) (by rw [HX.out.len]; omega)]; exact HO
            clear HO HX HX0
            go_wp2
            clear hx2
            go_roundg (pn - (i + 1))
            case measure => omega
            case rel => exact ⟨i + 1, _, _, _, by first | rfl | go_num, rfl, by omega, Nat.le_refl _, HO2, HB⟩
      · have hltz : ¬ (i : Int) < (pn : Int) := by omega
        obtain rfl : i = pn := by omega
        have HO2 : Hid (OE w.heap.size wr (.slice vo vn vc) (edA P)) := by rw [HA.out]; exact HO
        clear HO HA
        go_wp2
        go_ret2
        exact ⟨_, by rw [← HC.out]; rfl, HO2.out, HB.out⟩
  · have hcz : (c != (0 : Int)) = true := by simpa using h0
    have HO2 : Hid (OE w.heap.size y (.slice none 0 0) (edA P)) := by
      show OE _ _ _ _
      unfold edA
      rw [if_neg (by rw [← HC.out]; exact h0)]
      exact OE.nil _ _
    clear h0
    go_wp2
    go_ret2
    exact ⟨_, by rw [← HC.out]; rfl, HO2.out, HB.out⟩
set_option maxRecDepth 100000 in
set_option maxHeartbeats 6400000 in
theorem refEdgesD (pv : Value) (pvs : List Value) (P : List (List Int)) (w : World) (h : RRD w pv pvs P) (n : Nat) (hn : P.length = n) (hb : n ≤ 100000) (hbl : ∀ i, (P.getD i []).length ≤ 100000) (hel : ∀ i, i ≤ n → (edF P i).length ≤ 100000) :
    Calls Try.prog 13 #[pv] w fun e w' => ∃ tv, e = .returned (.tuple #[tv, .int .i64 (ckE P)]) ∧ OE w.heap.size w' tv (edA P) ∧ Below w.heap.size w w' := by
  obtain ⟨i1, hi1, ha0, ha1, ha2⟩ := info_parts Try.infoED
  have CC : Hid _ := refCheckD pv pvs P w h n hn hb
  obtain ⟨po, pn, pc, rfl⟩ : ∃ o n c, pv = .slice o n c := by obtain ⟨ao, cap, e⟩ := h.out.sl; exact ⟨_, _, _, e⟩
  obtain rfl : pn = n := by rw [← hn, ← h.len, h.out.len]
  have HR : Hid (RRD w (.slice po pn pc) pvs P) := h
  have HN : Hid (P.length = pn) := hn
  have HEL : Hid (∀ i, i ≤ pn → (edF P i).length ≤ 100000) := hel
  clear h hn hbl hel
  go_enter Try.func13, Try.ntmps13
  go_wp2_with fail
  refine Calls.mono CC.out ?_
  rintro e y ⟨rfl, hy⟩
  have HB : Hid (Below w.heap.size w y) := hy
  clear CC hy
  obtain ⟨c, hc⟩ : ∃ c, c = ckE P := ⟨_, rfl⟩
  have HC : Hid (c = ckE P) := hc
  rw [← hc]
  clear hc
  by_cases h0 : c = 0
  · subst h0
    have HA : Hid (edA P = edF P pn) := by show _ = _; unfold edA; rw [if_pos HC.out.symm, HN.out]
    go_wp2
    go_loopg [5, 6, 7] pn (fun g1 v5 v6 _v7 wr => ∃ (i : Nat) (vo : Option Addr) (vn vc : Nat), v6 = .int .i64 i ∧ v5 = .slice vo vn vc ∧ i ≤ pn ∧ pn - i ≤ g1 ∧ Hid (OE w.heap.size wr (.slice vo vn vc) (edF P i)) ∧ Hid (Below w.heap.size w wr))
    case atStart => exact ⟨0, none, 0, 0, rfl, rfl, by omega, by omega, OE.nil _ _, HB⟩
    case round =>
      clear HB
      obtain ⟨i, vo, vn, vc, rfl, rfl, hin, hg1, HO, HB⟩ := hrel
      by_cases hlt : i < pn
      · have hltz : (i : Int) < (pn : Int) := by omega
        obtain ⟨x, gp, op, hx1, rfl, hx0⟩ := HR.out.out.at hlt
        have hxr := HR.out.inn i x hx1
        obtain ⟨xo, xn, xc, rfl⟩ : ∃ o n c, x = .slice o n c := by obtain ⟨ao, cap, e⟩ := hxr.sl; exact ⟨_, _, _, e⟩
        change w.cell? ⟨gp, op + i, none⟩ = some (.slice xo xn xc) at hx0
        have HX0 : Hid (w.cell? ⟨gp, op + i, none⟩ = some (.slice xo xn xc)) := hx0
        have HX : Hid (RG (Value.int .i64) w (.slice xo xn xc) (P.getD i [])) := hxr
        have hxm : xn ≤ 9223372036854775807 := by have := hxr.room.2.1; have := hxr.room.1; unfold maxLen at *; omega
        have hx2 : wr.cell? ⟨gp, op + i, none⟩ = some (.slice xo xn xc) := keepR HB.out HX0.out
        have HO0 : Hid (OE w.heap.size wr (.slice vo vn vc) (edK P i 0)) := by rw [edK_zero]; exact HO
        have HLE : Hid ((edF P (i + 1)).length ≤ 100000) := HEL.out (i + 1) (by omega)
        clear hxr hx1 hx0 HO
        go_wp2
        clear hx2
        go_loopg [5, 7] xn (fun g2 v5 v7 wq => ∃ (k : Nat) (vo : Option Addr) (vn vc : Nat), v7 = .int .i64 k ∧ v5 = .slice vo vn vc ∧ k ≤ xn ∧ xn - k ≤ g2 ∧ Hid (OE w.heap.size wq (.slice vo vn vc) (edK P i k)) ∧ Hid (Below w.heap.size w wq))
        case atStart => exact ⟨0, vo, vn, vc, rfl, rfl, by omega, by omega, HO0, HB⟩
        case round =>
          clear HO0 HB
          obtain ⟨k, vo, vn, vc, rfl, rfl, hkx, hg2, HO, HB⟩ := hrel
          have hx2 : wr.cell? ⟨gp, op + i, none⟩ = some (.slice xo xn xc) := keepR HB.out HX0.out
          by_cases hlk : k < xn
          · have hlkz : (k : Int) < (xn : Int) := by omega
            obtain ⟨z, gx, ox, hz1, rfl, hz2⟩ := (HX.out.below (Nat.le_refl _) HB.out).at hlk
            obtain ⟨WA, hWA⟩ : ∃ W, W = wr.alloc (.cells #[.int .i64 z, .int .i64 (i : Int)] 39) := ⟨_, rfl⟩
            obtain ⟨gb, hgb⟩ : ∃ g, g = wr.heap.size := ⟨_, rfl⟩
            have HBA : Hid (Below wr.heap.size wr WA) := by show Below _ _ _; rw [hWA]; exact belowB _ _
            have HC0 : Hid (WA.cell? ⟨gb, 0, none⟩ = some (.int .i64 z) ∧ WA.cell? ⟨gb, 1, none⟩ = some (.int .i64 (i : Int))) := ⟨by rw [hWA, hgb, World.cell?_alloc_at _ _ _ _ rfl]; rfl, by rw [hWA, hgb, World.cell?_alloc_at _ _ _ _ rfl]; rfl⟩
            have HWA : Hid (WA = wr.alloc (.cells #[.int .i64 z, .int .i64 (i : Int)] 39)) := hWA
            have HGB : Hid (gb = wr.heap.size) := hgb
            have HST : Hid (edK P i (k + 1) = edK P i k ++ [(z, (i : Int))]) := edK_step hz1
            have HKL : Hid ((edK P i k).length ≤ 100000) := Nat.le_trans (edK_len P i k) HLE.out
            clear hWA hgb hz1
            go_wp2_with (at_builtin; rw [← HWA.out, ← HGB.out]; refine wpList_pushE _ rfl _ _ 30 rfl w.heap.size i1 Try.underlying30 hi1 ha0 ha1 ha2 _ (edK P i k) rfl (HO.out.below HBA.out) gb z (i : Int) rfl HC0.out.1 HC0.out.2 (by have := HKL.out; omega) (Nat.le_trans HB.out.size HBA.out.size) ?_)
            intro ng m ncap W2 ho hg3 hng _
            have HO2 : Hid (OE w.heap.size W2 (.slice (some ⟨ng, 0, none⟩) m ncap) (edK P i (k + 1))) := by rw [HST.out]; exact ho
            have HB2 : Hid (Below w.heap.size w W2) := (bstepB HB.out HBA.out).trans ⟨hg3.os, hg3.tape, hg3.output, hg3.size, fun q hq => hg3.block q (Nat.lt_of_lt_of_le hq (Nat.le_trans HB.out.size HBA.out.size)) (fun e => by have := (HO.out.lt q e.symm).1; omega)⟩
            clear ho hg3 hng HO HB HBA HC0 HWA HGB HST HKL hx2 hz2
            go_wp2
            go_roundg (xn - (k + 1))
            case measure => omega
            case rel => exact ⟨k + 1, _, _, _, by first | rfl | go_num, rfl, by omega, Nat.le_refl _, HO2, HB2⟩
          · have hlkz : ¬ (k : Int) < (xn : Int) := by omega
            have HO2 : Hid (OE w.heap.size wr (.slice vo vn vc) (edF P (i + 1))) := by rw [← edK_end P (k := k) (by rw [HX.out.len]; omega)]; exact HO
            clear HO HX HX0
            go_wp2
            clear hx2
            go_roundg (pn - (i + 1))
            case measure => omega
            case rel => exact ⟨i + 1, _, _, _, by first | rfl | go_num, rfl, by omega, Nat.le_refl _, HO2, HB⟩
      · have hltz : ¬ (i : Int) < (pn : Int) := by omega
        obtain rfl : i = pn := by omega
        have HO2 : Hid (OE w.heap.size wr (.slice vo vn vc) (edA P)) := by rw [HA.out]; exact HO
        clear HO HA
        go_wp2
        go_ret2
        exact ⟨_, by rw [← HC.out]; rfl, HO2.out, HB.out⟩
  · have hcz : (c != (0 : Int)) = true := by simpa using h0
    have HO2 : Hid (OE w.heap.size y (.slice none 0 0) (edA P)) := by
      show OE _ _ _ _
      unfold edA
      rw [if_neg (by rw [← HC.out]; exact h0)]
      exact OE.nil _ _
    clear h0
    go_wp2
    go_ret2
    exact ⟨_, by rw [← HC.out]; rfl, HO2.out, HB.out⟩
end Go.Proofs.Ytmgbhbdcnciccaa

/-
  Proved here: what the document's own Scan and Same answer.
-/
import Derived.Test.YtlemnbegblpllaaDoorLexRA
namespace Go.Proofs.YtlemnbegblpllaaDoor
open Go.RowKit
/-- What the document's Scan leaves. -/
def SrEnd (w : World) (al : List Out) (e : Ending) (w' : World) : Prop :=
  Below w.heap.size w w' ∧
  ((fltOf al = none ∧ ∃ v, e = .returned (.tuple #[v, .agg #[.int .i64 0, .int .i64 0, .int .i64 0, .string ⟨#[]⟩]]) ∧ w'.ownsRow w.heap.size 38 4 v al.length (al.flatMap tokCells)) ∨
   (∃ (c : Int) (li co : Nat) (wd : ByteArray), c ≠ 0 ∧ fltOf al = some (c, li, co, wd) ∧ e = .returned (.tuple #[.slice none 0 0, .agg #[.int .i64 c, .int .i64 (li : Int), .int .i64 (co : Int), .string wd]])))
set_option maxRecDepth 100000 in
set_option maxHeartbeats 3200000 in
theorem scanR_any (s : ByteArray) (w : World) (hs : s.size < 4294967281) :
    Calls Tryd.prog 10 #[.string s] w (SrEnd w (allF s 0)) := by
  have hA := fun w => allR_any s w hs
  unfold SrEnd
  generalize allF s 0 = al at *
  obtain ⟨W1, hW1⟩ : ∃ W1, w.alloc (.cells #[.int .i64 0, .int .i64 0, .int .i64 0, .string ⟨#[]⟩] 26) = W1 := ⟨_, rfl⟩
  have b1 : Below w.heap.size w W1 := by rw [← hW1]; exact belowA1 _ _
  have hz1 : W1.heap.size = w.heap.size + 1 := by rw [← hW1]; simp
  have hF1 : FtC W1 w.heap.size (.int .i64 0) (.int .i64 0) (.int .i64 0) (.string ⟨#[]⟩) := by rw [← hW1]; exact ftc_new _ rfl
  go_enter Tryd.func10, Tryd.ntmps10
  go_wp2_with fail
  refine (hA _).mono ?_
  rintro e w2 ⟨b2, ⟨hf, v, rfl, hr⟩ | ⟨outs, c, li, co, wd, v, hc0, rfl, ht, rfl, hr⟩⟩
  · obtain ⟨W3, hW3⟩ : ∃ W3, w2.alloc (.cells #[.int .i64 0, .int .i64 0, .int .i64 0, .string ⟨#[]⟩] 26) = W3 := ⟨_, rfl⟩
    have b3 : Below w2.heap.size w2 W3 := by rw [← hW3]; exact belowA1 _ _
    have hF3 : FtC W3 w2.heap.size (.int .i64 0) (.int .i64 0) (.int .i64 0) (.string ⟨#[]⟩) := by rw [← hW3]; exact ftc_new _ rfl
    have hF2 := (hF1.below b2).below b3
    have hlt : w.heap.size < w2.heap.size := (hF1.below b2).lt
    have hr3 : W3.ownsRow W1.heap.size 38 4 v al.length (al.flatMap tokCells) := by rw [← hW3]; exact hr.alloc _
    have hB := bstep1 (bstep1 b1 b2) b3
    have hv := (hr.lt)
    have hR4 := ownsRow_setCell_other (ownsRow_setCell_other (ownsRow_setCell_other (ownsRow_setCell_other hr3 (a := ⟨w2.heap.size, 0, none⟩) (fun e => by have h : w2.heap.size < w2.heap.size := (hv _ e).2; omega) (.int .i64 0)) (a := ⟨w2.heap.size, 1, none⟩) (fun e => by have h : w2.heap.size < w2.heap.size := (hv _ e).2; omega) (.int .i64 0)) (a := ⟨w2.heap.size, 2, none⟩) (fun e => by have h : w2.heap.size < w2.heap.size := (hv _ e).2; omega) (.int .i64 0)) (a := ⟨w2.heap.size, 3, none⟩) (fun e => by have h : w2.heap.size < w2.heap.size := (hv _ e).2; omega) (.string ⟨#[]⟩)
    have hB4 := (((hB.setCell (p := ⟨w2.heap.size, 0, none⟩) (Nat.le_of_lt hlt) (.int .i64 0)).setCell (p := ⟨w2.heap.size, 1, none⟩) (Nat.le_of_lt hlt) (.int .i64 0)).setCell (p := ⟨w2.heap.size, 2, none⟩) (Nat.le_of_lt hlt) (.int .i64 0)).setCell (p := ⟨w2.heap.size, 3, none⟩) (Nat.le_of_lt hlt) (.string ⟨#[]⟩)
    have hE := hF3.write (.int .i64 0) (.int .i64 0) (.int .i64 0) (.string ⟨#[]⟩)
    have ne : w.heap.size ≠ w2.heap.size := Nat.ne_of_lt hlt
    have hG := (((hF2.set (p := ⟨w2.heap.size, 0, none⟩) ne (.int .i64 0)).set (p := ⟨w2.heap.size, 1, none⟩) ne (.int .i64 0)).set (p := ⟨w2.heap.size, 2, none⟩) ne (.int .i64 0)).set (p := ⟨w2.heap.size, 3, none⟩) ne (.string ⟨#[]⟩)
    obtain ⟨X, hX⟩ : ∃ X, X = (((W3.setCell ⟨w2.heap.size, 0, none⟩ (.int .i64 0)).setCell ⟨w2.heap.size, 1, none⟩ (.int .i64 0)).setCell ⟨w2.heap.size, 2, none⟩ (.int .i64 0)).setCell ⟨w2.heap.size, 3, none⟩ (.string ⟨#[]⟩) := ⟨_, rfl⟩
    rw [← hX] at hR4 hB4 hE hG
    have hXr := hX.symm
    obtain ⟨t0, t1, t2, t3⟩ := hF3.cells
    have z0 := hF3.thaw 0
    have z1 := hF3.thaw 1
    have z2 := hF3.thaw 2
    have z3 := hF3.thaw 3
    obtain ⟨e0, e1, e2, e3⟩ := hE.cells
    obtain ⟨r0, r1, r2, r3⟩ := hG.cells
    have y0 := hG.thaw 0
    have y1 := hG.thaw 1
    have y2 := hG.thaw 2
    have y3 := hG.thaw 3
    have hO := hG.write (.int .i64 0) (.int .i64 0) (.int .i64 0) (.string ⟨#[]⟩)
    have hBO := (((hB4.setCell (p := ⟨w.heap.size, 0, none⟩) (Nat.le_refl _) (.int .i64 0)).setCell (p := ⟨w.heap.size, 1, none⟩) (Nat.le_refl _) (.int .i64 0)).setCell (p := ⟨w.heap.size, 2, none⟩) (Nat.le_refl _) (.int .i64 0)).setCell (p := ⟨w.heap.size, 3, none⟩) (Nat.le_refl _) (.string ⟨#[]⟩)
    have hRO := ownsRow_setCell_below (ownsRow_setCell_below (ownsRow_setCell_below (ownsRow_setCell_below hR4 (a := ⟨w.heap.size, 0, none⟩) (by show w.heap.size < W1.heap.size; omega) (.int .i64 0)) (a := ⟨w.heap.size, 1, none⟩) (by show w.heap.size < W1.heap.size; omega) (.int .i64 0)) (a := ⟨w.heap.size, 2, none⟩) (by show w.heap.size < W1.heap.size; omega) (.int .i64 0)) (a := ⟨w.heap.size, 3, none⟩) (by show w.heap.size < W1.heap.size; omega) (.string ⟨#[]⟩)
    have HO : Hid (FtC _ w.heap.size (.int .i64 0) (.int .i64 0) (.int .i64 0) (.string ⟨#[]⟩)) := hO
    have HB : Hid (Below w.heap.size w _) := hBO
    have HR : Hid (World.ownsRow _ W1.heap.size 38 4 v al.length (al.flatMap tokCells)) := hRO
    clear hA hO hBO hRO hG hE hB4 hR4 hX hv hr3 hr hB hF2 hF3 b1 b2 b3 hF1
    go_wp2_with fail
    go_region
    all_goals (try go_wp2)
    all_goals (try simp only [Exit.inBlock, Exit.then])
    exact bodyPost_ret (results_tcx (u := 2) (p := 3) rfl _ _ w.heap.size 26 _ (0, 0) _ rfl (HO.out.below ((Below.refl _ _).drew)) Tryd.underlying26 rfl (by kernel_rfl)) rfl ⟨HB.out.drew, .inl ⟨hf, _, rfl, Joins.ownsRow_le HR.out.drew (by omega)⟩⟩
  · obtain ⟨W3, hW3⟩ : ∃ W3, w2.alloc (.cells #[.int .i64 0, .int .i64 0, .int .i64 0, .string ⟨#[]⟩] 26) = W3 := ⟨_, rfl⟩
    have b3 : Below w2.heap.size w2 W3 := by rw [← hW3]; exact belowA1 _ _
    have hF3 : FtC W3 w2.heap.size (.int .i64 0) (.int .i64 0) (.int .i64 0) (.string ⟨#[]⟩) := by rw [← hW3]; exact ftc_new _ rfl
    have hF2 := (hF1.below b2).below b3
    have hlt : w.heap.size < w2.heap.size := (hF1.below b2).lt
    have hr3 : W3.ownsRow W1.heap.size 38 4 v outs.length (outs.flatMap tokCells) := by rw [← hW3]; exact hr.alloc _
    have hB := bstep1 (bstep1 b1 b2) b3
    have hv := (hr.lt)
    have hR4 := ownsRow_setCell_other (ownsRow_setCell_other (ownsRow_setCell_other (ownsRow_setCell_other hr3 (a := ⟨w2.heap.size, 0, none⟩) (fun e => by have h : w2.heap.size < w2.heap.size := (hv _ e).2; omega) (.int .i64 c)) (a := ⟨w2.heap.size, 1, none⟩) (fun e => by have h : w2.heap.size < w2.heap.size := (hv _ e).2; omega) (.int .i64 (li : Int))) (a := ⟨w2.heap.size, 2, none⟩) (fun e => by have h : w2.heap.size < w2.heap.size := (hv _ e).2; omega) (.int .i64 (co : Int))) (a := ⟨w2.heap.size, 3, none⟩) (fun e => by have h : w2.heap.size < w2.heap.size := (hv _ e).2; omega) (.string wd)
    have hB4 := (((hB.setCell (p := ⟨w2.heap.size, 0, none⟩) (Nat.le_of_lt hlt) (.int .i64 c)).setCell (p := ⟨w2.heap.size, 1, none⟩) (Nat.le_of_lt hlt) (.int .i64 (li : Int))).setCell (p := ⟨w2.heap.size, 2, none⟩) (Nat.le_of_lt hlt) (.int .i64 (co : Int))).setCell (p := ⟨w2.heap.size, 3, none⟩) (Nat.le_of_lt hlt) (.string wd)
    have hE := hF3.write (.int .i64 c) (.int .i64 (li : Int)) (.int .i64 (co : Int)) (.string wd)
    have ne : w.heap.size ≠ w2.heap.size := Nat.ne_of_lt hlt
    have hG := (((hF2.set (p := ⟨w2.heap.size, 0, none⟩) ne (.int .i64 c)).set (p := ⟨w2.heap.size, 1, none⟩) ne (.int .i64 (li : Int))).set (p := ⟨w2.heap.size, 2, none⟩) ne (.int .i64 (co : Int))).set (p := ⟨w2.heap.size, 3, none⟩) ne (.string wd)
    obtain ⟨X, hX⟩ : ∃ X, X = (((W3.setCell ⟨w2.heap.size, 0, none⟩ (.int .i64 c)).setCell ⟨w2.heap.size, 1, none⟩ (.int .i64 (li : Int))).setCell ⟨w2.heap.size, 2, none⟩ (.int .i64 (co : Int))).setCell ⟨w2.heap.size, 3, none⟩ (.string wd) := ⟨_, rfl⟩
    rw [← hX] at hR4 hB4 hE hG
    have hXr := hX.symm
    obtain ⟨t0, t1, t2, t3⟩ := hF3.cells
    have z0 := hF3.thaw 0
    have z1 := hF3.thaw 1
    have z2 := hF3.thaw 2
    have z3 := hF3.thaw 3
    obtain ⟨e0, e1, e2, e3⟩ := hE.cells
    obtain ⟨r0, r1, r2, r3⟩ := hG.cells
    have y0 := hG.thaw 0
    have y1 := hG.thaw 1
    have y2 := hG.thaw 2
    have y3 := hG.thaw 3
    have hO := hG.write (.int .i64 c) (.int .i64 (li : Int)) (.int .i64 (co : Int)) (.string wd)
    have hBO := (((hB4.setCell (p := ⟨w.heap.size, 0, none⟩) (Nat.le_refl _) (.int .i64 c)).setCell (p := ⟨w.heap.size, 1, none⟩) (Nat.le_refl _) (.int .i64 (li : Int))).setCell (p := ⟨w.heap.size, 2, none⟩) (Nat.le_refl _) (.int .i64 (co : Int))).setCell (p := ⟨w.heap.size, 3, none⟩) (Nat.le_refl _) (.string wd)
    have hRO := ownsRow_setCell_below (ownsRow_setCell_below (ownsRow_setCell_below (ownsRow_setCell_below hR4 (a := ⟨w.heap.size, 0, none⟩) (by show w.heap.size < W1.heap.size; omega) (.int .i64 c)) (a := ⟨w.heap.size, 1, none⟩) (by show w.heap.size < W1.heap.size; omega) (.int .i64 (li : Int))) (a := ⟨w.heap.size, 2, none⟩) (by show w.heap.size < W1.heap.size; omega) (.int .i64 (co : Int))) (a := ⟨w.heap.size, 3, none⟩) (by show w.heap.size < W1.heap.size; omega) (.string wd)
    have HO : Hid (FtC _ w.heap.size (.int .i64 c) (.int .i64 (li : Int)) (.int .i64 (co : Int)) (.string wd)) := hO
    have HB : Hid (Below w.heap.size w _) := hBO
    have HR : Hid (World.ownsRow _ W1.heap.size 38 4 v outs.length (outs.flatMap tokCells)) := hRO
    have hcz : (c != 0) = true := by simp only [bne, beq_eq_false_iff_ne.2 hc0]; rfl
    clear hA hO hBO hRO hG hE hB4 hR4 hX hv hr3 hr hB hF2 hF3 b1 b2 b3 hF1
    go_wp2_with fail
    go_region
    all_goals (try go_wp2)
    all_goals (try simp only [Exit.inBlock, Exit.then])
    exact bodyPost_ret (results_tcx (u := 2) (p := 3) rfl _ _ w.heap.size 26 _ (0, 0) _ rfl (HO.out.below ((Below.refl _ _).drew)) Tryd.underlying26 rfl (by kernel_rfl)) rfl ⟨HB.out.drew, .inr ⟨c, li, co, wd, hc0, by rw [fltOf_toks _ _ ht]; rfl, rfl⟩⟩
theorem drewN_add (w : World) (q : Nat) : ∀ r, (w.drewN q).drewN r = w.drewN (q + r)
  | 0 => rfl
  | r + 1 => by
    show ((w.drewN q).drewN r).drew = _
    rw [drewN_add w q r]
    rfl
/-- A row of words that can be read. -/
structure TR (w : World) (v : Value) (outs : List Out) : Prop where
  toks : ∀ o ∈ outs, o.isTok = true
  form : (v = .slice none 0 0 ∧ outs = []) ∨ ∃ g cap, v = .slice (some ⟨g, 0, none⟩) outs.length cap ∧ g < w.heap.size ∧ ∀ (i : Nat) (k : Int) (ms : ByteArray) (li co j : Nat), outs[i]? = some (.tok k ms li co j) → w.cell? ⟨g, i * 4, none⟩ = some (.int .i8 k) ∧ w.cell? ⟨g, i * 4 + 1, none⟩ = some (.string ms) ∧ w.cell? ⟨g, i * 4 + 2, none⟩ = some (.int .i64 (li : Int)) ∧ w.cell? ⟨g, i * 4 + 3, none⟩ = some (.int .i64 (co : Int))
theorem flat_len : ∀ (outs : List Out), (∀ o ∈ outs, o.isTok = true) → (outs.flatMap tokCells).length = outs.length * 4
  | [], _ => rfl
  | .tok _ _ _ _ _ :: l, h => by
    have := flat_len l (fun o ho => h o (List.mem_cons_of_mem _ ho))
    rw [List.flatMap_cons, List.length_append, this, List.length_cons]
    show 4 + _ = _
    omega
  | .flt _ _ _ _ :: l, h => absurd (h _ List.mem_cons_self) (fun h => by cases h)
theorem flat_get : ∀ (outs : List Out), (∀ o ∈ outs, o.isTok = true) → ∀ i k ms li co j, outs[i]? = some (.tok k ms li co j) → ∀ r, r < 4 → (outs.flatMap tokCells)[i * 4 + r]? = (tokCells (.tok k ms li co j))[r]?
  | [], _, i, _, _, _, _, _, h, _, _ => by cases i <;> cases h
  | .flt _ _ _ _ :: l, h, _, _, _, _, _, _, _, _, _ => absurd (h _ List.mem_cons_self) (fun h => by cases h)
  | .tok k0 m0 l0 c0 j0 :: l, h, 0, k, ms, li, co, j, hi, r, hr => by
    have e : Out.tok k0 m0 l0 c0 j0 = .tok k ms li co j := Option.some.inj hi
    rw [e, List.flatMap_cons, List.getElem?_append_left (by show 0 * 4 + r < 4; omega), Nat.zero_mul, Nat.zero_add]
  | .tok k0 m0 l0 c0 j0 :: l, h, i + 1, k, ms, li, co, j, hi, r, hr => by
    have ih := flat_get l (fun o ho => h o (List.mem_cons_of_mem _ ho)) i k ms li co j hi r hr
    rw [List.flatMap_cons, List.getElem?_append_right (by show 4 ≤ _; omega)]
    rw [← ih]
    congr 1
    show (i + 1) * 4 + r - 4 = _
    omega
theorem TR.of_row {w : World} {B : Nat} {v : Value} {outs : List Out} (ht : ∀ o ∈ outs, o.isTok = true) (h : w.ownsRow B 38 4 v outs.length (outs.flatMap tokCells)) : TR w v outs := by
  refine ⟨ht, ?_⟩
  rcases Joins.ownsRow_forms h with ⟨h1, h2⟩ | ⟨g, cap, rfl⟩
  · exact .inl ⟨h1, List.length_eq_zero_iff.1 h2⟩
  · refine .inr ⟨g, cap, rfl, (h.lt g rfl).2, ?_⟩
    intro i k ms li co j hi
    have hlt : i < outs.length := (List.getElem?_eq_some_iff.1 hi).1
    have hg := flat_get outs ht i k ms li co j hi
    refine ⟨?_, ?_, ?_, ?_⟩
    · have := hg 0 (by omega); rw [Nat.add_zero] at this; rw [h.cellAt (i * 4) (by omega), this]; rfl
    · rw [h.cellAt (i * 4 + 1) (by omega), hg 1 (by omega)]; rfl
    · rw [h.cellAt (i * 4 + 2) (by omega), hg 2 (by omega)]; rfl
    · rw [h.cellAt (i * 4 + 3) (by omega), hg 3 (by omega)]; rfl
theorem TR.below {w w' : World} {v : Value} {outs : List Out} (h : TR w v outs) (hb : Below w.heap.size w w') : TR w' v outs := by
  refine ⟨h.toks, ?_⟩
  rcases h.form with h1 | ⟨g, cap, h1, h2, h3⟩
  · exact .inl h1
  · refine .inr ⟨g, cap, h1, Nat.lt_of_lt_of_le h2 hb.size, ?_⟩
    intro i k ms li co j hi
    obtain ⟨c0, c1, c2, c3⟩ := h3 i k ms li co j hi
    exact ⟨keepB2 hb c0, keepB2 hb c1, keepB2 hb c2, keepB2 hb c3⟩
set_option maxRecDepth 100000 in
set_option maxHeartbeats 3200000 in
theorem sameR_yes (va vb : Value) (outs : List Out) (w : World) (ha : TR w va outs) (hb : TR w vb outs) (hz : outs.length < 4294967300) :
    Calls Tryd.prog 13 #[va, vb] w fun e w' => e = .returned (.bool true) ∧ Below w.heap.size w w' := by
  rcases ha.form with ⟨rfl, h0⟩ | ⟨g, cap, rfl, hgl, hcA⟩
  · rcases hb.form with ⟨rfl, _⟩ | ⟨g2, cap2, rfl, _, _⟩
    · go_enter Tryd.func13, Tryd.ntmps13
      go_wp2_with fail
      go_loopw [5] (fun t wr => t = .int .i64 0 ∧ wr = w) (fun _ _ => 0)
      case atStart => exact ⟨rfl, rfl⟩
      case round =>
        obtain ⟨rfl, rfl⟩ := hrel
        go_wp2
        go_ret
        exact ⟨rfl, Below.refl _ _⟩
    · rw [h0]
      go_enter Tryd.func13, Tryd.ntmps13
      go_wp2_with fail
      go_loopw [5] (fun t wr => t = .int .i64 0 ∧ wr = w) (fun _ _ => 0)
      case atStart => exact ⟨rfl, rfl⟩
      case round =>
        obtain ⟨rfl, rfl⟩ := hrel
        go_wp2
        go_ret
        exact ⟨rfl, Below.refl _ _⟩
  · rcases hb.form with ⟨rfl, h0⟩ | ⟨g2, cap2, rfl, _, hcB⟩
    · rw [h0]
      go_enter Tryd.func13, Tryd.ntmps13
      go_wp2_with fail
      go_loopw [5] (fun t wr => t = .int .i64 0 ∧ wr = w) (fun _ _ => 0)
      case atStart => exact ⟨rfl, rfl⟩
      case round =>
        obtain ⟨rfl, rfl⟩ := hrel
        go_wp2
        go_ret
        exact ⟨rfl, Below.refl _ _⟩
    · have htk := ha.toks
      clear ha hb hgl
      obtain ⟨n, hn⟩ : ∃ n, n = outs.length := ⟨_, rfl⟩
      have hnz : n < 4294967300 := by omega
      rw [← hn]
      go_enter Tryd.func13, Tryd.ntmps13
      go_wp2_with fail
      go_loopw [5] (fun t wr => ∃ i : Nat, i ≤ n ∧ t = .int .i64 i ∧ ∃ q, wr = w.drewN q) (fun t _ => n - (intOf t).toNat)
      case atStart => exact ⟨0, Nat.zero_le _, rfl, 0, rfl⟩
      case round =>
        obtain ⟨i, hin, rfl, q, rfl⟩ := hrel
        by_cases hlt : i < n
        · have hge : (i : Int) < (n : Int) := by omega
          have hlo : i < outs.length := by omega
          cases ho : outs[i] with
          | flt c li co wd => exact absurd (htk _ (List.getElem_mem hlo)) (by rw [ho]; exact fun h => by cases h)
          | tok k ms li co j =>
            have hget : outs[i]? = some (.tok k ms li co j) := by rw [List.getElem?_eq_getElem hlo, ho]
            have D := below_drewN (Below.refl w.heap.size w) q
            obtain ⟨a0, a1, a2, a3⟩ := hcA i k ms li co j hget
            obtain ⟨c0, c1, c2, c3⟩ := hcB i k ms li co j hget
            replace a0 := keepB2 D a0
            replace a1 := keepB2 D a1
            replace a2 := keepB2 D a2
            replace a3 := keepB2 D a3
            replace c0 := keepB2 D c0
            replace c1 := keepB2 D c1
            replace c2 := keepB2 D c2
            replace c3 := keepB2 D c3
            have HD : Hid (∀ r, (w.drewN q).drewN r = w.drewN (q + r)) := fun r => drewN_add w q r
            clear hcA hcB hget ho htk D hn hlo
            have HW : Hid (∀ r, ∃ q', (w.drewN q).drewN r = w.drewN q') := fun r => ⟨q + r, HD.out r⟩
            clear HD
            generalize w.drewN q = W at *
            go_wp2_with fail
            go_quiet (fail)
            go_wp2
            go_roundw
            case rel => exact ⟨i + 1, by omega, by go_num, HW.out _⟩
            case measure => simp [intOf]; omega
        · have hge : ¬ (i : Int) < (n : Int) := by omega
          clear hcA hcB htk hn
          go_wp2
          go_ret
          exact ⟨rfl, below_drewN (Below.refl _ _) q⟩
end Go.Proofs.YtlemnbegblpllaaDoor

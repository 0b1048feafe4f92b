/-
  Proved here: what the document's own All answers.
-/
import Derived.Test.YtlemnbegblpllaaDoorLexRM
import Derived.Test.YtlemnbegblpllaaDoorLexScB
namespace Go.Proofs.YtlemnbegblpllaaDoor
open Go.RowKit
/-- Results of a slot and a cell. -/
theorem results_tcx {P : Program} {fn : Func} {p u : Tmp} {ty : TypeId} (h : fn.results = #[.tmp u, .cell p ty]) (tmps : Array Value) (w : World) (g : Nat) (t : TypeId) (cs : Array Value) (fr : Nat × Nat) (d : TypeDesc)
    (hp : tmps.getD p undef = .pointer (some ⟨g, 0, none⟩)) (hg : w.heap[g]? = some (.cells cs t fr))
    (hu : P.underlying ty = some d) (hd : (match d with | .struct _ | .array _ _ => true | _ => false) = true) (hi : (P.info? ty).map (·.size) = some cs.size) :
    (results fn tmps).run P w = .ok (.tuple #[tmps.getD u undef, .agg cs]) w := by
  have hp' : tmps[p]?.getD undef = .pointer (some ⟨g, 0, none⟩) := by simpa using hp
  simp [results, h, hp', asAddr, run_loadVar_row w g t ty cs fr d hg hu hd hi]
/-- What All leaves: the words up to the end, or up to the fault, and the fault. -/
def AlEnd (w : World) (al : List Out) (e : Ending) (w' : World) : Prop :=
  Below w.heap.size w w' ∧
  ((fltOf al = none ∧ ∃ v, e = .returned (.tuple #[v, .agg #[.int .i64 0, .int .i64 0, .int .i64 0, .string ⟨#[]⟩]]) ∧ w'.ownsRow w.heap.size 38 4 v al.length (al.flatMap tokCells)) ∨
   (∃ (outs : List Out) (c : Int) (li co : Nat) (wd : ByteArray) (v : Value), c ≠ 0 ∧ al = outs ++ [.flt c li co wd] ∧ (∀ o ∈ outs, o.isTok = true) ∧ e = .returned (.tuple #[v, .agg #[.int .i64 c, .int .i64 (li : Int), .int .i64 (co : Int), .string wd]]) ∧ w'.ownsRow w.heap.size 38 4 v outs.length (outs.flatMap tokCells)))
/-- All between two rounds. -/
structure AlC (w : World) (v : Value) (outs : List Out) (W : World) : Prop where
  res : FtC W w.heap.size (.int .i64 0) (.int .i64 0) (.int .i64 0) (.string ⟨#[]⟩)
  row : W.ownsRow (w.heap.size + 1) 38 4 v outs.length (outs.flatMap tokCells)
  bel : Below w.heap.size w W
theorem AlC.below {w : World} {v : Value} {outs : List Out} {W W' : World} (h : AlC w v outs W) (hb : Below W.heap.size W W') : AlC w v outs W' :=
  ⟨h.res.below hb, h.row.kept (Off.of (g := W.heap.size) hb) (.inr fun e => by have := (h.row.lt _ e).2; omega), bstep1 h.bel hb⟩
theorem AlC.grown {w : World} {v v' : Value} {outs : List Out} {W W' : World} {o : Out} (h : AlC w v outs W) (hg : W.grownBy W' v.ownBlock) (hn : W'.ownsRow (w.heap.size + 1) 38 4 v' (outs.length + 1) (outs.flatMap tokCells ++ tokCells o)) : AlC w v' (outs ++ [o]) W' := by
  have hl := h.res.lt
  have hne : ∀ k, k < w.heap.size + 1 → some k ≠ v.ownBlock := fun k hk e => by have := (h.row.lt k e.symm).1; omega
  refine ⟨?_, ?_, h.bel.trans ⟨hg.os, hg.tape, hg.output, hg.size, fun k hk => hg.block k (by omega) (hne k (by omega))⟩⟩
  · unfold FtC; rw [hg.block _ hl (hne _ (by omega))]; exact h.res
  · simpa [List.flatMap_append] using hn
theorem room_one {n z : Nat} (h : n ≤ z) (hz : z < 4294967281) : n + 1 ≤ maxLen ∧ (n + 1) * 40 ≤ 140737488355328 := by
  unfold maxLen; omega
theorem wrap_to {i j d n : Nat} (hd : d = j - i) (h : i < j) (hj : j ≤ n) (hn : n < 4294967281) : wrap64 ((i : Int) + (d : Int)) = (j : Int) := by
  unfold wrap64; omega
theorem slice_rest (s : ByteArray) (i : Nat) (h : i ≤ s.size) (w : World) :
    (Instr.slice 9 (.string s) (some (.int .i64 (i : Int))) none none).run Tryd.prog w = .ok (.string (s.extract i s.size)) w := by
  go_simp
set_option maxRecDepth 100000 in
set_option maxHeartbeats 6400000 in
theorem allR_any (s : ByteArray) (w : World) (hs : s.size < 4294967281) :
    Calls Tryd.prog 16 #[.string s] w (AlEnd w (allF s 0)) := by
  obtain ⟨i0, hi0, hz00, hz1, hz2⟩ := info_parts Tryd.infoTok
  go_enter Tryd.func16, Tryd.ntmps16
  go_wp2_with fail
  go_loopw [4, 5] (fun sl t wr => ∃ (i : Nat) (v : Value) (outs : List Out), Pre s i outs ∧ sl = v ∧ t = .int .i64 i ∧ AlC w v outs wr) (fun _ t _ => s.size - (intOf t).toNat)
  case atStart => exact ⟨0, _, [], Pre.nil s, rfl, rfl, ftc_new _ rfl, World.ownsRow_nil _ _ _ _, belowA1 _ _⟩
  case round =>
    obtain ⟨i, v, outs, hp, hv, rfl, hC⟩ := hrel
    replace hv := hv.symm
    subst hv
    have hile := hp.le
    have hlen := hp.len
    have hpl := fun w => placeR_any s i w (by omega) hile
    have hll := (line_le s i).1
    have hcl := col_le s i
    by_cases hlt : i < s.size
    · have hge : (i : Int) < (s.size : Int) := by omega
      have hzu := rest_size hile
      have hT := fun w => takeR_any (s.extract i s.size) w (by omega) (by omega)
      have hcases := step_cases hlt
      have hstep := fun k (h : i + k ≤ s.size) hn => hp.skip (k := k) h hn
      have hnext := fun h => hp.step h
      have hlast := fun h => hp.last h
      have htoks := hp.toks
      have hsl := slice_rest s i hile
      generalize s.extract i s.size = u at *
      generalize takeF u = T at *
      generalize lineOf s i = li at *
      generalize colOf s i = co at *
      generalize nextOut s i = O at *
      clear hp hzu
      rcases hcases with ⟨k, hk0, hks, hn, rfl⟩ | ⟨c, wd, hc0, rfl, rfl⟩ | ⟨k, ms, j, hij, hjs, hk0, rfl, rfl⟩
      · have HP : Hid (Pre s (i + k) outs) := hstep k hks hn
        clear hstep hnext hlast htoks hn
        unfold takeV at hT
        go_wp2_with fail
        refine (hT _).mono ?_
        rintro e w2 ⟨rfl, b2⟩
        clear hT hsl
        have hC2 := hC.below b2
        obtain ⟨W3, hW3⟩ : ∃ W3, (w2.alloc (.cells #[.int .i8 0, .string ⟨#[]⟩, .int .i64 0, .int .i64 0] 38)).alloc (.cells #[.int .i64 0, .int .i64 0, .int .i64 0, .string ⟨#[]⟩] 26) = W3 := ⟨_, rfl⟩
        have hE : TkEnd w2 (.int .i8 0) (.string ⟨#[]⟩) (.int .i64 0) (.int .i64 0) (.int .i64 0) (.int .i64 0) (.int .i64 0) (.string ⟨#[]⟩) W3 := by rw [← hW3]; exact ⟨(tkc_new _ rfl).below (belowA1 _ _), ftc_new _ (by simp), bstep1 (belowA1 _ _) (belowA1 _ _)⟩
        have hX := hE.write (.int .i8 0) (.string ⟨#[]⟩) (.int .i64 0) (.int .i64 0) (.int .i64 0) (.int .i64 0) (.int .i64 0) (.string ⟨#[]⟩)
        have hzX := hE.write (.int .i8 0) (.string ⟨#[]⟩) (.int .i64 0) (.int .i64 0) (.int .i64 0) (.int .i64 0) (.int .i64 0) (.string ⟨#[]⟩)
        obtain ⟨X, hXe⟩ : ∃ X, X = ((((((((W3.setCell ⟨w2.heap.size, 0, none⟩ (.int .i8 0)).setCell ⟨w2.heap.size, 1, none⟩ (.string ⟨#[]⟩)).setCell ⟨w2.heap.size, 2, none⟩ (.int .i64 0)).setCell ⟨w2.heap.size, 3, none⟩ (.int .i64 0)).setCell ⟨w2.heap.size + 1, 0, none⟩ (.int .i64 0)).setCell ⟨w2.heap.size + 1, 1, none⟩ (.int .i64 0)).setCell ⟨w2.heap.size + 1, 2, none⟩ (.int .i64 0)).setCell ⟨w2.heap.size + 1, 3, none⟩ (.string ⟨#[]⟩)) := ⟨_, rfl⟩
        rw [← hXe] at hX
        have HX : Hid (((((((((W3.setCell ⟨w2.heap.size, 0, none⟩ (.int .i8 0)).setCell ⟨w2.heap.size, 1, none⟩ (.string ⟨#[]⟩)).setCell ⟨w2.heap.size, 2, none⟩ (.int .i64 0)).setCell ⟨w2.heap.size, 3, none⟩ (.int .i64 0)).setCell ⟨w2.heap.size + 1, 0, none⟩ (.int .i64 0)).setCell ⟨w2.heap.size + 1, 1, none⟩ (.int .i64 0)).setCell ⟨w2.heap.size + 1, 2, none⟩ (.int .i64 0)).setCell ⟨w2.heap.size + 1, 3, none⟩ (.string ⟨#[]⟩)) = X) := hXe.symm
        have hXz : X.heap.size = w2.heap.size + 2 := by rw [hXe]; simp only [World.setCell]; simp [← hW3]
        obtain ⟨t0, t1, t2, t3⟩ := hE.tok.cells
        obtain ⟨f0, f1, f2, f3⟩ := hE.flt.cells
        have z0 := hE.tok.thaw 0
        have q0 := hE.flt.thaw 0
        have z1 := hE.tok.thaw 1
        have q1 := hE.flt.thaw 1
        have z2 := hE.tok.thaw 2
        have q2 := hE.flt.thaw 2
        have z3 := hE.tok.thaw 3
        have q3 := hE.flt.thaw 3
        clear hXe hzX
        go_wp2_with fail
        rw [HX.out]
        refine (hpl _).mono ?_
        rintro e w4 ⟨rfl, hw4⟩
        subst hw4
        clear hpl HX
        clear t0 t1 t2 t3 f0 f1 f2 f3 z0 z1 z2 z3 q0 q1 q2 q3 hW3 hE
        have hCX := hC2.below hX.bel
        have hrl := hC2.row.lt
        obtain ⟨t0, t1, t2, t3⟩ := hX.tok.cells
        obtain ⟨f0, f1, f2, f3⟩ := hX.flt.cells
        have z0 := hX.tok.thaw 0
        have q0 := hX.flt.thaw 0
        have z1 := hX.tok.thaw 1
        have q1 := hX.flt.thaw 1
        have z2 := hX.tok.thaw 2
        have q2 := hX.flt.thaw 2
        have z3 := hX.tok.thaw 3
        have q3 := hX.flt.thaw 3
        have HC : Hid (AlC w v outs w4) := hCX
        clear hC hC2 hCX hX hrl
        go_wp2
        go_roundw
        case rel => exact ⟨i + k, _, outs, HP.out, rfl, by go_num, HC.out⟩
        case measure => simp [intOf]; omega
      · have HL : Hid (allF s 0 = outs ++ [.flt c li co wd]) := hlast rfl
        have hcz : (c != 0) = true := by simp only [bne, beq_eq_false_iff_ne.2 hc0]; rfl
        clear hstep hnext hlast
        unfold takeV at hT
        go_wp2_with fail
        refine (hT _).mono ?_
        rintro e w2 ⟨rfl, b2⟩
        clear hT hsl
        have hC2 := hC.below b2
        obtain ⟨W3, hW3⟩ : ∃ W3, (w2.alloc (.cells #[.int .i8 0, .string ⟨#[]⟩, .int .i64 0, .int .i64 0] 38)).alloc (.cells #[.int .i64 0, .int .i64 0, .int .i64 0, .string ⟨#[]⟩] 26) = W3 := ⟨_, rfl⟩
        have hE : TkEnd w2 (.int .i8 0) (.string ⟨#[]⟩) (.int .i64 0) (.int .i64 0) (.int .i64 0) (.int .i64 0) (.int .i64 0) (.string ⟨#[]⟩) W3 := by rw [← hW3]; exact ⟨(tkc_new _ rfl).below (belowA1 _ _), ftc_new _ (by simp), bstep1 (belowA1 _ _) (belowA1 _ _)⟩
        have hX := hE.write (.int .i8 0) (.string ⟨#[]⟩) (.int .i64 0) (.int .i64 0) (.int .i64 c) (.int .i64 0) (.int .i64 0) (.string wd)
        have hzX := hE.write (.int .i8 0) (.string ⟨#[]⟩) (.int .i64 0) (.int .i64 0) (.int .i64 c) (.int .i64 0) (.int .i64 0) (.string wd)
        obtain ⟨X, hXe⟩ : ∃ X, X = ((((((((W3.setCell ⟨w2.heap.size, 0, none⟩ (.int .i8 0)).setCell ⟨w2.heap.size, 1, none⟩ (.string ⟨#[]⟩)).setCell ⟨w2.heap.size, 2, none⟩ (.int .i64 0)).setCell ⟨w2.heap.size, 3, none⟩ (.int .i64 0)).setCell ⟨w2.heap.size + 1, 0, none⟩ (.int .i64 c)).setCell ⟨w2.heap.size + 1, 1, none⟩ (.int .i64 0)).setCell ⟨w2.heap.size + 1, 2, none⟩ (.int .i64 0)).setCell ⟨w2.heap.size + 1, 3, none⟩ (.string wd)) := ⟨_, rfl⟩
        rw [← hXe] at hX
        have HX : Hid (((((((((W3.setCell ⟨w2.heap.size, 0, none⟩ (.int .i8 0)).setCell ⟨w2.heap.size, 1, none⟩ (.string ⟨#[]⟩)).setCell ⟨w2.heap.size, 2, none⟩ (.int .i64 0)).setCell ⟨w2.heap.size, 3, none⟩ (.int .i64 0)).setCell ⟨w2.heap.size + 1, 0, none⟩ (.int .i64 c)).setCell ⟨w2.heap.size + 1, 1, none⟩ (.int .i64 0)).setCell ⟨w2.heap.size + 1, 2, none⟩ (.int .i64 0)).setCell ⟨w2.heap.size + 1, 3, none⟩ (.string wd)) = X) := hXe.symm
        have hXz : X.heap.size = w2.heap.size + 2 := by rw [hXe]; simp only [World.setCell]; simp [← hW3]
        obtain ⟨t0, t1, t2, t3⟩ := hE.tok.cells
        obtain ⟨f0, f1, f2, f3⟩ := hE.flt.cells
        have z0 := hE.tok.thaw 0
        have q0 := hE.flt.thaw 0
        have z1 := hE.tok.thaw 1
        have q1 := hE.flt.thaw 1
        have z2 := hE.tok.thaw 2
        have q2 := hE.flt.thaw 2
        have z3 := hE.tok.thaw 3
        have q3 := hE.flt.thaw 3
        clear hXe hzX
        go_wp2_with fail
        rw [HX.out]
        refine (hpl _).mono ?_
        rintro e w4 ⟨rfl, hw4⟩
        subst hw4
        clear hpl HX
        clear t0 t1 t2 t3 f0 f1 f2 f3 z0 z1 z2 z3 q0 q1 q2 q3 hW3 hE
        have hCX := hC2.below hX.bel
        have hrl := hC2.row.lt
        obtain ⟨t0, t1, t2, t3⟩ := hX.tok.cells
        obtain ⟨f0, f1, f2, f3⟩ := hX.flt.cells
        have z0 := hX.tok.thaw 0
        have q0 := hX.flt.thaw 0
        have z1 := hX.tok.thaw 1
        have q1 := hX.flt.thaw 1
        have z2 := hX.tok.thaw 2
        have q2 := hX.flt.thaw 2
        have z3 := hX.tok.thaw 3
        have q3 := hX.flt.thaw 3
        have hcr := hCX.res
        obtain ⟨r0, r1, r2, r3⟩ := hcr.cells
        have y0 := hcr.thaw 0
        have y1 := hcr.thaw 1
        have y2 := hcr.thaw 2
        have y3 := hcr.thaw 3
        have hbl : w.heap.size < w2.heap.size + 1 := by have := hC2.res.lt; omega
        have ha1 := ownsRow_setCell_other (ownsRow_setCell_other hCX.row (a := ⟨w2.heap.size + 1, 1, none⟩) (fun e => by have h : w2.heap.size + 1 < w2.heap.size := (hrl _ e).2; omega) (.int .i64 (li : Int))) (a := ⟨w2.heap.size + 1, 2, none⟩) (fun e => by have h : w2.heap.size + 1 < w2.heap.size := (hrl _ e).2; omega) (.int .i64 (co : Int))
        have hb1 := (hCX.bel.setCell (p := ⟨w2.heap.size + 1, 1, none⟩) (by show w.heap.size ≤ w2.heap.size + 1; omega) (.int .i64 (li : Int))).setCell (p := ⟨w2.heap.size + 1, 2, none⟩) (by show w.heap.size ≤ w2.heap.size + 1; omega) (.int .i64 (co : Int))
        have hc1 := (hcr.set (p := ⟨w2.heap.size + 1, 1, none⟩) (by show w.heap.size ≠ w2.heap.size + 1; omega) (.int .i64 (li : Int))).set (p := ⟨w2.heap.size + 1, 2, none⟩) (by show w.heap.size ≠ w2.heap.size + 1; omega) (.int .i64 (co : Int))
        have hc2 := hc1.write (.int .i64 c) (.int .i64 (li : Int)) (.int .i64 (co : Int)) (.string wd)
        have ha2 := ownsRow_setCell_below (ownsRow_setCell_below (ownsRow_setCell_below (ownsRow_setCell_below ha1 (a := ⟨w.heap.size, 0, none⟩) (Nat.lt_succ_self _) (.int .i64 c)) (a := ⟨w.heap.size, 1, none⟩) (Nat.lt_succ_self _) (.int .i64 (li : Int))) (a := ⟨w.heap.size, 2, none⟩) (Nat.lt_succ_self _) (.int .i64 (co : Int))) (a := ⟨w.heap.size, 3, none⟩) (Nat.lt_succ_self _) (.string wd)
        have hb2 := (((hb1.setCell (p := ⟨w.heap.size, 0, none⟩) (Nat.le_refl _) (.int .i64 c)).setCell (p := ⟨w.heap.size, 1, none⟩) (Nat.le_refl _) (.int .i64 (li : Int))).setCell (p := ⟨w.heap.size, 2, none⟩) (Nat.le_refl _) (.int .i64 (co : Int))).setCell (p := ⟨w.heap.size, 3, none⟩) (Nat.le_refl _) (.string wd)
        have HF : Hid (FtC _ w.heap.size (.int .i64 c) (.int .i64 (li : Int)) (.int .i64 (co : Int)) (.string wd)) := hc2
        have HR : Hid (World.ownsRow _ (w.heap.size + 1) 38 4 v outs.length (outs.flatMap tokCells)) := ha2
        have HB : Hid (Below w.heap.size w _) := hb2
        have hgw : w2.heap.size + 1 ≠ w.heap.size := by omega
        clear ha1 hb1 hc1 hc2 ha2 hb2 hCX hcr hX hC hC2 hrl
        go_wp2_with fail
        go_region
        all_goals (try go_wp2)
        all_goals (try simp only [Exit.inBlock, Exit.then])
        exact bodyPost_ret (results_tcx (u := 2) (p := 3) rfl _ _ w.heap.size 26 _ (0, 0) _ rfl (HF.out.below ((Below.refl _ _).drew)) Tryd.underlying26 rfl (by kernel_rfl)) rfl ⟨HB.out.drew, .inr ⟨outs, c, li, co, wd, _, hc0, HL.out, htoks, rfl, Joins.ownsRow_le HR.out.drew (Nat.le_succ _)⟩⟩
      · have hkz : (k != 0) = true := by simp only [bne, beq_eq_false_iff_ne.2 hk0]; rfl
        have HM : Hid (s.size - (intOf (.int .i64 (j : Int))).toNat < s.size - (intOf (.int .i64 (i : Int))).toNat) := show s.size - j < s.size - i from Nat.sub_lt_sub_left hlt hij
        have HP : Hid (Pre s j (outs ++ [.tok k ms li co j])) := hnext (beq_eq_false_iff_ne.2 hk0)
        clear hstep hnext hlast htoks
        unfold takeV at hT
        go_wp2_with fail
        refine (hT _).mono ?_
        rintro e w2 ⟨rfl, b2⟩
        clear hT hsl
        have hC2 := hC.below b2
        obtain ⟨W3, hW3⟩ : ∃ W3, (w2.alloc (.cells #[.int .i8 0, .string ⟨#[]⟩, .int .i64 0, .int .i64 0] 38)).alloc (.cells #[.int .i64 0, .int .i64 0, .int .i64 0, .string ⟨#[]⟩] 26) = W3 := ⟨_, rfl⟩
        have hE : TkEnd w2 (.int .i8 0) (.string ⟨#[]⟩) (.int .i64 0) (.int .i64 0) (.int .i64 0) (.int .i64 0) (.int .i64 0) (.string ⟨#[]⟩) W3 := by rw [← hW3]; exact ⟨(tkc_new _ rfl).below (belowA1 _ _), ftc_new _ (by simp), bstep1 (belowA1 _ _) (belowA1 _ _)⟩
        have hX := hE.write (.int .i8 k) (.string ms) (.int .i64 0) (.int .i64 0) (.int .i64 0) (.int .i64 0) (.int .i64 0) (.string ⟨#[]⟩)
        have hzX := hE.write (.int .i8 k) (.string ms) (.int .i64 0) (.int .i64 0) (.int .i64 0) (.int .i64 0) (.int .i64 0) (.string ⟨#[]⟩)
        obtain ⟨X, hXe⟩ : ∃ X, X = ((((((((W3.setCell ⟨w2.heap.size, 0, none⟩ (.int .i8 k)).setCell ⟨w2.heap.size, 1, none⟩ (.string ms)).setCell ⟨w2.heap.size, 2, none⟩ (.int .i64 0)).setCell ⟨w2.heap.size, 3, none⟩ (.int .i64 0)).setCell ⟨w2.heap.size + 1, 0, none⟩ (.int .i64 0)).setCell ⟨w2.heap.size + 1, 1, none⟩ (.int .i64 0)).setCell ⟨w2.heap.size + 1, 2, none⟩ (.int .i64 0)).setCell ⟨w2.heap.size + 1, 3, none⟩ (.string ⟨#[]⟩)) := ⟨_, rfl⟩
        rw [← hXe] at hX
        have HX : Hid (((((((((W3.setCell ⟨w2.heap.size, 0, none⟩ (.int .i8 k)).setCell ⟨w2.heap.size, 1, none⟩ (.string ms)).setCell ⟨w2.heap.size, 2, none⟩ (.int .i64 0)).setCell ⟨w2.heap.size, 3, none⟩ (.int .i64 0)).setCell ⟨w2.heap.size + 1, 0, none⟩ (.int .i64 0)).setCell ⟨w2.heap.size + 1, 1, none⟩ (.int .i64 0)).setCell ⟨w2.heap.size + 1, 2, none⟩ (.int .i64 0)).setCell ⟨w2.heap.size + 1, 3, none⟩ (.string ⟨#[]⟩)) = X) := hXe.symm
        have hXz : X.heap.size = w2.heap.size + 2 := by rw [hXe]; simp only [World.setCell]; simp [← hW3]
        obtain ⟨t0, t1, t2, t3⟩ := hE.tok.cells
        obtain ⟨f0, f1, f2, f3⟩ := hE.flt.cells
        have z0 := hE.tok.thaw 0
        have q0 := hE.flt.thaw 0
        have z1 := hE.tok.thaw 1
        have q1 := hE.flt.thaw 1
        have z2 := hE.tok.thaw 2
        have q2 := hE.flt.thaw 2
        have z3 := hE.tok.thaw 3
        have q3 := hE.flt.thaw 3
        clear hXe hzX
        go_wp2_with fail
        rw [HX.out]
        refine (hpl _).mono ?_
        rintro e w4 ⟨rfl, hw4⟩
        subst hw4
        clear hpl HX
        clear t0 t1 t2 t3 f0 f1 f2 f3 z0 z1 z2 z3 q0 q1 q2 q3 hW3 hE
        have hCX := hC2.below hX.bel
        have hrl := hC2.row.lt
        obtain ⟨t0, t1, t2, t3⟩ := hX.tok.cells
        obtain ⟨f0, f1, f2, f3⟩ := hX.flt.cells
        have z0 := hX.tok.thaw 0
        have q0 := hX.flt.thaw 0
        have z1 := hX.tok.thaw 1
        have q1 := hX.flt.thaw 1
        have z2 := hX.tok.thaw 2
        have q2 := hX.flt.thaw 2
        have z3 := hX.tok.thaw 3
        have q3 := hX.flt.thaw 3
        have H5 : Hid (TkC ((w4.setCell ⟨w2.heap.size, 2, none⟩ (.int .i64 (li : Int))).setCell ⟨w2.heap.size, 3, none⟩ (.int .i64 (co : Int))) w2.heap.size (.int .i8 k) (.string ms) (.int .i64 (li : Int)) (.int .i64 (co : Int))) := by
          show TkC _ _ _ _ _ _
          have e1 := heap_setCell_same w4 w2.heap.size 2 _ _ (.int .i64 (li : Int)) hX.tok
          have e2 := heap_setCell_same _ w2.heap.size 3 _ _ (.int .i64 (co : Int)) e1
          unfold TkC; rw [e2]; rfl
        have hbl : w.heap.size < w2.heap.size := hC2.res.lt
        have ha1 := ownsRow_setCell_other (ownsRow_setCell_other hCX.row (a := ⟨w2.heap.size, 2, none⟩) (fun e => by have h : w2.heap.size < w2.heap.size := (hrl _ e).2; omega) (.int .i64 (li : Int))) (a := ⟨w2.heap.size, 3, none⟩) (fun e => by have h : w2.heap.size < w2.heap.size := (hrl _ e).2; omega) (.int .i64 (co : Int))
        have hb1 := (hCX.bel.setCell (p := ⟨w2.heap.size, 2, none⟩) (by show w.heap.size ≤ w2.heap.size; omega) (.int .i64 (li : Int))).setCell (p := ⟨w2.heap.size, 3, none⟩) (by show w.heap.size ≤ w2.heap.size; omega) (.int .i64 (co : Int))
        have hc1 := (hCX.res.set (p := ⟨w2.heap.size, 2, none⟩) (by show w.heap.size ≠ w2.heap.size; omega) (.int .i64 (li : Int))).set (p := ⟨w2.heap.size, 3, none⟩) (by show w.heap.size ≠ w2.heap.size; omega) (.int .i64 (co : Int))
        obtain ⟨w5, hw5⟩ : ∃ w5, w5 = (w4.setCell ⟨w2.heap.size, 2, none⟩ (.int .i64 (li : Int))).setCell ⟨w2.heap.size, 3, none⟩ (.int .i64 (co : Int)) := ⟨_, rfl⟩
        have hz5 : w5.heap.size = w2.heap.size + 2 := by rw [hw5]; simp [World.setCell, hXz]
        have HW5 : Hid ((w4.setCell ⟨w2.heap.size, 2, none⟩ (.int .i64 (li : Int))).setCell ⟨w2.heap.size, 3, none⟩ (.int .i64 (co : Int)) = w5) := hw5.symm
        rw [← hw5] at ha1 hb1 hc1
        clear hw5 H5
        obtain ⟨w6, hw6⟩ : ∃ w6, w6 = w5.alloc (.cells #[.int .i8 k, .string ms, .int .i64 (li : Int), .int .i64 (co : Int)] 38) := ⟨_, rfl⟩
        have b6 : Below w5.heap.size w5 w6 := by rw [hw6]; exact belowA1 _ _
        have hz6 : w6.heap.size = w2.heap.size + 3 := by rw [hw6]; simp [hz5]
        have hT6 : TkC w6 (w2.heap.size + 2) (.int .i8 k) (.string ms) (.int .i64 (li : Int)) (.int .i64 (co : Int)) := by rw [hw6]; exact tkc_new _ hz5
        have hnews := tkc_news hT6
        have hr6 : w6.ownsRow (w.heap.size + 1) 38 4 v outs.length (outs.flatMap tokCells) := by rw [hw6]; exact ha1.alloc _
        have HC6 : Hid (AlC w v outs w6) := ⟨hc1.below b6, hr6, bstep1 hb1 b6⟩
        have HW6 : Hid (w5.alloc (.cells #[.int .i8 k, .string ms, .int .i64 (li : Int), .int .i64 (co : Int)] 38) = w6) := hw6.symm
        obtain ⟨d, hd⟩ : ∃ d, d = j - i := ⟨_, rfl⟩
        have hwj := wrap_to hd hij hjs hs
        rw [← hd]
        clear hw6 ha1 hb1 hc1 hCX hX hC hC2 hrl hT6 b6 hd
        go_wp2_with (at_builtin; rw [HW5.out, HW6.out]; refine wpList_append_own _ rfl _ _ 23 rfl (w.heap.size + 1) 38 i0 _ 4 40 Tryd.underlying23 hi0 hz00 hz1 hz2 rfl (by decide) _ _ _ rfl hr6 ⟨w2.heap.size + 2, 0, none⟩ 1 1 [.int .i8 k, .string ms, .int .i64 (li : Int), .int .i64 (co : Int)] rfl rfl hnews (by simp [Value.oneCell']) (by simp [maxLen]; omega) (by omega) (by omega) ?_; intro v' w7 hown' hgrow _)
        rw [hwj]
        exact ⟨⟨j, v', _, HP.out, rfl, rfl, HC6.out.grown hgrow hown'⟩, HM.out⟩
    · have hge : ¬ (i : Int) < (s.size : Int) := by omega
      obtain rfl : i = s.size := by omega
      have HL : Hid (allF s 0 = outs ++ [.tok 0 ⟨#[]⟩ (lineOf s s.size) (colOf s s.size) s.size]) := by show _ = _; rw [hp.last (by rw [next_end]; rfl), next_end]
      have htoks := hp.toks
      generalize lineOf s s.size = li at *
      generalize colOf s s.size = co at *
      obtain ⟨hm1, hm2⟩ := room_one hlen hs
      obtain ⟨w6, hw6⟩ : ∃ w6, w6 = wr.alloc (.cells #[.int .i8 0, .string ⟨#[]⟩, .int .i64 (li : Int), .int .i64 (co : Int)] 38) := ⟨_, rfl⟩
      have b6 : Below wr.heap.size wr w6 := by rw [hw6]; exact belowA1 _ _
      have hz6 : w6.heap.size = wr.heap.size + 1 := by rw [hw6]; simp
      have hT6 : TkC w6 wr.heap.size (.int .i8 0) (.string ⟨#[]⟩) (.int .i64 (li : Int)) (.int .i64 (co : Int)) := by rw [hw6]; exact tkc_new _ rfl
      have hnews := tkc_news hT6
      have hC6 := hC.below b6
      have hr6 := hC6.row
      have HC6 : Hid (AlC w v outs w6) := hC6
      have hbs : w.heap.size < wr.heap.size := hC.res.lt
      have HW6 : Hid (wr.alloc (.cells #[.int .i8 0, .string ⟨#[]⟩, .int .i64 (li : Int), .int .i64 (co : Int)] 38) = w6) := hw6.symm
      have hm3 : w.heap.size + 1 ≤ w6.heap.size := by rw [hz6]; exact Nat.succ_le_succ (Nat.le_of_lt hbs)
      clear hw6 hC6 hT6 b6 hp hC
      go_wp2_with fail
      refine (hpl _).mono ?_
      rintro e w9 ⟨rfl, hw9⟩
      subst hw9
      clear hpl
      go_wp2_with (at_builtin; rw [HW6.out]; refine wpList_append_own _ rfl _ _ 23 rfl (w.heap.size + 1) 38 i0 _ 4 40 Tryd.underlying23 hi0 hz00 hz1 hz2 rfl (by decide) _ _ _ rfl hr6 ⟨w9.heap.size, 0, none⟩ 1 1 [.int .i8 0, .string ⟨#[]⟩, .int .i64 (li : Int), .int .i64 (co : Int)] rfl rfl hnews (by simp [Value.oneCell']) hm1 hm2 hm3 ?_; intro v' w7 hown' hgrow _; have hC7 := HC6.out.grown (o := .tok 0 ⟨#[]⟩ li co s.size) hgrow hown'; obtain ⟨r0, r1, r2, r3⟩ := hC7.res.cells; have y0 := hC7.res.thaw 0; have y1 := hC7.res.thaw 1; have y2 := hC7.res.thaw 2; have y3 := hC7.res.thaw 3)
      (try simp only [Exit.inBlock, Exit.then])
      have hF := hC7.res.write (.int .i64 0) (.int .i64 0) (.int .i64 0) (.string ⟨#[]⟩)
      have hB := (((hC7.bel.setCell (p := ⟨w.heap.size, 0, none⟩) (Nat.le_refl _) (.int .i64 0)).setCell (p := ⟨w.heap.size, 1, none⟩) (Nat.le_refl _) (.int .i64 0)).setCell (p := ⟨w.heap.size, 2, none⟩) (Nat.le_refl _) (.int .i64 0)).setCell (p := ⟨w.heap.size, 3, none⟩) (Nat.le_refl _) (.string ⟨#[]⟩)
      have hR := ownsRow_setCell_below (ownsRow_setCell_below (ownsRow_setCell_below (ownsRow_setCell_below hC7.row (a := ⟨w.heap.size, 0, none⟩) (Nat.lt_succ_self _) (.int .i64 0)) (a := ⟨w.heap.size, 1, none⟩) (Nat.lt_succ_self _) (.int .i64 0)) (a := ⟨w.heap.size, 2, none⟩) (Nat.lt_succ_self _) (.int .i64 0)) (a := ⟨w.heap.size, 3, none⟩) (Nat.lt_succ_self _) (.string ⟨#[]⟩)
      rw [HL.out]
      refine bodyPost_ret (results_tcx (u := 2) (p := 3) rfl _ _ w.heap.size 26 _ (0, 0) _ rfl hF Tryd.underlying26 rfl (by kernel_rfl)) rfl ⟨hB, .inl ⟨?_, _, rfl, Joins.ownsRow_le hR (Nat.le_succ _)⟩⟩
      rw [fltOf_toks _ _ htoks]
      rfl
end Go.Proofs.YtlemnbegblpllaaDoor

/-
  Proved here: package sep's ends, Reach and Apart.
  Proved here: package sep's Reach and Apart.
-/
import Derived.Test.YthdpomgpcblpeaaGreatSpU
namespace Go.Proofs.YthdpomgpcblpeaaGreat
set_option linter.unusedVariables false
open Go.RowKit Go.Shelf Go.Sort Go.Lib
theorem wpList_made0 {P : Program} (w : World) {ops : Array Oper} {rest : List Oper} {o : Oper} {a : Act} {Q : Exit → Act → World → Prop}
    (hg : o.guard = none) (l c : Operand) (t : TypeId) (hop : o.op = Op.makeSlice t l c)
    (e : TypeId) (i : TypeInfo) (z : Value) (hzc : z.cells = #[z]) (h1 : P.underlying t = some (.slice e)) (h2 : P.info? e = some i) (h3 : i.zero = some z) (h4 : i.size = 1)
    (kl kc : IntKind) (m : Nat) (hl : a.eval l = .int kl 0) (hc : a.eval c = .int kc (m : Int)) (b2 : i.bytes * m ≤ 281474976710656) (b3 : m ≤ 9223372036854775807)
    (hK : wpList P ops Q rest (a.put o.dst (.slice (some ⟨w.heap.size, 0, none⟩) 0 m)) (w.alloc (.cells (Array.replicate m z) e))) :
    wpList P ops Q (o :: rest) a w := by
  refine wpList_plain hg fun K hK' => ?_
  have hb' : (i.bytes : Int) * (m : Int) ≤ 281474976710656 := by
    have h : ((i.bytes * m : Nat) : Int) ≤ 281474976710656 := by omega
    rwa [Int.natCast_mul] at h
  have hrun := run_make (P := P) w t e i z h1 h2 h3 kl kc 0 m (by omega) (by omega) hb' (by omega)
  simp only [Int.toNat_natCast, Int.toNat_zero, h4, Nat.mul_one, hzc] at hrun
  rw [made_row] at hrun
  unfold Oper.wp
  simp [execOp, hop, hl, hc, hrun, Result.andThen]
  exact hK' _ _ hK
theorem OG.made0 {α : Type} {enc : α → Value} (w : World) (e n : Nat) (z : Value) (hn : n ≤ maxLen) : OG enc w.heap.size e (w.alloc (.cells (Array.replicate n z) e)) (.slice (some ⟨w.heap.size, 0, none⟩) 0 n) [] :=
  OG.zeros w.heap.size e w.heap.size _ n (Array.replicate n z) (Nat.le_refl _) (heap_alloc_new w _) (by simp) hn
/-- The points with which open trails can end. -/
def endsL (L : List (Stp × Stp)) (G : List Int) : List Int := minusR (ofR (L.map (·.1.1))) (ofR G)
theorem map_snocP {L : List (Stp × Stp)} {k : Nat} {e : Stp × Stp} (h : L[k]? = some e) : (L.take (k + 1)).map (·.1.1) = (L.take k).map (·.1.1) ++ [e.1.1] := by
  rw [List.take_add_one, h, Option.toList_some, List.map_append]; rfl
theorem RG.neT {w : World} {v : Value} {zs : List Int} {B : Nat} (h : OG (Value.int .i64) B 3 w v zs) (q : Nat) (hq : v.ownBlock = some q) : w.heap[q]? = some (.cells #[.slice none 0 0] 56 (0, 0)) → False := fun hk => by
  obtain ⟨cs, hc⟩ := h.blockE hq
  rw [hk] at hc
  simp only [Option.some.injEq, Obj.cells.injEq] at hc
  exact absurd hc.2.1 (by decide)
theorem minusE (v u : Value) (X Y : List Int) (w : World) {k j : Nat} (h1 : SI w v X k) (h2 : SI w u Y j) (hk : k ≤ 100000) (hj : j ≤ 100000) : Calls Tryz.prog 57 #[.agg #[v], .agg #[u]] w fun e w' => ∃ mo mn mc, e = .returned (.agg #[.slice mo mn mc]) ∧ SI w' (.slice mo mn mc) (minusR X Y) k ∧ (∀ q, (Value.slice mo mn mc).ownBlock = some q → w'.heap[q]? = some (.cells #[.slice none 0 0] 56 (0, 0)) → False) ∧ Below w.heap.size w w' :=
  (setMinusI v u X Y w h1.rg h2.rg (rs_rise.2 h2.rise) (by have := h1.len; omega) (by have := h2.len; omega)).mono fun _ _ h => by
    rw [minusI_eq] at h
    obtain ⟨z, rfl, ho, hb⟩ := h
    obtain ⟨ao, cap, rfl, -⟩ := ho.sl
    exact ⟨ao, _, cap, rfl, ⟨ho.rg, rise_minusR h1.rise Y, Nat.le_trans (List.length_filter_le _ _) h1.len⟩, fun q hq => RG.neT ho q hq, hb⟩
set_option maxRecDepth 1000000 in
set_option maxHeartbeats 6400000 in
theorem endsS (B0 : Nat) (W0 w : World) (rb gm : Nat) (gv ov : Value) (L : List (Stp × Stp)) (G : List Int) (h : WkO B0 W0 w rb gm gv ov L) (hs : SI w gv (ofR G) 100000) (hl : L.length ≤ 100000) :
    Calls Tryz.prog 39 #[.pointer (some ⟨rb, 0, none⟩)] w fun e w' => SE w (endsL L G) 100000 e w' := by
  obtain ⟨i0, hi, hz0, hz1, hz2⟩ := info_parts Tryz.infoI
  obtain ⟨ro, rc, rfl, hro, -⟩ := h.row.sl
  obtain ⟨on, hon⟩ : ∃ n, n = L.length := ⟨_, rfl⟩
  rw [List.length_map, ← hon] at h hro
  obtain ⟨sO, sN, sC, rfl⟩ : ∃ o n c, gv = .slice o n c := by obtain ⟨ao, n, cap, e⟩ := hs.sl; exact ⟨_, _, _, e⟩
  have HO : Hid (WkO B0 W0 w rb gm (.slice sO sN sC) (.slice ro on rc) L) := h
  have HS : Hid (SI w (.slice sO sN sC) (ofR G) 100000) := hs
  have HRO : Hid (0 < on → ∃ g, B0 ≤ g ∧ ro = some ⟨g, 0, none⟩) := hro
  have HON : Hid (on = L.length) := hon
  have honl : on ≤ 100000 := by rw [hon]; exact hl
  obtain ⟨w1, hw1⟩ : ∃ W, W = w.alloc (.cells #[.slice none 0 0] 56) := ⟨_, rfl⟩
  obtain ⟨gr, hgr⟩ : ∃ g, g = w.heap.size := ⟨_, rfl⟩
  have b1 : Below w.heap.size w w1 := by rw [hw1]; exact belowB _ _
  have kr : w1.heap[gr]? = some (.cells #[.slice none 0 0] 56 (0, 0)) := by rw [hw1, hgr]; exact heap_alloc_new w _
  have HB1 : Hid (Below w.heap.size w w1) := b1
  have HKR : Hid (w1.heap[gr]? = some (.cells #[.slice none 0 0] 56 (0, 0))) := kr
  have HW1 : Hid (w1 = w.alloc (.cells #[.slice none 0 0] 56)) := hw1
  have HGR : Hid (gr = w.heap.size) := hgr
  have HCB : Hid (∀ W, Below w.heap.size w W → W.cell? ⟨rb, 2, none⟩ = some (.slice ro on rc)) := fun W hW => keepR hW h.box.cells.2.2
  have HCS : Hid (∀ W, Below w.heap.size w W → W.cell? ⟨rb, 0, none⟩ = some (.slice sO sN sC)) := fun W hW => keepR hW h.box.cells.1
  have HROW : Hid (∀ W, Below w.heap.size w W → OS B0 W (.slice ro on rc) (L.map (·.1))) := fun W hW => h.row.below hW
  have cb := HCB.out w1 b1
  clear h hs hro hon hw1 hgr b1 kr hl
  go_enter Tryz.func39, Tryz.ntmps39
  go_upto_region 1 with fail
  rw [← HW1.out, ← HGR.out]
  clear HW1
  go_upto_region 2 with (first | (refine wpList_made0 _ rfl _ _ 23 rfl 3 i0 (.int .i64 0) rfl Tryz.underlying23 hi hz0 hz1 .i64 .i64 on rfl rfl (by rw [hz2]; omega) (by omega) ?_) | fail)
  clear cb
  obtain ⟨w2, hw2⟩ : ∃ W, W = w1.alloc (.cells (Array.replicate on (.int .i64 0)) 3) := ⟨_, rfl⟩
  obtain ⟨ga, hga⟩ : ∃ g, g = w1.heap.size := ⟨_, rfl⟩
  have b2 : Below w1.heap.size w1 w2 := by rw [hw2]; exact belowB _ _
  have HO0 : Hid (OG (Value.int .i64) w1.heap.size 3 w2 (.slice (some ⟨ga, 0, none⟩) 0 on) ((L.take 0).map (·.1.1))) := by show OG _ _ _ _ _ _; rw [hw2, hga]; exact OG.made0 w1 3 on _ (by unfold maxLen; omega)
  have HB2 : Hid (Below w1.heap.size w1 w2) := b2
  rw [← hw2, ← hga]
  have cb := HCB.out w2 (bstepB HB1.out b2)
  clear hw2 hga b2
  go_wp2
  clear cb
  go_loopg [3, 5, 17] on (fun g1 v3 _v5 v17 wr => ∃ (k : Nat) (lo : Option Addr) (ln lc : Nat), v3 = .slice lo ln lc ∧ v17 = .int .i64 k ∧ k ≤ on ∧ on - k ≤ g1 ∧ Hid (OG (Value.int .i64) w1.heap.size 3 wr (.slice lo ln lc) ((L.take k).map (·.1.1))) ∧ Hid (Below w1.heap.size w1 wr))
  case atStart => exact ⟨0, _, _, _, rfl, rfl, Nat.zero_le _, by omega, HO0, HB2⟩
  case round =>
    clear HO0 HB2
    obtain ⟨k, lo, ln, lc, rfl, rfl, hkn, hg1, HL, HB⟩ := hrel
    by_cases hlt : k < on
    · have hltz : (k : Int) < (on : Int) := by omega
      obtain ⟨go, -, rfl⟩ := HRO.out (by omega)
      obtain ⟨e0, he⟩ : ∃ e, L[k]? = some e := ⟨_, List.getElem?_eq_getElem (by rw [← HON.out]; exact hlt)⟩
      obtain ⟨c0, c1⟩ := (HROW.out wr (bstepB HB1.out HB.out)).cell (i := k) (s := e0.1) (by rw [List.getElem?_map, he]; rfl)
      have HST : Hid ((L.take (k + 1)).map (·.1.1) = (L.take k).map (·.1.1) ++ [e0.1.1]) := map_snocP he
      have HLN : Hid (((L.take k).map (·.1.1)).length ≤ 100000) := by show _ ≤ _; rw [List.length_map, List.length_take]; omega
      obtain ⟨x, hx⟩ : ∃ x, x = e0.1.1 := ⟨_, rfl⟩
      obtain ⟨d, hd⟩ : ∃ d, d = e0.1.2 := ⟨_, rfl⟩
      rw [← hx] at c0 HST
      rw [← hd] at c1
      clear he hx hd
      obtain ⟨wa, hwa⟩ : ∃ W, W = wr.alloc (.cells #[.int .i64 x, .bool d] 84) := ⟨_, rfl⟩
      obtain ⟨g5, hg5⟩ : ∃ g, g = wr.heap.size := ⟨_, rfl⟩
      have ba : Below wr.heap.size wr wa := by rw [hwa]; exact belowB _ _
      have c5 : wa.cell? ⟨g5, 0, none⟩ = some (.int .i64 x) := by rw [hwa, hg5, World.cell?_alloc_at _ _ _ _ rfl]; rfl
      have HWA : Hid (wa = wr.alloc (.cells #[.int .i64 x, .bool d] 84)) := hwa
      have HG5 : Hid (g5 = wr.heap.size) := hg5
      have HLA : Hid (OG (Value.int .i64) w1.heap.size 3 wa (.slice lo ln lc) ((L.take k).map (·.1.1))) := HL.out.below ba
      have HBA : Hid (Below w1.heap.size w1 wa) := bstepB HB.out ba
      clear hwa hg5 ba HL HB
      go_upto_region 5 with fail
      rw [← HWA.out, ← HG5.out]
      clear HWA HG5 c0 c1
      obtain ⟨WB, hWB⟩ : ∃ W, W = wa.alloc (.cells #[.int .i64 x] 3) := ⟨_, rfl⟩
      obtain ⟨gb, hgb⟩ : ∃ g, g = wa.heap.size := ⟨_, rfl⟩
      have HBB : Hid (Below wa.heap.size wa WB) := by show Below _ _ _; rw [hWB]; exact belowB _ _
      have HC0 : Hid (WB.cell? ⟨gb, 0, none⟩ = some (.int .i64 x)) := by show _ = _; rw [hWB, hgb, World.cell?_alloc_at _ _ _ _ rfl]; rfl
      have HWB : Hid (WB = wa.alloc (.cells #[.int .i64 x] 3)) := hWB
      have HGB : Hid (gb = wa.heap.size) := hgb
      clear hWB hgb
      go_wp2_with (at_builtin; rw [← HWB.out, ← HGB.out]; refine wpList_pushV (enc := Value.int .i64) _ rfl _ _ 23 rfl w1.heap.size 3 i0 (.int .i64 0) 8 Tryz.underlying23 hi hz0 hz1 hz2 rfl _ _ rfl (HLA.out.below HBB.out) gb x rfl HC0.out rfl (by have := HLN.out; unfold maxLen; omega) (by have := HLN.out; omega) (Nat.le_trans HBA.out.size HBB.out.size) ?_)
      intro ng tm ncap W2 ho hg3 hng _
      have HO2 : Hid (OG (Value.int .i64) w1.heap.size 3 W2 (.slice (some ⟨ng, 0, none⟩) tm ncap) ((L.take (k + 1)).map (·.1.1))) := by show OG _ _ _ _ _ _; rw [HST.out, List.map_take]; exact ho
      have HB3 : Hid (Below w1.heap.size w1 W2) := (HLA.out.below HBB.out).grown (bstepB HBA.out HBB.out) (Nat.le_trans HBA.out.size HBB.out.size) hg3
      clear ho hg3 hng HLA HBA HBB HC0 HWB HGB HST HLN c5
      go_wp2
      go_roundg (on - (k + 1))
      case measure => omega
      case rel => exact ⟨k + 1, _, _, _, rfl, by go_num, by omega, Nat.le_refl _, HO2, HB3⟩
    · have hltz : ¬ (k : Int) < (on : Int) := by omega
      have HLL : Hid (RG (Value.int .i64) wr (.slice lo ln lc) (L.map (·.1.1))) := by
        have h1 := HL.out
        rw [List.take_of_length_le (by rw [← HON.out]; omega)] at h1
        exact h1.rg
      have HLN : Hid ((L.map (·.1.1)).length ≤ 100000) := by show _ ≤ _; rw [List.length_map, ← HON.out]; exact honl
      have HW : Hid (Below w.heap.size w wr) := bstepB HB1.out HB.out
      have cs := HCS.out wr HW.out
      clear HL hltz
      go_upto_region 7 with fail
      have HKRB : ∀ u, Below wr.heap.size wr u → u.heap[gr]? = some (.cells #[.slice none 0 0] 56 (0, 0)) := fun u hu => by
        have hlt := (Array.getElem?_eq_some_iff.1 HKR.out).1
        rw [(bstepB HB.out hu).block gr hlt]; exact HKR.out
      have KEEP : ∀ u, Below wr.heap.size wr u → L4.AllL u [(5, fun w' => w'.cell? ⟨rb, 0, none⟩ = some (.slice sO sN sC))] := fun u hu => ⟨keepR hu cs, trivial⟩
      refine L4.region_late [(5, fun w' => w'.cell? ⟨rb, 0, none⟩ = some (.slice sO sN sC))] (by kernel_rfl) ?_
      have B : Below wr.heap.size wr wr.drew := (Below.refl _ _).drew
      obtain ⟨w1, hw1⟩ : ∃ u, u = wr.drew := ⟨_, rfl⟩
      rw [← hw1] at B ⊢
      clear hw1
      have hHeld := KEEP _ B
      refine L4.late_free 0 (v := .slice lo ln lc) rfl (by kernel_rfl) (by kernel_rfl) (by kernel_rfl) (by kernel_rfl) (by kernel_rfl) (by kernel_rfl) (fun _ _ _ h => h) (Or.inl ⟨by rfl, ?_⟩) hHeld ?_
      · (intro u _; go_simp)
      (try simp only [Act.put, List.setIfInBounds_toArray, List.set_cons_zero, List.set_cons_succ])
      refine L4.late_free 2 (v := .pointer (some ⟨rb, 0, none⟩)) rfl (by kernel_rfl) (by kernel_rfl) (by kernel_rfl) (by kernel_rfl) (by kernel_rfl) (by kernel_rfl) (fun _ _ _ h => h) (Or.inl ⟨by rfl, ?_⟩) hHeld ?_
      · (intro u _; go_simp)
      (try simp only [Act.put, List.setIfInBounds_toArray, List.set_cons_zero, List.set_cons_succ])
      refine L4.late_free 3 (v := .pointer (some ⟨rb, 0, none⟩)) rfl (by kernel_rfl) (by kernel_rfl) (by kernel_rfl) (by kernel_rfl) (by kernel_rfl) (by kernel_rfl) (fun _ _ _ h => h) (Or.inl ⟨by rfl, ?_⟩) hHeld ?_
      · (intro u _; go_simp)
      (try simp only [Act.put, List.setIfInBounds_toArray, List.set_cons_zero, List.set_cons_succ])
      refine L4.late_free 4 (v := .pointer (some ⟨rb, 0, none⟩)) rfl (by kernel_rfl) (by kernel_rfl) (by kernel_rfl) (by kernel_rfl) (by kernel_rfl) (by kernel_rfl) (fun _ _ _ h => h) (Or.inl ⟨by rfl, ?_⟩) hHeld ?_
      · (intro u _; go_simp)
      (try simp only [Act.put, List.setIfInBounds_toArray, List.set_cons_zero, List.set_cons_succ])
      refine L4.late_take 5 (v := .agg #[.slice sO sN sC]) rfl (by kernel_rfl) (List.Mem.head _) (by kernel_rfl) (by kernel_rfl) (by kernel_rfl) (by kernel_rfl) (fun _ _ _ h => h) (Or.inl ⟨by rfl, ?_⟩) hHeld ?_
      · (intro u hu; (try dsimp only at hu); go_split_ands; go_simp)
      (try simp only [Act.put, List.setIfInBounds_toArray, List.set_cons_zero, List.set_cons_succ])
      refine L4.late_step 1 (by kernel_rfl) rfl (fun K hK => ?_)
      go_simp
      refine (siOf (HLL.out.below (Nat.le_refl _) B) (k := 100000) HLN.out (Nat.le_refl _)).mono ?_
      rintro e y2 ⟨qo, qn, qc, rfl, hqi, c2⟩
      have B := B.trans (c2.mono B.size)
      clear c2 hHeld
      have hHeld := KEEP _ B
      go_wp2_with fail
      refine hK.out _ _ (L4.AllL.kept hHeld) ?_
      clear hK K
      (try simp only [Act.put, List.setIfInBounds_toArray, List.set_cons_zero, List.set_cons_succ])
      refine L4.late_step 6 (by kernel_rfl) rfl (fun K hK => ?_)
      go_simp
      have hqj := hqi.below (Below.refl y2.heap.size y2)
      refine (minusE _ _ _ _ y2 hqj (HS.out.below (bstepB HW.out B)) (Nat.le_refl _) (Nat.le_refl _)).mono ?_
      rintro e y3 ⟨mo, mn, mc, rfl, hmi, hmiE, c3⟩
      clear hqi hqj
      have B := B.trans (c3.mono B.size)
      clear c3 hHeld
      have hHeld := KEEP _ B
      go_wp2_with fail
      refine hK.out _ _ (L4.AllL.kept hHeld) ?_
      clear hK K
      (try simp only [Act.put, List.setIfInBounds_toArray, List.set_cons_zero, List.set_cons_succ])
      refine L4.late_step 7 (by kernel_rfl) rfl (fun K hK => ?_)
      have f9 := frozen_of_row _ gr 0 _ _ ((HKRB _ B))
      have c9 := cell_of_row _ gr 0 _ _ _ ((HKRB _ B))
      go_simp
      refine hK.out _ _ ⟨Or.inl ⟨7, by kernel_rfl, by kernel_rfl⟩, trivial⟩ ?_
      clear hK K
      (try simp only [Act.put, List.setIfInBounds_toArray, List.set_cons_zero, List.set_cons_succ])
      refine L4.late_done (by kernel_rfl) ?_ _
      have fin : Below w.heap.size w y3 := bstepB HW.out B
      have hkr : y3.heap[gr]? = some (.cells #[.slice none 0 0] 56 (0, 0)) := by
        have hlt := (Array.getElem?_eq_some_iff.1 HKR.out).1
        rw [(bstepB HB.out B).block gr hlt]; exact HKR.out
      obtain ⟨WF, hWF⟩ : ∃ W, W = y3.setCell ⟨gr, 0, none⟩ (.slice mo mn mc) := ⟨_, rfl⟩
      have HWF : Hid (WF.heap[gr]? = some (.cells #[.slice mo mn mc] 56 (0, 0))) := by show _ = _; rw [hWF, heap_setCell_same y3 gr 0 _ _ _ hkr]; rfl
      have HSF : Hid (SI WF (.slice mo mn mc) (endsL L G) 100000) := by
        refine ⟨hmi.rg.of_blocks fun q hq => ?_, hmi.rise, hmi.len⟩
        rw [hWF]
        refine Below.heap_setCell _ _ _ _ (fun e => ?_)
        have e2 : q = gr := e
        subst e2
        exact (hmiE q hq) hkr
      have HBF : Hid (Below w.heap.size w WF) := by show Below _ _ _; rw [hWF]; exact fin.setCell (p := ⟨gr, 0, none⟩) (by show _ ≤ gr; rw [HGR.out]; exact Nat.le_refl _) _
      rw [← hWF]
      clear fin hkr hWF hmi hmiE B KEEP cs
      (try go_wp2_with fail)
      exact bodyPost_ret (results_cell_row rfl _ _ gr 56 _ (0, 0) _ rfl HWF.out Tryz.underlying56 rfl (by kernel_rfl)) rfl ⟨_, _, _, rfl, HSF.out, HBF.out⟩
end Go.Proofs.YthdpomgpcblpeaaGreat

namespace Go.Proofs.YthdpomgpcblpeaaGreat
set_option linter.unusedVariables false
open Go.RowKit Go.Shelf Go.Sort Go.Lib
theorem KeyP.bfs {n : Nat} {nx : Stp → List Stp} (hnx : ∀ s t, t ∈ nx s → ∃ p : Nat, t.1 = (p : Int) ∧ p < n) : ∀ (f k : Nat) (L : List (Stp × Stp)), KeyP n L → KeyP n (bfsP nx f k L)
  | 0, _, _, h => h
  | f + 1, k, L, h => by
    rw [bfsP]
    split
    · exact h
    · exact KeyP.bfs hnx f (k + 1) _ (h.fold _ _ (hnx _))
theorem wk_parts {P : List (List Int)} {n : Nat} {a G : List Int} (h : wkE P n a G = 0) : ckE P = 0 ∧ noPts (n : Int) G = false ∧ noPts (n : Int) a = false := by
  unfold wkE at h
  by_cases h1 : nsE P n G = 0
  · rw [if_neg (by rw [h1]; decide)] at h
    have h3 : noPts (n : Int) a = false := by
      cases h2 : noPts (n : Int) a with
      | false => rfl
      | true => rw [h2] at h; simp at h
    unfold nsE at h1
    by_cases h4 : ckE P = 0
    · rw [if_neg (by rw [h4]; decide)] at h1
      have h5 : noPts (n : Int) G = false := by
        cases h2 : noPts (n : Int) G with
        | false => rfl
        | true => rw [h2] at h1; simp at h1
      exact ⟨h4, h5, h3⟩
    · rw [if_pos h4] at h1; exact absurd h1 h4
  · rw [if_pos h1] at h; exact absurd h h1
theorem wkL_key {P : List (List Int)} {n : Nat} {a G : List Int} (A : List Int) (hn : P.length = n) (h : wkE P n a G = 0) : KeyP n (wkL P n a G A) := by
  obtain ⟨h1, h2, h3⟩ := wk_parts h
  have hz := outs_no (cl_zero (ck_zero h1)).1
  have hP : ∀ (i : Nat) (x : Int), x ∈ P.getD i [] → ∃ p : Nat, x = (p : Int) ∧ p < n := fun i x hx => by have := hz i x hx; rw [hn] at this; exact this
  exact KeyP.bfs (fun s t ht => rawS_pt hP ht) _ _ _ (KeyP.start a (KeyP.nil n) (noPts_pt h3))
set_option maxRecDepth 1000000 in
set_option maxHeartbeats 6400000 in
theorem reachP (pv av qv : Value) (pvs : List Value) (P : List (List Int)) (a G : List Int) (w : World) (h : RRD w pv pvs P) (n : Nat) (hn : P.length = n) (hb : n ≤ 50000) (ha : RG (Value.int .i64) w av a) (hal : a.length ≤ 1048576) (hq : RG (Value.int .i64) w qv G) (hql : G.length ≤ 1048576)
    (hdis : nsE P n G = 0 → ∀ A s, (rawS P n G A s).Pairwise (fun a b => a.1 ≠ b.1)) :
    Calls Tryz.prog 25 #[pv, av, qv] w fun e w' => ∃ v, e = .returned (.tuple #[v, .int .i64 (wkE P n a G)]) ∧ (wkE P n a G ≠ 0 → v = .slice none 0 0) ∧ (wkE P n a G = 0 → ∃ A, AbvP P G A ∧ OG (Value.int .i64) w.heap.size 3 w' v (endsL (wkL P n a G A) G)) ∧ Below w.heap.size w w' := by
  have CW : Hid _ := walkFromS pv av qv pvs P a G w h n hn (by omega) ha hal hq hql hdis
  obtain ⟨po, pn, pc, rfl⟩ : ∃ o n c, pv = .slice o n c := by obtain ⟨ao, cap, e⟩ := h.out.sl; exact ⟨_, _, _, e⟩
  obtain ⟨qo, qn, qc, rfl⟩ : ∃ o n c, qv = .slice o n c := by obtain ⟨ao, cap, e⟩ := hq.sl; exact ⟨_, _, _, e⟩
  obtain ⟨ao, an, ac, rfl⟩ : ∃ o n c, av = .slice o n c := by obtain ⟨ao, cap, e⟩ := ha.sl; exact ⟨_, _, _, e⟩
  have HN : Hid (P.length = n) := hn
  clear h ha hq hdis hn
  go_enter Tryz.func25, Tryz.ntmps25
  go_wp2_with fail
  refine Calls.mono CW.out ?_
  rintro e y ⟨wv, rfl, hwk, hy⟩
  have HY : Hid (Below w.heap.size w y) := hy
  clear CW hy
  by_cases h0 : wkE P n a G = 0
  · obtain ⟨rb, gm, gv, ov, A, rfl, hw, hs, hab⟩ := hwk h0
    have hky := wkL_key A HN.out h0
    have CE : Hid _ := endsS _ _ y rb gm gv ov _ G hw hs (Nat.le_trans hky.len (by omega))
    have HAB : Hid (AbvP P G A) := hab
    have HE : Hid (wkE P n a G = 0) := h0
    rw [h0]
    clear hwk hw hs hab hky h0
    go_wp2_with fail
    refine Calls.mono CE.out ?_
    rintro e y2 ⟨mo, mn, mc, rfl, hm, by2⟩
    have HY2 : Hid (Below w.heap.size w y2) := bstepB HY.out by2
    have CL : Hid _ := siList hm (Nat.le_refl _)
    clear CE hm by2
    go_wp2_with fail
    refine Calls.mono CL.out ?_
    rintro e y3 ⟨u, rfl, hu, by3⟩
    have HU : Hid (OG (Value.int .i64) w.heap.size 3 y3 u (endsL (wkL P n a G A) G)) := hu.mono HY2.out.size
    have HY3 : Hid (Below w.heap.size w y3) := bstepB HY2.out by3
    clear CL hu by3
    go_wp2
    go_ret2
    exact ⟨_, by rw [HE.out]; rfl, fun h => absurd HE.out h, fun _ => ⟨A, HAB.out, HU.out⟩, HY3.out⟩
  · obtain ⟨c, hc⟩ : ∃ c, c = wkE P n a G := ⟨_, rfl⟩
    rw [← hc] at h0 ⊢
    have HC : Hid (c = wkE P n a G) := hc
    have H0 : Hid (c ≠ 0) := h0
    have hcz : (c != (0 : Int)) = true := by simpa using h0
    clear hc hwk h0
    go_wp2
    go_ret2
    exact ⟨_, by rw [← HC.out]; rfl, fun _ => rfl, fun h => absurd (by rw [HC.out]; exact h) H0.out, HY.out⟩
def apE (P : List (List Int)) (n : Nat) (a b G : List Int) : Int := if wkE P n a G ≠ 0 then wkE P n a G else if noPts (n : Int) b = true then 3 else 0
end Go.Proofs.YthdpomgpcblpeaaGreat

/-
  Proved here: SetGrows's own walk.
-/
import Derived.Test.YtknibmehbplpbaaSetSJ
import Derived.Deep.CutRange
namespace Go.Proofs.Ytknibmehbplpbaa
open Go.Shelf Go.RowKit Go.Lib Go.Sort
def fvI (V : List Int) (z : Int) : List Int := V.filter fun t => decide (t ∈ [z]) == false
theorem fvI_len (V : List Int) (z : Int) : (fvI V z).length ≤ V.length := List.length_filter_le _ _
theorem siWithoutF {w : World} {v : Value} {L : List Int} {k : Nat} (h1 : SI w v L k) (x : Int) (hk : k ≤ 100000) : Calls Try.prog 10 #[.agg #[v], .int .i64 x] w fun e w' => SE w (fvI L x) k e w' := siWithout h1 x hk
theorem rSomeF {w : World} {v u : Value} {L : List Int} {z : Int} (hv : RG (Value.int .i64) w v L) (hu : RG (Value.int .i64) w u [z]) (hz : L.length ≤ 10000) : Calls Try.prog 11 #[v, u, .bool false] w fun e w' => RE w (fvI L z) e w' := rSome v L u [z] false w hv hu hz
/-- a row does not lie in a box -/
theorem RG.ne_box {w : World} {v : Value} {L : List Int} {b : Nat} {ao : Option Addr} {n c : Nat} (h : RG (Value.int .i64) w v L) (hs : SCell 24 w b (.slice ao n c)) : 0 < L.length → ∀ j, v.ownBlock = some j → j ≠ b := fun h0 j hj e => by
  subst e
  obtain ⟨bo, cap, rfl, -, -, -, hc⟩ := h
  obtain ⟨gg, o, e1, c1⟩ := hc 0 L[0] (List.getElem?_eq_getElem h0)
  subst e1
  simp only [Value.ownBlock, Option.some.injEq] at hj
  subst hj
  rw [Nat.add_zero, cell_of_row _ _ _ _ _ _ hs] at c1
  match o, c1 with
  | 0, c1 => simp at c1
  | o + 1, c1 => simp at c1
/-- what stands between two rounds -/
structure GS (w : World) (g bs bx by_ : Nat) (sv pv xv uv yv vv : Value) (X U U2 V V2 : List Int) (k : Nat) (W : World) : Prop where
  bw : Below g w W
  gz : g ≤ W.heap.size
  ss : SI W sv X 100
  cs : SCell 24 W bs sv
  pp : RG (Value.int .i64) W pv X
  xx : SI W xv U k
  cx : SCell 24 W bx xv
  uu : RG (Value.int .i64) W uv U2
  yy : SI W yv V k
  cy : SCell 24 W by_ yv
  vr : RG (Value.int .i64) W vv V2
  n1 : bs ≠ bx
  n2 : bs ≠ by_
  n3 : bx ≠ by_
  gx : g ≤ bx
  gy : g ≤ by_
variable {w W W' : World} {g bs bx by_ : Nat} {sv pv xv uv yv vv : Value} {X U U2 V V2 : List Int} {k : Nat}
theorem GS.below (h : GS w g bs bx by_ sv pv xv uv yv vv X U U2 V V2 k W) (b : Below W.heap.size W W') : GS w g bs bx by_ sv pv xv uv yv vv X U U2 V V2 k W' :=
  ⟨h.bw.trans (b.mono h.gz), Nat.le_trans h.gz b.size, h.ss.below b, h.cs.below b, h.pp.below (Nat.le_refl _) b, h.xx.below b, h.cx.below b, h.uu.below (Nat.le_refl _) b, h.yy.below b, h.cy.below b, h.vr.below (Nat.le_refl _) b, h.n1, h.n2, h.n3, h.gx, h.gy⟩
theorem GS.row (h : GS w g bs bx by_ sv pv xv uv yv vv X U U2 V V2 k W) {uv' : Value} {U' : List Int} (hu : RG (Value.int .i64) W uv' U') : GS w g bs bx by_ sv pv xv uv' yv vv X U U' V V2 k W := { h with uu := hu }
theorem GS.row2 (h : GS w g bs bx by_ sv pv xv uv yv vv X U U2 V V2 k W) {uv' : Value} {U' : List Int} (hu : RG (Value.int .i64) W uv' U') : GS w g bs bx by_ sv pv xv uv yv uv' X U U2 V U' k W := { h with vr := hu }
theorem SI.more {w : World} {v : Value} {L : List Int} {k j : Nat} (h : SI w v L k) (hj : k ≤ j) : SI w v L j := ⟨h.rg, h.rise, Nat.le_trans h.len hj⟩
theorem GS.more {j : Nat} (h : GS w g bs bx by_ sv pv xv uv yv vv X U U2 V V2 k W) (hj : k ≤ j) : GS w g bs bx by_ sv pv xv uv yv vv X U U2 V V2 j W := { h with xx := h.xx.more hj, yy := h.yy.more hj }
theorem RG.put {w : World} {v u : Value} {L : List Int} {b : Nat} {ao : Option Addr} {n c : Nat} (h : RG (Value.int .i64) w v L) (hs : SCell 24 w b (.slice ao n c)) : RG (Value.int .i64) (w.setCell ⟨b, 0, none⟩ u) v L := h.move fun h0 j hj => Below.heap_setCell _ _ _ _ (h.ne_box hs h0 j hj)
theorem SI.put {w : World} {v u : Value} {L : List Int} {b : Nat} {ao : Option Addr} {n c k : Nat} (h : SI w v L k) (hs : SCell 24 w b (.slice ao n c)) : SI (w.setCell ⟨b, 0, Option.none⟩ u) v L k := ⟨h.rg.put hs, h.rise, h.len⟩
theorem size_set (w : World) (b : Nat) (u : Value) : (w.setCell ⟨b, 0, none⟩ u).heap.size = w.heap.size := by simp [World.setCell]
theorem GS.putX {ao : Option Addr} {n c : Nat} (h : GS w g bs bx by_ sv pv (.slice ao n c) uv yv vv X U U2 V V2 k W) {x' : Value} {U' : List Int} (hx : SI W x' U' k) : GS w g bs bx by_ sv pv x' uv yv vv X U' U2 V V2 k (W.setCell ⟨bx, 0, none⟩ x') :=
  ⟨h.bw.setCell (p := ⟨bx, 0, none⟩) h.gx x', by rw [size_set]; exact h.gz, h.ss.put h.cx, h.cs.other h.n1 0 _, h.pp.put h.cx, hx.put h.cx, h.cx.write x', h.uu.put h.cx, h.yy.put h.cx, h.cy.other (Ne.symm h.n3) 0 _, h.vr.put h.cx, h.n1, h.n2, h.n3, h.gx, h.gy⟩
theorem GS.putY {ao : Option Addr} {n c : Nat} (h : GS w g bs bx by_ sv pv xv uv (.slice ao n c) vv X U U2 V V2 k W) {x' : Value} {U' : List Int} (hx : SI W x' U' k) : GS w g bs bx by_ sv pv xv uv x' vv X U U2 U' V2 k (W.setCell ⟨by_, 0, none⟩ x') :=
  ⟨h.bw.setCell (p := ⟨by_, 0, none⟩) h.gy x', by rw [size_set]; exact h.gz, h.ss.put h.cy, h.cs.other h.n2 0 _, h.pp.put h.cy, h.xx.put h.cy, h.cx.other h.n3 0 _, h.uu.put h.cy, hx.put h.cy, h.cy.write x', h.vr.put h.cy, h.n1, h.n2, h.n3, h.gx, h.gy⟩

set_option maxHeartbeats 32000000 in
set_option maxRecDepth 1000000 in
theorem setGrows_top (v0 : Value) (L0 : List Int) (v1 : Value) (L1 : List Int) (v2 : Value) (L2 : List Int) (w : World) (hv0 : RG (Value.int .i64) w v0 L0) (hv1 : RG (Value.int .i64) w v1 L1) (hv2 : RG (Value.int .i64) w v2 L2) :
    Calls Try.prog 3 #[v0, v1, v2] w fun e w' => e = .returned (.bool true) ∧ Below w.heap.size w w' := by
  obtain ⟨g, hg⟩ : ∃ g, g = w.heap.size := ⟨_, rfl⟩
  have HG : Hid (g = w.heap.size) := hg
  rw [← hg]
  obtain ⟨a0, p0, rfl, hc0, hm0, -⟩ := id hv0
  obtain ⟨a1, p1, rfl, hc1, hm1, -⟩ := id hv1
  obtain ⟨a2, p2, rfl, hc2, hm2, -⟩ := id hv2
  unfold maxLen at hm0 hm1 hm2
  obtain ⟨n0, hn0⟩ : ∃ n, L0.length = n := ⟨_, rfl⟩
  obtain ⟨n1, hn1⟩ : ∃ n, L1.length = n := ⟨_, rfl⟩
  obtain ⟨n2, hn2⟩ : ∃ n, L2.length = n := ⟨_, rfl⟩
  rw [hn0] at hc0 hv0 ⊢
  rw [hn1] at hc1 hv1 ⊢
  rw [hn2] at hc2 hv2 ⊢
  have HN0 : Hid (L0.length = n0) := hn0
  have C1 : Hid (∀ W, Below g w W → ∀ i, i < n1 → ∃ x gg o, L1[i]? = some x ∧ a1 = some ⟨gg, o, none⟩ ∧ W.cell? ⟨gg, o + i, none⟩ = some (.int .i64 x)) := fun W h i hi => (hv1.below (Nat.le_of_eq hg.symm) h).at hi
  have C2 : Hid (∀ W, Below g w W → ∀ i, i < n2 → ∃ x gg o, L2[i]? = some x ∧ a2 = some ⟨gg, o, none⟩ ∧ W.cell? ⟨gg, o + i, none⟩ = some (.int .i64 x)) := fun W h i hi => (hv2.below (Nat.le_of_eq hg.symm) h).at hi
  have HBW : Hid (Below g w w) := Below.refl _ _
  clear hn0 hn1 hn2 hg hv1 hv2
  by_cases h0 : n0 > 100
  · have h0z : (n0 : Int) > 100 := by omega
    have h0d : decide ((n0 : Int) > 100) = true := decide_eq_true h0z
    go_enter Try.func3, Try.ntmps3
    go_wp2
    go_ret
    exact ⟨rfl, HBW.out⟩
  have h0z : ¬ (n0 : Int) > 100 := by omega
  have h0d : decide ((n0 : Int) > 100) = false := decide_eq_false h0z
  by_cases h1 : n1 > 100
  · have h1z : (n1 : Int) > 100 := by omega
    have h1d : decide ((n1 : Int) > 100) = true := decide_eq_true h1z
    go_enter Try.func3, Try.ntmps3
    go_wp2
    go_ret
    exact ⟨rfl, HBW.out⟩
  have h1z : ¬ (n1 : Int) > 100 := by omega
  have h1d : decide ((n1 : Int) > 100) = false := decide_eq_false h1z
  by_cases h2 : n2 > 100
  · have h2z : (n2 : Int) > 100 := by omega
    have h2d : decide ((n2 : Int) > 100) = true := decide_eq_true h2z
    go_enter Try.func3, Try.ntmps3
    go_wp2
    go_ret
    exact ⟨rfl, HBW.out⟩
  have h2z : ¬ (n2 : Int) > 100 := by omega
  have h2d : decide ((n2 : Int) > 100) = false := decide_eq_false h2z
  go_enter Try.func3, Try.ntmps3
  have CC := siOf hv0 (k := 100) (by rw [HN0.out]; omega) (by omega)
  go_wp2_with fail
  refine CC.mono ?_
  rintro e w1 ⟨so, sl, sc, rfl, hs, bq⟩
  clear CC
  have hv0 := hv0.below (Nat.le_refl _) bq
  have bw : Below g w w1 := by rw [HG.out]; exact bq
  clear bq
  have zw : g ≤ w1.heap.size := by have := bw.size; have := HG.out; omega
  obtain ⟨WA, hWA⟩ : ∃ u, u = w1.alloc (.cells #[.slice so sl sc] 24) := ⟨_, rfl⟩
  obtain ⟨bs, hbs⟩ : ∃ s, s = w1.heap.size := ⟨_, rfl⟩
  have sbs : SCell 24 WA bs (.slice so sl sc) := by rw [hWA, hbs]; exact SCell.new w1 rfl
  have bq : Below w1.heap.size w1 WA := by rw [hWA]; exact (Below.refl _ _).alloc (Nat.le_refl _) _
  have HWA : Hid (WA = w1.alloc (.cells #[.slice so sl sc] 24)) := hWA
  have HBS : Hid (bs = w1.heap.size) := hbs
  clear hWA hbs
  replace hs := hs.below bq
  replace hv0 := hv0.below (Nat.le_refl _) bq
  replace bw := bw.trans (bq.mono zw)
  replace zw : g ≤ WA.heap.size := Nat.le_trans zw bq.size
  clear bq
  go_upto_region 4 with fail
  rw [← HWA.out, ← HBS.out]
  clear HWA HBS
  have CC := rOf _ L0 _ hv0 (by rw [HN0.out]; omega)
  go_wp2_with fail
  refine CC.mono ?_
  rintro e WB ⟨pv, rfl, op, bq⟩
  clear CC
  replace hs := hs.below bq
  replace sbs := sbs.below bq
  replace bw := bw.trans (bq.mono zw)
  replace zw : g ≤ WB.heap.size := Nat.le_trans zw bq.size
  clear bq hv0
  have rp := op.rg
  obtain ⟨po, pl, pc, epv⟩ : ∃ po pl pc, pv = .slice po pl pc := by obtain ⟨a, b, e⟩ := rp.sl; exact ⟨a, _, b, e⟩
  subst epv
  clear op
  obtain ⟨X, hX⟩ : ∃ X, X = ofR L0 := ⟨_, rfl⟩
  rw [← hX] at hs rp
  clear hX
  go_upto_region 5 with fail
  go_cut [9, 10] from 32 to 33 (fun t u wx => ∃ bx by_, t = .pointer (some ⟨bx, 0, none⟩) ∧ u = .pointer (some ⟨by_, 0, none⟩) ∧ Hid (SCell 24 wx bx (.slice so sl sc) ∧ SCell 24 wx by_ (.slice so sl sc) ∧ bx ≠ by_ ∧ WB.heap.size ≤ bx ∧ WB.heap.size ≤ by_ ∧ Below WB.heap.size WB wx))
  case first =>
    have KEEP : ∀ u, Below WB.heap.size WB u → L3.AllL u [(0, fun w' => w'.cell? ⟨bs, 0, none⟩ = some (.slice so sl sc)), (1, fun w' => w'.cell? ⟨bs, 0, none⟩ = some (.slice so sl sc))] := fun u hu => ⟨(sbs.below hu).cell, (sbs.below hu).cell, trivial⟩
    refine L3.region_late [(0, fun w' => w'.cell? ⟨bs, 0, none⟩ = some (.slice so sl sc)), (1, fun w' => w'.cell? ⟨bs, 0, none⟩ = some (.slice so sl sc))] (by kernel_rfl) ?_
    have B : Below WB.heap.size WB WB.drew := (Below.refl _ _).drew
    obtain ⟨wd, hwd⟩ : ∃ u, u = WB.drew := ⟨_, rfl⟩
    rw [← hwd] at B ⊢
    clear hwd
    have hHeld := KEEP _ B
    refine L3.late_take 0 (v := .agg #[.slice so sl sc]) rfl (by kernel_rfl) (List.Mem.head _) (by kernel_rfl) (by kernel_rfl) (by kernel_rfl) (by kernel_rfl) (fun _ _ _ h => h) (Or.inl ⟨by rfl, ?_⟩) hHeld ?_
    · (intro u hu; (try dsimp only at hu); go_split_ands; go_simp)
    (try simp only [Act.put, List.setIfInBounds_toArray, List.set_cons_zero, List.set_cons_succ])
    refine L3.late_take 1 (v := .agg #[.slice so sl sc]) rfl (by kernel_rfl) (List.Mem.tail _ (List.Mem.head _)) (by kernel_rfl) (by kernel_rfl) (by kernel_rfl) (by kernel_rfl) (fun _ _ _ h => h) (Or.inl ⟨by rfl, ?_⟩) hHeld ?_
    · (intro u hu; (try dsimp only at hu); go_split_ands; go_simp)
    (try simp only [Act.put, List.setIfInBounds_toArray, List.set_cons_zero, List.set_cons_succ])
    refine L3.late_two 2 3 (by kernel_rfl) rfl rfl (fun K hK => ?_) (fun K hK => ?_)
    · go_simp
      obtain ⟨we, hwe⟩ : ∃ u, u = wd.alloc (.cells #[.slice none 0 0] 24) := ⟨_, rfl⟩
      obtain ⟨bx, hbx⟩ : ∃ s, s = wd.heap.size := ⟨_, rfl⟩
      have cbx : SCell 24 we bx (.slice none 0 0) := by rw [hwe, hbx]; exact SCell.new wd rfl
      have bq : Below wd.heap.size wd we := by rw [hwe]; exact (Below.refl _ _).alloc (Nat.le_refl _) _
      rw [← hwe, ← hbx]
      have zz : bx < we.heap.size := cbx.lt
      have gebx : WB.heap.size ≤ bx := by rw [hbx]; exact B.size
      have B := B.trans (bq.mono B.size)
      clear hwe hbx bq hHeld
      have hHeld := KEEP _ B
      refine hK.out _ _ (L3.AllL.kept hHeld) ?_
      clear hK K
      (try simp only [Act.put, List.setIfInBounds_toArray, List.set_cons_zero, List.set_cons_succ])
      refine L3.late_step 3 (by kernel_rfl) rfl (fun K hK => ?_)
      go_simp
      obtain ⟨wf, hwf⟩ : ∃ u, u = we.alloc (.cells #[.slice none 0 0] 24) := ⟨_, rfl⟩
      obtain ⟨by_, hby_⟩ : ∃ s, s = we.heap.size := ⟨_, rfl⟩
      have cby_ : SCell 24 wf by_ (.slice none 0 0) := by rw [hwf, hby_]; exact SCell.new we rfl
      have bq : Below we.heap.size we wf := by rw [hwf]; exact (Below.refl _ _).alloc (Nat.le_refl _) _
      rw [← hwf, ← hby_]
      replace cbx := cbx.below bq
      have geby_ : WB.heap.size ≤ by_ := by rw [hby_]; exact B.size
      have nab : bx ≠ by_ := by rw [hby_]; exact Nat.ne_of_lt zz
      have B := B.trans (bq.mono B.size)
      clear hwf hby_ bq hHeld zz
      have hHeld := KEEP _ B
      refine hK.out _ _ (L3.AllL.kept hHeld) ?_
      clear hK K
      (try simp only [Act.put, List.setIfInBounds_toArray, List.set_cons_zero, List.set_cons_succ])
      have d0 := cbx.cell
      have d1 := cbx.thaw
      have hnbx : bs ≠ bx := by have := sbs.lt; omega
      have hnby : bs ≠ by_ := by have := sbs.lt; omega
      have s5 := sbs.below B
      have cx2 := cbx.write (.slice so sl sc)
      have cy2 := cby_.other (g' := bx) (Ne.symm nab) 0 (.slice so sl sc)
      have bs2 := (s5.other (g' := bx) hnbx 0 (.slice so sl sc))
      have B2 := B.setCell (p := ⟨bx, 0, none⟩) gebx (.slice so sl sc)
      have hH2 : L3.AllL (wf.setCell ⟨bx, 0, none⟩ (.slice so sl sc)) [(0, fun w' => w'.cell? ⟨bs, 0, none⟩ = some (.slice so sl sc)), (1, fun w' => w'.cell? ⟨bs, 0, none⟩ = some (.slice so sl sc))] := ⟨bs2.cell, bs2.cell, trivial⟩
      refine L3.late_step 4 (by kernel_rfl) rfl (fun K hK => ?_)
      go_simp
      refine hK.out _ _ (L3.AllL.kept hH2) ?_
      clear hK K d0 d1
      (try simp only [Act.put, List.setIfInBounds_toArray, List.set_cons_zero, List.set_cons_succ])
      have d0 := cy2.cell
      have d1 := cy2.thaw
      have bs3 := (bs2.other (g' := by_) hnby 0 (.slice so sl sc))
      have hH3 : L3.AllL ((wf.setCell ⟨bx, 0, none⟩ (.slice so sl sc)).setCell ⟨by_, 0, none⟩ (.slice so sl sc)) [(0, fun w' => w'.cell? ⟨bs, 0, none⟩ = some (.slice so sl sc)), (1, fun w' => w'.cell? ⟨bs, 0, none⟩ = some (.slice so sl sc))] := ⟨bs3.cell, bs3.cell, trivial⟩
      refine L3.late_step 5 (by kernel_rfl) rfl (fun K hK => ?_)
      go_simp
      refine hK.out _ _ (L3.AllL.kept hH3) ?_
      clear hK K d0 d1
      (try simp only [Act.put, List.setIfInBounds_toArray, List.set_cons_zero, List.set_cons_succ])
      refine L3.late_done (by kernel_rfl) ?_ _
      have HH : Hid (SCell 24 ((wf.setCell ⟨bx, 0, none⟩ (.slice so sl sc)).setCell ⟨by_, 0, none⟩ (.slice so sl sc)) bx (.slice so sl sc) ∧ SCell 24 ((wf.setCell ⟨bx, 0, none⟩ (.slice so sl sc)).setCell ⟨by_, 0, none⟩ (.slice so sl sc)) by_ (.slice so sl sc) ∧ bx ≠ by_ ∧ WB.heap.size ≤ bx ∧ WB.heap.size ≤ by_ ∧ Below WB.heap.size WB ((wf.setCell ⟨bx, 0, none⟩ (.slice so sl sc)).setCell ⟨by_, 0, none⟩ (.slice so sl sc))) := ⟨cx2.other (nab) 0 _, cy2.write _, nab, gebx, geby_, B2.setCell (p := ⟨by_, 0, none⟩) geby_ _⟩
      clear cx2 cy2 bs2 bs3 B2 s5 hH2 hH3 cbx cby_ B hHeld KEEP
      go_wp2_with fail
      go_meet
      exact ⟨bx, by_, rfl, rfl, HH⟩
    · go_simp
      obtain ⟨we, hwe⟩ : ∃ u, u = wd.alloc (.cells #[.slice none 0 0] 24) := ⟨_, rfl⟩
      obtain ⟨by_, hby_⟩ : ∃ s, s = wd.heap.size := ⟨_, rfl⟩
      have cby_ : SCell 24 we by_ (.slice none 0 0) := by rw [hwe, hby_]; exact SCell.new wd rfl
      have bq : Below wd.heap.size wd we := by rw [hwe]; exact (Below.refl _ _).alloc (Nat.le_refl _) _
      rw [← hwe, ← hby_]
      have zz : by_ < we.heap.size := cby_.lt
      have geby_ : WB.heap.size ≤ by_ := by rw [hby_]; exact B.size
      have B := B.trans (bq.mono B.size)
      clear hwe hby_ bq hHeld
      have hHeld := KEEP _ B
      refine hK.out _ _ (L3.AllL.kept hHeld) ?_
      clear hK K
      (try simp only [Act.put, List.setIfInBounds_toArray, List.set_cons_zero, List.set_cons_succ])
      refine L3.late_step 2 (by kernel_rfl) rfl (fun K hK => ?_)
      go_simp
      obtain ⟨wf, hwf⟩ : ∃ u, u = we.alloc (.cells #[.slice none 0 0] 24) := ⟨_, rfl⟩
      obtain ⟨bx, hbx⟩ : ∃ s, s = we.heap.size := ⟨_, rfl⟩
      have cbx : SCell 24 wf bx (.slice none 0 0) := by rw [hwf, hbx]; exact SCell.new we rfl
      have bq : Below we.heap.size we wf := by rw [hwf]; exact (Below.refl _ _).alloc (Nat.le_refl _) _
      rw [← hwf, ← hbx]
      replace cby_ := cby_.below bq
      have gebx : WB.heap.size ≤ bx := by rw [hbx]; exact B.size
      have nab : by_ ≠ bx := by rw [hbx]; exact Nat.ne_of_lt zz
      have B := B.trans (bq.mono B.size)
      clear hwf hbx bq hHeld zz
      have hHeld := KEEP _ B
      refine hK.out _ _ (L3.AllL.kept hHeld) ?_
      clear hK K
      (try simp only [Act.put, List.setIfInBounds_toArray, List.set_cons_zero, List.set_cons_succ])
      have d0 := cbx.cell
      have d1 := cbx.thaw
      have hnbx : bs ≠ bx := by have := sbs.lt; omega
      have hnby : bs ≠ by_ := by have := sbs.lt; omega
      have s5 := sbs.below B
      have cx2 := cbx.write (.slice so sl sc)
      have cy2 := cby_.other (g' := bx) (nab) 0 (.slice so sl sc)
      have bs2 := (s5.other (g' := bx) hnbx 0 (.slice so sl sc))
      have B2 := B.setCell (p := ⟨bx, 0, none⟩) gebx (.slice so sl sc)
      have hH2 : L3.AllL (wf.setCell ⟨bx, 0, none⟩ (.slice so sl sc)) [(0, fun w' => w'.cell? ⟨bs, 0, none⟩ = some (.slice so sl sc)), (1, fun w' => w'.cell? ⟨bs, 0, none⟩ = some (.slice so sl sc))] := ⟨bs2.cell, bs2.cell, trivial⟩
      refine L3.late_step 4 (by kernel_rfl) rfl (fun K hK => ?_)
      go_simp
      refine hK.out _ _ (L3.AllL.kept hH2) ?_
      clear hK K d0 d1
      (try simp only [Act.put, List.setIfInBounds_toArray, List.set_cons_zero, List.set_cons_succ])
      have d0 := cy2.cell
      have d1 := cy2.thaw
      have bs3 := (bs2.other (g' := by_) hnby 0 (.slice so sl sc))
      have hH3 : L3.AllL ((wf.setCell ⟨bx, 0, none⟩ (.slice so sl sc)).setCell ⟨by_, 0, none⟩ (.slice so sl sc)) [(0, fun w' => w'.cell? ⟨bs, 0, none⟩ = some (.slice so sl sc)), (1, fun w' => w'.cell? ⟨bs, 0, none⟩ = some (.slice so sl sc))] := ⟨bs3.cell, bs3.cell, trivial⟩
      refine L3.late_step 5 (by kernel_rfl) rfl (fun K hK => ?_)
      go_simp
      refine hK.out _ _ (L3.AllL.kept hH3) ?_
      clear hK K d0 d1
      (try simp only [Act.put, List.setIfInBounds_toArray, List.set_cons_zero, List.set_cons_succ])
      refine L3.late_done (by kernel_rfl) ?_ _
      have HH : Hid (SCell 24 ((wf.setCell ⟨bx, 0, none⟩ (.slice so sl sc)).setCell ⟨by_, 0, none⟩ (.slice so sl sc)) bx (.slice so sl sc) ∧ SCell 24 ((wf.setCell ⟨bx, 0, none⟩ (.slice so sl sc)).setCell ⟨by_, 0, none⟩ (.slice so sl sc)) by_ (.slice so sl sc) ∧ bx ≠ by_ ∧ WB.heap.size ≤ bx ∧ WB.heap.size ≤ by_ ∧ Below WB.heap.size WB ((wf.setCell ⟨bx, 0, none⟩ (.slice so sl sc)).setCell ⟨by_, 0, none⟩ (.slice so sl sc))) := ⟨cx2.other (Ne.symm nab) 0 _, cy2.write _, Ne.symm nab, gebx, geby_, B2.setCell (p := ⟨by_, 0, none⟩) geby_ _⟩
      clear cx2 cy2 bs2 bs3 B2 s5 hH2 hH3 cbx cby_ B hHeld KEEP
      go_wp2_with fail
      go_meet
      exact ⟨bx, by_, rfl, rfl, HH⟩
  case rest =>
    obtain ⟨bx, by_, rfl, rfl, HH⟩ := hcut
    obtain ⟨h1, h2, h3, h4, h5, h6⟩ := HH.out
    have lbs := sbs.lt
    have G0 : Hid (GS w g bs bx by_ (.slice so sl sc) (.slice po pl pc) (.slice so sl sc) (.slice po pl pc) (.slice so sl sc) (.slice po pl pc) X X X X X 100 wc) := ⟨bw.trans (h6.mono zw), Nat.le_trans zw h6.size, hs.below h6, sbs.below h6, rp.below (Nat.le_refl _) h6, hs.below h6, h1, rp.below (Nat.le_refl _) h6, hs.below h6, h2, rp.below (Nat.le_refl _) h6, by omega, by omega, h3, Nat.le_trans zw h4, Nat.le_trans zw h5⟩
    clear HH h1 h2 h3 h4 h5 h6 lbs hs sbs rp bw zw
    go_wp2
    go_loopg [11, 12, 13, 14] (n1 + n2) (fun g1 v11 v12 v13 _v14 wr => ∃ (i : Nat) (uo vo : Option Addr) (ul uc vl vc : Nat) (xo yo : Option Addr) (xl xc yl yc : Nat) (U V : List Int), v11 = .slice uo ul uc ∧ v12 = .slice vo vl vc ∧ v13 = .int .i64 i ∧ (i ≤ n1 ∨ i ≤ n2) ∧ n1 + n2 - i ≤ g1 ∧ Hid (GS w g bs bx by_ (.slice so sl sc) (.slice po pl pc) (.slice xo xl xc) (.slice uo ul uc) (.slice yo yl yc) (.slice vo vl vc) X U U V V (100 + 2 * i) wr))
    case atStart => exact ⟨0, po, po, pl, pc, pl, pc, so, so, sl, sc, sl, sc, X, X, rfl, rfl, rfl, Or.inl (Nat.zero_le _), by omega, G0⟩
    case round =>
      clear G0
      obtain ⟨i, uo, vo, ul, uc, vl, vc, xo, yo, xl, xc, yl, yc, U, V, rfl, rfl, rfl, hin, hg1, HS⟩ := hrel
      have HUL : Hid (U.length ≤ 300) := by have := HS.out.xx.len; show _ ≤ _; omega
      have HVL : Hid (V.length ≤ 300) := by have := HS.out.yy.len; show _ ≤ _; omega
      have s0 := HS.out
      clear HS
      by_cases hlt1 : i < n1
      · have hz1 : (i : Int) < (n1 : Int) := by omega
        have hz1d : decide ((i : Int) < (n1 : Int)) = true := decide_eq_true hz1
        obtain ⟨y, gg, o, hy, e1, c1⟩ := C1.out _ s0.bw i hlt1
        subst e1
        have YEQ : Hid (∀ W, Below g w W → W.cell? ⟨gg, o + i, none⟩ = some (.int .i64 y)) := fun W hW => by obtain ⟨z, g', o', hz, e', c'⟩ := C1.out _ hW i hlt1; cases e'; rw [hy] at hz; cases hz; exact c'
        clear hy c1
        go_upto_region 11 with fail
        have KEEP : ∀ u, Below wr.heap.size wr u → L3.AllL u [(0, fun w' => w'.cell? ⟨bx, 0, none⟩ = some (.slice xo xl xc)), (4, fun w' => w'.cell? ⟨gg, o + i, none⟩ = some (.int .i64 y))] := fun u hu => ⟨(s0.cx.below hu).cell, YEQ.out u (s0.bw.trans (hu.mono s0.gz)), trivial⟩
        refine L3.region_late [(0, fun w' => w'.cell? ⟨bx, 0, none⟩ = some (.slice xo xl xc)), (4, fun w' => w'.cell? ⟨gg, o + i, none⟩ = some (.int .i64 y))] (by kernel_rfl) ?_
        have B : Below wr.heap.size wr wr.drew := (Below.refl _ _).drew
        obtain ⟨wd, hwd⟩ : ∃ u, u = wr.drew := ⟨_, rfl⟩
        rw [← hwd] at B ⊢
        clear hwd
        have hHeld := KEEP _ B
        refine L3.late_take 0 (v := .agg #[.slice xo xl xc]) rfl (by kernel_rfl) (List.Mem.head _) (by kernel_rfl) (by kernel_rfl) (by kernel_rfl) (by kernel_rfl) (fun _ _ _ h => h) (Or.inl ⟨by rfl, ?_⟩) hHeld ?_
        · (intro u hu; (try dsimp only at hu); go_split_ands; go_simp)
        (try simp only [Act.put, List.setIfInBounds_toArray, List.set_cons_zero, List.set_cons_succ])
        refine L3.late_free 1 (v := .slice (some ⟨gg, o, none⟩) n1 p1) rfl (by kernel_rfl) (by kernel_rfl) (by kernel_rfl) (by kernel_rfl) (by kernel_rfl) (by kernel_rfl) (fun _ _ _ h => h) (Or.inl ⟨by rfl, ?_⟩) hHeld ?_
        · (intro u _; go_simp)
        (try simp only [Act.put, List.setIfInBounds_toArray, List.set_cons_zero, List.set_cons_succ])
        refine L3.late_free 2 (v := .int .i64 i) rfl (by kernel_rfl) (by kernel_rfl) (by kernel_rfl) (by kernel_rfl) (by kernel_rfl) (by kernel_rfl) (fun _ _ _ h => h) (Or.inl ⟨by rfl, ?_⟩) hHeld ?_
        · (intro u _; go_simp)
        (try simp only [Act.put, List.setIfInBounds_toArray, List.set_cons_zero, List.set_cons_succ])
        refine L3.late_free 3 (v := .pointer (some ⟨gg, o + i, none⟩)) rfl (by kernel_rfl) (by kernel_rfl) (by kernel_rfl) (by kernel_rfl) (by kernel_rfl) (by kernel_rfl) (fun _ _ _ h => h) (Or.inl ⟨by rfl, ?_⟩) hHeld ?_
        · (intro u _; go_simp)
        (try simp only [Act.put, List.setIfInBounds_toArray, List.set_cons_zero, List.set_cons_succ])
        refine L3.late_take 4 (v := .int .i64 y) rfl (by kernel_rfl) (List.Mem.tail _ (List.Mem.head _)) (by kernel_rfl) (by kernel_rfl) (by kernel_rfl) (by kernel_rfl) (fun _ _ _ h => h) (Or.inl ⟨by rfl, ?_⟩) hHeld ?_
        · (intro u hu; (try dsimp only at hu); go_split_ands; go_simp)
        (try simp only [Act.put, List.setIfInBounds_toArray, List.set_cons_zero, List.set_cons_succ])
        refine L3.late_step 5 (by kernel_rfl) rfl (fun K hK => ?_)
        go_simp
        refine (siWith (s0.below B).xx y (by omega)).mono ?_
        rintro e w2 ⟨zo, zl, zc, rfl, hz2, b2⟩
        have B := B.trans (b2.mono B.size)
        have s2 := (s0.below B).more (j := 100 + 2 * i + 1) (by omega)
        clear b2
        clear hHeld
        have hHeld := KEEP _ B
        go_wp2_with fail
        refine hK.out _ _ (L3.AllL.kept hHeld) ?_
        clear hK K
        (try simp only [Act.put, List.setIfInBounds_toArray, List.set_cons_zero, List.set_cons_succ])
        have d0 := s2.cx.cell
        have d1 := s2.cx.thaw
        have s3 : GS w g bs bx by_ (.slice so sl sc) (.slice po pl pc) (.slice zo zl zc) (.slice uo ul uc) (.slice yo yl yc) (.slice vo vl vc) X (insR y U) U V V (100 + 2 * i + 1) (w2.setCell ⟨bx, 0, none⟩ (.slice zo zl zc)) := s2.putX (hz2.more (by omega))
        refine L3.late_step 6 (by kernel_rfl) rfl (fun K hK => ?_)
        go_simp
        refine hK.out _ _ ⟨Or.inl ⟨5, by kernel_rfl, by kernel_rfl⟩, Or.inl ⟨5, by kernel_rfl, by kernel_rfl⟩, trivial⟩ ?_
        clear hK K d0 d1 s2 hz2 B hHeld KEEP
        (try simp only [Act.put, List.setIfInBounds_toArray, List.set_cons_zero, List.set_cons_succ])
        refine L3.late_done (by kernel_rfl) ?_ _
        obtain ⟨w3, hw3⟩ : ∃ u, u = w2.setCell ⟨bx, 0, none⟩ (.slice zo zl zc) := ⟨_, rfl⟩
        rw [← hw3] at s3 ⊢
        clear hw3 s0
        have c1 := YEQ.out _ s3.bw
        have CC := rWith _ U y w3 s3.uu (by have := s3.xx.len; have := HUL.out; omega)
        have S3 : Hid _ := s3
        clear s3
        go_wp2_with fail
        refine CC.mono ?_
        rintro e w4 ⟨u4, rfl, ou4, b4⟩
        clear CC c1
        obtain ⟨uo2, uc2, eu4, -⟩ := ou4.sl
        obtain ⟨ul2, hul2⟩ : ∃ l, l = (insR y U).length := ⟨_, rfl⟩
        rw [← hul2] at eu4
        subst eu4
        have s0 := (S3.out.below b4).row ou4.rg
        clear S3 ou4 b4 hul2 YEQ
        by_cases hlt2 : i < n2
        · have hz2 : (i : Int) < (n2 : Int) := by omega
          obtain ⟨z, gh, q, hy, e1, c1⟩ := C2.out _ s0.bw i hlt2
          subst e1
          have ZEQ : Hid (∀ W, Below g w W → W.cell? ⟨gh, q + i, none⟩ = some (.int .i64 z)) := fun W hW => by obtain ⟨z', g', o', hz, e', c'⟩ := C2.out _ hW i hlt2; cases e'; rw [hy] at hz; cases hz; exact c'
          clear hy c1
          obtain ⟨z1, hw1⟩ : ∃ z1, IntKind.i64.wrap (z + 1) = z1 := ⟨_, rfl⟩
          go_upto_region 15 with fail
          have KEEP : ∀ u, Below w4.heap.size w4 u → L3.AllL u [(0, fun w' => w'.cell? ⟨by_, 0, none⟩ = some (.slice yo yl yc)), (4, fun w' => w'.cell? ⟨gh, q + i, none⟩ = some (.int .i64 z)), (9, fun w' => w'.cell? ⟨gh, q + i, none⟩ = some (.int .i64 z))] := fun u hu => ⟨(s0.cy.below hu).cell, ZEQ.out u (s0.bw.trans (hu.mono s0.gz)), ZEQ.out u (s0.bw.trans (hu.mono s0.gz)), trivial⟩
          refine L3.region_late [(0, fun w' => w'.cell? ⟨by_, 0, none⟩ = some (.slice yo yl yc)), (4, fun w' => w'.cell? ⟨gh, q + i, none⟩ = some (.int .i64 z)), (9, fun w' => w'.cell? ⟨gh, q + i, none⟩ = some (.int .i64 z))] (by kernel_rfl) ?_
          have B : Below w4.heap.size w4 w4.drew := (Below.refl _ _).drew
          obtain ⟨wd, hwd⟩ : ∃ u, u = w4.drew := ⟨_, rfl⟩
          rw [← hwd] at B ⊢
          clear hwd
          have hHeld := KEEP _ B
          refine L3.late_take 0 (v := .agg #[.slice yo yl yc]) rfl (by kernel_rfl) (List.Mem.head _) (by kernel_rfl) (by kernel_rfl) (by kernel_rfl) (by kernel_rfl) (fun _ _ _ h => h) (Or.inl ⟨by rfl, ?_⟩) hHeld ?_
          · (intro u hu; (try dsimp only at hu); go_split_ands; go_simp)
          (try simp only [Act.put, List.setIfInBounds_toArray, List.set_cons_zero, List.set_cons_succ])
          refine L3.late_free 1 (v := .slice (some ⟨gh, q, none⟩) n2 p2) rfl (by kernel_rfl) (by kernel_rfl) (by kernel_rfl) (by kernel_rfl) (by kernel_rfl) (by kernel_rfl) (fun _ _ _ h => h) (Or.inl ⟨by rfl, ?_⟩) hHeld ?_
          · (intro u _; go_simp)
          (try simp only [Act.put, List.setIfInBounds_toArray, List.set_cons_zero, List.set_cons_succ])
          refine L3.late_free 2 (v := .int .i64 i) rfl (by kernel_rfl) (by kernel_rfl) (by kernel_rfl) (by kernel_rfl) (by kernel_rfl) (by kernel_rfl) (fun _ _ _ h => h) (Or.inl ⟨by rfl, ?_⟩) hHeld ?_
          · (intro u _; go_simp)
          (try simp only [Act.put, List.setIfInBounds_toArray, List.set_cons_zero, List.set_cons_succ])
          refine L3.late_free 3 (v := .pointer (some ⟨gh, q + i, none⟩)) rfl (by kernel_rfl) (by kernel_rfl) (by kernel_rfl) (by kernel_rfl) (by kernel_rfl) (by kernel_rfl) (fun _ _ _ h => h) (Or.inl ⟨by rfl, ?_⟩) hHeld ?_
          · (intro u _; go_simp)
          (try simp only [Act.put, List.setIfInBounds_toArray, List.set_cons_zero, List.set_cons_succ])
          refine L3.late_take 4 (v := .int .i64 z) rfl (by kernel_rfl) (List.Mem.tail _ (List.Mem.head _)) (by kernel_rfl) (by kernel_rfl) (by kernel_rfl) (by kernel_rfl) (fun _ _ _ h => h) (Or.inl ⟨by rfl, ?_⟩) hHeld ?_
          · (intro u hu; (try dsimp only at hu); go_split_ands; go_simp)
          (try simp only [Act.put, List.setIfInBounds_toArray, List.set_cons_zero, List.set_cons_succ])
          refine L3.late_free 6 (v := .slice (some ⟨gh, q, none⟩) n2 p2) rfl (by kernel_rfl) (by kernel_rfl) (by kernel_rfl) (by kernel_rfl) (by kernel_rfl) (by kernel_rfl) (fun _ _ _ h => h) (Or.inl ⟨by rfl, ?_⟩) hHeld ?_
          · (intro u _; go_simp)
          (try simp only [Act.put, List.setIfInBounds_toArray, List.set_cons_zero, List.set_cons_succ])
          refine L3.late_free 7 (v := .int .i64 i) rfl (by kernel_rfl) (by kernel_rfl) (by kernel_rfl) (by kernel_rfl) (by kernel_rfl) (by kernel_rfl) (fun _ _ _ h => h) (Or.inl ⟨by rfl, ?_⟩) hHeld ?_
          · (intro u _; go_simp)
          (try simp only [Act.put, List.setIfInBounds_toArray, List.set_cons_zero, List.set_cons_succ])
          refine L3.late_free 8 (v := .pointer (some ⟨gh, q + i, none⟩)) rfl (by kernel_rfl) (by kernel_rfl) (by kernel_rfl) (by kernel_rfl) (by kernel_rfl) (by kernel_rfl) (fun _ _ _ h => h) (Or.inl ⟨by rfl, ?_⟩) hHeld ?_
          · (intro u _; go_simp)
          (try simp only [Act.put, List.setIfInBounds_toArray, List.set_cons_zero, List.set_cons_succ])
          refine L3.late_take 9 (v := .int .i64 z) rfl (by kernel_rfl) (List.Mem.tail _ (List.Mem.tail _ (List.Mem.head _))) (by kernel_rfl) (by kernel_rfl) (by kernel_rfl) (by kernel_rfl) (fun _ _ _ h => h) (Or.inl ⟨by rfl, ?_⟩) hHeld ?_
          · (intro u hu; (try dsimp only at hu); go_split_ands; go_simp)
          (try simp only [Act.put, List.setIfInBounds_toArray, List.set_cons_zero, List.set_cons_succ])
          refine L3.late_free 10 (v := .int .i64 z1) rfl (by kernel_rfl) (by kernel_rfl) (by kernel_rfl) (by kernel_rfl) (by kernel_rfl) (by kernel_rfl) (fun _ _ _ h => h) (Or.inl ⟨by rfl, ?_⟩) hHeld ?_
          · (intro u _; go_simp)
          (try simp only [Act.put, List.setIfInBounds_toArray, List.set_cons_zero, List.set_cons_succ])
          refine L3.late_step 5 (by kernel_rfl) rfl (fun K hK => ?_)
          go_simp
          refine (siWithoutF (s0.below B).yy z (by omega)).mono ?_
          rintro e w5 ⟨eo, el, ec, rfl, he5, b5⟩
          have B := B.trans (b5.mono B.size)
          clear b5
          clear hHeld
          have hHeld := KEEP _ B
          go_wp2_with fail
          refine hK.out _ _ (L3.AllL.kept hHeld) ?_
          clear hK K
          (try simp only [Act.put, List.setIfInBounds_toArray, List.set_cons_zero, List.set_cons_succ])
          refine L3.late_step 11 (by kernel_rfl) rfl (fun K hK => ?_)
          go_simp
          refine (siWith he5 z1 (by omega)).mono ?_
          rintro e w6 ⟨fo, fl, fc, rfl, he6, b6⟩
          have B := B.trans (b6.mono B.size)
          have s2 := (s0.below B).more (j := 100 + 2 * i + 2) (by omega)
          clear b6 he5
          clear hHeld
          have hHeld := KEEP _ B
          go_wp2_with fail
          refine hK.out _ _ (L3.AllL.kept hHeld) ?_
          clear hK K
          (try simp only [Act.put, List.setIfInBounds_toArray, List.set_cons_zero, List.set_cons_succ])
          have d0 := s2.cy.cell
          have d1 := s2.cy.thaw
          have s3 : GS w g bs bx by_ (.slice so sl sc) (.slice po pl pc) (.slice zo zl zc) (.slice uo2 ul2 uc2) (.slice fo fl fc) (.slice vo vl vc) X (insR y U) (insR y U) (insR z1 (fvI V z)) V (100 + 2 * i + 2) (w6.setCell ⟨by_, 0, none⟩ (.slice fo fl fc)) := s2.putY (he6.more (by omega))
          have cz := ZEQ.out _ s3.bw
          refine L3.late_step 12 (by kernel_rfl) rfl (fun K hK => ?_)
          go_simp
          refine hK.out _ _ ⟨Or.inl ⟨5, by kernel_rfl, by kernel_rfl⟩, Or.inr cz, Or.inr cz, trivial⟩ ?_
          clear hK K d0 d1 s2 he6 B hHeld KEEP cz
          (try simp only [Act.put, List.setIfInBounds_toArray, List.set_cons_zero, List.set_cons_succ])
          refine L3.late_done (by kernel_rfl) ?_ _
          obtain ⟨w7, hw7⟩ : ∃ u, u = w6.setCell ⟨by_, 0, none⟩ (.slice fo fl fc) := ⟨_, rfl⟩
          rw [← hw7] at s3 ⊢
          clear hw7 s0
          go_upto_region 16 with fail
          have KEEP : ∀ u, Below w7.heap.size w7 u → L3.AllL u [(5, fun w' => w'.cell? ⟨gh, q + i, none⟩ = some (.int .i64 z)), (11, fun w' => w'.cell? ⟨gh, q + i, none⟩ = some (.int .i64 z))] := fun u hu => ⟨ZEQ.out u (s3.bw.trans (hu.mono s3.gz)), ZEQ.out u (s3.bw.trans (hu.mono s3.gz)), trivial⟩
          refine L3.region_late [(5, fun w' => w'.cell? ⟨gh, q + i, none⟩ = some (.int .i64 z)), (11, fun w' => w'.cell? ⟨gh, q + i, none⟩ = some (.int .i64 z))] (by kernel_rfl) ?_
          have B : Below w7.heap.size w7 w7.drew := (Below.refl _ _).drew
          obtain ⟨wd, hwd⟩ : ∃ u, u = w7.drew := ⟨_, rfl⟩
          rw [← hwd] at B ⊢
          clear hwd
          have hHeld := KEEP _ B
          refine L3.late_free 0 (v := .slice vo vl vc) rfl (by kernel_rfl) (by kernel_rfl) (by kernel_rfl) (by kernel_rfl) (by kernel_rfl) (by kernel_rfl) (fun _ _ _ h => h) (Or.inl ⟨by rfl, ?_⟩) hHeld ?_
          · (intro u _; go_simp)
          (try simp only [Act.put, List.setIfInBounds_toArray, List.set_cons_zero, List.set_cons_succ])
          refine L3.late_free 1 (v := .slice none 0 0) rfl (by kernel_rfl) (by kernel_rfl) (by kernel_rfl) (by kernel_rfl) (by kernel_rfl) (by kernel_rfl) (fun _ _ _ h => h) (Or.inl ⟨by rfl, ?_⟩) hHeld ?_
          · (intro u _; go_simp)
          (try simp only [Act.put, List.setIfInBounds_toArray, List.set_cons_zero, List.set_cons_succ])
          refine L3.late_free 2 (v := .slice (some ⟨gh, q, none⟩) n2 p2) rfl (by kernel_rfl) (by kernel_rfl) (by kernel_rfl) (by kernel_rfl) (by kernel_rfl) (by kernel_rfl) (fun _ _ _ h => h) (Or.inl ⟨by rfl, ?_⟩) hHeld ?_
          · (intro u _; go_simp)
          (try simp only [Act.put, List.setIfInBounds_toArray, List.set_cons_zero, List.set_cons_succ])
          refine L3.late_free 3 (v := .int .i64 i) rfl (by kernel_rfl) (by kernel_rfl) (by kernel_rfl) (by kernel_rfl) (by kernel_rfl) (by kernel_rfl) (fun _ _ _ h => h) (Or.inl ⟨by rfl, ?_⟩) hHeld ?_
          · (intro u _; go_simp)
          (try simp only [Act.put, List.setIfInBounds_toArray, List.set_cons_zero, List.set_cons_succ])
          refine L3.late_free 4 (v := .pointer (some ⟨gh, q + i, none⟩)) rfl (by kernel_rfl) (by kernel_rfl) (by kernel_rfl) (by kernel_rfl) (by kernel_rfl) (by kernel_rfl) (fun _ _ _ h => h) (Or.inl ⟨by rfl, ?_⟩) hHeld ?_
          · (intro u _; go_simp)
          (try simp only [Act.put, List.setIfInBounds_toArray, List.set_cons_zero, List.set_cons_succ])
          refine L3.late_take 5 (v := .int .i64 z) rfl (by kernel_rfl) (List.Mem.head _) (by kernel_rfl) (by kernel_rfl) (by kernel_rfl) (by kernel_rfl) (fun _ _ _ h => h) (Or.inl ⟨by rfl, ?_⟩) hHeld ?_
          · (intro u hu; (try dsimp only at hu); go_split_ands; go_simp)
          (try simp only [Act.put, List.setIfInBounds_toArray, List.set_cons_zero, List.set_cons_succ])
          refine L3.late_free 8 (v := .slice (some ⟨gh, q, none⟩) n2 p2) rfl (by kernel_rfl) (by kernel_rfl) (by kernel_rfl) (by kernel_rfl) (by kernel_rfl) (by kernel_rfl) (fun _ _ _ h => h) (Or.inl ⟨by rfl, ?_⟩) hHeld ?_
          · (intro u _; go_simp)
          (try simp only [Act.put, List.setIfInBounds_toArray, List.set_cons_zero, List.set_cons_succ])
          refine L3.late_free 9 (v := .int .i64 i) rfl (by kernel_rfl) (by kernel_rfl) (by kernel_rfl) (by kernel_rfl) (by kernel_rfl) (by kernel_rfl) (fun _ _ _ h => h) (Or.inl ⟨by rfl, ?_⟩) hHeld ?_
          · (intro u _; go_simp)
          (try simp only [Act.put, List.setIfInBounds_toArray, List.set_cons_zero, List.set_cons_succ])
          refine L3.late_free 10 (v := .pointer (some ⟨gh, q + i, none⟩)) rfl (by kernel_rfl) (by kernel_rfl) (by kernel_rfl) (by kernel_rfl) (by kernel_rfl) (by kernel_rfl) (fun _ _ _ h => h) (Or.inl ⟨by rfl, ?_⟩) hHeld ?_
          · (intro u _; go_simp)
          (try simp only [Act.put, List.setIfInBounds_toArray, List.set_cons_zero, List.set_cons_succ])
          refine L3.late_take 11 (v := .int .i64 z) rfl (by kernel_rfl) (List.Mem.tail _ (List.Mem.head _)) (by kernel_rfl) (by kernel_rfl) (by kernel_rfl) (by kernel_rfl) (fun _ _ _ h => h) (Or.inl ⟨by rfl, ?_⟩) hHeld ?_
          · (intro u hu; (try dsimp only at hu); go_split_ands; go_simp)
          (try simp only [Act.put, List.setIfInBounds_toArray, List.set_cons_zero, List.set_cons_succ])
          refine L3.late_free 12 (v := .int .i64 z1) rfl (by kernel_rfl) (by kernel_rfl) (by kernel_rfl) (by kernel_rfl) (by kernel_rfl) (by kernel_rfl) (fun _ _ _ h => h) (Or.inl ⟨by rfl, ?_⟩) hHeld ?_
          · (intro u _; go_simp)
          (try simp only [Act.put, List.setIfInBounds_toArray, List.set_cons_zero, List.set_cons_succ])
          refine L3.late_step 6 (by kernel_rfl) rfl (fun K hK => ?_)
          go_simp
          refine (rWith _ [] z wd (RG.nil _) (by simp)).mono ?_
          rintro e w8 ⟨v8, rfl, ov8, b8⟩
          have r8 : RG (Value.int .i64) w8 v8 [z] := ov8.rg
          have B := B.trans (b8.mono B.size)
          clear ov8 b8
          clear hHeld
          have hHeld := KEEP _ B
          go_wp2_with fail
          refine hK.out _ _ (L3.AllL.kept hHeld) ?_
          clear hK K
          (try simp only [Act.put, List.setIfInBounds_toArray, List.set_cons_zero, List.set_cons_succ])
          refine L3.late_step 7 (by kernel_rfl) rfl (fun K hK => ?_)
          go_simp
          refine (rSomeF (s3.below B).vr r8 (by have := HVL.out; omega)).mono ?_
          rintro e w9 ⟨v9, rfl, ov9, b9⟩
          have B := B.trans (b9.mono B.size)
          clear r8 b9
          clear hHeld
          have hHeld := KEEP _ B
          go_wp2_with fail
          refine hK.out _ _ (L3.AllL.kept hHeld) ?_
          clear hK K
          (try simp only [Act.put, List.setIfInBounds_toArray, List.set_cons_zero, List.set_cons_succ])
          refine L3.late_step 13 (by kernel_rfl) rfl (fun K hK => ?_)
          go_simp
          refine (rWith _ (fvI V z) z1 w9 ov9.rg (Nat.le_trans (fvI_len V z) (by have := HVL.out; omega))).mono ?_
          rintro e wa ⟨va, rfl, ova, ba⟩
          have B := B.trans (ba.mono B.size)
          clear ov9 ba
          obtain ⟨vo2, vc2, eva, -⟩ := ova.sl
          obtain ⟨vl2, hvl2⟩ : ∃ l, l = (insR z1 (fvI V z)).length := ⟨_, rfl⟩
          rw [← hvl2] at eva
          subst eva
          clear hvl2
          clear hHeld
          have hHeld := KEEP _ B
          go_wp2_with fail
          refine hK.out _ _ (L3.AllL.kept hHeld) ?_
          clear hK K
          (try simp only [Act.put, List.setIfInBounds_toArray, List.set_cons_zero, List.set_cons_succ])
          have s4 := (s3.below B).row2 ova.rg
          clear ova s3
          refine L3.late_step 14 (by kernel_rfl) rfl (fun K hK => ?_)
          go_simp
          refine hK.out _ _ (L3.AllL.kept hHeld) ?_
          clear hK K hHeld KEEP B
          (try simp only [Act.put, List.setIfInBounds_toArray, List.set_cons_zero, List.set_cons_succ])
          refine L3.late_done (by kernel_rfl) ?_ _
          have s0 := s4
          clear s4 ZEQ hw1
          replace s0 := s0.more (j := 100 + 2 * (i + 1)) (by omega)
          have cx := s0.cx.cell
          have CC : Hid _ := siList s0.xx (by omega)
          have S0 : Hid _ := s0
          clear s0
          go_wp2_with fail
          refine Calls.mono CC.out ?_
          rintro e x1 ⟨r1, rfl, or1, b1⟩
          clear CC cx
          have S1 : Hid _ := S0.out.below b1
          clear S0 b1
          have CC : Hid _ := ints_yes or1.rg S1.out.uu rfl
          clear or1
          go_wp2_with fail
          refine Calls.mono CC.out ?_
          rintro e x2 ⟨rfl, b2⟩
          clear CC
          have S2 : Hid _ := S1.out.below b2
          clear S1 b2
          have cy := S2.out.cy.cell
          have CC : Hid _ := siList S2.out.yy (by omega)
          go_wp2_with fail
          refine Calls.mono CC.out ?_
          rintro e x3 ⟨r3, rfl, or3, b3⟩
          clear CC cy
          have S3 : Hid _ := S2.out.below b3
          clear S2 b3
          have CC : Hid _ := ints_yes or3.rg S3.out.vr rfl
          clear or3
          go_wp2_with fail
          refine Calls.mono CC.out ?_
          rintro e x4 ⟨rfl, b4⟩
          clear CC
          have SE_ : Hid _ := S3.out.below b4
          clear S3 b4
          go_wp2
          go_roundg (n1 + n2 - (i + 1))
          case measure => omega
          case rel => exact ⟨i + 1, uo2, vo2, ul2, uc2, vl2, vc2, zo, fo, zl, zc, fl, fc, _, _, rfl, rfl, by go_num, by omega, Nat.le_refl _, SE_.out⟩
        · have hz2 : ¬ (i : Int) < (n2 : Int) := by omega
          replace s0 := s0.more (j := 100 + 2 * (i + 1)) (by omega)
          have cx := s0.cx.cell
          have CC : Hid _ := siList s0.xx (by omega)
          have S0 : Hid _ := s0
          clear s0
          go_wp2_with fail
          refine Calls.mono CC.out ?_
          rintro e x1 ⟨r1, rfl, or1, b1⟩
          clear CC cx
          have S1 : Hid _ := S0.out.below b1
          clear S0 b1
          have CC : Hid _ := ints_yes or1.rg S1.out.uu rfl
          clear or1
          go_wp2_with fail
          refine Calls.mono CC.out ?_
          rintro e x2 ⟨rfl, b2⟩
          clear CC
          have S2 : Hid _ := S1.out.below b2
          clear S1 b2
          have cy := S2.out.cy.cell
          have CC : Hid _ := siList S2.out.yy (by omega)
          go_wp2_with fail
          refine Calls.mono CC.out ?_
          rintro e x3 ⟨r3, rfl, or3, b3⟩
          clear CC cy
          have S3 : Hid _ := S2.out.below b3
          clear S2 b3
          have CC : Hid _ := ints_yes or3.rg S3.out.vr rfl
          clear or3
          go_wp2_with fail
          refine Calls.mono CC.out ?_
          rintro e x4 ⟨rfl, b4⟩
          clear CC
          have SE_ : Hid _ := S3.out.below b4
          clear S3 b4
          go_wp2
          go_roundg (n1 + n2 - (i + 1))
          case measure => omega
          case rel => exact ⟨i + 1, uo2, vo, ul2, uc2, vl, vc, zo, yo, zl, zc, yl, yc, _, _, rfl, rfl, by go_num, by omega, Nat.le_refl _, SE_.out⟩
      · have hz1 : ¬ (i : Int) < (n1 : Int) := by omega
        have hz1d : decide ((i : Int) < (n1 : Int)) = false := decide_eq_false hz1
        by_cases hlt2 : i < n2
        · have hz2 : (i : Int) < (n2 : Int) := by omega
          obtain ⟨z, gh, q, hy, e1, c1⟩ := C2.out _ s0.bw i hlt2
          subst e1
          have ZEQ : Hid (∀ W, Below g w W → W.cell? ⟨gh, q + i, none⟩ = some (.int .i64 z)) := fun W hW => by obtain ⟨z', g', o', hz, e', c'⟩ := C2.out _ hW i hlt2; cases e'; rw [hy] at hz; cases hz; exact c'
          clear hy c1
          obtain ⟨z1, hw1⟩ : ∃ z1, IntKind.i64.wrap (z + 1) = z1 := ⟨_, rfl⟩
          go_upto_region 15 with fail
          have KEEP : ∀ u, Below wr.heap.size wr u → L3.AllL u [(0, fun w' => w'.cell? ⟨by_, 0, none⟩ = some (.slice yo yl yc)), (4, fun w' => w'.cell? ⟨gh, q + i, none⟩ = some (.int .i64 z)), (9, fun w' => w'.cell? ⟨gh, q + i, none⟩ = some (.int .i64 z))] := fun u hu => ⟨(s0.cy.below hu).cell, ZEQ.out u (s0.bw.trans (hu.mono s0.gz)), ZEQ.out u (s0.bw.trans (hu.mono s0.gz)), trivial⟩
          refine L3.region_late [(0, fun w' => w'.cell? ⟨by_, 0, none⟩ = some (.slice yo yl yc)), (4, fun w' => w'.cell? ⟨gh, q + i, none⟩ = some (.int .i64 z)), (9, fun w' => w'.cell? ⟨gh, q + i, none⟩ = some (.int .i64 z))] (by kernel_rfl) ?_
          have B : Below wr.heap.size wr wr.drew := (Below.refl _ _).drew
          obtain ⟨wd, hwd⟩ : ∃ u, u = wr.drew := ⟨_, rfl⟩
          rw [← hwd] at B ⊢
          clear hwd
          have hHeld := KEEP _ B
          refine L3.late_take 0 (v := .agg #[.slice yo yl yc]) rfl (by kernel_rfl) (List.Mem.head _) (by kernel_rfl) (by kernel_rfl) (by kernel_rfl) (by kernel_rfl) (fun _ _ _ h => h) (Or.inl ⟨by rfl, ?_⟩) hHeld ?_
          · (intro u hu; (try dsimp only at hu); go_split_ands; go_simp)
          (try simp only [Act.put, List.setIfInBounds_toArray, List.set_cons_zero, List.set_cons_succ])
          refine L3.late_free 1 (v := .slice (some ⟨gh, q, none⟩) n2 p2) rfl (by kernel_rfl) (by kernel_rfl) (by kernel_rfl) (by kernel_rfl) (by kernel_rfl) (by kernel_rfl) (fun _ _ _ h => h) (Or.inl ⟨by rfl, ?_⟩) hHeld ?_
          · (intro u _; go_simp)
          (try simp only [Act.put, List.setIfInBounds_toArray, List.set_cons_zero, List.set_cons_succ])
          refine L3.late_free 2 (v := .int .i64 i) rfl (by kernel_rfl) (by kernel_rfl) (by kernel_rfl) (by kernel_rfl) (by kernel_rfl) (by kernel_rfl) (fun _ _ _ h => h) (Or.inl ⟨by rfl, ?_⟩) hHeld ?_
          · (intro u _; go_simp)
          (try simp only [Act.put, List.setIfInBounds_toArray, List.set_cons_zero, List.set_cons_succ])
          refine L3.late_free 3 (v := .pointer (some ⟨gh, q + i, none⟩)) rfl (by kernel_rfl) (by kernel_rfl) (by kernel_rfl) (by kernel_rfl) (by kernel_rfl) (by kernel_rfl) (fun _ _ _ h => h) (Or.inl ⟨by rfl, ?_⟩) hHeld ?_
          · (intro u _; go_simp)
          (try simp only [Act.put, List.setIfInBounds_toArray, List.set_cons_zero, List.set_cons_succ])
          refine L3.late_take 4 (v := .int .i64 z) rfl (by kernel_rfl) (List.Mem.tail _ (List.Mem.head _)) (by kernel_rfl) (by kernel_rfl) (by kernel_rfl) (by kernel_rfl) (fun _ _ _ h => h) (Or.inl ⟨by rfl, ?_⟩) hHeld ?_
          · (intro u hu; (try dsimp only at hu); go_split_ands; go_simp)
          (try simp only [Act.put, List.setIfInBounds_toArray, List.set_cons_zero, List.set_cons_succ])
          refine L3.late_free 6 (v := .slice (some ⟨gh, q, none⟩) n2 p2) rfl (by kernel_rfl) (by kernel_rfl) (by kernel_rfl) (by kernel_rfl) (by kernel_rfl) (by kernel_rfl) (fun _ _ _ h => h) (Or.inl ⟨by rfl, ?_⟩) hHeld ?_
          · (intro u _; go_simp)
          (try simp only [Act.put, List.setIfInBounds_toArray, List.set_cons_zero, List.set_cons_succ])
          refine L3.late_free 7 (v := .int .i64 i) rfl (by kernel_rfl) (by kernel_rfl) (by kernel_rfl) (by kernel_rfl) (by kernel_rfl) (by kernel_rfl) (fun _ _ _ h => h) (Or.inl ⟨by rfl, ?_⟩) hHeld ?_
          · (intro u _; go_simp)
          (try simp only [Act.put, List.setIfInBounds_toArray, List.set_cons_zero, List.set_cons_succ])
          refine L3.late_free 8 (v := .pointer (some ⟨gh, q + i, none⟩)) rfl (by kernel_rfl) (by kernel_rfl) (by kernel_rfl) (by kernel_rfl) (by kernel_rfl) (by kernel_rfl) (fun _ _ _ h => h) (Or.inl ⟨by rfl, ?_⟩) hHeld ?_
          · (intro u _; go_simp)
          (try simp only [Act.put, List.setIfInBounds_toArray, List.set_cons_zero, List.set_cons_succ])
          refine L3.late_take 9 (v := .int .i64 z) rfl (by kernel_rfl) (List.Mem.tail _ (List.Mem.tail _ (List.Mem.head _))) (by kernel_rfl) (by kernel_rfl) (by kernel_rfl) (by kernel_rfl) (fun _ _ _ h => h) (Or.inl ⟨by rfl, ?_⟩) hHeld ?_
          · (intro u hu; (try dsimp only at hu); go_split_ands; go_simp)
          (try simp only [Act.put, List.setIfInBounds_toArray, List.set_cons_zero, List.set_cons_succ])
          refine L3.late_free 10 (v := .int .i64 z1) rfl (by kernel_rfl) (by kernel_rfl) (by kernel_rfl) (by kernel_rfl) (by kernel_rfl) (by kernel_rfl) (fun _ _ _ h => h) (Or.inl ⟨by rfl, ?_⟩) hHeld ?_
          · (intro u _; go_simp)
          (try simp only [Act.put, List.setIfInBounds_toArray, List.set_cons_zero, List.set_cons_succ])
          refine L3.late_step 5 (by kernel_rfl) rfl (fun K hK => ?_)
          go_simp
          refine (siWithoutF (s0.below B).yy z (by omega)).mono ?_
          rintro e w5 ⟨eo, el, ec, rfl, he5, b5⟩
          have B := B.trans (b5.mono B.size)
          clear b5
          clear hHeld
          have hHeld := KEEP _ B
          go_wp2_with fail
          refine hK.out _ _ (L3.AllL.kept hHeld) ?_
          clear hK K
          (try simp only [Act.put, List.setIfInBounds_toArray, List.set_cons_zero, List.set_cons_succ])
          refine L3.late_step 11 (by kernel_rfl) rfl (fun K hK => ?_)
          go_simp
          refine (siWith he5 z1 (by omega)).mono ?_
          rintro e w6 ⟨fo, fl, fc, rfl, he6, b6⟩
          have B := B.trans (b6.mono B.size)
          have s2 := (s0.below B).more (j := 100 + 2 * i + 2) (by omega)
          clear b6 he5
          clear hHeld
          have hHeld := KEEP _ B
          go_wp2_with fail
          refine hK.out _ _ (L3.AllL.kept hHeld) ?_
          clear hK K
          (try simp only [Act.put, List.setIfInBounds_toArray, List.set_cons_zero, List.set_cons_succ])
          have d0 := s2.cy.cell
          have d1 := s2.cy.thaw
          have s3 : GS w g bs bx by_ (.slice so sl sc) (.slice po pl pc) (.slice xo xl xc) (.slice uo ul uc) (.slice fo fl fc) (.slice vo vl vc) X U U (insR z1 (fvI V z)) V (100 + 2 * i + 2) (w6.setCell ⟨by_, 0, none⟩ (.slice fo fl fc)) := s2.putY (he6.more (by omega))
          have cz := ZEQ.out _ s3.bw
          refine L3.late_step 12 (by kernel_rfl) rfl (fun K hK => ?_)
          go_simp
          refine hK.out _ _ ⟨Or.inl ⟨5, by kernel_rfl, by kernel_rfl⟩, Or.inr cz, Or.inr cz, trivial⟩ ?_
          clear hK K d0 d1 s2 he6 B hHeld KEEP cz
          (try simp only [Act.put, List.setIfInBounds_toArray, List.set_cons_zero, List.set_cons_succ])
          refine L3.late_done (by kernel_rfl) ?_ _
          obtain ⟨w7, hw7⟩ : ∃ u, u = w6.setCell ⟨by_, 0, none⟩ (.slice fo fl fc) := ⟨_, rfl⟩
          rw [← hw7] at s3 ⊢
          clear hw7 s0
          go_upto_region 16 with fail
          have KEEP : ∀ u, Below w7.heap.size w7 u → L3.AllL u [(5, fun w' => w'.cell? ⟨gh, q + i, none⟩ = some (.int .i64 z)), (11, fun w' => w'.cell? ⟨gh, q + i, none⟩ = some (.int .i64 z))] := fun u hu => ⟨ZEQ.out u (s3.bw.trans (hu.mono s3.gz)), ZEQ.out u (s3.bw.trans (hu.mono s3.gz)), trivial⟩
          refine L3.region_late [(5, fun w' => w'.cell? ⟨gh, q + i, none⟩ = some (.int .i64 z)), (11, fun w' => w'.cell? ⟨gh, q + i, none⟩ = some (.int .i64 z))] (by kernel_rfl) ?_
          have B : Below w7.heap.size w7 w7.drew := (Below.refl _ _).drew
          obtain ⟨wd, hwd⟩ : ∃ u, u = w7.drew := ⟨_, rfl⟩
          rw [← hwd] at B ⊢
          clear hwd
          have hHeld := KEEP _ B
          refine L3.late_free 0 (v := .slice vo vl vc) rfl (by kernel_rfl) (by kernel_rfl) (by kernel_rfl) (by kernel_rfl) (by kernel_rfl) (by kernel_rfl) (fun _ _ _ h => h) (Or.inl ⟨by rfl, ?_⟩) hHeld ?_
          · (intro u _; go_simp)
          (try simp only [Act.put, List.setIfInBounds_toArray, List.set_cons_zero, List.set_cons_succ])
          refine L3.late_free 1 (v := .slice none 0 0) rfl (by kernel_rfl) (by kernel_rfl) (by kernel_rfl) (by kernel_rfl) (by kernel_rfl) (by kernel_rfl) (fun _ _ _ h => h) (Or.inl ⟨by rfl, ?_⟩) hHeld ?_
          · (intro u _; go_simp)
          (try simp only [Act.put, List.setIfInBounds_toArray, List.set_cons_zero, List.set_cons_succ])
          refine L3.late_free 2 (v := .slice (some ⟨gh, q, none⟩) n2 p2) rfl (by kernel_rfl) (by kernel_rfl) (by kernel_rfl) (by kernel_rfl) (by kernel_rfl) (by kernel_rfl) (fun _ _ _ h => h) (Or.inl ⟨by rfl, ?_⟩) hHeld ?_
          · (intro u _; go_simp)
          (try simp only [Act.put, List.setIfInBounds_toArray, List.set_cons_zero, List.set_cons_succ])
          refine L3.late_free 3 (v := .int .i64 i) rfl (by kernel_rfl) (by kernel_rfl) (by kernel_rfl) (by kernel_rfl) (by kernel_rfl) (by kernel_rfl) (fun _ _ _ h => h) (Or.inl ⟨by rfl, ?_⟩) hHeld ?_
          · (intro u _; go_simp)
          (try simp only [Act.put, List.setIfInBounds_toArray, List.set_cons_zero, List.set_cons_succ])
          refine L3.late_free 4 (v := .pointer (some ⟨gh, q + i, none⟩)) rfl (by kernel_rfl) (by kernel_rfl) (by kernel_rfl) (by kernel_rfl) (by kernel_rfl) (by kernel_rfl) (fun _ _ _ h => h) (Or.inl ⟨by rfl, ?_⟩) hHeld ?_
          · (intro u _; go_simp)
          (try simp only [Act.put, List.setIfInBounds_toArray, List.set_cons_zero, List.set_cons_succ])
          refine L3.late_take 5 (v := .int .i64 z) rfl (by kernel_rfl) (List.Mem.head _) (by kernel_rfl) (by kernel_rfl) (by kernel_rfl) (by kernel_rfl) (fun _ _ _ h => h) (Or.inl ⟨by rfl, ?_⟩) hHeld ?_
          · (intro u hu; (try dsimp only at hu); go_split_ands; go_simp)
          (try simp only [Act.put, List.setIfInBounds_toArray, List.set_cons_zero, List.set_cons_succ])
          refine L3.late_free 8 (v := .slice (some ⟨gh, q, none⟩) n2 p2) rfl (by kernel_rfl) (by kernel_rfl) (by kernel_rfl) (by kernel_rfl) (by kernel_rfl) (by kernel_rfl) (fun _ _ _ h => h) (Or.inl ⟨by rfl, ?_⟩) hHeld ?_
          · (intro u _; go_simp)
          (try simp only [Act.put, List.setIfInBounds_toArray, List.set_cons_zero, List.set_cons_succ])
          refine L3.late_free 9 (v := .int .i64 i) rfl (by kernel_rfl) (by kernel_rfl) (by kernel_rfl) (by kernel_rfl) (by kernel_rfl) (by kernel_rfl) (fun _ _ _ h => h) (Or.inl ⟨by rfl, ?_⟩) hHeld ?_
          · (intro u _; go_simp)
          (try simp only [Act.put, List.setIfInBounds_toArray, List.set_cons_zero, List.set_cons_succ])
          refine L3.late_free 10 (v := .pointer (some ⟨gh, q + i, none⟩)) rfl (by kernel_rfl) (by kernel_rfl) (by kernel_rfl) (by kernel_rfl) (by kernel_rfl) (by kernel_rfl) (fun _ _ _ h => h) (Or.inl ⟨by rfl, ?_⟩) hHeld ?_
          · (intro u _; go_simp)
          (try simp only [Act.put, List.setIfInBounds_toArray, List.set_cons_zero, List.set_cons_succ])
          refine L3.late_take 11 (v := .int .i64 z) rfl (by kernel_rfl) (List.Mem.tail _ (List.Mem.head _)) (by kernel_rfl) (by kernel_rfl) (by kernel_rfl) (by kernel_rfl) (fun _ _ _ h => h) (Or.inl ⟨by rfl, ?_⟩) hHeld ?_
          · (intro u hu; (try dsimp only at hu); go_split_ands; go_simp)
          (try simp only [Act.put, List.setIfInBounds_toArray, List.set_cons_zero, List.set_cons_succ])
          refine L3.late_free 12 (v := .int .i64 z1) rfl (by kernel_rfl) (by kernel_rfl) (by kernel_rfl) (by kernel_rfl) (by kernel_rfl) (by kernel_rfl) (fun _ _ _ h => h) (Or.inl ⟨by rfl, ?_⟩) hHeld ?_
          · (intro u _; go_simp)
          (try simp only [Act.put, List.setIfInBounds_toArray, List.set_cons_zero, List.set_cons_succ])
          refine L3.late_step 6 (by kernel_rfl) rfl (fun K hK => ?_)
          go_simp
          refine (rWith _ [] z wd (RG.nil _) (by simp)).mono ?_
          rintro e w8 ⟨v8, rfl, ov8, b8⟩
          have r8 : RG (Value.int .i64) w8 v8 [z] := ov8.rg
          have B := B.trans (b8.mono B.size)
          clear ov8 b8
          clear hHeld
          have hHeld := KEEP _ B
          go_wp2_with fail
          refine hK.out _ _ (L3.AllL.kept hHeld) ?_
          clear hK K
          (try simp only [Act.put, List.setIfInBounds_toArray, List.set_cons_zero, List.set_cons_succ])
          refine L3.late_step 7 (by kernel_rfl) rfl (fun K hK => ?_)
          go_simp
          refine (rSomeF (s3.below B).vr r8 (by have := HVL.out; omega)).mono ?_
          rintro e w9 ⟨v9, rfl, ov9, b9⟩
          have B := B.trans (b9.mono B.size)
          clear r8 b9
          clear hHeld
          have hHeld := KEEP _ B
          go_wp2_with fail
          refine hK.out _ _ (L3.AllL.kept hHeld) ?_
          clear hK K
          (try simp only [Act.put, List.setIfInBounds_toArray, List.set_cons_zero, List.set_cons_succ])
          refine L3.late_step 13 (by kernel_rfl) rfl (fun K hK => ?_)
          go_simp
          refine (rWith _ (fvI V z) z1 w9 ov9.rg (Nat.le_trans (fvI_len V z) (by have := HVL.out; omega))).mono ?_
          rintro e wa ⟨va, rfl, ova, ba⟩
          have B := B.trans (ba.mono B.size)
          clear ov9 ba
          obtain ⟨vo2, vc2, eva, -⟩ := ova.sl
          obtain ⟨vl2, hvl2⟩ : ∃ l, l = (insR z1 (fvI V z)).length := ⟨_, rfl⟩
          rw [← hvl2] at eva
          subst eva
          clear hvl2
          clear hHeld
          have hHeld := KEEP _ B
          go_wp2_with fail
          refine hK.out _ _ (L3.AllL.kept hHeld) ?_
          clear hK K
          (try simp only [Act.put, List.setIfInBounds_toArray, List.set_cons_zero, List.set_cons_succ])
          have s4 := (s3.below B).row2 ova.rg
          clear ova s3
          refine L3.late_step 14 (by kernel_rfl) rfl (fun K hK => ?_)
          go_simp
          refine hK.out _ _ (L3.AllL.kept hHeld) ?_
          clear hK K hHeld KEEP B
          (try simp only [Act.put, List.setIfInBounds_toArray, List.set_cons_zero, List.set_cons_succ])
          refine L3.late_done (by kernel_rfl) ?_ _
          have s0 := s4
          clear s4 ZEQ hw1
          replace s0 := s0.more (j := 100 + 2 * (i + 1)) (by omega)
          have cx := s0.cx.cell
          have CC : Hid _ := siList s0.xx (by omega)
          have S0 : Hid _ := s0
          clear s0
          go_wp2_with fail
          refine Calls.mono CC.out ?_
          rintro e x1 ⟨r1, rfl, or1, b1⟩
          clear CC cx
          have S1 : Hid _ := S0.out.below b1
          clear S0 b1
          have CC : Hid _ := ints_yes or1.rg S1.out.uu rfl
          clear or1
          go_wp2_with fail
          refine Calls.mono CC.out ?_
          rintro e x2 ⟨rfl, b2⟩
          clear CC
          have S2 : Hid _ := S1.out.below b2
          clear S1 b2
          have cy := S2.out.cy.cell
          have CC : Hid _ := siList S2.out.yy (by omega)
          go_wp2_with fail
          refine Calls.mono CC.out ?_
          rintro e x3 ⟨r3, rfl, or3, b3⟩
          clear CC cy
          have S3 : Hid _ := S2.out.below b3
          clear S2 b3
          have CC : Hid _ := ints_yes or3.rg S3.out.vr rfl
          clear or3
          go_wp2_with fail
          refine Calls.mono CC.out ?_
          rintro e x4 ⟨rfl, b4⟩
          clear CC
          have SE_ : Hid _ := S3.out.below b4
          clear S3 b4
          go_wp2
          go_roundg (n1 + n2 - (i + 1))
          case measure => omega
          case rel => exact ⟨i + 1, uo, vo2, ul, uc, vl2, vc2, xo, fo, xl, xc, fl, fc, _, _, rfl, rfl, by go_num, by omega, Nat.le_refl _, SE_.out⟩
        · have hz2 : ¬ (i : Int) < (n2 : Int) := by omega
          have cs := s0.cs.cell
          have CC := siList s0.ss (by omega)
          go_wp2_with fail
          refine CC.mono ?_
          rintro e x1 ⟨r1, rfl, or1, b1⟩
          clear CC cs
          replace s0 := s0.below b1
          clear b1
          have CC := ints_yes or1.rg s0.pp rfl
          go_wp2_with fail
          refine CC.mono ?_
          rintro e x2 ⟨rfl, b2⟩
          have HE : Hid (Below g w x2) := (s0.below b2).bw
          clear CC or1 s0 b2
          go_wp2
          go_ret
          exact ⟨rfl, HE.out⟩
end Go.Proofs.Ytknibmehbplpbaa

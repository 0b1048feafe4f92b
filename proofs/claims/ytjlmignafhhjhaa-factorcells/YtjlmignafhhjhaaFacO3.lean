/-
  Proved here: package factor's Out at int.
-/
import Derived.Test.YtjlmignafhhjhaaFacO2
import Derived.Deep.AppendLies
namespace Go.Proofs.Ytjlmignafhhjhaa
set_option linter.unusedVariables false
open Go.RowKit Go.Shelf Go.Lib Go.Sort
/-- What is added up into cell t. -/
def outC (cs : List Int) (y A t : Nat) : List Int := (List.range y).map fun v => cs.getD (t / A * (y * A) + t % A + v * A) 0
def outL (cs : List Int) (y A N : Nat) : List Int := (List.range N).map fun t => smZ (outC cs y A t)
theorem outC_len (cs : List Int) (y A t : Nat) : (outC cs y A t).length = y := by simp [outC]
theorem outL_take (cs : List Int) (y A N t : Nat) (h : t < N) : (outL cs y A N).take (t + 1) = (outL cs y A N).take t ++ [smZ (outC cs y A t)] := by
  rw [List.take_succ_eq_append_getElem (by simp [outL]; exact h)]
  simp [outL]
theorem at_bf (A b f : Nat) (hf : f < A) : (b * A + f) / A = b ∧ (b * A + f) % A = f := by
  have h0 : 0 < A := by omega
  constructor
  · rw [Nat.mul_comm, Nat.mul_add_div h0, Nat.div_eq_of_lt hf]; simp
  · rw [Nat.mul_comm, Nat.mul_add_mod, Nat.mod_eq_of_lt hf]
/-- How memory stands while Out goes. -/
structure OtC (W0 : World) (gr gcol gc : Nat) (u1 u2 : Value) (L : List Int) (D : List Int) (W : World) : Prop where
  grs : GrS W0 W [gr, gcol, gc]
  rest : ∃ co cn cc, BCell 34 W gr u1 u2 (.slice co cn cc) ∧ OG (Value.int .i64) 0 3 W (.slice co cn cc) L ∧ ∀ q, (Value.slice co cn cc).ownBlock = some q → q = gc ∨ W0.heap.size ≤ q
  col : W.heap[gcol]? = some (.cells (D.map (Value.int .i64)).toArray 3 (0, 0))
section
variable {W0 : World} {gr gcol gc : Nat} {u1 u2 : Value} {L D : List Int} {W : World}
theorem OtC.setD (h : OtC W0 gr gcol gc u1 u2 L D W) (n1 : gr ≠ gcol) (n2 : gc ≠ gcol) (n3 : gcol < W0.heap.size) (j : Nat) (x : Int) : OtC W0 gr gcol gc u1 u2 L (D.set j x) (W.setCell ⟨gcol, j, none⟩ (.int .i64 x)) := by
  obtain ⟨co, cn, cc, h1, h2, h3⟩ := h.rest
  refine ⟨h.grs.set (by simp) _ _, ⟨co, cn, cc, h1.other n1 _ _, h2.of_blocks fun q hq => ?_, h3⟩, row_set h.col x⟩
  have hne : q ≠ gcol := by rcases h3 q hq with e | e <;> omega
  exact Below.heap_setCell _ _ _ _ hne
end
/-- What Out leaves, of a table that may be. -/
def OuE (w : World) (xs zs cs : List Int) (k y A N : Nat) (e : Ending) (w' : World) : Prop :=
  ∃ u1 u2 u3, e = .returned (.tuple #[.agg #[u1, u2, u3], .int .i64 0]) ∧ OG (Value.int .i64) w.heap.size 3 w' u1 (xs.take k ++ xs.drop (k + 1)) ∧ OG (Value.int .i64) w.heap.size 3 w' u2 (zs.take k ++ zs.drop (k + 1)) ∧
    RG (Value.int .i64) w' u3 (outL cs y A N) ∧ Below w.heap.size w w'
set_option maxRecDepth 100000 in
set_option maxHeartbeats 12800000 in
theorem outI (s z c : Value) (xs zs cs : List Int) (k y A Q : Nat) (v : Int) (w : World) (hs : RK .i64 w s xs) (hz : RK .i64 w z zs) (hc : RG (Value.int .i64) w c cs) (ht : Tab xs zs cs.length) (hx : xs.length ≤ 100000) (hk : xs[k]? = some v)
    (hy : zs.getD k 0 = (y : Int)) (hA : pr (zs.drop (k + 1)) = (A : Int)) (hQ : pr (zs.take k) = (Q : Int)) :
    Calls Try.prog 27 #[.iface 56 (.agg #[]), .agg #[s, z, c], .int .i64 v] w fun e w' => OuE w xs zs cs k y A (Q * A) e w' := by
  have hkx : k < xs.length := (List.getElem?_eq_some_iff.1 hk).1
  have hkz : k < zs.length := by rw [ht.len]; exact hkx
  have hy1 : 1 ≤ y := by
    have h1 : 1 ≤ zs.getD k 0 := by rw [List.getD_eq_getElem?_getD, List.getElem?_eq_getElem hkz]; exact ht.ones _ (List.getElem_mem hkz)
    omega
  have hA1 : 1 ≤ A := by have := (pr_drop_le zs ht.ones (k + 1)).1; omega
  have hQ1 : 1 ≤ Q := by have := pr_pos (zs.take k) fun q hq => ht.ones q (List.mem_of_mem_take hq); omega
  obtain ⟨m, hm⟩ : ∃ m, cs.length = m := ⟨_, rfl⟩
  obtain ⟨BL, hBL⟩ : ∃ BL, y * A = BL := ⟨_, rfl⟩
  have hmQ : m = Q * BL := by
    have h1 := pr_split zs k
    rw [hQ, pr_drop zs k hkz, hy, hA] at h1
    have h2 := ht.cells
    rw [h1, hm] at h2
    have h3 : ((Q * BL : Nat) : Int) = (m : Int) := by rw [← hBL]; simpa using h2
    omega
  have hm31 : (m : Int) ≤ 2147483647 := by have := ht.cells; have := ht.many; omega
  have hBL1 : 1 ≤ BL := by rw [← hBL]; exact Nat.mul_pos hy1 hA1
  have hBLm : BL ≤ m := by rw [hmQ]; exact Nat.le_mul_of_pos_left BL hQ1
  have hyBL : y ≤ BL := by rw [← hBL]; exact Nat.le_mul_of_pos_right y hA1
  have hABL : A ≤ BL := by rw [← hBL]; exact Nat.le_mul_of_pos_left A hy1
  have hqd : (cs.length : Int) / zs.getD k 0 = ((Q * A : Nat) : Int) := by
    rw [hm, hy, hmQ, ← hBL, show Q * (y * A) = y * (Q * A) by rw [Nat.mul_left_comm], Int.natCast_mul, Int.mul_ediv_cancel_left _ (by omega)]
  obtain ⟨sO, sN, sC, rfl⟩ : ∃ o n c, s = .slice o n c := by obtain ⟨ao, cap, e, -⟩ := hs; exact ⟨_, _, _, e⟩
  have hzrk := hz
  obtain ⟨zO, zC, rfl, hzc, hzm, -, -, hzcell⟩ := hz
  have hcrg := hc
  obtain ⟨cO, cC, rfl, hc1, hc2, -, hccell⟩ := hc
  unfold maxLen at hzm hc2
  obtain ⟨W1, hW1⟩ : ∃ W1, W1 = (w.alloc (.cells #[.slice sO sN sC, .slice zO zs.length zC, .slice cO cs.length cC] 34)).alloc (.cells #[.slice none 0 0, .slice none 0 0, .slice none 0 0] 34) := ⟨_, rfl⟩
  obtain ⟨g, hg⟩ : ∃ g, g = w.heap.size := ⟨_, rfl⟩
  have qa : BCell 34 W1 g (.slice sO sN sC) (.slice zO zs.length zC) (.slice cO cs.length cC) := by rw [hW1]; exact (BCell.new w hg.symm).step _
  have qr : BCell 34 W1 (g + 1) (.slice none 0 0) (.slice none 0 0) (.slice none 0 0) := by rw [hW1]; exact BCell.new _ (by simp [hg])
  have b0 : Below w.heap.size w W1 := by rw [hW1]; exact bstepB (belowB w _) (belowB _ _)
  have z0 : g + 1 + 1 ≤ W1.heap.size := by rw [hW1]; simp [hg]
  have CP : Hid (∀ X, Below w.heap.size w X → Calls Try.prog 57 #[.agg #[.slice sO sN sC, .slice zO zs.length zC, .slice cO cs.length cC], .int .i64 v] X fun e w' => e = .returned (.tuple #[.int .i64 (k : Int), .int .i64 0]) ∧ Below X.heap.size X w') := fun X hX => placeI _ _ _ xs zs cs k v X (hs.below (Nat.le_refl _) hX) (hzrk.below (Nat.le_refl _) hX) (hcrg.below (Nat.le_refl _) hX) ht hx hk
  have CW : Hid (∀ X, Below w.heap.size w X → Calls Try.prog 58 #[.agg #[.slice sO sN sC, .slice zO zs.length zC, .slice cO cs.length cC], .int .i64 (k : Int)] X fun e w' => WtE X xs zs k (Q * A) e w') := fun X hX => withoutI _ _ _ xs zs cs k (Q * A) X (hs.below (Nat.le_refl _) hX) (hzrk.below (Nat.le_refl _) hX) (hcrg.below (Nat.le_refl _) hX) ht hx hkx hqd
  have CS : Hid (∀ X, Below w.heap.size w X → Calls Try.prog 59 #[.agg #[.slice sO sN sC, .slice zO zs.length zC, .slice cO cs.length cC], .int .i64 (k : Int)] X fun e w' => e = .returned (.int .i64 (A : Int)) ∧ Below X.heap.size X w') := fun X hX => by have := strideI (.slice sO sN sC) (.slice zO zs.length zC) (.slice cO cs.length cC) xs zs cs.length k X (hzrk.below (Nat.le_refl _) hX) ht hkz; rw [hA] at this; exact this
  obtain ⟨zg, zof, rfl, cz0⟩ := hzcell k hkz
  rw [hy] at cz0
  have HZC : Hid (w.cell? ⟨zg, zof + k, none⟩ = some (.int .i64 (y : Int))) := cz0
  have HCC : Hid (∀ i x, cs[i]? = some x → ∃ g o, cO = some ⟨g, o, none⟩ ∧ w.cell? ⟨g, o + i, none⟩ = some (Value.int .i64 x)) := hccell
  obtain ⟨n, hn⟩ : ∃ n, zs.length = n := ⟨_, rfl⟩
  rw [hn] at hzc hkz CP CW CS hW1 qa ⊢
  rw [hm] at hc1 CP CW CS hW1 qa ⊢
  have HM : Hid (cs.length = m) := hm
  have HBL : Hid (y * A = BL) := hBL
  have HMQ : Hid (m = Q * BL) := hmQ
  have hkI : (k : Int) < (n : Int) := by omega
  have HB : Hid (Below w.heap.size w W1) := b0
  have HG : Hid (g = w.heap.size) := hg
  have HW1 : Hid (W1 = (w.alloc (.cells #[.slice sO sN sC, .slice (some ⟨zg, zof, none⟩) n zC, .slice cO m cC] 34)).alloc (.cells #[.slice none 0 0, .slice none 0 0, .slice none 0 0] 34)) := hW1
  have HQA : Hid (BCell 34 W1 g (.slice sO sN sC) (.slice (some ⟨zg, zof, none⟩) n zC) (.slice cO m cC)) := qa
  have HQR : Hid (BCell 34 W1 (g + 1) (.slice none 0 0) (.slice none 0 0) (.slice none 0 0)) := qr
  clear hW1 hg b0 qa qr hs hzrk hcrg ht hx hk hccell hzcell hy hA hQ hkx hkz hqd hn hm hBL hmQ cz0
  go_enter Try.func27, Try.ntmps27
  go_upto_region 1 with fail
  rw [← HW1.out, ← HG.out]
  clear HW1
  obtain ⟨ca0, ca1, ca2⟩ := HQA.out.cells
  have C1 : Hid _ := CP.out W1 HB.out
  go_wp2_with fail
  refine Calls.mono C1.out ?_
  rintro e w2 ⟨rfl, b2⟩
  clear C1 CP ca0 ca1 ca2
  have HB2 : Hid (Below w.heap.size w w2) := bstepB HB.out b2
  have HQA2 : Hid (BCell 34 w2 g (.slice sO sN sC) (.slice (some ⟨zg, zof, none⟩) n zC) (.slice cO m cC)) := HQA.out.below b2
  have HQR2 : Hid (BCell 34 w2 (g + 1) (.slice none 0 0) (.slice none 0 0) (.slice none 0 0)) := HQR.out.below b2
  have z2 : g + 1 + 1 ≤ w2.heap.size := Nat.le_trans z0 b2.size
  clear b2 HQA HQR HB z0
  obtain ⟨ca0, ca1, ca2⟩ := HQA2.out.cells
  have C2 : Hid _ := CW.out w2 HB2.out
  go_wp2_with fail
  refine Calls.mono C2.out ?_
  rintro e w3 ⟨u1, u2, gc, rfl, hU1, hU2, hC, n1, n2, b3⟩
  clear C2 CW ca0 ca1 ca2
  obtain ⟨p1, p2, p3, hp⟩ : ∃ o n c, u1 = .slice o n c := by obtain ⟨ao, cap, e, -⟩ := hU1.sl; exact ⟨_, _, _, e⟩
  subst hp
  obtain ⟨q1, q2, q3, hp⟩ : ∃ o n c, u2 = .slice o n c := by obtain ⟨ao, cap, e, -⟩ := hU2.sl; exact ⟨_, _, _, e⟩
  subst hp
  have hgc := hC.lt gc rfl
  obtain ⟨W4, hW4⟩ : ∃ u, u = w3.alloc (.cells #[.slice p1 p2 p3, .slice q1 q2 q3, .slice (some ⟨gc, 0, none⟩) 0 (Q * A)] 34) := ⟨_, rfl⟩
  obtain ⟨gr, hgr⟩ : ∃ u, u = w3.heap.size := ⟨_, rfl⟩
  have q4 : BCell 34 W4 gr (.slice p1 p2 p3) (.slice q1 q2 q3) (.slice (some ⟨gc, 0, none⟩) 0 (Q * A)) := by rw [hW4]; exact BCell.new _ hgr.symm
  have b4 : Below w3.heap.size w3 W4 := by rw [hW4]; exact belowB _ _
  have hl4 : gr < W4.heap.size := by rw [hW4, hgr]; simp
  have hgcr : gc < gr := by rw [hgr]; exact hgc.2
  have hU1b : ∀ q, (Value.slice p1 p2 p3).ownBlock = some q → w2.heap.size ≤ q ∧ q < gr ∧ q ≠ gc := fun q hq => ⟨(hU1.lt q hq).1, by rw [hgr]; exact (hU1.lt q hq).2, fun e => n1 (e ▸ hq)⟩
  have hU2b : ∀ q, (Value.slice q1 q2 q3).ownBlock = some q → w2.heap.size ≤ q ∧ q < gr ∧ q ≠ gc := fun q hq => ⟨(hU2.lt q hq).1, by rw [hgr]; exact (hU2.lt q hq).2, fun e => n2 (e ▸ hq)⟩
  have HU1 : Hid (OG (Value.int .i64) w2.heap.size 3 W4 (.slice p1 p2 p3) (xs.take k ++ xs.drop (k + 1)) ∧ ∀ q, (Value.slice p1 p2 p3).ownBlock = some q → w2.heap.size ≤ q ∧ q < gr ∧ q ≠ gc) := ⟨hU1.below b4, hU1b⟩
  have HU2 : Hid (OG (Value.int .i64) w2.heap.size 3 W4 (.slice q1 q2 q3) (zs.take k ++ zs.drop (k + 1)) ∧ ∀ q, (Value.slice q1 q2 q3).ownBlock = some q → w2.heap.size ≤ q ∧ q < gr ∧ q ≠ gc) := ⟨hU2.below b4, hU2b⟩
  have HC4 : Hid (OG (Value.int .i64) w2.heap.size 3 W4 (.slice (some ⟨gc, 0, none⟩) 0 (Q * A)) []) := hC.below b4
  have HB34 : Hid (Below w2.heap.size w2 W4) := bstepB b3 b4
  have HQ4 : Hid (BCell 34 W4 gr (.slice p1 p2 p3) (.slice q1 q2 q3) (.slice (some ⟨gc, 0, none⟩) 0 (Q * A))) := q4
  have HW4 : Hid (W4 = w3.alloc (.cells #[.slice p1 p2 p3, .slice q1 q2 q3, .slice (some ⟨gc, 0, none⟩) 0 (Q * A)] 34)) := hW4
  have HGR : Hid (gr = w3.heap.size) := hgr
  have hgc2 : w2.heap.size ≤ gc := hgc.1
  clear hW4 hgr q4 b4 hU1 hU2 hC n1 n2 b3 hgc hU1b hU2b
  obtain ⟨NN, hNN⟩ : ∃ NN, Q * A = NN := ⟨_, rfl⟩
  have HNN : Hid (Q * A = NN) := hNN
  rw [hNN] at HC4 HQ4 HW4 ⊢
  clear hNN
  go_upto_region 7 with fail
  rw [← HW4.out, ← HGR.out]
  clear HW4 HGR
  have HQA4 : Hid (BCell 34 W4 g (.slice sO sN sC) (.slice (some ⟨zg, zof, none⟩) n zC) (.slice cO m cC)) := HQA2.out.below HB34.out
  have HQR4 : Hid (BCell 34 W4 (g + 1) (.slice none 0 0) (.slice none 0 0) (.slice none 0 0)) := HQR2.out.below HB34.out
  have HBW4 : Hid (Below w.heap.size w W4) := bstepB HB2.out HB34.out
  have HB24 : Hid (w.heap.size ≤ w2.heap.size) := HB2.out.size
  clear HQA2 HQR2 HB34 HB2
  obtain ⟨ca0, ca1, ca2⟩ := HQA4.out.cells
  have czz := keepR HBW4.out HZC.out
  obtain ⟨i0, hi, hz0, hz1', hz2'⟩ := info_parts infoI
  go_upto_region 8 with (at_make; refine wpList_made _ rfl _ _ 22 rfl 3 i0 (.int .i64 0) rfl Try.underlying22 hi hz0 hz1' _ _ y rfl rfl (by rw [hz2']; omega) (by omega) ?_)
  clear ca0 ca1 ca2 czz
  obtain ⟨W5, hW5⟩ : ∃ u, u = W4.alloc (.cells (Array.replicate y (.int .i64 0)) 3) := ⟨_, rfl⟩
  obtain ⟨gcol, hgcol⟩ : ∃ u, u = W4.heap.size := ⟨_, rfl⟩
  rw [← hW5, ← hgcol]
  have n5 : W5.heap[gcol]? = some (.cells ((List.replicate y (0 : Int)).map (Value.int .i64)).toArray 3 (0, 0)) := by rw [hW5, hgcol, map_rep]; exact heap_alloc_new _ _
  have b5 : Below W4.heap.size W4 W5 := by rw [hW5]; exact belowB _ _
  have hl5 : gcol < W5.heap.size := by rw [hW5, hgcol]; simp
  have hgrc : gr < gcol := by rw [hgcol]; exact hl4
  have HN5 : Hid (W5.heap[gcol]? = some (.cells ((List.replicate y (0 : Int)).map (Value.int .i64)).toArray 3 (0, 0))) := n5
  have HB5 : Hid (Below W4.heap.size W4 W5) := b5
  clear hW5 hgcol n5 b5
  obtain ⟨ca0, ca1, ca2⟩ := (HQA4.out.below HB5.out).cells
  have C3 : Hid _ := CS.out W5 (bstepB HBW4.out HB5.out)
  go_wp2_with fail
  refine Calls.mono C3.out ?_
  rintro e W0 ⟨rfl, b6⟩
  clear C3 CS ca0 ca1 ca2
  have HB40 : Hid (Below W4.heap.size W4 W0) := bstepB HB5.out b6
  have H0 : Hid (OtC W0 gr gcol gc (.slice p1 p2 p3) (.slice q1 q2 q3) ((outL cs y A NN).take 0) (List.replicate y (0 : Int)) W0) :=
    ⟨GrS.refl _ _, ⟨_, _, _, HQ4.out.below HB40.out, (HC4.out.below HB40.out).mono (Nat.zero_le _), fun q hq => .inl (by simpa [Value.ownBlock] using hq.symm)⟩, (b6.block gcol hl5).trans HN5.out⟩
  have HQA0 : Hid (BCell 34 W0 g (.slice sO sN sC) (.slice (some ⟨zg, zof, none⟩) n zC) (.slice cO m cC)) := HQA4.out.below HB40.out
  have HQR0 : Hid (BCell 34 W0 (g + 1) (.slice none 0 0) (.slice none 0 0) (.slice none 0 0)) := HQR4.out.below HB40.out
  have HBW0 : Hid (Below w.heap.size w W0) := bstepB HBW4.out HB40.out
  have hl0 : gcol < W0.heap.size := Nat.lt_of_lt_of_le hl5 b6.size
  have hgap : g + 1 + 1 ≤ gc := Nat.le_trans z2 hgc2
  have HORD : Hid (g + 1 + 1 ≤ gc ∧ gc < gr ∧ gr < gcol ∧ gcol < W0.heap.size ∧ w.heap.size = g ∧ g + 1 + 1 ≤ w2.heap.size) := ⟨hgap, hgcr, hgrc, hl0, HG.out.symm, z2⟩
  have hwmul : IntKind.i64.wrap ((y : Int) * (A : Int)) = (BL : Int) := by rw [← Int.natCast_mul, HBL.out, IntKind.wrap_i64]; omega
  have hemul : (y : Int) * (A : Int) = (BL : Int) := by rw [← Int.natCast_mul, HBL.out]
  clear b6 HQ4 HC4 HN5 HB5 HQA4 HQR4 HBW4 hl5 hgcr hgrc hl4 z2 hgc2 hgap
  have hX : ∀ x ∈ [gr, gcol, gc], w.heap.size ≤ x := by
    have := HORD.out
    intro x hx
    simp only [List.mem_cons, List.not_mem_nil, or_false] at hx
    rcases hx with rfl | rfl | rfl <;> omega
  have HXX : Hid (∀ x ∈ [gr, gcol, gc], w.heap.size ≤ x) := hX
  have HOUT : Hid (∀ W, GrS W0 W [gr, gcol, gc] → Below w.heap.size w W ∧ BCell 34 W g (.slice sO sN sC) (.slice (some ⟨zg, zof, none⟩) n zC) (.slice cO m cC) ∧ BCell 34 W (g + 1) (.slice none 0 0) (.slice none 0 0) (.slice none 0 0)) := fun W h => by
    have hO := HORD.out
    refine ⟨HBW0.out.trans (h.below HXX.out HBW0.out.size), ?_, ?_⟩
    · unfold BCell; rw [h.block g HQA0.out.lt (by simp; omega)]; exact HQA0.out
    · unfold BCell; rw [h.block (g + 1) HQR0.out.lt (by simp; omega)]; exact HQR0.out
  clear hX HQA0 HQR0
  go_wp2
  clear hemul hwmul
  go_loopg [14] Q (fun g1 v14 wr => ∃ b : Nat, ∃ fr : Nat, v14 = .int .i64 (fr : Int) ∧ Hid (fr = b * BL) ∧ b ≤ Q ∧ Q - b ≤ g1 ∧ Hid (∃ D, D.length = y ∧ OtC W0 gr gcol gc (.slice p1 p2 p3) (.slice q1 q2 q3) ((outL cs y A NN).take (b * A)) D wr))
  case atStart => exact ⟨0, 0, rfl, (Nat.zero_mul BL).symm, Nat.zero_le _, by omega, ⟨List.replicate y 0, List.length_replicate, by rw [Nat.zero_mul]; exact H0.out⟩⟩
  case round =>
    clear H0
    obtain ⟨b, fr, rfl, HFR, hbQ, hg1, HI⟩ := hrel
    obtain ⟨D0, hD0, hI⟩ := HI.out
    obtain ⟨bw, qa, qr⟩ := HOUT.out _ hI.grs
    by_cases hlt : b < Q
    · have hfm : fr + BL ≤ m := by
        have h1 : (b + 1) * BL ≤ Q * BL := Nat.mul_le_mul_right BL hlt
        rw [Nat.add_mul, Nat.one_mul] at h1
        have := HFR.out; have := HMQ.out; omega
      have hltz : (fr : Int) < (m : Int) := by omega
      obtain ⟨ca0, ca1, ca2⟩ := qa.cells
      have HJ : Hid (∃ D, D.length = y ∧ OtC W0 gr gcol gc (.slice p1 p2 p3) (.slice q1 q2 q3) ((outL cs y A NN).take (b * A + 0)) D wr) := ⟨D0, hD0, hI⟩
      clear HI hD0 hI bw qa qr
      go_wp2
      clear ca0 ca1 ca2
      go_loopg [15] A (fun g2 v15 wr => ∃ f : Nat, v15 = .int .i64 ((fr + f : Nat) : Int) ∧ f ≤ A ∧ A - f ≤ g2 ∧ Hid (∃ D, D.length = y ∧ OtC W0 gr gcol gc (.slice p1 p2 p3) (.slice q1 q2 q3) ((outL cs y A NN).take (b * A + f)) D wr))
      case atStart => exact ⟨0, rfl, Nat.zero_le _, by omega, HJ⟩
      case round =>
        clear HJ
        obtain ⟨f, rfl, hfA, hg2, HI⟩ := hrel
        have wfa : IntKind.i64.wrap ((fr : Int) + (A : Int)) = (fr : Int) + (A : Int) := by rw [IntKind.wrap_i64]; omega
        by_cases hlt2 : f < A
        · have hlt2z : ((fr + f : Nat) : Int) < (fr : Int) + (A : Int) := by omega
          obtain ⟨D1, hD1, hI⟩ := HI.out
          have HJ : Hid (∃ D, D.length = y ∧ (∀ v, v < 0 → D.getD v 0 = cs.getD (fr + f + v * A) 0) ∧ OtC W0 gr gcol gc (.slice p1 p2 p3) (.slice q1 q2 q3) ((outL cs y A NN).take (b * A + f)) D wr) := ⟨D1, hD1, fun v hv => absurd hv (Nat.not_lt_zero _), hI⟩
          clear HI hD1 hI D1
          obtain ⟨ff, hff⟩ : ∃ ff, fr + f = ff := ⟨_, rfl⟩
          have HFF : Hid (fr + f = ff) := hff
          rw [hff] at HJ hlt2z ⊢
          have hffm : ff < fr + BL := by omega
          clear hff
          go_wp2
          go_loopg [16, 64] y (fun g3 _v16 v64 wr => ∃ vv : Nat, v64 = .int .i64 vv ∧ vv ≤ y ∧ y - vv ≤ g3 ∧ Hid (∃ D, D.length = y ∧ (∀ v, v < vv → D.getD v 0 = cs.getD (ff + v * A) 0) ∧ OtC W0 gr gcol gc (.slice p1 p2 p3) (.slice q1 q2 q3) ((outL cs y A NN).take (b * A + f)) D wr))
          case atStart => exact ⟨0, rfl, Nat.zero_le _, by omega, HJ⟩
          case round =>
            clear HJ
            obtain ⟨vv, rfl, hvy, hg3, HI⟩ := hrel
            obtain ⟨D2, hD2, hDv, hI⟩ := HI.out
            obtain ⟨bw, qa, qr⟩ := HOUT.out _ hI.grs
            by_cases hlt3 : vv < y
            · have hlt3z : (vv : Int) < (y : Int) := by omega
              obtain ⟨va, hva⟩ : ∃ va, vv * A = va := ⟨_, rfl⟩
              have hva2 : va + A ≤ BL := by
                have h1 : (vv + 1) * A ≤ y * A := Nat.mul_le_mul_right A hlt3
                rw [Nat.add_mul, Nat.one_mul, HBL.out] at h1; omega
              have hidx : ff + va < m := by have := HFF.out; omega
              have e74 : (vv : Int) * (A : Int) = (va : Int) := by rw [← Int.natCast_mul, hva]
              have hidz : (ff : Int) + (va : Int) < (m : Int) := by omega
              obtain ⟨x, hx⟩ : ∃ x, cs[ff + va]? = some x := ⟨_, List.getElem?_eq_getElem (by rw [HM.out]; exact hidx)⟩
              obtain ⟨cg, co_, rfl, hcx⟩ := HCC.out _ x hx
              have hcx1 := keepR bw hcx
              obtain ⟨ca0, ca1, ca2⟩ := qa.cells
              have hcol := row_cell hI.col (i := vv) (by rw [hD2]; exact hlt3)
              have fcol : wr.frozen? ⟨gcol, vv, none⟩ = false := frozen_of_row _ _ _ _ _ hI.col
              have hO := HORD.out
              have HNX : Hid (∃ D, D.length = y ∧ (∀ v, v < vv + 1 → D.getD v 0 = cs.getD (ff + v * A) 0) ∧ OtC W0 gr gcol gc (.slice p1 p2 p3) (.slice q1 q2 q3) ((outL cs y A NN).take (b * A + f)) D (wr.setCell ⟨gcol, vv, none⟩ (.int .i64 x))) := by
                refine ⟨D2.set vv x, by rw [List.length_set]; exact hD2, fun v hv => ?_, hI.setD (by omega) (by omega) hO.2.2.2.1 vv x⟩
                by_cases e : v = vv
                · subst e; rw [List.getD_eq_getElem?_getD, List.getElem?_set_self (by rw [hD2]; exact hlt3), hva, List.getD_eq_getElem?_getD, hx]
                · rw [List.getD_eq_getElem?_getD, List.getElem?_set_ne (fun h => e h.symm), ← List.getD_eq_getElem?_getD]; exact hDv v (by omega)
              generalize D2.getD vv 0 = old at hcol
              have w74 : IntKind.i64.wrap ((va : Int)) = (va : Int) := by rw [IntKind.wrap_i64]; omega
              have w75 : IntKind.i64.wrap ((ff : Int) + (va : Int)) = (ff : Int) + (va : Int) := by rw [IntKind.wrap_i64]; omega
              clear HI hI hDv hD2 bw qa qr hcx hx hva hO
              go_wp2
              go_roundg (y - (vv + 1))
              case measure => omega
              case rel => exact ⟨vv + 1, by go_num, by omega, Nat.le_refl _, HNX⟩
            · have hlt3z : ¬ (vv : Int) < (y : Int) := by omega
              have hD : D2 = outC cs y A (b * A + f) := by
                apply List.ext_getElem
                · rw [hD2, outC_len]
                · intro v h1 h2
                  have hv : v < y := by omega
                  have h3 := hDv v (by omega)
                  rw [List.getD_eq_getElem?_getD, List.getElem?_eq_getElem h1, Option.getD_some] at h3
                  obtain ⟨e1, e2⟩ := at_bf A b f hlt2
                  simp only [outC, List.getElem_map, List.getElem_range, e1, e2]
                  rw [h3, ← HFF.out, HFR.out, HBL.out]
              have htN : b * A + f < NN := by
                have h1 : (b + 1) * A ≤ Q * A := Nat.mul_le_mul_right A hlt
                rw [Nat.add_mul, Nat.one_mul, HNN.out] at h1; omega
              have HTK : Hid ((outL cs y A NN).take (b * A + f + 1) = (outL cs y A NN).take (b * A + f) ++ [smZ D2]) := by show _ = _; rw [outL_take cs y A NN _ htN, hD]
              have htl : ((outL cs y A NN).take (b * A + f)).length = b * A + f := by rw [List.length_take]; simp [outL]; omega
              have hNm : NN ≤ m := by rw [← HNN.out, HMQ.out]; exact Nat.mul_le_mul_left Q hABL
              obtain ⟨t, ht⟩ : ∃ t, b * A + f = t := ⟨_, rfl⟩
              rw [ht] at hI HTK htl htN
              have HT_ : Hid (b * A + f = t) := ht
              obtain ⟨LT, hLT⟩ : ∃ LT, (outL cs y A NN).take t = LT := ⟨_, rfl⟩
              rw [hLT] at hI HTK htl
              obtain ⟨co2, cn2, cc2, k1, k2, k3⟩ := hI.rest
              obtain ⟨cr0, cr1, cr2⟩ := k1.cells
              have HK1 : Hid (BCell 34 wr gr (.slice p1 p2 p3) (.slice q1 q2 q3) (.slice co2 cn2 cc2)) := k1
              have HK2 : Hid (OG (Value.int .i64) 0 3 wr (.slice co2 cn2 cc2) LT) := k2
              have HK3 : Hid (∀ q, (Value.slice co2 cn2 cc2).ownBlock = some q → q = gc ∨ W0.heap.size ≤ q) := k3
              have HGS : Hid (GrS W0 wr [gr, gcol, gc]) := hI.grs
              have HCOL : Hid (wr.heap[gcol]? = some (.cells (D2.map (Value.int .i64)).toArray 3 (0, 0))) := hI.col
              have HLT_ : Hid (LT.length = t) := htl
              have HCV : Hid (∀ X, Below wr.heap.size wr X → RG (Value.int .i64) X (.slice (some ⟨gcol, 0, none⟩) y y) D2) := fun X hX => by
                have := (own_heap HCOL.out (B := 0) (by unfold maxLen; omega) (Nat.zero_le _)).rg.below (Nat.le_refl _) hX
                rw [hD2] at this; exact this
              have HDL : Hid (D2.length = y) := hD2
              clear HI hI hDv hD bw qa qr k1 k2 k3 htl hLT ht hD2 hlt3z
              go_upto_region 21 with fail
              have KEEP : ∀ u, Below wr.heap.size wr u → L4.AllL u [(1, fun w' => w'.cell? ⟨gr, 2, none⟩ = some (.slice co2 cn2 cc2))] := fun u hu => ⟨keepR hu cr2, trivial⟩
              refine L4.region_late [(1, fun w' => w'.cell? ⟨gr, 2, none⟩ = some (.slice co2 cn2 cc2))] (by kernel_rfl) ?_
              have B : Below wr.heap.size wr wr.drew := (Below.refl _ _).drew
              obtain ⟨w1, hw1⟩ : ∃ u, u = wr.drew := ⟨_, rfl⟩
              rw [← hw1] at B ⊢
              clear hw1
              have hHeld := KEEP _ B
              refine L4.late_free 0 (v := .pointer (some ⟨gr, 2, none⟩)) rfl (by kernel_rfl) (by kernel_rfl) (by kernel_rfl) (by kernel_rfl) (by kernel_rfl) (by kernel_rfl) (fun _ _ _ h => h) (Or.inl ⟨by rfl, ?_⟩) hHeld ?_
              · (intro u _; go_simp)
              (try simp only [Act.put, List.setIfInBounds_toArray, List.set_cons_zero, List.set_cons_succ])
              refine L4.late_take 1 (v := .slice co2 cn2 cc2) rfl (by kernel_rfl) (List.Mem.head _) (by kernel_rfl) (by kernel_rfl) (by kernel_rfl) (by kernel_rfl) (fun _ _ _ h => h) (Or.inl ⟨by rfl, ?_⟩) hHeld ?_
              · (intro u hu; (try dsimp only at hu); go_split_ands; go_simp)
              (try simp only [Act.put, List.setIfInBounds_toArray, List.set_cons_zero, List.set_cons_succ])
              refine L4.late_free 2 (v := .iface 56 (.agg #[])) rfl (by kernel_rfl) (by kernel_rfl) (by kernel_rfl) (by kernel_rfl) (by kernel_rfl) (by kernel_rfl) (fun _ _ _ h => h) (Or.inl ⟨by rfl, ?_⟩) hHeld ?_
              · (intro u _; go_simp)
              (try simp only [Act.put, List.setIfInBounds_toArray, List.set_cons_zero, List.set_cons_succ])
              refine L4.late_free 3 (v := .slice (some ⟨gcol, 0, none⟩) y y) rfl (by kernel_rfl) (by kernel_rfl) (by kernel_rfl) (by kernel_rfl) (by kernel_rfl) (by kernel_rfl) (fun _ _ _ h => h) (Or.inl ⟨by rfl, ?_⟩) hHeld ?_
              · (intro u _; go_simp)
              (try simp only [Act.put, List.setIfInBounds_toArray, List.set_cons_zero, List.set_cons_succ])
              refine L4.late_step 4 (by kernel_rfl) rfl (fun K hK => ?_)
              go_simp
              refine (sumI _ D2 _ (HCV.out _ B)).mono ?_
              rintro e y2 ⟨rfl, c2⟩
              obtain ⟨sv, hsv⟩ : ∃ sv, smZ D2 = sv := ⟨_, rfl⟩
              rw [hsv] at HTK ⊢
              clear hsv
              have B := B.trans (c2.mono B.size)
              clear c2 hHeld
              have hHeld := KEEP _ B
              go_wp2_with fail
              refine hK.out _ _ (L4.AllL.kept hHeld) ?_
              clear hK K
              (try simp only [Act.put, List.setIfInBounds_toArray, List.set_cons_zero, List.set_cons_succ])
              refine L4.late_step 5 (by kernel_rfl) rfl (fun K hK => ?_)
              go_simp
              obtain ⟨y3, hy3⟩ : ∃ u, u = y2.alloc (.cells #[.int .i64 sv] 3) := ⟨_, rfl⟩
              obtain ⟨gb, hgb⟩ : ∃ u, u = y2.heap.size := ⟨_, rfl⟩
              rw [← hy3, ← hgb]
              have c3 : Below y2.heap.size y2 y3 := by rw [hy3]; exact belowB _ _
              have cb : y3.cell? ⟨gb, 0, none⟩ = some (.int .i64 sv) := by rw [hy3, hgb, World.cell?_alloc_at _ _ _ _ rfl]; rfl
              clear hy3 hgb
              have B := B.trans (c3.mono B.size)
              clear c3 hHeld
              have hHeld := KEEP _ B
              refine hK.out _ _ (L4.AllL.kept hHeld) ?_
              clear hK K
              (try simp only [Act.put, List.setIfInBounds_toArray, List.set_cons_zero, List.set_cons_succ])
              refine L4.late_step 6 (by kernel_rfl) rfl (fun K hK => ?_)
              refine want_yes rfl ?_
              have hown := HK2.out.below B
              have hown' : y3.ownsRow 0 3 1 (.slice co2 cn2 cc2) t (LT.map (Value.int .i64)) := by have := hown; unfold OG at this; rw [HLT_.out] at this; exact this
              refine wp_append_lies _ _ _ 22 rfl 0 3 i0 (.int .i64 0) 1 8 Try.underlying22 hi hz0 hz1' hz2' rfl (by decide) (.slice co2 cn2 cc2) t _ rfl hown' ⟨gb, 0, none⟩ 1 1 [.int .i64 sv] rfl rfl (fun j u hj => by match j, hj with | 0, hj => simp at hj; subst hj; rw [Addr.add_lit, Nat.add_zero]; exact cb) (by simp [Value.oneCell']) (by decide) (by unfold maxLen; omega) (by omega) (Nat.zero_le _) _ rfl ?_
              intro ng ncap y4 ho2 hg2 hgg hlt9
              have HO2 : Hid (OG (Value.int .i64) 0 3 y4 (.slice (some ⟨ng, 0, none⟩) (t + 1) ncap) (LT ++ [sv])) := by show OG _ _ _ _ _ _; unfold OG; rw [List.length_append, HLT_.out, List.map_append]; exact ho2
              have hnb : ∀ q, q < y3.heap.size → q ≠ gc → ¬ W0.heap.size ≤ q → y4.heap[q]? = y3.heap[q]? := fun q h1 h2 h3 => hg2.block q h1 (fun e => by rcases HK3.out q e.symm with e1 | e1 <;> omega)
              have HNG : Hid (∀ q, (Value.slice (some ⟨ng, 0, none⟩) (t + 1) ncap).ownBlock = some q → q = gc ∨ W0.heap.size ≤ q) := fun q hq => by
                have e1 : ng = q := by simpa [Value.ownBlock] using hq
                subst e1
                rcases hgg with e | e
                · exact HK3.out _ e
                · right; rw [e]; exact Nat.le_trans HGS.out.size B.size
              have hO := HORD.out
              have hszw : W0.heap.size ≤ y3.heap.size := Nat.le_trans HGS.out.size B.size
              have HK9 : Hid (BCell 34 y4 gr (.slice p1 p2 p3) (.slice q1 q2 q3) (.slice co2 cn2 cc2)) := by show BCell _ _ _ _ _ _; unfold BCell; rw [hnb gr (by omega) (by omega) (by omega)]; exact (HK1.out.below B)
              have HCO9 : Hid (y4.heap[gcol]? = some (.cells (D2.map (Value.int .i64)).toArray 3 (0, 0))) := by show _ = _; rw [hnb gcol (by omega) (by omega) (by omega), B.block gcol (Array.getElem?_eq_some_iff.1 HCOL.out).1]; exact HCOL.out
              have HGS9 : Hid (GrS W0 y4 [gr, gcol, gc]) := ⟨hg2.os.trans (HGS.out.then B).os, hg2.tape.trans (HGS.out.then B).tape, hg2.output.trans (HGS.out.then B).output, Nat.le_trans hszw hg2.size, fun q h1 h2 => by rw [hnb q (by omega) (fun e => h2 (by simp [e])) (by omega)]; exact (HGS.out.then B).block q h1 h2⟩
              have cr9 := HK9.out.cells.2.2
              clear hHeld hown hown' ho2 hg2 hgg hlt9 hnb B cb
              have hHeld : L4.AllL y4 [(1, fun w' => w'.cell? ⟨gr, 2, none⟩ = some (.slice co2 cn2 cc2))] := ⟨cr9, trivial⟩
              refine hK.out _ _ (L4.AllL.kept hHeld) ?_
              clear hK K
              (try simp only [Act.put, List.setIfInBounds_toArray, List.set_cons_zero, List.set_cons_succ])
              refine L4.late_free 7 (v := .pointer (some ⟨gr, 2, none⟩)) rfl (by kernel_rfl) (by kernel_rfl) (by kernel_rfl) (by kernel_rfl) (by kernel_rfl) (by kernel_rfl) (fun _ _ _ h => h) (Or.inl ⟨by rfl, ?_⟩) hHeld ?_
              · (intro u _; go_simp)
              (try simp only [Act.put, List.setIfInBounds_toArray, List.set_cons_zero, List.set_cons_succ])
              refine L4.late_step 8 (by kernel_rfl) rfl (fun K hK => ?_)
              have f9 := HK9.out.thaw 2
              go_simp
              refine hK.out _ _ ⟨Or.inl ⟨8, by kernel_rfl, by kernel_rfl⟩, trivial⟩ ?_
              clear hK K
              (try simp only [Act.put, List.setIfInBounds_toArray, List.set_cons_zero, List.set_cons_succ])
              refine L4.late_done (by kernel_rfl) ?_ _
              obtain ⟨WN, hWN⟩ : ∃ u, u = y4.setCell ⟨gr, 2, none⟩ (.slice (some ⟨ng, 0, none⟩) (t + 1) ncap) := ⟨_, rfl⟩
              rw [← hWN]
              have hoth : ∀ q, q ≠ gr → WN.heap[q]? = y4.heap[q]? := fun q hq => by rw [hWN]; exact Below.heap_setCell _ _ _ _ hq
              have HFN : Hid (∃ D, D.length = y ∧ OtC W0 gr gcol gc (.slice p1 p2 p3) (.slice q1 q2 q3) ((outL cs y A NN).take (b * A + (f + 1))) D WN) := by
                have hO := HORD.out
                refine ⟨D2, HDL.out, ?_⟩
                rw [← Nat.add_assoc, HT_.out, HTK.out]
                refine ⟨by rw [hWN]; exact HGS9.out.set (by simp) _ _, ⟨_, _, _, ?_, HO2.out.of_blocks fun q hq => hoth q (by rcases HNG.out q hq with e | e <;> omega), HNG.out⟩, by rw [hoth gcol (by omega)]; exact HCO9.out⟩
                unfold BCell
                rw [hWN, heap_setCell_same _ gr 2 _ _ _ HK9.out]; rfl
              clear hWN hoth HO2 HNG HK9 HCO9 HGS9 cr9 f9 KEEP HK1 HK2 HK3 HGS HCOL HCV cr0 cr1 cr2 HTK HLT_
              have wf1 : ((ff : Int) + 1) = ((fr + (f + 1) : Nat) : Int) := by have := HFF.out; omega
              have WF1 : Hid (((ff : Int) + 1) = ((fr + (f + 1) : Nat) : Int)) := wf1
              clear wf1
              go_wp2
              go_roundg (A - (f + 1))
              case measure => omega
              case rel => exact ⟨f + 1, by rw [← WF1.out], by omega, Nat.le_refl _, HFN⟩
        · have hlt2z : ¬ ((fr + f : Nat) : Int) < (fr : Int) + (A : Int) := by omega
          have hfe : f = A := by omega
          subst hfe
          have HFN : Hid (∃ D, D.length = y ∧ OtC W0 gr gcol gc (.slice p1 p2 p3) (.slice q1 q2 q3) ((outL cs y f NN).take ((b + 1) * f)) D wr) := by rw [Nat.add_mul, Nat.one_mul]; exact HI
          have HF2 : Hid (fr + BL = (b + 1) * BL) := by show _ = _; rw [Nat.add_mul, Nat.one_mul, ← HFR.out]
          have wfb : IntKind.i64.wrap ((fr : Int) + (BL : Int)) = (fr : Int) + (BL : Int) := by rw [IntKind.wrap_i64]; omega
          clear HI
          go_wp2
          go_roundg (Q - (b + 1))
          case measure => omega
          case rel => exact ⟨b + 1, fr + BL, by go_num, HF2, by omega, Nat.le_refl _, HFN⟩
    · have hbe : b = Q := by omega
      subst hbe
      have hfm : fr = m := by have := HFR.out; have := HMQ.out; omega
      have hltz : ¬ (fr : Int) < (m : Int) := by omega
      obtain ⟨ca0, ca1, ca2⟩ := qa.cells
      obtain ⟨co2, cn2, cc2, k1, k2, k3⟩ := hI.rest
      obtain ⟨cr0, cr1, cr2⟩ := k1.cells
      obtain ⟨r0, r1, r2⟩ := qr.cells
      have f0 := qr.thaw 0
      have f1 := qr.thaw 1
      have f2 := qr.thaw 2
      obtain ⟨WF, hWF⟩ : ∃ u, u = ((wr.setCell ⟨g + 1, 0, none⟩ (.slice p1 p2 p3)).setCell ⟨g + 1, 1, none⟩ (.slice q1 q2 q3)).setCell ⟨g + 1, 2, none⟩ (.slice co2 cn2 cc2) := ⟨_, rfl⟩
      have hoth : ∀ q, q ≠ g + 1 → WF.heap[q]? = wr.heap[q]? := fun q hq => by rw [hWF, Below.heap_setCell _ _ _ _ hq, Below.heap_setCell _ _ _ _ hq, Below.heap_setCell _ _ _ _ hq]
      have HWF : Hid (BCell 34 WF (g + 1) (.slice p1 p2 p3) (.slice q1 q2 q3) (.slice co2 cn2 cc2)) := by show BCell _ _ _ _ _ _; rw [hWF]; exact qr.write _ _ _
      have HEQ : Hid (WF = ((wr.setCell ⟨g + 1, 0, none⟩ (.slice p1 p2 p3)).setCell ⟨g + 1, 1, none⟩ (.slice q1 q2 q3)).setCell ⟨g + 1, 2, none⟩ (.slice co2 cn2 cc2)) := hWF
      have HRES : Hid (OuE w xs zs cs k y A NN (.returned (.tuple #[.agg #[.slice p1 p2 p3, .slice q1 q2 q3, .slice co2 cn2 cc2], .int .i64 0])) WF) := by
        have hO := HORD.out
        have h40 := HB40.out
        refine ⟨_, _, _, rfl, ?_, ?_, ?_, ?_⟩
        · refine (HU1.out.1.of_blocks fun q hq => ?_).mono HB24.out
          obtain ⟨e1, e2, e3⟩ := HU1.out.2 q hq
          have e4 := (HU1.out.1.lt q hq).2
          rw [hoth q (by omega), hI.grs.block q (Nat.lt_of_lt_of_le e4 h40.size) (by simp; omega), h40.block q e4]
        · refine (HU2.out.1.of_blocks fun q hq => ?_).mono HB24.out
          obtain ⟨e1, e2, e3⟩ := HU2.out.2 q hq
          have e4 := (HU2.out.1.lt q hq).2
          rw [hoth q (by omega), hI.grs.block q (Nat.lt_of_lt_of_le e4 h40.size) (by simp; omega), h40.block q e4]
        · have hrg := (k2.of_blocks (w' := WF) fun q hq => hoth q (by rcases k3 q hq with e | e <;> omega)).rg
          rw [HNN.out, List.take_of_length_le (by simp [outL])] at hrg
          exact hrg
        · rw [hWF]
          exact ((bw.setCell (p := ⟨g + 1, 0, none⟩) (by show w.heap.size ≤ g + 1; omega) _).setCell (p := ⟨g + 1, 1, none⟩) (by show w.heap.size ≤ g + 1; omega) _).setCell (p := ⟨g + 1, 2, none⟩) (by show w.heap.size ≤ g + 1; omega) _
      have HRS2 : Hid (OuE w xs zs cs k y A (b * A) (.returned (.tuple #[.agg #[.slice p1 p2 p3, .slice q1 q2 q3, .slice co2 cn2 cc2], .int .i64 0])) WF) := by show OuE _ _ _ _ _ _ _ _ _ _; rw [HNN.out]; exact HRES.out
      clear HI hI hD0 bw qa qr k1 k2 k3 hWF hoth HRES
      go_wp2_with fail
      (try simp only [Exit.inBlock, Exit.then])
      rw [← HEQ.out]
      exact bodyPost_ret (results_ctB (p := 6) (u := 7) rfl _ _ (g + 1) 34 _ (0, 0) _ rfl HWF.out Try.underlying34 rfl (by kernel_rfl)) rfl HRS2.out
end Go.Proofs.Ytjlmignafhhjhaa

/-
  Proved here: package factor's Map with the law's closure, and with none.
-/
import Derived.Test.YtphbbkckigdgoaaFmF
import Derived.Test.YtphbbkckigdgoaaFacAI
namespace Go.Proofs.Ytphbbkckigdgoaa
set_option linter.unusedVariables false
open Go.RowKit Go.Shelf Go.Lib Go.Sort
set_option maxRecDepth 100000 in
set_option maxHeartbeats 1600000 in
theorem clone13 (v : Value) (zs : List Int) (w : World) (hv : RK .i64 w v zs) (hz : zs.length ≤ 17592186043904) :
    Calls Try.prog 18 #[v] w fun e w' => ∃ u, e = .returned u ∧ OwnK .i64 w.heap.size 3 w' u zs ∧ Below w.heap.size w w' := by
  have hv0 := hv
  obtain ⟨ao, cap, rfl, hc, hm, hnil, -, -⟩ := hv
  obtain ⟨i0, hi, hz0, hz1, hz2⟩ := info_parts Try.infoI
  unfold maxLen at hm
  rcases ao with _ | ad
  · have := hnil rfl
    subst this
    have hz : zs = [] := List.eq_nil_of_length_eq_zero (by omega)
    subst hz
    clear hv0 hnil
    have heq : ∀ w, (binOp .eql 22 (.slice none 0 0) (.slice none 0 0)).run Try.prog w = .ok (.bool true) w := fun _ => by kernel_rfl
    go_enter Try.func18, Try.ntmps18
    go_wp2
    go_ret
    exact ⟨_, rfl, OwnK.of_nil _ _ _ _, Below.refl _ _⟩
  · clear hnil
    obtain ⟨n, hn⟩ : ∃ n, zs.length = n := ⟨_, rfl⟩
    rw [hn] at hc hz hv0 ⊢
    have HN : Hid (zs.length = n) := hn
    clear hn
    have H0 : Hid (OwnK .i64 w.heap.size 3 (w.alloc (.cells #[] 3)) (.slice (some ⟨w.heap.size, 0, none⟩) 0 0) []) := OG.lit0 (enc := Value.int .i64) _ _
    have hR : RK .i64 (w.alloc (.cells #[] 3)) (.slice (some ad) n cap) zs := hv0.alloc _
    have hB3 : ∀ o, w.heap.size ≤ (w.alloc o).heap.size := fun o => by simp
    clear hv0
    have heq : ∀ w, (binOp .eql 22 (.slice (some ad) n cap) (.slice none 0 0)).run Try.prog w = .ok (.bool false) w := fun _ => by kernel_rfl
    go_enter Try.func18, Try.ntmps18
    go_wp2_with (at_builtin; refine wpList_appK _ rfl _ _ 22 rfl .i64 w.heap.size 3 i0 8 Try.underlying22 hi hz0 hz1 hz2 _ _ [] zs rfl H0.out rfl hR (by unfold maxLen; rw [HN.out]; simp; omega) (by rw [HN.out]; simp; omega) (hB3 _) ?_)
    intro v1 w1 ho1 hg1
    have HB : Hid (Below w.heap.size w w1) := H0.out.grown ((Below.refl _ _).alloc (Nat.le_refl _) _) (hB3 _) hg1
    have HO : Hid (OwnK .i64 w.heap.size 3 w1 v1 zs) := by have := ho1; simpa [Hid] using this
    clear ho1 hg1 hR
    go_wp2
    go_ret
    exact ⟨_, rfl, HO.out, HB.out⟩


theorem Try.infoTx : (Try.prog.info? 9).map (fun i => (i.zero, i.size, i.bytes)) = some (some (.string ⟨#[]⟩), 1, 16) := by kernel_rfl
theorem wp_madeX {P : Program} (w : World) {o : Oper} {a : Act} {K : Act → World → Prop} {Q : Exit → Act → World → Prop} (l c : Operand) (t : TypeId) (hop : o.op = Op.makeSlice t l c)
    (e : TypeId) (i : TypeInfo) (z : Value) (h1 : P.underlying t = some (.slice e)) (h2 : P.info? e = some i) (h3 : i.zero = some z) (h4 : i.size = 1) (hzc : z.cells = #[z])
    (kl kc : IntKind) (m : Nat) (hl : a.eval l = .int kl (m : Int)) (hc : a.eval c = .int kc (m : Int)) (b2 : i.bytes * m ≤ 281474976710656) (b3 : m ≤ 9223372036854775807)
    (hK : K (a.put o.dst (.slice (some ⟨w.heap.size, 0, none⟩) m m)) (w.alloc (.cells (Array.replicate m z) e))) : o.wp P a w K Q := by
  have hb' : (i.bytes : Int) * (m : Int) ≤ 281474976710656 := by
    have h : ((i.bytes * m : Nat) : Int) ≤ 281474976710656 := by omega
    rwa [Int.natCast_mul] at h
  have hrun := run_make (P := P) w t e i z h1 h2 h3 kl kc m m (by omega) (Int.le_refl _) hb' (by omega)
  simp only [Int.toNat_natCast, h4, Nat.mul_one, hzc] at hrun
  rw [made_row] at hrun
  unfold Oper.wp
  simp [execOp, hop, hl, hc, hrun, Result.andThen]
  exact hK
theorem OG.ne {α : Type} {enc : α → Value} {B e T : Nat} {w : World} {v : Value} {L : List α} {g : Nat} {cs : Array Value} {fr : Nat × Nat} (h : OG enc B e w v L) (hg : w.heap[g]? = some (.cells cs T fr)) (hne : e ≠ T) : v.ownBlock ≠ some g := by
  intro hv
  rcases h.2 with ⟨rfl, h0⟩ | ⟨g', cap, cur, rfl, h3, h4, h5⟩
  · simp [Value.ownBlock] at hv
  · have e1 : g' = g := by simpa [Value.ownBlock] using hv
    subst e1
    rw [h4] at hg
    simp only [Option.some.injEq, Obj.cells.injEq] at hg
    exact hne hg.2.1
/-- What Map has made ahead of its rounds. -/
structure MpC (W wx : World) (gm gt : Nat) (c1 c2 : Value) (xs zs : List Int) (m : Nat) : Prop where
  bel : Below W.heap.size W wx
  box : BCell 33 wx gm c1 c2 (.slice (some ⟨gt, 0, none⟩) m m)
  r1 : OG (Value.int .i64) W.heap.size 3 wx c1 xs
  r2 : OG (Value.int .i64) W.heap.size 3 wx c2 zs
  row : wx.heap[gt]? = some (.cells (Array.replicate m (.string ⟨#[]⟩)) 9 (0, 0))
  lgm : W.heap.size ≤ gm
  lgt : W.heap.size ≤ gt
  d12 : ∀ q, c1.ownBlock = some q → c2.ownBlock ≠ some q
def RowX (w : World) (gt m : Nat) : Prop := w.heap[gt]? = some (.cells (Array.replicate m (.string ⟨#[]⟩)) 9 (0, 0))
theorem RowX.below {w w' : World} {gt m : Nat} (h : RowX w gt m) (b : Below w.heap.size w w') : RowX w' gt m := (b.block gt (Array.getElem?_eq_some_iff.1 h).1).trans h
theorem cell_blk {w w' : World} {q o : Nat} (h : w'.heap[q]? = w.heap[q]?) : w'.cell? ⟨q, o, none⟩ = w.cell? ⟨q, o, none⟩ := by simp [World.cell?, h]
theorem cell_lt {w : World} {q o : Nat} {v : Value} (h : w.cell? ⟨q, o, none⟩ = some v) : q < w.heap.size := by
  rcases Nat.lt_or_ge q w.heap.size with h1 | h1
  · exact h1
  · simp [World.cell?, Array.getElem?_eq_none h1] at h
theorem mpC_of {W3 cw WF : World} {gm gt m : Nat} {v1 v2 : Value} {xs zs : List Int} (B : Below W3.heap.size W3 cw) (hM : BCell 33 cw gm (.slice none 0 0) (.slice none 0 0) (.slice none 0 0)) (hU1 : OG (Value.int .i64) W3.heap.size 3 cw v1 xs) (hU2 : OG (Value.int .i64) W3.heap.size 3 cw v2 zs) (hT : RowX cw gt m) (lM : W3.heap.size ≤ gm) (lT : W3.heap.size ≤ gt) (d12 : ∀ q, v1.ownBlock = some q → v2.ownBlock ≠ some q)
    (hWF : WF = ((cw.setCell ⟨gm, 0, none⟩ v1).setCell ⟨gm, 1, none⟩ v2).setCell ⟨gm, 2, none⟩ (.slice (some ⟨gt, 0, none⟩) m m)) : MpC W3 WF gm gt v1 v2 xs zs m := by
  have hoth : ∀ q, q ≠ gm → WF.heap[q]? = cw.heap[q]? := fun q hq => by rw [hWF, Below.heap_setCell _ _ _ _ hq, Below.heap_setCell _ _ _ _ hq, Below.heap_setCell _ _ _ _ hq]
  refine ⟨?_, ?_, hU1.of_blocks fun q hq => hoth q (fun e => hU1.ne hM (by decide) (e ▸ hq)), hU2.of_blocks fun q hq => hoth q (fun e => hU2.ne hM (by decide) (e ▸ hq)), (hoth gt ?_).trans hT, lM, lT, d12⟩
  · rw [hWF]
    exact ((B.setCell (p := ⟨gm, 0, none⟩) lM _).setCell (p := ⟨gm, 1, none⟩) lM _).setCell (p := ⟨gm, 2, none⟩) lM _
  · rw [hWF]; exact hM.write _ _ _
  · rintro rfl
    unfold RowX at hT
    rw [hM] at hT
    simp at hT
/-- The texts that are told up to a place. -/
def rowT (m i : Nat) : List ByteArray := (List.range m).map fun j => if j < i then dgT (j + 1) else ⟨#[]⟩
def dgL (m : Nat) : List ByteArray := (List.range m).map fun j => dgT (j + 1)
theorem rowT_len (m i : Nat) : (rowT m i).length = m := by simp [rowT]
theorem rowT_zero (m : Nat) : (rowT m 0).map Value.string = (Array.replicate m (Value.string ⟨#[]⟩)).toList := by
  apply List.ext_getElem
  · simp [rowT]
  · intro i h1 h2; simp [rowT]
theorem rowT_full (m : Nat) : rowT m m = dgL m := by
  unfold rowT dgL
  apply List.map_congr_left
  intro j hj
  rw [if_pos (List.mem_range.1 hj)]
theorem rowT_set (m i : Nat) (h : i < m) : (rowT m i).set i (dgT (i + 1)) = rowT m (i + 1) := by
  apply List.ext_getElem
  · simp [rowT]
  · intro j h1 h2
    rw [List.getElem_set]
    split
    · rename_i e; subst e; simp [rowT]
    · rename_i hne
      simp only [rowT, List.getElem_map, List.getElem_range]
      by_cases hj : j < i
      · rw [if_pos hj, if_pos (by omega)]
      · rw [if_neg hj, if_neg (by omega)]
/-- What Map leaves. -/
def MpE (w : World) (sb : Nat) (xs zs cs : List Int) (e : Ending) (w' : World) : Prop :=
  ∃ c1 c2 gt sv, e = .returned (.tuple #[.agg #[c1, c2, .slice (some ⟨gt, 0, none⟩) cs.length cs.length], .int .i64 0]) ∧ OG (Value.int .i64) w.heap.size 3 w' c1 xs ∧ OG (Value.int .i64) w.heap.size 3 w' c2 zs ∧ w'.heap[gt]? = some (.cells ((dgL cs.length).map Value.string).toArray 9 (0, 0)) ∧ w.heap.size ≤ gt ∧
    (∀ q, c1.ownBlock = some q → c2.ownBlock ≠ some q) ∧ w'.heap[sb]? = some (.cells #[sv] 22 (0, 0)) ∧ OG (Value.int .i64) w.heap.size 3 w' sv cs ∧ GrS w w' [sb]
set_option maxRecDepth 100000 in
set_option maxHeartbeats 12800000 in
theorem mapS (s z c : Value) (xs zs cs : List Int) (sb : Nat) (w : World) (hs : RK .i64 w s xs) (hz : RK .i64 w z zs) (hc : RG (Value.int .i64) w c cs) (ht : Tab xs zs cs.length) (bx : xs.length ≤ 17592186043904) (hsb : w.heap[sb]? = some (.cells #[.slice none 0 0] 22 (0, 0))) :
    Calls Try.prog 7 #[.agg #[s, z, c], .func (.func 8) #[] #[.pointer (some ⟨sb, 0, none⟩)]] w (MpE w sb xs zs cs) := by
  obtain ⟨sO, sN, sC, rfl⟩ : ∃ o n k, s = .slice o n k := by obtain ⟨ao, cap, e⟩ := hs.rg.sl; exact ⟨_, _, _, e⟩
  obtain ⟨zO, zN, zC, rfl⟩ : ∃ o n k, z = .slice o n k := by obtain ⟨ao, cap, e⟩ := hz.rg.sl; exact ⟨_, _, _, e⟩
  obtain ⟨i1, hi1, hs0, hs1, hs2⟩ := info_parts Try.infoTx
  have hone := ht.ones
  have hm31 : cs.length ≤ 2147483647 := by have h1 := ht.cells; have h2 := ht.many; omega
  have hlz : zs.length = xs.length := ht.len
  have hc0 := hc
  obtain ⟨cO, cC, rfl, hcc, hcm, -, hcell⟩ := hc
  unfold maxLen at hcm
  obtain ⟨m, hm⟩ : ∃ m, m = cs.length := ⟨_, rfl⟩
  rw [← hm] at hcc hm31 hc0 ht ⊢
  have HM : Hid (cs.length = m) := hm.symm
  obtain ⟨W1, hW1⟩ : ∃ W1, W1 = (w.alloc (.cells #[.slice sO sN sC, .slice zO zN zC, .slice cO m cC] 24)).alloc (.cells #[.slice none 0 0, .slice none 0 0, .slice none 0 0] 33) := ⟨_, rfl⟩
  obtain ⟨g, hg⟩ : ∃ g, g = w.heap.size := ⟨_, rfl⟩
  have qa : BCell 24 W1 g (.slice sO sN sC) (.slice zO zN zC) (.slice cO m cC) := by rw [hW1]; exact (BCell.new w hg.symm).step _
  have qr : BCell 33 W1 (g + 1) (.slice none 0 0) (.slice none 0 0) (.slice none 0 0) := by rw [hW1]; exact BCell.new _ (by simp [hg])
  have b0 : Below w.heap.size w W1 := by rw [hW1]; exact bstepB (belowB w _) (belowB _ _)
  have lsb : sb < w.heap.size := (Array.getElem?_eq_some_iff.1 hsb).1
  have CK := checkI (.slice sO sN sC) (.slice zO zN zC) xs zs cO m cC W1 (hs.below (Nat.le_refl _) b0) (hz.below (Nat.le_refl _) b0) (by omega)
  rw [chk_ok ht] at CK
  have HCK : Hid _ := CK
  have HCL : Hid (∀ i x, cs[i]? = some x → ∃ q o, cO = some ⟨q, o, none⟩ ∧ w.cell? ⟨q, o + i, none⟩ = some (.int .i64 x) ∧ q < w.heap.size ∧ q ≠ sb) := fun i x hx => by
    obtain ⟨q, o, e1, e2⟩ := hcell i x hx
    refine ⟨q, o, e1, e2, ?_, ?_⟩
    · exact cell_lt e2
    · rintro rfl
      rw [cell_of_row w q _ _ _ _ hsb] at e2
      cases hh : (o + i) with
      | zero => rw [hh] at e2; simp at e2
      | succ k => rw [hh] at e2; simp at e2
  have HS : Hid (RK .i64 w (.slice sO sN sC) xs) := hs
  have HZ : Hid (RK .i64 w (.slice zO zN zC) zs) := hz
  have HSB : Hid (w.heap[sb]? = some (.cells #[.slice none 0 0] 22 (0, 0)) ∧ sb < w.heap.size) := ⟨hsb, lsb⟩
  have HX : Hid (xs.length ≤ 17592186043904 ∧ zs.length ≤ 17592186043904) := ⟨bx, by omega⟩
  have HQA : Hid (BCell 24 W1 g (.slice sO sN sC) (.slice zO zN zC) (.slice cO m cC)) := qa
  have HQR : Hid (BCell 33 W1 (g + 1) (.slice none 0 0) (.slice none 0 0) (.slice none 0 0)) := qr
  have HB0 : Hid (Below w.heap.size w W1) := b0
  have HG : Hid (g = w.heap.size) := hg
  have HW1 : Hid (W1 = (w.alloc (.cells #[.slice sO sN sC, .slice zO zN zC, .slice cO m cC] 24)).alloc (.cells #[.slice none 0 0, .slice none 0 0, .slice none 0 0] 33)) := hW1
  clear hs hz ht bx hsb hone hlz hc0 hcell hm hW1 hg qa qr b0 lsb CK
  have hfn : ∀ w, (binOp .eql 36 (.func (.func 8) #[] #[.pointer (some ⟨sb, 0, none⟩)]) .nilFunc).run Try.prog w = .ok (.bool false) w := fun _ => by kernel_rfl
  go_enter Try.func7, Try.ntmps7
  go_upto_region 1 with fail
  rw [← HW1.out, ← HG.out]
  clear HW1
  obtain ⟨ca0, ca1, ca2⟩ := HQA.out.cells
  go_wp2_with fail
  clear hfn
  refine Calls.mono HCK.out ?_
  rintro e W3 ⟨rfl, b3⟩
  clear HCK ca0 ca1 ca2
  have HB3 : Hid (Below W1.heap.size W1 W3) := b3
  have HBW : Hid (Below w.heap.size w W3) := bstepB HB0.out b3
  have HQ3 : Hid (BCell 24 W3 g (.slice sO sN sC) (.slice zO zN zC) (.slice cO m cC)) := HQA.out.below b3
  have HR3 : Hid (BCell 33 W3 (g + 1) (.slice none 0 0) (.slice none 0 0) (.slice none 0 0)) := HQR.out.below b3
  clear b3 HQA HQR
  go_upto_region 6 with fail
  obtain ⟨ca0, ca1, ca2⟩ := HQ3.out.cells
  have r1 := HS.out.below (Nat.le_refl _) HBW.out
  have r2 := HZ.out.below (Nat.le_refl _) HBW.out
  have HRR : Hid (RK .i64 W3 (.slice sO sN sC) xs ∧ RK .i64 W3 (.slice zO zN zC) zs) := ⟨r1, r2⟩
  clear r1 r2
  go_cut [7] from 19 to 29 (fun v7 wx => ∃ gm gt o1 n1 k1 o2 n2 k2, v7 = .pointer (some ⟨gm, 0, none⟩) ∧ Hid (MpC W3 wx gm gt (.slice o1 n1 k1) (.slice o2 n2 k2) xs zs m))
  case first =>
    have KEEP : ∀ u, Below W3.heap.size W3 u → L4.AllL u [(1, fun w' => w'.cell? ⟨g, 0, none⟩ = some (.slice sO sN sC)), (4, fun w' => w'.cell? ⟨g, 1, none⟩ = some (.slice zO zN zC)), (7, fun w' => w'.cell? ⟨g, 2, none⟩ = some (.slice cO m cC))] := fun u hu => ⟨keepR hu ca0, keepR hu ca1, keepR hu ca2, trivial⟩
    refine L4.region_late [(1, fun w' => w'.cell? ⟨g, 0, none⟩ = some (.slice sO sN sC)), (4, fun w' => w'.cell? ⟨g, 1, none⟩ = some (.slice zO zN zC)), (7, fun w' => w'.cell? ⟨g, 2, none⟩ = some (.slice cO m cC))] (by kernel_rfl) ?_
    have B : Below W3.heap.size W3 W3.drew := (Below.refl _ _).drew
    obtain ⟨w1, hw1⟩ : ∃ u, u = W3.drew := ⟨_, rfl⟩
    rw [← hw1] at B ⊢
    clear hw1
    have hHeld := KEEP _ B
    refine L4.late_free 0 (v := .pointer (some ⟨g, 0, none⟩)) rfl (by kernel_rfl) (by kernel_rfl) (by kernel_rfl) (by kernel_rfl) (by kernel_rfl) (by kernel_rfl) (fun _ _ _ h => h) (Or.inl ⟨by rfl, ?_⟩) hHeld ?_
    · (intro u _; go_simp)
    (try simp only [Act.put, List.setIfInBounds_toArray, List.set_cons_zero, List.set_cons_succ])
    refine L4.late_take 1 (v := .slice sO sN sC) rfl (by kernel_rfl) (List.Mem.head _) (by kernel_rfl) (by kernel_rfl) (by kernel_rfl) (by kernel_rfl) (fun _ _ _ h => h) (Or.inl ⟨by rfl, ?_⟩) hHeld ?_
    · (intro u hu; (try dsimp only at hu); go_split_ands; go_simp)
    (try simp only [Act.put, List.setIfInBounds_toArray, List.set_cons_zero, List.set_cons_succ])
    refine L4.late_free 3 (v := .pointer (some ⟨g, 1, none⟩)) rfl (by kernel_rfl) (by kernel_rfl) (by kernel_rfl) (by kernel_rfl) (by kernel_rfl) (by kernel_rfl) (fun _ _ _ h => h) (Or.inl ⟨by rfl, ?_⟩) hHeld ?_
    · (intro u _; go_simp)
    (try simp only [Act.put, List.setIfInBounds_toArray, List.set_cons_zero, List.set_cons_succ])
    refine L4.late_take 4 (v := .slice zO zN zC) rfl (by kernel_rfl) (List.Mem.tail _ (List.Mem.head _)) (by kernel_rfl) (by kernel_rfl) (by kernel_rfl) (by kernel_rfl) (fun _ _ _ h => h) (Or.inl ⟨by rfl, ?_⟩) hHeld ?_
    · (intro u hu; (try dsimp only at hu); go_split_ands; go_simp)
    (try simp only [Act.put, List.setIfInBounds_toArray, List.set_cons_zero, List.set_cons_succ])
    refine L4.late_free 6 (v := .pointer (some ⟨g, 2, none⟩)) rfl (by kernel_rfl) (by kernel_rfl) (by kernel_rfl) (by kernel_rfl) (by kernel_rfl) (by kernel_rfl) (fun _ _ _ h => h) (Or.inl ⟨by rfl, ?_⟩) hHeld ?_
    · (intro u _; go_simp)
    (try simp only [Act.put, List.setIfInBounds_toArray, List.set_cons_zero, List.set_cons_succ])
    refine L4.late_take 7 (v := .slice cO m cC) rfl (by kernel_rfl) (List.Mem.tail _ (List.Mem.tail _ (List.Mem.head _))) (by kernel_rfl) (by kernel_rfl) (by kernel_rfl) (by kernel_rfl) (fun _ _ _ h => h) (Or.inl ⟨by rfl, ?_⟩) hHeld ?_
    · (intro u hu; (try dsimp only at hu); go_split_ands; go_simp)
    (try simp only [Act.put, List.setIfInBounds_toArray, List.set_cons_zero, List.set_cons_succ])
    refine L4.late_free 8 (v := .int .i64 ((m : Nat) : Int)) rfl (by kernel_rfl) (by kernel_rfl) (by kernel_rfl) (by kernel_rfl) (by kernel_rfl) (by kernel_rfl) (fun _ _ _ h => h) (Or.inl ⟨by rfl, ?_⟩) hHeld ?_
    · (intro u _; go_simp)
    (try simp only [Act.put, List.setIfInBounds_toArray, List.set_cons_zero, List.set_cons_succ])
    refine L4.late_three 2 9 11 (by kernel_rfl) rfl rfl rfl (fun K hK => ?_) (fun K hK => ?_) (fun K hK => ?_)
    · go_simp
      refine (clone13 _ xs _ (HRR.out.1.below (Nat.le_refl _) B) HX.out.1).mono ?_
      rintro e y2 ⟨u1, rfl, hV1, c2⟩
      have m1 : ∀ q, u1.ownBlock = some q → w1.heap.size ≤ q ∧ q < y2.heap.size := fun q hq => OG.lt hV1 q hq
      have hU1 : OG (Value.int .i64) W3.heap.size 3 y2 u1 xs := OG.mono (enc := Value.int .i64) hV1 B.size
      obtain ⟨u1o, u1n, u1c, hu1⟩ : ∃ o n c, u1 = .slice o n c := by obtain ⟨ao, cap, e, -⟩ := hU1.sl; exact ⟨_, _, _, e⟩
      subst hu1
      clear hV1 m1
      have B := B.trans (c2.mono B.size)
      clear c2 hHeld
      have hHeld := KEEP _ B
      go_wp2_with fail
      refine hK.out _ _ (L4.AllL.kept hHeld) ?_
      clear hK K
      (try simp only [Act.put, List.setIfInBounds_toArray, List.set_cons_zero, List.set_cons_succ])
      refine L4.late_three 5 9 11 (by kernel_rfl) rfl rfl rfl (fun K hK => ?_) (fun K hK => ?_) (fun K hK => ?_)
      · go_simp
        refine (clone13 _ zs _ (HRR.out.2.below (Nat.le_refl _) B) HX.out.2).mono ?_
        rintro e y3 ⟨u2, rfl, hV2, c3⟩
        have m2 : ∀ q, u2.ownBlock = some q → y2.heap.size ≤ q ∧ q < y3.heap.size := fun q hq => OG.lt hV2 q hq
        have hU2 : OG (Value.int .i64) W3.heap.size 3 y3 u2 zs := OG.mono (enc := Value.int .i64) hV2 B.size
        have d12 : ∀ q, (Value.slice u1o u1n u1c).ownBlock = some q → u2.ownBlock ≠ some q := fun q h1 h2 => by have := (hU1.lt q h1).2; have := (m2 q h2).1; omega
        obtain ⟨u2o, u2n, u2c, hu2⟩ : ∃ o n c, u2 = .slice o n c := by obtain ⟨ao, cap, e, -⟩ := hU2.sl; exact ⟨_, _, _, e⟩
        subst hu2
        clear hV2 m2
        have B := B.trans (c3.mono B.size)
        replace hU1 := hU1.below c3
        clear c3 hHeld
        have hHeld := KEEP _ B
        go_wp2_with fail
        refine hK.out _ _ (L4.AllL.kept hHeld) ?_
        clear hK K
        (try simp only [Act.put, List.setIfInBounds_toArray, List.set_cons_zero, List.set_cons_succ])
        refine L4.late_two 9 11 (by kernel_rfl) rfl rfl (fun K hK => ?_) (fun K hK => ?_)
        · refine want_yes rfl ?_
          refine wp_madeX _ _ _ 31 rfl 9 i1 (.string ⟨#[]⟩) Try.underlying31 hi1 hs0 hs1 rfl _ _ m rfl rfl (by rw [hs2]; omega) (by omega) ?_
          obtain ⟨y4, hy4⟩ : ∃ u, u = y3.alloc (.cells (Array.replicate m (.string ⟨#[]⟩)) 9) := ⟨_, rfl⟩
          obtain ⟨gt, hgt⟩ : ∃ u, u = y3.heap.size := ⟨_, rfl⟩
          rw [← hy4, ← hgt]
          have c4 : Below y3.heap.size y3 y4 := by rw [hy4]; exact belowB _ _
          have hT : RowX y4 gt m := by unfold RowX; rw [hy4, hgt]; exact heap_alloc_new _ _
          have lT : W3.heap.size ≤ gt := by have := B.size; omega
          clear hy4 hgt
          have B := B.trans (c4.mono B.size)
          replace hU1 := hU1.below c4
          replace hU2 := hU2.below c4
          clear c4 hHeld
          have hHeld := KEEP _ B
          refine hK.out _ _ (L4.AllL.kept hHeld) ?_
          clear hK K
          (try simp only [Act.put, List.setIfInBounds_toArray, List.set_cons_zero, List.set_cons_succ])
          refine L4.late_free 10 (v := .agg #[.slice u1o u1n u1c, .slice u2o u2n u2c, .slice (some ⟨gt, 0, none⟩) m m]) rfl (by kernel_rfl) (by kernel_rfl) (by kernel_rfl) (by kernel_rfl) (by kernel_rfl) (by kernel_rfl) (fun _ _ _ h => h) (Or.inl ⟨by rfl, ?_⟩) hHeld ?_
          · (intro u _; go_simp)
          (try simp only [Act.put, List.setIfInBounds_toArray, List.set_cons_zero, List.set_cons_succ])
          refine L4.late_step 11 (by kernel_rfl) rfl (fun K hK => ?_)
          go_simp
          obtain ⟨y5, hy5⟩ : ∃ u, u = y4.alloc (.cells #[.slice none 0 0, .slice none 0 0, .slice none 0 0] 33) := ⟨_, rfl⟩
          obtain ⟨gm, hgm⟩ : ∃ u, u = y4.heap.size := ⟨_, rfl⟩
          rw [← hy5, ← hgm]
          have c5 : Below y4.heap.size y4 y5 := by rw [hy5]; exact belowB _ _
          have hM : BCell 33 y5 gm (.slice none 0 0) (.slice none 0 0) (.slice none 0 0) := by rw [hy5]; exact BCell.new _ hgm.symm
          have lM : W3.heap.size ≤ gm := by have := B.size; omega
          clear hy5 hgm
          have B := B.trans (c5.mono B.size)
          replace hU1 := hU1.below c5
          replace hU2 := hU2.below c5
          replace hT := hT.below c5
          clear c5 hHeld
          have hHeld := KEEP _ B
          refine hK.out _ _ (L4.AllL.kept hHeld) ?_
          clear hK K
          (try simp only [Act.put, List.setIfInBounds_toArray, List.set_cons_zero, List.set_cons_succ])
          refine L4.late_step 12 (by kernel_rfl) rfl (fun K hK => ?_)
          obtain ⟨k0, k1, k2⟩ := hM.cells
          have f0 := hM.thaw 0
          have f1 := hM.thaw 1
          have f2 := hM.thaw 2
          go_simp
          refine hK.out _ _ ⟨Or.inl ⟨12, by kernel_rfl, by kernel_rfl⟩, Or.inl ⟨12, by kernel_rfl, by kernel_rfl⟩, Or.inl ⟨12, by kernel_rfl, by kernel_rfl⟩, trivial⟩ ?_
          clear hK K
          (try simp only [Act.put, List.setIfInBounds_toArray, List.set_cons_zero, List.set_cons_succ])
          refine L4.late_done (by kernel_rfl) ?_ _
          obtain ⟨WF, hWF⟩ : ∃ u, u = ((y5.setCell ⟨gm, 0, none⟩ (.slice u1o u1n u1c)).setCell ⟨gm, 1, none⟩ (.slice u2o u2n u2c)).setCell ⟨gm, 2, none⟩ (.slice (some ⟨gt, 0, none⟩) m m) := ⟨_, rfl⟩
          have HRES : Hid (MpC W3 WF gm gt (.slice u1o u1n u1c) (.slice u2o u2n u2c) xs zs m) := mpC_of B hM hU1 hU2 hT lM lT d12 hWF
          rw [← hWF]
          clear hWF k0 k1 k2 f0 f1 f2 hM hU1 hU2 hT lM lT d12 B KEEP
          (try go_wp2_with fail)
          go_meet
          exact ⟨gm, gt, _, _, _, _, _, _, rfl, HRES⟩
        · go_simp
          obtain ⟨y6, hy6⟩ : ∃ u, u = y3.alloc (.cells #[.slice none 0 0, .slice none 0 0, .slice none 0 0] 33) := ⟨_, rfl⟩
          obtain ⟨gm, hgm⟩ : ∃ u, u = y3.heap.size := ⟨_, rfl⟩
          rw [← hy6, ← hgm]
          have c6 : Below y3.heap.size y3 y6 := by rw [hy6]; exact belowB _ _
          have hM : BCell 33 y6 gm (.slice none 0 0) (.slice none 0 0) (.slice none 0 0) := by rw [hy6]; exact BCell.new _ hgm.symm
          have lM : W3.heap.size ≤ gm := by have := B.size; omega
          clear hy6 hgm
          have B := B.trans (c6.mono B.size)
          replace hU1 := hU1.below c6
          replace hU2 := hU2.below c6
          clear c6 hHeld
          have hHeld := KEEP _ B
          refine hK.out _ _ (L4.AllL.kept hHeld) ?_
          clear hK K
          (try simp only [Act.put, List.setIfInBounds_toArray, List.set_cons_zero, List.set_cons_succ])
          refine L4.late_step 9 (by kernel_rfl) rfl (fun K hK => ?_)
          refine want_yes rfl ?_
          refine wp_madeX _ _ _ 31 rfl 9 i1 (.string ⟨#[]⟩) Try.underlying31 hi1 hs0 hs1 rfl _ _ m rfl rfl (by rw [hs2]; omega) (by omega) ?_
          obtain ⟨y7, hy7⟩ : ∃ u, u = y6.alloc (.cells (Array.replicate m (.string ⟨#[]⟩)) 9) := ⟨_, rfl⟩
          obtain ⟨gt, hgt⟩ : ∃ u, u = y6.heap.size := ⟨_, rfl⟩
          rw [← hy7, ← hgt]
          have c7 : Below y6.heap.size y6 y7 := by rw [hy7]; exact belowB _ _
          have hT : RowX y7 gt m := by unfold RowX; rw [hy7, hgt]; exact heap_alloc_new _ _
          have lT : W3.heap.size ≤ gt := by have := B.size; omega
          clear hy7 hgt
          have B := B.trans (c7.mono B.size)
          replace hU1 := hU1.below c7
          replace hU2 := hU2.below c7
          replace hM := hM.below c7
          clear c7 hHeld
          have hHeld := KEEP _ B
          refine hK.out _ _ (L4.AllL.kept hHeld) ?_
          clear hK K
          (try simp only [Act.put, List.setIfInBounds_toArray, List.set_cons_zero, List.set_cons_succ])
          refine L4.late_free 10 (v := .agg #[.slice u1o u1n u1c, .slice u2o u2n u2c, .slice (some ⟨gt, 0, none⟩) m m]) rfl (by kernel_rfl) (by kernel_rfl) (by kernel_rfl) (by kernel_rfl) (by kernel_rfl) (by kernel_rfl) (fun _ _ _ h => h) (Or.inl ⟨by rfl, ?_⟩) hHeld ?_
          · (intro u _; go_simp)
          (try simp only [Act.put, List.setIfInBounds_toArray, List.set_cons_zero, List.set_cons_succ])
          refine L4.late_step 12 (by kernel_rfl) rfl (fun K hK => ?_)
          obtain ⟨k0, k1, k2⟩ := hM.cells
          have f0 := hM.thaw 0
          have f1 := hM.thaw 1
          have f2 := hM.thaw 2
          go_simp
          refine hK.out _ _ ⟨Or.inl ⟨12, by kernel_rfl, by kernel_rfl⟩, Or.inl ⟨12, by kernel_rfl, by kernel_rfl⟩, Or.inl ⟨12, by kernel_rfl, by kernel_rfl⟩, trivial⟩ ?_
          clear hK K
          (try simp only [Act.put, List.setIfInBounds_toArray, List.set_cons_zero, List.set_cons_succ])
          refine L4.late_done (by kernel_rfl) ?_ _
          obtain ⟨WF, hWF⟩ : ∃ u, u = ((y7.setCell ⟨gm, 0, none⟩ (.slice u1o u1n u1c)).setCell ⟨gm, 1, none⟩ (.slice u2o u2n u2c)).setCell ⟨gm, 2, none⟩ (.slice (some ⟨gt, 0, none⟩) m m) := ⟨_, rfl⟩
          have HRES : Hid (MpC W3 WF gm gt (.slice u1o u1n u1c) (.slice u2o u2n u2c) xs zs m) := mpC_of B hM hU1 hU2 hT lM lT d12 hWF
          rw [← hWF]
          clear hWF k0 k1 k2 f0 f1 f2 hM hU1 hU2 hT lM lT d12 B KEEP
          (try go_wp2_with fail)
          go_meet
          exact ⟨gm, gt, _, _, _, _, _, _, rfl, HRES⟩
      · refine want_yes rfl ?_
        refine wp_madeX _ _ _ 31 rfl 9 i1 (.string ⟨#[]⟩) Try.underlying31 hi1 hs0 hs1 rfl _ _ m rfl rfl (by rw [hs2]; omega) (by omega) ?_
        obtain ⟨y8, hy8⟩ : ∃ u, u = y2.alloc (.cells (Array.replicate m (.string ⟨#[]⟩)) 9) := ⟨_, rfl⟩
        obtain ⟨gt, hgt⟩ : ∃ u, u = y2.heap.size := ⟨_, rfl⟩
        rw [← hy8, ← hgt]
        have c8 : Below y2.heap.size y2 y8 := by rw [hy8]; exact belowB _ _
        have hT : RowX y8 gt m := by unfold RowX; rw [hy8, hgt]; exact heap_alloc_new _ _
        have lT : W3.heap.size ≤ gt := by have := B.size; omega
        clear hy8 hgt
        have B := B.trans (c8.mono B.size)
        replace hU1 := hU1.below c8
        clear c8 hHeld
        have hHeld := KEEP _ B
        refine hK.out _ _ (L4.AllL.kept hHeld) ?_
        clear hK K
        (try simp only [Act.put, List.setIfInBounds_toArray, List.set_cons_zero, List.set_cons_succ])
        refine L4.late_two 5 11 (by kernel_rfl) rfl rfl (fun K hK => ?_) (fun K hK => ?_)
        · go_simp
          refine (clone13 _ zs _ (HRR.out.2.below (Nat.le_refl _) B) HX.out.2).mono ?_
          rintro e y9 ⟨u2, rfl, hV2, c9⟩
          have m2 : ∀ q, u2.ownBlock = some q → y8.heap.size ≤ q ∧ q < y9.heap.size := fun q hq => OG.lt hV2 q hq
          have hU2 : OG (Value.int .i64) W3.heap.size 3 y9 u2 zs := OG.mono (enc := Value.int .i64) hV2 B.size
          have d12 : ∀ q, (Value.slice u1o u1n u1c).ownBlock = some q → u2.ownBlock ≠ some q := fun q h1 h2 => by have := (hU1.lt q h1).2; have := (m2 q h2).1; omega
          obtain ⟨u2o, u2n, u2c, hu2⟩ : ∃ o n c, u2 = .slice o n c := by obtain ⟨ao, cap, e, -⟩ := hU2.sl; exact ⟨_, _, _, e⟩
          subst hu2
          clear hV2 m2
          have B := B.trans (c9.mono B.size)
          replace hU1 := hU1.below c9
          replace hT := hT.below c9
          clear c9 hHeld
          have hHeld := KEEP _ B
          go_wp2_with fail
          refine hK.out _ _ (L4.AllL.kept hHeld) ?_
          clear hK K
          (try simp only [Act.put, List.setIfInBounds_toArray, List.set_cons_zero, List.set_cons_succ])
          refine L4.late_free 10 (v := .agg #[.slice u1o u1n u1c, .slice u2o u2n u2c, .slice (some ⟨gt, 0, none⟩) m m]) rfl (by kernel_rfl) (by kernel_rfl) (by kernel_rfl) (by kernel_rfl) (by kernel_rfl) (by kernel_rfl) (fun _ _ _ h => h) (Or.inl ⟨by rfl, ?_⟩) hHeld ?_
          · (intro u _; go_simp)
          (try simp only [Act.put, List.setIfInBounds_toArray, List.set_cons_zero, List.set_cons_succ])
          refine L4.late_step 11 (by kernel_rfl) rfl (fun K hK => ?_)
          go_simp
          obtain ⟨y10, hy10⟩ : ∃ u, u = y9.alloc (.cells #[.slice none 0 0, .slice none 0 0, .slice none 0 0] 33) := ⟨_, rfl⟩
          obtain ⟨gm, hgm⟩ : ∃ u, u = y9.heap.size := ⟨_, rfl⟩
          rw [← hy10, ← hgm]
          have c10 : Below y9.heap.size y9 y10 := by rw [hy10]; exact belowB _ _
          have hM : BCell 33 y10 gm (.slice none 0 0) (.slice none 0 0) (.slice none 0 0) := by rw [hy10]; exact BCell.new _ hgm.symm
          have lM : W3.heap.size ≤ gm := by have := B.size; omega
          clear hy10 hgm
          have B := B.trans (c10.mono B.size)
          replace hU1 := hU1.below c10
          replace hT := hT.below c10
          replace hU2 := hU2.below c10
          clear c10 hHeld
          have hHeld := KEEP _ B
          refine hK.out _ _ (L4.AllL.kept hHeld) ?_
          clear hK K
          (try simp only [Act.put, List.setIfInBounds_toArray, List.set_cons_zero, List.set_cons_succ])
          refine L4.late_step 12 (by kernel_rfl) rfl (fun K hK => ?_)
          obtain ⟨k0, k1, k2⟩ := hM.cells
          have f0 := hM.thaw 0
          have f1 := hM.thaw 1
          have f2 := hM.thaw 2
          go_simp
          refine hK.out _ _ ⟨Or.inl ⟨12, by kernel_rfl, by kernel_rfl⟩, Or.inl ⟨12, by kernel_rfl, by kernel_rfl⟩, Or.inl ⟨12, by kernel_rfl, by kernel_rfl⟩, trivial⟩ ?_
          clear hK K
          (try simp only [Act.put, List.setIfInBounds_toArray, List.set_cons_zero, List.set_cons_succ])
          refine L4.late_done (by kernel_rfl) ?_ _
          obtain ⟨WF, hWF⟩ : ∃ u, u = ((y10.setCell ⟨gm, 0, none⟩ (.slice u1o u1n u1c)).setCell ⟨gm, 1, none⟩ (.slice u2o u2n u2c)).setCell ⟨gm, 2, none⟩ (.slice (some ⟨gt, 0, none⟩) m m) := ⟨_, rfl⟩
          have HRES : Hid (MpC W3 WF gm gt (.slice u1o u1n u1c) (.slice u2o u2n u2c) xs zs m) := mpC_of B hM hU1 hU2 hT lM lT d12 hWF
          rw [← hWF]
          clear hWF k0 k1 k2 f0 f1 f2 hM hU1 hU2 hT lM lT d12 B KEEP
          (try go_wp2_with fail)
          go_meet
          exact ⟨gm, gt, _, _, _, _, _, _, rfl, HRES⟩
        · go_simp
          obtain ⟨y11, hy11⟩ : ∃ u, u = y8.alloc (.cells #[.slice none 0 0, .slice none 0 0, .slice none 0 0] 33) := ⟨_, rfl⟩
          obtain ⟨gm, hgm⟩ : ∃ u, u = y8.heap.size := ⟨_, rfl⟩
          rw [← hy11, ← hgm]
          have c11 : Below y8.heap.size y8 y11 := by rw [hy11]; exact belowB _ _
          have hM : BCell 33 y11 gm (.slice none 0 0) (.slice none 0 0) (.slice none 0 0) := by rw [hy11]; exact BCell.new _ hgm.symm
          have lM : W3.heap.size ≤ gm := by have := B.size; omega
          clear hy11 hgm
          have B := B.trans (c11.mono B.size)
          replace hU1 := hU1.below c11
          replace hT := hT.below c11
          clear c11 hHeld
          have hHeld := KEEP _ B
          refine hK.out _ _ (L4.AllL.kept hHeld) ?_
          clear hK K
          (try simp only [Act.put, List.setIfInBounds_toArray, List.set_cons_zero, List.set_cons_succ])
          refine L4.late_step 5 (by kernel_rfl) rfl (fun K hK => ?_)
          go_simp
          refine (clone13 _ zs _ (HRR.out.2.below (Nat.le_refl _) B) HX.out.2).mono ?_
          rintro e y12 ⟨u2, rfl, hV2, c12⟩
          have m2 : ∀ q, u2.ownBlock = some q → y11.heap.size ≤ q ∧ q < y12.heap.size := fun q hq => OG.lt hV2 q hq
          have hU2 : OG (Value.int .i64) W3.heap.size 3 y12 u2 zs := OG.mono (enc := Value.int .i64) hV2 B.size
          have d12 : ∀ q, (Value.slice u1o u1n u1c).ownBlock = some q → u2.ownBlock ≠ some q := fun q h1 h2 => by have := (hU1.lt q h1).2; have := (m2 q h2).1; omega
          obtain ⟨u2o, u2n, u2c, hu2⟩ : ∃ o n c, u2 = .slice o n c := by obtain ⟨ao, cap, e, -⟩ := hU2.sl; exact ⟨_, _, _, e⟩
          subst hu2
          clear hV2 m2
          have B := B.trans (c12.mono B.size)
          replace hU1 := hU1.below c12
          replace hT := hT.below c12
          replace hM := hM.below c12
          clear c12 hHeld
          have hHeld := KEEP _ B
          go_wp2_with fail
          refine hK.out _ _ (L4.AllL.kept hHeld) ?_
          clear hK K
          (try simp only [Act.put, List.setIfInBounds_toArray, List.set_cons_zero, List.set_cons_succ])
          refine L4.late_free 10 (v := .agg #[.slice u1o u1n u1c, .slice u2o u2n u2c, .slice (some ⟨gt, 0, none⟩) m m]) rfl (by kernel_rfl) (by kernel_rfl) (by kernel_rfl) (by kernel_rfl) (by kernel_rfl) (by kernel_rfl) (fun _ _ _ h => h) (Or.inl ⟨by rfl, ?_⟩) hHeld ?_
          · (intro u _; go_simp)
          (try simp only [Act.put, List.setIfInBounds_toArray, List.set_cons_zero, List.set_cons_succ])
          refine L4.late_step 12 (by kernel_rfl) rfl (fun K hK => ?_)
          obtain ⟨k0, k1, k2⟩ := hM.cells
          have f0 := hM.thaw 0
          have f1 := hM.thaw 1
          have f2 := hM.thaw 2
          go_simp
          refine hK.out _ _ ⟨Or.inl ⟨12, by kernel_rfl, by kernel_rfl⟩, Or.inl ⟨12, by kernel_rfl, by kernel_rfl⟩, Or.inl ⟨12, by kernel_rfl, by kernel_rfl⟩, trivial⟩ ?_
          clear hK K
          (try simp only [Act.put, List.setIfInBounds_toArray, List.set_cons_zero, List.set_cons_succ])
          refine L4.late_done (by kernel_rfl) ?_ _
          obtain ⟨WF, hWF⟩ : ∃ u, u = ((y12.setCell ⟨gm, 0, none⟩ (.slice u1o u1n u1c)).setCell ⟨gm, 1, none⟩ (.slice u2o u2n u2c)).setCell ⟨gm, 2, none⟩ (.slice (some ⟨gt, 0, none⟩) m m) := ⟨_, rfl⟩
          have HRES : Hid (MpC W3 WF gm gt (.slice u1o u1n u1c) (.slice u2o u2n u2c) xs zs m) := mpC_of B hM hU1 hU2 hT lM lT d12 hWF
          rw [← hWF]
          clear hWF k0 k1 k2 f0 f1 f2 hM hU1 hU2 hT lM lT d12 B KEEP
          (try go_wp2_with fail)
          go_meet
          exact ⟨gm, gt, _, _, _, _, _, _, rfl, HRES⟩
      · go_simp
        obtain ⟨y13, hy13⟩ : ∃ u, u = y2.alloc (.cells #[.slice none 0 0, .slice none 0 0, .slice none 0 0] 33) := ⟨_, rfl⟩
        obtain ⟨gm, hgm⟩ : ∃ u, u = y2.heap.size := ⟨_, rfl⟩
        rw [← hy13, ← hgm]
        have c13 : Below y2.heap.size y2 y13 := by rw [hy13]; exact belowB _ _
        have hM : BCell 33 y13 gm (.slice none 0 0) (.slice none 0 0) (.slice none 0 0) := by rw [hy13]; exact BCell.new _ hgm.symm
        have lM : W3.heap.size ≤ gm := by have := B.size; omega
        clear hy13 hgm
        have B := B.trans (c13.mono B.size)
        replace hU1 := hU1.below c13
        clear c13 hHeld
        have hHeld := KEEP _ B
        refine hK.out _ _ (L4.AllL.kept hHeld) ?_
        clear hK K
        (try simp only [Act.put, List.setIfInBounds_toArray, List.set_cons_zero, List.set_cons_succ])
        refine L4.late_two 5 9 (by kernel_rfl) rfl rfl (fun K hK => ?_) (fun K hK => ?_)
        · go_simp
          refine (clone13 _ zs _ (HRR.out.2.below (Nat.le_refl _) B) HX.out.2).mono ?_
          rintro e y14 ⟨u2, rfl, hV2, c14⟩
          have m2 : ∀ q, u2.ownBlock = some q → y13.heap.size ≤ q ∧ q < y14.heap.size := fun q hq => OG.lt hV2 q hq
          have hU2 : OG (Value.int .i64) W3.heap.size 3 y14 u2 zs := OG.mono (enc := Value.int .i64) hV2 B.size
          have d12 : ∀ q, (Value.slice u1o u1n u1c).ownBlock = some q → u2.ownBlock ≠ some q := fun q h1 h2 => by have := (hU1.lt q h1).2; have := (m2 q h2).1; omega
          obtain ⟨u2o, u2n, u2c, hu2⟩ : ∃ o n c, u2 = .slice o n c := by obtain ⟨ao, cap, e, -⟩ := hU2.sl; exact ⟨_, _, _, e⟩
          subst hu2
          clear hV2 m2
          have B := B.trans (c14.mono B.size)
          replace hU1 := hU1.below c14
          replace hM := hM.below c14
          clear c14 hHeld
          have hHeld := KEEP _ B
          go_wp2_with fail
          refine hK.out _ _ (L4.AllL.kept hHeld) ?_
          clear hK K
          (try simp only [Act.put, List.setIfInBounds_toArray, List.set_cons_zero, List.set_cons_succ])
          refine L4.late_step 9 (by kernel_rfl) rfl (fun K hK => ?_)
          refine want_yes rfl ?_
          refine wp_madeX _ _ _ 31 rfl 9 i1 (.string ⟨#[]⟩) Try.underlying31 hi1 hs0 hs1 rfl _ _ m rfl rfl (by rw [hs2]; omega) (by omega) ?_
          obtain ⟨y15, hy15⟩ : ∃ u, u = y14.alloc (.cells (Array.replicate m (.string ⟨#[]⟩)) 9) := ⟨_, rfl⟩
          obtain ⟨gt, hgt⟩ : ∃ u, u = y14.heap.size := ⟨_, rfl⟩
          rw [← hy15, ← hgt]
          have c15 : Below y14.heap.size y14 y15 := by rw [hy15]; exact belowB _ _
          have hT : RowX y15 gt m := by unfold RowX; rw [hy15, hgt]; exact heap_alloc_new _ _
          have lT : W3.heap.size ≤ gt := by have := B.size; omega
          clear hy15 hgt
          have B := B.trans (c15.mono B.size)
          replace hU1 := hU1.below c15
          replace hM := hM.below c15
          replace hU2 := hU2.below c15
          clear c15 hHeld
          have hHeld := KEEP _ B
          refine hK.out _ _ (L4.AllL.kept hHeld) ?_
          clear hK K
          (try simp only [Act.put, List.setIfInBounds_toArray, List.set_cons_zero, List.set_cons_succ])
          refine L4.late_free 10 (v := .agg #[.slice u1o u1n u1c, .slice u2o u2n u2c, .slice (some ⟨gt, 0, none⟩) m m]) rfl (by kernel_rfl) (by kernel_rfl) (by kernel_rfl) (by kernel_rfl) (by kernel_rfl) (by kernel_rfl) (fun _ _ _ h => h) (Or.inl ⟨by rfl, ?_⟩) hHeld ?_
          · (intro u _; go_simp)
          (try simp only [Act.put, List.setIfInBounds_toArray, List.set_cons_zero, List.set_cons_succ])
          refine L4.late_step 12 (by kernel_rfl) rfl (fun K hK => ?_)
          obtain ⟨k0, k1, k2⟩ := hM.cells
          have f0 := hM.thaw 0
          have f1 := hM.thaw 1
          have f2 := hM.thaw 2
          go_simp
          refine hK.out _ _ ⟨Or.inl ⟨12, by kernel_rfl, by kernel_rfl⟩, Or.inl ⟨12, by kernel_rfl, by kernel_rfl⟩, Or.inl ⟨12, by kernel_rfl, by kernel_rfl⟩, trivial⟩ ?_
          clear hK K
          (try simp only [Act.put, List.setIfInBounds_toArray, List.set_cons_zero, List.set_cons_succ])
          refine L4.late_done (by kernel_rfl) ?_ _
          obtain ⟨WF, hWF⟩ : ∃ u, u = ((y15.setCell ⟨gm, 0, none⟩ (.slice u1o u1n u1c)).setCell ⟨gm, 1, none⟩ (.slice u2o u2n u2c)).setCell ⟨gm, 2, none⟩ (.slice (some ⟨gt, 0, none⟩) m m) := ⟨_, rfl⟩
          have HRES : Hid (MpC W3 WF gm gt (.slice u1o u1n u1c) (.slice u2o u2n u2c) xs zs m) := mpC_of B hM hU1 hU2 hT lM lT d12 hWF
          rw [← hWF]
          clear hWF k0 k1 k2 f0 f1 f2 hM hU1 hU2 hT lM lT d12 B KEEP
          (try go_wp2_with fail)
          go_meet
          exact ⟨gm, gt, _, _, _, _, _, _, rfl, HRES⟩
        · refine want_yes rfl ?_
          refine wp_madeX _ _ _ 31 rfl 9 i1 (.string ⟨#[]⟩) Try.underlying31 hi1 hs0 hs1 rfl _ _ m rfl rfl (by rw [hs2]; omega) (by omega) ?_
          obtain ⟨y16, hy16⟩ : ∃ u, u = y13.alloc (.cells (Array.replicate m (.string ⟨#[]⟩)) 9) := ⟨_, rfl⟩
          obtain ⟨gt, hgt⟩ : ∃ u, u = y13.heap.size := ⟨_, rfl⟩
          rw [← hy16, ← hgt]
          have c16 : Below y13.heap.size y13 y16 := by rw [hy16]; exact belowB _ _
          have hT : RowX y16 gt m := by unfold RowX; rw [hy16, hgt]; exact heap_alloc_new _ _
          have lT : W3.heap.size ≤ gt := by have := B.size; omega
          clear hy16 hgt
          have B := B.trans (c16.mono B.size)
          replace hU1 := hU1.below c16
          replace hM := hM.below c16
          clear c16 hHeld
          have hHeld := KEEP _ B
          refine hK.out _ _ (L4.AllL.kept hHeld) ?_
          clear hK K
          (try simp only [Act.put, List.setIfInBounds_toArray, List.set_cons_zero, List.set_cons_succ])
          refine L4.late_step 5 (by kernel_rfl) rfl (fun K hK => ?_)
          go_simp
          refine (clone13 _ zs _ (HRR.out.2.below (Nat.le_refl _) B) HX.out.2).mono ?_
          rintro e y17 ⟨u2, rfl, hV2, c17⟩
          have m2 : ∀ q, u2.ownBlock = some q → y16.heap.size ≤ q ∧ q < y17.heap.size := fun q hq => OG.lt hV2 q hq
          have hU2 : OG (Value.int .i64) W3.heap.size 3 y17 u2 zs := OG.mono (enc := Value.int .i64) hV2 B.size
          have d12 : ∀ q, (Value.slice u1o u1n u1c).ownBlock = some q → u2.ownBlock ≠ some q := fun q h1 h2 => by have := (hU1.lt q h1).2; have := (m2 q h2).1; omega
          obtain ⟨u2o, u2n, u2c, hu2⟩ : ∃ o n c, u2 = .slice o n c := by obtain ⟨ao, cap, e, -⟩ := hU2.sl; exact ⟨_, _, _, e⟩
          subst hu2
          clear hV2 m2
          have B := B.trans (c17.mono B.size)
          replace hU1 := hU1.below c17
          replace hM := hM.below c17
          replace hT := hT.below c17
          clear c17 hHeld
          have hHeld := KEEP _ B
          go_wp2_with fail
          refine hK.out _ _ (L4.AllL.kept hHeld) ?_
          clear hK K
          (try simp only [Act.put, List.setIfInBounds_toArray, List.set_cons_zero, List.set_cons_succ])
          refine L4.late_free 10 (v := .agg #[.slice u1o u1n u1c, .slice u2o u2n u2c, .slice (some ⟨gt, 0, none⟩) m m]) rfl (by kernel_rfl) (by kernel_rfl) (by kernel_rfl) (by kernel_rfl) (by kernel_rfl) (by kernel_rfl) (fun _ _ _ h => h) (Or.inl ⟨by rfl, ?_⟩) hHeld ?_
          · (intro u _; go_simp)
          (try simp only [Act.put, List.setIfInBounds_toArray, List.set_cons_zero, List.set_cons_succ])
          refine L4.late_step 12 (by kernel_rfl) rfl (fun K hK => ?_)
          obtain ⟨k0, k1, k2⟩ := hM.cells
          have f0 := hM.thaw 0
          have f1 := hM.thaw 1
          have f2 := hM.thaw 2
          go_simp
          refine hK.out _ _ ⟨Or.inl ⟨12, by kernel_rfl, by kernel_rfl⟩, Or.inl ⟨12, by kernel_rfl, by kernel_rfl⟩, Or.inl ⟨12, by kernel_rfl, by kernel_rfl⟩, trivial⟩ ?_
          clear hK K
          (try simp only [Act.put, List.setIfInBounds_toArray, List.set_cons_zero, List.set_cons_succ])
          refine L4.late_done (by kernel_rfl) ?_ _
          obtain ⟨WF, hWF⟩ : ∃ u, u = ((y17.setCell ⟨gm, 0, none⟩ (.slice u1o u1n u1c)).setCell ⟨gm, 1, none⟩ (.slice u2o u2n u2c)).setCell ⟨gm, 2, none⟩ (.slice (some ⟨gt, 0, none⟩) m m) := ⟨_, rfl⟩
          have HRES : Hid (MpC W3 WF gm gt (.slice u1o u1n u1c) (.slice u2o u2n u2c) xs zs m) := mpC_of B hM hU1 hU2 hT lM lT d12 hWF
          rw [← hWF]
          clear hWF k0 k1 k2 f0 f1 f2 hM hU1 hU2 hT lM lT d12 B KEEP
          (try go_wp2_with fail)
          go_meet
          exact ⟨gm, gt, _, _, _, _, _, _, rfl, HRES⟩
    · refine want_yes rfl ?_
      refine wp_madeX _ _ _ 31 rfl 9 i1 (.string ⟨#[]⟩) Try.underlying31 hi1 hs0 hs1 rfl _ _ m rfl rfl (by rw [hs2]; omega) (by omega) ?_
      obtain ⟨y18, hy18⟩ : ∃ u, u = w1.alloc (.cells (Array.replicate m (.string ⟨#[]⟩)) 9) := ⟨_, rfl⟩
      obtain ⟨gt, hgt⟩ : ∃ u, u = w1.heap.size := ⟨_, rfl⟩
      rw [← hy18, ← hgt]
      have c18 : Below w1.heap.size w1 y18 := by rw [hy18]; exact belowB _ _
      have hT : RowX y18 gt m := by unfold RowX; rw [hy18, hgt]; exact heap_alloc_new _ _
      have lT : W3.heap.size ≤ gt := by have := B.size; omega
      clear hy18 hgt
      have B := B.trans (c18.mono B.size)
      clear c18 hHeld
      have hHeld := KEEP _ B
      refine hK.out _ _ (L4.AllL.kept hHeld) ?_
      clear hK K
      (try simp only [Act.put, List.setIfInBounds_toArray, List.set_cons_zero, List.set_cons_succ])
      refine L4.late_two 2 11 (by kernel_rfl) rfl rfl (fun K hK => ?_) (fun K hK => ?_)
      · go_simp
        refine (clone13 _ xs _ (HRR.out.1.below (Nat.le_refl _) B) HX.out.1).mono ?_
        rintro e y19 ⟨u1, rfl, hV1, c19⟩
        have m1 : ∀ q, u1.ownBlock = some q → y18.heap.size ≤ q ∧ q < y19.heap.size := fun q hq => OG.lt hV1 q hq
        have hU1 : OG (Value.int .i64) W3.heap.size 3 y19 u1 xs := OG.mono (enc := Value.int .i64) hV1 B.size
        obtain ⟨u1o, u1n, u1c, hu1⟩ : ∃ o n c, u1 = .slice o n c := by obtain ⟨ao, cap, e, -⟩ := hU1.sl; exact ⟨_, _, _, e⟩
        subst hu1
        clear hV1 m1
        have B := B.trans (c19.mono B.size)
        replace hT := hT.below c19
        clear c19 hHeld
        have hHeld := KEEP _ B
        go_wp2_with fail
        refine hK.out _ _ (L4.AllL.kept hHeld) ?_
        clear hK K
        (try simp only [Act.put, List.setIfInBounds_toArray, List.set_cons_zero, List.set_cons_succ])
        refine L4.late_two 5 11 (by kernel_rfl) rfl rfl (fun K hK => ?_) (fun K hK => ?_)
        · go_simp
          refine (clone13 _ zs _ (HRR.out.2.below (Nat.le_refl _) B) HX.out.2).mono ?_
          rintro e y20 ⟨u2, rfl, hV2, c20⟩
          have m2 : ∀ q, u2.ownBlock = some q → y19.heap.size ≤ q ∧ q < y20.heap.size := fun q hq => OG.lt hV2 q hq
          have hU2 : OG (Value.int .i64) W3.heap.size 3 y20 u2 zs := OG.mono (enc := Value.int .i64) hV2 B.size
          have d12 : ∀ q, (Value.slice u1o u1n u1c).ownBlock = some q → u2.ownBlock ≠ some q := fun q h1 h2 => by have := (hU1.lt q h1).2; have := (m2 q h2).1; omega
          obtain ⟨u2o, u2n, u2c, hu2⟩ : ∃ o n c, u2 = .slice o n c := by obtain ⟨ao, cap, e, -⟩ := hU2.sl; exact ⟨_, _, _, e⟩
          subst hu2
          clear hV2 m2
          have B := B.trans (c20.mono B.size)
          replace hT := hT.below c20
          replace hU1 := hU1.below c20
          clear c20 hHeld
          have hHeld := KEEP _ B
          go_wp2_with fail
          refine hK.out _ _ (L4.AllL.kept hHeld) ?_
          clear hK K
          (try simp only [Act.put, List.setIfInBounds_toArray, List.set_cons_zero, List.set_cons_succ])
          refine L4.late_free 10 (v := .agg #[.slice u1o u1n u1c, .slice u2o u2n u2c, .slice (some ⟨gt, 0, none⟩) m m]) rfl (by kernel_rfl) (by kernel_rfl) (by kernel_rfl) (by kernel_rfl) (by kernel_rfl) (by kernel_rfl) (fun _ _ _ h => h) (Or.inl ⟨by rfl, ?_⟩) hHeld ?_
          · (intro u _; go_simp)
          (try simp only [Act.put, List.setIfInBounds_toArray, List.set_cons_zero, List.set_cons_succ])
          refine L4.late_step 11 (by kernel_rfl) rfl (fun K hK => ?_)
          go_simp
          obtain ⟨y21, hy21⟩ : ∃ u, u = y20.alloc (.cells #[.slice none 0 0, .slice none 0 0, .slice none 0 0] 33) := ⟨_, rfl⟩
          obtain ⟨gm, hgm⟩ : ∃ u, u = y20.heap.size := ⟨_, rfl⟩
          rw [← hy21, ← hgm]
          have c21 : Below y20.heap.size y20 y21 := by rw [hy21]; exact belowB _ _
          have hM : BCell 33 y21 gm (.slice none 0 0) (.slice none 0 0) (.slice none 0 0) := by rw [hy21]; exact BCell.new _ hgm.symm
          have lM : W3.heap.size ≤ gm := by have := B.size; omega
          clear hy21 hgm
          have B := B.trans (c21.mono B.size)
          replace hT := hT.below c21
          replace hU1 := hU1.below c21
          replace hU2 := hU2.below c21
          clear c21 hHeld
          have hHeld := KEEP _ B
          refine hK.out _ _ (L4.AllL.kept hHeld) ?_
          clear hK K
          (try simp only [Act.put, List.setIfInBounds_toArray, List.set_cons_zero, List.set_cons_succ])
          refine L4.late_step 12 (by kernel_rfl) rfl (fun K hK => ?_)
          obtain ⟨k0, k1, k2⟩ := hM.cells
          have f0 := hM.thaw 0
          have f1 := hM.thaw 1
          have f2 := hM.thaw 2
          go_simp
          refine hK.out _ _ ⟨Or.inl ⟨12, by kernel_rfl, by kernel_rfl⟩, Or.inl ⟨12, by kernel_rfl, by kernel_rfl⟩, Or.inl ⟨12, by kernel_rfl, by kernel_rfl⟩, trivial⟩ ?_
          clear hK K
          (try simp only [Act.put, List.setIfInBounds_toArray, List.set_cons_zero, List.set_cons_succ])
          refine L4.late_done (by kernel_rfl) ?_ _
          obtain ⟨WF, hWF⟩ : ∃ u, u = ((y21.setCell ⟨gm, 0, none⟩ (.slice u1o u1n u1c)).setCell ⟨gm, 1, none⟩ (.slice u2o u2n u2c)).setCell ⟨gm, 2, none⟩ (.slice (some ⟨gt, 0, none⟩) m m) := ⟨_, rfl⟩
          have HRES : Hid (MpC W3 WF gm gt (.slice u1o u1n u1c) (.slice u2o u2n u2c) xs zs m) := mpC_of B hM hU1 hU2 hT lM lT d12 hWF
          rw [← hWF]
          clear hWF k0 k1 k2 f0 f1 f2 hM hU1 hU2 hT lM lT d12 B KEEP
          (try go_wp2_with fail)
          go_meet
          exact ⟨gm, gt, _, _, _, _, _, _, rfl, HRES⟩
        · go_simp
          obtain ⟨y22, hy22⟩ : ∃ u, u = y19.alloc (.cells #[.slice none 0 0, .slice none 0 0, .slice none 0 0] 33) := ⟨_, rfl⟩
          obtain ⟨gm, hgm⟩ : ∃ u, u = y19.heap.size := ⟨_, rfl⟩
          rw [← hy22, ← hgm]
          have c22 : Below y19.heap.size y19 y22 := by rw [hy22]; exact belowB _ _
          have hM : BCell 33 y22 gm (.slice none 0 0) (.slice none 0 0) (.slice none 0 0) := by rw [hy22]; exact BCell.new _ hgm.symm
          have lM : W3.heap.size ≤ gm := by have := B.size; omega
          clear hy22 hgm
          have B := B.trans (c22.mono B.size)
          replace hT := hT.below c22
          replace hU1 := hU1.below c22
          clear c22 hHeld
          have hHeld := KEEP _ B
          refine hK.out _ _ (L4.AllL.kept hHeld) ?_
          clear hK K
          (try simp only [Act.put, List.setIfInBounds_toArray, List.set_cons_zero, List.set_cons_succ])
          refine L4.late_step 5 (by kernel_rfl) rfl (fun K hK => ?_)
          go_simp
          refine (clone13 _ zs _ (HRR.out.2.below (Nat.le_refl _) B) HX.out.2).mono ?_
          rintro e y23 ⟨u2, rfl, hV2, c23⟩
          have m2 : ∀ q, u2.ownBlock = some q → y22.heap.size ≤ q ∧ q < y23.heap.size := fun q hq => OG.lt hV2 q hq
          have hU2 : OG (Value.int .i64) W3.heap.size 3 y23 u2 zs := OG.mono (enc := Value.int .i64) hV2 B.size
          have d12 : ∀ q, (Value.slice u1o u1n u1c).ownBlock = some q → u2.ownBlock ≠ some q := fun q h1 h2 => by have := (hU1.lt q h1).2; have := (m2 q h2).1; omega
          obtain ⟨u2o, u2n, u2c, hu2⟩ : ∃ o n c, u2 = .slice o n c := by obtain ⟨ao, cap, e, -⟩ := hU2.sl; exact ⟨_, _, _, e⟩
          subst hu2
          clear hV2 m2
          have B := B.trans (c23.mono B.size)
          replace hT := hT.below c23
          replace hU1 := hU1.below c23
          replace hM := hM.below c23
          clear c23 hHeld
          have hHeld := KEEP _ B
          go_wp2_with fail
          refine hK.out _ _ (L4.AllL.kept hHeld) ?_
          clear hK K
          (try simp only [Act.put, List.setIfInBounds_toArray, List.set_cons_zero, List.set_cons_succ])
          refine L4.late_free 10 (v := .agg #[.slice u1o u1n u1c, .slice u2o u2n u2c, .slice (some ⟨gt, 0, none⟩) m m]) rfl (by kernel_rfl) (by kernel_rfl) (by kernel_rfl) (by kernel_rfl) (by kernel_rfl) (by kernel_rfl) (fun _ _ _ h => h) (Or.inl ⟨by rfl, ?_⟩) hHeld ?_
          · (intro u _; go_simp)
          (try simp only [Act.put, List.setIfInBounds_toArray, List.set_cons_zero, List.set_cons_succ])
          refine L4.late_step 12 (by kernel_rfl) rfl (fun K hK => ?_)
          obtain ⟨k0, k1, k2⟩ := hM.cells
          have f0 := hM.thaw 0
          have f1 := hM.thaw 1
          have f2 := hM.thaw 2
          go_simp
          refine hK.out _ _ ⟨Or.inl ⟨12, by kernel_rfl, by kernel_rfl⟩, Or.inl ⟨12, by kernel_rfl, by kernel_rfl⟩, Or.inl ⟨12, by kernel_rfl, by kernel_rfl⟩, trivial⟩ ?_
          clear hK K
          (try simp only [Act.put, List.setIfInBounds_toArray, List.set_cons_zero, List.set_cons_succ])
          refine L4.late_done (by kernel_rfl) ?_ _
          obtain ⟨WF, hWF⟩ : ∃ u, u = ((y23.setCell ⟨gm, 0, none⟩ (.slice u1o u1n u1c)).setCell ⟨gm, 1, none⟩ (.slice u2o u2n u2c)).setCell ⟨gm, 2, none⟩ (.slice (some ⟨gt, 0, none⟩) m m) := ⟨_, rfl⟩
          have HRES : Hid (MpC W3 WF gm gt (.slice u1o u1n u1c) (.slice u2o u2n u2c) xs zs m) := mpC_of B hM hU1 hU2 hT lM lT d12 hWF
          rw [← hWF]
          clear hWF k0 k1 k2 f0 f1 f2 hM hU1 hU2 hT lM lT d12 B KEEP
          (try go_wp2_with fail)
          go_meet
          exact ⟨gm, gt, _, _, _, _, _, _, rfl, HRES⟩
      · go_simp
        obtain ⟨y24, hy24⟩ : ∃ u, u = y18.alloc (.cells #[.slice none 0 0, .slice none 0 0, .slice none 0 0] 33) := ⟨_, rfl⟩
        obtain ⟨gm, hgm⟩ : ∃ u, u = y18.heap.size := ⟨_, rfl⟩
        rw [← hy24, ← hgm]
        have c24 : Below y18.heap.size y18 y24 := by rw [hy24]; exact belowB _ _
        have hM : BCell 33 y24 gm (.slice none 0 0) (.slice none 0 0) (.slice none 0 0) := by rw [hy24]; exact BCell.new _ hgm.symm
        have lM : W3.heap.size ≤ gm := by have := B.size; omega
        clear hy24 hgm
        have B := B.trans (c24.mono B.size)
        replace hT := hT.below c24
        clear c24 hHeld
        have hHeld := KEEP _ B
        refine hK.out _ _ (L4.AllL.kept hHeld) ?_
        clear hK K
        (try simp only [Act.put, List.setIfInBounds_toArray, List.set_cons_zero, List.set_cons_succ])
        refine L4.late_step 2 (by kernel_rfl) rfl (fun K hK => ?_)
        go_simp
        refine (clone13 _ xs _ (HRR.out.1.below (Nat.le_refl _) B) HX.out.1).mono ?_
        rintro e y25 ⟨u1, rfl, hV1, c25⟩
        have m1 : ∀ q, u1.ownBlock = some q → y24.heap.size ≤ q ∧ q < y25.heap.size := fun q hq => OG.lt hV1 q hq
        have hU1 : OG (Value.int .i64) W3.heap.size 3 y25 u1 xs := OG.mono (enc := Value.int .i64) hV1 B.size
        obtain ⟨u1o, u1n, u1c, hu1⟩ : ∃ o n c, u1 = .slice o n c := by obtain ⟨ao, cap, e, -⟩ := hU1.sl; exact ⟨_, _, _, e⟩
        subst hu1
        clear hV1 m1
        have B := B.trans (c25.mono B.size)
        replace hT := hT.below c25
        replace hM := hM.below c25
        clear c25 hHeld
        have hHeld := KEEP _ B
        go_wp2_with fail
        refine hK.out _ _ (L4.AllL.kept hHeld) ?_
        clear hK K
        (try simp only [Act.put, List.setIfInBounds_toArray, List.set_cons_zero, List.set_cons_succ])
        refine L4.late_step 5 (by kernel_rfl) rfl (fun K hK => ?_)
        go_simp
        refine (clone13 _ zs _ (HRR.out.2.below (Nat.le_refl _) B) HX.out.2).mono ?_
        rintro e y26 ⟨u2, rfl, hV2, c26⟩
        have m2 : ∀ q, u2.ownBlock = some q → y25.heap.size ≤ q ∧ q < y26.heap.size := fun q hq => OG.lt hV2 q hq
        have hU2 : OG (Value.int .i64) W3.heap.size 3 y26 u2 zs := OG.mono (enc := Value.int .i64) hV2 B.size
        have d12 : ∀ q, (Value.slice u1o u1n u1c).ownBlock = some q → u2.ownBlock ≠ some q := fun q h1 h2 => by have := (hU1.lt q h1).2; have := (m2 q h2).1; omega
        obtain ⟨u2o, u2n, u2c, hu2⟩ : ∃ o n c, u2 = .slice o n c := by obtain ⟨ao, cap, e, -⟩ := hU2.sl; exact ⟨_, _, _, e⟩
        subst hu2
        clear hV2 m2
        have B := B.trans (c26.mono B.size)
        replace hT := hT.below c26
        replace hM := hM.below c26
        replace hU1 := hU1.below c26
        clear c26 hHeld
        have hHeld := KEEP _ B
        go_wp2_with fail
        refine hK.out _ _ (L4.AllL.kept hHeld) ?_
        clear hK K
        (try simp only [Act.put, List.setIfInBounds_toArray, List.set_cons_zero, List.set_cons_succ])
        refine L4.late_free 10 (v := .agg #[.slice u1o u1n u1c, .slice u2o u2n u2c, .slice (some ⟨gt, 0, none⟩) m m]) rfl (by kernel_rfl) (by kernel_rfl) (by kernel_rfl) (by kernel_rfl) (by kernel_rfl) (by kernel_rfl) (fun _ _ _ h => h) (Or.inl ⟨by rfl, ?_⟩) hHeld ?_
        · (intro u _; go_simp)
        (try simp only [Act.put, List.setIfInBounds_toArray, List.set_cons_zero, List.set_cons_succ])
        refine L4.late_step 12 (by kernel_rfl) rfl (fun K hK => ?_)
        obtain ⟨k0, k1, k2⟩ := hM.cells
        have f0 := hM.thaw 0
        have f1 := hM.thaw 1
        have f2 := hM.thaw 2
        go_simp
        refine hK.out _ _ ⟨Or.inl ⟨12, by kernel_rfl, by kernel_rfl⟩, Or.inl ⟨12, by kernel_rfl, by kernel_rfl⟩, Or.inl ⟨12, by kernel_rfl, by kernel_rfl⟩, trivial⟩ ?_
        clear hK K
        (try simp only [Act.put, List.setIfInBounds_toArray, List.set_cons_zero, List.set_cons_succ])
        refine L4.late_done (by kernel_rfl) ?_ _
        obtain ⟨WF, hWF⟩ : ∃ u, u = ((y26.setCell ⟨gm, 0, none⟩ (.slice u1o u1n u1c)).setCell ⟨gm, 1, none⟩ (.slice u2o u2n u2c)).setCell ⟨gm, 2, none⟩ (.slice (some ⟨gt, 0, none⟩) m m) := ⟨_, rfl⟩
        have HRES : Hid (MpC W3 WF gm gt (.slice u1o u1n u1c) (.slice u2o u2n u2c) xs zs m) := mpC_of B hM hU1 hU2 hT lM lT d12 hWF
        rw [← hWF]
        clear hWF k0 k1 k2 f0 f1 f2 hM hU1 hU2 hT lM lT d12 B KEEP
        (try go_wp2_with fail)
        go_meet
        exact ⟨gm, gt, _, _, _, _, _, _, rfl, HRES⟩
    · go_simp
      obtain ⟨y27, hy27⟩ : ∃ u, u = w1.alloc (.cells #[.slice none 0 0, .slice none 0 0, .slice none 0 0] 33) := ⟨_, rfl⟩
      obtain ⟨gm, hgm⟩ : ∃ u, u = w1.heap.size := ⟨_, rfl⟩
      rw [← hy27, ← hgm]
      have c27 : Below w1.heap.size w1 y27 := by rw [hy27]; exact belowB _ _
      have hM : BCell 33 y27 gm (.slice none 0 0) (.slice none 0 0) (.slice none 0 0) := by rw [hy27]; exact BCell.new _ hgm.symm
      have lM : W3.heap.size ≤ gm := by have := B.size; omega
      clear hy27 hgm
      have B := B.trans (c27.mono B.size)
      clear c27 hHeld
      have hHeld := KEEP _ B
      refine hK.out _ _ (L4.AllL.kept hHeld) ?_
      clear hK K
      (try simp only [Act.put, List.setIfInBounds_toArray, List.set_cons_zero, List.set_cons_succ])
      refine L4.late_two 2 9 (by kernel_rfl) rfl rfl (fun K hK => ?_) (fun K hK => ?_)
      · go_simp
        refine (clone13 _ xs _ (HRR.out.1.below (Nat.le_refl _) B) HX.out.1).mono ?_
        rintro e y28 ⟨u1, rfl, hV1, c28⟩
        have m1 : ∀ q, u1.ownBlock = some q → y27.heap.size ≤ q ∧ q < y28.heap.size := fun q hq => OG.lt hV1 q hq
        have hU1 : OG (Value.int .i64) W3.heap.size 3 y28 u1 xs := OG.mono (enc := Value.int .i64) hV1 B.size
        obtain ⟨u1o, u1n, u1c, hu1⟩ : ∃ o n c, u1 = .slice o n c := by obtain ⟨ao, cap, e, -⟩ := hU1.sl; exact ⟨_, _, _, e⟩
        subst hu1
        clear hV1 m1
        have B := B.trans (c28.mono B.size)
        replace hM := hM.below c28
        clear c28 hHeld
        have hHeld := KEEP _ B
        go_wp2_with fail
        refine hK.out _ _ (L4.AllL.kept hHeld) ?_
        clear hK K
        (try simp only [Act.put, List.setIfInBounds_toArray, List.set_cons_zero, List.set_cons_succ])
        refine L4.late_two 5 9 (by kernel_rfl) rfl rfl (fun K hK => ?_) (fun K hK => ?_)
        · go_simp
          refine (clone13 _ zs _ (HRR.out.2.below (Nat.le_refl _) B) HX.out.2).mono ?_
          rintro e y29 ⟨u2, rfl, hV2, c29⟩
          have m2 : ∀ q, u2.ownBlock = some q → y28.heap.size ≤ q ∧ q < y29.heap.size := fun q hq => OG.lt hV2 q hq
          have hU2 : OG (Value.int .i64) W3.heap.size 3 y29 u2 zs := OG.mono (enc := Value.int .i64) hV2 B.size
          have d12 : ∀ q, (Value.slice u1o u1n u1c).ownBlock = some q → u2.ownBlock ≠ some q := fun q h1 h2 => by have := (hU1.lt q h1).2; have := (m2 q h2).1; omega
          obtain ⟨u2o, u2n, u2c, hu2⟩ : ∃ o n c, u2 = .slice o n c := by obtain ⟨ao, cap, e, -⟩ := hU2.sl; exact ⟨_, _, _, e⟩
          subst hu2
          clear hV2 m2
          have B := B.trans (c29.mono B.size)
          replace hM := hM.below c29
          replace hU1 := hU1.below c29
          clear c29 hHeld
          have hHeld := KEEP _ B
          go_wp2_with fail
          refine hK.out _ _ (L4.AllL.kept hHeld) ?_
          clear hK K
          (try simp only [Act.put, List.setIfInBounds_toArray, List.set_cons_zero, List.set_cons_succ])
          refine L4.late_step 9 (by kernel_rfl) rfl (fun K hK => ?_)
          refine want_yes rfl ?_
          refine wp_madeX _ _ _ 31 rfl 9 i1 (.string ⟨#[]⟩) Try.underlying31 hi1 hs0 hs1 rfl _ _ m rfl rfl (by rw [hs2]; omega) (by omega) ?_
          obtain ⟨y30, hy30⟩ : ∃ u, u = y29.alloc (.cells (Array.replicate m (.string ⟨#[]⟩)) 9) := ⟨_, rfl⟩
          obtain ⟨gt, hgt⟩ : ∃ u, u = y29.heap.size := ⟨_, rfl⟩
          rw [← hy30, ← hgt]
          have c30 : Below y29.heap.size y29 y30 := by rw [hy30]; exact belowB _ _
          have hT : RowX y30 gt m := by unfold RowX; rw [hy30, hgt]; exact heap_alloc_new _ _
          have lT : W3.heap.size ≤ gt := by have := B.size; omega
          clear hy30 hgt
          have B := B.trans (c30.mono B.size)
          replace hM := hM.below c30
          replace hU1 := hU1.below c30
          replace hU2 := hU2.below c30
          clear c30 hHeld
          have hHeld := KEEP _ B
          refine hK.out _ _ (L4.AllL.kept hHeld) ?_
          clear hK K
          (try simp only [Act.put, List.setIfInBounds_toArray, List.set_cons_zero, List.set_cons_succ])
          refine L4.late_free 10 (v := .agg #[.slice u1o u1n u1c, .slice u2o u2n u2c, .slice (some ⟨gt, 0, none⟩) m m]) rfl (by kernel_rfl) (by kernel_rfl) (by kernel_rfl) (by kernel_rfl) (by kernel_rfl) (by kernel_rfl) (fun _ _ _ h => h) (Or.inl ⟨by rfl, ?_⟩) hHeld ?_
          · (intro u _; go_simp)
          (try simp only [Act.put, List.setIfInBounds_toArray, List.set_cons_zero, List.set_cons_succ])
          refine L4.late_step 12 (by kernel_rfl) rfl (fun K hK => ?_)
          obtain ⟨k0, k1, k2⟩ := hM.cells
          have f0 := hM.thaw 0
          have f1 := hM.thaw 1
          have f2 := hM.thaw 2
          go_simp
          refine hK.out _ _ ⟨Or.inl ⟨12, by kernel_rfl, by kernel_rfl⟩, Or.inl ⟨12, by kernel_rfl, by kernel_rfl⟩, Or.inl ⟨12, by kernel_rfl, by kernel_rfl⟩, trivial⟩ ?_
          clear hK K
          (try simp only [Act.put, List.setIfInBounds_toArray, List.set_cons_zero, List.set_cons_succ])
          refine L4.late_done (by kernel_rfl) ?_ _
          obtain ⟨WF, hWF⟩ : ∃ u, u = ((y30.setCell ⟨gm, 0, none⟩ (.slice u1o u1n u1c)).setCell ⟨gm, 1, none⟩ (.slice u2o u2n u2c)).setCell ⟨gm, 2, none⟩ (.slice (some ⟨gt, 0, none⟩) m m) := ⟨_, rfl⟩
          have HRES : Hid (MpC W3 WF gm gt (.slice u1o u1n u1c) (.slice u2o u2n u2c) xs zs m) := mpC_of B hM hU1 hU2 hT lM lT d12 hWF
          rw [← hWF]
          clear hWF k0 k1 k2 f0 f1 f2 hM hU1 hU2 hT lM lT d12 B KEEP
          (try go_wp2_with fail)
          go_meet
          exact ⟨gm, gt, _, _, _, _, _, _, rfl, HRES⟩
        · refine want_yes rfl ?_
          refine wp_madeX _ _ _ 31 rfl 9 i1 (.string ⟨#[]⟩) Try.underlying31 hi1 hs0 hs1 rfl _ _ m rfl rfl (by rw [hs2]; omega) (by omega) ?_
          obtain ⟨y31, hy31⟩ : ∃ u, u = y28.alloc (.cells (Array.replicate m (.string ⟨#[]⟩)) 9) := ⟨_, rfl⟩
          obtain ⟨gt, hgt⟩ : ∃ u, u = y28.heap.size := ⟨_, rfl⟩
          rw [← hy31, ← hgt]
          have c31 : Below y28.heap.size y28 y31 := by rw [hy31]; exact belowB _ _
          have hT : RowX y31 gt m := by unfold RowX; rw [hy31, hgt]; exact heap_alloc_new _ _
          have lT : W3.heap.size ≤ gt := by have := B.size; omega
          clear hy31 hgt
          have B := B.trans (c31.mono B.size)
          replace hM := hM.below c31
          replace hU1 := hU1.below c31
          clear c31 hHeld
          have hHeld := KEEP _ B
          refine hK.out _ _ (L4.AllL.kept hHeld) ?_
          clear hK K
          (try simp only [Act.put, List.setIfInBounds_toArray, List.set_cons_zero, List.set_cons_succ])
          refine L4.late_step 5 (by kernel_rfl) rfl (fun K hK => ?_)
          go_simp
          refine (clone13 _ zs _ (HRR.out.2.below (Nat.le_refl _) B) HX.out.2).mono ?_
          rintro e y32 ⟨u2, rfl, hV2, c32⟩
          have m2 : ∀ q, u2.ownBlock = some q → y31.heap.size ≤ q ∧ q < y32.heap.size := fun q hq => OG.lt hV2 q hq
          have hU2 : OG (Value.int .i64) W3.heap.size 3 y32 u2 zs := OG.mono (enc := Value.int .i64) hV2 B.size
          have d12 : ∀ q, (Value.slice u1o u1n u1c).ownBlock = some q → u2.ownBlock ≠ some q := fun q h1 h2 => by have := (hU1.lt q h1).2; have := (m2 q h2).1; omega
          obtain ⟨u2o, u2n, u2c, hu2⟩ : ∃ o n c, u2 = .slice o n c := by obtain ⟨ao, cap, e, -⟩ := hU2.sl; exact ⟨_, _, _, e⟩
          subst hu2
          clear hV2 m2
          have B := B.trans (c32.mono B.size)
          replace hM := hM.below c32
          replace hU1 := hU1.below c32
          replace hT := hT.below c32
          clear c32 hHeld
          have hHeld := KEEP _ B
          go_wp2_with fail
          refine hK.out _ _ (L4.AllL.kept hHeld) ?_
          clear hK K
          (try simp only [Act.put, List.setIfInBounds_toArray, List.set_cons_zero, List.set_cons_succ])
          refine L4.late_free 10 (v := .agg #[.slice u1o u1n u1c, .slice u2o u2n u2c, .slice (some ⟨gt, 0, none⟩) m m]) rfl (by kernel_rfl) (by kernel_rfl) (by kernel_rfl) (by kernel_rfl) (by kernel_rfl) (by kernel_rfl) (fun _ _ _ h => h) (Or.inl ⟨by rfl, ?_⟩) hHeld ?_
          · (intro u _; go_simp)
          (try simp only [Act.put, List.setIfInBounds_toArray, List.set_cons_zero, List.set_cons_succ])
          refine L4.late_step 12 (by kernel_rfl) rfl (fun K hK => ?_)
          obtain ⟨k0, k1, k2⟩ := hM.cells
          have f0 := hM.thaw 0
          have f1 := hM.thaw 1
          have f2 := hM.thaw 2
          go_simp
          refine hK.out _ _ ⟨Or.inl ⟨12, by kernel_rfl, by kernel_rfl⟩, Or.inl ⟨12, by kernel_rfl, by kernel_rfl⟩, Or.inl ⟨12, by kernel_rfl, by kernel_rfl⟩, trivial⟩ ?_
          clear hK K
          (try simp only [Act.put, List.setIfInBounds_toArray, List.set_cons_zero, List.set_cons_succ])
          refine L4.late_done (by kernel_rfl) ?_ _
          obtain ⟨WF, hWF⟩ : ∃ u, u = ((y32.setCell ⟨gm, 0, none⟩ (.slice u1o u1n u1c)).setCell ⟨gm, 1, none⟩ (.slice u2o u2n u2c)).setCell ⟨gm, 2, none⟩ (.slice (some ⟨gt, 0, none⟩) m m) := ⟨_, rfl⟩
          have HRES : Hid (MpC W3 WF gm gt (.slice u1o u1n u1c) (.slice u2o u2n u2c) xs zs m) := mpC_of B hM hU1 hU2 hT lM lT d12 hWF
          rw [← hWF]
          clear hWF k0 k1 k2 f0 f1 f2 hM hU1 hU2 hT lM lT d12 B KEEP
          (try go_wp2_with fail)
          go_meet
          exact ⟨gm, gt, _, _, _, _, _, _, rfl, HRES⟩
      · refine want_yes rfl ?_
        refine wp_madeX _ _ _ 31 rfl 9 i1 (.string ⟨#[]⟩) Try.underlying31 hi1 hs0 hs1 rfl _ _ m rfl rfl (by rw [hs2]; omega) (by omega) ?_
        obtain ⟨y33, hy33⟩ : ∃ u, u = y27.alloc (.cells (Array.replicate m (.string ⟨#[]⟩)) 9) := ⟨_, rfl⟩
        obtain ⟨gt, hgt⟩ : ∃ u, u = y27.heap.size := ⟨_, rfl⟩
        rw [← hy33, ← hgt]
        have c33 : Below y27.heap.size y27 y33 := by rw [hy33]; exact belowB _ _
        have hT : RowX y33 gt m := by unfold RowX; rw [hy33, hgt]; exact heap_alloc_new _ _
        have lT : W3.heap.size ≤ gt := by have := B.size; omega
        clear hy33 hgt
        have B := B.trans (c33.mono B.size)
        replace hM := hM.below c33
        clear c33 hHeld
        have hHeld := KEEP _ B
        refine hK.out _ _ (L4.AllL.kept hHeld) ?_
        clear hK K
        (try simp only [Act.put, List.setIfInBounds_toArray, List.set_cons_zero, List.set_cons_succ])
        refine L4.late_step 2 (by kernel_rfl) rfl (fun K hK => ?_)
        go_simp
        refine (clone13 _ xs _ (HRR.out.1.below (Nat.le_refl _) B) HX.out.1).mono ?_
        rintro e y34 ⟨u1, rfl, hV1, c34⟩
        have m1 : ∀ q, u1.ownBlock = some q → y33.heap.size ≤ q ∧ q < y34.heap.size := fun q hq => OG.lt hV1 q hq
        have hU1 : OG (Value.int .i64) W3.heap.size 3 y34 u1 xs := OG.mono (enc := Value.int .i64) hV1 B.size
        obtain ⟨u1o, u1n, u1c, hu1⟩ : ∃ o n c, u1 = .slice o n c := by obtain ⟨ao, cap, e, -⟩ := hU1.sl; exact ⟨_, _, _, e⟩
        subst hu1
        clear hV1 m1
        have B := B.trans (c34.mono B.size)
        replace hM := hM.below c34
        replace hT := hT.below c34
        clear c34 hHeld
        have hHeld := KEEP _ B
        go_wp2_with fail
        refine hK.out _ _ (L4.AllL.kept hHeld) ?_
        clear hK K
        (try simp only [Act.put, List.setIfInBounds_toArray, List.set_cons_zero, List.set_cons_succ])
        refine L4.late_step 5 (by kernel_rfl) rfl (fun K hK => ?_)
        go_simp
        refine (clone13 _ zs _ (HRR.out.2.below (Nat.le_refl _) B) HX.out.2).mono ?_
        rintro e y35 ⟨u2, rfl, hV2, c35⟩
        have m2 : ∀ q, u2.ownBlock = some q → y34.heap.size ≤ q ∧ q < y35.heap.size := fun q hq => OG.lt hV2 q hq
        have hU2 : OG (Value.int .i64) W3.heap.size 3 y35 u2 zs := OG.mono (enc := Value.int .i64) hV2 B.size
        have d12 : ∀ q, (Value.slice u1o u1n u1c).ownBlock = some q → u2.ownBlock ≠ some q := fun q h1 h2 => by have := (hU1.lt q h1).2; have := (m2 q h2).1; omega
        obtain ⟨u2o, u2n, u2c, hu2⟩ : ∃ o n c, u2 = .slice o n c := by obtain ⟨ao, cap, e, -⟩ := hU2.sl; exact ⟨_, _, _, e⟩
        subst hu2
        clear hV2 m2
        have B := B.trans (c35.mono B.size)
        replace hM := hM.below c35
        replace hT := hT.below c35
        replace hU1 := hU1.below c35
        clear c35 hHeld
        have hHeld := KEEP _ B
        go_wp2_with fail
        refine hK.out _ _ (L4.AllL.kept hHeld) ?_
        clear hK K
        (try simp only [Act.put, List.setIfInBounds_toArray, List.set_cons_zero, List.set_cons_succ])
        refine L4.late_free 10 (v := .agg #[.slice u1o u1n u1c, .slice u2o u2n u2c, .slice (some ⟨gt, 0, none⟩) m m]) rfl (by kernel_rfl) (by kernel_rfl) (by kernel_rfl) (by kernel_rfl) (by kernel_rfl) (by kernel_rfl) (fun _ _ _ h => h) (Or.inl ⟨by rfl, ?_⟩) hHeld ?_
        · (intro u _; go_simp)
        (try simp only [Act.put, List.setIfInBounds_toArray, List.set_cons_zero, List.set_cons_succ])
        refine L4.late_step 12 (by kernel_rfl) rfl (fun K hK => ?_)
        obtain ⟨k0, k1, k2⟩ := hM.cells
        have f0 := hM.thaw 0
        have f1 := hM.thaw 1
        have f2 := hM.thaw 2
        go_simp
        refine hK.out _ _ ⟨Or.inl ⟨12, by kernel_rfl, by kernel_rfl⟩, Or.inl ⟨12, by kernel_rfl, by kernel_rfl⟩, Or.inl ⟨12, by kernel_rfl, by kernel_rfl⟩, trivial⟩ ?_
        clear hK K
        (try simp only [Act.put, List.setIfInBounds_toArray, List.set_cons_zero, List.set_cons_succ])
        refine L4.late_done (by kernel_rfl) ?_ _
        obtain ⟨WF, hWF⟩ : ∃ u, u = ((y35.setCell ⟨gm, 0, none⟩ (.slice u1o u1n u1c)).setCell ⟨gm, 1, none⟩ (.slice u2o u2n u2c)).setCell ⟨gm, 2, none⟩ (.slice (some ⟨gt, 0, none⟩) m m) := ⟨_, rfl⟩
        have HRES : Hid (MpC W3 WF gm gt (.slice u1o u1n u1c) (.slice u2o u2n u2c) xs zs m) := mpC_of B hM hU1 hU2 hT lM lT d12 hWF
        rw [← hWF]
        clear hWF k0 k1 k2 f0 f1 f2 hM hU1 hU2 hT lM lT d12 B KEEP
        (try go_wp2_with fail)
        go_meet
        exact ⟨gm, gt, _, _, _, _, _, _, rfl, HRES⟩
  case rest =>
    obtain ⟨gm, gt, o1, n1, k1, o2, n2, k2, rfl, HMP⟩ := hcut
    have hB5 := HMP.out.bel
    have HBx : Hid (Below w.heap.size w wc) := bstepB HBW.out hB5
    obtain ⟨ca0', ca1', ca2'⟩ := (HQ3.out.below hB5).cells
    have HI : Hid (SnC wc.heap.size wc sb (.slice none 0 0) (cs.take 0)) := ⟨(HBx.out.block sb HSB.out.2).trans HSB.out.1, OG.nil _ _ _, Nat.lt_of_lt_of_le HSB.out.2 HBx.out.size⟩
    have HG0 : Hid (wc.heap[gt]? = some (.cells ((rowT m 0).map Value.string).toArray 9 (0, 0))) := by show _ = _; rw [rowT_zero]; exact HMP.out.row
    have HR4 : Hid (BCell 33 wc (g + 1) (.slice none 0 0) (.slice none 0 0) (.slice none 0 0)) := HR3.out.below hB5
    have hgt9 : gt < wc.heap.size := (Array.getElem?_eq_some_iff.1 HMP.out.row).1
    have HGT : Hid (gt < wc.heap.size ∧ gm < wc.heap.size ∧ sb ≠ gt ∧ sb ≠ gm ∧ gm ≠ gt ∧ w.heap.size ≤ gt ∧ g + 1 < W3.heap.size) := by
      have h1 := HMP.out.lgt
      have h2 := HMP.out.lgm
      have h3 := HBW.out.size
      have h4 := HSB.out.2
      have h5 := HR3.out.lt
      refine ⟨hgt9, HMP.out.box.lt, by omega, by omega, ?_, by omega, h5⟩
      rintro rfl
      have := HMP.out.row
      rw [HMP.out.box] at this
      simp at this
    clear ca0 ca1 ca2 hB5 hgt9
    go_wp2
    clear ca0' ca1' ca2'
    go_loopg [8, 9, 33] m (fun g1 _v8 _v9 v33 wr => ∃ (i : Nat) (so sn sk : _), v33 = .int .i64 i ∧ i ≤ m ∧ m - i ≤ g1 ∧ Hid (SnC wc.heap.size wr sb (.slice so sn sk) (cs.take i)) ∧ Hid (wr.heap[gt]? = some (.cells ((rowT m i).map Value.string).toArray 9 (0, 0))) ∧ Hid (GrS wc wr [sb, gt]))
    case atStart => exact ⟨0, none, 0, 0, rfl, Nat.zero_le _, by omega, HI, HG0, GrS.refl _ _⟩
    case round =>
      clear HI HG0
      obtain ⟨i, so, sn, sk, rfl, him, hg1, HSN, HRW, HGR⟩ := hrel
      by_cases hlt : i < m
      · have hltz : (i : Int) < (m : Int) := by omega
        obtain ⟨x, hx⟩ : ∃ x, cs[i]? = some x := ⟨_, List.getElem?_eq_getElem (by rw [HM.out]; exact hlt)⟩
        obtain ⟨q, oq, rfl, k3, k4, k5⟩ := HCL.out i x hx
        have hblk : wr.heap[q]? = w.heap[q]? := by
          have h1 := HGT.out
          rw [HGR.out.block q (Nat.lt_of_lt_of_le k4 HBx.out.size) (by simp; omega)]
          exact HBx.out.block q k4
        have cx : wr.cell? ⟨q, oq + i, none⟩ = some (.int .i64 x) := by rw [cell_blk hblk]; exact k3
        have HTK : Hid (cs.take (i + 1) = cs.take i ++ [x]) := by
          show _ = _
          obtain ⟨h1, h2⟩ := List.getElem?_eq_some_iff.1 hx
          rw [List.take_succ_eq_append_getElem h1, h2]
        have HLK : Hid ((cs.take i).length = i) := by show _ = _; rw [List.length_take, HM.out]; omega
        clear hx k3 k4 k5 hblk
        have qbx : BCell 33 wr gm (.slice o1 n1 k1) (.slice o2 n2 k2) (.slice (some ⟨gt, 0, none⟩) m m) := by
          have h1 := HGT.out
          unfold BCell
          rw [HGR.out.block gm h1.2.1 (by simp; omega)]; exact HMP.out.box
        have HQX : Hid (BCell 33 wr gm (.slice o1 n1 k1) (.slice o2 n2 k2) (.slice (some ⟨gt, 0, none⟩) m m)) := qbx
        clear qbx
        go_upto_region 10 with fail
        clear cx
        obtain ⟨cm0, cm1, cm2⟩ := HQX.out.cells
        have HN : Hid (∀ W, Below wr.heap.size wr W → SnC wc.heap.size W sb (.slice so sn sk) (cs.take i)) := fun W b => ⟨(b.block sb (Array.getElem?_eq_some_iff.1 HSN.out.box).1).trans HSN.out.box, HSN.out.row.below b, HSN.out.lt⟩
        refine L4.region_late [(1, fun w' => w'.cell? ⟨gm, 2, none⟩ = some (.slice (some ⟨gt, 0, none⟩) m m))] (by kernel_rfl) ?_
        have B : Below wr.heap.size wr wr.drew := (Below.refl _ _).drew
        obtain ⟨wd, hwd⟩ : ∃ u, u = wr.drew := ⟨_, rfl⟩
        rw [← hwd] at B ⊢
        clear hwd
        have hHeld : L4.AllL wd [(1, fun w' => w'.cell? ⟨gm, 2, none⟩ = some (.slice (some ⟨gt, 0, none⟩) m m))] := ⟨keepR B cm2, trivial⟩
        refine L4.late_free 0 (v := .pointer (some ⟨gm, 2, none⟩)) rfl (by kernel_rfl) (by kernel_rfl) (by kernel_rfl) (by kernel_rfl) (by kernel_rfl) (by kernel_rfl) (fun _ _ _ h => h) (Or.inl ⟨by rfl, ?_⟩) hHeld ?_
        · (intro u _; go_simp)
        (try simp only [Act.put, List.setIfInBounds_toArray, List.set_cons_zero, List.set_cons_succ])
        refine L4.late_take 1 (v := .slice (some ⟨gt, 0, none⟩) m m) rfl (by kernel_rfl) (List.Mem.head _) (by kernel_rfl) (by kernel_rfl) (by kernel_rfl) (by kernel_rfl) (fun _ _ _ h => h) (Or.inl ⟨by rfl, ?_⟩) hHeld ?_
        · (intro u hu; (try dsimp only at hu); go_split_ands; go_simp)
        (try simp only [Act.put, List.setIfInBounds_toArray, List.set_cons_zero, List.set_cons_succ])
        refine L4.late_free 2 (v := .int .i64 ((i : Nat) : Int)) rfl (by kernel_rfl) (by kernel_rfl) (by kernel_rfl) (by kernel_rfl) (by kernel_rfl) (by kernel_rfl) (fun _ _ _ h => h) (Or.inl ⟨by rfl, ?_⟩) hHeld ?_
        · (intro u _; go_simp)
        (try simp only [Act.put, List.setIfInBounds_toArray, List.set_cons_zero, List.set_cons_succ])
        refine L4.late_free 3 (v := .func (.func 8) #[] #[.pointer (some ⟨sb, 0, none⟩)]) rfl (by kernel_rfl) (by kernel_rfl) (by kernel_rfl) (by kernel_rfl) (by kernel_rfl) (by kernel_rfl) (fun _ _ _ h => h) (Or.inl ⟨by rfl, ?_⟩) hHeld ?_
        · (intro u _; go_simp)
        (try simp only [Act.put, List.setIfInBounds_toArray, List.set_cons_zero, List.set_cons_succ])
        refine L4.late_free 4 (v := .int .i64 x) rfl (by kernel_rfl) (by kernel_rfl) (by kernel_rfl) (by kernel_rfl) (by kernel_rfl) (by kernel_rfl) (fun _ _ _ h => h) (Or.inl ⟨by rfl, ?_⟩) hHeld ?_
        · (intro u _; go_simp)
        (try simp only [Act.put, List.setIfInBounds_toArray, List.set_cons_zero, List.set_cons_succ])
        refine L4.late_step 5 (by kernel_rfl) rfl (fun K hK => ?_)
        go_simp
        refine (noted wc.heap.size sb _ (cs.take i) x wd (HN.out wd B) (by rw [HLK.out]; omega) (Nat.le_trans HGR.out.size B.size)).mono ?_
        rintro e wn ⟨rfl, sv', hsn, hfr, hgg⟩
        rw [HLK.out]
        have hfr1 : ∀ p, p < wd.heap.size → p ≠ sb → (Value.slice so sn sk).ownBlock ≠ some p → wn.heap[p]? = wd.heap[p]? := hfr.block
        have hold : ∀ p, p < wc.heap.size → (Value.slice so sn sk).ownBlock ≠ some p := fun p hp e => by have := ((HN.out wd B).row.lt p e).1; omega
        have hkp : ∀ p, p < wc.heap.size → p ≠ sb → wn.heap[p]? = wr.heap[p]? := fun p h1 h2 => by rw [hfr.block p (Nat.lt_of_lt_of_le h1 (Nat.le_trans HGR.out.size B.size)) h2 (hold p h1), B.block p (Nat.lt_of_lt_of_le h1 HGR.out.size)]
        have hqn : BCell 33 wn gm (.slice o1 n1 k1) (.slice o2 n2 k2) (.slice (some ⟨gt, 0, none⟩) m m) := by unfold BCell; rw [hkp gm HGT.out.2.1 (fun e => HGT.out.2.2.2.1 e.symm)]; exact HQX.out
        have hrn : wn.heap[gt]? = some (.cells ((rowT m i).map Value.string).toArray 9 (0, 0)) := by rw [hkp gt HGT.out.1 (fun e => HGT.out.2.2.1 e.symm)]; exact HRW.out
        have hHeld : L4.AllL wn [(1, fun w' => w'.cell? ⟨gm, 2, none⟩ = some (.slice (some ⟨gt, 0, none⟩) m m))] := ⟨hqn.cells.2.2, trivial⟩
        refine hK.out _ _ (L4.AllL.kept hHeld) ?_
        clear hK K
        (try simp only [Act.put, List.setIfInBounds_toArray, List.set_cons_zero, List.set_cons_succ])
        refine L4.late_free 6 (v := .pointer (some ⟨gt, i, none⟩)) rfl (by kernel_rfl) (by kernel_rfl) (by kernel_rfl) (by kernel_rfl) (by kernel_rfl) (by kernel_rfl) (fun _ _ _ h => h) (Or.inl ⟨by rfl, ?_⟩) hHeld ?_
        · (intro u _; go_simp)
        (try simp only [Act.put, List.setIfInBounds_toArray, List.set_cons_zero, List.set_cons_succ])
        refine L4.late_step 7 (by kernel_rfl) rfl (fun K hK => ?_)
        have hcs : ((rowT m i).map Value.string).toArray.size = m := by simp [rowT_len]
        obtain ⟨v0, hv0⟩ : ∃ v, wn.cell? ⟨gt, i, none⟩ = some v := by rw [cell_of_row wn gt _ _ _ _ hrn]; exact ⟨_, Array.getElem?_eq_getElem (by rw [hcs]; exact hlt)⟩
        have fz : wn.frozen? ⟨gt, i, none⟩ = false := frozen_of_row _ _ _ _ _ hrn
        go_simp
        refine hK.out _ _ ⟨Or.inl ⟨7, by kernel_rfl, by kernel_rfl⟩, trivial⟩ ?_
        clear hK K hHeld
        (try simp only [Act.put, List.setIfInBounds_toArray, List.set_cons_zero, List.set_cons_succ])
        refine L4.late_done (by kernel_rfl) ?_ _
        clear v0 hv0 fz hcs
        obtain ⟨so', sn', sk', hsv'⟩ : ∃ o n k, sv' = .slice o n k := by obtain ⟨ao, cap, e⟩ := hsn.row.rg.sl; exact ⟨_, _, _, e⟩
        subst hsv'
        obtain ⟨WN, hWN⟩ : ∃ u, u = wn.setCell ⟨gt, i, none⟩ (.string (dgT (i + 1))) := ⟨_, rfl⟩
        have HRN : Hid (WN.heap[gt]? = some (.cells ((rowT m (i + 1)).map Value.string).toArray 9 (0, 0))) := by
          show _ = _
          rw [hWN, heap_setCell_same wn gt i _ _ _ hrn, ← rowT_set m i hlt]
          simp
        have hoth : ∀ p, p ≠ gt → WN.heap[p]? = wn.heap[p]? := fun p hp => by rw [hWN, Below.heap_setCell _ _ _ _ hp]
        have hrow : OG (Value.int .i64) wc.heap.size 3 WN (.slice so' sn' sk') (cs.take i ++ [x]) := hsn.row.of_blocks fun p hp => hoth p (by have := (hsn.row.lt p hp).1; have := HGT.out.1; omega)
        have HSN2 : Hid (SnC wc.heap.size WN sb (.slice so' sn' sk') (cs.take (i + 1))) := ⟨(hoth sb HGT.out.2.2.1).trans hsn.box, by rw [HTK.out]; exact hrow, hsn.lt⟩
        have HGR2 : Hid (GrS wc WN [sb, gt]) := by
          have hb := (Below.refl gt wn).setCell (p := ⟨gt, i, none⟩) (Nat.le_refl _) (.string (dgT (i + 1)))
          rw [← hWN] at hb
          exact ⟨hb.os.trans (hfr.os.trans (B.os.trans HGR.out.os)), hb.tape.trans (hfr.tape.trans (B.tape.trans HGR.out.tape)), hb.output.trans (hfr.output.trans (B.output.trans HGR.out.output)), Nat.le_trans HGR.out.size (Nat.le_trans B.size (Nat.le_trans hfr.size hb.size)), fun p h1 h2 => by
            simp only [List.mem_cons, List.not_mem_nil, or_false, not_or] at h2
            rw [hoth p h2.2, hkp p h1 h2.1]; exact HGR.out.block p h1 (by simp; exact h2)⟩
        have HE : Hid (WN = wn.setCell ⟨gt, i, none⟩ (.string (dgT (i + 1)))) := hWN
        clear hWN hoth hrow hsn hfr hfr1 hold hkp hqn hrn hgg B cm0 cm1 cm2 HSN HRW HGR HQX HN HTK HLK
        rw [← HE.out]
        clear HE
        go_wp2
        go_roundg (m - (i + 1))
        case measure => omega
        case rel => exact ⟨i + 1, _, _, _, by go_num, by omega, Nat.le_refl _, HSN2, HRN, HGR2⟩
      · have hltz : ¬ (i : Int) < (m : Int) := by omega
        have hie : i = m := by omega
        subst hie
        have h9 := HGT.out
        have qm : BCell 33 wr gm (.slice o1 n1 k1) (.slice o2 n2 k2) (.slice (some ⟨gt, 0, none⟩) i i) := by
          unfold BCell
          rw [HGR.out.block gm h9.2.1 (by simp; omega)]; exact HMP.out.box
        have hg1w : g + 1 < wc.heap.size := Nat.lt_of_lt_of_le h9.2.2.2.2.2.2 HMP.out.bel.size
        have hgsb : g + 1 ≠ sb := by have := HSB.out.2; have := HG.out; omega
        have hggt : g + 1 ≠ gt := by have := HMP.out.lgt; omega
        have qr9 : BCell 33 wr (g + 1) (.slice none 0 0) (.slice none 0 0) (.slice none 0 0) := by
          unfold BCell
          rw [HGR.out.block (g + 1) hg1w (by simp; omega)]; exact HR4.out
        obtain ⟨cm0, cm1, cm2⟩ := qm.cells
        obtain ⟨r0, r1, r2⟩ := qr9.cells
        have f0 := qr9.thaw 0
        have f1 := qr9.thaw 1
        have f2 := qr9.thaw 2
        obtain ⟨WF, hWF⟩ : ∃ u, u = ((wr.setCell ⟨g + 1, 0, none⟩ (.slice o1 n1 k1)).setCell ⟨g + 1, 1, none⟩ (.slice o2 n2 k2)).setCell ⟨g + 1, 2, none⟩ (.slice (some ⟨gt, 0, none⟩) i i) := ⟨_, rfl⟩
        have hoth : ∀ p, p ≠ g + 1 → WF.heap[p]? = wr.heap[p]? := fun p hp => by rw [hWF, Below.heap_setCell _ _ _ _ hp, Below.heap_setCell _ _ _ _ hp, Below.heap_setCell _ _ _ _ hp]
        have HWF : Hid (BCell 33 WF (g + 1) (.slice o1 n1 k1) (.slice o2 n2 k2) (.slice (some ⟨gt, 0, none⟩) i i)) := by show BCell _ _ _ _ _ _; rw [hWF]; exact qr9.write _ _ _
        have HEQ : Hid (WF = ((wr.setCell ⟨g + 1, 0, none⟩ (.slice o1 n1 k1)).setCell ⟨g + 1, 1, none⟩ (.slice o2 n2 k2)).setCell ⟨g + 1, 2, none⟩ (.slice (some ⟨gt, 0, none⟩) i i)) := hWF
        have hres : MpE w sb xs zs cs (.returned (.tuple #[.agg #[.slice o1 n1 k1, .slice o2 n2 k2, .slice (some ⟨gt, 0, none⟩) i i], .int .i64 0])) WF := by
          have hM := HM.out
          have hcs : cs.take i = cs := List.take_of_length_le (by omega)
          have hgw := HG.out
          have hw3 := HBW.out.size
          have hrows : ∀ (v : Value) (L : List Int), OG (Value.int .i64) W3.heap.size 3 wc v L → OG (Value.int .i64) w.heap.size 3 WF v L := fun v L h => by
            refine (h.of_blocks fun p hp => ?_).mono hw3
            have h1 := h.lt p hp
            have h2 : p ≠ gt := fun e => h.ne HMP.out.row (by decide) (e ▸ hp)
            have h3 := HSB.out.2
            rw [hoth p (by omega), HGR.out.block p h1.2 (by simp; omega)]
          refine ⟨_, _, gt, _, by rw [hM], hrows _ _ HMP.out.r1, hrows _ _ HMP.out.r2, ?_, h9.2.2.2.2.2.1, HMP.out.d12, (hoth sb (fun e => hgsb e.symm)).trans HSN.out.box, ?_, ?_⟩
          · rw [hM, hoth gt (fun e => hggt e.symm), ← rowT_full]; exact HRW.out
          · have h1 := HSN.out.row
            rw [hcs] at h1
            refine (h1.of_blocks fun p hp => hoth p (by have := (h1.lt p hp).1; omega)).mono (Nat.le_trans hw3 HMP.out.bel.size)
          · have hb := (((Below.refl (g + 1) wr).setCell (p := ⟨g + 1, 0, none⟩) (Nat.le_refl _) (.slice o1 n1 k1)).setCell (p := ⟨g + 1, 1, none⟩) (Nat.le_refl _) (.slice o2 n2 k2)).setCell (p := ⟨g + 1, 2, none⟩) (Nat.le_refl _) (.slice (some ⟨gt, 0, none⟩) i i)
            rw [← hWF] at hb
            refine ⟨hb.os.trans (HGR.out.os.trans HBx.out.os), hb.tape.trans (HGR.out.tape.trans HBx.out.tape), hb.output.trans (HGR.out.output.trans HBx.out.output), Nat.le_trans HBx.out.size (Nat.le_trans HGR.out.size hb.size), fun p h1 h2 => ?_⟩
            simp only [List.mem_cons, List.not_mem_nil, or_false] at h2
            rw [hoth p (by omega), HGR.out.block p (Nat.lt_of_lt_of_le h1 HBx.out.size) (by simp; omega), HBx.out.block p h1]
        have HRES : Hid (MpE w sb xs zs cs (.returned (.tuple #[.agg #[.slice o1 n1 k1, .slice o2 n2 k2, .slice (some ⟨gt, 0, none⟩) i i], .int .i64 0])) WF) := hres
        clear hres hWF hoth qm qr9 hg1w hgsb hggt h9
        go_wp2_with fail
        (try simp only [Exit.inBlock, Exit.then])
        rw [← HEQ.out]
        exact bodyPost_ret (results_ctB (p := 4) (u := 5) rfl _ _ (g + 1) 33 _ (0, 0) _ rfl HWF.out Try.underlying33 rfl (by kernel_rfl)) rfl HRES.out
end Go.Proofs.Ytphbbkckigdgoaa

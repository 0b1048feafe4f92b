/-
  Proved here: FactorMap's walk.
-/
import Derived.Test.YtphbbkckigdgoaaFmD
import Derived.Test.YtphbbkckigdgoaaFmE
import Derived.Test.YtphbbkckigdgoaaFmH
import Derived.Test.YtphbbkckigdgoaaFmI
namespace Go.Proofs.Ytphbbkckigdgoaa
set_option linter.unusedVariables false
open Go.RowKit Go.Shelf Go.Lib Go.Sort
def RowY (w : World) (g : Nat) (x : Int) : Prop := w.heap[g]? = some (.cells #[.int .i64 x] 3 (0, 0))
theorem RowY.below {w w' : World} {g : Nat} {x : Int} (h : RowY w g x) (b : Below w.heap.size w w') : RowY w' g x := (b.block g (Array.getElem?_eq_some_iff.1 h).1).trans h
theorem wf_i64 {x : Int} (h : Lit.wf (.int .i64 x)) : -9223372036854775808 ≤ x ∧ x ≤ 9223372036854775807 := by
  have := h
  simp [Lit.wf] at this
  first | exact this | (constructor <;> omega)
/-- What was handed in stands, all but one box. -/
structure KPs (w Wm W : World) (sb : Nat) : Prop where
  bw : Below w.heap.size w W
  kp : ∀ q, q < Wm.heap.size → q ≠ sb → W.heap[q]? = Wm.heap[q]?
  sz : Wm.heap.size ≤ W.heap.size
  ws : w.heap.size ≤ Wm.heap.size
theorem KPs.below {w Wm W W' : World} {sb B : Nat} (h : KPs w Wm W sb) (b : Below B W W') (hB : Wm.heap.size ≤ B) : KPs w Wm W' sb :=
  ⟨h.bw.trans (b.mono (Nat.le_trans h.ws hB)), fun q h1 h2 => (b.block q (Nat.lt_of_lt_of_le h1 hB)).trans (h.kp q h1 h2), Nat.le_trans h.sz b.size, h.ws⟩
theorem KPs.step {w Wm W W' : World} {sb : Nat} (h : KPs w Wm W sb) (b : Below W.heap.size W W') : KPs w Wm W' sb := h.below b h.sz
/-- What Map has left. -/
structure AfM (Wm W : World) (sb g8 : Nat) (c1 c2 : Value) (gt : Nat) (sv : Value) (xs zs cs : List Int) (m : Nat) : Prop where
  seen : W.heap[sb]? = some (.cells #[sv] 22 (0, 0))
  row : OG (Value.int .i64) Wm.heap.size 3 W sv cs
  box : BCell 33 W g8 c1 c2 (.slice (some ⟨gt, 0, none⟩) m m)
  r1 : OG (Value.int .i64) Wm.heap.size 3 W c1 xs
  r2 : OG (Value.int .i64) Wm.heap.size 3 W c2 zs
  r3 : W.heap[gt]? = some (.cells ((dgL m).map Value.string).toArray 9 (0, 0))
  lgt : Wm.heap.size ≤ gt
  d12 : ∀ q, c1.ownBlock = some q → c2.ownBlock ≠ some q
theorem AfM.below {Wm W W' : World} {sb g8 : Nat} {c1 c2 : Value} {gt : Nat} {sv : Value} {xs zs cs : List Int} {m : Nat} (h : AfM Wm W sb g8 c1 c2 gt sv xs zs cs m) (b : Below W.heap.size W W') : AfM Wm W' sb g8 c1 c2 gt sv xs zs cs m :=
  ⟨(b.block sb (Array.getElem?_eq_some_iff.1 h.seen).1).trans h.seen, h.row.below b, h.box.below b, h.r1.below b, h.r2.below b, (b.block gt (Array.getElem?_eq_some_iff.1 h.r3).1).trans h.r3, h.lgt, h.d12⟩
theorem dgL_len (m : Nat) : (dgL m).length = m := by simp [dgL]
theorem dgL_succ (m : Nat) : dgL (m + 1) = dgL m ++ [dgT (m + 1)] := by simp [dgL, List.range_succ]
theorem AfM.r3o {Wm W : World} {sb g8 : Nat} {c1 c2 : Value} {gt : Nat} {sv : Value} {xs zs cs : List Int} {m : Nat} (h : AfM Wm W sb g8 c1 c2 gt sv xs zs cs m) (hm : m ≤ 2147483648) : OG Value.string Wm.heap.size 9 W (.slice (some ⟨gt, 0, none⟩) m m) (dgL m) :=
  ⟨by simp, .inr ⟨gt, m, _, by rw [dgL_len], h.lgt, h.r3, by rw [dgL_len]; exact Nat.le_refl _, by unfold maxLen; omega, by simp [dgL_len], List.take_of_length_le (by simp)⟩⟩
/-- The table that was made, and what it was made of. -/
structure KpF (w W : World) (g g5 : Nat) (s z c u1 u2 u3 : Value) (xs zs cs : List Int) : Prop where
  qa : BCell 24 W g s z c
  qm : BCell 24 W g5 u1 u2 u3
  h1 : RoomB w.heap.size W u1 xs 77
  h2 : RoomB w.heap.size W u2 zs 78
  h3 : RoomB w.heap.size W u3 cs 99
theorem KpF.step {w W W' : World} {g g5 : Nat} {s z c u1 u2 u3 : Value} {xs zs cs : List Int} (h : KpF w W g g5 s z c u1 u2 u3 xs zs cs) (b : Below W.heap.size W W') : KpF w W' g g5 s z c u1 u2 u3 xs zs cs := ⟨h.qa.below b, h.qm.below b, h.h1.below b, h.h2.below b, h.h3.below b⟩
theorem KpF.keep {w Wm W : World} {sb g g5 : Nat} {s z c u1 u2 u3 : Value} {xs zs cs : List Int} {cb : Array Value} (h : KpF w Wm g g5 s z c u1 u2 u3 xs zs cs) (k : KPs w Wm W sb) (hsb : Wm.heap[sb]? = some (.cells cb 22 (0, 0))) : KpF w W g g5 s z c u1 u2 u3 xs zs cs := by
  have hb : ∀ q a b c, BCell 24 Wm q a b c → BCell 24 W q a b c := fun q a b c hq => by
    unfold BCell
    rw [k.kp q hq.lt (fun e => by subst e; rw [hq] at hsb; simp at hsb)]; exact hq
  have hr : ∀ u L m, RoomB w.heap.size Wm u L m → RoomB w.heap.size W u L m := fun u L m hu => by
    obtain ⟨p, cap, e1, e2⟩ := hu
    exact ⟨p, cap, e1, e2.of_blocks fun q hq => k.kp q (e2.lt q hq).2 (fun e => e2.ne hsb (by decide) (e ▸ hq))⟩
  exact ⟨hb _ _ _ _ h.qa, hb _ _ _ _ h.qm, hr _ _ _ h.h1, hr _ _ _ h.h2, hr _ _ _ h.h3⟩
set_option maxRecDepth 100000 in
set_option maxHeartbeats 25600000 in
theorem factorMap_top (s z c : Value) (xs zs cs : List Int) (x : Int) (w : World) (hs : RK .i64 w s xs) (hz : RK .i64 w z zs) (hc : RK .i64 w c cs) (hx : Lit.wf (.int .i64 x)) (bx : xs.length ≤ 17592186043904) (bz : zs.length ≤ 17592186043904) (bc : cs.length ≤ 17592186043904) :
    Calls Try.prog 3 #[.agg #[s, z, c], .int .i64 x] w fun e w' => e = .returned (.bool true) ∧ Below w.heap.size w w' := by
  obtain ⟨i0, hi, hz0, hz1, hz2⟩ := info_parts Try.infoI
  obtain ⟨i1, hi1, hs0, hs1, hs2⟩ := info_parts Try.infoTx
  obtain ⟨hx1, hx2⟩ := wf_i64 hx
  obtain ⟨sO, sN, sC, rfl⟩ : ∃ o n k, s = .slice o n k := by obtain ⟨ao, cap, e⟩ := hs.rg.sl; exact ⟨_, _, _, e⟩
  obtain ⟨zO, zN, zC, rfl⟩ : ∃ o n k, z = .slice o n k := by obtain ⟨ao, cap, e⟩ := hz.rg.sl; exact ⟨_, _, _, e⟩
  obtain ⟨cO, m, cC, rfl⟩ : ∃ o n k, c = .slice o n k := by obtain ⟨ao, cap, e⟩ := hc.rg.sl; exact ⟨_, _, _, e⟩
  have hml : cs.length = m := hc.rg.len
  have HML : Hid (cs.length = m) := hml
  have hm44 : m ≤ 17592186043904 := by rw [← hml]; exact bc
  have HBX : Hid (xs.length ≤ 17592186043904 ∧ zs.length ≤ 17592186043904 ∧ cs.length ≤ 17592186043904) := ⟨bx, bz, bc⟩
  have HS : Hid (RK .i64 w (.slice sO sN sC) xs) := hs
  have HZ : Hid (RK .i64 w (.slice zO zN zC) zs) := hz
  have HC : Hid (RK .i64 w (.slice cO m cC) cs) := hc
  clear hs hz hc bx bz bc hml hx
  obtain ⟨W1, hW1⟩ : ∃ W1, W1 = w.alloc (.cells #[.slice sO sN sC, .slice zO zN zC, .slice cO m cC] 24) := ⟨_, rfl⟩
  obtain ⟨g, hg⟩ : ∃ g, g = w.heap.size := ⟨_, rfl⟩
  have HQA : Hid (BCell 24 W1 g (.slice sO sN sC) (.slice zO zN zC) (.slice cO m cC)) := by show BCell _ _ _ _ _ _; rw [hW1]; exact BCell.new w hg.symm
  have HB1 : Hid (Below w.heap.size w W1) := by show Below _ _ _; rw [hW1]; exact belowB w _
  have HG : Hid (g = w.heap.size) := hg
  have HW1 : Hid (W1 = w.alloc (.cells #[.slice sO sN sC, .slice zO zN zC, .slice cO m cC] 24)) := hW1
  clear hW1 hg
  have CR : Hid _ := roomy13 _ _ _ xs zs cs W1 (HS.out.rg.below (Nat.le_refl _) HB1.out) (HZ.out.rg.below (Nat.le_refl _) HB1.out) (HC.out.rg.below (Nat.le_refl _) HB1.out) HBX.out.1 HBX.out.2.1 HBX.out.2.2
  go_enter Try.func3, Try.ntmps3
  go_upto_region 1 with fail
  rw [← HW1.out, ← HG.out]
  clear HW1
  obtain ⟨ca0, ca1, ca2⟩ := HQA.out.cells
  go_wp2_with fail
  refine Calls.mono CR.out ?_
  rintro e y1 ⟨u1, u2, u3, rfl, hr1, hr2, hr3, b1⟩
  clear CR ca0 ca1 ca2
  obtain ⟨p1, e1, k1, rfl⟩ := hr1.form
  obtain ⟨p2, e2, k2, rfl⟩ := hr2.form
  obtain ⟨p3, e3, k3, rfl⟩ := hr3.form
  obtain ⟨W2, hW2⟩ : ∃ u, u = y1.alloc (.cells #[.slice (some ⟨p1, 0, none⟩) e1 k1, .slice (some ⟨p2, 0, none⟩) e2 k2, .slice (some ⟨p3, 0, none⟩) e3 k3] 24) := ⟨_, rfl⟩
  obtain ⟨g5, hg5⟩ : ∃ u, u = y1.heap.size := ⟨_, rfl⟩
  have b2 : Below y1.heap.size y1 W2 := by rw [hW2]; exact belowB _ _
  have hwr : ∀ u L mm, RoomB W1.heap.size y1 u L mm → RoomB w.heap.size W2 u L mm := fun u L mm h => by
    obtain ⟨p, cap, h1, h2⟩ := h.below b2
    exact ⟨p, cap, h1, h2.mono HB1.out.size⟩
  have HKP : Hid (KpF w W2 g g5 (.slice sO sN sC) (.slice zO zN zC) (.slice cO m cC) (.slice (some ⟨p1, 0, none⟩) e1 k1) (.slice (some ⟨p2, 0, none⟩) e2 k2) (.slice (some ⟨p3, 0, none⟩) e3 k3) xs zs cs) := ⟨(HQA.out.below b1).below b2, by rw [hW2]; exact BCell.new _ hg5.symm, hwr _ _ _ hr1, hwr _ _ _ hr2, hwr _ _ _ hr3⟩
  have HB2 : Hid (Below w.heap.size w W2) := bstepB (bstepB HB1.out b1) b2
  have HW2 : Hid (W2 = y1.alloc (.cells #[.slice (some ⟨p1, 0, none⟩) e1 k1, .slice (some ⟨p2, 0, none⟩) e2 k2, .slice (some ⟨p3, 0, none⟩) e3 k3] 24)) := hW2
  have HG5 : Hid (g5 = y1.heap.size) := hg5
  have em : e3 = m := by obtain ⟨h, -⟩ := hr3.mark (k := 0) (by omega); rw [← h]; exact HML.out
  subst em
  clear hW2 hg5 b1 b2 hr1 hr2 hr3 hwr HQA HB1
  go_upto_region 2 with fail
  rw [← HW2.out, ← HG5.out]
  clear HW2 HG5
  obtain ⟨ca0, ca1, ca2⟩ := HKP.out.qa.cells
  have CS : Hid _ := shapeI (.slice sO sN sC) (.slice zO zN zC) cO e3 cC W2 (by omega) ⟨_, _, _, rfl⟩ ⟨_, _, _, rfl⟩
  go_wp2_with fail
  refine Calls.mono CS.out ?_
  rintro e y2 ⟨rfl, b2⟩
  clear CS ca0 ca1 ca2
  have CK := refCheck13 (.slice sO sN sC) (.slice zO zN zC) xs zs e3 y2 (HS.out.below (Nat.le_refl _) (bstepB HB2.out b2)) (HZ.out.below (Nat.le_refl _) (bstepB HB2.out b2)) (by omega)
  obtain ⟨r, hr⟩ : ∃ r, r = chkE xs zs e3 := ⟨_, rfl⟩
  rw [← hr] at CK
  have HR : Hid (r = chkE xs zs e3) := hr
  have HCK : Hid _ := CK
  have HBy : Hid (Below W2.heap.size W2 y2) := b2
  clear CK hr b2
  go_wp2_with fail
  refine Calls.mono HCK.out ?_
  rintro e W3 ⟨rfl, b3⟩
  clear HCK
  have HB3 : Hid (Below W2.heap.size W2 W3) := bstepB HBy.out b3
  clear b3 HBy
  obtain ⟨W4, hW4⟩ : ∃ u, u = W3.alloc (.cells #[.slice none 0 0] 22) := ⟨_, rfl⟩
  obtain ⟨sb, hsb⟩ : ∃ u, u = W3.heap.size := ⟨_, rfl⟩
  have b4 : Below W3.heap.size W3 W4 := by rw [hW4]; exact belowB _ _
  have HSB : Hid (W4.heap[sb]? = some (.cells #[.slice none 0 0] 22 (0, 0))) := by show _ = _; rw [hW4, hsb]; exact heap_alloc_new _ _
  have HSW : Hid (w.heap.size ≤ sb) := by show _ ≤ _; rw [hsb]; exact Nat.le_trans HB2.out.size HB3.out.size
  have HB4 : Hid (Below w.heap.size w W4) := bstepB (bstepB HB2.out HB3.out) b4
  replace HKP : Hid (KpF w W4 g g5 (.slice sO sN sC) (.slice zO zN zC) (.slice cO e3 cC) (.slice (some ⟨p1, 0, none⟩) e1 k1) (.slice (some ⟨p2, 0, none⟩) e2 k2) (.slice (some ⟨p3, 0, none⟩) e3 k3) xs zs cs) := (HKP.out.step HB3.out).step b4
  have HW4 : Hid (W4 = W3.alloc (.cells #[.slice none 0 0] 22)) := hW4
  have HGS : Hid (sb = W3.heap.size) := hsb
  clear hW4 hsb b4 HB2 HB3
  go_upto_region 4 with fail
  rw [← HW4.out, ← HGS.out]
  clear HW4 HGS
  have HRM : Hid (RK .i64 W4 (.slice (some ⟨p1, 0, none⟩) e1 k1) xs ∧ RK .i64 W4 (.slice (some ⟨p2, 0, none⟩) e2 k2) zs ∧ RG (Value.int .i64) W4 (.slice (some ⟨p3, 0, none⟩) e3 k3) cs) := ⟨HKP.out.h1.rk HS.out, HKP.out.h2.rk HZ.out, HKP.out.h3.rg⟩
  have hrr : (r != r) = false := by simp
  by_cases hr0 : r = 0
  case neg =>
    have CM : Hid _ := mapBad _ _ (some ⟨p3, 0, none⟩) e3 k3 xs zs sb r W4 HRM.out.1 HRM.out.2.1 (by omega) HR.out hr0
    obtain ⟨cm0, cm1, cm2⟩ := HKP.out.qm.cells
    go_wp2_with fail
    refine Calls.mono CM.out ?_
    rintro e y5 ⟨rfl, b5⟩
    clear CM cm0 cm1 cm2
    obtain ⟨W5, hW5⟩ : ∃ u, u = y5.alloc (.cells #[.slice none 0 0, .slice none 0 0, .slice none 0 0] 33) := ⟨_, rfl⟩
    obtain ⟨g8, hg8⟩ : ∃ u, u = y5.heap.size := ⟨_, rfl⟩
    have b6 : Below y5.heap.size y5 W5 := by rw [hW5]; exact belowB _ _
    have HQ8 : Hid (BCell 33 W5 g8 (.slice none 0 0) (.slice none 0 0) (.slice none 0 0)) := by show BCell _ _ _ _ _ _; rw [hW5]; exact BCell.new _ hg8.symm
    have HB5 : Hid (Below W4.heap.size W4 W5) := bstepB b5 b6
    have HW5 : Hid (W5 = y5.alloc (.cells #[.slice none 0 0, .slice none 0 0, .slice none 0 0] 33)) := hW5
    have HG8 : Hid (g8 = y5.heap.size) := hg8
    clear hW5 hg8 b5 b6
    go_upto_region 5 with fail
    rw [← HW5.out, ← HG8.out]
    clear HW5 HG8
    obtain ⟨cm0, cm1, cm2⟩ := (HKP.out.step HB5.out).qm.cells
    go_wp2_with fail
    refine (mapNone _ _ _ _).mono ?_
    rintro e y6 ⟨rfl, b6⟩
    clear cm0 cm1 cm2
    obtain ⟨W6, hW6⟩ : ∃ u, u = y6.alloc (.cells #[.slice none 0 0, .slice none 0 0, .slice none 0 0] 24) := ⟨_, rfl⟩
    have b7 : Below y6.heap.size y6 W6 := by rw [hW6]; exact belowB _ _
    have HB6 : Hid (Below W5.heap.size W5 W6) := bstepB b6 b7
    have HW6 : Hid (W6 = y6.alloc (.cells #[.slice none 0 0, .slice none 0 0, .slice none 0 0] 24)) := hW6
    clear hW6 b6 b7
    go_upto_region 6 with fail
    rw [← HW6.out]
    clear HW6
    generalize y6.heap.size = g10
    have HK6 : Hid (KpF w W6 g g5 (.slice sO sN sC) (.slice zO zN zC) (.slice cO e3 cC) (.slice (some ⟨p1, 0, none⟩) e1 k1) (.slice (some ⟨p2, 0, none⟩) e2 k2) (.slice (some ⟨p3, 0, none⟩) e3 k3) xs zs cs) := (HKP.out.step HB5.out).step HB6.out
    have HBW6 : Hid (Below w.heap.size w W6) := bstepB (bstepB HB4.out HB5.out) HB6.out
    have CT : Hid _ := kept13 w.heap.size _ _ _ _ _ _ xs zs cs W6 HK6.out.h1 HK6.out.h2 HK6.out.h3 (HS.out.below (Nat.le_refl _) HBW6.out) (HZ.out.below (Nat.le_refl _) HBW6.out) (HC.out.below (Nat.le_refl _) HBW6.out)
    obtain ⟨ca0, ca1, ca2⟩ := HK6.out.qa.cells
    obtain ⟨cm0, cm1, cm2⟩ := HK6.out.qm.cells
    have hrn : (r != 0) = true := by simpa using hr0
    go_wp2_with fail
    refine Calls.mono CT.out ?_
    rintro e W7 ⟨rfl, b7⟩
    clear CT ca0 ca1 ca2 cm0 cm1 cm2
    have c8 := ((HQ8.out.below HB6.out).below b7).cells
    obtain ⟨cq0, cq1, cq2⟩ := c8
    have lsb : sb < W4.heap.size := (Array.getElem?_eq_some_iff.1 HSB.out).1
    have hs7 : W7.heap[sb]? = some (.cells #[.slice none 0 0] 22 (0, 0)) := by
      have l5 := Nat.lt_of_lt_of_le lsb HB5.out.size
      have l6 := Nat.lt_of_lt_of_le l5 HB6.out.size
      rw [b7.block sb l6, HB6.out.block sb l5, HB5.out.block sb lsb]; exact HSB.out
    have csb : W7.cell? ⟨sb, 0, none⟩ = some (.slice none 0 0) := by rw [cell_of_row W7 sb _ _ _ _ hs7]; rfl
    have HB7 : Hid (Below w.heap.size w W7) := bstepB HBW6.out b7
    clear b7 lsb hs7
    go_wp2
    go_ret
    exact ⟨rfl, HB7.out⟩
  subst hr0
  have HT : Hid (Tab xs zs cs.length) := by have h := HR.out.symm; rw [← HML.out] at h; exact chk_tab h
  have hm31 : e3 ≤ 2147483647 := by have h1 := HT.out.cells; have h2 := HT.out.many; rw [HML.out] at h1; omega
  clear HR
  have CM : Hid _ := mapS _ _ _ xs zs cs sb W4 HRM.out.1 HRM.out.2.1 HRM.out.2.2 HT.out HBX.out.1 HSB.out
  obtain ⟨cm0, cm1, cm2⟩ := HKP.out.qm.cells
  go_wp2_with fail
  refine Calls.mono CM.out ?_
  rintro e y5 ⟨c1, c2, gt, sv, rfl, a1, a2, a3, a4, a5, a6, a7, a8⟩
  clear CM cm0 cm1 cm2
  rw [HML.out] at a3 ⊢
  obtain ⟨o1, n1, q1, rfl⟩ : ∃ o n k, c1 = .slice o n k := by obtain ⟨ao, cap, e⟩ := a1.rg.sl; exact ⟨_, _, _, e⟩
  obtain ⟨o2, n2, q2, rfl⟩ : ∃ o n k, c2 = .slice o n k := by obtain ⟨ao, cap, e⟩ := a2.rg.sl; exact ⟨_, _, _, e⟩
  obtain ⟨vO, vN, vC, rfl⟩ : ∃ o n k, sv = .slice o n k := by obtain ⟨ao, cap, e⟩ := a7.rg.sl; exact ⟨_, _, _, e⟩
  obtain ⟨W5, hW5⟩ : ∃ u, u = y5.alloc (.cells #[.slice o1 n1 q1, .slice o2 n2 q2, .slice (some ⟨gt, 0, none⟩) e3 e3] 33) := ⟨_, rfl⟩
  obtain ⟨g8, hg8⟩ : ∃ u, u = y5.heap.size := ⟨_, rfl⟩
  have b6 : Below y5.heap.size y5 W5 := by rw [hW5]; exact belowB _ _
  have HAF : Hid (AfM W4 W5 sb g8 (.slice o1 n1 q1) (.slice o2 n2 q2) gt (.slice vO vN vC) xs zs cs e3) := ⟨(b6.block sb (Array.getElem?_eq_some_iff.1 a6).1).trans a6, a7.below b6, by rw [hW5]; exact BCell.new _ hg8.symm, a1.below b6, a2.below b6, (b6.block gt (Array.getElem?_eq_some_iff.1 a3).1).trans a3, a4, a5⟩
  have HKS : Hid (KPs w W4 W5 sb) := by
    have h5 : KPs w W4 y5 sb := ⟨HB4.out.trans (a8.below (B := w.heap.size) (by simpa using HSW.out) HB4.out.size), fun q h1 h2 => a8.block q h1 (by simpa using h2), a8.size, HB4.out.size⟩
    exact h5.step b6
  have HW5 : Hid (W5 = y5.alloc (.cells #[.slice o1 n1 q1, .slice o2 n2 q2, .slice (some ⟨gt, 0, none⟩) e3 e3] 33)) := hW5
  have HG8 : Hid (g8 = y5.heap.size) := hg8
  clear hW5 hg8 b6 a1 a2 a3 a4 a5 a6 a7 a8
  go_upto_region 5 with fail
  rw [← HW5.out, ← HG8.out]
  clear HW5 HG8
  obtain ⟨cm0, cm1, cm2⟩ := (HKP.out.keep HKS.out HSB.out).qm.cells
  go_wp2_with fail
  refine (mapNone _ _ _ _).mono ?_
  rintro e y6 ⟨rfl, b6⟩
  clear cm0 cm1 cm2
  obtain ⟨W6, hW6⟩ : ∃ u, u = y6.alloc (.cells #[.slice none 0 0, .slice none 0 0, .slice none 0 0] 24) := ⟨_, rfl⟩
  have b7 : Below y6.heap.size y6 W6 := by rw [hW6]; exact belowB _ _
  have b67 : Below W5.heap.size W5 W6 := bstepB b6 b7
  replace HKS : Hid (KPs w W4 W6 sb) := HKS.out.step b67
  replace HAF : Hid (AfM W4 W6 sb g8 (.slice o1 n1 q1) (.slice o2 n2 q2) gt (.slice vO vN vC) xs zs cs e3) := HAF.out.below b67
  have HW6 : Hid (W6 = y6.alloc (.cells #[.slice none 0 0, .slice none 0 0, .slice none 0 0] 24)) := hW6
  clear hW6 b6 b7 b67
  go_upto_region 6 with fail
  rw [← HW6.out]
  clear HW6
  generalize y6.heap.size = g10
  have HK6 : Hid (KpF w W6 g g5 (.slice sO sN sC) (.slice zO zN zC) (.slice cO e3 cC) (.slice (some ⟨p1, 0, none⟩) e1 k1) (.slice (some ⟨p2, 0, none⟩) e2 k2) (.slice (some ⟨p3, 0, none⟩) e3 k3) xs zs cs) := HKP.out.keep HKS.out HSB.out
  have CT : Hid _ := kept13 w.heap.size _ _ _ _ _ _ xs zs cs W6 HK6.out.h1 HK6.out.h2 HK6.out.h3 (HS.out.below (Nat.le_refl _) HKS.out.bw) (HZ.out.below (Nat.le_refl _) HKS.out.bw) (HC.out.below (Nat.le_refl _) HKS.out.bw)
  obtain ⟨ca0, ca1, ca2⟩ := HK6.out.qa.cells
  obtain ⟨cm0, cm1, cm2⟩ := HK6.out.qm.cells
  go_wp2_with fail
  refine Calls.mono CT.out ?_
  rintro e W7 ⟨rfl, b7⟩
  clear CT ca0 ca1 ca2 cm0 cm1 cm2 HK6
  replace HKS : Hid (KPs w W4 W7 sb) := HKS.out.step b7
  replace HAF : Hid (AfM W4 W7 sb g8 (.slice o1 n1 q1) (.slice o2 n2 q2) gt (.slice vO vN vC) xs zs cs e3) := HAF.out.below b7
  clear b7
  have HQX : Hid (∀ W, Below W7.heap.size W7 W → BCell 24 W g (.slice sO sN sC) (.slice zO zN zC) (.slice cO e3 cC)) := fun W b => (HKP.out.keep (HKS.out.step b) HSB.out).qa
  obtain ⟨ca0, ca1, ca2⟩ := (HQX.out W7 (Below.refl _ _)).cells
  go_wp2
  clear ca0 ca1 ca2
  go_loopg [12, 13] e3 (fun g1 v v' wr => ∃ (i : Nat) (p q k : _), v = .slice p q k ∧ v' = .int .i64 i ∧ i ≤ e3 ∧ e3 - i ≤ g1 ∧ Hid (OG Value.string W7.heap.size 9 wr (.slice p q k) (dgL i) ∧ Below W7.heap.size W7 wr))
  case atStart => exact ⟨0, none, 0, 0, rfl, rfl, Nat.zero_le _, by omega, ⟨OG.nil _ _ _, Below.refl _ _⟩⟩
  case round =>
    obtain ⟨i, p, q, k, rfl, rfl, him, hg1, HWT⟩ := hrel
    obtain ⟨ca0, ca1, ca2⟩ := (HQX.out wr HWT.out.2).cells
    by_cases hlt : i < e3
    · have hltz : (i : Int) < (e3 : Int) := by omega
      have HD : Hid (Calls Try.prog 9 #[.int .i64 ((i : Int) + 1)] wr fun e w' => e = .returned (.string (dgT (i + 1))) ∧ Below wr.heap.size wr w') := by
        have h := digits_any (i + 1) (by omega) wr
        rw [show (((i + 1 : Nat)) : Int) = (i : Int) + 1 from by omega] at h
        exact h
      go_wp2_with fail
      refine Calls.mono HD.out ?_
      rintro e yd ⟨rfl, bd⟩
      clear HD ca0 ca1 ca2
      obtain ⟨WA, hWA⟩ : ∃ u, u = yd.alloc (.cells #[.string (dgT (i + 1))] 9) := ⟨_, rfl⟩
      obtain ⟨gb, hgb⟩ : ∃ u, u = yd.heap.size := ⟨_, rfl⟩
      have bA : Below wr.heap.size wr WA := bstepB bd (by rw [hWA]; exact belowB _ _)
      have HCB : Hid (WA.cell? ⟨gb, 0, none⟩ = some (.string (dgT (i + 1)))) := by show _ = _; rw [hWA, hgb, World.cell?_alloc_at _ _ _ _ rfl]; rfl
      have HWA : Hid (WA = yd.alloc (.cells #[.string (dgT (i + 1))] 9)) := hWA
      have HGB : Hid (gb = yd.heap.size) := hgb
      have HOA : Hid (OG Value.string W7.heap.size 9 WA (.slice p q k) (dgL i)) := HWT.out.1.below bA
      have HBA : Hid (Below W7.heap.size W7 WA) := bstepB HWT.out.2 bA
      have HLI : Hid ((dgL i).length = i) := dgL_len i
      clear hWA hgb bA bd HWT
      go_wp2_with (at_builtin; rw [← HWA.out, ← HGB.out]; refine wpList_push1L _ (fun _ => rfl) rfl _ _ 31 rfl W7.heap.size 9 i1 (.string ⟨#[]⟩) 16 Try.underlying31 hi1 hs0 hs1 hs2 rfl _ (dgL i) rfl HOA.out gb (dgT (i + 1)) rfl HCB.out (by rw [HLI.out]; unfold maxLen; omega) (by rw [HLI.out]; omega) HBA.out.size ?_)
      intro ng nk nc WB ho hg hgg hlt9
      have HN : Hid (OG Value.string W7.heap.size 9 WB (.slice (some ⟨ng, 0, none⟩) nk nc) (dgL (i + 1)) ∧ Below W7.heap.size W7 WB) := ⟨by rw [dgL_succ]; exact ho, HOA.out.grown HBA.out HBA.out.size hg⟩
      clear ho hg hgg hlt9 HOA HBA HCB HWA HGB HLI
      go_wp2
      go_roundg (e3 - (i + 1))
      case measure => omega
      case rel => exact ⟨i + 1, _, _, _, rfl, by go_num, by omega, Nat.le_refl _, HN⟩
    · have hltz : ¬ (i : Int) < (e3 : Int) := by omega
      have hie : i = e3 := by omega
      have h9 := HWT.out
      rw [hie] at h9
      obtain ⟨Wq, hWq⟩ : ∃ u, u = wr := ⟨_, rfl⟩
      rw [← hWq] at h9
      obtain ⟨tO, tN, tC, ht⟩ : ∃ o n c, Value.slice p q k = .slice o n c := ⟨_, _, _, rfl⟩
      have HWN : Hid (OG Value.string W7.heap.size 9 Wq (.slice p q k) (dgL e3)) := h9.1
      have HKQ : Hid (KPs w W4 Wq sb) := HKS.out.step h9.2
      have HAQ : Hid (AfM W4 Wq sb g8 (.slice o1 n1 q1) (.slice o2 n2 q2) gt (.slice vO vN vC) xs zs cs e3) := HAF.out.below h9.2
      clear h9 HWT HKS HAF ht HQX
      clear hie
      go_wp2_with fail
      subst hWq
      clear ca0 ca1 ca2
      refine (oneI13 x Wq).mono ?_
      rintro e ya ⟨ga, rfl, la, ra, ba⟩
      obtain ⟨W8, hW8⟩ : ∃ u, u = ya.alloc (.cells #[.slice none 0 0, .slice none 0 0, .slice (some ⟨ga, 0, none⟩) 1 1] 24) := ⟨_, rfl⟩
      obtain ⟨g14, hg14⟩ : ∃ u, u = ya.heap.size := ⟨_, rfl⟩
      have b8 : Below ya.heap.size ya W8 := by rw [hW8]; exact belowB _ _
      have lga : ga < ya.heap.size := (Array.getElem?_eq_some_iff.1 ra).1
      have HQ14 : Hid (BCell 24 W8 g14 (.slice none 0 0) (.slice none 0 0) (.slice (some ⟨ga, 0, none⟩) 1 1)) := by show BCell _ _ _ _ _ _; rw [hW8]; exact BCell.new _ hg14.symm
      have HRA : Hid (W8.heap[ga]? = some (.cells #[.int .i64 x] 3 (0, 0))) := (b8.block ga lga).trans ra
      have HB8 : Hid (Below Wq.heap.size Wq W8) := bstepB ba b8
      have HL14 : Hid (Wq.heap.size ≤ ga ∧ ga < g14 ∧ g14 < W8.heap.size) := ⟨la, by omega, HQ14.out.lt⟩
      have HW8 : Hid (W8 = ya.alloc (.cells #[.slice none 0 0, .slice none 0 0, .slice (some ⟨ga, 0, none⟩) 1 1] 24)) := hW8
      have HG14 : Hid (g14 = ya.heap.size) := hg14
      clear hW8 hg14 b8 lga la ra ba
      go_upto_region 16 with fail
      rw [← HW8.out, ← HG14.out]
      clear HW8 HG14
      go_wp2_with fail
      refine (oneI13 x W8).mono ?_
      rintro e yb ⟨gc, rfl, lc, rc, bc⟩
      obtain ⟨W9, hW9⟩ : ∃ u, u = yb.alloc (.cells #[.slice none 0 0, .slice none 0 0, .slice (some ⟨gc, 0, none⟩) 1 1] 24) := ⟨_, rfl⟩
      obtain ⟨g15, hg15⟩ : ∃ u, u = yb.heap.size := ⟨_, rfl⟩
      have b9 : Below yb.heap.size yb W9 := by rw [hW9]; exact belowB _ _
      have lgc : gc < yb.heap.size := (Array.getElem?_eq_some_iff.1 rc).1
      have b89 : Below W8.heap.size W8 W9 := bstepB bc b9
      have HQ15 : Hid (BCell 24 W9 g15 (.slice none 0 0) (.slice none 0 0) (.slice (some ⟨gc, 0, none⟩) 1 1)) := by show BCell _ _ _ _ _ _; rw [hW9]; exact BCell.new _ hg15.symm
      have HRC : Hid (W9.heap[gc]? = some (.cells #[.int .i64 x] 3 (0, 0))) := (b9.block gc lgc).trans rc
      replace HQ14 : Hid (BCell 24 W9 g14 (.slice none 0 0) (.slice none 0 0) (.slice (some ⟨ga, 0, none⟩) 1 1)) := HQ14.out.below b89
      replace HRA : Hid (W9.heap[ga]? = some (.cells #[.int .i64 x] 3 (0, 0))) := (b89.block ga (Nat.lt_trans HL14.out.2.1 HL14.out.2.2)).trans HRA.out
      have HB9 : Hid (Below Wq.heap.size Wq W9) := bstepB HB8.out b89
      have HL15 : Hid (W8.heap.size ≤ gc ∧ gc < g15 ∧ g15 < W9.heap.size) := ⟨lc, by omega, HQ15.out.lt⟩
      have HW9 : Hid (W9 = yb.alloc (.cells #[.slice none 0 0, .slice none 0 0, .slice (some ⟨gc, 0, none⟩) 1 1] 24)) := hW9
      have HG15 : Hid (g15 = yb.heap.size) := hg15
      clear hW9 hg15 b9 lgc lc rc bc b89 HB8
      go_upto_region 17 with fail
      rw [← HW9.out, ← HG15.out]
      clear HW9 HG15
      obtain ⟨d0, d1, d2⟩ := HQ14.out.cells
      obtain ⟨f0, f1, f2⟩ := HQ15.out.cells
      obtain ⟨WA, hWA⟩ : ∃ u, u = W9.alloc (.cells #[.int .i64 5] 3) := ⟨_, rfl⟩
      obtain ⟨gb, hgb⟩ : ∃ u, u = W9.heap.size := ⟨_, rfl⟩
      have bA : Below W9.heap.size W9 WA := by rw [hWA]; exact belowB _ _
      have HCB : Hid (WA.cell? ⟨gb, 0, none⟩ = some (.int .i64 5)) := by show _ = _; rw [hWA, hgb, World.cell?_alloc_at _ _ _ _ rfl]; rfl
      have HWA : Hid (WA = W9.alloc (.cells #[.int .i64 5] 3)) := hWA
      have HGB : Hid (gb = W9.heap.size) := hgb
      have HOA : Hid (OG (Value.int .i64) Wq.heap.size 3 WA (.slice (some ⟨ga, 0, none⟩) 1 1) [x]) := by
        have h : OG (Value.int .i64) Wq.heap.size 3 W9 (.slice (some ⟨ga, 0, none⟩) 1 1) [x] := ⟨rfl, .inr ⟨ga, 1, _, rfl, HL14.out.1, HRA.out, Nat.le_refl _, by unfold maxLen; omega, rfl, rfl⟩⟩
        exact h.below bA
      have HBA : Hid (Below Wq.heap.size Wq WA) := bstepB HB9.out bA
      have HSA : Hid (W9.heap.size < WA.heap.size) := by show _ < _; rw [hWA]; simp
      clear hWA hgb
      have HBA9 : Hid (Below W9.heap.size W9 WA) := bA
      clear bA
      go_upto_region 19 with fail
      go_wp2_with (at_builtin; rw [← HWA.out, ← HGB.out]; refine wpList_push1L _ (fun _ => rfl) rfl _ _ 22 rfl Wq.heap.size 3 i0 (.int .i64 0) 8 Try.underlying22 hi hz0 hz1 hz2 rfl _ [x] rfl HOA.out gb 5 rfl HCB.out (by unfold maxLen; simp) (by simp) HBA.out.size ?_)
      intro ng nk nc WB ho hg hgg hlt9
      have hnk : nk = 2 := ho.rg.len.symm
      subst hnk
      have hle : Wq.heap.size ≤ ng := (ho.lt ng rfl).1
      have h15 := HL15.out
      have h14 := HL14.out
      have q14A := HQ14.out.below HBA9.out
      have q15A := HQ15.out.below HBA9.out
      have rcA : WA.heap[gc]? = some (.cells #[.int .i64 x] 3 (0, 0)) := (HBA9.out.block gc (by omega)).trans HRC.out
      have hgk : ∀ t, t < WA.heap.size → t ≠ ga → WB.heap[t]? = WA.heap[t]? := fun t h1 h2 => hg.block t h1 (fun e => h2 (by have h9 := e; simp [Value.ownBlock] at h9; omega))
      have sA := HBA9.out.size
      have q14B : BCell 24 WB g14 (.slice none 0 0) (.slice none 0 0) (.slice (some ⟨ga, 0, none⟩) 1 1) := (hgk g14 q14A.lt (by omega)).trans q14A
      have q15B : BCell 24 WB g15 (.slice none 0 0) (.slice none 0 0) (.slice (some ⟨gc, 0, none⟩) 1 1) := (hgk g15 q15A.lt (by omega)).trans q15A
      have rcB : WB.heap[gc]? = some (.cells #[.int .i64 x] 3 (0, 0)) := (hgk gc (by omega) (by omega)).trans rcA
      have hng : ng = ga ∨ ng = WA.heap.size := by
        rcases hgg with e | e
        · left; simpa [Value.ownBlock] using e.symm
        · exact .inr e
      have HNG : Hid (ng ≠ g15 ∧ ng ≠ gc ∧ ng ≠ g14) := by rcases hng with e | e <;> exact ⟨by omega, by omega, by omega⟩
      obtain ⟨X1, hX1⟩ : ∃ u, u = WB.setCell ⟨g14, 2, none⟩ (.slice (some ⟨ng, 0, none⟩) 2 nc) := ⟨_, rfl⟩
      have bX1 : Below Wq.heap.size Wq X1 := by rw [hX1]; exact (HOA.out.grown HBA.out HBA.out.size hg).setCell (p := ⟨g14, 2, none⟩) (by show Wq.heap.size ≤ g14; omega) _
      have q14X : BCell 24 X1 g14 (.slice none 0 0) (.slice none 0 0) (.slice (some ⟨ng, 0, none⟩) 2 nc) := by rw [hX1]; unfold BCell; rw [heap_setCell_same WB g14 2 _ _ _ q14B]; rfl
      have q15X : BCell 24 X1 g15 (.slice none 0 0) (.slice none 0 0) (.slice (some ⟨gc, 0, none⟩) 1 1) := by rw [hX1]; exact q15B.other (by omega) _ _
      have rcX : X1.heap[gc]? = some (.cells #[.int .i64 x] 3 (0, 0)) := by rw [hX1, Below.heap_setCell _ _ _ _ (show gc ≠ g14 by omega)]; exact rcB
      have hoX : OG (Value.int .i64) Wq.heap.size 3 X1 (.slice (some ⟨ng, 0, none⟩) 2 nc) ([x] ++ [5]) := ho.of_blocks fun t ht => by
        have e : ng = t := by simpa [Value.ownBlock] using ht
        rw [hX1, Below.heap_setCell _ _ _ _ (by have := HNG.out; show t ≠ g14; omega)]
      have kf := q14B.thaw 2
      obtain ⟨kb0, kb1, kb2⟩ := q14B.cells
      obtain ⟨cn, fn⟩ := hoX.cell (i := 0) (x := x) rfl
      have HX1 : Hid (X1 = WB.setCell ⟨g14, 2, none⟩ (.slice (some ⟨ng, 0, none⟩) 2 nc)) := hX1
      obtain ⟨t1, ht1⟩ : ∃ u, u = IntKind.i64.wrap (x + 1) := ⟨_, rfl⟩
      obtain ⟨X2, hX2⟩ : ∃ u, u = X1.setCell ⟨ng, 0, none⟩ (.int .i64 t1) := ⟨_, rfl⟩
      have HBX2 : Hid (Below Wq.heap.size Wq X2) := by show Below _ _ _; rw [hX2]; exact bX1.setCell (p := ⟨ng, 0, none⟩) hle _
      have HQ15X : Hid (BCell 24 X2 g15 (.slice none 0 0) (.slice none 0 0) (.slice (some ⟨gc, 0, none⟩) 1 1)) := by show BCell _ _ _ _ _ _; rw [hX2]; exact q15X.other (fun e => HNG.out.1 e.symm) _ _
      have HRCX : Hid (X2.heap[gc]? = some (.cells #[.int .i64 x] 3 (0, 0))) := by show _ = _; rw [hX2, Below.heap_setCell _ _ _ _ (fun e => HNG.out.2.1 e.symm)]; exact rcX
      have HX2 : Hid (X2 = X1.setCell ⟨ng, 0, none⟩ (.int .i64 t1)) := hX2
      have HT1 : Hid (IntKind.i64.wrap (x + 1) = t1) := ht1.symm
      have q14C : Hid (X1.cell? ⟨g14, 2, none⟩ = some (.slice (some ⟨ng, 0, none⟩) 2 nc)) := q14X.cells.2.2
      have HCN : Hid (X1.cell? ⟨ng, 0, none⟩ = some (.int .i64 x) ∧ X1.frozen? ⟨ng, 0, none⟩ = false) := ⟨cn, fn⟩
      clear ho hg hgg hlt9 hle h15 h14 q14A q15A rcA hgk sA q14B q15B rcB hng hX1 bX1 q14X q15X rcX hoX cn fn hX2 ht1 d0 d1 d2 f0 f1 f2 HQ14 HQ15 HRA HRC HB9 HL14 HL15 HWA HGB HOA HBA HSA HBA9 HCB
      go_upto_region 20 with fail
      rw [← HX1.out]
      clear HX1 kb0 kb1 kb2 kf
      have c14 := q14C.out
      obtain ⟨cn, fn⟩ := HCN.out
      have hw1 := HT1.out
      go_upto_region 21 with fail
      (try rw [hw1])
      rw [← HX2.out]
      clear HX2 c14 cn fn hw1 q14C HCN HT1 HNG
      have HA2 : Hid (AfM W4 X2 sb g8 (.slice o1 n1 q1) (.slice o2 n2 q2) gt (.slice vO vN vC) xs zs cs e3) := HAQ.out.below HBX2.out
      have HK2 : Hid (KPs w W4 X2 sb) := HKQ.out.step HBX2.out
      have HN2 : Hid (OG Value.string W7.heap.size 9 X2 (.slice p q k) (dgL e3)) := HWN.out.below HBX2.out
      have HF2 : Hid (KpF w X2 g g5 (.slice sO sN sC) (.slice zO zN zC) (.slice cO e3 cC) (.slice (some ⟨p1, 0, none⟩) e1 k1) (.slice (some ⟨p2, 0, none⟩) e2 k2) (.slice (some ⟨p3, 0, none⟩) e3 k3) xs zs cs) := HKP.out.keep HK2.out HSB.out
      have hsn : X2.cell? ⟨sb, 0, none⟩ = some (.slice vO vN vC) := by rw [cell_of_row X2 sb _ _ _ _ HA2.out.seen]; rfl
      obtain ⟨ca0, ca1, ca2⟩ := HF2.out.qa.cells
      obtain ⟨cb0, cb1, cb2⟩ := HA2.out.box.cells
      obtain ⟨ct0, ct1, ct2⟩ := HQ15X.out.cells
      have HI1 : Hid (∀ W, Below X2.heap.size X2 W → Calls Try.prog 13 #[.slice vO vN vC, .slice cO e3 cC] W fun e w' => e = .returned (.bool true) ∧ Below W.heap.size W w') := fun W b => by
        have hb := HC.out
        obtain ⟨_, _, _, _, _, _, hbd, _⟩ := hb
        exact ints13 _ _ cs W (((HA2.out.row.below b).rg).rk hbd) (HC.out.below (Nat.le_refl _) (bstepB HK2.out.bw b))
      have HI2 : Hid (∀ W gx, Below X2.heap.size X2 W → W.heap[gx]? = some (.cells #[.int .i64 x] 3 (0, 0)) → Calls Try.prog 13 #[.slice (some ⟨gc, 0, none⟩) 1 1, .slice (some ⟨gx, 0, none⟩) 1 1] W fun e w' => e = .returned (.bool true) ∧ Below W.heap.size W w') := fun W gx b hgx => by
        have hone : ∀ q, W.heap[q]? = some (.cells #[.int .i64 x] 3 (0, 0)) → RK .i64 W (.slice (some ⟨q, 0, none⟩) 1 1) [x] := fun q hq => by
          have h : OG (Value.int .i64) 0 3 W (.slice (some ⟨q, 0, none⟩) 1 1) [x] := ⟨rfl, .inr ⟨q, 1, _, rfl, Nat.zero_le _, hq, Nat.le_refl _, by unfold maxLen; omega, rfl, rfl⟩⟩
          refine h.rg.rk fun i hi => ?_
          have : i = 0 := by simp at hi; omega
          subst this
          rw [min_i64, max_i64]
          exact ⟨by simpa using hx1, by simpa using hx2⟩
        exact ints13 _ _ [x] W (hone gc ((b.block gc (Array.getElem?_eq_some_iff.1 HRCX.out).1).trans HRCX.out)) (hone gx hgx)
      have HIS : Hid (∀ W, Below X2.heap.size X2 W → Calls Try.prog 14 #[.iface 45 (.agg #[]), .agg #[.slice o1 n1 q1, .slice o2 n2 q2, .slice (some ⟨gt, 0, none⟩) e3 e3], .agg #[.slice sO sN sC, .slice zO zN zC, .int .i64 e3], .slice p q k] W fun e w' => e = .returned (.bool true) ∧ Below W.heap.size W w') := fun W b => by
        have h1 := HS.out.below (Nat.le_refl _) (bstepB HK2.out.bw b)
        have h2 := HZ.out.below (Nat.le_refl _) (bstepB HK2.out.bw b)
        have hA := HA2.out.below b
        have d1 := h1
        have d2 := h2
        obtain ⟨_, _, _, _, _, _, hbd1, _⟩ := d1
        obtain ⟨_, _, _, _, _, _, hbd2, _⟩ := d2
        exact isS _ _ _ _ _ _ xs zs (dgL e3) e3 W (hA.r1.rg.rk hbd1) (hA.r2.rg.rk hbd2) (hA.r3o (by omega)).rg h1 h2 (HN2.out.below b).rg
      have KEEP : ∀ u, Below X2.heap.size X2 u → L4.AllL u [(0, fun w' => w'.cell? ⟨sb, 0, none⟩ = some (.slice vO vN vC)), (2, fun w' => w'.cell? ⟨g, 2, none⟩ = some (.slice cO e3 cC)), (7, fun w' => w'.cell? ⟨g8, 0, none⟩ = some (.slice o1 n1 q1) ∧ w'.cell? ⟨g8, 1, none⟩ = some (.slice o2 n2 q2) ∧ w'.cell? ⟨g8, 2, none⟩ = some (.slice (some ⟨gt, 0, none⟩) e3 e3)), (8, fun w' => w'.cell? ⟨g, 0, none⟩ = some (.slice sO sN sC) ∧ w'.cell? ⟨g, 1, none⟩ = some (.slice zO zN zC) ∧ w'.cell? ⟨g, 2, none⟩ = some (.slice cO e3 cC)), (15, fun w' => w'.cell? ⟨g15, 0, none⟩ = some (.slice none 0 0)), (21, fun w' => w'.cell? ⟨g15, 1, none⟩ = some (.slice none 0 0)), (27, fun w' => w'.cell? ⟨g15, 2, none⟩ = some (.slice (some ⟨gc, 0, none⟩) 1 1))] := fun u hu => ⟨keepR hu hsn, keepR hu ca2, ⟨keepR hu cb0, keepR hu cb1, keepR hu cb2⟩, ⟨keepR hu ca0, keepR hu ca1, keepR hu ca2⟩, keepR hu ct0, keepR hu ct1, keepR hu ct2, trivial⟩
      refine L4.region_late [(0, fun w' => w'.cell? ⟨sb, 0, none⟩ = some (.slice vO vN vC)), (2, fun w' => w'.cell? ⟨g, 2, none⟩ = some (.slice cO e3 cC)), (7, fun w' => w'.cell? ⟨g8, 0, none⟩ = some (.slice o1 n1 q1) ∧ w'.cell? ⟨g8, 1, none⟩ = some (.slice o2 n2 q2) ∧ w'.cell? ⟨g8, 2, none⟩ = some (.slice (some ⟨gt, 0, none⟩) e3 e3)), (8, fun w' => w'.cell? ⟨g, 0, none⟩ = some (.slice sO sN sC) ∧ w'.cell? ⟨g, 1, none⟩ = some (.slice zO zN zC) ∧ w'.cell? ⟨g, 2, none⟩ = some (.slice cO e3 cC)), (15, fun w' => w'.cell? ⟨g15, 0, none⟩ = some (.slice none 0 0)), (21, fun w' => w'.cell? ⟨g15, 1, none⟩ = some (.slice none 0 0)), (27, fun w' => w'.cell? ⟨g15, 2, none⟩ = some (.slice (some ⟨gc, 0, none⟩) 1 1))] (by kernel_rfl) ?_
      have B : Below X2.heap.size X2 X2.drew := (Below.refl _ _).drew
      obtain ⟨w1, hw1⟩ : ∃ u, u = X2.drew := ⟨_, rfl⟩
      rw [← hw1] at B ⊢
      clear hw1
      have hHeld := KEEP _ B
      refine L4.late_take 0 (v := .slice vO vN vC) rfl (by kernel_rfl) (List.Mem.head _) (by kernel_rfl) (by kernel_rfl) (by kernel_rfl) (by kernel_rfl) (fun _ _ _ h => h) (Or.inl ⟨by rfl, ?_⟩) hHeld ?_
      · (intro u hu; (try dsimp only at hu); go_split_ands; go_simp)
      (try simp only [Act.put, List.setIfInBounds_toArray, List.set_cons_zero, List.set_cons_succ])
      refine L4.late_free 1 (v := .pointer (some ⟨g, 2, none⟩)) rfl (by kernel_rfl) (by kernel_rfl) (by kernel_rfl) (by kernel_rfl) (by kernel_rfl) (by kernel_rfl) (fun _ _ _ h => h) (Or.inl ⟨by rfl, ?_⟩) hHeld ?_
      · (intro u _; go_simp)
      (try simp only [Act.put, List.setIfInBounds_toArray, List.set_cons_zero, List.set_cons_succ])
      refine L4.late_take 2 (v := .slice cO e3 cC) rfl (by kernel_rfl) (List.Mem.tail _ (List.Mem.head _)) (by kernel_rfl) (by kernel_rfl) (by kernel_rfl) (by kernel_rfl) (fun _ _ _ h => h) (Or.inl ⟨by rfl, ?_⟩) hHeld ?_
      · (intro u hu; (try dsimp only at hu); go_split_ands; go_simp)
      (try simp only [Act.put, List.setIfInBounds_toArray, List.set_cons_zero, List.set_cons_succ])
      refine L4.late_step 3 (by kernel_rfl) rfl (fun K hK => ?_)
      go_simp
      refine Calls.mono (HI1.out _ B) ?_
      rintro e y2 ⟨rfl, c2_⟩
      have B := B.trans (c2_.mono B.size)
      clear c2_ hHeld
      have hHeld := KEEP _ B
      go_wp2_with fail
      refine hK.out _ _ (L4.AllL.kept hHeld) ?_
      clear hK K
      (try simp only [Act.put, List.setIfInBounds_toArray, List.set_cons_zero, List.set_cons_succ])
      refine L4.late_free 4 (v := .bool true) rfl (by kernel_rfl) (by kernel_rfl) (by kernel_rfl) (by kernel_rfl) (by kernel_rfl) (by kernel_rfl) (fun _ _ _ h => h) (Or.inl ⟨by rfl, ?_⟩) hHeld ?_
      · (intro u _; go_simp)
      (try simp only [Act.put, List.setIfInBounds_toArray, List.set_cons_zero, List.set_cons_succ])
      refine L4.late_free 5 (v := .agg #[]) rfl (by kernel_rfl) (by kernel_rfl) (by kernel_rfl) (by kernel_rfl) (by kernel_rfl) (by kernel_rfl) (fun _ _ _ h => h) (Or.inl ⟨by rfl, ?_⟩) hHeld ?_
      · (intro u _; go_simp)
      (try simp only [Act.put, List.setIfInBounds_toArray, List.set_cons_zero, List.set_cons_succ])
      refine L4.late_free 6 (v := .iface 45 (.agg #[])) rfl (by kernel_rfl) (by kernel_rfl) (by kernel_rfl) (by kernel_rfl) (by kernel_rfl) (by kernel_rfl) (fun _ _ _ h => h) (Or.inl ⟨by rfl, ?_⟩) hHeld ?_
      · (intro u _; go_simp)
      (try simp only [Act.put, List.setIfInBounds_toArray, List.set_cons_zero, List.set_cons_succ])
      refine L4.late_take 7 (v := .agg #[.slice o1 n1 q1, .slice o2 n2 q2, .slice (some ⟨gt, 0, none⟩) e3 e3]) rfl (by kernel_rfl) (List.Mem.tail _ (List.Mem.tail _ (List.Mem.head _))) (by kernel_rfl) (by kernel_rfl) (by kernel_rfl) (by kernel_rfl) (fun _ _ _ h => h) (Or.inl ⟨by rfl, ?_⟩) hHeld ?_
      · (intro u hu; (try dsimp only at hu); go_split_ands; go_simp)
      (try simp only [Act.put, List.setIfInBounds_toArray, List.set_cons_zero, List.set_cons_succ])
      refine L4.late_take 8 (v := .agg #[.slice sO sN sC, .slice zO zN zC, .slice cO e3 cC]) rfl (by kernel_rfl) (List.Mem.tail _ (List.Mem.tail _ (List.Mem.tail _ (List.Mem.head _)))) (by kernel_rfl) (by kernel_rfl) (by kernel_rfl) (by kernel_rfl) (fun _ _ _ h => h) (Or.inl ⟨by rfl, ?_⟩) hHeld ?_
      · (intro u hu; (try dsimp only at hu); go_split_ands; go_simp)
      (try simp only [Act.put, List.setIfInBounds_toArray, List.set_cons_zero, List.set_cons_succ])
      refine L4.late_free 10 (v := .slice p q k) rfl (by kernel_rfl) (by kernel_rfl) (by kernel_rfl) (by kernel_rfl) (by kernel_rfl) (by kernel_rfl) (fun _ _ _ h => h) (Or.inl ⟨by rfl, ?_⟩) hHeld ?_
      · (intro u _; go_simp)
      (try simp only [Act.put, List.setIfInBounds_toArray, List.set_cons_zero, List.set_cons_succ])
      refine L4.late_step 9 (by kernel_rfl) rfl (fun K hK => ?_)
      go_simp
      refine (shapeI (.slice sO sN sC) (.slice zO zN zC) cO e3 cC _ (by omega) ⟨_, _, _, rfl⟩ ⟨_, _, _, rfl⟩).mono ?_
      rintro e y3 ⟨rfl, c3_⟩
      have B := B.trans (c3_.mono B.size)
      clear c3_ hHeld
      have hHeld := KEEP _ B
      go_wp2_with fail
      refine hK.out _ _ (L4.AllL.kept hHeld) ?_
      clear hK K
      (try simp only [Act.put, List.setIfInBounds_toArray, List.set_cons_zero, List.set_cons_succ])
      refine L4.late_step 11 (by kernel_rfl) rfl (fun K hK => ?_)
      go_simp
      refine Calls.mono (HIS.out _ B) ?_
      rintro e y4 ⟨rfl, c4_⟩
      have B := B.trans (c4_.mono B.size)
      clear c4_ hHeld
      have hHeld := KEEP _ B
      go_wp2_with fail
      refine hK.out _ _ (L4.AllL.kept hHeld) ?_
      clear hK K
      (try simp only [Act.put, List.setIfInBounds_toArray, List.set_cons_zero, List.set_cons_succ])
      refine L4.late_free 12 (v := .bool true) rfl (by kernel_rfl) (by kernel_rfl) (by kernel_rfl) (by kernel_rfl) (by kernel_rfl) (by kernel_rfl) (fun _ _ _ h => h) (Or.inl ⟨by rfl, ?_⟩) hHeld ?_
      · (intro u _; go_simp)
      (try simp only [Act.put, List.setIfInBounds_toArray, List.set_cons_zero, List.set_cons_succ])
      refine L4.late_free 13 (v := .bool true) rfl (by kernel_rfl) (by kernel_rfl) (by kernel_rfl) (by kernel_rfl) (by kernel_rfl) (by kernel_rfl) (fun _ _ _ h => h) (Or.inl ⟨by rfl, ?_⟩) hHeld ?_
      · (intro u _; go_simp)
      (try simp only [Act.put, List.setIfInBounds_toArray, List.set_cons_zero, List.set_cons_succ])
      refine L4.late_free 14 (v := .pointer (some ⟨g15, 0, none⟩)) rfl (by kernel_rfl) (by kernel_rfl) (by kernel_rfl) (by kernel_rfl) (by kernel_rfl) (by kernel_rfl) (fun _ _ _ h => h) (Or.inl ⟨by rfl, ?_⟩) hHeld ?_
      · (intro u _; go_simp)
      (try simp only [Act.put, List.setIfInBounds_toArray, List.set_cons_zero, List.set_cons_succ])
      refine L4.late_take 15 (v := .slice none 0 0) rfl (by kernel_rfl) (List.Mem.tail _ (List.Mem.tail _ (List.Mem.tail _ (List.Mem.tail _ (List.Mem.head _))))) (by kernel_rfl) (by kernel_rfl) (by kernel_rfl) (by kernel_rfl) (fun _ _ _ h => h) (Or.inl ⟨by rfl, ?_⟩) hHeld ?_
      · (intro u hu; (try dsimp only at hu); go_split_ands; go_simp)
      (try simp only [Act.put, List.setIfInBounds_toArray, List.set_cons_zero, List.set_cons_succ])
      refine L4.late_free 16 (v := .int .i64 0) rfl (by kernel_rfl) (by kernel_rfl) (by kernel_rfl) (by kernel_rfl) (by kernel_rfl) (by kernel_rfl) (fun _ _ _ h => h) (Or.inl ⟨by rfl, ?_⟩) hHeld ?_
      · (intro u _; go_simp)
      (try simp only [Act.put, List.setIfInBounds_toArray, List.set_cons_zero, List.set_cons_succ])
      refine L4.late_free 17 (v := .bool true) rfl (by kernel_rfl) (by kernel_rfl) (by kernel_rfl) (by kernel_rfl) (by kernel_rfl) (by kernel_rfl) (fun _ _ _ h => h) (Or.inl ⟨by rfl, ?_⟩) hHeld ?_
      · (intro u _; go_simp)
      (try simp only [Act.put, List.setIfInBounds_toArray, List.set_cons_zero, List.set_cons_succ])
      refine L4.late_free 18 (v := .bool true) rfl (by kernel_rfl) (by kernel_rfl) (by kernel_rfl) (by kernel_rfl) (by kernel_rfl) (by kernel_rfl) (fun _ _ _ h => h) (Or.inl ⟨by rfl, ?_⟩) hHeld ?_
      · (intro u _; go_simp)
      (try simp only [Act.put, List.setIfInBounds_toArray, List.set_cons_zero, List.set_cons_succ])
      refine L4.late_free 19 (v := .bool true) rfl (by kernel_rfl) (by kernel_rfl) (by kernel_rfl) (by kernel_rfl) (by kernel_rfl) (by kernel_rfl) (fun _ _ _ h => h) (Or.inl ⟨by rfl, ?_⟩) hHeld ?_
      · (intro u _; go_simp)
      (try simp only [Act.put, List.setIfInBounds_toArray, List.set_cons_zero, List.set_cons_succ])
      refine L4.late_free 20 (v := .pointer (some ⟨g15, 1, none⟩)) rfl (by kernel_rfl) (by kernel_rfl) (by kernel_rfl) (by kernel_rfl) (by kernel_rfl) (by kernel_rfl) (fun _ _ _ h => h) (Or.inl ⟨by rfl, ?_⟩) hHeld ?_
      · (intro u _; go_simp)
      (try simp only [Act.put, List.setIfInBounds_toArray, List.set_cons_zero, List.set_cons_succ])
      refine L4.late_take 21 (v := .slice none 0 0) rfl (by kernel_rfl) (List.Mem.tail _ (List.Mem.tail _ (List.Mem.tail _ (List.Mem.tail _ (List.Mem.tail _ (List.Mem.head _)))))) (by kernel_rfl) (by kernel_rfl) (by kernel_rfl) (by kernel_rfl) (fun _ _ _ h => h) (Or.inl ⟨by rfl, ?_⟩) hHeld ?_
      · (intro u hu; (try dsimp only at hu); go_split_ands; go_simp)
      (try simp only [Act.put, List.setIfInBounds_toArray, List.set_cons_zero, List.set_cons_succ])
      refine L4.late_free 22 (v := .int .i64 0) rfl (by kernel_rfl) (by kernel_rfl) (by kernel_rfl) (by kernel_rfl) (by kernel_rfl) (by kernel_rfl) (fun _ _ _ h => h) (Or.inl ⟨by rfl, ?_⟩) hHeld ?_
      · (intro u _; go_simp)
      (try simp only [Act.put, List.setIfInBounds_toArray, List.set_cons_zero, List.set_cons_succ])
      refine L4.late_free 23 (v := .bool true) rfl (by kernel_rfl) (by kernel_rfl) (by kernel_rfl) (by kernel_rfl) (by kernel_rfl) (by kernel_rfl) (fun _ _ _ h => h) (Or.inl ⟨by rfl, ?_⟩) hHeld ?_
      · (intro u _; go_simp)
      (try simp only [Act.put, List.setIfInBounds_toArray, List.set_cons_zero, List.set_cons_succ])
      refine L4.late_free 24 (v := .bool true) rfl (by kernel_rfl) (by kernel_rfl) (by kernel_rfl) (by kernel_rfl) (by kernel_rfl) (by kernel_rfl) (fun _ _ _ h => h) (Or.inl ⟨by rfl, ?_⟩) hHeld ?_
      · (intro u _; go_simp)
      (try simp only [Act.put, List.setIfInBounds_toArray, List.set_cons_zero, List.set_cons_succ])
      refine L4.late_free 25 (v := .bool true) rfl (by kernel_rfl) (by kernel_rfl) (by kernel_rfl) (by kernel_rfl) (by kernel_rfl) (by kernel_rfl) (fun _ _ _ h => h) (Or.inl ⟨by rfl, ?_⟩) hHeld ?_
      · (intro u _; go_simp)
      (try simp only [Act.put, List.setIfInBounds_toArray, List.set_cons_zero, List.set_cons_succ])
      refine L4.late_free 26 (v := .pointer (some ⟨g15, 2, none⟩)) rfl (by kernel_rfl) (by kernel_rfl) (by kernel_rfl) (by kernel_rfl) (by kernel_rfl) (by kernel_rfl) (fun _ _ _ h => h) (Or.inl ⟨by rfl, ?_⟩) hHeld ?_
      · (intro u _; go_simp)
      (try simp only [Act.put, List.setIfInBounds_toArray, List.set_cons_zero, List.set_cons_succ])
      refine L4.late_take 27 (v := .slice (some ⟨gc, 0, none⟩) 1 1) rfl (by kernel_rfl) (List.Mem.tail _ (List.Mem.tail _ (List.Mem.tail _ (List.Mem.tail _ (List.Mem.tail _ (List.Mem.tail _ (List.Mem.head _))))))) (by kernel_rfl) (by kernel_rfl) (by kernel_rfl) (by kernel_rfl) (fun _ _ _ h => h) (Or.inl ⟨by rfl, ?_⟩) hHeld ?_
      · (intro u hu; (try dsimp only at hu); go_split_ands; go_simp)
      (try simp only [Act.put, List.setIfInBounds_toArray, List.set_cons_zero, List.set_cons_succ])
      refine L4.late_free 28 (v := .int .i64 x) rfl (by kernel_rfl) (by kernel_rfl) (by kernel_rfl) (by kernel_rfl) (by kernel_rfl) (by kernel_rfl) (fun _ _ _ h => h) (Or.inl ⟨by rfl, ?_⟩) hHeld ?_
      · (intro u _; go_simp)
      (try simp only [Act.put, List.setIfInBounds_toArray, List.set_cons_zero, List.set_cons_succ])
      refine L4.late_step 29 (by kernel_rfl) rfl (fun K hK => ?_)
      go_simp
      obtain ⟨y5, hy5⟩ : ∃ u, u = y4.alloc (.cells #[.int .i64 x] 3) := ⟨_, rfl⟩
      obtain ⟨gx, hgx⟩ : ∃ u, u = y4.heap.size := ⟨_, rfl⟩
      rw [← hy5, ← hgx]
      have c5_ : Below y4.heap.size y4 y5 := by rw [hy5]; exact belowB _ _
      have hGX : RowY y5 gx x := by unfold RowY; rw [hy5, hgx]; exact heap_alloc_new _ _
      clear hy5 hgx
      have B := B.trans (c5_.mono B.size)
      clear c5_ hHeld
      have hHeld := KEEP _ B
      refine hK.out _ _ (L4.AllL.kept hHeld) ?_
      clear hK K
      (try simp only [Act.put, List.setIfInBounds_toArray, List.set_cons_zero, List.set_cons_succ])
      refine L4.late_step 30 (by kernel_rfl) rfl (fun K hK => ?_)
      go_simp
      refine Calls.mono (HI2.out _ gx B hGX) ?_
      rintro e y6 ⟨rfl, c6_⟩
      have B := B.trans (c6_.mono B.size)
      replace hGX := hGX.below c6_
      clear c6_ hHeld
      have hHeld := KEEP _ B
      go_wp2_with fail
      refine hK.out _ _ (L4.AllL.kept hHeld) ?_
      clear hK K
      (try simp only [Act.put, List.setIfInBounds_toArray, List.set_cons_zero, List.set_cons_succ])
      refine L4.late_free 31 (v := .bool true) rfl (by kernel_rfl) (by kernel_rfl) (by kernel_rfl) (by kernel_rfl) (by kernel_rfl) (by kernel_rfl) (fun _ _ _ h => h) (Or.inl ⟨by rfl, ?_⟩) hHeld ?_
      · (intro u _; go_simp)
      (try simp only [Act.put, List.setIfInBounds_toArray, List.set_cons_zero, List.set_cons_succ])
      refine L4.late_step 32 (by kernel_rfl) rfl (fun K hK => ?_)
      go_simp
      refine hK.out _ _ (L4.AllL.kept hHeld) ?_
      clear hK K
      (try simp only [Act.put, List.setIfInBounds_toArray, List.set_cons_zero, List.set_cons_succ])
      refine L4.late_done (by kernel_rfl) ?_ _
      clear hHeld KEEP
      have HB3 : Hid (Below X2.heap.size X2 y6) := B
      clear B hsn ca0 ca1 ca2 cb0 cb1 cb2 ct0 ct1 ct2 HI1 HI2 HIS
      (try clear hGX)
      have HA3 : Hid (AfM W4 y6 sb g8 (.slice o1 n1 q1) (.slice o2 n2 q2) gt (.slice vO vN vC) xs zs cs e3) := HA2.out.below HB3.out
      have HK3 : Hid (KPs w W4 y6 sb) := HK2.out.step HB3.out
      obtain ⟨cb0, cb1, cb2⟩ := HA3.out.box.cells
      have CP : Hid _ := spoiltS W4.heap.size _ _ _ xs zs (dgL e3) y6 ⟨#[109, 97, 114, 107]⟩ HK3.out.sz HA3.out.r1 HA3.out.r2 (HA3.out.r3o (by omega)) HA3.out.d12 HT.out.len HBX.out.1 (by rw [dgL_len]; omega)
      go_wp2_with fail
      refine Calls.mono CP.out ?_
      rintro e X4 ⟨rfl, b4⟩
      clear CP cb0 cb1 cb2
      have HK4 : Hid (KPs w W4 X4 sb) := HK3.out.below b4 (Nat.le_refl _)
      have HF4 : Hid (KpF w X4 g g5 (.slice sO sN sC) (.slice zO zN zC) (.slice cO e3 cC) (.slice (some ⟨p1, 0, none⟩) e1 k1) (.slice (some ⟨p2, 0, none⟩) e2 k2) (.slice (some ⟨p3, 0, none⟩) e3 k3) xs zs cs) := HKP.out.keep HK4.out HSB.out
      have CT : Hid _ := kept13 w.heap.size _ _ _ _ _ _ xs zs cs X4 HF4.out.h1 HF4.out.h2 HF4.out.h3 (HS.out.below (Nat.le_refl _) HK4.out.bw) (HZ.out.below (Nat.le_refl _) HK4.out.bw) (HC.out.below (Nat.le_refl _) HK4.out.bw)
      obtain ⟨ca0, ca1, ca2⟩ := HF4.out.qa.cells
      obtain ⟨cm0, cm1, cm2⟩ := HF4.out.qm.cells
      clear b4
      go_wp2_with fail
      refine Calls.mono CT.out ?_
      rintro e X5 ⟨rfl, b5⟩
      clear CT
      go_wp2
      go_ret
      exact ⟨rfl, bstepB HK4.out.bw b5⟩
end Go.Proofs.Ytphbbkckigdgoaa

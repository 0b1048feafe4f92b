/-
  Proved here: package factor's Times at one type.
-/
import Derived.Test.YtjlmignafhhjhaaFacH
import Derived.Test.YtjlmignafhhjhaaFacDI
import Derived.Test.YtjlmignafhhjhaaFacNone
namespace Go.Proofs.Ytjlmignafhhjhaa
set_option linter.unusedVariables false
open Go.RowKit Go.Shelf Go.Lib Go.Sort
theorem infoIT : (Try.prog.info? 3).map (fun i => (i.zero, i.size, i.bytes)) = some (some (.int .i64 0), 1, 8) := by kernel_rfl
/-- What Times leaves, of tables that may be and that go together. -/
def TmEI (mul : Int → Int → Int) (w : World) (xs zs ys us : List Int) (cs ds : List (Int)) (e : Ending) (w' : World) : Prop :=
  Below w.heap.size w w' ∧ ((2147483647 < pr (jS xs zs ys us) ∧ e = .returned (.tuple #[.agg #[.slice none 0 0, .slice none 0 0, .slice none 0 0], .int .i64 4])) ∨
    (pr (jS xs zs ys us) ≤ 2147483647 ∧ ∃ u gz gc, e = .returned (.tuple #[.agg #[u, .slice (some ⟨gz, 0, none⟩) (joinR xs ys).length (joinR xs ys).length, .slice (some ⟨gc, 0, none⟩) (pr (jS xs zs ys us)).toNat (pr (jS xs zs ys us)).toNat], .int .i64 0]) ∧
      OG (Value.int .i64) w.heap.size 3 w' u (joinR xs ys) ∧ w'.heap[gz]? = some (.cells ((jS xs zs ys us).map (Value.int .i64)).toArray 3 (0, 0)) ∧ w'.heap[gc]? = some (.cells ((prodL mul (0) (joinR xs ys) (jS xs zs ys us) xs ys cs ds).map (Value.int .i64)).toArray 3 (0, 0)) ∧
      w.heap.size ≤ gz ∧ w.heap.size ≤ gc ∧ gz ≠ gc ∧ u.ownBlock ≠ some gz ∧ u.ownBlock ≠ some gc))
set_option maxRecDepth 100000 in
set_option maxHeartbeats 12800000 in
theorem timesI (mul : Int → Int → Int) (RT : TypeId) (mf : Nat) (hmeth : ∀ w, (Go.method 277 RT (.agg #[]) "Mul").run Try.prog w = .ok (mf, .agg #[]) w) (hnl : ∀ w, (nilAhead 277 RT (.agg #[]) "Mul").run Try.prog w = .ok (some false) w) (hent : ∀ args w, (callFunc mf args).run Try.prog w = .ok (.enter mf args) w)
    (hMul : ∀ x y w, Calls Try.prog mf #[.agg #[], (Value.int .i64) x, (Value.int .i64) y] w fun e w' => e = .returned ((Value.int .i64) (mul x y)) ∧ Below w.heap.size w w')
    (s z c s' z' c' : Value) (xs zs ys us : List Int) (cs ds : List (Int)) (w : World) (hs : RK .i64 w s xs) (hz : RK .i64 w z zs) (hc : RG (Value.int .i64) w c cs) (hs' : RK .i64 w s' ys) (hz' : RK .i64 w z' us) (hc' : RG (Value.int .i64) w c' ds)
    (ht : Tab xs zs cs.length) (ht' : Tab ys us ds.length) (hx : xs.length ≤ 100000) (hy : ys.length ≤ 100000) (hcl : clash xs zs ys us = false) :
    Calls Try.prog 26 #[.iface RT (.agg #[]), .agg #[s, z, c], .agg #[s', z', c']] w (TmEI mul w xs zs ys us cs ds) := by
  obtain ⟨sO, sN, sC, rfl⟩ : ∃ o n c, s = .slice o n c := by obtain ⟨ao, cap, e, -⟩ := hs; exact ⟨_, _, _, e⟩
  obtain ⟨zO, zN, zC, rfl⟩ : ∃ o n c, z = .slice o n c := by obtain ⟨ao, cap, e, -⟩ := hz; exact ⟨_, _, _, e⟩
  obtain ⟨pO, pN, pC, rfl⟩ : ∃ o n c, s' = .slice o n c := by obtain ⟨ao, cap, e, -⟩ := hs'; exact ⟨_, _, _, e⟩
  obtain ⟨qO, qN, qC, rfl⟩ : ∃ o n c, z' = .slice o n c := by obtain ⟨ao, cap, e, -⟩ := hz'; exact ⟨_, _, _, e⟩
  obtain ⟨W1, hW1⟩ : ∃ W1, W1 = ((w.alloc (.cells #[(.slice sO sN sC), (.slice zO zN zC), c] 34)).alloc (.cells #[(.slice pO pN pC), (.slice qO qN qC), c'] 34)).alloc (.cells #[.slice none 0 0, .slice none 0 0, .slice none 0 0] 34) := ⟨_, rfl⟩
  obtain ⟨g, hg⟩ : ∃ g, g = w.heap.size := ⟨_, rfl⟩
  have qa : BCell 34 W1 g (.slice sO sN sC) (.slice zO zN zC) c := by rw [hW1]; exact ((BCell.new w hg.symm).step _).step _
  have qb : BCell 34 W1 (g + 1) (.slice pO pN pC) (.slice qO qN qC) c' := by rw [hW1]; exact (BCell.new _ (by simp [hg])).step _
  have qr : BCell 34 W1 (g + 1 + 1) (.slice none 0 0) (.slice none 0 0) (.slice none 0 0) := by rw [hW1]; exact BCell.new _ (by simp [hg])
  have b0 : Below w.heap.size w W1 := by rw [hW1]; exact bstepB (bstepB (belowB w _) (belowB _ _)) (belowB _ _)
  have z0 : g + 1 + 1 + 1 ≤ W1.heap.size := by rw [hW1]; simp [hg]
  have HS : Hid (RK .i64 w (.slice sO sN sC) xs) := hs
  have HZ : Hid (RK .i64 w (.slice zO zN zC) zs) := hz
  have HS' : Hid (RK .i64 w (.slice pO pN pC) ys) := hs'
  have HZ' : Hid (RK .i64 w (.slice qO qN qC) us) := hz'
  have HCC : Hid (RG (Value.int .i64) w c cs) := hc
  have HCC' : Hid (RG (Value.int .i64) w c' ds) := hc'
  have HT : Hid (Tab xs zs cs.length) := ht
  have HT' : Hid (Tab ys us ds.length) := ht'
  have HX : Hid (xs.length ≤ 100000 ∧ ys.length ≤ 100000) := ⟨hx, hy⟩
  have HRI : Hid (Rise xs ∧ Rise ys) := ⟨okS_rise ht.len ht.ok, okS_rise ht'.len ht'.ok⟩
  have HCL : Hid (clash xs zs ys us = false) := hcl
  have HB : Hid (Below w.heap.size w W1) := b0
  have HG : Hid (g = w.heap.size) := hg
  have HW1 : Hid (W1 = ((w.alloc (.cells #[(.slice sO sN sC), (.slice zO zN zC), c] 34)).alloc (.cells #[(.slice pO pN pC), (.slice qO qN qC), c'] 34)).alloc (.cells #[.slice none 0 0, .slice none 0 0, .slice none 0 0] 34)) := hW1
  have HQA : Hid (BCell 34 W1 g (.slice sO sN sC) (.slice zO zN zC) c) := qa
  have HQB : Hid (BCell 34 W1 (g + 1) (.slice pO pN pC) (.slice qO qN qC) c') := qb
  have HQR : Hid (BCell 34 W1 (g + 1 + 1) (.slice none 0 0) (.slice none 0 0) (.slice none 0 0)) := qr
  obtain ⟨co, cc, rfl, hc1, hc2, -, -⟩ := hc
  obtain ⟨co', cc', rfl, hc1', hc2', -, -⟩ := hc'
  unfold maxLen at hc2 hc2'
  have HCK : Hid (∀ u, Below w.heap.size w u → Calls Try.prog 52 #[.agg #[(.slice sO sN sC), (.slice zO zN zC), .slice co cs.length cc]] u fun e w' => e = .returned (.int .i64 0) ∧ Below u.heap.size u w') := fun u hu => by
    have := checkI (.slice sO sN sC) (.slice zO zN zC) xs zs co cs.length cc u (hs.below (Nat.le_refl _) hu) (hz.below (Nat.le_refl _) hu) (by omega)
    rw [chk_ok ht] at this; exact this
  have HCK' : Hid (∀ u, Below w.heap.size w u → Calls Try.prog 52 #[.agg #[(.slice pO pN pC), (.slice qO qN qC), .slice co' ds.length cc']] u fun e w' => e = .returned (.int .i64 0) ∧ Below u.heap.size u w') := fun u hu => by
    have := checkI (.slice pO pN pC) (.slice qO qN qC) ys us co' ds.length cc' u (hs'.below (Nat.le_refl _) hu) (hz'.below (Nat.le_refl _) hu) (by omega)
    rw [chk_ok ht'] at this; exact this
  have HM1 : Hid (∀ w, (Go.method 277 RT (.agg #[]) "Mul").run Try.prog w = .ok (mf, .agg #[]) w) := hmeth
  have HM0 : Hid (∀ w, (nilAhead 277 RT (.agg #[]) "Mul").run Try.prog w = .ok (some false) w) := hnl
  have HM2 : Hid (∀ args w, (callFunc mf args).run Try.prog w = .ok (.enter mf args) w) := hent
  have HM3 : Hid (∀ x y w, Calls Try.prog mf #[.agg #[], (Value.int .i64) x, (Value.int .i64) y] w fun e w' => e = .returned ((Value.int .i64) (mul x y)) ∧ Below w.heap.size w w') := hMul
  obtain ⟨m, hm⟩ : ∃ m, cs.length = m := ⟨_, rfl⟩
  obtain ⟨m', hm'⟩ : ∃ m, ds.length = m := ⟨_, rfl⟩
  have HM : Hid (cs.length = m ∧ ds.length = m') := ⟨hm, hm'⟩
  rw [hm] at hc1 HQA HCK HCC HW1 HT ⊢
  rw [hm'] at hc1' HQB HCK' HCC' HW1 HT' ⊢
  clear hW1 hg hs hz hs' hz' ht ht' hx hy b0 qa qb qr hcl hmeth hent hMul hm hm' hnl
  go_enter Try.func26, Try.ntmps26
  go_upto_region 1 with fail
  rw [← HW1.out, ← HG.out]
  clear HW1
  obtain ⟨ca0, ca1, ca2⟩ := HQA.out.cells
  obtain ⟨cb0, cb1, cb2⟩ := HQB.out.cells
  have HWR : Hid (∃ u, u = W1.alloc (.cells #[(.slice sO sN sC), (.slice zO zN zC), .slice co m cc, (.slice pO pN pC), (.slice qO qN qC), .slice co' m' cc'] 34)) := ⟨_, rfl⟩
  obtain ⟨W3, hW3⟩ := HWR.out
  obtain ⟨gr, hgr⟩ : ∃ u, u = W1.heap.size := ⟨_, rfl⟩
  have HRW : Hid (W3.heap[gr]? = some (.cells #[(.slice sO sN sC), (.slice zO zN zC), .slice co m cc, (.slice pO pN pC), (.slice qO qN qC), .slice co' m' cc'] 34 (0, 0))) := by show _ = _; rw [hW3, hgr]; exact heap_alloc_new _ _
  have b3 : Below W1.heap.size W1 W3 := by rw [hW3]; exact belowB _ _
  have z3 : gr < W3.heap.size := by rw [hW3, hgr]; simp
  have HB3 : Hid (Below W1.heap.size W1 W3) := b3
  have HW3 : Hid (W3 = W1.alloc (.cells #[(.slice sO sN sC), (.slice zO zN zC), .slice co m cc, (.slice pO pN pC), (.slice qO qN qC), .slice co' m' cc'] 34)) := hW3
  have HGR : Hid (gr = W1.heap.size) := hgr
  clear hW3 hgr b3 HWR
  go_upto_region 4 with fail
  rw [← HW3.out, ← HGR.out]
  clear HW3 ca0 ca1 ca2 cb0 cb1 cb2
  go_loopg [9, 10, 26] 2 (fun g1 _v9 _v10 v26 wr => ∃ i : Nat, v26 = .int .i64 i ∧ i ≤ 2 ∧ 2 - i ≤ g1 ∧ Hid (Below W3.heap.size W3 wr))
  case atStart => exact ⟨0, rfl, by omega, by omega, Below.refl _ _⟩
  case round =>
    obtain ⟨i, rfl, hi2, hg1, HWr⟩ := hrel
    have bwr : Below w.heap.size w wr := bstepB (bstepB HB.out HB3.out) HWr.out
    have hrw : wr.heap[gr]? = some (.cells #[(.slice sO sN sC), (.slice zO zN zC), .slice co m cc, (.slice pO pN pC), (.slice qO qN qC), .slice co' m' cc'] 34 (0, 0)) := by rw [HWr.out.block gr z3]; exact HRW.out
    have r0 : wr.cell? ⟨gr, 0, none⟩ = some (.slice sO sN sC) := by simp [World.cell?, hrw]
    have r1 : wr.cell? ⟨gr, 1, none⟩ = some (.slice zO zN zC) := by simp [World.cell?, hrw]
    have r2 : wr.cell? ⟨gr, 2, none⟩ = some (.slice co m cc) := by simp [World.cell?, hrw]
    have r3 : wr.cell? ⟨gr, 3, none⟩ = some (.slice pO pN pC) := by simp [World.cell?, hrw]
    have r4 : wr.cell? ⟨gr, 4, none⟩ = some (.slice qO qN qC) := by simp [World.cell?, hrw]
    have r5 : wr.cell? ⟨gr, 5, none⟩ = some (.slice co' m' cc') := by simp [World.cell?, hrw]
    clear hrw
    have hcase : i = 0 ∨ i = 1 ∨ i = 2 := by omega
    rcases hcase with rfl | rfl | rfl
    · obtain ⟨W5, hW5⟩ : ∃ u, u = wr.alloc (.cells #[(.slice sO sN sC), (.slice zO zN zC), .slice co m cc] 34) := ⟨_, rfl⟩
      obtain ⟨gp, hgp⟩ : ∃ u, u = wr.heap.size := ⟨_, rfl⟩
      have q5 : BCell 34 W5 gp (.slice sO sN sC) (.slice zO zN zC) (.slice co m cc) := by rw [hW5]; exact BCell.new _ hgp.symm
      have b5 : Below wr.heap.size wr W5 := by rw [hW5]; exact belowB _ _
      have C5 : Hid _ := HCK.out W5 (bstepB bwr b5)
      have HB5 : Hid (Below wr.heap.size wr W5) := b5
      have HW5 : Hid (W5 = wr.alloc (.cells #[(.slice sO sN sC), (.slice zO zN zC), .slice co m cc] 34)) := hW5
      have HGP : Hid (gp = wr.heap.size) := hgp
      have HQ5 : Hid (BCell 34 W5 gp (.slice sO sN sC) (.slice zO zN zC) (.slice co m cc)) := q5
      clear hW5 hgp b5 bwr q5
      go_upto_region 6 with fail
      rw [← HW5.out, ← HGP.out]
      clear HW5 HGP r0 r1 r2 r3 r4 r5
      obtain ⟨p0, p1, p2⟩ := HQ5.out.cells
      go_wp2_with fail
      refine Calls.mono C5.out ?_
      rintro e w6 ⟨rfl, b6⟩
      have HW6 : Hid (Below W3.heap.size W3 w6) := bstepB HWr.out (bstepB HB5.out b6)
      clear C5 p0 p1 p2 b6 HB5 HQ5 HWr
      go_wp2
      go_roundg 1
      case measure => omega
      case rel => exact ⟨1, by go_num, by omega, by omega, HW6⟩
    · obtain ⟨W5, hW5⟩ : ∃ u, u = wr.alloc (.cells #[(.slice pO pN pC), (.slice qO qN qC), .slice co' m' cc'] 34) := ⟨_, rfl⟩
      obtain ⟨gp, hgp⟩ : ∃ u, u = wr.heap.size := ⟨_, rfl⟩
      have q5 : BCell 34 W5 gp (.slice pO pN pC) (.slice qO qN qC) (.slice co' m' cc') := by rw [hW5]; exact BCell.new _ hgp.symm
      have b5 : Below wr.heap.size wr W5 := by rw [hW5]; exact belowB _ _
      have C5 : Hid _ := HCK'.out W5 (bstepB bwr b5)
      have HB5 : Hid (Below wr.heap.size wr W5) := b5
      have HW5 : Hid (W5 = wr.alloc (.cells #[(.slice pO pN pC), (.slice qO qN qC), .slice co' m' cc'] 34)) := hW5
      have HGP : Hid (gp = wr.heap.size) := hgp
      have HQ5 : Hid (BCell 34 W5 gp (.slice pO pN pC) (.slice qO qN qC) (.slice co' m' cc')) := q5
      clear hW5 hgp b5 bwr q5
      go_upto_region 6 with fail
      rw [← HW5.out, ← HGP.out]
      clear HW5 HGP r0 r1 r2 r3 r4 r5
      obtain ⟨p0, p1, p2⟩ := HQ5.out.cells
      go_wp2_with fail
      refine Calls.mono C5.out ?_
      rintro e w6 ⟨rfl, b6⟩
      have HW6 : Hid (Below W3.heap.size W3 w6) := bstepB HWr.out (bstepB HB5.out b6)
      clear C5 p0 p1 p2 b6 HB5 HQ5 HWr
      go_wp2
      go_roundg 0
      case measure => omega
      case rel => exact ⟨2, by go_num, by omega, by omega, HW6⟩
    · clear r0 r1 r2 r3 r4 r5
      have HW6 : Hid (Below W1.heap.size W1 wr) := bstepB HB3.out HWr.out
      have HBW : Hid (Below w.heap.size w wr) := bwr
      clear bwr HWr HB3 HRW hg1 hi2 z3 HCK HCK' HGR
      have HQA2 : Hid (BCell 34 wr g (.slice sO sN sC) (.slice zO zN zC) (.slice co m cc)) := HQA.out.below HW6.out
      have HQB2 : Hid (BCell 34 wr (g + 1) (.slice pO pN pC) (.slice qO qN qC) (.slice co' m' cc')) := HQB.out.below HW6.out
      have HQR2 : Hid (BCell 34 wr (g + 1 + 1) (.slice none 0 0) (.slice none 0 0) (.slice none 0 0)) := HQR.out.below HW6.out
      have z6 : g + 1 + 1 + 1 ≤ wr.heap.size := Nat.le_trans z0 HW6.out.size
      clear HQA HQB HQR HW6 HB z0
      have CJ : Hid _ := joinedI (.slice sO sN sC) (.slice zO zN zC) (.slice co m cc) (.slice pO pN pC) (.slice qO qN qC) (.slice co' m' cc') xs zs ys us wr (HS.out.below (Nat.le_refl _) HBW.out) (HZ.out.below (Nat.le_refl _) HBW.out) (HS'.out.below (Nat.le_refl _) HBW.out) (HZ'.out.below (Nat.le_refl _) HBW.out) HT.out.len HT'.out.len HRI.out.1 HRI.out.2 HX.out.1 HX.out.2 HT.out.ones HT'.out.ones
      obtain ⟨ca0, ca1, ca2⟩ := HQA2.out.cells
      obtain ⟨cb0, cb1, cb2⟩ := HQB2.out.cells
      go_wp2_with fail
      refine Calls.mono CJ.out ?_
      rintro e w7 ⟨b7, hj⟩
      clear CJ ca0 ca1 ca2 cb0 cb1 cb2
      rcases hj with ⟨hcl2, -⟩ | ⟨-, u, gz, rfl, hU, hZ, hgz, hune⟩
      · exact absurd hcl2 (by rw [HCL.out]; simp)
      have HQA3 : Hid (BCell 34 w7 g (.slice sO sN sC) (.slice zO zN zC) (.slice co m cc)) := HQA2.out.below b7
      have HQB3 : Hid (BCell 34 w7 (g + 1) (.slice pO pN pC) (.slice qO qN qC) (.slice co' m' cc')) := HQB2.out.below b7
      have HQR3 : Hid (BCell 34 w7 (g + 1 + 1) (.slice none 0 0) (.slice none 0 0) (.slice none 0 0)) := HQR2.out.below b7
      have HBW7 : Hid (Below w.heap.size w w7) := bstepB HBW.out b7
      have z7 : g + 1 + 1 + 1 ≤ gz := Nat.le_trans z6 hgz
      have hgz7 : gz < w7.heap.size := (Array.getElem?_eq_some_iff.1 hZ).1
      have HUB : Hid (∀ b, u.ownBlock = some b → g + 1 + 1 + 1 ≤ b ∧ b < w7.heap.size) := fun b hb => ⟨Nat.le_trans z6 (hU.lt b hb).1, (hU.lt b hb).2⟩
      replace hU := hU.mono (B' := w.heap.size) HBW.out.size
      obtain ⟨U, hUe⟩ : ∃ U, joinR xs ys = U := ⟨_, rfl⟩
      obtain ⟨S, hSe⟩ : ∃ S, jS xs zs ys us = S := ⟨_, rfl⟩
      have hUl : U.length ≤ 200000 := by rw [← hUe]; have := len_both HRI.out.1 HRI.out.2; have := HX.out; omega
      have hSl : S.length = U.length := by rw [← hUe, ← hSe]; exact jS_len _ _ _ _
      have hone : ∀ q ∈ S, 1 ≤ q := by rw [← hSe]; exact jS_ones HRI.out.1 HRI.out.2 HT.out.len HT'.out.len HT.out.ones HT'.out.ones
      have hsb : ∀ q ∈ S, q ≤ 9223372036854775807 := by rw [← hSe]; exact jS_bd (fun q hq => (HZ.out.bd q hq).2) (fun q hq => (HZ'.out.bd q hq).2)
      have hsl : sel (mask U xs) S = zs := by rw [← hUe, ← hSe]; exact jS_left HRI.out.1 HRI.out.2 HT.out.len HT.out.ones HT'.out.ones HCL.out
      have hsr : sel (mask U ys) S = us := by rw [← hUe, ← hSe]; exact jS_right HRI.out.1 HRI.out.2 HT'.out.len HT.out.ones HT'.out.ones HCL.out
      have HUM : Hid (∀ q ∈ U, q ∈ xs ∨ q ∈ ys) := by show ∀ q ∈ U, q ∈ xs ∨ q ∈ ys; rw [← hUe]; exact fun q hq => (mem_joinR ys xs q).1 hq
      rw [hUe] at hU ⊢
      rw [hSe] at hZ
      have HE : Hid (∀ e w', (Below w.heap.size w w' ∧ ((2147483647 < pr S ∧ e = .returned (.tuple #[.agg #[.slice none 0 0, .slice none 0 0, .slice none 0 0], .int .i64 4])) ∨
        (pr S ≤ 2147483647 ∧ ∃ u gz gc, e = .returned (.tuple #[.agg #[u, .slice (some ⟨gz, 0, none⟩) U.length U.length, .slice (some ⟨gc, 0, none⟩) (pr S).toNat (pr S).toNat], .int .i64 0]) ∧
          OG (Value.int .i64) w.heap.size 3 w' u U ∧ w'.heap[gz]? = some (.cells (S.map (Value.int .i64)).toArray 3 (0, 0)) ∧ w'.heap[gc]? = some (.cells ((prodL mul (0) U S xs ys cs ds).map (Value.int .i64)).toArray 3 (0, 0)) ∧
          w.heap.size ≤ gz ∧ w.heap.size ≤ gc ∧ gz ≠ gc ∧ u.ownBlock ≠ some gz ∧ u.ownBlock ≠ some gc))) → TmEI mul w xs zs ys us cs ds e w') := fun e w' h => by unfold TmEI; rw [hUe, hSe]; exact h
      have hneg : negs S = false := by
        cases hh : negs S with
        | false => rfl
        | true => obtain ⟨q, hq, e⟩ := List.any_eq_true.1 hh; have := hone q hq; simp [isNeg] at e; omega
      obtain ⟨n, hn⟩ : ∃ n, U.length = n := ⟨_, rfl⟩
      rw [hn] at HE hUl ⊢
      have hSn : S.length = n := hSl.trans hn
      have hZK : RK .i64 w7 (.slice (some ⟨gz, 0, none⟩) n n) S := by
        have := (own_heap hZ (B := 0) (by unfold maxLen; omega) (Nat.zero_le _)).rg.rk (k := .i64) (fun i hi => by
          rw [min_i64, max_i64, List.getD_eq_getElem?_getD, List.getElem?_eq_getElem hi]
          have h1 := hone _ (List.getElem_mem hi); have h2 := hsb _ (List.getElem_mem hi)
          simp only [Option.getD_some]; omega)
        rw [hSn] at this; exact this
      have HCT : Hid (Calls Try.prog 34 #[.slice (some ⟨gz, 0, none⟩) n n] w7 fun e w' => e = .returned (.tuple #[.int .i64 (cntN S), .int .i64 (cntE S)]) ∧ ∃ q, w' = w7.drewN q) := countI _ S w7 hZK
      have HUU : Hid (OG (Value.int .i64) w.heap.size 3 w7 u U) := hU
      have HZZ : Hid (w7.heap[gz]? = some (.cells (S.map (Value.int .i64)).toArray 3 (0, 0))) := hZ
      have HFA : Hid (negs S = false ∧ (∀ q ∈ S, 1 ≤ q) ∧ sel (mask U xs) S = zs ∧ sel (mask U ys) S = us ∧ S.length = n ∧ U.length = n ∧ (∀ q ∈ S, q ≤ 9223372036854775807)) := ⟨hneg, hone, hsl, hsr, hSn, hn, hsb⟩
      have HUN : Hid (u.ownBlock ≠ some gz) := hune
      have HZK : Hid (RK .i64 w7 (.slice (some ⟨gz, 0, none⟩) n n) S) := hZK
      clear hU hZ hneg hone hsl hsr hSn hn hsb hUe hSe hSl hune b7 hgz HQA2 HQB2 HQR2 HBW z6 hZK HCL
      obtain ⟨uo, un, uc, hue⟩ : ∃ uo un uc, u = .slice uo un uc := by obtain ⟨ao, cap, e, -⟩ := HUU.out.sl; exact ⟨_, _, _, e⟩
      subst hue
      by_cases hbig : 2147483647 < pr S
      · obtain ⟨e1, e2⟩ := cnt_many HFA.out.1 hbig
        have HC4 := HCT.out
        rw [e1, e2] at HC4
        have HC5 : Hid _ := HC4
        have HRES : Hid (∀ w', Below w7.heap.size w7 w' → TmEI mul w xs zs ys us cs ds (.returned (.tuple #[.agg #[.slice none 0 0, .slice none 0 0, .slice none 0 0], .int .i64 4])) w') := fun w' b => HE.out _ _ ⟨bstepB HBW7.out b, .inl ⟨hbig, rfl⟩⟩
        clear HC4 e1 e2 HCT HE hbig
        go_wp2_with fail
        refine Calls.mono HC5.out ?_
        rintro e w8 ⟨rfl, q, rfl⟩
        have b8 : Below w7.heap.size w7 (w7.drewN q) := below_drewN (Below.refl _ _) q
        generalize w7.drewN q = w8 at *
        have HR8 : Hid _ := HRES.out w8 b8
        have q8 := HQR3.out.below b8
        have HW8 : Hid (BCell 34 (((w8.setCell ⟨g + 1 + 1, 0, none⟩ (.slice none 0 0)).setCell ⟨g + 1 + 1, 1, none⟩ (.slice none 0 0)).setCell ⟨g + 1 + 1, 2, none⟩ (.slice none 0 0)) (g + 1 + 1) (.slice none 0 0) (.slice none 0 0) (.slice none 0 0)) := q8.write _ _ _
        have HR9 : Hid (TmEI mul w xs zs ys us cs ds (.returned (.tuple #[.agg #[.slice none 0 0, .slice none 0 0, .slice none 0 0], .int .i64 4])) (((w8.setCell ⟨g + 1 + 1, 0, none⟩ (.slice none 0 0)).setCell ⟨g + 1 + 1, 1, none⟩ (.slice none 0 0)).setCell ⟨g + 1 + 1, 2, none⟩ (.slice none 0 0))) := by
          have hb := ((HR8.out.1.setCell (p := ⟨g + 1 + 1, 0, none⟩) (by show w.heap.size ≤ g + 1 + 1; rw [HG.out]; omega) (.slice none 0 0)).setCell (p := ⟨g + 1 + 1, 1, none⟩) (by show w.heap.size ≤ g + 1 + 1; rw [HG.out]; omega) (.slice none 0 0)).setCell (p := ⟨g + 1 + 1, 2, none⟩) (by show w.heap.size ≤ g + 1 + 1; rw [HG.out]; omega) (.slice none 0 0)
          rcases HR8.out.2 with ⟨h1, h2⟩ | ⟨_, _, _, _, h2, _⟩
          · exact ⟨hb, .inl ⟨h1, h2⟩⟩
          · simp at h2
        obtain ⟨k0, k1, k2⟩ := q8.cells
        have f0 := q8.thaw 0
        have f1 := q8.thaw 1
        have f2 := q8.thaw 2
        clear HC5 HR8 HRES b8 q8
        go_wp2_with fail
        (try simp only [Exit.inBlock, Exit.then])
        exact bodyPost_ret (results_ctB (p := 6) (u := 7) rfl _ _ (g + 1 + 1) 34 _ (0, 0) _ rfl HW8.out Try.underlying34 rfl (by kernel_rfl)) rfl HR9.out
      · have hsm : pr S ≤ 2147483647 := by omega
        obtain ⟨e1, e2⟩ := cnt_ok HFA.out.1 hsm
        have hpos := pr_pos S HFA.out.2.1
        obtain ⟨N, hN⟩ : ∃ N : Nat, (pr S).toNat = N := ⟨_, rfl⟩
        have hNi : pr S = (N : Int) := by omega
        have hN0 : 1 ≤ N := by omega
        have hN1 : N ≤ 2147483647 := by omega
        have HC4 := HCT.out
        rw [e1, e2, hNi] at HC4
        have HC5 : Hid _ := HC4
        have HPS : Hid (pr S = (N : Int)) := hNi
        clear HC4 e1 e2 HCT hbig hpos hsm hNi
        rw [hN] at HE
        clear hN
        go_wp2_with fail
        refine Calls.mono HC5.out ?_
        rintro e w8 ⟨rfl, q, rfl⟩
        have b8 : Below w7.heap.size w7 (w7.drewN q) := below_drewN (Below.refl _ _) q
        generalize w7.drewN q = w8 at *
        have HB8 : Hid (Below w7.heap.size w7 w8) := b8
        clear b8 HC5
        obtain ⟨i0, hi, hz0, hz1', hz2'⟩ := info_parts infoIT
        go_wp2_with (at_make; refine wpList_made _ rfl _ _ 22 rfl 3 i0 (.int .i64 0) rfl Try.underlying22 hi hz0 hz1' _ _ N rfl rfl (by rw [hz2']; omega) (by omega) ?_)
        clear hi hz0 hz1' hz2'
        obtain ⟨W9, hW9⟩ : ∃ u, u = w8.alloc (.cells (Array.replicate N (.int .i64 0)) 3) := ⟨_, rfl⟩
        obtain ⟨gc, hgc⟩ : ∃ u, u = w8.heap.size := ⟨_, rfl⟩
        rw [← hW9, ← hgc]
        have n9 : W9.heap[gc]? = some (.cells (Array.replicate N (.int .i64 0)) 3 (0, 0)) := by rw [hW9, hgc]; exact heap_alloc_new _ _
        have b9 : Below w7.heap.size w7 W9 := by rw [hW9]; exact bstepB HB8.out (belowB _ _)
        have hgc9 : gc < W9.heap.size := by rw [hW9, hgc]; simp
        have hgcz : gz < gc := by rw [hgc]; exact Nat.lt_of_lt_of_le hgz7 HB8.out.size
        have HB9 : Hid (Below w7.heap.size w7 W9) := b9
        have HN9 : Hid (W9.heap[gc]? = some (.cells (Array.replicate N (.int .i64 0)) 3 (0, 0))) := n9
        have hg7 : w7.heap.size ≤ gc := by rw [hgc]; exact HB8.out.size
        clear hW9 hgc n9 b9 HB8
        obtain ⟨ca0, -, -⟩ := (HQA3.out.below HB9.out).cells
        obtain ⟨cb0, -, -⟩ := (HQB3.out.below HB9.out).cells
        have CW : Hid (∀ v P, RK .i64 w v P → P.length ≤ 100000 → ∀ X, Below W9.heap.size W9 X → Calls Try.prog 35 #[.slice uo un uc, .slice (some ⟨gz, 0, none⟩) n n, v] X fun e w' => ∃ gw gv gs, e = .returned (.pointer (some ⟨gw, 0, none⟩)) ∧ WkS w' gw gv gs (.slice (some ⟨gz, 0, none⟩) n n) S (mask U P) 0 ∧ X.heap.size ≤ gw ∧ X.heap.size ≤ gv ∧ X.heap.size ≤ gs ∧ gw ≠ gv ∧ gs ≠ gw ∧ gs ≠ gv ∧ Below X.heap.size X w') := fun v P hv hP X hX => by
          have hB := bstepB HB9.out hX
          have huk : RK .i64 X (.slice uo un uc) U := (HUU.out.rg.below (Nat.le_refl _) hB).rk (fun i hi => by
            rw [min_i64, max_i64, List.getD_eq_getElem?_getD, List.getElem?_eq_getElem hi]
            simp only [Option.getD_some]
            have hm := List.getElem_mem hi
            rcases (HUM.out _ hm) with h1 | h1
            · exact HS.out.bd _ h1
            · exact HS'.out.bd _ h1)
          exact walkOf_any _ _ _ U S P X huk (HZK.out.below (Nat.le_refl _) hB) (hv.below (Nat.le_refl _) (bstepB HBW7.out hB)) (by rw [HFA.out.2.2.2.2.1, HFA.out.2.2.2.2.2.1]) HFA.out.2.1 (by rw [HPS.out]; omega) (by rw [HFA.out.2.2.2.2.2.1]; exact hUl) hP
        skip
        go_upto_region 17 with fail
        have KEEP : ∀ u, Below W9.heap.size W9 u → L4.AllL u [(3, fun w' => w'.cell? ⟨g, 0, none⟩ = some ((.slice sO sN sC))), (8, fun w' => w'.cell? ⟨g + 1, 0, none⟩ = some ((.slice pO pN pC)))] := fun u hu => ⟨keepR hu ca0, keepR hu cb0, trivial⟩
        refine L4.region_late [(3, fun w' => w'.cell? ⟨g, 0, none⟩ = some ((.slice sO sN sC))), (8, fun w' => w'.cell? ⟨g + 1, 0, none⟩ = some ((.slice pO pN pC)))] (by kernel_rfl) ?_
        have B : Below W9.heap.size W9 W9.drew := (Below.refl _ _).drew
        obtain ⟨w1, hw1⟩ : ∃ u, u = W9.drew := ⟨_, rfl⟩
        rw [← hw1] at B ⊢
        clear hw1
        have hHeld := KEEP _ B
        refine L4.late_free 0 (v := .slice uo un uc) rfl (by kernel_rfl) (by kernel_rfl) (by kernel_rfl) (by kernel_rfl) (by kernel_rfl) (by kernel_rfl) (fun _ _ _ h => h) (Or.inl ⟨by rfl, ?_⟩) hHeld ?_
        · (intro u _; go_simp)
        (try simp only [Act.put, List.setIfInBounds_toArray, List.set_cons_zero, List.set_cons_succ])
        refine L4.late_free 1 (v := .slice (some ⟨gz, 0, none⟩) n n) rfl (by kernel_rfl) (by kernel_rfl) (by kernel_rfl) (by kernel_rfl) (by kernel_rfl) (by kernel_rfl) (fun _ _ _ h => h) (Or.inl ⟨by rfl, ?_⟩) hHeld ?_
        · (intro u _; go_simp)
        (try simp only [Act.put, List.setIfInBounds_toArray, List.set_cons_zero, List.set_cons_succ])
        refine L4.late_free 2 (v := .pointer (some ⟨g, 0, none⟩)) rfl (by kernel_rfl) (by kernel_rfl) (by kernel_rfl) (by kernel_rfl) (by kernel_rfl) (by kernel_rfl) (fun _ _ _ h => h) (Or.inl ⟨by rfl, ?_⟩) hHeld ?_
        · (intro u _; go_simp)
        (try simp only [Act.put, List.setIfInBounds_toArray, List.set_cons_zero, List.set_cons_succ])
        refine L4.late_take 3 (v := (.slice sO sN sC)) rfl (by kernel_rfl) (List.Mem.head _) (by kernel_rfl) (by kernel_rfl) (by kernel_rfl) (by kernel_rfl) (fun _ _ _ h => h) (Or.inl ⟨by rfl, ?_⟩) hHeld ?_
        · (intro u hu; (try dsimp only at hu); go_split_ands; go_simp)
        (try simp only [Act.put, List.setIfInBounds_toArray, List.set_cons_zero, List.set_cons_succ])
        refine L4.late_free 5 (v := .slice uo un uc) rfl (by kernel_rfl) (by kernel_rfl) (by kernel_rfl) (by kernel_rfl) (by kernel_rfl) (by kernel_rfl) (fun _ _ _ h => h) (Or.inl ⟨by rfl, ?_⟩) hHeld ?_
        · (intro u _; go_simp)
        (try simp only [Act.put, List.setIfInBounds_toArray, List.set_cons_zero, List.set_cons_succ])
        refine L4.late_free 6 (v := .slice (some ⟨gz, 0, none⟩) n n) rfl (by kernel_rfl) (by kernel_rfl) (by kernel_rfl) (by kernel_rfl) (by kernel_rfl) (by kernel_rfl) (fun _ _ _ h => h) (Or.inl ⟨by rfl, ?_⟩) hHeld ?_
        · (intro u _; go_simp)
        (try simp only [Act.put, List.setIfInBounds_toArray, List.set_cons_zero, List.set_cons_succ])
        refine L4.late_free 7 (v := .pointer (some ⟨g + 1, 0, none⟩)) rfl (by kernel_rfl) (by kernel_rfl) (by kernel_rfl) (by kernel_rfl) (by kernel_rfl) (by kernel_rfl) (fun _ _ _ h => h) (Or.inl ⟨by rfl, ?_⟩) hHeld ?_
        · (intro u _; go_simp)
        (try simp only [Act.put, List.setIfInBounds_toArray, List.set_cons_zero, List.set_cons_succ])
        refine L4.late_take 8 (v := (.slice pO pN pC)) rfl (by kernel_rfl) (List.Mem.tail _ (List.Mem.head _)) (by kernel_rfl) (by kernel_rfl) (by kernel_rfl) (by kernel_rfl) (fun _ _ _ h => h) (Or.inl ⟨by rfl, ?_⟩) hHeld ?_
        · (intro u hu; (try dsimp only at hu); go_split_ands; go_simp)
        (try simp only [Act.put, List.setIfInBounds_toArray, List.set_cons_zero, List.set_cons_succ])
        refine L4.late_step 4 (by kernel_rfl) rfl (fun K hK => ?_)
        go_simp
        refine Calls.mono (CW.out _ _ HS.out HX.out.1 _ B) ?_
        rintro e y2 ⟨w1g, v1g, s1g, rfl, hk1, lw1, lv1, ls1, n1a, n1b, n1c, c2⟩
        have sz1 : W9.heap.size ≤ w1.heap.size := B.size
        have lt1 : w1g < y2.heap.size ∧ v1g < y2.heap.size ∧ s1g < y2.heap.size := ⟨(Array.getElem?_eq_some_iff.1 hk1.str).1, (Array.getElem?_eq_some_iff.1 hk1.val).1, (Array.getElem?_eq_some_iff.1 hk1.srd).1⟩
        have B := B.trans (c2.mono B.size)
        clear c2 hHeld
        have hHeld := KEEP _ B
        go_wp2_with fail
        refine hK.out _ _ (L4.AllL.kept hHeld) ?_
        clear hK K
        (try simp only [Act.put, List.setIfInBounds_toArray, List.set_cons_zero, List.set_cons_succ])
        refine L4.late_step 9 (by kernel_rfl) rfl (fun K hK => ?_)
        go_simp
        refine Calls.mono (CW.out _ _ HS'.out HX.out.2 _ B) ?_
        rintro e y3 ⟨w2g, v2g, s2g, rfl, hk2, lw2, lv2, ls2, n2a, n2b, n2c, c3⟩
        have sz2 : W9.heap.size ≤ y2.heap.size := B.size
        have B := B.trans (c3.mono B.size)
        replace hk1 := hk1.below c3
        clear c3 hHeld
        have hHeld := KEEP _ B
        go_wp2_with fail
        refine hK.out _ _ (L4.AllL.kept hHeld) ?_
        clear hK K
        (try simp only [Act.put, List.setIfInBounds_toArray, List.set_cons_zero, List.set_cons_succ])
        refine L4.late_step 10 (by kernel_rfl) rfl (fun K hK => ?_)
        go_simp
        refine hK.out _ _ (L4.AllL.kept hHeld) ?_
        clear hK K
        (try simp only [Act.put, List.setIfInBounds_toArray, List.set_cons_zero, List.set_cons_succ])
        refine L4.late_step 11 (by kernel_rfl) rfl (fun K hK => ?_)
        go_simp
        refine hK.out _ _ (L4.AllL.kept hHeld) ?_
        clear hK K
        (try simp only [Act.put, List.setIfInBounds_toArray, List.set_cons_zero, List.set_cons_succ])
        refine L4.late_done (by kernel_rfl) ?_ _
        clear hHeld KEEP
        have HB10 : Hid (Below w7.heap.size w7 y3) := bstepB HB9.out B
        have HN10 : Hid (y3.heap[gc]? = some (.cells ((upTo (prodL mul (0) U S xs ys cs ds) (0) 0).map (Value.int .i64)).toArray 3 (0, 0))) := by show _ = _; rw [B.block gc hgc9, HN9.out, upTo_zero, prodL_len, HPS.out]; simp
        have hlt2 : w2g < y3.heap.size ∧ v2g < y3.heap.size ∧ s2g < y3.heap.size := ⟨(Array.getElem?_eq_some_iff.1 hk2.str).1, (Array.getElem?_eq_some_iff.1 hk2.val).1, (Array.getElem?_eq_some_iff.1 hk2.srd).1⟩
        have HK1 : Hid (WkS y3 w1g v1g s1g (.slice (some ⟨gz, 0, none⟩) n n) S (mask U xs) 0) := hk1
        have HK2 : Hid (WkS y3 w2g v2g s2g (.slice (some ⟨gz, 0, none⟩) n n) S (mask U ys) 0) := hk2
        have hord : gz < gc ∧ gc < w1g ∧ gc < v1g ∧ gc < s1g ∧ w1g < w2g ∧ w1g < v2g ∧ w1g < s2g ∧ v1g < w2g ∧ v1g < v2g ∧ v1g < s2g ∧ s1g < w2g ∧ s1g < v2g ∧ s1g < s2g ∧ w1g ≠ v1g ∧ s1g ≠ w1g ∧ s1g ≠ v1g ∧ w2g ≠ v2g ∧ s2g ≠ w2g ∧ s2g ≠ v2g ∧ g + 1 + 1 + 1 ≤ gz := by omega
        have HORD : Hid (gz < gc ∧ gc < w1g ∧ gc < v1g ∧ gc < s1g ∧ w1g < w2g ∧ w1g < v2g ∧ w1g < s2g ∧ v1g < w2g ∧ v1g < v2g ∧ v1g < s2g ∧ s1g < w2g ∧ s1g < v2g ∧ s1g < s2g ∧ w1g ≠ v1g ∧ s1g ≠ w1g ∧ s1g ≠ v1g ∧ w2g ≠ v2g ∧ s2g ≠ w2g ∧ s2g ≠ v2g ∧ g + 1 + 1 + 1 ≤ gz) := hord
        have HLT : Hid (w1g < y3.heap.size ∧ v1g < y3.heap.size ∧ s1g < y3.heap.size ∧ w2g < y3.heap.size ∧ v2g < y3.heap.size ∧ s2g < y3.heap.size ∧ gc < y3.heap.size ∧ gz < w7.heap.size ∧ w7.heap.size ≤ gc) := by
          have q1 := (Array.getElem?_eq_some_iff.1 HK1.out.str).1; have q2 := (Array.getElem?_eq_some_iff.1 HK1.out.val).1; have q3 := (Array.getElem?_eq_some_iff.1 HK1.out.srd).1
          have q4 := (Array.getElem?_eq_some_iff.1 HN10.out).1
          exact ⟨q1, q2, q3, hlt2.1, hlt2.2.1, hlt2.2.2, q4, hgz7, hg7⟩
        clear ca0 cb0 CW hk1 hk2 lw1 lv1 ls1 n1a n1b n1c lw2 lv2 ls2 n2a n2b n2c sz1 sz2 lt1 hlt2 hord B HB9 HN9 hgc9 hgcz hg7 hgz7 z7 HUM
        obtain ⟨W0, hW0⟩ : ∃ u, u = y3 := ⟨_, rfl⟩
        rw [← hW0] at HB10 HN10 HK1 HK2 HLT ⊢
        clear hW0
        have HPL : Hid (∀ i : Nat, i < N → ∃ x y, cs[(pos U S xs i).toNat]? = some x ∧ ds[(pos U S ys i).toNat]? = some y ∧ (prodL mul (0) U S xs ys cs ds)[i]? = some (mul x y) ∧ 0 ≤ pos U S xs i ∧ pos U S xs i < (m : Int) ∧ 0 ≤ pos U S ys i ∧ pos U S ys i < (m' : Int)) := fun i hi => by
          obtain ⟨p1, p2⟩ := pos_bd HFA.out.2.1 HFA.out.2.2.1 (i : Int)
          obtain ⟨p3, p4⟩ := pos_bd HFA.out.2.1 HFA.out.2.2.2.1 (i : Int)
          rw [HT.out.cells] at p2
          rw [HT'.out.cells] at p4
          have k1 : (pos U S xs i).toNat < cs.length := by rw [HM.out.1]; omega
          have k2 : (pos U S ys i).toNat < ds.length := by rw [HM.out.2]; omega
          refine ⟨_, _, List.getElem?_eq_getElem k1, List.getElem?_eq_getElem k2, ?_, p1, p2, p3, p4⟩
          have hNn : (pr S).toNat = N := by rw [HPS.out]; omega
          simp [prodL, hNn, hi, List.getD_eq_getElem?_getD, k1, k2]
        have HLEN : Hid ((prodL mul (0) U S xs ys cs ds).length = N) := by show _ = _; rw [prodL_len, HPS.out]; omega
        obtain ⟨PL, hPL⟩ : ∃ PL, prodL mul (0) U S xs ys cs ds = PL := ⟨_, rfl⟩
        rw [hPL] at HE HN10 HPL HLEN
        clear hPL
        go_wp2
        go_loopg [18, 71] N (fun g1 _v18 v71 wq => ∃ i : Nat, v71 = .int .i64 i ∧ i ≤ N ∧ N - i ≤ g1 ∧ Hid (wq.heap[gc]? = some (.cells ((upTo PL (0) i).map (Value.int .i64)).toArray 3 (0, 0)) ∧ WkS wq w1g v1g s1g (.slice (some ⟨gz, 0, none⟩) n n) S (mask U xs) (i : Int) ∧ WkS wq w2g v2g s2g (.slice (some ⟨gz, 0, none⟩) n n) S (mask U ys) (i : Int) ∧ GrS W0 wq [gc, w1g, v1g, w2g, v2g]))
        case atStart => exact ⟨0, rfl, Nat.zero_le _, by omega, HN10.out, HK1.out, HK2.out, GrS.refl _ _⟩
        case round =>
          clear HN10 HK1 HK2
          obtain ⟨i, rfl, hiN, hg1, HI⟩ := hrel
          obtain ⟨hrow, hk1, hk2, hgr⟩ := HI.out
          clear HI
          have hbX : ∀ x ∈ [gc, w1g, v1g, w2g, v2g], w7.heap.size ≤ x := by
            have := HORD.out; have := HLT.out
            intro x hx
            simp only [List.mem_cons, List.not_mem_nil, or_false] at hx
            rcases hx with rfl | rfl | rfl | rfl | rfl <;> omega
          have b7 : Below w7.heap.size w7 _ := HB10.out.trans (hgr.below hbX (HB10.out.size))
          have bw7 : Below w.heap.size w _ := bstepB HBW7.out b7
          by_cases hlt : i < N
          · have hltz : (i : Int) < (N : Int) := by omega
            obtain ⟨x, y, hxx, hyy, hpl, p1, p2, p3, p4⟩ := HPL.out i hlt
            obtain ⟨jx, hjx⟩ : ∃ j : Nat, pos U S xs i = (j : Int) := ⟨(pos U S xs i).toNat, by omega⟩
            obtain ⟨jy, hjy⟩ : ∃ j : Nat, pos U S ys i = (j : Int) := ⟨(pos U S ys i).toNat, by omega⟩
            rw [hjx, Int.toNat_natCast] at hxx
            rw [hjy, Int.toNat_natCast] at hyy
            rw [hjx] at p2
            rw [hjy] at p4
            have cx := hk1.str
            have cy := hk2.str
            have hjx2 : dot (dgs S i) (strd S (mask U xs)) = (jx : Int) := hjx
            have hjy2 : dot (dgs S i) (strd S (mask U ys)) = (jy : Int) := hjy
            rw [hjx2] at cx
            rw [hjy2] at cy
            have cx3 : wr.cell? ⟨w1g, 3, none⟩ = some (.int .i64 ((jx : Nat) : Int)) := by simp [World.cell?, cx]
            have cy3 : wr.cell? ⟨w2g, 3, none⟩ = some (.int .i64 ((jy : Nat) : Int)) := by simp [World.cell?, cy]
            obtain ⟨-, -, ca2⟩ := (HQA3.out.below b7).cells
            obtain ⟨-, -, cb2⟩ := (HQB3.out.below b7).cells
            obtain ⟨coa, cca, ea, -, -, -, hca⟩ := HCC.out.below (Nat.le_refl _) bw7
            obtain ⟨cob, ccb, eb, -, -, -, hcb⟩ := HCC'.out.below (Nat.le_refl _) bw7
            simp only [Value.slice.injEq] at ea eb
            obtain ⟨rfl, -, rfl⟩ := ea
            obtain ⟨rfl, -, rfl⟩ := eb
            obtain ⟨ga, oa, rfl, cvx⟩ := hca jx x hxx
            obtain ⟨gb, ob, rfl, cvy⟩ := hcb jy y hyy
            have hiL : i < (upTo PL (0) i).length := by rw [upTo_len _ _ _ (by rw [HLEN.out]; exact hiN), HLEN.out]; exact hlt
            have crw : wr.cell? ⟨gc, i, none⟩ = some ((Value.int .i64) ((upTo PL (0) i)[i]'hiL)) := rows_cell hrow (List.getElem?_eq_getElem hiL)
            have frw : wr.frozen? ⟨gc, i, none⟩ = false := frozen_of_row _ _ _ _ _ hrow
            generalize (upTo PL (0) i)[i]'hiL = old at crw
            have HST : Hid ((upTo PL (0) i).set i (mul x y) = upTo PL (0) (i + 1)) := upTo_step hpl
            have HROW : Hid (wr.heap[gc]? = some (.cells ((upTo PL (0) i).map (Value.int .i64)).toArray 3 (0, 0))) := hrow
            have HK1 : Hid (WkS wr w1g v1g s1g (.slice (some ⟨gz, 0, none⟩) n n) S (mask U xs) (i : Int)) := hk1
            have HK2 : Hid (WkS wr w2g v2g s2g (.slice (some ⟨gz, 0, none⟩) n n) S (mask U ys) (i : Int)) := hk2
            have HGR : Hid (GrS W0 wr [gc, w1g, v1g, w2g, v2g]) := hgr
            have HB7 : Hid (Below w7.heap.size w7 wr) := b7
            have hjxm : (jx : Int) < (m : Int) := p2
            have hjym : (jy : Int) < (m' : Int) := p4
            have hmeth := HM1.out
            have hent := HM2.out
            have hnl := HM0.out
            clear hrow hk1 hk2 hgr b7 bw7 hxx hyy hpl cx cy hjx hjy hjx2 hjy2 hca hcb hiL p1 p2 p3 p4 hbX
            go_upto_region 21 with fail
            have KEEP : ∀ u, Below wr.heap.size wr u → L4.AllL u [(4, fun w' => w'.cell? ⟨g, 2, none⟩ = some (.slice (some ⟨ga, oa, none⟩) m cc)), (8, fun w' => w'.cell? ⟨w1g, 3, none⟩ = some (.int .i64 ((jx : Nat) : Int))), (10, fun w' => w'.cell? ⟨ga, oa + jx, none⟩ = some ((Value.int .i64) x)), (12, fun w' => w'.cell? ⟨g + 1, 2, none⟩ = some (.slice (some ⟨gb, ob, none⟩) m' cc')), (16, fun w' => w'.cell? ⟨w2g, 3, none⟩ = some (.int .i64 ((jy : Nat) : Int))), (18, fun w' => w'.cell? ⟨gb, ob + jy, none⟩ = some ((Value.int .i64) y))] := fun u hu => ⟨keepR hu ca2, keepR hu cx3, keepR hu cvx, keepR hu cb2, keepR hu cy3, keepR hu cvy, trivial⟩
            refine L4.region_late [(4, fun w' => w'.cell? ⟨g, 2, none⟩ = some (.slice (some ⟨ga, oa, none⟩) m cc)), (8, fun w' => w'.cell? ⟨w1g, 3, none⟩ = some (.int .i64 ((jx : Nat) : Int))), (10, fun w' => w'.cell? ⟨ga, oa + jx, none⟩ = some ((Value.int .i64) x)), (12, fun w' => w'.cell? ⟨g + 1, 2, none⟩ = some (.slice (some ⟨gb, ob, none⟩) m' cc')), (16, fun w' => w'.cell? ⟨w2g, 3, none⟩ = some (.int .i64 ((jy : Nat) : Int))), (18, fun w' => w'.cell? ⟨gb, ob + jy, none⟩ = some ((Value.int .i64) y))] (by kernel_rfl) ?_
            have B : Below wr.heap.size wr wr.drew := (Below.refl _ _).drew
            obtain ⟨w4, hw4⟩ : ∃ u, u = wr.drew := ⟨_, rfl⟩
            rw [← hw4] at B ⊢
            clear hw4
            have hHeld := KEEP _ B
            refine L4.late_free 0 (v := .slice (some ⟨gc, 0, none⟩) N N) rfl (by kernel_rfl) (by kernel_rfl) (by kernel_rfl) (by kernel_rfl) (by kernel_rfl) (by kernel_rfl) (fun _ _ _ h => h) (Or.inl ⟨by rfl, ?_⟩) hHeld ?_
            · (intro u _; go_simp)
            (try simp only [Act.put, List.setIfInBounds_toArray, List.set_cons_zero, List.set_cons_succ])
            refine L4.late_free 1 (v := .int .i64 ((i : Nat) : Int)) rfl (by kernel_rfl) (by kernel_rfl) (by kernel_rfl) (by kernel_rfl) (by kernel_rfl) (by kernel_rfl) (fun _ _ _ h => h) (Or.inl ⟨by rfl, ?_⟩) hHeld ?_
            · (intro u _; go_simp)
            (try simp only [Act.put, List.setIfInBounds_toArray, List.set_cons_zero, List.set_cons_succ])
            refine L4.late_free 2 (v := .iface RT (.agg #[])) rfl (by kernel_rfl) (by kernel_rfl) (by kernel_rfl) (by kernel_rfl) (by kernel_rfl) (by kernel_rfl) (fun _ _ _ h => h) (Or.inl ⟨by rfl, ?_⟩) hHeld ?_
            · (intro u _; go_simp)
            (try simp only [Act.put, List.setIfInBounds_toArray, List.set_cons_zero, List.set_cons_succ])
            refine L4.late_free 3 (v := .pointer (some ⟨g, 2, none⟩)) rfl (by kernel_rfl) (by kernel_rfl) (by kernel_rfl) (by kernel_rfl) (by kernel_rfl) (by kernel_rfl) (fun _ _ _ h => h) (Or.inl ⟨by rfl, ?_⟩) hHeld ?_
            · (intro u _; go_simp)
            (try simp only [Act.put, List.setIfInBounds_toArray, List.set_cons_zero, List.set_cons_succ])
            refine L4.late_take 4 (v := .slice (some ⟨ga, oa, none⟩) m cc) rfl (by kernel_rfl) (List.Mem.head _) (by kernel_rfl) (by kernel_rfl) (by kernel_rfl) (by kernel_rfl) (fun _ _ _ h => h) (Or.inl ⟨by rfl, ?_⟩) hHeld ?_
            · (intro u hu; (try dsimp only at hu); go_split_ands; go_simp)
            (try simp only [Act.put, List.setIfInBounds_toArray, List.set_cons_zero, List.set_cons_succ])
            refine L4.late_free 5 (v := .pointer (some ⟨w1g, 0, none⟩)) rfl (by kernel_rfl) (by kernel_rfl) (by kernel_rfl) (by kernel_rfl) (by kernel_rfl) (by kernel_rfl) (fun _ _ _ h => h) (Or.inl ⟨by rfl, ?_⟩) hHeld ?_
            · (intro u _; go_simp)
            (try simp only [Act.put, List.setIfInBounds_toArray, List.set_cons_zero, List.set_cons_succ])
            refine L4.late_free 6 (v := .pointer (some ⟨w1g, 0, none⟩)) rfl (by kernel_rfl) (by kernel_rfl) (by kernel_rfl) (by kernel_rfl) (by kernel_rfl) (by kernel_rfl) (fun _ _ _ h => h) (Or.inl ⟨by rfl, ?_⟩) hHeld ?_
            · (intro u _; go_simp)
            (try simp only [Act.put, List.setIfInBounds_toArray, List.set_cons_zero, List.set_cons_succ])
            refine L4.late_free 7 (v := .pointer (some ⟨w1g, 3, none⟩)) rfl (by kernel_rfl) (by kernel_rfl) (by kernel_rfl) (by kernel_rfl) (by kernel_rfl) (by kernel_rfl) (fun _ _ _ h => h) (Or.inl ⟨by rfl, ?_⟩) hHeld ?_
            · (intro u _; go_simp)
            (try simp only [Act.put, List.setIfInBounds_toArray, List.set_cons_zero, List.set_cons_succ])
            refine L4.late_take 8 (v := .int .i64 ((jx : Nat) : Int)) rfl (by kernel_rfl) (List.Mem.tail _ (List.Mem.head _)) (by kernel_rfl) (by kernel_rfl) (by kernel_rfl) (by kernel_rfl) (fun _ _ _ h => h) (Or.inl ⟨by rfl, ?_⟩) hHeld ?_
            · (intro u hu; (try dsimp only at hu); go_split_ands; go_simp)
            (try simp only [Act.put, List.setIfInBounds_toArray, List.set_cons_zero, List.set_cons_succ])
            refine L4.late_free 9 (v := .pointer (some ⟨ga, oa + jx, none⟩)) rfl (by kernel_rfl) (by kernel_rfl) (by kernel_rfl) (by kernel_rfl) (by kernel_rfl) (by kernel_rfl) (fun _ _ _ h => h) (Or.inl ⟨by rfl, ?_⟩) hHeld ?_
            · (intro u _; go_simp)
            (try simp only [Act.put, List.setIfInBounds_toArray, List.set_cons_zero, List.set_cons_succ])
            refine L4.late_take 10 (v := (Value.int .i64) x) rfl (by kernel_rfl) (List.Mem.tail _ (List.Mem.tail _ (List.Mem.head _))) (by kernel_rfl) (by kernel_rfl) (by kernel_rfl) (by kernel_rfl) (fun _ _ _ h => h) (Or.inl ⟨by rfl, ?_⟩) hHeld ?_
            · (intro u hu; (try dsimp only at hu); go_split_ands; go_simp)
            (try simp only [Act.put, List.setIfInBounds_toArray, List.set_cons_zero, List.set_cons_succ])
            refine L4.late_free 11 (v := .pointer (some ⟨g + 1, 2, none⟩)) rfl (by kernel_rfl) (by kernel_rfl) (by kernel_rfl) (by kernel_rfl) (by kernel_rfl) (by kernel_rfl) (fun _ _ _ h => h) (Or.inl ⟨by rfl, ?_⟩) hHeld ?_
            · (intro u _; go_simp)
            (try simp only [Act.put, List.setIfInBounds_toArray, List.set_cons_zero, List.set_cons_succ])
            refine L4.late_take 12 (v := .slice (some ⟨gb, ob, none⟩) m' cc') rfl (by kernel_rfl) (List.Mem.tail _ (List.Mem.tail _ (List.Mem.tail _ (List.Mem.head _)))) (by kernel_rfl) (by kernel_rfl) (by kernel_rfl) (by kernel_rfl) (fun _ _ _ h => h) (Or.inl ⟨by rfl, ?_⟩) hHeld ?_
            · (intro u hu; (try dsimp only at hu); go_split_ands; go_simp)
            (try simp only [Act.put, List.setIfInBounds_toArray, List.set_cons_zero, List.set_cons_succ])
            refine L4.late_free 13 (v := .pointer (some ⟨w2g, 0, none⟩)) rfl (by kernel_rfl) (by kernel_rfl) (by kernel_rfl) (by kernel_rfl) (by kernel_rfl) (by kernel_rfl) (fun _ _ _ h => h) (Or.inl ⟨by rfl, ?_⟩) hHeld ?_
            · (intro u _; go_simp)
            (try simp only [Act.put, List.setIfInBounds_toArray, List.set_cons_zero, List.set_cons_succ])
            refine L4.late_free 14 (v := .pointer (some ⟨w2g, 0, none⟩)) rfl (by kernel_rfl) (by kernel_rfl) (by kernel_rfl) (by kernel_rfl) (by kernel_rfl) (by kernel_rfl) (fun _ _ _ h => h) (Or.inl ⟨by rfl, ?_⟩) hHeld ?_
            · (intro u _; go_simp)
            (try simp only [Act.put, List.setIfInBounds_toArray, List.set_cons_zero, List.set_cons_succ])
            refine L4.late_free 15 (v := .pointer (some ⟨w2g, 3, none⟩)) rfl (by kernel_rfl) (by kernel_rfl) (by kernel_rfl) (by kernel_rfl) (by kernel_rfl) (by kernel_rfl) (fun _ _ _ h => h) (Or.inl ⟨by rfl, ?_⟩) hHeld ?_
            · (intro u _; go_simp)
            (try simp only [Act.put, List.setIfInBounds_toArray, List.set_cons_zero, List.set_cons_succ])
            refine L4.late_take 16 (v := .int .i64 ((jy : Nat) : Int)) rfl (by kernel_rfl) (List.Mem.tail _ (List.Mem.tail _ (List.Mem.tail _ (List.Mem.tail _ (List.Mem.head _))))) (by kernel_rfl) (by kernel_rfl) (by kernel_rfl) (by kernel_rfl) (fun _ _ _ h => h) (Or.inl ⟨by rfl, ?_⟩) hHeld ?_
            · (intro u hu; (try dsimp only at hu); go_split_ands; go_simp)
            (try simp only [Act.put, List.setIfInBounds_toArray, List.set_cons_zero, List.set_cons_succ])
            refine L4.late_free 17 (v := .pointer (some ⟨gb, ob + jy, none⟩)) rfl (by kernel_rfl) (by kernel_rfl) (by kernel_rfl) (by kernel_rfl) (by kernel_rfl) (by kernel_rfl) (fun _ _ _ h => h) (Or.inl ⟨by rfl, ?_⟩) hHeld ?_
            · (intro u _; go_simp)
            (try simp only [Act.put, List.setIfInBounds_toArray, List.set_cons_zero, List.set_cons_succ])
            refine L4.late_take 18 (v := (Value.int .i64) y) rfl (by kernel_rfl) (List.Mem.tail _ (List.Mem.tail _ (List.Mem.tail _ (List.Mem.tail _ (List.Mem.tail _ (List.Mem.head _)))))) (by kernel_rfl) (by kernel_rfl) (by kernel_rfl) (by kernel_rfl) (fun _ _ _ h => h) (Or.inl ⟨by rfl, ?_⟩) hHeld ?_
            · (intro u hu; (try dsimp only at hu); go_split_ands; go_simp)
            (try simp only [Act.put, List.setIfInBounds_toArray, List.set_cons_zero, List.set_cons_succ])
            refine L4.late_free 19 (v := .func (.method "Mul") #[.iface RT (.agg #[])] #[]) rfl (by kernel_rfl) (by kernel_rfl) (by kernel_rfl) (by kernel_rfl) (by kernel_rfl) (by kernel_rfl) (fun _ _ _ h => h) (Or.inl ⟨by rfl, ?_⟩) hHeld ?_
            · (intro u _; go_simp)
            (try simp only [Act.put, List.setIfInBounds_toArray, List.set_cons_zero, List.set_cons_succ])
            refine L4.late_free 20 (v := .func (.method "Mul") #[.iface RT (.agg #[])] #[]) rfl (by kernel_rfl) (by kernel_rfl) (by kernel_rfl) (by kernel_rfl) (by kernel_rfl) (by kernel_rfl) (fun _ _ _ h => h) (Or.inl ⟨by rfl, ?_⟩) hHeld ?_
            · (intro u _; go_simp)
            (try simp only [Act.put, List.setIfInBounds_toArray, List.set_cons_zero, List.set_cons_succ])
            refine L4.late_free 21 (v := .iface RT (.agg #[])) rfl (by kernel_rfl) (by kernel_rfl) (by kernel_rfl) (by kernel_rfl) (by kernel_rfl) (by kernel_rfl) (fun _ _ _ h => h) (Or.inl ⟨by rfl, ?_⟩) hHeld ?_
            · (intro u _; go_simp)
            (try simp only [Act.put, List.setIfInBounds_toArray, List.set_cons_zero, List.set_cons_succ])
            refine L4.late_step 22 (by kernel_rfl) rfl (fun K hK => ?_)
            go_simp
            refine Calls.mono (HM3.out x y _) ?_
            rintro e y5 ⟨rfl, c5⟩
            have B := B.trans (c5.mono B.size)
            clear c5 hHeld
            have hHeld := KEEP _ B
            go_wp2_with fail
            refine hK.out _ _ (L4.AllL.kept hHeld) ?_
            clear hK K
            (try simp only [Act.put, List.setIfInBounds_toArray, List.set_cons_zero, List.set_cons_succ])
            refine L4.late_free 23 (v := .pointer (some ⟨gc, i, none⟩)) rfl (by kernel_rfl) (by kernel_rfl) (by kernel_rfl) (by kernel_rfl) (by kernel_rfl) (by kernel_rfl) (fun _ _ _ h => h) (Or.inl ⟨by rfl, ?_⟩) hHeld ?_
            · (intro u _; go_simp)
            (try simp only [Act.put, List.setIfInBounds_toArray, List.set_cons_zero, List.set_cons_succ])
            refine L4.late_step 24 (by kernel_rfl) rfl (fun K hK => ?_)
            have cSt := keepR B crw
            have fSt : y5.frozen? ⟨gc, i, none⟩ = false := frozen_of_row _ _ _ _ _ ((B.block gc (Array.getElem?_eq_some_iff.1 HROW.out).1).trans HROW.out)
            go_simp
            refine hK.out _ _ ⟨Or.inl ⟨24, by kernel_rfl, by kernel_rfl⟩, Or.inl ⟨24, by kernel_rfl, by kernel_rfl⟩, Or.inl ⟨24, by kernel_rfl, by kernel_rfl⟩, Or.inl ⟨24, by kernel_rfl, by kernel_rfl⟩, Or.inl ⟨24, by kernel_rfl, by kernel_rfl⟩, Or.inl ⟨24, by kernel_rfl, by kernel_rfl⟩, trivial⟩ ?_
            clear hK K
            (try simp only [Act.put, List.setIfInBounds_toArray, List.set_cons_zero, List.set_cons_succ])
            refine L4.late_done (by kernel_rfl) ?_ _
            clear KEEP
            obtain ⟨WA, hWA⟩ : ∃ u, u = y5.setCell ⟨gc, i, none⟩ ((Value.int .i64) (mul x y)) := ⟨_, rfl⟩
            rw [← hWA]
            have lA : gc < wr.heap.size := (Array.getElem?_eq_some_iff.1 HROW.out).1
            have hrow : WA.heap[gc]? = some (.cells ((upTo PL (0) (i + 1)).map (Value.int .i64)).toArray 3 (0, 0)) := by rw [hWA, rows_set ((B.block gc lA).trans HROW.out) (mul x y), HST.out]
            have hgr : GrS W0 WA [gc, w1g, v1g, w2g, v2g] := by rw [hWA]; exact (HGR.out.then B).set (by simp) _ _
            have hoth : ∀ q, q ≠ gc → WA.heap[q]? = y5.heap[q]? := fun q hq => by rw [hWA]; exact Below.heap_setCell _ _ _ _ hq
            have hk1 := (HK1.out.below B).of_blocks (hoth w1g (by have := HORD.out; omega)) (hoth v1g (by have := HORD.out; omega)) (hoth s1g (by have := HORD.out; omega))
            have hk2 := (HK2.out.below B).of_blocks (hoth w2g (by have := HORD.out; omega)) (hoth v2g (by have := HORD.out; omega)) (hoth s2g (by have := HORD.out; omega))
            have HBX : Hid (∀ x ∈ [gc, w1g, v1g, w2g, v2g], w7.heap.size ≤ x) := by
              show ∀ x ∈ [gc, w1g, v1g, w2g, v2g], w7.heap.size ≤ x
              have := HORD.out; have := HLT.out
              intro x hx
              simp only [List.mem_cons, List.not_mem_nil, or_false] at hx
              rcases hx with rfl | rfl | rfl | rfl | rfl <;> omega
            have bA : Below w7.heap.size w7 WA := HB10.out.trans (hgr.below HBX.out HB10.out.size)
            clear hWA lA hoth B HROW HK1 HK2 HGR HB7 HST ca2 cb2 cx3 cy3 cvx cvy crw frw hmeth hent hnl hjxm hjym
            have CS : Hid _ := stepW (.slice (some ⟨gz, 0, none⟩) n n) S (mask U xs) (i : Int) w1g v1g s1g WA (HZK.out.below (Nat.le_refl _) bA) HFA.out.2.1 (by rw [HPS.out]; omega) (by rw [mask_len, HFA.out.2.2.2.2.1, HFA.out.2.2.2.2.2.1]) hk1 (by have := HORD.out; omega) (by have := HORD.out; omega) (by have := HORD.out; omega) (fun q hq => by have e : gz = q := (by simpa [Value.ownBlock] using hq); have := HORD.out; subst e; exact ⟨by omega, by omega⟩)
            have HROW : Hid (WA.heap[gc]? = some (.cells ((upTo PL (0) (i + 1)).map (Value.int .i64)).toArray 3 (0, 0))) := hrow
            have HKO : Hid (WkS WA w2g v2g s2g (.slice (some ⟨gz, 0, none⟩) n n) S (mask U ys) ((i : Int))) := hk2
            have HGR : Hid (GrS W0 WA [gc, w1g, v1g, w2g, v2g]) := hgr
            clear hrow hk1 hk2 hgr bA
            go_wp2_with fail
            refine Calls.mono CS.out ?_
            rintro e yS1 ⟨⟨_, rfl⟩, hk1, g2⟩
            have hgr := HGR.out.gr2 g2 (by simp) (by simp)
            have hsz := HGR.out.size
            have hrow := (g2.block gc (by have := HLT.out; omega) (by have := HORD.out; omega) (by have := HORD.out; omega)).trans HROW.out
            have hk2 := HKO.out.of_blocks (g2.block w2g (by have := HLT.out; omega) (by have := HORD.out; omega) (by have := HORD.out; omega)) (g2.block v2g (by have := HLT.out; omega) (by have := HORD.out; omega) (by have := HORD.out; omega)) (g2.block s2g (by have := HLT.out; omega) (by have := HORD.out; omega) (by have := HORD.out; omega))
            have bA : Below w7.heap.size w7 yS1 := HB10.out.trans (hgr.below HBX.out HB10.out.size)
            clear CS HROW HKO HGR g2 hsz
            have CS : Hid _ := stepW (.slice (some ⟨gz, 0, none⟩) n n) S (mask U ys) (i : Int) w2g v2g s2g yS1 (HZK.out.below (Nat.le_refl _) bA) HFA.out.2.1 (by rw [HPS.out]; omega) (by rw [mask_len, HFA.out.2.2.2.2.1, HFA.out.2.2.2.2.2.1]) hk2 (by have := HORD.out; omega) (by have := HORD.out; omega) (by have := HORD.out; omega) (fun q hq => by have e : gz = q := (by simpa [Value.ownBlock] using hq); have := HORD.out; subst e; exact ⟨by omega, by omega⟩)
            have HROW : Hid (yS1.heap[gc]? = some (.cells ((upTo PL (0) (i + 1)).map (Value.int .i64)).toArray 3 (0, 0))) := hrow
            have HKO : Hid (WkS yS1 w1g v1g s1g (.slice (some ⟨gz, 0, none⟩) n n) S (mask U xs) ((i : Int) + 1)) := hk1
            have HGR : Hid (GrS W0 yS1 [gc, w1g, v1g, w2g, v2g]) := hgr
            clear hrow hk1 hk2 hgr bA
            go_wp2_with fail
            refine Calls.mono CS.out ?_
            rintro e yS2 ⟨⟨_, rfl⟩, hk2, g2⟩
            have hgr := HGR.out.gr2 g2 (by simp) (by simp)
            have hsz := HGR.out.size
            have hrow := (g2.block gc (by have := HLT.out; omega) (by have := HORD.out; omega) (by have := HORD.out; omega)).trans HROW.out
            have hk1 := HKO.out.of_blocks (g2.block w1g (by have := HLT.out; omega) (by have := HORD.out; omega) (by have := HORD.out; omega)) (g2.block v1g (by have := HLT.out; omega) (by have := HORD.out; omega) (by have := HORD.out; omega)) (g2.block s1g (by have := HLT.out; omega) (by have := HORD.out; omega) (by have := HORD.out; omega))
            have bA : Below w7.heap.size w7 yS2 := HB10.out.trans (hgr.below HBX.out HB10.out.size)
            clear CS HROW HKO HGR g2 hsz
            have HFIN : Hid (yS2.heap[gc]? = some (.cells ((upTo PL (0) (i + 1)).map (Value.int .i64)).toArray 3 (0, 0)) ∧ WkS yS2 w1g v1g s1g (.slice (some ⟨gz, 0, none⟩) n n) S (mask U xs) ((i + 1 : Nat) : Int) ∧ WkS yS2 w2g v2g s2g (.slice (some ⟨gz, 0, none⟩) n n) S (mask U ys) ((i + 1 : Nat) : Int) ∧ GrS W0 yS2 [gc, w1g, v1g, w2g, v2g]) := ⟨hrow, by rw [show ((i + 1 : Nat) : Int) = (i : Int) + 1 by omega]; exact hk1, by rw [show ((i + 1 : Nat) : Int) = (i : Int) + 1 by omega]; exact hk2, hgr⟩
            clear hrow hk1 hk2 hgr bA
            go_wp2
            go_roundg (N - (i + 1))
            case measure => omega
            case rel => exact ⟨i + 1, by go_num, by omega, Nat.le_refl _, HFIN⟩
          · have hltz : ¬ (i : Int) < (N : Int) := by omega
            have hi2 : i = N := by omega
            subst hi2
            have q9 := HQR3.out.below b7
            obtain ⟨k0, k1, k2⟩ := q9.cells
            have f0 := q9.thaw 0
            have f1 := q9.thaw 1
            have f2 := q9.thaw 2
            obtain ⟨WF, hWF⟩ : ∃ u, u = ((wr.setCell ⟨g + 1 + 1, 0, none⟩ (.slice uo un uc)).setCell ⟨g + 1 + 1, 1, none⟩ (.slice (some ⟨gz, 0, none⟩) n n)).setCell ⟨g + 1 + 1, 2, none⟩ (.slice (some ⟨gc, 0, none⟩) i i) := ⟨_, rfl⟩
            have hoth : ∀ q, q ≠ g + 1 + 1 → WF.heap[q]? = wr.heap[q]? := fun q hq => by rw [hWF, Below.heap_setCell _ _ _ _ hq, Below.heap_setCell _ _ _ _ hq, Below.heap_setCell _ _ _ _ hq]
            have HWF : Hid (BCell 34 WF (g + 1 + 1) (.slice uo un uc) (.slice (some ⟨gz, 0, none⟩) n n) (.slice (some ⟨gc, 0, none⟩) i i)) := by show BCell _ _ _ _ _ _; rw [hWF]; exact q9.write _ _ _
            have hBF : Below w.heap.size w WF := by
              rw [hWF]
              exact ((bw7.setCell (p := ⟨g + 1 + 1, 0, none⟩) (by show w.heap.size ≤ g + 1 + 1; rw [HG.out]; omega) _).setCell (p := ⟨g + 1 + 1, 1, none⟩) (by show w.heap.size ≤ g + 1 + 1; rw [HG.out]; omega) _).setCell (p := ⟨g + 1 + 1, 2, none⟩) (by show w.heap.size ≤ g + 1 + 1; rw [HG.out]; omega) _
            have HRES : Hid (TmEI mul w xs zs ys us cs ds (.returned (.tuple #[.agg #[.slice uo un uc, .slice (some ⟨gz, 0, none⟩) n n, .slice (some ⟨gc, 0, none⟩) i i], .int .i64 0])) WF) := by
              have hO := HORD.out
              have hL := HLT.out
              have hG := HG.out
              refine HE.out _ _ ⟨hBF, .inr ⟨by rw [HPS.out]; omega, .slice uo un uc, gz, gc, rfl, ?_, ?_, ?_, by omega, by omega, by omega, HUN.out, ?_⟩⟩
              · refine OG.of_blocks HUU.out fun b hb => ?_
                obtain ⟨u1, u2⟩ := HUB.out b hb
                rw [hoth b (by omega), b7.block b u2]
              · rw [hoth gz (by omega), b7.block gz hL.2.2.2.2.2.2.2.1]; exact HZZ.out
              · rw [hoth gc (by omega)]
                have := hrow
                rw [← HLEN.out, upTo_full] at this
                exact this
              · intro e; have := (HUB.out gc e).2; omega
            have HEQ : Hid (WF = ((wr.setCell ⟨g + 1 + 1, 0, none⟩ (.slice uo un uc)).setCell ⟨g + 1 + 1, 1, none⟩ (.slice (some ⟨gz, 0, none⟩) n n)).setCell ⟨g + 1 + 1, 2, none⟩ (.slice (some ⟨gc, 0, none⟩) i i)) := hWF
            clear hrow hk1 hk2 hgr b7 bw7 hbX q9 hWF hoth hBF
            go_wp2_with fail
            (try simp only [Exit.inBlock, Exit.then])
            rw [← HEQ.out]
            exact bodyPost_ret (results_ctB (p := 6) (u := 7) rfl _ _ (g + 1 + 1) 34 _ (0, 0) _ rfl HWF.out Try.underlying34 rfl (by kernel_rfl)) rfl HRES.out
end Go.Proofs.Ytjlmignafhhjhaa

/-
  Proved here: credenceref03's OwnRats of fractions whose numbers lie each in a row of its own: it answers true.
  Proved here: what strings.Cut answers of a text and a stroke.
  Proved here: what Parse of package frac answers of a written whole number, and of one with a stroke and digits behind it.
  Proved here: what Parse of package frac answers of a written fraction; what Of answers where the lower number is 0.
  Proved here: what New and Of of package frac, and the document's, answer, error or not, as one.
  Proved here: awake answers true.
  Proved here: what the document's functions of layer 3 that reckon answer.
  Proved here: what Fit, Neg, Mul, Cmp, Sign, Lend, Kept and Text of the document's layer 3 answer.
  Proved here: what some, split and follow of package frac's ratio answer.
  Proved here: plain facts on the simplest fraction between two: it lies there, it is in lowest terms, and none there has a lesser number above or below its line.
  Proved here: plain facts on the simplest fraction between two, as fractions: how it is found by the floor of the lower one.
-/
import Derived.Test.YtfnafgjnimfmjaaGreatDoorR3All
import Derived.Test.YtfnafgjnimfmjaaGreatDoorLate
import Derived.Test.YtfnafgjnimfmjaaGreatDoorWholeX1All
import Derived.Lib.SmallJoins
import Derived.Deep.AppendLies
import Derived.Test.YtfnafgjnimfmjaaGreatDoorPowMathAll
import Derived.Deep.RegionHeld3
import Derived.Deep.DrawnRows
import Derived.Test.YtfnafgjnimfmjaaGreatDoorFracCAll
namespace Go.Proofs.YtfnafgjnimfmjaaGreatDoor
set_option maxRecDepth 100000
set_option maxHeartbeats 12800000
open Go.RowKit

def prs (ms ds : Nat → Value) : Nat → List Value
 | 0 => []
 | n + 1 => prs ms ds n ++ [ms n, ds n]
theorem cell_two_new (w : World) (a b : Value) (t : TypeId) : ∀ j u, [a, b][j]? = some u → (w.alloc (.cells #[a, b] t)).cell? ((⟨w.heap.size, 0, none⟩ : Addr).add j) = some u := by
 intro j u h
 rw [Addr.add_lit, Nat.zero_add, World.cell?_alloc_at _ _ _ _ rfl]
 match j, h with
 | 0, h => exact h
 | 1, h => exact h
 | n + 2, h => cases h
theorem Bex.after {gs : List Value} {w w1 w' : World} (h : Bex gs w1 w') (hb : Below w.heap.size w w1) : Bex gs w w' :=
 ⟨h.os.trans hb.os, h.tape.trans hb.tape, h.output.trans hb.output, Nat.le_trans hb.size h.size, fun k hk hj => by rw [h.block k (Nat.lt_of_lt_of_le hk hb.size) hj, hb.block k hk]⟩
theorem ownRats3 (B lb cl n : Nat) (ms ds : Nat → Value) (xs : Nat → List Nat) (w : World) (hB : B ≤ w.heap.size) (hn0 : 0 < n) (hn : n ≤ 100)
  (hrow : ∀ i, i < n → w.cell? ⟨lb, i * 3 + 1, none⟩ = some (ms i) ∧ w.cell? ⟨lb, i * 3 + 2, none⟩ = some (ds i))
  (hsl : ∀ i, i < n → (∃ o l c, ms i = .slice o l c) ∧ ∃ o l c, ds i = .slice o l c)
  (hfam : Fam B w (prs ms ds n) xs) (hd : Dist (prs ms ds n)) (hlen : ∀ j, j < n + n → (xs j).length ≤ 1099511627776) :
  Calls Tryz.prog 15 #[.slice (some ⟨lb, 0, none⟩) n cl] w fun e w' => e = .returned (.bool true) ∧ Bex (prs ms ds n) w w' := by
 obtain ⟨iN, hiN, hzN0, hzN1, hzN2⟩ := info_parts Tryz.infoN3
 go_enter Tryz.func15, Tryz.ntmps15
 go_wp2_with fail
 go_loopw [3, 4] (fun va t wr => ∃ i : Nat, i ≤ n ∧ t = .int .i64 i ∧ wr.ownsRow w.heap.size 23 1 va (i + i) (prs ms ds i) ∧ Below w.heap.size w wr) (fun _ t _ => n - (intOf t).toNat)
 case atStart => exact ⟨0, Nat.zero_le _, rfl, World.ownsRow_nil _ _ _ _, Below.refl _ _⟩
 case round =>
  obtain ⟨i, hin, rfl, hown0, hbel⟩ := hrel
  by_cases hlt : i < n
  ·
   have hge : (i : Int) < (n : Int) := by omega
   obtain ⟨c1, c2⟩ := hrow i hlt
   obtain ⟨⟨mo, ml, mc, e1⟩, do_, dl, dc, e2⟩ := hsl i hlt
   rw [e1] at c1
   rw [e2] at c2
   replace c1 : wr.drew.cell? ⟨lb, i * 3 + 1, none⟩ = some (.slice mo ml mc) := keepB (hbel.trans (Below.refl _ _).drew) c1
   replace c2 : wr.drew.cell? ⟨lb, i * 3 + 2, none⟩ = some (.slice do_ dl dc) := keepB (hbel.trans (Below.refl _ _).drew) c2
   have HP : Hid (prs ms ds (i + 1) = prs ms ds i ++ [.slice mo ml mc, .slice do_ dl dc]) := by show prs ms ds i ++ [ms i, ds i] = _; rw [e1, e2]
   obtain ⟨va, hva⟩ : ∃ v, v = u3 := ⟨_, rfl⟩
   rw [← hva] at hown0 ⊢
   clear hva
   have hB1 : w.heap.size ≤ wr.heap.size := hbel.size
   have HO : Hid (wr.drew.ownsRow w.heap.size 23 1 va (i + i) (prs ms ds i)) := hown0
   have HL : Hid (Below w.heap.size w wr) := hbel
   clear hown0 hbel hrow hsl hfam hd hlen e1 e2 hB
   go_wp2_with fail
   refine region_late [(6, fun w' => w'.cell? ⟨lb, i * 3 + 1, none⟩ = some (.slice mo ml mc)), (11, fun w' => w'.cell? ⟨lb, i * 3 + 2, none⟩ = some (.slice do_ dl dc))] (by kernel_rfl) ?_
   have hHeld : AllL wr.drew [(6, fun w' => w'.cell? ⟨lb, i * 3 + 1, none⟩ = some (.slice mo ml mc)), (11, fun w' => w'.cell? ⟨lb, i * 3 + 2, none⟩ = some (.slice do_ dl dc))] := ⟨c1, c2, trivial⟩
   refine late_fr 0 (v := va) rfl (Or.inl ⟨by rfl, ?_⟩) hHeld ?_
   · (intro u _; go_simp)
   try simp only [pu1, pu2, pu3, pu4]
   refine late_fr 1 (v := .slice (some ⟨lb, 0, none⟩) n cl) rfl (Or.inl ⟨by rfl, ?_⟩) hHeld ?_
   · (intro u _; go_simp)
   try simp only [pu1, pu2, pu3, pu4]
   refine late_fr 2 (v := .int .i64 (i : Int)) rfl (Or.inl ⟨by rfl, ?_⟩) hHeld ?_
   · (intro u _; go_simp)
   try simp only [pu1, pu2, pu3, pu4]
   refine late_fr 7 (v := .slice (some ⟨lb, 0, none⟩) n cl) rfl (Or.inl ⟨by rfl, ?_⟩) hHeld ?_
   · (intro u _; go_simp)
   try simp only [pu1, pu2, pu3, pu4]
   refine late_fr 8 (v := .int .i64 (i : Int)) rfl (Or.inl ⟨by rfl, ?_⟩) hHeld ?_
   · (intro u _; go_simp)
   try simp only [pu1, pu2, pu3, pu4]
   refine late_fr 3 (v := .pointer (some ⟨lb, i * 3, none⟩)) rfl (Or.inl ⟨by rfl, ?_⟩) hHeld ?_
   · (intro u _; go_simp)
   try simp only [pu1, pu2, pu3, pu4]
   refine late_fr 9 (v := .pointer (some ⟨lb, i * 3, none⟩)) rfl (Or.inl ⟨by rfl, ?_⟩) hHeld ?_
   · (intro u _; go_simp)
   try simp only [pu1, pu2, pu3, pu4]
   refine late_fr 4 (v := .pointer (some ⟨lb, i * 3, none⟩)) rfl (Or.inl ⟨by rfl, ?_⟩) hHeld ?_
   · (intro u _; go_simp)
   try simp only [pu1, pu2, pu3, pu4]
   refine late_fr 5 (v := .pointer (some ⟨lb, i * 3 + 1, none⟩)) rfl (Or.inl ⟨by rfl, ?_⟩) hHeld ?_
   · (intro u _; go_simp)
   try simp only [pu1, pu2, pu3, pu4]
   refine late_fr 10 (v := .pointer (some ⟨lb, i * 3 + 2, none⟩)) rfl (Or.inl ⟨by rfl, ?_⟩) hHeld ?_
   · (intro u _; go_simp)
   try simp only [pu1, pu2, pu3, pu4]
   refine late_tk 6 (v := .slice mo ml mc) rfl (List.Mem.head _) (Or.inl ⟨by rfl, ?_⟩) hHeld ?_
   · (intro u hu; (try dsimp only at hu); go_split_ands; go_simp)
   try simp only [pu1, pu2, pu3, pu4]
   refine late_tk 11 (v := .slice do_ dl dc) rfl (List.Mem.tail _ (List.Mem.head _)) (Or.inl ⟨by rfl, ?_⟩) hHeld ?_
   · (intro u hu; (try dsimp only at hu); go_split_ands; go_simp)
   try simp only [pu1, pu2, pu3, pu4]
   refine late_st 12 rfl (fun K hK => ?_)
   go_simp
   refine hK.out _ _ ⟨kpt 12, kpt 12, trivial⟩ ?_
   clear hK K
   try simp only [pu1, pu2, pu3, pu4]
   refine late_st 13 rfl (fun K hK => ?_)
   rw [if_pos (by rfl)]
   refine wp_append_lies _ _ _ 63 rfl w.heap.size 23 iN (.slice none 0 0) 1 24 Tryz.underlying63 hiN hzN0 hzN1 hzN2 rfl (by decide) va (i + i) _ rfl (HO.out.alloc _) ⟨wr.drew.heap.size, 0, none⟩ 2 2 [.slice mo ml mc, .slice do_ dl dc] rfl rfl (cell_two_new _ _ _ _) (by simp [Value.oneCell']) (by decide) (by unfold maxLen; omega) (by omega) (Nat.le_trans hB1 (by simp)) _ rfl ?_
   intro ga ca w7 hown hgr hga hgl
   refine hK.out _ _ ⟨kpt 12, kpt 12, trivial⟩ ?_
   clear hK K
   try simp only [pu1, pu2, pu3, pu4]
   refine late_st 14 rfl (fun K hK => ?_)
   go_simp
   refine hK.out _ _ ⟨kpt 12, kpt 12, trivial⟩ ?_
   clear hK K
   try simp only [pu1, pu2, pu3, pu4]
   refine late_done (by kernel_rfl) ?_ _
   clear hHeld
   have HR : Hid (w7.ownsRow w.heap.size 23 1 (.slice (some ⟨ga, 0, none⟩) (i + i + 2) ca) (i + i + 2) (prs ms ds (i + 1)) ∧ Below w.heap.size w w7) := by
    refine ⟨by rw [HP.out]; exact hown, ((bstep HL.out (belowA _ _)).drew).grown hgr (by simp; omega) (fun k hk => (HO.out.lt k hk).1)⟩
   clear hown hgr hga hgl HO HL HP
   go_wp2
   go_roundw
   case rel => exact ⟨i + 1, by omega, by go_num, by rw [show i + 1 + (i + 1) = i + i + 2 by omega]; exact HR.out.1, HR.out.2⟩
   case measure => simp [intOf]; omega
  ·
   have hge : ¬ (i : Int) < (n : Int) := by omega
   obtain rfl : i = n := by omega
   obtain ⟨ga, ca, hva⟩ := Joins.ownsRow_form hown0 (by omega)
   subst hva
   have hq := own_yes B ga ca (i + i) (prs ms ds i) xs wr (Nat.le_trans hB hbel.size) (by omega) (Joins.ownsRow_le hown0 hB) (fun j hj => (hfam j hj).below hbel) hd hlen
   have HL : Hid (Below w.heap.size w wr) := hbel
   clear hown0 hbel hrow hsl hfam hd hlen hB hlt
   go_wp2_with fail
   refine hq.mono ?_
   rintro e w2 ⟨rfl, hx⟩
   clear hq
   have HX : Hid (Bex (prs ms ds i) w w2) := hx.after HL.out
   clear hx HL
   go_wp2
   go_ret
   exact ⟨rfl, HX.out⟩
open Go.RowKit

open Go.RowKit

open Go.RowKit

open Go.RowKit

def TEx (w : World) (s : Bool) (er : Int) (xm xd : List Nat) (e : Ending) (w' : World) : Prop :=
 ∃ mo mc dO dC, e = .returned (.tuple #[.agg #[.bool s, .slice mo xm.length mc, .slice dO xd.length dC], .int .i64 er]) ∧ Own w.heap.size 37 w' (.slice mo xm.length mc) xm ∧ Own w.heap.size 37 w' (.slice dO xd.length dC) xd ∧
  ((Value.slice mo xm.length mc).ownBlock = none ∨ (Value.slice mo xm.length mc).ownBlock ≠ (Value.slice dO xd.length dC).ownBlock) ∧ Below w.heap.size w w'
def two {α : Type} (a b : α) (i : Nat) : α := if i = 0 then a else b
theorem fam4 {B : Nat} {w : World} {m d m2 d2 : Value} {xm xd ym yd : List Nat} (h1 : Own B 37 w m xm) (h2 : Own B 37 w d xd) (h3 : Own B 37 w m2 ym) (h4 : Own B 37 w d2 yd) : Fam B w (prs (two m m2) (two d d2) 2) (fun j => [xm, xd, ym, yd].getD j []) := by
 intro j hj
 match j, hj with
 | 0, _ => exact h1
 | 1, _ => exact h2
 | 2, _ => exact h3
 | 3, _ => exact h4
 | n + 4, h => exact absurd h (by show ¬ n + 4 < 4; omega)
theorem dist4 {m d m2 d2 : Value} (h1 : m.ownBlock = none ∨ m.ownBlock ≠ d.ownBlock) (h2 : m.ownBlock = none ∨ m.ownBlock ≠ m2.ownBlock) (h3 : m.ownBlock = none ∨ m.ownBlock ≠ d2.ownBlock) (h4 : d.ownBlock = none ∨ d.ownBlock ≠ m2.ownBlock) (h5 : d.ownBlock = none ∨ d.ownBlock ≠ d2.ownBlock) (h6 : m2.ownBlock = none ∨ m2.ownBlock ≠ d2.ownBlock) : Dist (prs (two m m2) (two d d2) 2) := by
 intro i j hi hj hne
 match i, j, hi, hj, hne with
 | 0, 0, _, _, h => exact absurd rfl h
 | 0, 1, _, _, _ => exact h1
 | 0, 2, _, _, _ => exact h2
 | 0, 3, _, _, _ => exact h3
 | 1, 0, _, _, _ => exact apart_symm h1
 | 1, 1, _, _, h => exact absurd rfl h
 | 1, 2, _, _, _ => exact h4
 | 1, 3, _, _, _ => exact h5
 | 2, 0, _, _, _ => exact apart_symm h2
 | 2, 1, _, _, _ => exact apart_symm h4
 | 2, 2, _, _, h => exact absurd rfl h
 | 2, 3, _, _, _ => exact h6
 | 3, 0, _, _, _ => exact apart_symm h3
 | 3, 1, _, _, _ => exact apart_symm h5
 | 3, 2, _, _, _ => exact apart_symm h6
 | 3, 3, _, _, h => exact absurd rfl h
 | n + 4, _, h, _, _ => exact absurd h (by show ¬ n + 4 < 4; omega)
 | 0, n + 4, _, h, _ => exact absurd h (by show ¬ n + 4 < 4; omega)
 | 1, n + 4, _, h, _ => exact absurd h (by show ¬ n + 4 < 4; omega)
 | 2, n + 4, _, h, _ => exact absurd h (by show ¬ n + 4 < 4; omega)
 | 3, n + 4, _, h, _ => exact absurd h (by show ¬ n + 4 < 4; omega)
theorem RoomL.bex {B : Nat} {gs : List Value} {w w' : World} {v : Value} {xs : List Nat} (h : RoomL B w v xs) (hb : Bex gs w w') (hd : ∀ j, j < gs.length → (at_ gs j).ownBlock = none ∨ (at_ gs j).ownBlock ≠ v.ownBlock) : RoomL B w' v xs := by
 obtain ⟨u, rfl, ho⟩ := h
 refine ⟨u, rfl, ho.bex hb ?_⟩
 have e : (cutTo u xs.length).ownBlock = u.ownBlock := by
  obtain ⟨uo, ul, uc, rfl⟩ := ho.sl
  cases uo <;> rfl
 rw [e] at hd
 exact hd
open Go.RowKit

theorem ROwn.see {B : Nat} {w : World} {v : Value} {r : Rat} {L : Nat} (h : ROwn B w v r) (hs : RSz r L) (hL : L ≤ 1000000) : ∃ n ao al ac bo bl bc, v = .agg #[.bool n, .slice ao al ac, .slice bo bl bc] ∧ RNum w (.agg #[.bool n, .slice ao al ac, .slice bo bl bc]) r L := by
 have h1 := h.std
 have h2 := h1.num hs hL
 obtain ⟨n, ao, al, ac, bo, bl, bc, rfl, _⟩ := h1
 exact ⟨n, ao, al, ac, bo, bl, bc, rfl, h2⟩
theorem l_awake {w : World} : Calls Tryz.prog 5 #[] w fun e w' => e = .returned (.bool true) ∧ Below w.heap.size w w' := by
 obtain ⟨X, hX⟩ : ∃ X, X = Rat.divInt 6 (-4) := ⟨_, rfl⟩
 obtain ⟨Y, hY⟩ : ∃ X, X = Rat.divInt 5 6 := ⟨_, rfl⟩
 have HX : Hid (X = Rat.divInt 6 (-4)) := hX
 have HY : Hid (Y = Rat.divInt 5 6) := hY
 have sX : RSz X 1 := by rw [hX]; exact ⟨⟨by decide⟩, ⟨by decide⟩⟩
 have sY : RSz Y 1 := by rw [hY]; exact ⟨⟨by decide⟩, ⟨by decide⟩⟩
 have hXY : X + Y = Rat.divInt (6 * 6 + 5 * (-4)) ((-4) * 6) := by rw [hX, hY]; exact Rat.divInt_add_divInt 6 5 (by decide) (by decide)
 have sC : RSz (X + Y) 1 := by rw [hXY]; exact ⟨⟨by decide⟩, ⟨by decide⟩⟩
 obtain ⟨C, hC⟩ : ∃ C, C = X + Y := ⟨_, rfl⟩
 have HC : Hid (X + Y = C) := hC.symm
 rw [← hC] at sC
 have tX : rt X = ⟨#[45, 51, 47, 50]⟩ := by rw [hX]; kernel_rfl
 have tC : rt C = ⟨#[45, 50, 47, 51]⟩ := by rw [hC, hXY]; kernel_rfl
 have t0 : rt 0 = ⟨#[48]⟩ := by kernel_rfl
 have cXY : cmpQ X Y = -1 := by rw [hX, hY]; kernel_rfl
 have HTX : Hid (rt X = ⟨#[45, 51, 47, 50]⟩) := tX
 have HTC : Hid (rt C = ⟨#[45, 50, 47, 51]⟩) := tC
 have HT0 : Hid (rt 0 = ⟨#[48]⟩) := t0
 have HXY : Hid (cmpQ X Y = -1) := cXY
 clear hX hY hC hXY tX tC t0 cXY
 go_enter Tryz.func5, Tryz.ntmps5
 go_wp2_with fail
 have hb : Below w.heap.size w w := Below.refl _ _
 have hsz : 0 ≤ w.heap.size := Nat.zero_le _
 have hq := c_fof (n := 6) (d := -4) (w := w) (by decide) (by decide) (by decide) (by decide) (by decide)
 rw [← HX.out] at hq
 refine (hq).mono ?_
 rintro e w2 ⟨v, rfl, hv, b⟩
 clear hq
 obtain ⟨na, ao, al, ac, aO, aL, aC, rfl, ia⟩ := hv.see sX (by decide)
 clear hv
 replace hb := bstep hb b
 clear b
 obtain ⟨W3, hW3⟩ : ∃ W, W = w2.alloc (.cells #[.bool na, .slice ao al ac, .slice aO aL aC] 27) := ⟨_, rfl⟩
 have qa : QCell W3 (w2.heap.size) na (.slice ao al ac) (.slice aO aL aC) := by rw [hW3]; exact (qcell_new _ rfl)
 have b : Below w2.heap.size w2 W3 := by rw [hW3]; exact belowA _ _
 replace ia := ia.below b
 replace hb := bstep hb b
 clear b
 have rqa0 : (w2.alloc (.cells #[.bool na, .slice ao al ac, .slice aO aL aC] 27)).cell? ⟨w2.heap.size, 0, none⟩ = some (.bool na) := by rw [← hW3]; exact qa.cells.1
 have rqa1 : (w2.alloc (.cells #[.bool na, .slice ao al ac, .slice aO aL aC] 27)).cell? ⟨w2.heap.size, 1, none⟩ = some (.slice ao al ac) := by rw [← hW3]; exact qa.cells.2.1
 have rqa2 : (w2.alloc (.cells #[.bool na, .slice ao al ac, .slice aO aL aC] 27)).cell? ⟨w2.heap.size, 2, none⟩ = some (.slice aO aL aC) := by rw [← hW3]; exact qa.cells.2.2
 obtain ⟨v3, hv3⟩ : ∃ v, v = w2.heap.size := ⟨_, rfl⟩
 rw [← hv3] at qa
 have HW3 : Hid (W3 = w2.alloc (.cells #[.bool na, .slice ao al ac, .slice aO aL aC] 27)) := hW3
 have Hv3 : Hid (v3 = w2.heap.size) := hv3
 clear hW3 hv3
 go_wp2_with fail
 rw [← HW3.out, ← Hv3.out]
 clear HW3 Hv3 rqa0 rqa1 rqa2
 have hq := c_parse56 (w := W3)
 rw [← HY.out] at hq
 refine (hq).mono ?_
 rintro e w4 ⟨v, rfl, hv, b⟩
 clear hq
 obtain ⟨nb, bo, bl, bc, bO, bL, bC, rfl, ib⟩ := hv.see sY (by decide)
 clear hv
 replace ia := ia.below b
 replace qa := qa.below b
 replace hb := bstep hb b
 clear b
 obtain ⟨W5, hW5⟩ : ∃ W, W = w4.alloc (.cells #[.bool nb, .slice bo bl bc, .slice bO bL bC] 27) := ⟨_, rfl⟩
 have qb : QCell W5 (w4.heap.size) nb (.slice bo bl bc) (.slice bO bL bC) := by rw [hW5]; exact (qcell_new _ rfl)
 have b : Below w4.heap.size w4 W5 := by rw [hW5]; exact belowA _ _
 replace ia := ia.below b
 replace ib := ib.below b
 replace qa := qa.below b
 replace hb := bstep hb b
 clear b
 have rqa0 : (w4.alloc (.cells #[.bool nb, .slice bo bl bc, .slice bO bL bC] 27)).cell? ⟨v3, 0, none⟩ = some (.bool na) := by rw [← hW5]; exact qa.cells.1
 have rqa1 : (w4.alloc (.cells #[.bool nb, .slice bo bl bc, .slice bO bL bC] 27)).cell? ⟨v3, 1, none⟩ = some (.slice ao al ac) := by rw [← hW5]; exact qa.cells.2.1
 have rqa2 : (w4.alloc (.cells #[.bool nb, .slice bo bl bc, .slice bO bL bC] 27)).cell? ⟨v3, 2, none⟩ = some (.slice aO aL aC) := by rw [← hW5]; exact qa.cells.2.2
 have rqb0 : (w4.alloc (.cells #[.bool nb, .slice bo bl bc, .slice bO bL bC] 27)).cell? ⟨w4.heap.size, 0, none⟩ = some (.bool nb) := by rw [← hW5]; exact qb.cells.1
 have rqb1 : (w4.alloc (.cells #[.bool nb, .slice bo bl bc, .slice bO bL bC] 27)).cell? ⟨w4.heap.size, 1, none⟩ = some (.slice bo bl bc) := by rw [← hW5]; exact qb.cells.2.1
 have rqb2 : (w4.alloc (.cells #[.bool nb, .slice bo bl bc, .slice bO bL bC] 27)).cell? ⟨w4.heap.size, 2, none⟩ = some (.slice bO bL bC) := by rw [← hW5]; exact qb.cells.2.2
 obtain ⟨v5, hv5⟩ : ∃ v, v = w4.heap.size := ⟨_, rfl⟩
 rw [← hv5] at qb
 have HW5 : Hid (W5 = w4.alloc (.cells #[.bool nb, .slice bo bl bc, .slice bO bL bC] 27)) := hW5
 have Hv5 : Hid (v5 = w4.heap.size) := hv5
 clear hW5 hv5
 go_wp2_with fail
 rw [← HW5.out, ← Hv5.out]
 clear HW5 Hv5 rqa0 rqa1 rqa2 rqb0 rqb1 rqb2
 have hq := c_radd ia ib (by decide)
 rw [HC.out] at hq
 refine (hq).mono ?_
 rintro e w6 ⟨v, rfl, hv, b⟩
 clear hq
 obtain ⟨nc, co, cl, cc, cO, cL, cC, rfl, ic⟩ := hv.see sC (by decide)
 clear hv
 replace ia := ia.below b
 replace ib := ib.below b
 replace qa := qa.below b
 replace qb := qb.below b
 replace hb := bstep hb b
 clear b
 obtain ⟨W7, hW7⟩ : ∃ W, W = w6.alloc (.cells #[.bool nc, .slice co cl cc, .slice cO cL cC] 27) := ⟨_, rfl⟩
 have qc : QCell W7 (w6.heap.size) nc (.slice co cl cc) (.slice cO cL cC) := by rw [hW7]; exact (qcell_new _ rfl)
 have b : Below w6.heap.size w6 W7 := by rw [hW7]; exact belowA _ _
 replace ia := ia.below b
 replace ib := ib.below b
 replace ic := ic.below b
 replace qa := qa.below b
 replace qb := qb.below b
 replace hb := bstep hb b
 clear b
 have rqa0 : (w6.alloc (.cells #[.bool nc, .slice co cl cc, .slice cO cL cC] 27)).cell? ⟨v3, 0, none⟩ = some (.bool na) := by rw [← hW7]; exact qa.cells.1
 have rqa1 : (w6.alloc (.cells #[.bool nc, .slice co cl cc, .slice cO cL cC] 27)).cell? ⟨v3, 1, none⟩ = some (.slice ao al ac) := by rw [← hW7]; exact qa.cells.2.1
 have rqa2 : (w6.alloc (.cells #[.bool nc, .slice co cl cc, .slice cO cL cC] 27)).cell? ⟨v3, 2, none⟩ = some (.slice aO aL aC) := by rw [← hW7]; exact qa.cells.2.2
 have rqb0 : (w6.alloc (.cells #[.bool nc, .slice co cl cc, .slice cO cL cC] 27)).cell? ⟨v5, 0, none⟩ = some (.bool nb) := by rw [← hW7]; exact qb.cells.1
 have rqb1 : (w6.alloc (.cells #[.bool nc, .slice co cl cc, .slice cO cL cC] 27)).cell? ⟨v5, 1, none⟩ = some (.slice bo bl bc) := by rw [← hW7]; exact qb.cells.2.1
 have rqb2 : (w6.alloc (.cells #[.bool nc, .slice co cl cc, .slice cO cL cC] 27)).cell? ⟨v5, 2, none⟩ = some (.slice bO bL bC) := by rw [← hW7]; exact qb.cells.2.2
 have rqc0 : (w6.alloc (.cells #[.bool nc, .slice co cl cc, .slice cO cL cC] 27)).cell? ⟨w6.heap.size, 0, none⟩ = some (.bool nc) := by rw [← hW7]; exact qc.cells.1
 have rqc1 : (w6.alloc (.cells #[.bool nc, .slice co cl cc, .slice cO cL cC] 27)).cell? ⟨w6.heap.size, 1, none⟩ = some (.slice co cl cc) := by rw [← hW7]; exact qc.cells.2.1
 have rqc2 : (w6.alloc (.cells #[.bool nc, .slice co cl cc, .slice cO cL cC] 27)).cell? ⟨w6.heap.size, 2, none⟩ = some (.slice cO cL cC) := by rw [← hW7]; exact qc.cells.2.2
 obtain ⟨v7, hv7⟩ : ∃ v, v = w6.heap.size := ⟨_, rfl⟩
 rw [← hv7] at qc
 have HW7 : Hid (W7 = w6.alloc (.cells #[.bool nc, .slice co cl cc, .slice cO cL cC] 27)) := hW7
 have Hv7 : Hid (v7 = w6.heap.size) := hv7
 clear hW7 hv7
 go_wp2_with fail
 rw [← HW7.out, ← Hv7.out]
 clear HW7 Hv7 rqa0 rqa1 rqa2 rqb0 rqb1 rqb2 rqc0 rqc1 rqc2
 have hq := c_rtext ia (by decide)
 rw [HTX.out] at hq
 refine (hq).mono ?_
 rintro e w8 ⟨rfl, b⟩
 clear hq
 replace ia := ia.below b
 replace ib := ib.below b
 replace ic := ic.below b
 replace qa := qa.below b
 replace qb := qb.below b
 replace qc := qc.below b
 replace hb := bstep hb b
 clear b
 obtain ⟨cqa0, cqa1, cqa2⟩ := qa.cells
 obtain ⟨cqb0, cqb1, cqb2⟩ := qb.cells
 obtain ⟨cqc0, cqc1, cqc2⟩ := qc.cells
 go_wp2_with fail
 clear cqa0 cqa1 cqa2 cqb0 cqb1 cqb2 cqc0 cqc1 cqc2
 have hq := c_rtext ic (by decide)
 rw [HTC.out] at hq
 refine (hq).mono ?_
 rintro e w9 ⟨rfl, b⟩
 clear hq
 replace ia := ia.below b
 replace ib := ib.below b
 replace ic := ic.below b
 replace qa := qa.below b
 replace qb := qb.below b
 replace qc := qc.below b
 replace hb := bstep hb b
 clear b
 obtain ⟨cqa0, cqa1, cqa2⟩ := qa.cells
 obtain ⟨cqb0, cqb1, cqb2⟩ := qb.cells
 obtain ⟨cqc0, cqc1, cqc2⟩ := qc.cells
 go_wp2_with fail
 clear cqa0 cqa1 cqa2 cqb0 cqb1 cqb2 cqc0 cqc1 cqc2
 have hq := c_rsum none 0 0 0 (fun _ => 0) 0 w9 (fun h => absurd h (by decide)) (fun i hi => absurd hi (by omega)) (by decide)
 rw [show rsum (fun _ => 0) 0 = 0 from rfl] at hq
 refine (hq).mono ?_
 rintro e w10 ⟨v, rfl, hv, b⟩
 clear hq
 obtain ⟨nz, zo, zl, zc, zO, zL, zC, rfl, iz⟩ := hv.see RSz.zero (by decide)
 clear hv
 replace ia := ia.below b
 replace ib := ib.below b
 replace ic := ic.below b
 replace qa := qa.below b
 replace qb := qb.below b
 replace qc := qc.below b
 replace hb := bstep hb b
 clear b
 obtain ⟨cqa0, cqa1, cqa2⟩ := qa.cells
 obtain ⟨cqb0, cqb1, cqb2⟩ := qb.cells
 obtain ⟨cqc0, cqc1, cqc2⟩ := qc.cells
 go_wp2_with fail
 clear cqa0 cqa1 cqa2 cqb0 cqb1 cqb2 cqc0 cqc1 cqc2
 have hq := c_rtext iz (by decide)
 rw [HT0.out] at hq
 refine (hq).mono ?_
 rintro e w11 ⟨rfl, b⟩
 clear hq
 replace ia := ia.below b
 replace ib := ib.below b
 replace ic := ic.below b
 replace iz := iz.below b
 replace qa := qa.below b
 replace qb := qb.below b
 replace qc := qc.below b
 replace hb := bstep hb b
 clear b
 obtain ⟨cqa0, cqa1, cqa2⟩ := qa.cells
 obtain ⟨cqb0, cqb1, cqb2⟩ := qb.cells
 obtain ⟨cqc0, cqc1, cqc2⟩ := qc.cells
 go_wp2_with fail
 clear cqa0 cqa1 cqa2 cqb0 cqb1 cqb2 cqc0 cqc1 cqc2
 have hq := c_rcmp ia ib (by decide)
 rw [HXY.out] at hq
 refine (hq).mono ?_
 rintro e w12 ⟨rfl, b⟩
 clear hq
 replace ia := ia.below b
 replace ib := ib.below b
 replace ic := ic.below b
 replace iz := iz.below b
 replace qa := qa.below b
 replace qb := qb.below b
 replace qc := qc.below b
 replace hb := bstep hb b
 clear b
 have HE : Hid (Below w.heap.size w w12) := hb
 clear hb hsz qa qb qc ia ib ic iz
 go_wp2_with fail
 go_ret
 exact ⟨rfl, HE.out⟩
open Go.RowKit
attribute [local go_sem ↓] Go.wp_at_zero Go.wp_at_succ

def NB (w : World) (v : Value) (z : Int) (L : Nat) : Prop := ∃ o l c xs, v = .slice o l c ∧ Num w (.slice o l c) xs ∧ xs.length ≤ L ∧ (val xs : Int) = z
theorem NB.below {w w' : World} {v : Value} {z : Int} {L : Nat} (h : NB w v z L) (hb : Below w.heap.size w w') : NB w' v z L := by
 obtain ⟨o, l, c, xs, e, h1, h2⟩ := h
 exact ⟨o, l, c, xs, e, h1.below (Nat.le_refl _) hb, h2⟩
theorem NB.ib {w : World} {o : Option Addr} {l c : Nat} {z : Int} {L : Nat} (h : NB w (.slice o l c) z L) : IB w (.agg #[.bool false, .slice o l c]) z L := by
 obtain ⟨o', l', c', xs, e, h1, h2, h3⟩ := h
 cases e
 exact ⟨_, _, _, _, _, rfl, h1, h2, h3⟩
theorem IB.num {w : World} {v : Value} {z : Int} {L : Nat} (h : IB w v z L) (hL : L ≤ 1000000) : INum w v z := by
 obtain ⟨n, o, l, c, xs, e, h1, h2, h3⟩ := h
 exact ⟨n, o, l, c, xs, e, h1, Nat.le_trans h2 hL, h3⟩
theorem IB.sz {w : World} {v : Value} {z : Int} {L : Nat} (h : IB w v z L) : Sz z L := by
 obtain ⟨n, o, l, c, xs, e, h1, h2, h3⟩ := h
 rw [← h3]
 exact Sz.of_num h1 h2
theorem NB.sz {w : World} {v : Value} {z : Int} {L : Nat} (h : NB w v z L) : Sz z L := by
 obtain ⟨o, l, c, xs, e, h1, h2, h3⟩ := h
 have := Sz.of_num (neg := false) h1 h2
 rw [show zv false (val xs) = z from h3] at this
 exact this
theorem IOwn.seeB {B : Nat} {w : World} {v : Value} {z : Int} {L : Nat} (h : IOwn B w v z) (hs : Sz z L) : ∃ n o l c, v = .agg #[.bool n, .slice o l c] ∧ IB w (.agg #[.bool n, .slice o l c]) z L := by
 have h2 := h.ib hs.len
 obtain ⟨n, o, l, c, xs, rfl, h1⟩ := h2
 exact ⟨n, o, l, c, rfl, _, _, _, _, _, rfl, h1⟩
def IE (w : World) (z : Int) (L : Nat) (e : Ending) (w' : World) : Prop := ∃ n o l c, e = .returned (.agg #[.bool n, .slice o l c]) ∧ IB w' (.agg #[.bool n, .slice o l c]) z L ∧ Below w.heap.size w w'
def NE (w : World) (z : Int) (L : Nat) (e : Ending) (w' : World) : Prop := ∃ o l c, e = .returned (.slice o l c) ∧ NB w' (.slice o l c) z L ∧ Below w.heap.size w w'
theorem IEnd.b {w w' : World} {z : Int} {L : Nat} {e : Ending} (h : IEnd w z e w') (hs : Sz z L) : IE w z L e w' := by
 obtain ⟨v, rfl, ho, hb⟩ := h
 obtain ⟨n, o, l, c, rfl, hi⟩ := ho.seeB hs
 exact ⟨n, o, l, c, rfl, hi, hb⟩
theorem raddB {a b : Value} {x y : Int} {L M : Nat} {w : World} (ha : IB w a x L) (hb' : IB w b y M) (hL : L + M ≤ 4000) : Calls Tryz.prog 97 #[a, b] w fun e w' => IE w (x + y) (L + M + 1) e w' :=
 (r_add (ha.num (by omega)) (hb'.num (by omega))).mono fun _ _ h => h.b ((ha.sz.mono (Nat.le_add_right L M)).add (hb'.sz.mono (Nat.le_add_left M L)))
theorem rnegB {a : Value} {x : Int} {L : Nat} {w : World} (ha : IB w a x L) (hL : L ≤ 4000) : Calls Tryz.prog 78 #[a] w fun e w' => IE w (-x) L e w' :=
 (r_neg (ha.num (by omega))).mono fun _ _ h => h.b ha.sz.neg
theorem rcmpB {a b : Value} {x y : Int} {L M : Nat} {w : World} (ha : IB w a x L) (hb' : IB w b y M) (hL : L + M ≤ 4000) : Calls Tryz.prog 76 #[a, b] w fun e w' => e = .returned (.int .i64 (cmpZ x y)) ∧ Below w.heap.size w w' :=
 r_cmp (ha.num (by omega)) (hb'.num (by omega)) (K := L + M) ha.sz hb'.sz (by omega) (by omega) (by omega)
theorem nmulB {a b : Value} {x y : Int} {L M : Nat} {w : World} (ha : NB w a x L) (hb' : NB w b y M) (hL : L + M ≤ 4000) : Calls Tryz.prog 99 #[a, b] w fun e w' => NE w (x * y) (L + M) e w' := by
 have hs := ha.sz.mul hb'.sz
 obtain ⟨o, l, c, xs, rfl, h1, h2, h3⟩ := ha
 obtain ⟨o', l', c', ys, rfl, k1, k2, k3⟩ := hb'
 refine (mul_ref _ _ _ _ _ h1 k1 (by omega) (by omega)).mono ?_
 rintro e w' ⟨v, rfl, ho, hb⟩
 obtain ⟨vo, vl, vc, rfl⟩ := ho.sl
 have e1 : ((val xs * val ys : Nat) : Int) = x * y := by rw [Int.natCast_mul, h3, k3]
 refine ⟨vo, vl, vc, rfl, ⟨_, _, _, _, rfl, ho.num, ?_, by rw [val_lim]; exact e1⟩, hb⟩
 have e2 : val xs * val ys = (x * y).natAbs := by omega
 rw [e2]; exact hs.len
theorem lowB {a b : Value} {z y : Int} {L M : Nat} {w : World} (ha : IB w a z L) (hb' : NB w b y M) (hL : L ≤ 3000) (hM : M ≤ 3000) (hy : y ≠ 0) : Calls Tryz.prog 63 #[a, b] w fun e w' => REnd w (Rat.divInt z y) e w' := by
 obtain ⟨n, o, l, c, xs, rfl, h1, h2, h3⟩ := ha
 obtain ⟨o', l', c', ys, rfl, k1, k2, k3⟩ := hb'
 have h := lowest3 n o o' l c l' c' xs ys w h1 k1 (by omega) (by omega) (fun e => hy (by rw [← k3, e]; rfl))
 rw [h3, k3] at h
 exact h
theorem und_sz {q L : Nat} (h : Sz (q : Int) L) (hL : 1 ≤ L) : Sz (und q) L := by
 unfold und
 split
 · exact Sz.one.mono hL
 · exact h
theorem keepS2 {w : World} {g v i : Nat} {x a b : Value} (h : w.cell? ⟨v, i, none⟩ = some x) (hne : g ≠ v) : ((w.setCell ⟨g, 0, none⟩ a).setCell ⟨g, 1, none⟩ b).cell? ⟨v, i, none⟩ = some x := by
 have e : ∀ (w : World) (k : Nat) (y : Value), (w.setCell ⟨g, k, none⟩ y).heap[v]? = w.heap[v]? := fun w k y => by rw [heap_setCell_other]; exact hne.symm
 have e2 : ((w.setCell ⟨g, 0, none⟩ a).setCell ⟨g, 1, none⟩ b).heap[v]? = w.heap[v]? := by rw [e, e]
 rw [← h]
 simp only [World.cell?, e2]
theorem num_one_new (w : World) : Num (w.alloc (.cells #[.int .u32 1] 37)) (.slice (some ⟨w.heap.size, 0, none⟩) 1 1) [1] := by
 refine ⟨fun x hx => by rw [List.mem_singleton.1 hx]; decide, some ⟨w.heap.size, 0, none⟩, 1, rfl, Nat.le_refl _, by decide, (fun h => by cases h), fun j hj => ⟨w.heap.size, 0, rfl, ?_⟩⟩
 have hj0 : j = 0 := by have : j < 1 := hj; omega
 subst hj0
 exact World.cell?_alloc_at _ _ _ _ rfl
theorem one3 (w : World) : Calls Tryz.prog 64 #[] w fun e w' => NE w 1 1 e w' := by
 have HN : Hid (Num (w.alloc (.cells #[.int .u32 1] 37)) (.slice (some ⟨w.heap.size, 0, none⟩) 1 1) [1]) := num_one_new w
 go_enter Tryz.func64, Tryz.ntmps64
 go_wp2
 go_ret
 exact ⟨_, _, _, rfl, ⟨_, _, _, _, rfl, HN.out, Nat.le_refl _, by decide⟩, belowA _ _⟩
theorem whole3 (o : Option Addr) (l c : Nat) (w : World) : Calls Tryz.prog 60 #[.slice o l c] w fun e w' => e = .returned (.agg #[.bool false, .slice o l c]) ∧ Below w.heap.size w w' := by
 go_enter Tryz.func60, Tryz.ntmps60
 go_wp2
 (try simp only [Exit.inBlock, Exit.then])
 exact bodyPost_ret (results_cell_row rfl _ _ w.heap.size 25 _ (0, 0) _ rfl (heap_alloc_new w _) Tryz.underlying25 rfl (by kernel_rfl)) rfl ⟨rfl, belowA _ _⟩
theorem lim_len_pos3 {n : Nat} (h : n ≠ 0) : 0 < (lim n).length := by
 rcases Nat.eq_zero_or_pos (lim n).length with h0 | h0
 ·
  exfalso; apply h
  have : lim n = [] := List.eq_nil_of_length_eq_zero h0
  rw [← val_lim n, this]; rfl
 · exact h0
theorem den3_no (na : Bool) (ao aO : Option Addr) (al ac aL aC : Nat) (ya : List Nat) (q L : Nat) (w : World) (da : Num w (.slice aO aL aC) ya) (la : ya.length ≤ L) (he : val ya = q) (hL : 1 ≤ L ∧ L ≤ 4000) (hz : q = 0) : Calls Tryz.prog 61 #[.agg #[.bool na, .slice ao al ac, .slice aO aL aC]] w fun e w' => NE w (und q) L e w' := by
 have hL300 := hL
 obtain ⟨W1, hW1⟩ : ∃ W1, W1 = w.alloc (.cells #[.bool na, .slice ao al ac, .slice aO aL aC] 27) := ⟨_, rfl⟩
 have qa : QCell W1 (w.heap.size) na (.slice ao al ac) (.slice aO aL aC) := by rw [hW1]; exact (qcell_new _ (by simp))
 have hb : Below w.heap.size w W1 := by rw [hW1]; exact belowA w _
 have hsz : w.heap.size < W1.heap.size := by rw [hW1]; simp
 replace da := da.below (Nat.le_refl _) hb
 have HW1 : Hid (W1 = w.alloc (.cells #[.bool na, .slice ao al ac, .slice aO aL aC] 27)) := hW1
 clear hW1
 go_enter Tryz.func61, Tryz.ntmps61
 go_wp2_with fail
 rw [← HW1.out]
 clear HW1
 obtain ⟨g, hg⟩ : ∃ g, g = w.heap.size := ⟨_, rfl⟩
 rw [← hg] at qa hsz ⊢
 have HG : Hid (g = w.heap.size) := hg
 clear hg
 obtain ⟨cqa0, cqa1, cqa2⟩ := qa.cells
 go_wp2_with fail
 clear cqa0 cqa1 cqa2
 have hq := norm_ref _ _ _ da (by omega)
 refine (hq).mono ?_
 rintro e w2 ⟨u, rfl, hu, b⟩
 clear hq
 obtain ⟨uo, ul, uc, rfl⟩ := hu.sl
 have hul := (num_len hu.num).1
 replace da := da.below (Nat.le_refl _) b
 replace qa := qa.below b
 replace hb := bstep hb b
 replace hsz := Nat.lt_of_lt_of_le hsz b.size
 clear b
 have hul0 : ul = 0 := by rw [← hul, he, hz]; rfl
 clear hul
 subst hul0
 obtain ⟨cqa0, cqa1, cqa2⟩ := qa.cells
 go_wp2_with fail
 clear cqa0 cqa1 cqa2
 refine (one3 _).mono ?_
 rintro e w3 ⟨yo, yl, yc, rfl, hn, b⟩
 replace da := da.below (Nat.le_refl _) b
 replace hu := hu.below b
 replace qa := qa.below b
 replace hb := bstep hb b
 replace hsz := Nat.lt_of_lt_of_le hsz b.size
 clear b
 have HE : Hid (NE w (und q) L (.returned (.slice yo yl yc)) w3) := ⟨_, _, _, rfl, by obtain ⟨o2, l2, c2, zs, e2, k1, k2, k3⟩ := hn; cases e2; exact ⟨_, _, _, _, rfl, k1, by omega, by rw [k3, hz]; rfl⟩, hb⟩
 clear hb hsz hn qa da hu
 go_wp2
 go_ret
 exact HE.out
theorem den3_yes (na : Bool) (ao aO : Option Addr) (al ac aL aC : Nat) (ya : List Nat) (q L : Nat) (w : World) (da : Num w (.slice aO aL aC) ya) (la : ya.length ≤ L) (he : val ya = q) (hL : 1 ≤ L ∧ L ≤ 4000) (hz : q ≠ 0) : Calls Tryz.prog 61 #[.agg #[.bool na, .slice ao al ac, .slice aO aL aC]] w fun e w' => NE w (und q) L e w' := by
 have hL300 := hL
 obtain ⟨W1, hW1⟩ : ∃ W1, W1 = w.alloc (.cells #[.bool na, .slice ao al ac, .slice aO aL aC] 27) := ⟨_, rfl⟩
 have qa : QCell W1 (w.heap.size) na (.slice ao al ac) (.slice aO aL aC) := by rw [hW1]; exact (qcell_new _ (by simp))
 have hb : Below w.heap.size w W1 := by rw [hW1]; exact belowA w _
 have hsz : w.heap.size < W1.heap.size := by rw [hW1]; simp
 replace da := da.below (Nat.le_refl _) hb
 have HW1 : Hid (W1 = w.alloc (.cells #[.bool na, .slice ao al ac, .slice aO aL aC] 27)) := hW1
 clear hW1
 go_enter Tryz.func61, Tryz.ntmps61
 go_wp2_with fail
 rw [← HW1.out]
 clear HW1
 obtain ⟨g, hg⟩ : ∃ g, g = w.heap.size := ⟨_, rfl⟩
 rw [← hg] at qa hsz ⊢
 have HG : Hid (g = w.heap.size) := hg
 clear hg
 obtain ⟨cqa0, cqa1, cqa2⟩ := qa.cells
 go_wp2_with fail
 clear cqa0 cqa1 cqa2
 have hq := norm_ref _ _ _ da (by omega)
 refine (hq).mono ?_
 rintro e w2 ⟨u, rfl, hu, b⟩
 clear hq
 obtain ⟨uo, ul, uc, rfl⟩ := hu.sl
 have hul := (num_len hu.num).1
 replace da := da.below (Nat.le_refl _) b
 replace qa := qa.below b
 replace hb := bstep hb b
 replace hsz := Nat.lt_of_lt_of_le hsz b.size
 clear b
 have hul0 : ((ul : Int) == 0) = false := nz_int2 (by rw [← hul, he]; exact lim_len_pos3 hz)
 clear hul
 obtain ⟨cqa0, cqa1, cqa2⟩ := qa.cells
 have HE : Hid (NE w (und q) L (.returned (.slice uo ul uc)) w2) := ⟨_, _, _, rfl, ⟨_, _, _, _, rfl, hu.num, Nat.le_trans (lim_short da) la, by rw [val_lim, he]; unfold und; rw [if_neg hz]⟩, hb⟩
 clear hb hsz qa da hu
 go_wp2
 go_ret
 exact HE.out
theorem den3 {na : Bool} {ao aO : Option Addr} {al ac aL aC : Nat} {q L : Nat} {w : World} (h : NB w (.slice aO aL aC) (q : Int) L) (hL : 1 ≤ L ∧ L ≤ 4000) : Calls Tryz.prog 61 #[.agg #[.bool na, .slice ao al ac, .slice aO aL aC]] w fun e w' => NE w (und q) L e w' := by
 obtain ⟨o, l, c, xs, e, h1, h2, h3⟩ := h
 cases e
 have h3 : val xs = q := by omega
 by_cases hz : q = 0
 · exact den3_no na ao _ al ac _ _ xs q L w h1 h2 h3 hL hz
 · exact den3_yes na ao _ al ac _ _ xs q L w h1 h2 h3 hL hz
theorem rmulE {a b : Value} {x y : Int} {L M : Nat} {w : World} (ha : IB w a x L) (hb' : IB w b y M) (hL : L + M ≤ 4000) : Calls Tryz.prog 77 #[a, b] w fun e w' => IEnd w (x * y) e w' := by
 have hs := ha.sz.mul hb'.sz
 obtain ⟨na, ao, al, ac, xa, rfl, ua, la, za⟩ := ha
 obtain ⟨nb, bo, bl, bc, xb, rfl, ub, lb, zb⟩ := hb'
 obtain ⟨ns, hns⟩ : ∃ s, s = (na != nb) := ⟨_, rfl⟩
 have hns2 : (na != nb) = ns := hns.symm
 obtain ⟨Z, hZ⟩ : ∃ Z, Z = x * y := ⟨_, rfl⟩
 rw [← hZ] at hs ⊢
 have HZ : Hid (zv ns (val xa * val xb) = Z) := by show _ = _; rw [hns, ← zv_mul, za, zb, hZ]
 clear hns hZ za zb
 have HL : Hid (xa.length ≤ 4000 ∧ xb.length ≤ 4000) := ⟨by omega, by omega⟩
 have HS : Hid (Sz Z (L + M)) := hs
 clear hs la lb
 obtain ⟨W1, hW1⟩ : ∃ W1, W1 = ((w.alloc (.cells #[.bool na, .slice ao al ac] 25)).alloc (.cells #[.bool nb, .slice bo bl bc] 25)).alloc (.cells #[.bool false, .slice none 0 0] 25) := ⟨_, rfl⟩
 have qa : ICell W1 (w.heap.size) na (.slice ao al ac) := by rw [hW1]; exact (icell_step (icell_step (icell_new _ (by simp))))
 have qb : ICell W1 (w.heap.size + 1) nb (.slice bo bl bc) := by rw [hW1]; exact (icell_step (icell_new _ (by simp)))
 have qR : ICell W1 (w.heap.size + 1 + 1) false (.slice none 0 0) := by rw [hW1]; exact (icell_new _ (by simp))
 have hb : Below w.heap.size w W1 := by rw [hW1]; exact bstep (bstep (belowA w _) (belowA _ _)) (belowA _ _)
 have hsz : w.heap.size + 1 + 1 < W1.heap.size := by rw [hW1]; simp
 replace ua := ua.below (Nat.le_refl _) hb
 replace ub := ub.below (Nat.le_refl _) hb
 have HW1 : Hid (W1 = ((w.alloc (.cells #[.bool na, .slice ao al ac] 25)).alloc (.cells #[.bool nb, .slice bo bl bc] 25)).alloc (.cells #[.bool false, .slice none 0 0] 25)) := hW1
 clear hW1
 go_enter Tryz.func77, Tryz.ntmps77
 go_wp2_with fail
 rw [← HW1.out]
 clear HW1
 obtain ⟨g, hg⟩ : ∃ g, g = w.heap.size := ⟨_, rfl⟩
 rw [← hg] at qa qb qR hsz ⊢
 have HG : Hid (g = w.heap.size) := hg
 clear hg
 obtain ⟨cqa0, cqa1⟩ := qa.cells
 obtain ⟨cqb0, cqb1⟩ := qb.cells
 obtain ⟨cqR0, cqR1⟩ := qR.cells
 have hns3 : (na == nb) = !ns := by rw [← hns2]; cases na <;> cases nb <;> rfl
 clear cqR0 cqR1
 go_region_held3 (fun w' => w'.cell? ⟨g, 0, none⟩ = some (.bool na) ∧ w'.cell? ⟨g + 1, 0, none⟩ = some (.bool nb) ∧ w'.cell? ⟨g, 1, none⟩ = some (.slice ao al ac) ∧ w'.cell? ⟨g + 1, 1, none⟩ = some (.slice bo bl bc)) (((try dsimp only); go_split_ands; refine ⟨?_, ?_, ?_, ?_⟩ <;> first | exact keepB (by with_reducible assumption) (by with_reducible assumption) | exact keepS2 (by with_reducible assumption) (by omega) | go_keep)) (first
  | (go_at_call 99; refine (mul_ref _ _ _ _ _ (ua.same (w' := W1.drew) rfl) (ub.same (w' := W1.drew) rfl) (by have := HL.out.1; omega) (by have := HL.out.2; omega)).mono ?_; rintro e w2 ⟨k, rfl, hk, b2⟩; obtain ⟨ko, kl, kc, rfl⟩ := hk.sl; have hkl : (lim (val xa * val xb)).length ≤ 1000000 := (by have h9 := HS.out.len; rw [← HZ.out, zv_abs] at h9; omega))
  | (go_at_call 108; have hq := make_ref ns _ _ _ hk.num (by omega); rw [val_lim, HZ.out] at hq; refine hq.mono ?_; rintro e w3 ⟨v, rfl, ⟨m, rfl, hm⟩, b3⟩; obtain ⟨mo, ml, mc, rfl⟩ := hm.sl; have qq := ((show ICell W1.drew (g + 1 + 1) false (.slice none 0 0) from qR).below b2).below b3; obtain ⟨y0, y1⟩ := qq.cells; have f0 := qq.thaw 0; have f1 := qq.thaw 1; have HE : Hid (IEnd w Z (.returned (.agg #[.bool (decide (Z < 0)), .slice mo ml mc])) ((w3.setCell ⟨g + 1 + 1, 0, none⟩ (.bool (decide (Z < 0)))).setCell ⟨g + 1 + 1, 1, none⟩ (.slice mo ml mc))) := (int_done rfl (by rw [HG.out]; omega) hm (Nat.lt_of_lt_of_le hsz b2.size) (bstep hb (bstep (bstep (below_drew' _) b2) b3))).i; have HW : Hid (ICell ((w3.setCell ⟨g + 1 + 1, 0, none⟩ (.bool (decide (Z < 0)))).setCell ⟨g + 1 + 1, 1, none⟩ (.slice mo ml mc)) (g + 1 + 1) (decide (Z < 0)) (.slice mo ml mc)) := qq.write _ _; generalize decide (Z < 0) = bb at *))
 go_wp2_with fail
 (try simp only [Exit.inBlock, Exit.then])
 exact bodyPost_ret (results_cell_row rfl _ _ (g + 1 + 1) 25 _ (0, 0) _ rfl HW.out Tryz.underlying25 rfl (by kernel_rfl)) rfl HE.out
theorem rmulB {a b : Value} {x y : Int} {L M : Nat} {w : World} (ha : IB w a x L) (hb' : IB w b y M) (hL : L + M ≤ 4000) : Calls Tryz.prog 77 #[a, b] w fun e w' => IE w (x * y) (L + M) e w' :=
 (rmulE ha hb' hL).mono fun _ _ h => h.b (ha.sz.mul hb'.sz)
open Go.RowKit
attribute [local go_sem ↓] Go.wp_at_zero Go.wp_at_succ

theorem neg3 {p : Int} {q L : Nat} (na : Bool) (ao aO : Option Addr) (al ac aL aC : Nat)  {w : World} (ia : IB w (.agg #[.bool na, .slice ao al ac]) p L) (da : NB w (.slice aO aL aC) (q : Int) L) (h1L : 1 ≤ L)  (hL : L ≤ 150) : Calls Tryz.prog 42 #[.agg #[.bool na, .slice ao al ac, .slice aO aL aC]] w fun e w' => REnd w (-rq p q) e w' := by
 obtain ⟨Z, hZ⟩ : ∃ Z, Z = -rq p q := ⟨_, rfl⟩
 rw [← hZ]
 have HZ : Hid (Rat.divInt (-p) (und q) = Z) := by show _ = _; rw [hZ]; exact rq_neg p q
 clear hZ
 obtain ⟨W1, hW1⟩ : ∃ W1, W1 = (w.alloc (.cells #[.bool na, .slice ao al ac, .slice aO aL aC] 27)).alloc (.cells #[.bool false, .slice none 0 0, .slice none 0 0] 27) := ⟨_, rfl⟩
 have qa : QCell W1 (w.heap.size) na (.slice ao al ac) (.slice aO aL aC) := by rw [hW1]; exact (qcell_step (qcell_new _ (by simp)))
 have qR : QCell W1 (w.heap.size + 1) false (.slice none 0 0) (.slice none 0 0) := by rw [hW1]; exact (qcell_new _ (by simp))
 have hb : Below w.heap.size w W1 := by rw [hW1]; exact bstep (belowA w _) (belowA _ _)
 have hsz : w.heap.size + 1 < W1.heap.size := by rw [hW1]; simp
 replace da := da.below hb
 replace ia := ia.below hb
 have HW1 : Hid (W1 = (w.alloc (.cells #[.bool na, .slice ao al ac, .slice aO aL aC] 27)).alloc (.cells #[.bool false, .slice none 0 0, .slice none 0 0] 27)) := hW1
 clear hW1
 go_enter Tryz.func42, Tryz.ntmps42
 go_wp2_with fail
 rw [← HW1.out]
 clear HW1
 obtain ⟨g, hg⟩ : ∃ g, g = w.heap.size := ⟨_, rfl⟩
 rw [← hg] at qa qR hsz ⊢
 have HG : Hid (g = w.heap.size) := hg
 clear hg
 refine region_late [(1, fun w' => w'.cell? ⟨g, 0, none⟩ = some (.bool na) ∧ w'.cell? ⟨g, 1, none⟩ = some (.slice ao al ac)), (3, fun w' => w'.cell? ⟨g, 0, none⟩ = some (.bool na) ∧ w'.cell? ⟨g, 1, none⟩ = some (.slice ao al ac) ∧ w'.cell? ⟨g, 2, none⟩ = some (.slice aO aL aC))] (by kernel_rfl) ?_
 have hHeld : AllL W1.drew [(1, fun w' => w'.cell? ⟨g, 0, none⟩ = some (.bool na) ∧ w'.cell? ⟨g, 1, none⟩ = some (.slice ao al ac)), (3, fun w' => w'.cell? ⟨g, 0, none⟩ = some (.bool na) ∧ w'.cell? ⟨g, 1, none⟩ = some (.slice ao al ac) ∧ w'.cell? ⟨g, 2, none⟩ = some (.slice aO aL aC))] := ⟨⟨(show QCell W1.drew (g) na (.slice ao al ac) (.slice aO aL aC) from qa).cells.1, (show QCell W1.drew (g) na (.slice ao al ac) (.slice aO aL aC) from qa).cells.2.1⟩, (show QCell W1.drew (g) na (.slice ao al ac) (.slice aO aL aC) from qa).cells, trivial⟩
 refine late_fr 0 (v := .pointer (some ⟨g, 0, none⟩)) rfl (Or.inl ⟨by rfl, ?_⟩) hHeld ?_
 · (intro u _; go_simp)
 try simp only [pu1, pu2, pu3, pu4]
 refine late_tk 1 (v := .agg #[.bool na, .slice ao al ac]) rfl (List.Mem.head _) (Or.inl ⟨by rfl, ?_⟩) hHeld ?_
 · (intro u hu; (try dsimp only at hu); go_split_ands; go_simp)
 try simp only [pu1, pu2, pu3, pu4]
 refine late_tk 3 (v := .agg #[.bool na, .slice ao al ac, .slice aO aL aC]) rfl (List.Mem.tail _ (List.Mem.head _)) (Or.inl ⟨by rfl, ?_⟩) hHeld ?_
 · (intro u hu; (try dsimp only at hu); go_split_ands; go_simp)
 try simp only [pu1, pu2, pu3, pu4]
 refine late_st 2 rfl (fun K hK => ?_)
 go_simp
 refine (rnegB (ia.below (below_drew' _)) (by omega)).mono ?_
 rintro e w2 ⟨nm5, m5o, m5l, m5c, rfl, im5, b2⟩
 have B2 : Below W1.heap.size W1 w2 := bstep (below_drew' _) b2
 replace hHeld := AllL.mv (w' := w2) hHeld ⟨⟨(qa.below B2).cells.1, (qa.below B2).cells.2.1⟩, (qa.below B2).cells, trivial⟩
 go_wp2_with fail
 refine hK.out _ _ (AllL.kept hHeld) ?_
 clear hK K
 try simp only [pu1, pu2, pu3, pu4]
 refine late_st 4 rfl (fun K hK => ?_)
 go_simp
 refine (den3 ((da.below (below_drew' _)).below b2) ⟨h1L, by omega⟩).mono ?_
 rintro e w3 ⟨m7o, m7l, m7c, rfl, im7, b3⟩
 have B3 : Below W1.heap.size W1 w3 := bstep B2 b3
 replace hHeld := AllL.mv (w' := w3) hHeld ⟨⟨(qa.below B3).cells.1, (qa.below B3).cells.2.1⟩, (qa.below B3).cells, trivial⟩
 go_wp2_with fail
 refine hK.out _ _ (AllL.kept hHeld) ?_
 clear hK K
 try simp only [pu1, pu2, pu3, pu4]
 refine late_st 5 rfl (fun K hK => ?_)
 go_simp
 have hq := lowB (im5.below b3) im7 (by omega) (by omega) (und_ne _)
 rw [HZ.out] at hq
 refine hq.mono ?_
 rintro e w4 ⟨v, rfl, hv, b4⟩
 clear hq
 obtain ⟨m, d, rfl, hm, hd, hap⟩ := hv
 obtain ⟨mo, ml, mc, rfl⟩ := hm.sl
 obtain ⟨mO, mL, mC, rfl⟩ := hd.sl
 have B4 : Below W1.heap.size W1 w4 := bstep B3 b4
 replace hHeld := AllL.mv (w' := w4) hHeld ⟨⟨(qa.below B4).cells.1, (qa.below B4).cells.2.1⟩, (qa.below B4).cells, trivial⟩
 go_wp2_with fail
 refine hK.out _ _ (AllL.kept hHeld) ?_
 clear hK K
 try simp only [pu1, pu2, pu3, pu4]
 have qq := qR.below B4
 have HE : Hid (REnd w Z (.returned (.agg #[.bool (decide (Z.num < 0)), .slice mo ml mc, .slice mO mL mC])) (((w4.setCell ⟨g + 1, 0, none⟩ (.bool (decide (Z.num < 0)))).setCell ⟨g + 1, 1, none⟩ (.slice mo ml mc)).setCell ⟨g + 1, 2, none⟩ (.slice mO mL mC))) := rat_done rfl (by rw [HG.out]; omega) hm hd hap (Nat.lt_of_lt_of_le hsz B3.size) (bstep hb B4)
 have HW : Hid (QCell (((w4.setCell ⟨g + 1, 0, none⟩ (.bool (decide (Z.num < 0)))).setCell ⟨g + 1, 1, none⟩ (.slice mo ml mc)).setCell ⟨g + 1, 2, none⟩ (.slice mO mL mC)) (g + 1) (decide (Z.num < 0)) (.slice mo ml mc) (.slice mO mL mC)) := qq.write _ _ _
 obtain ⟨y0, y1, y2⟩ := qq.cells
 have f0 := qq.thaw 0
 have f1 := qq.thaw 1
 have f2 := qq.thaw 2
 generalize decide (Z.num < 0) = bb at *
 clear qq hap
 clear im5 im7
 refine late_st 6 rfl (fun K hK => ?_)
 go_simp
 refine hK.out _ _ ⟨kpt 2, kpt 4, trivial⟩ ?_
 clear hK K
 try simp only [pu1, pu2, pu3, pu4]
 refine late_done (by kernel_rfl) ?_ _
 clear hHeld
 clear hb hsz hm hd qa qR ia da b2 b3 b4 B2 B3 B4 
 go_wp2_with fail
 (try simp only [Exit.inBlock, Exit.then])
 exact bodyPost_ret (results_cell_row rfl _ _ (g + 1) 27 _ (0, 0) _ rfl HW.out Tryz.underlying27 rfl (by kernel_rfl)) rfl HE.out
theorem mul3 {p r : Int} {q k L M : Nat} (na : Bool) (ao aO : Option Addr) (al ac aL aC : Nat) (nb : Bool) (bo bO : Option Addr) (bl bc bL bC : Nat) {w : World} (ia : IB w (.agg #[.bool na, .slice ao al ac]) p L) (da : NB w (.slice aO aL aC) (q : Int) L) (h1L : 1 ≤ L) (ib : IB w (.agg #[.bool nb, .slice bo bl bc]) r M) (db : NB w (.slice bO bL bC) (k : Int) M) (h1M : 1 ≤ M) (hL : L + M ≤ 300) : Calls Tryz.prog 66 #[.agg #[.bool na, .slice ao al ac, .slice aO aL aC], .agg #[.bool nb, .slice bo bl bc, .slice bO bL bC]] w fun e w' => REnd w (rq p q * rq r k) e w' := by
 obtain ⟨Z, hZ⟩ : ∃ Z, Z = rq p q * rq r k := ⟨_, rfl⟩
 rw [← hZ]
 have HZ : Hid (Rat.divInt (p * r) (und q * und k) = Z) := by show _ = _; rw [hZ]; exact rq_mul p r q k
 clear hZ
 obtain ⟨W1, hW1⟩ : ∃ W1, W1 = ((w.alloc (.cells #[.bool na, .slice ao al ac, .slice aO aL aC] 27)).alloc (.cells #[.bool nb, .slice bo bl bc, .slice bO bL bC] 27)).alloc (.cells #[.bool false, .slice none 0 0, .slice none 0 0] 27) := ⟨_, rfl⟩
 have qa : QCell W1 (w.heap.size) na (.slice ao al ac) (.slice aO aL aC) := by rw [hW1]; exact (qcell_step (qcell_step (qcell_new _ (by simp))))
 have qb : QCell W1 (w.heap.size + 1) nb (.slice bo bl bc) (.slice bO bL bC) := by rw [hW1]; exact (qcell_step (qcell_new _ (by simp)))
 have qR : QCell W1 (w.heap.size + 1 + 1) false (.slice none 0 0) (.slice none 0 0) := by rw [hW1]; exact (qcell_new _ (by simp))
 have hb : Below w.heap.size w W1 := by rw [hW1]; exact bstep (bstep (belowA w _) (belowA _ _)) (belowA _ _)
 have hsz : w.heap.size + 1 + 1 < W1.heap.size := by rw [hW1]; simp
 replace db := db.below hb
 replace da := da.below hb
 replace ia := ia.below hb
 replace ib := ib.below hb
 have HW1 : Hid (W1 = ((w.alloc (.cells #[.bool na, .slice ao al ac, .slice aO aL aC] 27)).alloc (.cells #[.bool nb, .slice bo bl bc, .slice bO bL bC] 27)).alloc (.cells #[.bool false, .slice none 0 0, .slice none 0 0] 27)) := hW1
 clear hW1
 go_enter Tryz.func66, Tryz.ntmps66
 go_wp2_with fail
 rw [← HW1.out]
 clear HW1
 obtain ⟨g, hg⟩ : ∃ g, g = w.heap.size := ⟨_, rfl⟩
 rw [← hg] at qa qb qR hsz ⊢
 have HG : Hid (g = w.heap.size) := hg
 clear hg
 refine region_late [(1, fun w' => w'.cell? ⟨g, 0, none⟩ = some (.bool na) ∧ w'.cell? ⟨g, 1, none⟩ = some (.slice ao al ac)), (3, fun w' => w'.cell? ⟨g + 1, 0, none⟩ = some (.bool nb) ∧ w'.cell? ⟨g + 1, 1, none⟩ = some (.slice bo bl bc)), (5, fun w' => w'.cell? ⟨g, 0, none⟩ = some (.bool na) ∧ w'.cell? ⟨g, 1, none⟩ = some (.slice ao al ac) ∧ w'.cell? ⟨g, 2, none⟩ = some (.slice aO aL aC)), (7, fun w' => w'.cell? ⟨g + 1, 0, none⟩ = some (.bool nb) ∧ w'.cell? ⟨g + 1, 1, none⟩ = some (.slice bo bl bc) ∧ w'.cell? ⟨g + 1, 2, none⟩ = some (.slice bO bL bC))] (by kernel_rfl) ?_
 have hHeld : AllL W1.drew [(1, fun w' => w'.cell? ⟨g, 0, none⟩ = some (.bool na) ∧ w'.cell? ⟨g, 1, none⟩ = some (.slice ao al ac)), (3, fun w' => w'.cell? ⟨g + 1, 0, none⟩ = some (.bool nb) ∧ w'.cell? ⟨g + 1, 1, none⟩ = some (.slice bo bl bc)), (5, fun w' => w'.cell? ⟨g, 0, none⟩ = some (.bool na) ∧ w'.cell? ⟨g, 1, none⟩ = some (.slice ao al ac) ∧ w'.cell? ⟨g, 2, none⟩ = some (.slice aO aL aC)), (7, fun w' => w'.cell? ⟨g + 1, 0, none⟩ = some (.bool nb) ∧ w'.cell? ⟨g + 1, 1, none⟩ = some (.slice bo bl bc) ∧ w'.cell? ⟨g + 1, 2, none⟩ = some (.slice bO bL bC))] := ⟨⟨(show QCell W1.drew (g) na (.slice ao al ac) (.slice aO aL aC) from qa).cells.1, (show QCell W1.drew (g) na (.slice ao al ac) (.slice aO aL aC) from qa).cells.2.1⟩, ⟨(show QCell W1.drew (g + 1) nb (.slice bo bl bc) (.slice bO bL bC) from qb).cells.1, (show QCell W1.drew (g + 1) nb (.slice bo bl bc) (.slice bO bL bC) from qb).cells.2.1⟩, (show QCell W1.drew (g) na (.slice ao al ac) (.slice aO aL aC) from qa).cells, (show QCell W1.drew (g + 1) nb (.slice bo bl bc) (.slice bO bL bC) from qb).cells, trivial⟩
 refine late_fr 0 (v := .pointer (some ⟨g, 0, none⟩)) rfl (Or.inl ⟨by rfl, ?_⟩) hHeld ?_
 · (intro u _; go_simp)
 try simp only [pu1, pu2, pu3, pu4]
 refine late_tk 1 (v := .agg #[.bool na, .slice ao al ac]) rfl (List.Mem.head _) (Or.inl ⟨by rfl, ?_⟩) hHeld ?_
 · (intro u hu; (try dsimp only at hu); go_split_ands; go_simp)
 try simp only [pu1, pu2, pu3, pu4]
 refine late_fr 2 (v := .pointer (some ⟨g + 1, 0, none⟩)) rfl (Or.inl ⟨by rfl, ?_⟩) hHeld ?_
 · (intro u _; go_simp)
 try simp only [pu1, pu2, pu3, pu4]
 refine late_tk 3 (v := .agg #[.bool nb, .slice bo bl bc]) rfl (List.Mem.tail _ (List.Mem.head _)) (Or.inl ⟨by rfl, ?_⟩) hHeld ?_
 · (intro u hu; (try dsimp only at hu); go_split_ands; go_simp)
 try simp only [pu1, pu2, pu3, pu4]
 refine late_tk 5 (v := .agg #[.bool na, .slice ao al ac, .slice aO aL aC]) rfl (List.Mem.tail _ (List.Mem.tail _ (List.Mem.head _))) (Or.inl ⟨by rfl, ?_⟩) hHeld ?_
 · (intro u hu; (try dsimp only at hu); go_split_ands; go_simp)
 try simp only [pu1, pu2, pu3, pu4]
 refine late_tk 7 (v := .agg #[.bool nb, .slice bo bl bc, .slice bO bL bC]) rfl (List.Mem.tail _ (List.Mem.tail _ (List.Mem.tail _ (List.Mem.head _)))) (Or.inl ⟨by rfl, ?_⟩) hHeld ?_
 · (intro u hu; (try dsimp only at hu); go_split_ands; go_simp)
 try simp only [pu1, pu2, pu3, pu4]
 refine late_st 4 rfl (fun K hK => ?_)
 go_simp
 refine (rmulB (ia.below (below_drew' _)) (ib.below (below_drew' _)) (by omega)).mono ?_
 rintro e w2 ⟨nm9, m9o, m9l, m9c, rfl, im9, b2⟩
 have B2 : Below W1.heap.size W1 w2 := bstep (below_drew' _) b2
 replace hHeld := AllL.mv (w' := w2) hHeld ⟨⟨(qa.below B2).cells.1, (qa.below B2).cells.2.1⟩, ⟨(qb.below B2).cells.1, (qb.below B2).cells.2.1⟩, (qa.below B2).cells, (qb.below B2).cells, trivial⟩
 go_wp2_with fail
 refine hK.out _ _ (AllL.kept hHeld) ?_
 clear hK K
 try simp only [pu1, pu2, pu3, pu4]
 refine late_st 6 rfl (fun K hK => ?_)
 go_simp
 refine (den3 ((da.below (below_drew' _)).below b2) ⟨h1L, by omega⟩).mono ?_
 rintro e w3 ⟨m11o, m11l, m11c, rfl, im11, b3⟩
 have B3 : Below W1.heap.size W1 w3 := bstep B2 b3
 replace hHeld := AllL.mv (w' := w3) hHeld ⟨⟨(qa.below B3).cells.1, (qa.below B3).cells.2.1⟩, ⟨(qb.below B3).cells.1, (qb.below B3).cells.2.1⟩, (qa.below B3).cells, (qb.below B3).cells, trivial⟩
 go_wp2_with fail
 refine hK.out _ _ (AllL.kept hHeld) ?_
 clear hK K
 try simp only [pu1, pu2, pu3, pu4]
 refine late_st 8 rfl (fun K hK => ?_)
 go_simp
 refine (den3 (((db.below (below_drew' _)).below b2).below b3) ⟨h1M, by omega⟩).mono ?_
 rintro e w4 ⟨m13o, m13l, m13c, rfl, im13, b4⟩
 have B4 : Below W1.heap.size W1 w4 := bstep B3 b4
 replace hHeld := AllL.mv (w' := w4) hHeld ⟨⟨(qa.below B4).cells.1, (qa.below B4).cells.2.1⟩, ⟨(qb.below B4).cells.1, (qb.below B4).cells.2.1⟩, (qa.below B4).cells, (qb.below B4).cells, trivial⟩
 go_wp2_with fail
 refine hK.out _ _ (AllL.kept hHeld) ?_
 clear hK K
 try simp only [pu1, pu2, pu3, pu4]
 refine late_st 9 rfl (fun K hK => ?_)
 go_simp
 refine (nmulB (im11.below b4) im13 (by omega)).mono ?_
 rintro e w5 ⟨m14o, m14l, m14c, rfl, im14, b5⟩
 have B5 : Below W1.heap.size W1 w5 := bstep B4 b5
 replace hHeld := AllL.mv (w' := w5) hHeld ⟨⟨(qa.below B5).cells.1, (qa.below B5).cells.2.1⟩, ⟨(qb.below B5).cells.1, (qb.below B5).cells.2.1⟩, (qa.below B5).cells, (qb.below B5).cells, trivial⟩
 go_wp2_with fail
 refine hK.out _ _ (AllL.kept hHeld) ?_
 clear hK K
 try simp only [pu1, pu2, pu3, pu4]
 refine late_st 10 rfl (fun K hK => ?_)
 go_simp
 have hq := lowB (((im9.below b3).below b4).below b5) im14 (by omega) (by omega) (und_mul_ne _ _)
 rw [HZ.out] at hq
 refine hq.mono ?_
 rintro e w6 ⟨v, rfl, hv, b6⟩
 clear hq
 obtain ⟨m, d, rfl, hm, hd, hap⟩ := hv
 obtain ⟨mo, ml, mc, rfl⟩ := hm.sl
 obtain ⟨mO, mL, mC, rfl⟩ := hd.sl
 have B6 : Below W1.heap.size W1 w6 := bstep B5 b6
 replace hHeld := AllL.mv (w' := w6) hHeld ⟨⟨(qa.below B6).cells.1, (qa.below B6).cells.2.1⟩, ⟨(qb.below B6).cells.1, (qb.below B6).cells.2.1⟩, (qa.below B6).cells, (qb.below B6).cells, trivial⟩
 go_wp2_with fail
 refine hK.out _ _ (AllL.kept hHeld) ?_
 clear hK K
 try simp only [pu1, pu2, pu3, pu4]
 have qq := qR.below B6
 have HE : Hid (REnd w Z (.returned (.agg #[.bool (decide (Z.num < 0)), .slice mo ml mc, .slice mO mL mC])) (((w6.setCell ⟨g + 1 + 1, 0, none⟩ (.bool (decide (Z.num < 0)))).setCell ⟨g + 1 + 1, 1, none⟩ (.slice mo ml mc)).setCell ⟨g + 1 + 1, 2, none⟩ (.slice mO mL mC))) := rat_done rfl (by rw [HG.out]; omega) hm hd hap (Nat.lt_of_lt_of_le hsz B5.size) (bstep hb B6)
 have HW : Hid (QCell (((w6.setCell ⟨g + 1 + 1, 0, none⟩ (.bool (decide (Z.num < 0)))).setCell ⟨g + 1 + 1, 1, none⟩ (.slice mo ml mc)).setCell ⟨g + 1 + 1, 2, none⟩ (.slice mO mL mC)) (g + 1 + 1) (decide (Z.num < 0)) (.slice mo ml mc) (.slice mO mL mC)) := qq.write _ _ _
 obtain ⟨y0, y1, y2⟩ := qq.cells
 have f0 := qq.thaw 0
 have f1 := qq.thaw 1
 have f2 := qq.thaw 2
 generalize decide (Z.num < 0) = bb at *
 clear qq hap
 clear im9 im11 im13 im14
 refine late_st 11 rfl (fun K hK => ?_)
 go_simp
 refine hK.out _ _ ⟨kpt 4, kpt 4, kpt 6, kpt 8, trivial⟩ ?_
 clear hK K
 try simp only [pu1, pu2, pu3, pu4]
 refine late_done (by kernel_rfl) ?_ _
 clear hHeld
 clear hb hsz hm hd qa qb qR ia ib da db b2 b3 b4 b5 b6 B2 B3 B4 B5 B6 
 go_wp2_with fail
 (try simp only [Exit.inBlock, Exit.then])
 exact bodyPost_ret (results_cell_row rfl _ _ (g + 1 + 1) 27 _ (0, 0) _ rfl HW.out Tryz.underlying27 rfl (by kernel_rfl)) rfl HE.out
theorem cmp3 {p r : Int} {q k L M : Nat} (na : Bool) (ao aO : Option Addr) (al ac aL aC : Nat) (nb : Bool) (bo bO : Option Addr) (bl bc bL bC : Nat) {w : World} (ia : IB w (.agg #[.bool na, .slice ao al ac]) p L) (da : NB w (.slice aO aL aC) (q : Int) L) (h1L : 1 ≤ L) (ib : IB w (.agg #[.bool nb, .slice bo bl bc]) r M) (db : NB w (.slice bO bL bC) (k : Int) M) (h1M : 1 ≤ M) (hL : L + M ≤ 300) : Calls Tryz.prog 41 #[.agg #[.bool na, .slice ao al ac, .slice aO aL aC], .agg #[.bool nb, .slice bo bl bc, .slice bO bL bC]] w fun e w' => e = .returned (.int .i64 (cmpQ (rq p q) (rq r k))) ∧ Below w.heap.size w w' := by
 obtain ⟨c, hc⟩ : ∃ c, c = cmpQ (rq p q) (rq r k) := ⟨_, rfl⟩
 rw [← hc]
 have HC : Hid (cmpZ (p * und k) (r * und q) = c) := by show _ = _; rw [hc]; exact cmp_rq p r q k
 clear hc
 obtain ⟨W1, hW1⟩ : ∃ W1, W1 = (w.alloc (.cells #[.bool na, .slice ao al ac, .slice aO aL aC] 27)).alloc (.cells #[.bool nb, .slice bo bl bc, .slice bO bL bC] 27) := ⟨_, rfl⟩
 have qa : QCell W1 (w.heap.size) na (.slice ao al ac) (.slice aO aL aC) := by rw [hW1]; exact (qcell_step (qcell_new _ (by simp)))
 have qb : QCell W1 (w.heap.size + 1) nb (.slice bo bl bc) (.slice bO bL bC) := by rw [hW1]; exact (qcell_new _ (by simp))
 have hb : Below w.heap.size w W1 := by rw [hW1]; exact bstep (belowA w _) (belowA _ _)
 have hsz : w.heap.size + 1 < W1.heap.size := by rw [hW1]; simp
 replace db := db.below hb
 replace da := da.below hb
 replace ia := ia.below hb
 replace ib := ib.below hb
 have HW1 : Hid (W1 = (w.alloc (.cells #[.bool na, .slice ao al ac, .slice aO aL aC] 27)).alloc (.cells #[.bool nb, .slice bo bl bc, .slice bO bL bC] 27)) := hW1
 clear hW1
 go_enter Tryz.func41, Tryz.ntmps41
 go_wp2_with fail
 rw [← HW1.out]
 clear HW1
 obtain ⟨g, hg⟩ : ∃ g, g = w.heap.size := ⟨_, rfl⟩
 rw [← hg] at qa qb hsz ⊢
 have HG : Hid (g = w.heap.size) := hg
 clear hg
 refine region_late [(1, fun w' => w'.cell? ⟨g, 0, none⟩ = some (.bool na) ∧ w'.cell? ⟨g, 1, none⟩ = some (.slice ao al ac)), (2, fun w' => w'.cell? ⟨g + 1, 0, none⟩ = some (.bool nb) ∧ w'.cell? ⟨g + 1, 1, none⟩ = some (.slice bo bl bc) ∧ w'.cell? ⟨g + 1, 2, none⟩ = some (.slice bO bL bC)), (7, fun w' => w'.cell? ⟨g + 1, 0, none⟩ = some (.bool nb) ∧ w'.cell? ⟨g + 1, 1, none⟩ = some (.slice bo bl bc)), (8, fun w' => w'.cell? ⟨g, 0, none⟩ = some (.bool na) ∧ w'.cell? ⟨g, 1, none⟩ = some (.slice ao al ac) ∧ w'.cell? ⟨g, 2, none⟩ = some (.slice aO aL aC))] (by kernel_rfl) ?_
 have hHeld : AllL W1.drew [(1, fun w' => w'.cell? ⟨g, 0, none⟩ = some (.bool na) ∧ w'.cell? ⟨g, 1, none⟩ = some (.slice ao al ac)), (2, fun w' => w'.cell? ⟨g + 1, 0, none⟩ = some (.bool nb) ∧ w'.cell? ⟨g + 1, 1, none⟩ = some (.slice bo bl bc) ∧ w'.cell? ⟨g + 1, 2, none⟩ = some (.slice bO bL bC)), (7, fun w' => w'.cell? ⟨g + 1, 0, none⟩ = some (.bool nb) ∧ w'.cell? ⟨g + 1, 1, none⟩ = some (.slice bo bl bc)), (8, fun w' => w'.cell? ⟨g, 0, none⟩ = some (.bool na) ∧ w'.cell? ⟨g, 1, none⟩ = some (.slice ao al ac) ∧ w'.cell? ⟨g, 2, none⟩ = some (.slice aO aL aC))] := ⟨⟨(show QCell W1.drew (g) na (.slice ao al ac) (.slice aO aL aC) from qa).cells.1, (show QCell W1.drew (g) na (.slice ao al ac) (.slice aO aL aC) from qa).cells.2.1⟩, (show QCell W1.drew (g + 1) nb (.slice bo bl bc) (.slice bO bL bC) from qb).cells, ⟨(show QCell W1.drew (g + 1) nb (.slice bo bl bc) (.slice bO bL bC) from qb).cells.1, (show QCell W1.drew (g + 1) nb (.slice bo bl bc) (.slice bO bL bC) from qb).cells.2.1⟩, (show QCell W1.drew (g) na (.slice ao al ac) (.slice aO aL aC) from qa).cells, trivial⟩
 refine late_fr 0 (v := .pointer (some ⟨g, 0, none⟩)) rfl (Or.inl ⟨by rfl, ?_⟩) hHeld ?_
 · (intro u _; go_simp)
 try simp only [pu1, pu2, pu3, pu4]
 refine late_tk 1 (v := .agg #[.bool na, .slice ao al ac]) rfl (List.Mem.head _) (Or.inl ⟨by rfl, ?_⟩) hHeld ?_
 · (intro u hu; (try dsimp only at hu); go_split_ands; go_simp)
 try simp only [pu1, pu2, pu3, pu4]
 refine late_tk 2 (v := .agg #[.bool nb, .slice bo bl bc, .slice bO bL bC]) rfl (List.Mem.tail _ (List.Mem.head _)) (Or.inl ⟨by rfl, ?_⟩) hHeld ?_
 · (intro u hu; (try dsimp only at hu); go_split_ands; go_simp)
 try simp only [pu1, pu2, pu3, pu4]
 refine late_fr 6 (v := .pointer (some ⟨g + 1, 0, none⟩)) rfl (Or.inl ⟨by rfl, ?_⟩) hHeld ?_
 · (intro u _; go_simp)
 try simp only [pu1, pu2, pu3, pu4]
 refine late_tk 7 (v := .agg #[.bool nb, .slice bo bl bc]) rfl (List.Mem.tail _ (List.Mem.tail _ (List.Mem.head _))) (Or.inl ⟨by rfl, ?_⟩) hHeld ?_
 · (intro u hu; (try dsimp only at hu); go_split_ands; go_simp)
 try simp only [pu1, pu2, pu3, pu4]
 refine late_tk 8 (v := .agg #[.bool na, .slice ao al ac, .slice aO aL aC]) rfl (List.Mem.tail _ (List.Mem.tail _ (List.Mem.tail _ (List.Mem.head _)))) (Or.inl ⟨by rfl, ?_⟩) hHeld ?_
 · (intro u hu; (try dsimp only at hu); go_split_ands; go_simp)
 try simp only [pu1, pu2, pu3, pu4]
 refine late_st 3 rfl (fun K hK => ?_)
 go_simp
 refine (den3 (db.below (below_drew' _)) ⟨h1M, by omega⟩).mono ?_
 rintro e w2 ⟨m8o, m8l, m8c, rfl, im8, b2⟩
 have B2 : Below W1.heap.size W1 w2 := bstep (below_drew' _) b2
 replace hHeld := AllL.mv (w' := w2) hHeld ⟨⟨(qa.below B2).cells.1, (qa.below B2).cells.2.1⟩, (qb.below B2).cells, ⟨(qb.below B2).cells.1, (qb.below B2).cells.2.1⟩, (qa.below B2).cells, trivial⟩
 go_wp2_with fail
 refine hK.out _ _ (AllL.kept hHeld) ?_
 clear hK K
 try simp only [pu1, pu2, pu3, pu4]
 refine late_st 4 rfl (fun K hK => ?_)
 go_simp
 have im9 := (im8).ib
 refine (whole3 _ _ _ _).mono ?_
 rintro e w3 ⟨rfl, b3⟩
 replace im9 := im9.below b3
 have B3 : Below W1.heap.size W1 w3 := bstep B2 b3
 replace hHeld := AllL.mv (w' := w3) hHeld ⟨⟨(qa.below B3).cells.1, (qa.below B3).cells.2.1⟩, (qb.below B3).cells, ⟨(qb.below B3).cells.1, (qb.below B3).cells.2.1⟩, (qa.below B3).cells, trivial⟩
 go_wp2_with fail
 refine hK.out _ _ (AllL.kept hHeld) ?_
 clear hK K
 try simp only [pu1, pu2, pu3, pu4]
 refine late_st 5 rfl (fun K hK => ?_)
 go_simp
 refine (rmulB (((ia.below (below_drew' _)).below b2).below b3) im9 (by omega)).mono ?_
 rintro e w4 ⟨nm10, m10o, m10l, m10c, rfl, im10, b4⟩
 have B4 : Below W1.heap.size W1 w4 := bstep B3 b4
 replace hHeld := AllL.mv (w' := w4) hHeld ⟨⟨(qa.below B4).cells.1, (qa.below B4).cells.2.1⟩, (qb.below B4).cells, ⟨(qb.below B4).cells.1, (qb.below B4).cells.2.1⟩, (qa.below B4).cells, trivial⟩
 go_wp2_with fail
 refine hK.out _ _ (AllL.kept hHeld) ?_
 clear hK K
 try simp only [pu1, pu2, pu3, pu4]
 refine late_st 9 rfl (fun K hK => ?_)
 go_simp
 refine (den3 ((((da.below (below_drew' _)).below b2).below b3).below b4) ⟨h1L, by omega⟩).mono ?_
 rintro e w5 ⟨m14o, m14l, m14c, rfl, im14, b5⟩
 have B5 : Below W1.heap.size W1 w5 := bstep B4 b5
 replace hHeld := AllL.mv (w' := w5) hHeld ⟨⟨(qa.below B5).cells.1, (qa.below B5).cells.2.1⟩, (qb.below B5).cells, ⟨(qb.below B5).cells.1, (qb.below B5).cells.2.1⟩, (qa.below B5).cells, trivial⟩
 go_wp2_with fail
 refine hK.out _ _ (AllL.kept hHeld) ?_
 clear hK K
 try simp only [pu1, pu2, pu3, pu4]
 refine late_st 10 rfl (fun K hK => ?_)
 go_simp
 have im15 := (im14).ib
 refine (whole3 _ _ _ _).mono ?_
 rintro e w6 ⟨rfl, b6⟩
 replace im15 := im15.below b6
 have B6 : Below W1.heap.size W1 w6 := bstep B5 b6
 replace hHeld := AllL.mv (w' := w6) hHeld ⟨⟨(qa.below B6).cells.1, (qa.below B6).cells.2.1⟩, (qb.below B6).cells, ⟨(qb.below B6).cells.1, (qb.below B6).cells.2.1⟩, (qa.below B6).cells, trivial⟩
 go_wp2_with fail
 refine hK.out _ _ (AllL.kept hHeld) ?_
 clear hK K
 try simp only [pu1, pu2, pu3, pu4]
 refine late_st 11 rfl (fun K hK => ?_)
 go_simp
 refine (rmulB ((((((ib.below (below_drew' _)).below b2).below b3).below b4).below b5).below b6) im15 (by omega)).mono ?_
 rintro e w7 ⟨nm16, m16o, m16l, m16c, rfl, im16, b7⟩
 have B7 : Below W1.heap.size W1 w7 := bstep B6 b7
 replace hHeld := AllL.mv (w' := w7) hHeld ⟨⟨(qa.below B7).cells.1, (qa.below B7).cells.2.1⟩, (qb.below B7).cells, ⟨(qb.below B7).cells.1, (qb.below B7).cells.2.1⟩, (qa.below B7).cells, trivial⟩
 go_wp2_with fail
 refine hK.out _ _ (AllL.kept hHeld) ?_
 clear hK K
 try simp only [pu1, pu2, pu3, pu4]
 refine late_st 12 rfl (fun K hK => ?_)
 go_simp
 have hq := rcmpB (((im10.below b5).below b6).below b7) im16 (by omega)
 rw [HC.out] at hq
 refine hq.mono ?_
 rintro e w8 ⟨rfl, b8⟩
 clear hq
 have B8 : Below W1.heap.size W1 w8 := bstep B7 b8
 replace hHeld := AllL.mv (w' := w8) hHeld ⟨⟨(qa.below B8).cells.1, (qa.below B8).cells.2.1⟩, (qb.below B8).cells, ⟨(qb.below B8).cells.1, (qb.below B8).cells.2.1⟩, (qa.below B8).cells, trivial⟩
 go_wp2_with fail
 refine hK.out _ _ (AllL.kept hHeld) ?_
 clear hK K
 try simp only [pu1, pu2, pu3, pu4]
 refine late_st 13 rfl (fun K hK => ?_)
 go_simp
 refine hK.out _ _ ⟨kpt 5, kpt 3, kpt 11, kpt 9, trivial⟩ ?_
 clear hK K
 try simp only [pu1, pu2, pu3, pu4]
 refine late_done (by kernel_rfl) ?_ _
 clear hHeld
 have b := B8
 clear b2 b3 b4 b5 b6 b7 b8 B2 B3 B4 B5 B6 B7 B8
 replace ia := ia.below b
 replace ib := ib.below b
 replace da := da.below b
 replace db := db.below b
 replace qa := qa.below b
 replace qb := qb.below b
 replace hb := bstep hb b
 replace hsz := Nat.lt_of_lt_of_le hsz b.size
 clear b
 have HE : Hid (Below w.heap.size w w8) := hb
 clear hb hsz qa qb ia ib da db im9 im10 im15 im16 im8 im14
 go_wp2_with fail
 go_ret
 exact ⟨rfl, HE.out⟩
theorem sign3 {p : Int} {q L : Nat} (na : Bool) (ao aO : Option Addr) (al ac aL aC : Nat) {w : World} (ia : IB w (.agg #[.bool na, .slice ao al ac]) p L) (hL : L ≤ 1000000) : Calls Tryz.prog 27 #[.agg #[.bool na, .slice ao al ac, .slice aO aL aC]] w fun e w' => e = .returned (.int .i64 (sgnQ (rq p q))) ∧ Below w.heap.size w w' := by
 obtain ⟨c, hc⟩ : ∃ c, c = sgnQ (rq p q) := ⟨_, rfl⟩
 rw [← hc]
 have HC : Hid (cmpZ p 0 = c) := by show _ = _; rw [hc]; exact sgn_rq p q
 clear hc
 obtain ⟨W1, hW1⟩ : ∃ W1, W1 = w.alloc (.cells #[.bool na, .slice ao al ac, .slice aO aL aC] 27) := ⟨_, rfl⟩
 have qa : QCell W1 (w.heap.size) na (.slice ao al ac) (.slice aO aL aC) := by rw [hW1]; exact (qcell_new _ (by simp))
 have hb : Below w.heap.size w W1 := by rw [hW1]; exact belowA w _
 have hsz : w.heap.size < W1.heap.size := by rw [hW1]; simp
 replace ia := ia.below hb
 have HW1 : Hid (W1 = w.alloc (.cells #[.bool na, .slice ao al ac, .slice aO aL aC] 27)) := hW1
 clear hW1
 go_enter Tryz.func27, Tryz.ntmps27
 go_wp2_with fail
 rw [← HW1.out]
 clear HW1
 obtain ⟨g, hg⟩ : ∃ g, g = w.heap.size := ⟨_, rfl⟩
 rw [← hg] at qa hsz ⊢
 have HG : Hid (g = w.heap.size) := hg
 clear hg
 obtain ⟨cqa0, cqa1, cqa2⟩ := qa.cells
 go_wp2_with fail
 clear cqa0 cqa1 cqa2
 have hs := r_sign (ia.num hL)
 rw [HC.out] at hs
 refine (hs).mono ?_
 rintro e w2 ⟨rfl, b⟩
 clear hs
 replace ia := ia.below b
 replace qa := qa.below b
 replace hb := bstep hb b
 replace hsz := Nat.lt_of_lt_of_le hsz b.size
 clear b
 have HE : Hid (Below w.heap.size w w2) := hb
 clear hb hsz qa ia
 go_wp2_with fail
 go_ret
 exact ⟨rfl, HE.out⟩
theorem RoomL.set3 {B : Nat} {w : World} {v : Value} {xs : List Nat} (h : RoomL B w v xs) {g : Nat} (hg : g < B) (a b c : Value) : RoomL B (((w.setCell ⟨g, 0, none⟩ a).setCell ⟨g, 1, none⟩ b).setCell ⟨g, 2, none⟩ c) v xs := by
 obtain ⟨u, e, ho⟩ := h.set2 hg a b
 have hne : u.ownBlock = none ∨ u.ownBlock ≠ some g := by
  rcases hu : u.ownBlock with _ | k
  · exact .inl rfl
  · exact .inr fun e => by have := (ho.block k hu).1; have := Option.some.inj e; omega
 exact ⟨u, e, ho.other c hne⟩
theorem lend3 (na : Bool) (ao aO : Option Addr) (al ac aL aC : Nat) (xa ya : List Nat) (w : World) (ua : Num w (.slice ao al ac) xa) (va : Num w (.slice aO aL aC) ya) (la : xa.length ≤ 1099511627776) (lb : ya.length ≤ 1099511627776) :
  Calls Tryz.prog 7 #[.agg #[.bool na, .slice ao al ac, .slice aO aL aC]] w fun e w' => ∃ u v, e = .returned (.agg #[.bool na, u, v]) ∧ RoomL w.heap.size w' u xa ∧ RoomL w.heap.size w' v ya ∧ (u.ownBlock = none ∨ u.ownBlock ≠ v.ownBlock) ∧ Below w.heap.size w w' := by
 obtain ⟨W1, hW1⟩ : ∃ W1, W1 = (w.alloc (.cells #[.bool na, .slice ao al ac, .slice aO aL aC] 27)).alloc (.cells #[.bool false, .slice none 0 0, .slice none 0 0] 27) := ⟨_, rfl⟩
 have qa : QCell W1 (w.heap.size) na (.slice ao al ac) (.slice aO aL aC) := by rw [hW1]; exact (qcell_step (qcell_new _ (by simp)))
 have qR : QCell W1 (w.heap.size + 1) false (.slice none 0 0) (.slice none 0 0) := by rw [hW1]; exact (qcell_new _ (by simp))
 have hb : Below w.heap.size w W1 := by rw [hW1]; exact bstep (belowA w _) (belowA _ _)
 have hsz : w.heap.size + 1 < W1.heap.size := by rw [hW1]; simp
 replace va := va.below (Nat.le_refl _) hb
 replace ua := ua.below (Nat.le_refl _) hb
 have HW1 : Hid (W1 = (w.alloc (.cells #[.bool na, .slice ao al ac, .slice aO aL aC] 27)).alloc (.cells #[.bool false, .slice none 0 0, .slice none 0 0] 27)) := hW1
 clear hW1
 go_enter Tryz.func7, Tryz.ntmps7
 go_wp2_with fail
 rw [← HW1.out]
 clear HW1
 obtain ⟨g, hg⟩ : ∃ g, g = w.heap.size := ⟨_, rfl⟩
 rw [← hg] at qa qR hsz ⊢
 have HG : Hid (g = w.heap.size) := hg
 clear hg
 refine region_late [(1, fun w' => w'.cell? ⟨g, 0, none⟩ = some (.bool na) ∧ w'.cell? ⟨g, 1, none⟩ = some (.slice ao al ac)), (4, fun w' => w'.cell? ⟨g, 2, none⟩ = some (.slice aO aL aC))] (by kernel_rfl) ?_
 have hHeld : AllL W1.drew [(1, fun w' => w'.cell? ⟨g, 0, none⟩ = some (.bool na) ∧ w'.cell? ⟨g, 1, none⟩ = some (.slice ao al ac)), (4, fun w' => w'.cell? ⟨g, 2, none⟩ = some (.slice aO aL aC))] := ⟨⟨(show QCell W1.drew (g) na (.slice ao al ac) (.slice aO aL aC) from qa).cells.1, (show QCell W1.drew (g) na (.slice ao al ac) (.slice aO aL aC) from qa).cells.2.1⟩, (show QCell W1.drew (g) na (.slice ao al ac) (.slice aO aL aC) from qa).cells.2.2, trivial⟩
 refine late_fr 0 (v := .pointer (some ⟨g, 0, none⟩)) rfl (Or.inl ⟨by rfl, ?_⟩) hHeld ?_
 · (intro u _; go_simp)
 try simp only [pu1, pu2, pu3, pu4]
 refine late_tk 1 (v := .agg #[.bool na, .slice ao al ac]) rfl (List.Mem.head _) (Or.inl ⟨by rfl, ?_⟩) hHeld ?_
 · (intro u hu; (try dsimp only at hu); go_split_ands; go_simp)
 try simp only [pu1, pu2, pu3, pu4]
 refine late_fr 3 (v := .pointer (some ⟨g, 2, none⟩)) rfl (Or.inl ⟨by rfl, ?_⟩) hHeld ?_
 · (intro u _; go_simp)
 try simp only [pu1, pu2, pu3, pu4]
 refine late_tk 4 (v := .slice aO aL aC) rfl (List.Mem.tail _ (List.Mem.head _)) (Or.inl ⟨by rfl, ?_⟩) hHeld ?_
 · (intro u hu; (try dsimp only at hu); go_split_ands; go_simp)
 try simp only [pu1, pu2, pu3, pu4]
 refine late_st 2 rfl (fun K hK => ?_)
 go_simp
 refine (lendInt3 na _ _ _ _ _ (ua.below (Nat.le_refl _) (below_drew' _)) la).mono ?_
 rintro e w2 ⟨u, rfl, hu, b2⟩
 obtain ⟨uo, ul, uc, rfl⟩ := hu.own.sl
 have B2 : Below W1.heap.size W1 w2 := bstep (below_drew' _) b2
 replace hHeld := AllL.mv (w' := w2) hHeld ⟨⟨(qa.below B2).cells.1, (qa.below B2).cells.2.1⟩, (qa.below B2).cells.2.2, trivial⟩
 go_wp2_with fail
 refine hK.out _ _ (AllL.kept hHeld) ?_
 clear hK K
 try simp only [pu1, pu2, pu3, pu4]
 refine late_st 5 rfl (fun K hK => ?_)
 go_simp
 refine (limbs3_any _ _ _ ((va.below (Nat.le_refl _) (below_drew' _)).below (Nat.le_refl _) b2) lb).mono ?_
 rintro e w3 ⟨u, rfl, hv, b3⟩
 obtain ⟨vo, vl, vc, rfl⟩ := hv.own.sl
 have hap := apart_later hu.own hv.own (Nat.le_refl _)
 replace hu := hu.below b3
 have B3 : Below W1.heap.size W1 w3 := bstep B2 b3
 replace hHeld := AllL.mv (w' := w3) hHeld ⟨⟨(qa.below B3).cells.1, (qa.below B3).cells.2.1⟩, (qa.below B3).cells.2.2, trivial⟩
 go_wp2_with fail
 refine hK.out _ _ (AllL.kept hHeld) ?_
 clear hK K
 try simp only [pu1, pu2, pu3, pu4]
 refine late_st 6 rfl (fun K hK => ?_)
 go_simp
 refine hK.out _ _ ⟨kpt 2, kpt 5, trivial⟩ ?_
 clear hK K
 try simp only [pu1, pu2, pu3, pu4]
 have qq := qR.below B3
 have HE : Hid (RoomL w.heap.size (((w3.setCell ⟨g + 1, 0, none⟩ (.bool na)).setCell ⟨g + 1, 1, none⟩ (.slice uo ul uc)).setCell ⟨g + 1, 2, none⟩ (.slice vo vl vc)) (.slice uo ul uc) xa ∧ RoomL w.heap.size (((w3.setCell ⟨g + 1, 0, none⟩ (.bool na)).setCell ⟨g + 1, 1, none⟩ (.slice uo ul uc)).setCell ⟨g + 1, 2, none⟩ (.slice vo vl vc)) (.slice vo vl vc) ya ∧ Below w.heap.size w (((w3.setCell ⟨g + 1, 0, none⟩ (.bool na)).setCell ⟨g + 1, 1, none⟩ (.slice uo ul uc)).setCell ⟨g + 1, 2, none⟩ (.slice vo vl vc))) := ⟨(hu.set3 (show g + 1 < W1.drew.heap.size from hsz) _ _ _).mono (Nat.le_trans hb.size (below_drew' _).size), (hv.set3 (Nat.lt_of_lt_of_le (show g + 1 < W1.drew.heap.size from hsz) b2.size) _ _ _).mono (Nat.le_trans (Nat.le_trans hb.size (below_drew' _).size) b2.size), iend3 (bstep hb B3) (by rw [HG.out]; omega)⟩
 have HW : Hid (QCell (((w3.setCell ⟨g + 1, 0, none⟩ (.bool na)).setCell ⟨g + 1, 1, none⟩ (.slice uo ul uc)).setCell ⟨g + 1, 2, none⟩ (.slice vo vl vc)) (g + 1) na (.slice uo ul uc) (.slice vo vl vc)) := qq.write _ _ _
 have HAP : Hid _ := hap
 obtain ⟨y0, y1, y2⟩ := qq.cells
 have f0 := qq.thaw 0
 have f1 := qq.thaw 1
 have f2 := qq.thaw 2
 clear qq hu hv hap
 refine late_st 7 rfl (fun K hK => ?_)
 go_simp
 refine hK.out _ _ ⟨kpt 2, kpt 5, trivial⟩ ?_
 clear hK K
 try simp only [pu1, pu2, pu3, pu4]
 refine late_done (by kernel_rfl) ?_ _
 clear hHeld
 clear hb hsz qa qR ua va b2 b3 B2 B3
 go_wp2_with fail
 (try simp only [Exit.inBlock, Exit.then])
 exact bodyPost_ret (results_cell_row rfl _ _ (g + 1) 27 _ (0, 0) _ rfl HW.out Tryz.underlying27 rfl (by kernel_rfl)) rfl ⟨_, _, rfl, HE.out.1, HE.out.2.1, HAP.out, HE.out.2.2⟩
theorem kept3 (B : Nat) (na : Bool) (ao bo aO bO : Option Addr) (al ac bl bc aL aC bL bC : Nat) (xb yb : List Nat) (w : World) (ra : RoomL B w (.slice ao al ac) xb) (ra2 : RoomL B w (.slice aO aL aC) yb) (ub : Num w (.slice bo bl bc) xb) (vb : Num w (.slice bO bL bC) yb) (lb : xb.length ≤ 1099511627776) (lb2 : yb.length ≤ 1099511627776) :
  Calls Tryz.prog 10 #[.agg #[.bool na, .slice ao al ac, .slice aO aL aC], .agg #[.bool na, .slice bo bl bc, .slice bO bL bC]] w fun e w' => e = .returned (.bool true) ∧ Below w.heap.size w w' := by
 obtain ⟨W1, hW1⟩ : ∃ W1, W1 = (w.alloc (.cells #[.bool na, .slice ao al ac, .slice aO aL aC] 27)).alloc (.cells #[.bool na, .slice bo bl bc, .slice bO bL bC] 27) := ⟨_, rfl⟩
 have qa : QCell W1 (w.heap.size) na (.slice ao al ac) (.slice aO aL aC) := by rw [hW1]; exact (qcell_step (qcell_new _ (by simp)))
 have qb : QCell W1 (w.heap.size + 1) na (.slice bo bl bc) (.slice bO bL bC) := by rw [hW1]; exact (qcell_new _ (by simp))
 have hb : Below w.heap.size w W1 := by rw [hW1]; exact bstep (belowA w _) (belowA _ _)
 have hsz : w.heap.size + 1 < W1.heap.size := by rw [hW1]; simp
 replace vb := vb.below (Nat.le_refl _) hb
 replace ra2 := ra2.below hb
 replace ra := ra.below hb
 replace ub := ub.below (Nat.le_refl _) hb
 have HW1 : Hid (W1 = (w.alloc (.cells #[.bool na, .slice ao al ac, .slice aO aL aC] 27)).alloc (.cells #[.bool na, .slice bo bl bc, .slice bO bL bC] 27)) := hW1
 clear hW1
 go_enter Tryz.func10, Tryz.ntmps10
 go_wp2_with fail
 rw [← HW1.out]
 clear HW1
 obtain ⟨g, hg⟩ : ∃ g, g = w.heap.size := ⟨_, rfl⟩
 rw [← hg] at qa qb hsz ⊢
 have HG : Hid (g = w.heap.size) := hg
 clear hg
 obtain ⟨cqa0, cqa1, cqa2⟩ := qa.cells
 obtain ⟨cqb0, cqb1, cqb2⟩ := qb.cells
 go_wp2_with fail
 clear cqa0 cqa1 cqa2 cqb0 cqb1 cqb2
 refine (keptInt3 B na ao bo al ac bl bc xb _ ra ub lb).mono ?_
 rintro e w2 ⟨rfl, b⟩
 replace ra := ra.below b
 replace ub := ub.below (Nat.le_refl _) b
 replace ra2 := ra2.below b
 replace vb := vb.below (Nat.le_refl _) b
 replace qa := qa.below b
 replace qb := qb.below b
 replace hb := bstep hb b
 replace hsz := Nat.lt_of_lt_of_le hsz b.size
 clear b
 obtain ⟨cqa0, cqa1, cqa2⟩ := qa.cells
 obtain ⟨cqb0, cqb1, cqb2⟩ := qb.cells
 go_wp2_with fail
 clear cqa0 cqa1 cqa2 cqb0 cqb1 cqb2
 refine (stands_yes _ _ _ _ _ ra2 vb lb2).mono ?_
 rintro e w3 ⟨rfl, q, hq⟩
 have HE : Hid (Below w.heap.size w w3) := by rw [hq]; exact bstep hb (below_drewN (Below.refl _ _) q)
 clear hq hb hsz qa qb ra ub ra2 vb
 go_wp2
 go_ret
 exact ⟨rfl, HE.out⟩
open Go.RowKit
attribute [local go_sem ↓] Go.wp_at_zero Go.wp_at_succ

def ECell (w : World) (g : Nat) (n : Bool) (m : Value) (n2 : Bool) (m2 : Value) : Prop := w.heap[g]? = some (.cells #[.bool n, m, .bool n2, m2] 58 (0, 0))
theorem ECell.cells {w : World} {g : Nat} {n : Bool} {m : Value} {n2 : Bool} {m2 : Value} (h : ECell w g n m n2 m2) : w.cell? ⟨g, 0, none⟩ = some (.bool n) ∧ w.cell? ⟨g, 1, none⟩ = some m ∧ w.cell? ⟨g, 2, none⟩ = some (.bool n2) ∧ w.cell? ⟨g, 3, none⟩ = some m2 := by
 refine ⟨?_, ?_, ?_, ?_⟩ <;> (rw [cell_of_row w g _ _ _ _ h]; rfl)
theorem ECell.thaw {w : World} {g : Nat} {n : Bool} {m : Value} {n2 : Bool} {m2 : Value} (h : ECell w g n m n2 m2) (k : Nat) : w.frozen? ⟨g, k, none⟩ = false := frozen_of_row w g k _ _ h
theorem ECell.below {w w' : World} {g : Nat} {n : Bool} {m : Value} {n2 : Bool} {m2 : Value} (h : ECell w g n m n2 m2) (hb : Below w.heap.size w w') : ECell w' g n m n2 m2 := by
 unfold ECell; rw [hb.block _ (Array.getElem?_eq_some_iff.1 h).1]; exact h
theorem ecell_step {w : World} {o : Obj} {g : Nat} {n : Bool} {m : Value} {n2 : Bool} {m2 : Value} (h : ECell w g n m n2 m2) : ECell (w.alloc o) g n m n2 m2 := h.below (belowA _ _)
theorem ecell_new (w : World) {n : Bool} {m : Value} {n2 : Bool} {m2 : Value} {k : Nat} (hk : w.heap.size = k) : ECell (w.alloc (.cells #[.bool n, m, .bool n2, m2] 58)) k n m n2 m2 := by subst hk; exact heap_alloc_new w _
theorem ECell.write {w : World} {g : Nat} {n : Bool} {m : Value} {n2 : Bool} {m2 : Value} (h : ECell w g n m n2 m2) (a : Bool) (b : Value) (c : Bool) (d : Value) : ECell ((((w.setCell ⟨g, 0, none⟩ (.bool a)).setCell ⟨g, 1, none⟩ b).setCell ⟨g, 2, none⟩ (.bool c)).setCell ⟨g, 3, none⟩ d) g a b c d := by
 unfold ECell
 have h1 := heap_setCell_same w g 0 _ _ (.bool a) h
 have h2 := heap_setCell_same _ g 1 _ _ b h1
 have h3 := heap_setCell_same _ g 2 _ _ (.bool c) h2
 have h4 := heap_setCell_same _ g 3 _ _ d h3
 rw [h4]
 rfl
theorem ECell.other {w : World} {g : Nat} {n : Bool} {m : Value} {n2 : Bool} {m2 : Value} (h : ECell w g n m n2 m2) {g' : Nat} (hne : g ≠ g') (k : Nat) (v : Value) : ECell (w.setCell ⟨g', k, none⟩ v) g n m n2 m2 := by
 unfold ECell
 rw [heap_setCell_other]
 · exact h
 · exact hne
def EV (w : World) (v : Value) (x y : Int) : Prop := ∃ nr ro rl rc mr rO rL rC, v = .agg #[.bool nr, .slice ro rl rc, .bool mr, .slice rO rL rC] ∧ INum w (.agg #[.bool nr, .slice ro rl rc]) x ∧ INum w (.agg #[.bool mr, .slice rO rL rC]) y
theorem EV.below {w w' : World} {v : Value} {x y : Int} (h : EV w v x y) (hb : Below w.heap.size w w') : EV w' v x y := by
 obtain ⟨nr, ro, rl, rc, mr, rO, rL, rC, e, h1, h2⟩ := h
 exact ⟨nr, ro, rl, rc, mr, rO, rL, rC, e, h1.below hb, h2.below hb⟩
theorem fr_le (x y : Int) : (fr x y).natAbs ≤ y.natAbs := by
 by_cases h : y = 0
 ·
  subst h
  unfold fr rz
  simp
 ·
  have h1 : rz x y = x.tmod y := by unfold rz; rw [if_neg h]
  have h2 : (x.tmod y).natAbs < y.natAbs := by rw [Int.natAbs_tmod]; exact Nat.mod_lt _ (by omega)
  have h3 : fup x y → (rz x y < 0 ∧ 0 < y) ∨ (0 < rz x y ∧ y < 0) := by
   unfold fup
   have C : ∀ z : Int, (z < 0 ∧ cmpZ z 0 = -1) ∨ (z = 0 ∧ cmpZ z 0 = 0) ∨ (0 < z ∧ cmpZ z 0 = 1) := by
    intro z
    unfold cmpZ
    rcases Int.lt_trichotomy z 0 with h | h | h
    · exact Or.inl ⟨h, if_pos h⟩
    · exact Or.inr (Or.inl ⟨h, by rw [if_neg (by omega), if_pos h]⟩)
    · exact Or.inr (Or.inr ⟨h, by rw [if_neg (by omega), if_neg (by omega)]⟩)
   rcases C (rz x y) with ⟨a, e⟩ | ⟨a, e⟩ | ⟨a, e⟩ <;> rcases C y with ⟨b, e2⟩ | ⟨b, e2⟩ | ⟨b, e2⟩ <;> rw [e, e2] <;> omega
  rw [h1] at h3
  unfold fr
  by_cases hf : fup x y
  ·
   rw [if_pos hf, h1]
   have := h3 hf
   omega
  · rw [if_neg hf, h1]; omega
def EOwn (B : Nat) (w : World) (v : Value) (X Y : Int) : Prop := ∃ m d, v = .agg #[.bool (decide (X < 0)), m, .bool (decide (Y < 0)), d] ∧ Own B 37 w m (lim X.natAbs) ∧ Own B 37 w d (lim Y.natAbs) ∧ (m.ownBlock = none ∨ m.ownBlock ≠ d.ownBlock)
def EEnd (w : World) (X Y : Int) (e : Ending) (w' : World) : Prop := ∃ v, e = .returned v ∧ EOwn w.heap.size w' v X Y ∧ Below w.heap.size w w'
theorem ratio_done {w w3 : World} {g B : Nat} {X Y : Int} {b c : Bool} {m d : Value} (hb : b = decide (X < 0)) (hc : c = decide (Y < 0)) (hg : w.heap.size ≤ g) (hm : Own B 37 w3 m (lim X.natAbs)) (hd : Own B 37 w3 d (lim Y.natAbs)) (hap : m.ownBlock = none ∨ m.ownBlock ≠ d.ownBlock) (hgB : g < B) (hbel : Below w.heap.size w w3) :
  EEnd w X Y (.returned (.agg #[.bool b, m, .bool c, d])) ((((w3.setCell ⟨g, 0, none⟩ (.bool b)).setCell ⟨g, 1, none⟩ m).setCell ⟨g, 2, none⟩ (.bool c)).setCell ⟨g, 3, none⟩ d) := by
 subst hb hc
 refine ⟨_, rfl, ⟨m, d, rfl, ((((hm.other _ (own_ne hm hgB)).other _ (own_ne hm hgB)).other _ (own_ne hm hgB)).other _ (own_ne hm hgB)).mono (by omega), ((((hd.other _ (own_ne hd hgB)).other _ (own_ne hd hgB)).other _ (own_ne hd hgB)).other _ (own_ne hd hgB)).mono (by omega), hap⟩, ?_⟩
 exact (((hbel.setCell (p := ⟨g, 0, none⟩) hg _).setCell (p := ⟨g, 1, none⟩) hg _).setCell (p := ⟨g, 2, none⟩) hg _).setCell (p := ⟨g, 3, none⟩) hg _
theorem icell_drew {w : World} {g : Nat} {n : Bool} {m : Value} (h : ICell w g n m) : ICell w.drew g n m := h
theorem ecell_drew {w : World} {g : Nat} {n : Bool} {m : Value} {n2 : Bool} {m2 : Value} (h : ECell w g n m n2 m2) : ECell w.drew g n m n2 m2 := h
theorem own_drew {B e : Nat} {w : World} {m : Value} {xs : List Nat} (h : Own B e w m xs) : Own B e w.drew m xs := h
theorem results_cc {P : Program} {fn : Func} {p q : Tmp} {ty ty2 : TypeId} (h : fn.results = #[.cell p ty, .cell q ty2]) (tmps : Array Value) (w : World) (g g2 : Nat) (t t2 : TypeId) (cs cs2 : Array Value) (fr fr2 : Nat × Nat) (d d2 : TypeDesc)
  (hp : tmps.getD p undef = .pointer (some ⟨g, 0, none⟩)) (hq : tmps.getD q undef = .pointer (some ⟨g2, 0, none⟩)) (hg : w.heap[g]? = some (.cells cs t fr)) (hg2 : w.heap[g2]? = some (.cells cs2 t2 fr2))
  (hu : P.underlying ty = some d) (hd : (match d with | .struct _ | .array _ _ => true | _ => false) = true) (hi : (P.info? ty).map (·.size) = some cs.size)
  (hu2 : P.underlying ty2 = some d2) (hd2 : (match d2 with | .struct _ | .array _ _ => true | _ => false) = true) (hi2 : (P.info? ty2).map (·.size) = some cs2.size) :
  (results fn tmps).run P w = .ok (.tuple #[.agg cs, .agg cs2]) w := by
 have hp' : tmps[p]?.getD undef = .pointer (some ⟨g, 0, none⟩) := by simpa using hp
 have hq' : tmps[q]?.getD undef = .pointer (some ⟨g2, 0, none⟩) := by simpa using hq
 simp [results, h, hp', hq', asAddr, run_loadVar_row w g t ty cs fr d hg hu hd hi, run_loadVar_row w g2 t2 ty2 cs2 fr2 d2 hg2 hu2 hd2 hi2]
theorem c_some {v : Value} {x y : Int} {w : World} (sm : Bool) (hs : sm = (cmpZ y 0 != 0)) (h : EV w v x y) : Calls Tryz.prog 33 #[v] w fun e w' => e = .returned (.bool sm) ∧ Below w.heap.size w w' := by
 obtain ⟨nr, ro, rl, rc, mr, rO, rL, rC, rfl, i1, i2⟩ := h
 clear i1
 have HC : Hid (∀ c, cmpZ y 0 = c → sm = (c != 0)) := fun c hc => by rw [hs, hc]
 clear hs
 obtain ⟨W1, hW1⟩ : ∃ W1, W1 = w.alloc (.cells #[.bool nr, .slice ro rl rc, .bool mr, .slice rO rL rC] 58) := ⟨_, rfl⟩
 have qr : ECell W1 (w.heap.size) nr (.slice ro rl rc) mr (.slice rO rL rC) := by rw [hW1]; exact (ecell_new _ (by simp))
 have hb : Below w.heap.size w W1 := by rw [hW1]; exact belowA w _
 have hsz : w.heap.size < W1.heap.size := by rw [hW1]; simp
 replace i2 := i2.below hb
 have HW1 : Hid (W1 = w.alloc (.cells #[.bool nr, .slice ro rl rc, .bool mr, .slice rO rL rC] 58)) := hW1
 clear hW1
 go_enter Tryz.func33, Tryz.ntmps33
 go_wp2_with fail
 rw [← HW1.out]
 clear HW1
 obtain ⟨g, hg⟩ : ∃ g, g = w.heap.size := ⟨_, rfl⟩
 rw [← hg] at qr hsz ⊢
 have HG : Hid (g = w.heap.size) := hg
 clear hg
 obtain ⟨cqr0, cqr1, cqr2, cqr3⟩ := qr.cells
 go_wp2_with fail
 clear cqr0 cqr1 cqr2 cqr3
 refine (c_sign i2).mono ?_
 rintro e w2 ⟨rfl, b⟩
 replace i2 := i2.below b
 replace qr := qr.below b
 replace hb := bstep hb b
 replace hsz := Nat.lt_of_lt_of_le hsz b.size
 clear b
 generalize hc9 : cmpZ y 0 = c
 have hc := HC.out c hc9
 clear hc9 HC
 subst hc
 have HE : Hid (Below w.heap.size w w2) := hb
 clear hb hsz qr i2
 go_wp2
 go_ret
 exact ⟨rfl, HE.out⟩
theorem c_split {v : Value} {x y : Int} {w : World} (h : EV w v x y) : Calls Tryz.prog 34 #[v] w fun e w' => ∃ t u, e = .returned (.tuple #[t, u]) ∧ IOwn w.heap.size w' t (fq x y) ∧ EV w' u y (fr x y) ∧ Below w.heap.size w w' := by
 obtain ⟨nr, ro, rl, rc, mr, rO, rL, rC, rfl, i1, i2⟩ := h
 obtain ⟨Z, hZ⟩ : ∃ Z, Z = fq x y := ⟨_, rfl⟩
 obtain ⟨R, hR⟩ : ∃ R, R = fr x y := ⟨_, rfl⟩
 have HZ : Hid (fq x y = Z ∧ fr x y = R) := ⟨hZ.symm, hR.symm⟩
 have HI2 : Hid (INum w (.agg #[.bool mr, .slice rO rL rC]) y) := i2
 have HSR : Hid (Sz R 1000000) := ⟨Nat.lt_of_le_of_lt (by rw [hR]; exact fr_le x y) i2.sz.lt⟩
 rw [← hZ, ← hR]
 clear hZ hR
 obtain ⟨W1, hW1⟩ : ∃ W1, W1 = ((w.alloc (.cells #[.bool nr, .slice ro rl rc, .bool mr, .slice rO rL rC] 58)).alloc (.cells #[.bool false, .slice none 0 0] 25)).alloc (.cells #[.bool false, .slice none 0 0, .bool false, .slice none 0 0] 58) := ⟨_, rfl⟩
 have qr : ECell W1 (w.heap.size) nr (.slice ro rl rc) mr (.slice rO rL rC) := by rw [hW1]; exact (ecell_step (ecell_step (ecell_new _ (by simp))))
 have qT : ICell W1 (w.heap.size + 1) false (.slice none 0 0) := by rw [hW1]; exact (icell_step (icell_new _ (by simp)))
 have qS : ECell W1 (w.heap.size + 1 + 1) false (.slice none 0 0) false (.slice none 0 0) := by rw [hW1]; exact (ecell_new _ (by simp))
 have hb : Below w.heap.size w W1 := by rw [hW1]; exact bstep (bstep (belowA w _) (belowA _ _)) (belowA _ _)
 have hsz : w.heap.size + 1 + 1 < W1.heap.size := by rw [hW1]; simp
 replace i2 := i2.below hb
 replace i1 := i1.below hb
 have HW1 : Hid (W1 = ((w.alloc (.cells #[.bool nr, .slice ro rl rc, .bool mr, .slice rO rL rC] 58)).alloc (.cells #[.bool false, .slice none 0 0] 25)).alloc (.cells #[.bool false, .slice none 0 0, .bool false, .slice none 0 0] 58)) := hW1
 clear hW1
 go_enter Tryz.func34, Tryz.ntmps34
 go_wp2_with fail
 rw [← HW1.out]
 clear HW1
 obtain ⟨g, hg⟩ : ∃ g, g = w.heap.size := ⟨_, rfl⟩
 rw [← hg] at qr qT qS hsz ⊢
 have HG : Hid (g = w.heap.size) := hg
 clear hg
 obtain ⟨cqr0, cqr1, cqr2, cqr3⟩ := qr.cells
 obtain ⟨cqT0, cqT1⟩ := qT.cells
 obtain ⟨cqS0, cqS1, cqS2, cqS3⟩ := qS.cells
 go_wp2_with fail
 clear cqr0 cqr1 cqr2 cqr3 cqT0 cqT1 cqS0 cqS1 cqS2 cqS3
 have hc := c_floor i1 i2
 rw [HZ.out.1, HZ.out.2] at hc
 have hszz := hsz
 refine (hc).mono ?_
 rintro e w2 ⟨mq, mr9, rfl, hq, hr, hqr, b⟩
 clear hc hqr
 obtain ⟨zo, zl, zc, rfl⟩ := hq.sl
 obtain ⟨so, sl, sc, rfl⟩ := hr.sl
 replace hq := hq.mono (B' := g + 3) (by omega)
 replace hr := hr.mono (B' := g + 3) (by omega)
 replace i1 := i1.below b
 replace i2 := i2.below b
 replace qr := qr.below b
 replace qT := qT.below b
 replace qS := qS.below b
 replace hb := bstep hb b
 replace hsz := Nat.lt_of_lt_of_le hsz b.size
 clear b
 generalize hbq : decide (Z < 0) = bq
 generalize hbr : decide (R < 0) = br
 have HBQ : Hid (decide (Z < 0) = bq ∧ decide (R < 0) = br) := ⟨hbq, hbr⟩
 clear hbq hbr
 have hszP := hsz
 obtain ⟨W3, hW3⟩ : ∃ W, W = (w2.alloc (.cells #[.bool bq, .slice zo zl zc] 25)).alloc (.cells #[.bool br, .slice so sl sc] 25) := ⟨_, rfl⟩
 have qt : ICell W3 (w2.heap.size) bq (.slice zo zl zc) := by rw [hW3]; exact (icell_step (icell_new _ rfl))
 have ql : ICell W3 (w2.heap.size + 1) br (.slice so sl sc) := by rw [hW3]; exact (icell_new _ (by simp))
 have b : Below w2.heap.size w2 W3 := by rw [hW3]; exact bstep (belowA _ _) (belowA _ _)
 replace i1 := i1.below b
 replace i2 := i2.below b
 replace hq := hq.below b
 replace hr := hr.below b
 replace qr := qr.below b
 replace qT := qT.below b
 replace qS := qS.below b
 replace hb := bstep hb b
 replace hsz := Nat.lt_of_lt_of_le hsz b.size
 clear b
 have rqr0 : ((w2.alloc (.cells #[.bool bq, .slice zo zl zc] 25)).alloc (.cells #[.bool br, .slice so sl sc] 25)).cell? ⟨g, 0, none⟩ = some (.bool nr) := by rw [← hW3]; exact qr.cells.1
 have rqr1 : ((w2.alloc (.cells #[.bool bq, .slice zo zl zc] 25)).alloc (.cells #[.bool br, .slice so sl sc] 25)).cell? ⟨g, 1, none⟩ = some (.slice ro rl rc) := by rw [← hW3]; exact qr.cells.2.1
 have rqr2 : ((w2.alloc (.cells #[.bool bq, .slice zo zl zc] 25)).alloc (.cells #[.bool br, .slice so sl sc] 25)).cell? ⟨g, 2, none⟩ = some (.bool mr) := by rw [← hW3]; exact qr.cells.2.2.1
 have rqr3 : ((w2.alloc (.cells #[.bool bq, .slice zo zl zc] 25)).alloc (.cells #[.bool br, .slice so sl sc] 25)).cell? ⟨g, 3, none⟩ = some (.slice rO rL rC) := by rw [← hW3]; exact qr.cells.2.2.2
 have rqT0 : ((w2.alloc (.cells #[.bool bq, .slice zo zl zc] 25)).alloc (.cells #[.bool br, .slice so sl sc] 25)).cell? ⟨g + 1, 0, none⟩ = some (.bool false) := by rw [← hW3]; exact qT.cells.1
 have rqT1 : ((w2.alloc (.cells #[.bool bq, .slice zo zl zc] 25)).alloc (.cells #[.bool br, .slice so sl sc] 25)).cell? ⟨g + 1, 1, none⟩ = some (.slice none 0 0) := by rw [← hW3]; exact qT.cells.2
 have rqS0 : ((w2.alloc (.cells #[.bool bq, .slice zo zl zc] 25)).alloc (.cells #[.bool br, .slice so sl sc] 25)).cell? ⟨g + 1 + 1, 0, none⟩ = some (.bool false) := by rw [← hW3]; exact qS.cells.1
 have rqS1 : ((w2.alloc (.cells #[.bool bq, .slice zo zl zc] 25)).alloc (.cells #[.bool br, .slice so sl sc] 25)).cell? ⟨g + 1 + 1, 1, none⟩ = some (.slice none 0 0) := by rw [← hW3]; exact qS.cells.2.1
 have rqS2 : ((w2.alloc (.cells #[.bool bq, .slice zo zl zc] 25)).alloc (.cells #[.bool br, .slice so sl sc] 25)).cell? ⟨g + 1 + 1, 2, none⟩ = some (.bool false) := by rw [← hW3]; exact qS.cells.2.2.1
 have rqS3 : ((w2.alloc (.cells #[.bool bq, .slice zo zl zc] 25)).alloc (.cells #[.bool br, .slice so sl sc] 25)).cell? ⟨g + 1 + 1, 3, none⟩ = some (.slice none 0 0) := by rw [← hW3]; exact qS.cells.2.2.2
 have rqt0 : ((w2.alloc (.cells #[.bool bq, .slice zo zl zc] 25)).alloc (.cells #[.bool br, .slice so sl sc] 25)).cell? ⟨w2.heap.size, 0, none⟩ = some (.bool bq) := by rw [← hW3]; exact qt.cells.1
 have rqt1 : ((w2.alloc (.cells #[.bool bq, .slice zo zl zc] 25)).alloc (.cells #[.bool br, .slice so sl sc] 25)).cell? ⟨w2.heap.size, 1, none⟩ = some (.slice zo zl zc) := by rw [← hW3]; exact qt.cells.2
 have rql0 : ((w2.alloc (.cells #[.bool bq, .slice zo zl zc] 25)).alloc (.cells #[.bool br, .slice so sl sc] 25)).cell? ⟨w2.heap.size + 1, 0, none⟩ = some (.bool br) := by rw [← hW3]; exact ql.cells.1
 have rql1 : ((w2.alloc (.cells #[.bool bq, .slice zo zl zc] 25)).alloc (.cells #[.bool br, .slice so sl sc] 25)).cell? ⟨w2.heap.size + 1, 1, none⟩ = some (.slice so sl sc) := by rw [← hW3]; exact ql.cells.2
 obtain ⟨v3, hv3⟩ : ∃ v, v = w2.heap.size := ⟨_, rfl⟩
 rw [← hv3] at qt ql
 have HW3 : Hid (W3 = (w2.alloc (.cells #[.bool bq, .slice zo zl zc] 25)).alloc (.cells #[.bool br, .slice so sl sc] 25)) := hW3
 have Hv3 : Hid (v3 = w2.heap.size) := hv3
 clear hW3 hv3
 go_wp2_with fail
 rw [← HW3.out, ← Hv3.out]
 have hgv : g + 1 + 1 < v3 := by rw [Hv3.out]; exact hszP
 clear hszP
 clear HW3 Hv3 rqr0 rqr1 rqr2 rqr3 rqT0 rqT1 rqS0 rqS1 rqS2 rqS3 rqt0 rqt1 rql0 rql1
 have n1 : ¬ v3 + 1 = g + 1 := by omega
 have n2 : ¬ v3 = g + 1 := by omega
 have n3 : ¬ g + 1 = v3 := by omega
 have n4 : ¬ g + 1 = v3 + 1 := by omega
 have n5 : ¬ g = g + 1 := by omega
 have n6 : ¬ g + 1 = g := by omega
 have n7 : ¬ g + 1 + 1 = g + 1 := by omega
 obtain ⟨cqr0, cqr1, cqr2, cqr3⟩ := qr.cells
 obtain ⟨cqT0, cqT1⟩ := qT.cells
 obtain ⟨cqS0, cqS1, cqS2, cqS3⟩ := qS.cells
 obtain ⟨cqt0, cqt1⟩ := qt.cells
 obtain ⟨cql0, cql1⟩ := ql.cells
 have f0 := qT.thaw 0
 have f1 := qT.thaw 1
 have f2 := qS.thaw 0
 have f3 := qS.thaw 1
 have f4 := qS.thaw 2
 have f5 := qS.thaw 3
 have hl1 : g + 1 < g + 3 := by omega
 have hl2 : g + 1 + 1 < g + 3 := by omega
 have m1 : g + 1 ≠ g + 1 + 1 := by omega
 have m2 : g + 1 + 1 ≠ g + 1 := by omega
 have hgw : w.heap.size ≤ g := by rw [HG.out]; exact Nat.le_refl _
 have hg1 : w.heap.size ≤ g + 1 := by omega
 have hg2 : w.heap.size ≤ g + 1 + 1 := by omega
 have hbF : Below w.heap.size w ((((((W3.setCell ⟨g + 1, 0, none⟩ (.bool bq)).setCell ⟨g + 1, 1, none⟩ (.slice zo zl zc)).setCell ⟨g + 1 + 1, 0, none⟩ (.bool mr)).setCell ⟨g + 1 + 1, 1, none⟩ (.slice rO rL rC)).setCell ⟨g + 1 + 1, 2, none⟩ (.bool br)).setCell ⟨g + 1 + 1, 3, none⟩ (.slice so sl sc)).drew := ((((((hb.setCell (p := ⟨g + 1, 0, none⟩) hg1 _).setCell (p := ⟨g + 1, 1, none⟩) hg1 _).setCell (p := ⟨g + 1 + 1, 0, none⟩) hg2 _).setCell (p := ⟨g + 1 + 1, 1, none⟩) hg2 _).setCell (p := ⟨g + 1 + 1, 2, none⟩) hg2 _).setCell (p := ⟨g + 1 + 1, 3, none⟩) hg2 _).drew
 have HT : Hid (ICell ((((((W3.setCell ⟨g + 1, 0, none⟩ (.bool bq)).setCell ⟨g + 1, 1, none⟩ (.slice zo zl zc)).setCell ⟨g + 1 + 1, 0, none⟩ (.bool mr)).setCell ⟨g + 1 + 1, 1, none⟩ (.slice rO rL rC)).setCell ⟨g + 1 + 1, 2, none⟩ (.bool br)).setCell ⟨g + 1 + 1, 3, none⟩ (.slice so sl sc)).drew (g + 1) bq (.slice zo zl zc)) := icell_drew (((((qT.write bq (.slice zo zl zc)).other m1 0 (.bool mr)).other m1 1 (.slice rO rL rC)).other m1 2 (.bool br)).other m1 3 (.slice so sl sc))
 have HS : Hid (ECell ((((((W3.setCell ⟨g + 1, 0, none⟩ (.bool bq)).setCell ⟨g + 1, 1, none⟩ (.slice zo zl zc)).setCell ⟨g + 1 + 1, 0, none⟩ (.bool mr)).setCell ⟨g + 1 + 1, 1, none⟩ (.slice rO rL rC)).setCell ⟨g + 1 + 1, 2, none⟩ (.bool br)).setCell ⟨g + 1 + 1, 3, none⟩ (.slice so sl sc)).drew (g + 1 + 1) mr (.slice rO rL rC) br (.slice so sl sc)) := ecell_drew (((qS.other m2 0 (.bool bq)).other m2 1 (.slice zo zl zc)).write _ _ _ _)
 have oq : Own (g + 3) 37 ((((((W3.setCell ⟨g + 1, 0, none⟩ (.bool bq)).setCell ⟨g + 1, 1, none⟩ (.slice zo zl zc)).setCell ⟨g + 1 + 1, 0, none⟩ (.bool mr)).setCell ⟨g + 1 + 1, 1, none⟩ (.slice rO rL rC)).setCell ⟨g + 1 + 1, 2, none⟩ (.bool br)).setCell ⟨g + 1 + 1, 3, none⟩ (.slice so sl sc)).drew (.slice zo zl zc) (lim Z.natAbs) := own_drew ((((((hq.other _ (own_ne hq hl1)).other _ (own_ne hq hl1)).other _ (own_ne hq hl2)).other _ (own_ne hq hl2)).other _ (own_ne hq hl2)).other _ (own_ne hq hl2))
 have or9 : Own (g + 3) 37 ((((((W3.setCell ⟨g + 1, 0, none⟩ (.bool bq)).setCell ⟨g + 1, 1, none⟩ (.slice zo zl zc)).setCell ⟨g + 1 + 1, 0, none⟩ (.bool mr)).setCell ⟨g + 1 + 1, 1, none⟩ (.slice rO rL rC)).setCell ⟨g + 1 + 1, 2, none⟩ (.bool br)).setCell ⟨g + 1 + 1, 3, none⟩ (.slice so sl sc)).drew (.slice so sl sc) (lim R.natAbs) := own_drew ((((((hr.other _ (own_ne hr hl1)).other _ (own_ne hr hl1)).other _ (own_ne hr hl2)).other _ (own_ne hr hl2)).other _ (own_ne hr hl2)).other _ (own_ne hr hl2))
 have HE : Hid (IOwn w.heap.size ((((((W3.setCell ⟨g + 1, 0, none⟩ (.bool bq)).setCell ⟨g + 1, 1, none⟩ (.slice zo zl zc)).setCell ⟨g + 1 + 1, 0, none⟩ (.bool mr)).setCell ⟨g + 1 + 1, 1, none⟩ (.slice rO rL rC)).setCell ⟨g + 1 + 1, 2, none⟩ (.bool br)).setCell ⟨g + 1 + 1, 3, none⟩ (.slice so sl sc)).drew (.agg #[.bool bq, .slice zo zl zc]) Z ∧ EV ((((((W3.setCell ⟨g + 1, 0, none⟩ (.bool bq)).setCell ⟨g + 1, 1, none⟩ (.slice zo zl zc)).setCell ⟨g + 1 + 1, 0, none⟩ (.bool mr)).setCell ⟨g + 1 + 1, 1, none⟩ (.slice rO rL rC)).setCell ⟨g + 1 + 1, 2, none⟩ (.bool br)).setCell ⟨g + 1 + 1, 3, none⟩ (.slice so sl sc)).drew (.agg #[.bool mr, .slice rO rL rC, .bool br, .slice so sl sc]) y R ∧ Below w.heap.size w ((((((W3.setCell ⟨g + 1, 0, none⟩ (.bool bq)).setCell ⟨g + 1, 1, none⟩ (.slice zo zl zc)).setCell ⟨g + 1 + 1, 0, none⟩ (.bool mr)).setCell ⟨g + 1 + 1, 1, none⟩ (.slice rO rL rC)).setCell ⟨g + 1 + 1, 2, none⟩ (.bool br)).setCell ⟨g + 1 + 1, 3, none⟩ (.slice so sl sc)).drew) := by
  obtain ⟨e1, e2⟩ := HBQ.out
  subst e1 e2
  exact ⟨⟨_, rfl, oq.mono (by omega)⟩, ⟨_, _, _, _, _, _, _, _, rfl, HI2.out.below hbF, IOwn.num ⟨_, rfl, or9⟩ HSR.out (Nat.le_refl _)⟩, hbF⟩
 clear hl1 hl2 m1 m2 hg1 hg2 oq or9 hbF hq hr hb hsz i1 i2 qr qT qS qt ql hszz hgv hgw
 go_region
 clear n1 n2 n3 n4 n5 n6 n7 f0 f1 f2 f3 f4 f5
 go_wp2_with fail
 (try simp only [Exit.inBlock, Exit.then])
 exact bodyPost_ret (results_cc rfl _ _ (g + 1) (g + 1 + 1) 25 58 _ _ (0, 0) (0, 0) _ _ rfl rfl HT.out HS.out Tryz.underlying25 rfl (by kernel_rfl) Tryz.underlying58 rfl (by kernel_rfl)) rfl ⟨_, _, rfl, HE.out⟩
theorem c_follow {a b e9 : Value} {x y u v9 z : Int} {w : World} (ha : EV w a x y) (hb9 : EV w b u v9) (he : INum w e9 z) (s1 : Sz (z * u) 1000000) (s2 : Sz (z * v9) 1000000) : Calls Tryz.prog 74 #[a, b, e9] w fun e w' => EEnd w (x + z * u) (y + z * v9) e w' := by
 obtain ⟨na, ao, al, ac, ma, aO, aL, aC, rfl, a1, a2⟩ := ha
 obtain ⟨nb, bo, bl, bc, mb, bO, bL, bC, rfl, b1, b2⟩ := hb9
 obtain ⟨ne, eo, el, ec, xe, rfl, ue, le, ee⟩ := he
 have ie : INum w (.agg #[.bool ne, .slice eo el ec]) z := ⟨_, _, _, _, _, rfl, ue, le, ee⟩
 clear ue le ee
 obtain ⟨X, hX⟩ : ∃ X, X = x + z * u := ⟨_, rfl⟩
 obtain ⟨Y, hY⟩ : ∃ Y, Y = y + z * v9 := ⟨_, rfl⟩
 have HX : Hid (x + z * u = X ∧ y + z * v9 = Y) := ⟨hX.symm, hY.symm⟩
 rw [← hX, ← hY]
 clear hX hY
 obtain ⟨W1, hW1⟩ : ∃ W1, W1 = (((w.alloc (.cells #[.bool na, .slice ao al ac, .bool ma, .slice aO aL aC] 58)).alloc (.cells #[.bool nb, .slice bo bl bc, .bool mb, .slice bO bL bC] 58)).alloc (.cells #[.bool ne, .slice eo el ec] 25)).alloc (.cells #[.bool false, .slice none 0 0, .bool false, .slice none 0 0] 58) := ⟨_, rfl⟩
 have qa : ECell W1 (w.heap.size) na (.slice ao al ac) ma (.slice aO aL aC) := by rw [hW1]; exact (ecell_step (ecell_step (ecell_step (ecell_new _ (by simp)))))
 have qb : ECell W1 (w.heap.size + 1) nb (.slice bo bl bc) mb (.slice bO bL bC) := by rw [hW1]; exact (ecell_step (ecell_step (ecell_new _ (by simp))))
 have qe : ICell W1 (w.heap.size + 1 + 1) ne (.slice eo el ec) := by rw [hW1]; exact (icell_step (icell_new _ (by simp)))
 have qR : ECell W1 (w.heap.size + 1 + 1 + 1) false (.slice none 0 0) false (.slice none 0 0) := by rw [hW1]; exact (ecell_new _ (by simp))
 have hb : Below w.heap.size w W1 := by rw [hW1]; exact bstep (bstep (bstep (belowA w _) (belowA _ _)) (belowA _ _)) (belowA _ _)
 have hsz : w.heap.size + 1 + 1 + 1 < W1.heap.size := by rw [hW1]; simp
 replace a2 := a2.below hb
 replace b2 := b2.below hb
 replace a1 := a1.below hb
 replace b1 := b1.below hb
 replace ie := ie.below hb
 have HW1 : Hid (W1 = (((w.alloc (.cells #[.bool na, .slice ao al ac, .bool ma, .slice aO aL aC] 58)).alloc (.cells #[.bool nb, .slice bo bl bc, .bool mb, .slice bO bL bC] 58)).alloc (.cells #[.bool ne, .slice eo el ec] 25)).alloc (.cells #[.bool false, .slice none 0 0, .bool false, .slice none 0 0] 58)) := hW1
 clear hW1
 go_enter Tryz.func74, Tryz.ntmps74
 go_wp2_with fail
 rw [← HW1.out]
 clear HW1
 obtain ⟨g, hg⟩ : ∃ g, g = w.heap.size := ⟨_, rfl⟩
 rw [← hg] at qa qb qe qR hsz ⊢
 have HG : Hid (g = w.heap.size) := hg
 clear hg
 obtain ⟨cqa0, cqa1, cqa2, cqa3⟩ := qa.cells
 obtain ⟨cqb0, cqb1, cqb2, cqb3⟩ := qb.cells
 obtain ⟨cqe0, cqe1⟩ := qe.cells
 obtain ⟨cqR0, cqR1, cqR2, cqR3⟩ := qR.cells
 go_wp2_with fail
 clear cqa0 cqa1 cqa2 cqa3 cqb0 cqb1 cqb2 cqb3 cqe0 cqe1 cqR0 cqR1 cqR2 cqR3
 have KEEP : ∀ u, Below W1.heap.size W1 u → AllL u [(1, fun w' => w'.cell? ⟨g, 0, none⟩ = some (.bool na) ∧ w'.cell? ⟨g, 1, none⟩ = some (.slice ao al ac)), (2, fun w' => w'.cell? ⟨g + 1 + 1, 0, none⟩ = some (.bool ne) ∧ w'.cell? ⟨g + 1 + 1, 1, none⟩ = some (.slice eo el ec)), (4, fun w' => w'.cell? ⟨g + 1, 0, none⟩ = some (.bool nb) ∧ w'.cell? ⟨g + 1, 1, none⟩ = some (.slice bo bl bc)), (8, fun w' => w'.cell? ⟨g, 2, none⟩ = some (.bool ma) ∧ w'.cell? ⟨g, 3, none⟩ = some (.slice aO aL aC)), (9, fun w' => w'.cell? ⟨g + 1 + 1, 0, none⟩ = some (.bool ne) ∧ w'.cell? ⟨g + 1 + 1, 1, none⟩ = some (.slice eo el ec)), (11, fun w' => w'.cell? ⟨g + 1, 2, none⟩ = some (.bool mb) ∧ w'.cell? ⟨g + 1, 3, none⟩ = some (.slice bO bL bC))] := fun u B => ⟨⟨(qa.below B).cells.1, (qa.below B).cells.2.1⟩, (qe.below B).cells, ⟨(qb.below B).cells.1, (qb.below B).cells.2.1⟩, ⟨(qa.below B).cells.2.2.1, (qa.below B).cells.2.2.2⟩, (qe.below B).cells, ⟨(qb.below B).cells.2.2.1, (qb.below B).cells.2.2.2⟩, trivial⟩
 refine region_late [(1, fun w' => w'.cell? ⟨g, 0, none⟩ = some (.bool na) ∧ w'.cell? ⟨g, 1, none⟩ = some (.slice ao al ac)), (2, fun w' => w'.cell? ⟨g + 1 + 1, 0, none⟩ = some (.bool ne) ∧ w'.cell? ⟨g + 1 + 1, 1, none⟩ = some (.slice eo el ec)), (4, fun w' => w'.cell? ⟨g + 1, 0, none⟩ = some (.bool nb) ∧ w'.cell? ⟨g + 1, 1, none⟩ = some (.slice bo bl bc)), (8, fun w' => w'.cell? ⟨g, 2, none⟩ = some (.bool ma) ∧ w'.cell? ⟨g, 3, none⟩ = some (.slice aO aL aC)), (9, fun w' => w'.cell? ⟨g + 1 + 1, 0, none⟩ = some (.bool ne) ∧ w'.cell? ⟨g + 1 + 1, 1, none⟩ = some (.slice eo el ec)), (11, fun w' => w'.cell? ⟨g + 1, 2, none⟩ = some (.bool mb) ∧ w'.cell? ⟨g + 1, 3, none⟩ = some (.slice bO bL bC))] (by kernel_rfl) ?_
 have BZ : Below W1.heap.size W1 W1.drew := below_drew' _
 obtain ⟨wz, hwz⟩ : ∃ u, u = W1.drew := ⟨_, rfl⟩
 rw [← hwz] at BZ ⊢
 clear hwz
 have hHeld := KEEP _ BZ
 have ka1 := a1.below BZ
 have ka2 := a2.below BZ
 have kb1 := b1.below BZ
 have kb2 := b2.below BZ
 have kie := ie.below BZ
 refine late_fr 0 (v := .pointer (some ⟨g, 0, none⟩)) rfl (Or.inl ⟨by rfl, ?_⟩) hHeld ?_
 · (intro u _; go_simp)
 try simp only [pu1, pu2, pu3, pu4]
 refine late_tk 1 (v := .agg #[.bool na, .slice ao al ac]) rfl (List.Mem.head _) (Or.inl ⟨by rfl, ?_⟩) hHeld ?_
 · (intro u hu; (try dsimp only at hu); go_split_ands; go_simp)
 try simp only [pu1, pu2, pu3, pu4]
 refine late_tk 2 (v := .agg #[.bool ne, .slice eo el ec]) rfl (List.Mem.tail _ (List.Mem.head _)) (Or.inl ⟨by rfl, ?_⟩) hHeld ?_
 · (intro u hu; (try dsimp only at hu); go_split_ands; go_simp)
 try simp only [pu1, pu2, pu3, pu4]
 refine late_fr 3 (v := .pointer (some ⟨g + 1, 0, none⟩)) rfl (Or.inl ⟨by rfl, ?_⟩) hHeld ?_
 · (intro u _; go_simp)
 try simp only [pu1, pu2, pu3, pu4]
 refine late_tk 4 (v := .agg #[.bool nb, .slice bo bl bc]) rfl (List.Mem.tail _ (List.Mem.tail _ (List.Mem.head _))) (Or.inl ⟨by rfl, ?_⟩) hHeld ?_
 · (intro u hu; (try dsimp only at hu); go_split_ands; go_simp)
 try simp only [pu1, pu2, pu3, pu4]
 refine late_fr 7 (v := .pointer (some ⟨g, 2, none⟩)) rfl (Or.inl ⟨by rfl, ?_⟩) hHeld ?_
 · (intro u _; go_simp)
 try simp only [pu1, pu2, pu3, pu4]
 refine late_tk 8 (v := .agg #[.bool ma, .slice aO aL aC]) rfl (List.Mem.tail _ (List.Mem.tail _ (List.Mem.tail _ (List.Mem.head _)))) (Or.inl ⟨by rfl, ?_⟩) hHeld ?_
 · (intro u hu; (try dsimp only at hu); go_split_ands; go_simp)
 try simp only [pu1, pu2, pu3, pu4]
 refine late_tk 9 (v := .agg #[.bool ne, .slice eo el ec]) rfl (List.Mem.tail _ (List.Mem.tail _ (List.Mem.tail _ (List.Mem.tail _ (List.Mem.head _))))) (Or.inl ⟨by rfl, ?_⟩) hHeld ?_
 · (intro u hu; (try dsimp only at hu); go_split_ands; go_simp)
 try simp only [pu1, pu2, pu3, pu4]
 refine late_fr 10 (v := .pointer (some ⟨g + 1, 2, none⟩)) rfl (Or.inl ⟨by rfl, ?_⟩) hHeld ?_
 · (intro u _; go_simp)
 try simp only [pu1, pu2, pu3, pu4]
 refine late_tk 11 (v := .agg #[.bool mb, .slice bO bL bC]) rfl (List.Mem.tail _ (List.Mem.tail _ (List.Mem.tail _ (List.Mem.tail _ (List.Mem.tail _ (List.Mem.head _)))))) (Or.inl ⟨by rfl, ?_⟩) hHeld ?_
 · (intro u hu; (try dsimp only at hu); go_split_ands; go_simp)
 try simp only [pu1, pu2, pu3, pu4]
 refine late_st 5 rfl (fun K hK => ?_)
 go_simp
 refine (c_mul kie kb1).mono ?_
 rintro e w2 ⟨v, rfl, hv, b2⟩
 obtain ⟨n1, o1, t1, c1, rfl, i1⟩ := hv.see s1 (Nat.le_refl _)
 clear hv kb1
 replace ka1 := ka1.below b2
 replace ka2 := ka2.below b2
 replace kb2 := kb2.below b2
 replace kie := kie.below b2
 have B2 : Below W1.heap.size W1 w2 := bstep BZ b2
 clear BZ b2
 replace hHeld := KEEP _ B2
 go_wp2_with fail
 refine hK.out _ _ (AllL.kept hHeld) ?_
 clear hK K
 try simp only [pu1, pu2, pu3, pu4]
 have hc := c_add ka1 i1
 rw [HX.out.1] at hc
 have hbase1 := Nat.lt_of_lt_of_le hsz B2.size
 refine late_st 6 rfl (fun K hK => ?_)
 go_simp
 refine (hc).mono ?_
 rintro e w3 ⟨v, rfl, ⟨m, rfl, hm⟩, b3⟩
 clear hc ka1 i1
 obtain ⟨mo, ml, mc, rfl⟩ := hm.sl
 replace ka2 := ka2.below b3
 replace kb2 := kb2.below b3
 replace kie := kie.below b3
 have B3 : Below W1.heap.size W1 w3 := bstep B2 b3
 clear B2 b3
 replace hHeld := KEEP _ B3
 go_wp2_with fail
 refine hK.out _ _ (AllL.kept hHeld) ?_
 clear hK K
 try simp only [pu1, pu2, pu3, pu4]
 refine late_st 12 rfl (fun K hK => ?_)
 go_simp
 refine (c_mul kie kb2).mono ?_
 rintro e w4 ⟨v, rfl, hv, b4⟩
 obtain ⟨n2, o2, t2, c2, rfl, i2⟩ := hv.see s2 (Nat.le_refl _)
 clear hv kb2 kie
 replace hm := hm.below b4
 replace ka2 := ka2.below b4
 have B4 : Below W1.heap.size W1 w4 := bstep B3 b4
 clear B3 b4
 replace hHeld := KEEP _ B4
 go_wp2_with fail
 refine hK.out _ _ (AllL.kept hHeld) ?_
 clear hK K
 try simp only [pu1, pu2, pu3, pu4]
 have hc := c_add ka2 i2
 rw [HX.out.2] at hc
 have hbase2 := Nat.lt_of_lt_of_le hsz B4.size
 refine late_st 13 rfl (fun K hK => ?_)
 go_simp
 refine (hc).mono ?_
 rintro e w5 ⟨v, rfl, ⟨d, rfl, hd⟩, b5⟩
 clear hc ka2 i2
 obtain ⟨mO, mL, mC, rfl⟩ := hd.sl
 have hap := apart_later hm hd (Nat.le_refl _)
 replace hm := hm.below b5
 replace hm := hm.mono (B' := g + 1 + 1 + 1 + 1) hbase1
 replace hd := hd.mono (B' := g + 1 + 1 + 1 + 1) hbase2
 have B5 : Below W1.heap.size W1 w5 := bstep B4 b5
 clear B4 b5
 replace hHeld := KEEP _ B5
 go_wp2_with fail
 refine hK.out _ _ (AllL.kept hHeld) ?_
 clear hK K
 try simp only [pu1, pu2, pu3, pu4]
 refine late_st 14 rfl (fun K hK => ?_)
 go_simp
 refine hK.out _ _ (AllL.kept hHeld) ?_
 clear hK K
 try simp only [pu1, pu2, pu3, pu4]
 have qq := qR.below B5
 have HE : Hid (EEnd w X Y (.returned (.agg #[.bool (decide (X < 0)), .slice mo ml mc, .bool (decide (Y < 0)), .slice mO mL mC])) ((((w5.setCell ⟨g + 1 + 1 + 1, 0, none⟩ (.bool (decide (X < 0)))).setCell ⟨g + 1 + 1 + 1, 1, none⟩ (.slice mo ml mc)).setCell ⟨g + 1 + 1 + 1, 2, none⟩ (.bool (decide (Y < 0)))).setCell ⟨g + 1 + 1 + 1, 3, none⟩ (.slice mO mL mC))) := ratio_done rfl rfl (by rw [HG.out]; omega) hm hd hap (Nat.lt_succ_self _) (bstep hb B5)
 have HW : Hid (ECell ((((w5.setCell ⟨g + 1 + 1 + 1, 0, none⟩ (.bool (decide (X < 0)))).setCell ⟨g + 1 + 1 + 1, 1, none⟩ (.slice mo ml mc)).setCell ⟨g + 1 + 1 + 1, 2, none⟩ (.bool (decide (Y < 0)))).setCell ⟨g + 1 + 1 + 1, 3, none⟩ (.slice mO mL mC)) (g + 1 + 1 + 1) (decide (X < 0)) (.slice mo ml mc) (decide (Y < 0)) (.slice mO mL mC)) := qq.write _ _ _ _
 obtain ⟨y0, y1, y2, y3⟩ := qq.cells
 have f0 := qq.thaw 0
 have f1 := qq.thaw 1
 have f2 := qq.thaw 2
 have f3 := qq.thaw 3
 clear qq hm hd hap KEEP
 generalize decide (X < 0) = bX at *
 generalize decide (Y < 0) = bY at *
 refine late_st 15 rfl (fun K hK => ?_)
 go_simp
 refine hK.out _ _ ⟨kpt 6, kpt 5, kpt 5, kpt 13, kpt 12, kpt 12, trivial⟩ ?_
 clear hK K
 try simp only [pu1, pu2, pu3, pu4]
 refine late_done (by kernel_rfl) ?_ _
 clear hHeld hb hsz hbase1 hbase2 B5 qa qb qe qR a1 b1 ie a2 b2 y0 y1 y2 y3 f0 f1 f2 f3
 go_wp2_with fail
 (try simp only [Exit.inBlock, Exit.then])
 exact bodyPost_ret (results_cell_row rfl _ _ (g + 1 + 1 + 1) 58 _ (0, 0) _ rfl HW.out Tryz.underlying58 rfl (by kernel_rfl)) rfl HE.out
def AEnd (w : World) (X Y : Int) (e : Ending) (w' : World) : Prop := ∃ m d, e = .returned (.agg #[.bool (decide (X < 0)), m, d]) ∧ Own w.heap.size 37 w' m (lim X.natAbs) ∧ Own w.heap.size 37 w' d (lim Y.natAbs) ∧ (m.ownBlock = none ∨ m.ownBlock ≠ d.ownBlock) ∧ Below w.heap.size w w'
theorem AEnd.rend {w w' : World} {X Y : Int} {e : Ending} {r : Rat} (h : AEnd w X Y e w') (h1 : r.num = X) (h2 : (r.den : Int) = Y) : REnd w r e w' := by
 obtain ⟨m, d, rfl, hm, hd, hap, hb⟩ := h
 have e2 : Y.natAbs = r.den := by omega
 rw [e2] at hd
 rw [← h1] at hm ⊢
 exact ⟨_, rfl, ⟨m, d, rfl, hm, hd, hap⟩, hb⟩
theorem c_ended {a b e9 : Value} {x y u v9 z : Int} {w : World} (ha : EV w a x y) (hb9 : EV w b u v9) (he : INum w e9 z) (s1 : Sz (z * u) 1000000) (s2 : Sz (z * v9) 1000000) : Calls Tryz.prog 73 #[a, b, e9] w fun e w' => AEnd w (x + z * u) (y + z * v9) e w' := by
 obtain ⟨na, ao, al, ac, ma, aO, aL, aC, rfl, a1, a2⟩ := ha
 obtain ⟨nb, bo, bl, bc, mb, bO, bL, bC, rfl, b1, b2⟩ := hb9
 obtain ⟨ne, eo, el, ec, xe, rfl, ue, le, ee⟩ := he
 have ie : INum w (.agg #[.bool ne, .slice eo el ec]) z := ⟨_, _, _, _, _, rfl, ue, le, ee⟩
 clear ue le ee
 obtain ⟨X, hX⟩ : ∃ X, X = x + z * u := ⟨_, rfl⟩
 obtain ⟨Y, hY⟩ : ∃ Y, Y = y + z * v9 := ⟨_, rfl⟩
 have HX : Hid (x + z * u = X ∧ y + z * v9 = Y) := ⟨hX.symm, hY.symm⟩
 rw [← hX, ← hY]
 clear hX hY
 obtain ⟨W1, hW1⟩ : ∃ W1, W1 = (((w.alloc (.cells #[.bool na, .slice ao al ac, .bool ma, .slice aO aL aC] 58)).alloc (.cells #[.bool nb, .slice bo bl bc, .bool mb, .slice bO bL bC] 58)).alloc (.cells #[.bool ne, .slice eo el ec] 25)).alloc (.cells #[.bool false, .slice none 0 0, .slice none 0 0] 27) := ⟨_, rfl⟩
 have qa : ECell W1 (w.heap.size) na (.slice ao al ac) ma (.slice aO aL aC) := by rw [hW1]; exact (ecell_step (ecell_step (ecell_step (ecell_new _ (by simp)))))
 have qb : ECell W1 (w.heap.size + 1) nb (.slice bo bl bc) mb (.slice bO bL bC) := by rw [hW1]; exact (ecell_step (ecell_step (ecell_new _ (by simp))))
 have qe : ICell W1 (w.heap.size + 1 + 1) ne (.slice eo el ec) := by rw [hW1]; exact (icell_step (icell_new _ (by simp)))
 have qR : QCell W1 (w.heap.size + 1 + 1 + 1) false (.slice none 0 0) (.slice none 0 0) := by rw [hW1]; exact (qcell_new _ (by simp))
 have hb : Below w.heap.size w W1 := by rw [hW1]; exact bstep (bstep (bstep (belowA w _) (belowA _ _)) (belowA _ _)) (belowA _ _)
 have hsz : w.heap.size + 1 + 1 + 1 < W1.heap.size := by rw [hW1]; simp
 replace a2 := a2.below hb
 replace b2 := b2.below hb
 replace a1 := a1.below hb
 replace b1 := b1.below hb
 replace ie := ie.below hb
 have HW1 : Hid (W1 = (((w.alloc (.cells #[.bool na, .slice ao al ac, .bool ma, .slice aO aL aC] 58)).alloc (.cells #[.bool nb, .slice bo bl bc, .bool mb, .slice bO bL bC] 58)).alloc (.cells #[.bool ne, .slice eo el ec] 25)).alloc (.cells #[.bool false, .slice none 0 0, .slice none 0 0] 27)) := hW1
 clear hW1
 go_enter Tryz.func73, Tryz.ntmps73
 go_wp2_with fail
 rw [← HW1.out]
 clear HW1
 obtain ⟨g, hg⟩ : ∃ g, g = w.heap.size := ⟨_, rfl⟩
 rw [← hg] at qa qb qe qR hsz ⊢
 have HG : Hid (g = w.heap.size) := hg
 clear hg
 obtain ⟨cqa0, cqa1, cqa2, cqa3⟩ := qa.cells
 obtain ⟨cqb0, cqb1, cqb2, cqb3⟩ := qb.cells
 obtain ⟨cqe0, cqe1⟩ := qe.cells
 obtain ⟨cqR0, cqR1, cqR2⟩ := qR.cells
 go_wp2_with fail
 clear cqa0 cqa1 cqa2 cqa3 cqb0 cqb1 cqb2 cqb3 cqe0 cqe1 cqR0 cqR1 cqR2
 have hq := c_follow (z := z) ⟨_, _, _, _, _, _, _, _, rfl, a1, a2⟩ ⟨_, _, _, _, _, _, _, _, rfl, b1, b2⟩ ie s1 s2
 rw [HX.out.1, HX.out.2] at hq
 have hszz := hsz
 refine (hq).mono ?_
 rintro e w2 ⟨v, rfl, ⟨m, d, rfl, hm, hd, hap⟩, b⟩
 clear hq
 obtain ⟨mo, ml, mc, rfl⟩ := hm.sl
 obtain ⟨mO, mL, mC, rfl⟩ := hd.sl
 replace hm := hm.mono (B' := g + 1 + 1 + 1 + 1) hszz
 replace hd := hd.mono (B' := g + 1 + 1 + 1 + 1) hszz
 clear hszz
 generalize hbX : decide (X < 0) = bX
 generalize hbY : decide (Y < 0) = bY
 have HBX : Hid (bX = decide (X < 0)) := hbX.symm
 clear hbX hbY
 replace a1 := a1.below b
 replace b1 := b1.below b
 replace ie := ie.below b
 replace a2 := a2.below b
 replace b2 := b2.below b
 replace qa := qa.below b
 replace qb := qb.below b
 replace qe := qe.below b
 replace qR := qR.below b
 replace hb := bstep hb b
 replace hsz := Nat.lt_of_lt_of_le hsz b.size
 clear b
 obtain ⟨W3, hW3⟩ : ∃ W, W = w2.alloc (.cells #[.bool bX, .slice mo ml mc, .bool bY, .slice mO mL mC] 58) := ⟨_, rfl⟩
 have qZ : ECell W3 (w2.heap.size) bX (.slice mo ml mc) bY (.slice mO mL mC) := by rw [hW3]; exact (ecell_new _ rfl)
 have b : Below w2.heap.size w2 W3 := by rw [hW3]; exact belowA _ _
 replace a1 := a1.below b
 replace b1 := b1.below b
 replace ie := ie.below b
 replace a2 := a2.below b
 replace b2 := b2.below b
 replace hm := hm.below b
 replace hd := hd.below b
 replace qa := qa.below b
 replace qb := qb.below b
 replace qe := qe.below b
 replace qR := qR.below b
 replace hb := bstep hb b
 replace hsz := Nat.lt_of_lt_of_le hsz b.size
 clear b
 have rqa0 : (w2.alloc (.cells #[.bool bX, .slice mo ml mc, .bool bY, .slice mO mL mC] 58)).cell? ⟨g, 0, none⟩ = some (.bool na) := by rw [← hW3]; exact qa.cells.1
 have rqa1 : (w2.alloc (.cells #[.bool bX, .slice mo ml mc, .bool bY, .slice mO mL mC] 58)).cell? ⟨g, 1, none⟩ = some (.slice ao al ac) := by rw [← hW3]; exact qa.cells.2.1
 have rqa2 : (w2.alloc (.cells #[.bool bX, .slice mo ml mc, .bool bY, .slice mO mL mC] 58)).cell? ⟨g, 2, none⟩ = some (.bool ma) := by rw [← hW3]; exact qa.cells.2.2.1
 have rqa3 : (w2.alloc (.cells #[.bool bX, .slice mo ml mc, .bool bY, .slice mO mL mC] 58)).cell? ⟨g, 3, none⟩ = some (.slice aO aL aC) := by rw [← hW3]; exact qa.cells.2.2.2
 have rqb0 : (w2.alloc (.cells #[.bool bX, .slice mo ml mc, .bool bY, .slice mO mL mC] 58)).cell? ⟨g + 1, 0, none⟩ = some (.bool nb) := by rw [← hW3]; exact qb.cells.1
 have rqb1 : (w2.alloc (.cells #[.bool bX, .slice mo ml mc, .bool bY, .slice mO mL mC] 58)).cell? ⟨g + 1, 1, none⟩ = some (.slice bo bl bc) := by rw [← hW3]; exact qb.cells.2.1
 have rqb2 : (w2.alloc (.cells #[.bool bX, .slice mo ml mc, .bool bY, .slice mO mL mC] 58)).cell? ⟨g + 1, 2, none⟩ = some (.bool mb) := by rw [← hW3]; exact qb.cells.2.2.1
 have rqb3 : (w2.alloc (.cells #[.bool bX, .slice mo ml mc, .bool bY, .slice mO mL mC] 58)).cell? ⟨g + 1, 3, none⟩ = some (.slice bO bL bC) := by rw [← hW3]; exact qb.cells.2.2.2
 have rqe0 : (w2.alloc (.cells #[.bool bX, .slice mo ml mc, .bool bY, .slice mO mL mC] 58)).cell? ⟨g + 1 + 1, 0, none⟩ = some (.bool ne) := by rw [← hW3]; exact qe.cells.1
 have rqe1 : (w2.alloc (.cells #[.bool bX, .slice mo ml mc, .bool bY, .slice mO mL mC] 58)).cell? ⟨g + 1 + 1, 1, none⟩ = some (.slice eo el ec) := by rw [← hW3]; exact qe.cells.2
 have rqR0 : (w2.alloc (.cells #[.bool bX, .slice mo ml mc, .bool bY, .slice mO mL mC] 58)).cell? ⟨g + 1 + 1 + 1, 0, none⟩ = some (.bool false) := by rw [← hW3]; exact qR.cells.1
 have rqR1 : (w2.alloc (.cells #[.bool bX, .slice mo ml mc, .bool bY, .slice mO mL mC] 58)).cell? ⟨g + 1 + 1 + 1, 1, none⟩ = some (.slice none 0 0) := by rw [← hW3]; exact qR.cells.2.1
 have rqR2 : (w2.alloc (.cells #[.bool bX, .slice mo ml mc, .bool bY, .slice mO mL mC] 58)).cell? ⟨g + 1 + 1 + 1, 2, none⟩ = some (.slice none 0 0) := by rw [← hW3]; exact qR.cells.2.2
 have rqZ0 : (w2.alloc (.cells #[.bool bX, .slice mo ml mc, .bool bY, .slice mO mL mC] 58)).cell? ⟨w2.heap.size, 0, none⟩ = some (.bool bX) := by rw [← hW3]; exact qZ.cells.1
 have rqZ1 : (w2.alloc (.cells #[.bool bX, .slice mo ml mc, .bool bY, .slice mO mL mC] 58)).cell? ⟨w2.heap.size, 1, none⟩ = some (.slice mo ml mc) := by rw [← hW3]; exact qZ.cells.2.1
 have rqZ2 : (w2.alloc (.cells #[.bool bX, .slice mo ml mc, .bool bY, .slice mO mL mC] 58)).cell? ⟨w2.heap.size, 2, none⟩ = some (.bool bY) := by rw [← hW3]; exact qZ.cells.2.2.1
 have rqZ3 : (w2.alloc (.cells #[.bool bX, .slice mo ml mc, .bool bY, .slice mO mL mC] 58)).cell? ⟨w2.heap.size, 3, none⟩ = some (.slice mO mL mC) := by rw [← hW3]; exact qZ.cells.2.2.2
 obtain ⟨v3, hv3⟩ : ∃ v, v = w2.heap.size := ⟨_, rfl⟩
 rw [← hv3] at qZ
 have HW3 : Hid (W3 = w2.alloc (.cells #[.bool bX, .slice mo ml mc, .bool bY, .slice mO mL mC] 58)) := hW3
 have Hv3 : Hid (v3 = w2.heap.size) := hv3
 clear hW3 hv3
 have hl9 : g + 1 + 1 + 1 < g + 1 + 1 + 1 + 1 := Nat.lt_succ_self _
 have hl8 : w.heap.size ≤ g + 1 + 1 + 1 := by rw [HG.out]; omega
 have hl7 : w.heap.size ≤ g + 1 + 1 + 1 + 1 := Nat.le_succ_of_le hl8
 have HE : Hid (AEnd w X Y (.returned (.agg #[.bool bX, .slice mo ml mc, .slice mO mL mC])) (((W3.setCell ⟨g + 1 + 1 + 1, 0, none⟩ (.bool bX)).setCell ⟨g + 1 + 1 + 1, 1, none⟩ (.slice mo ml mc)).setCell ⟨g + 1 + 1 + 1, 2, none⟩ (.slice mO mL mC))) := ⟨_, _, by rw [HBX.out], (((hm.other _ (own_ne hm hl9)).other _ (own_ne hm hl9)).other _ (own_ne hm hl9)).mono hl7, (((hd.other _ (own_ne hd hl9)).other _ (own_ne hd hl9)).other _ (own_ne hd hl9)).mono hl7, hap, ((hb.setCell (p := ⟨g + 1 + 1 + 1, 0, none⟩) hl8 _).setCell (p := ⟨g + 1 + 1 + 1, 1, none⟩) hl8 _).setCell (p := ⟨g + 1 + 1 + 1, 2, none⟩) hl8 _⟩
 have HW : Hid (QCell (((W3.setCell ⟨g + 1 + 1 + 1, 0, none⟩ (.bool bX)).setCell ⟨g + 1 + 1 + 1, 1, none⟩ (.slice mo ml mc)).setCell ⟨g + 1 + 1 + 1, 2, none⟩ (.slice mO mL mC)) (g + 1 + 1 + 1) bX (.slice mo ml mc) (.slice mO mL mC)) := qR.write _ _ _
 have f0 := qR.thaw 0
 have f1 := qR.thaw 1
 have f2 := qR.thaw 2
 rw [HW3.out] at f0 f1 f2
 clear hl9 hl8 hl7 hm hd hap hb hsz qa qb qe qR qZ a1 a2 b1 b2 ie
 go_wp2_with fail
 rw [← HW3.out, ← Hv3.out]
 clear HW3 Hv3 rqa0 rqa1 rqa2 rqa3 rqb0 rqb1 rqb2 rqb3 rqe0 rqe1 rqR0 rqR1 rqR2 rqZ0 rqZ1 rqZ2 rqZ3
 (try simp only [Exit.inBlock, Exit.then])
 exact bodyPost_ret (results_cell_row rfl _ _ (g + 1 + 1 + 1) 27 _ (0, 0) _ rfl HW.out Tryz.underlying27 rfl (by kernel_rfl)) rfl HE.out

def btw : Nat → Nat → Nat → Nat → Nat → Nat × Nat
 | 0, p, q, _, _ => (p / q, 1)
 | k + 1, p, q, r, s =>
  if p % q = 0 then (p / q, 1)
  else if p / q < r / s then (p / q + 1, 1)
  else (p / q * (btw k s (r % s) q (p % q)).1 + (btw k s (r % s) q (p % q)).2, (btw k s (r % s) q (p % q)).1)
theorem btw_int (k p q r s : Nat) (h : p % q = 0) : btw k p q r s = (p / q, 1) := by
 cases k with
 | zero => rfl
 | succ k => unfold btw; rw [if_pos h]
theorem btw_next (k p q r s : Nat) (h : p % q ≠ 0) (h2 : p / q < r / s) : btw (k + 1) p q r s = (p / q + 1, 1) := by
 unfold btw; rw [if_neg h, if_pos h2]
theorem btw_step (k p q r s : Nat) (h : p % q ≠ 0) (h2 : ¬ p / q < r / s) : btw (k + 1) p q r s = (p / q * (btw k s (r % s) q (p % q)).1 + (btw k s (r % s) q (p % q)).2, (btw k s (r % s) q (p % q)).1) := by
 conv => lhs; unfold btw
 rw [if_neg h, if_neg h2]
theorem dm_mul {q n a : Nat} (s : Nat) : (q * n + a) * s = n * (q * s) + a * s := by
 rw [Nat.add_mul, Nat.mul_comm q n, Nat.mul_assoc]
theorem btw_rest {p q r s : Nat} (hq : 0 < q) (hs : 0 < s) (hle : p * s ≤ r * q) (h : p % q ≠ 0) (h2 : ¬ p / q < r / s) : r / s = p / q ∧ 0 < r % s ∧ s * (p % q) ≤ q * (r % s) := by
 have e1 := Nat.div_add_mod p q
 have e2 := Nat.div_add_mod r s
 have hb := Nat.mod_lt r hs
 have hm : r / s ≤ p / q := Nat.le_of_not_lt h2
 have hpa : 0 < p % q := Nat.pos_of_ne_zero h
 clear h h2
 generalize p / q = n at *
 generalize r / s = m at *
 generalize p % q = a at *
 generalize r % s = b at *
 subst e1 e2
 rw [dm_mul, dm_mul, Nat.mul_comm s q] at hle
 have hz : 0 < q * s := Nat.mul_pos hq hs
 have hbq : b * q < q * s := by rw [Nat.mul_comm q s]; exact Nat.mul_lt_mul_of_pos_right hb hq
 have has : 0 < a * s := Nat.mul_pos hpa hs
 rcases Nat.lt_or_ge m n with hlt | hge
 ·
  have h3 : (m + 1) * (q * s) ≤ n * (q * s) := Nat.mul_le_mul_right _ hlt
  rw [Nat.add_mul, Nat.one_mul] at h3
  omega
 ·
  have : m = n := Nat.le_antisymm hm hge
  subst this
  have h4 : a * s ≤ b * q := by omega
  refine ⟨rfl, ?_, by rw [Nat.mul_comm s a, Nat.mul_comm q b]; exact h4⟩
  rcases Nat.eq_zero_or_pos b with h0 | h0
  · rw [h0, Nat.zero_mul] at h4; omega
  · exact h0
structure Simp (p q r s x y : Nat) : Prop where
 pos : 0 < y
 low : p * y ≤ x * q
 high : x * s ≤ r * y
 least : ∀ e f, 0 < f → p * f ≤ e * q → e * s ≤ r * f → x ≤ e ∧ y ≤ f
 co : Nat.gcd x y = 1
theorem btw_simp : ∀ k p q r s, 0 < p → 0 < q → 0 < s → p * s ≤ r * q → q + s ≤ k → Simp p q r s (btw k p q r s).1 (btw k p q r s).2
 | 0, _, _, _, _, _, hq, _, _, hk => by omega
 | k + 1, p, q, r, s, hp, hq, hs, hle, hk => by
  have e1 := Nat.div_add_mod p q
  by_cases h : p % q = 0
  ·
   rw [btw_int _ _ _ _ _ h]
   rw [h, Nat.add_zero] at e1
   generalize p / q = n at *
   refine ⟨Nat.one_pos, ?_, ?_, fun e f hf h1 _ => ⟨?_, hf⟩, Nat.gcd_one_right _⟩
   · rw [Nat.mul_one, ← e1, Nat.mul_comm q n]; exact Nat.le_refl _
   ·
    rw [Nat.mul_one]
    rw [← e1, Nat.mul_assoc, Nat.mul_comm r q] at hle
    exact Nat.le_of_mul_le_mul_left hle hq
   ·
    rw [← e1, Nat.mul_assoc, Nat.mul_comm e q] at h1
    exact Nat.le_trans (Nat.le_mul_of_pos_right n hf) (Nat.le_of_mul_le_mul_left h1 hq)
  ·
   by_cases h2 : p / q < r / s
   ·
    rw [btw_next _ _ _ _ _ h h2]
    have hpa : 0 < p % q := Nat.pos_of_ne_zero h
    have hb := Nat.mod_lt p hq
    have e2 := Nat.div_add_mod r s
    generalize p / q = n at *
    generalize p % q = a at *
    refine ⟨Nat.one_pos, ?_, ?_, fun e f hf h1 _ => ⟨?_, hf⟩, Nat.gcd_one_right _⟩
    · rw [Nat.mul_one, Nat.add_mul, Nat.one_mul, Nat.mul_comm n q]; omega
    ·
     rw [Nat.mul_one]
     show (n + 1) * s ≤ r
     have : (n + 1) * s ≤ r / s * s := Nat.mul_le_mul_right _ h2
     rw [Nat.mul_comm (r / s) s] at this
     omega
    ·
     have h3 : 0 < a * f := Nat.mul_pos hpa hf
     rw [← e1, dm_mul] at h1
     have h4 : q * (n * f) < q * e := by
      have x1 : n * (q * f) = q * (n * f) := Nat.mul_left_comm _ _ _
      have x2 : e * q = q * e := Nat.mul_comm _ _
      omega
     have h5 : n * f < e := Nat.lt_of_mul_lt_mul_left h4
     have h6 : n ≤ n * f := Nat.le_mul_of_pos_right n hf
     show n + 1 ≤ e
     omega
   ·
    obtain ⟨hm, hb0, hle2⟩ := btw_rest hq hs hle h h2
    rw [btw_step _ _ _ _ _ h h2]
    have hpa : 0 < p % q := Nat.pos_of_ne_zero h
    have hb := Nat.mod_lt p hq
    have hb2 := Nat.mod_lt r hs
    have IH := btw_simp k s (r % s) q (p % q) hs hb0 hpa hle2 (by omega)
    have e2 := Nat.div_add_mod r s
    rw [hm] at e2
    generalize btw k s (r % s) q (p % q) = xy at *
    obtain ⟨x, y⟩ := xy
    simp only at IH ⊢
    obtain ⟨i1, i2, i3, i4, i5⟩ := IH
    have hx : 0 < x := by
     rcases Nat.eq_zero_or_pos x with h0 | h0
     ·
      rw [h0, Nat.zero_mul] at i2
      have : 0 < s * y := Nat.mul_pos hs i1
      omega
     · exact h0
    clear h h2 hm hle
    generalize p / q = n at *
    generalize p % q = a at *
    generalize r % s = b at *
    subst e1 e2
    refine ⟨hx, ?_, ?_, fun e f hf h1 h3 => ?_, ?_⟩
    ·
     rw [dm_mul, Nat.add_mul]
     have x1 : n * (q * x) = n * x * q := by rw [Nat.mul_comm q x, Nat.mul_assoc]
     have x2 : a * x = x * a := Nat.mul_comm _ _
     have x3 : y * q = q * y := Nat.mul_comm _ _
     omega
    ·
     rw [dm_mul (q := s) (n := n) (a := b), Nat.add_mul]
     have x1 : n * (s * x) = n * x * s := by rw [Nat.mul_comm s x, Nat.mul_assoc]
     have x2 : b * x = x * b := Nat.mul_comm _ _
     have x3 : y * s = s * y := Nat.mul_comm _ _
     omega
    ·
     rw [dm_mul] at h1 h3
     have hnf : n * f ≤ e := by
      have x1 : n * (q * f) = q * (n * f) := Nat.mul_left_comm _ _ _
      have x2 : e * q = q * e := Nat.mul_comm _ _
      exact Nat.le_of_mul_le_mul_left (show q * (n * f) ≤ q * e by omega) hq
     obtain ⟨g, rfl⟩ := Nat.exists_eq_add_of_le hnf
     rw [Nat.add_mul] at h1 h3
     have y1 : n * (q * f) = n * f * q := by rw [Nat.mul_comm q f, Nat.mul_assoc]
     have y2 : n * (s * f) = n * f * s := by rw [Nat.mul_comm s f, Nat.mul_assoc]
     have hg : 0 < g := by
      rcases Nat.eq_zero_or_pos g with h0 | h0
      ·
       rw [h0, Nat.zero_mul] at h1
       have : 0 < a * f := Nat.mul_pos hpa hf
       omega
      · exact h0
     have z := i4 f g hg (by have a1 : s * g = g * s := Nat.mul_comm _ _; have a2 : f * b = b * f := Nat.mul_comm _ _; omega) (by have a1 : f * a = a * f := Nat.mul_comm _ _; have a2 : q * g = g * q := Nat.mul_comm _ _; omega)
     have : n * x ≤ n * f := Nat.mul_le_mul_left _ z.1
     exact ⟨by omega, z.1⟩
    ·
     rw [Nat.gcd_comm, Nat.gcd_mul_right_add_right]
     exact i5
theorem Simp.le {p q r s x y : Nat} (h : Simp p q r s x y) (hq : 0 < q) (hs : 0 < s) (hle : p * s ≤ r * q) : (x ≤ p ∧ y ≤ q) ∧ x ≤ r ∧ y ≤ s :=
 ⟨h.least p q hq (Nat.le_refl _) hle, h.least r s hs hle (Nat.le_refl _)⟩
theorem Simp.xpos {p q r s x y : Nat} (h : Simp p q r s x y) (hp : 0 < p) : 0 < x := by
 rcases Nat.eq_zero_or_pos x with h0 | h0
 ·
  have h1 := h.low
  rw [h0, Nat.zero_mul] at h1
  have : 0 < p * y := Nat.mul_pos hp h.pos
  omega
 · exact h0
theorem Simp.unique {p q r s x y x' y' : Nat} (h : Simp p q r s x y) (h' : Simp p q r s x' y') : x = x' ∧ y = y' := by
 have h1 := h.least x' y' h'.pos h'.low h'.high
 have h2 := h'.least x y h.pos h.low h.high
 omega
theorem cross_le {p q P Q x y : Nat} (hq : 0 < q) (e : p * Q = P * q) (h : p * y ≤ x * q) : P * y ≤ x * Q := by
 have h1 : p * y * Q ≤ x * q * Q := Nat.mul_le_mul_right _ h
 have e1 : p * y * Q = P * y * q := by rw [Nat.mul_right_comm, e, Nat.mul_right_comm]
 have e2 : x * q * Q = x * Q * q := Nat.mul_right_comm _ _ _
 rw [e1, e2] at h1
 exact Nat.le_of_mul_le_mul_right h1 hq
theorem cross_ge {p q P Q x y : Nat} (hq : 0 < q) (e : p * Q = P * q) (h : x * q ≤ p * y) : x * Q ≤ P * y := by
 have h1 : x * q * Q ≤ p * y * Q := Nat.mul_le_mul_right _ h
 have e1 : p * y * Q = P * y * q := by rw [Nat.mul_right_comm, e, Nat.mul_right_comm]
 have e2 : x * q * Q = x * Q * q := Nat.mul_right_comm _ _ _
 rw [e1, e2] at h1
 exact Nat.le_of_mul_le_mul_right h1 hq
theorem Simp.same {p q r s P Q R S x y : Nat} (hq : 0 < q) (hQ : 0 < Q) (hs : 0 < s) (hS : 0 < S) (e1 : p * Q = P * q) (e2 : r * S = R * s) (h : Simp p q r s x y) : Simp P Q R S x y :=
 ⟨h.pos, cross_le hq e1 h.low, cross_ge hs e2 h.high, fun e f hf h1 h2 => h.least e f hf (cross_le hQ e1.symm h1) (cross_ge hS e2.symm h2), h.co⟩

theorem divInt_co {c : Int} {d : Nat} (hd : 0 < d) (h : Nat.gcd c.natAbs d = 1) : (Rat.divInt c d).num = c ∧ (Rat.divInt c d).den = d := by
 obtain ⟨k, hk, e1, e2⟩ := div_parts (p := c) (q := d) (by omega)
 have h1 : k.natAbs ∣ Nat.gcd c.natAbs d := Nat.dvd_gcd (by rw [e1, Int.natAbs_mul]; exact Nat.dvd_mul_left _ _) (by have := congrArg Int.natAbs e2; rw [Int.natAbs_natCast, Int.natAbs_mul] at this; rw [this]; exact Nat.dvd_mul_left _ _)
 rw [h] at h1
 have h2 : k = 1 := by have := Nat.le_of_dvd Nat.one_pos h1; omega
 subst h2
 rw [Int.mul_one] at e1 e2
 exact ⟨e1.symm, by omega⟩
def sXY (a b : Rat) : Nat × Nat := btw (a.den + b.den) a.num.natAbs a.den b.num.natAbs b.den
def sQ (a b : Rat) : Rat := Rat.divInt ((sXY a b).1 : Int) ((sXY a b).2 : Int)
structure UpTo (a b : Rat) : Prop where
 pos : 0 < a.num
 le : a.num * b.den ≤ b.num * a.den
theorem UpTo.pos2 {a b : Rat} (h : UpTo a b) : 0 < b.num := by
 have h1 : 0 < a.num * (b.den : Int) := Int.mul_pos h.pos (by have := b.den_pos; omega)
 have h2 : 0 < b.num * (a.den : Int) := Int.lt_of_lt_of_le h1 h.le
 exact Int.pos_of_mul_pos_left h2 (by have := a.den_pos; omega)
theorem UpTo.nat {a b : Rat} (h : UpTo a b) : 0 < a.num.natAbs ∧ 0 < b.num.natAbs ∧ a.num.natAbs * b.den ≤ b.num.natAbs * a.den := by
 have h1 := h.pos
 have h2 := h.pos2
 refine ⟨by omega, by omega, ?_⟩
 have e1 : ((a.num.natAbs : Nat) : Int) = a.num := by omega
 have e2 : ((b.num.natAbs : Nat) : Int) = b.num := by omega
 have := h.le
 rw [← e1, ← e2] at this
 exact_mod_cast this
theorem UpTo.simp {a b : Rat} (h : UpTo a b) : Simp a.num.natAbs a.den b.num.natAbs b.den (sXY a b).1 (sXY a b).2 := btw_simp _ _ _ _ _ h.nat.1 a.den_pos b.den_pos h.nat.2.2 (Nat.le_refl _)
theorem UpTo.parts {a b : Rat} (h : UpTo a b) : (sQ a b).num = (sXY a b).1 ∧ (sQ a b).den = (sXY a b).2 := divInt_co h.simp.pos (by rw [Int.natAbs_natCast]; exact h.simp.co)
theorem sQ_int {a b : Rat} (h0 : a.num.natAbs % a.den = 0) : sQ a b = Rat.divInt ((a.num.natAbs / a.den : Nat) : Int) 1 := by
 unfold sQ sXY
 rw [btw_int _ _ _ _ _ h0]
 rfl
theorem sQ_next {a b : Rat} (h0 : a.num.natAbs % a.den ≠ 0) (h1 : a.num.natAbs / a.den < b.num.natAbs / b.den) : sQ a b = Rat.divInt ((a.num.natAbs / a.den : Nat) : Int) 1 + Rat.divInt 1 1 := by
 have hd := a.den_pos
 obtain ⟨k, hk⟩ : ∃ k, a.den + b.den = k + 1 := ⟨a.den + b.den - 1, by omega⟩
 rw [Rat.divInt_add_divInt _ _ (by decide) (by decide)]
 unfold sQ sXY
 rw [hk, btw_next _ _ _ _ _ h0 h1]
 simp
theorem one_over {c d : Int} : 1 / Rat.divInt c d = Rat.divInt d c := by rw [Rat.div_def, Rat.one_mul, Rat.inv_divInt]
theorem turned {b : Rat} {n : Nat} (hb : 0 < b.num) (hn : n = b.num.natAbs / b.den) (h0 : 0 < b.num.natAbs % b.den) :
  1 / (b - Rat.divInt (n : Int) 1) = Rat.divInt (b.den : Int) ((b.num.natAbs % b.den : Nat) : Int) ∧ (1 / (b - Rat.divInt (n : Int) 1)).num = b.den ∧ (1 / (b - Rat.divInt (n : Int) 1)).den = b.num.natAbs % b.den := by
 have hd := b.den_pos
 have e0 := Nat.div_add_mod b.num.natAbs b.den
 have hco : Nat.gcd b.den (b.num.natAbs % b.den) = 1 := by
  have h1 := b.reduced
  unfold Nat.Coprime at h1
  rw [Nat.gcd_comm, Nat.gcd_rec] at h1
  rw [Nat.gcd_comm]
  exact h1
 have e : 1 / (b - Rat.divInt (n : Int) 1) = Rat.divInt (b.den : Int) ((b.num.natAbs % b.den : Nat) : Int) := by
  have e1 : b - Rat.divInt (n : Int) 1 = Rat.divInt ((b.num.natAbs % b.den : Nat) : Int) (b.den : Int) := by
   conv => lhs; lhs; rw [← Rat.num_divInt_den b]
   rw [Rat.divInt_sub_divInt _ _ (by omega) (by decide), Int.mul_one, Int.mul_one]
   congr 1
   rw [← hn] at e0
   have e2 : (n : Int) * (b.den : Int) = ((b.den * n : Nat) : Int) := by rw [Int.natCast_mul, Int.mul_comm]
   rw [e2]
   generalize b.num.natAbs % b.den = M at *
   generalize b.den * n = N at *
   omega
  rw [e1, one_over]
 refine ⟨e, ?_⟩
 rw [e]
 exact divInt_co h0 (by rw [Int.natAbs_natCast]; exact hco)
theorem sQ_rest {a b : Rat} (h : UpTo a b) (h0 : a.num.natAbs % a.den ≠ 0) (h1 : ¬ a.num.natAbs / a.den < b.num.natAbs / b.den) (n : Nat) (hn : n = a.num.natAbs / a.den) (x y : Rat) (hx : x = 1 / (b - Rat.divInt (n : Int) 1)) (hy : y = 1 / (a - Rat.divInt (n : Int) 1)) :
  UpTo x y ∧ x.den + y.den < a.den + b.den ∧ sQ a b = Rat.divInt (n : Int) 1 + 1 / sQ x y ∧ (x.num = b.den ∧ x.den = b.num.natAbs % b.den) ∧ y.num = a.den ∧ y.den = a.num.natAbs % a.den := by
 obtain ⟨n1, n2, n3⟩ := h.nat
 obtain ⟨hm, hb0, hle2⟩ := btw_rest a.den_pos b.den_pos n3 h0 h1
 have ha0 : 0 < a.num.natAbs % a.den := Nat.pos_of_ne_zero h0
 obtain ⟨_, x1, x2⟩ := turned h.pos2 (hn.trans hm.symm) hb0
 obtain ⟨_, y1, y2⟩ := turned h.pos hn ha0
 rw [← hx] at x1 x2
 rw [← hy] at y1 y2
 have hxy : UpTo x y := by
  refine ⟨by rw [x1]; have := b.den_pos; omega, ?_⟩
  rw [x1, x2, y1, y2]
  exact_mod_cast hle2
 have hlt := Nat.mod_lt a.num.natAbs a.den_pos
 have hlt2 := Nat.mod_lt b.num.natAbs b.den_pos
 refine ⟨hxy, by rw [x2, y2]; omega, ?_, ⟨x1, x2⟩, y1, y2⟩
 obtain ⟨k, hk⟩ : ∃ k, a.den + b.den = k + 1 := ⟨a.den + b.den - 1, by have := a.den_pos; omega⟩
 have s1 := btw_simp k b.den (b.num.natAbs % b.den) a.den (a.num.natAbs % a.den) b.den_pos hb0 ha0 hle2 (by omega)
 have s2 := hxy.simp
 rw [x1, x2, y1, y2, Int.natAbs_natCast, Int.natAbs_natCast] at s2
 obtain ⟨u1, u2⟩ := s1.unique s2
 have hX : 0 < (sXY x y).1 := s2.xpos b.den_pos
 unfold sQ
 rw [one_over, Rat.divInt_add_divInt _ _ (by decide) (by omega)]
 have e : sXY a b = (n * (sXY x y).1 + (sXY x y).2, (sXY x y).1) := by
  conv => lhs; unfold sXY
  rw [hk, btw_step _ _ _ _ _ h0 h1, u1, u2, hn]
 rw [e]
 simp
end Go.Proofs.YtfnafgjnimfmjaaGreatDoor

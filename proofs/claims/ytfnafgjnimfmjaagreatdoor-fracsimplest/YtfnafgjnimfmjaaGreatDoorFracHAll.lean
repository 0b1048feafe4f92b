/-
  Proved here: credenceref03's OwnRats of fractions whose numbers lie each in a row of its own: it answers true.
  Proved here: what strings.Cut answers of a text and a stroke.
  Proved here: what Parse of package frac answers of a written whole number, and of one with a stroke and digits behind it.
  Proved here: what Parse of package frac answers of a written fraction; what Of answers where the lower number is 0.
  Proved here: what New and Of of package frac, and the document's, answer, error or not, as one.
  Proved here: awake answers true.
-/
import Derived.Test.YtfnafgjnimfmjaaGreatDoorOwn3All
import Derived.Test.YtfnafgjnimfmjaaGreatDoorLate
import Derived.Test.YtfnafgjnimfmjaaGreatDoorWholeX1
import Derived.Lib.SmallJoins
import Derived.Deep.AppendLies
import Derived.Test.YtfnafgjnimfmjaaGreatDoorFracDAll
import Derived.Test.YtfnafgjnimfmjaaGreatDoorAllAll
import Derived.Test.YtfnafgjnimfmjaaGreatDoorFracE
import Derived.Test.YtfnafgjnimfmjaaGreatDoorR3
import Derived.Test.YtfnafgjnimfmjaaGreatDoorFracGAll
namespace Go.Proofs.YtfnafgjnimfmjaaGreatDoor
open Go.RowKit

/-- The numbers of some fractions, one behind the other. -/
def prs (ms ds : Nat → Value) : Nat → List Value
  | 0 => []
  | n + 1 => prs ms ds n ++ [ms n, ds n]
theorem cell_two_new (w : World) (a b : Value) (t : TypeId) : ∀ j u, [a, b][j]? = some u → (w.alloc (.cells #[a, b] t)).cell? ((⟨w.heap.size, 0, none⟩ : Addr).add j) = some u := by
  intro j u h
  rw [Addr.add_lit, Nat.zero_add, World.cell?_alloc_at _ _ _ _ rfl]
  match j, h with
  | 0, h => exact h
  | 1, h => exact h
  | n + 2, h => cases h
theorem Bex.after {gs : List Value} {w w1 w' : World} (h : Bex gs w1 w') (hb : Below w.heap.size w w1) : Bex gs w w' :=
  ⟨h.os.trans hb.os, h.tape.trans hb.tape, h.output.trans hb.output, Nat.le_trans hb.size h.size, fun k hk hj => by rw [h.block k (Nat.lt_of_lt_of_le hk hb.size) hj, hb.block k hk]⟩
set_option maxRecDepth 100000 in
set_option maxHeartbeats 6400000 in
theorem ownRats3 (B lb cl n : Nat) (ms ds : Nat → Value) (xs : Nat → List Nat) (w : World) (hB : B ≤ w.heap.size) (hn0 : 0 < n) (hn : n ≤ 100)
    (hrow : ∀ i, i < n → w.cell? ⟨lb, i * 3 + 1, none⟩ = some (ms i) ∧ w.cell? ⟨lb, i * 3 + 2, none⟩ = some (ds i))
    (hsl : ∀ i, i < n → (∃ o l c, ms i = .slice o l c) ∧ ∃ o l c, ds i = .slice o l c)
    (hfam : Fam B w (prs ms ds n) xs) (hd : Dist (prs ms ds n)) (hlen : ∀ j, j < n + n → (xs j).length ≤ 1099511627776) :
    Calls Tryz.prog 15 #[.slice (some ⟨lb, 0, none⟩) n cl] w fun e w' => e = .returned (.bool true) ∧ Bex (prs ms ds n) w w' := by
  obtain ⟨iN, hiN, hzN0, hzN1, hzN2⟩ := info_parts Tryz.infoN3
  go_enter Tryz.func15, Tryz.ntmps15
  go_wp2_with fail
  go_loopw [3, 4] (fun va t wr => ∃ i : Nat, i ≤ n ∧ t = .int .i64 i ∧ wr.ownsRow w.heap.size 23 1 va (i + i) (prs ms ds i) ∧ Below w.heap.size w wr) (fun _ t _ => n - (intOf t).toNat)
  case atStart => exact ⟨0, Nat.zero_le _, rfl, World.ownsRow_nil _ _ _ _, Below.refl _ _⟩
  case round =>
    obtain ⟨i, hin, rfl, hown0, hbel⟩ := hrel
    by_cases hlt : i < n
    · have hge : (i : Int) < (n : Int) := by omega
      obtain ⟨c1, c2⟩ := hrow i hlt
      obtain ⟨⟨mo, ml, mc, e1⟩, do_, dl, dc, e2⟩ := hsl i hlt
      rw [e1] at c1
      rw [e2] at c2
      replace c1 : wr.drew.cell? ⟨lb, i * 3 + 1, none⟩ = some (.slice mo ml mc) := keepB (hbel.trans (Below.refl _ _).drew) c1
      replace c2 : wr.drew.cell? ⟨lb, i * 3 + 2, none⟩ = some (.slice do_ dl dc) := keepB (hbel.trans (Below.refl _ _).drew) c2
      have HP : Hid (prs ms ds (i + 1) = prs ms ds i ++ [.slice mo ml mc, .slice do_ dl dc]) := by show prs ms ds i ++ [ms i, ds i] = _; rw [e1, e2]
      obtain ⟨va, hva⟩ : ∃ v, v = u3 := ⟨_, rfl⟩
      rw [← hva] at hown0 ⊢
      clear hva
      have hB1 : w.heap.size ≤ wr.heap.size := hbel.size
      have HO : Hid (wr.drew.ownsRow w.heap.size 23 1 va (i + i) (prs ms ds i)) := hown0
      have HL : Hid (Below w.heap.size w wr) := hbel
      clear hown0 hbel hrow hsl hfam hd hlen e1 e2 hB
      go_wp2_with fail
      refine region_late [(6, fun w' => w'.cell? ⟨lb, i * 3 + 1, none⟩ = some (.slice mo ml mc)), (11, fun w' => w'.cell? ⟨lb, i * 3 + 2, none⟩ = some (.slice do_ dl dc))] (by kernel_rfl) ?_
      have hHeld : AllL wr.drew [(6, fun w' => w'.cell? ⟨lb, i * 3 + 1, none⟩ = some (.slice mo ml mc)), (11, fun w' => w'.cell? ⟨lb, i * 3 + 2, none⟩ = some (.slice do_ dl dc))] := ⟨c1, c2, trivial⟩
      refine late_fr 0 (v := va) rfl (Or.inl ⟨by rfl, ?_⟩) hHeld ?_
      · (intro u _; go_simp)
      (try simp only [Act.put, putA, putB, putC])
      refine late_fr 1 (v := .slice (some ⟨lb, 0, none⟩) n cl) rfl (Or.inl ⟨by rfl, ?_⟩) hHeld ?_
      · (intro u _; go_simp)
      (try simp only [Act.put, putA, putB, putC])
      refine late_fr 2 (v := .int .i64 (i : Int)) rfl (Or.inl ⟨by rfl, ?_⟩) hHeld ?_
      · (intro u _; go_simp)
      (try simp only [Act.put, putA, putB, putC])
      refine late_fr 7 (v := .slice (some ⟨lb, 0, none⟩) n cl) rfl (Or.inl ⟨by rfl, ?_⟩) hHeld ?_
      · (intro u _; go_simp)
      (try simp only [Act.put, putA, putB, putC])
      refine late_fr 8 (v := .int .i64 (i : Int)) rfl (Or.inl ⟨by rfl, ?_⟩) hHeld ?_
      · (intro u _; go_simp)
      (try simp only [Act.put, putA, putB, putC])
      refine late_fr 3 (v := .pointer (some ⟨lb, i * 3, none⟩)) rfl (Or.inl ⟨by rfl, ?_⟩) hHeld ?_
      · (intro u _; go_simp)
      (try simp only [Act.put, putA, putB, putC])
      refine late_fr 9 (v := .pointer (some ⟨lb, i * 3, none⟩)) rfl (Or.inl ⟨by rfl, ?_⟩) hHeld ?_
      · (intro u _; go_simp)
      (try simp only [Act.put, putA, putB, putC])
      refine late_fr 4 (v := .pointer (some ⟨lb, i * 3, none⟩)) rfl (Or.inl ⟨by rfl, ?_⟩) hHeld ?_
      · (intro u _; go_simp)
      (try simp only [Act.put, putA, putB, putC])
      refine late_fr 5 (v := .pointer (some ⟨lb, i * 3 + 1, none⟩)) rfl (Or.inl ⟨by rfl, ?_⟩) hHeld ?_
      · (intro u _; go_simp)
      (try simp only [Act.put, putA, putB, putC])
      refine late_fr 10 (v := .pointer (some ⟨lb, i * 3 + 2, none⟩)) rfl (Or.inl ⟨by rfl, ?_⟩) hHeld ?_
      · (intro u _; go_simp)
      (try simp only [Act.put, putA, putB, putC])
      refine late_tk 6 (v := .slice mo ml mc) rfl (List.Mem.head _) (Or.inl ⟨by rfl, ?_⟩) hHeld ?_
      · (intro u hu; (try dsimp only at hu); go_split_ands; go_simp)
      (try simp only [Act.put, putA, putB, putC])
      refine late_tk 11 (v := .slice do_ dl dc) rfl (List.Mem.tail _ (List.Mem.head _)) (Or.inl ⟨by rfl, ?_⟩) hHeld ?_
      · (intro u hu; (try dsimp only at hu); go_split_ands; go_simp)
      (try simp only [Act.put, putA, putB, putC])
      refine late_st 12 rfl (fun K hK => ?_)
      go_simp
      refine hK.out _ _ ⟨kpt 12, kpt 12, trivial⟩ ?_
      clear hK K
      (try simp only [Act.put, putA, putB, putC])
      refine late_st 13 rfl (fun K hK => ?_)
      rw [if_pos (by rfl)]
      refine wp_append_lies _ _ _ 63 rfl w.heap.size 23 iN (.slice none 0 0) 1 24 Tryz.underlying63 hiN hzN0 hzN1 hzN2 rfl (by decide) va (i + i) _ rfl (HO.out.alloc _) ⟨wr.drew.heap.size, 0, none⟩ 2 2 [.slice mo ml mc, .slice do_ dl dc] rfl rfl (cell_two_new _ _ _ _) (by simp [Value.oneCell']) (by decide) (by unfold maxLen; omega) (by omega) (Nat.le_trans hB1 (by simp)) _ rfl ?_
      intro ga ca w7 hown hgr hga hgl
      refine hK.out _ _ ⟨kpt 12, kpt 12, trivial⟩ ?_
      clear hK K
      (try simp only [Act.put, putA, putB, putC])
      refine late_st 14 rfl (fun K hK => ?_)
      go_simp
      refine hK.out _ _ ⟨kpt 12, kpt 12, trivial⟩ ?_
      clear hK K
      (try simp only [Act.put, putA, putB, putC])
      refine late_done (by kernel_rfl) ?_ _
      clear hHeld
      have HR : Hid (w7.ownsRow w.heap.size 23 1 (.slice (some ⟨ga, 0, none⟩) (i + i + 2) ca) (i + i + 2) (prs ms ds (i + 1)) ∧ Below w.heap.size w w7) := by
        refine ⟨by rw [HP.out]; exact hown, ((bstep HL.out (belowA _ _)).drew).grown hgr (by simp; omega) (fun k hk => (HO.out.lt k hk).1)⟩
      clear hown hgr hga hgl HO HL HP
      go_wp2
      go_roundw
      case rel => exact ⟨i + 1, by omega, by go_num, by rw [show i + 1 + (i + 1) = i + i + 2 by omega]; exact HR.out.1, HR.out.2⟩
      case measure => simp [intOf]; omega
    · have hge : ¬ (i : Int) < (n : Int) := by omega
      obtain rfl : i = n := by omega
      obtain ⟨ga, ca, hva⟩ := Joins.ownsRow_form hown0 (by omega)
      subst hva
      have hq := own_yes B ga ca (i + i) (prs ms ds i) xs wr (Nat.le_trans hB hbel.size) (by omega) (Joins.ownsRow_le hown0 hB) (fun j hj => (hfam j hj).below hbel) hd hlen
      have HL : Hid (Below w.heap.size w wr) := hbel
      clear hown0 hbel hrow hsl hfam hd hlen hB hlt
      go_wp2_with fail
      refine hq.mono ?_
      rintro e w2 ⟨rfl, hx⟩
      clear hq
      have HX : Hid (Bex (prs ms ds i) w w2) := hx.after HL.out
      clear hx HL
      go_wp2
      go_ret
      exact ⟨rfl, HX.out⟩
end Go.Proofs.YtfnafgjnimfmjaaGreatDoor

namespace Go.Proofs.YtfnafgjnimfmjaaGreatDoor
open Go.RowKit

end Go.Proofs.YtfnafgjnimfmjaaGreatDoor

namespace Go.Proofs.YtfnafgjnimfmjaaGreatDoor
open Go.RowKit

end Go.Proofs.YtfnafgjnimfmjaaGreatDoor

namespace Go.Proofs.YtfnafgjnimfmjaaGreatDoor
open Go.RowKit

end Go.Proofs.YtfnafgjnimfmjaaGreatDoor

namespace Go.Proofs.YtfnafgjnimfmjaaGreatDoor
open Go.RowKit

/-- What is left, by its parts. -/
def TEx (w : World) (s : Bool) (er : Int) (xm xd : List Nat) (e : Ending) (w' : World) : Prop :=
  ∃ mo mc dO dC, e = .returned (.tuple #[.agg #[.bool s, .slice mo xm.length mc, .slice dO xd.length dC], .int .i64 er]) ∧ Own w.heap.size 37 w' (.slice mo xm.length mc) xm ∧ Own w.heap.size 37 w' (.slice dO xd.length dC) xd ∧
    ((Value.slice mo xm.length mc).ownBlock = none ∨ (Value.slice mo xm.length mc).ownBlock ≠ (Value.slice dO xd.length dC).ownBlock) ∧ Below w.heap.size w w'
/-- Two of something. -/
def two {α : Type} (a b : α) (i : Nat) : α := if i = 0 then a else b
theorem fam4 {B : Nat} {w : World} {m d m2 d2 : Value} {xm xd ym yd : List Nat} (h1 : Own B 37 w m xm) (h2 : Own B 37 w d xd) (h3 : Own B 37 w m2 ym) (h4 : Own B 37 w d2 yd) : Fam B w (prs (two m m2) (two d d2) 2) (fun j => [xm, xd, ym, yd].getD j []) := by
  intro j hj
  match j, hj with
  | 0, _ => exact h1
  | 1, _ => exact h2
  | 2, _ => exact h3
  | 3, _ => exact h4
  | n + 4, h => exact absurd h (by show ¬ n + 4 < 4; omega)
theorem dist4 {m d m2 d2 : Value} (h1 : m.ownBlock = none ∨ m.ownBlock ≠ d.ownBlock) (h2 : m.ownBlock = none ∨ m.ownBlock ≠ m2.ownBlock) (h3 : m.ownBlock = none ∨ m.ownBlock ≠ d2.ownBlock) (h4 : d.ownBlock = none ∨ d.ownBlock ≠ m2.ownBlock) (h5 : d.ownBlock = none ∨ d.ownBlock ≠ d2.ownBlock) (h6 : m2.ownBlock = none ∨ m2.ownBlock ≠ d2.ownBlock) : Dist (prs (two m m2) (two d d2) 2) := by
  intro i j hi hj hne
  match i, j, hi, hj, hne with
  | 0, 0, _, _, h => exact absurd rfl h
  | 0, 1, _, _, _ => exact h1
  | 0, 2, _, _, _ => exact h2
  | 0, 3, _, _, _ => exact h3
  | 1, 0, _, _, _ => exact apart_symm h1
  | 1, 1, _, _, h => exact absurd rfl h
  | 1, 2, _, _, _ => exact h4
  | 1, 3, _, _, _ => exact h5
  | 2, 0, _, _, _ => exact apart_symm h2
  | 2, 1, _, _, _ => exact apart_symm h4
  | 2, 2, _, _, h => exact absurd rfl h
  | 2, 3, _, _, _ => exact h6
  | 3, 0, _, _, _ => exact apart_symm h3
  | 3, 1, _, _, _ => exact apart_symm h5
  | 3, 2, _, _, _ => exact apart_symm h6
  | 3, 3, _, _, h => exact absurd rfl h
  | n + 4, _, h, _, _ => exact absurd h (by show ¬ n + 4 < 4; omega)
  | 0, n + 4, _, h, _ => exact absurd h (by show ¬ n + 4 < 4; omega)
  | 1, n + 4, _, h, _ => exact absurd h (by show ¬ n + 4 < 4; omega)
  | 2, n + 4, _, h, _ => exact absurd h (by show ¬ n + 4 < 4; omega)
  | 3, n + 4, _, h, _ => exact absurd h (by show ¬ n + 4 < 4; omega)
theorem RoomL.bex {B : Nat} {gs : List Value} {w w' : World} {v : Value} {xs : List Nat} (h : RoomL B w v xs) (hb : Bex gs w w') (hd : ∀ j, j < gs.length → (at_ gs j).ownBlock = none ∨ (at_ gs j).ownBlock ≠ v.ownBlock) : RoomL B w' v xs := by
  obtain ⟨u, rfl, ho⟩ := h
  refine ⟨u, rfl, ho.bex hb ?_⟩
  have e : (cutTo u xs.length).ownBlock = u.ownBlock := by
    obtain ⟨uo, ul, uc, rfl⟩ := ho.sl
    cases uo <;> rfl
  rw [e] at hd
  exact hd
end Go.Proofs.YtfnafgjnimfmjaaGreatDoor

namespace Go.Proofs.YtfnafgjnimfmjaaGreatDoor
open Go.RowKit

theorem ROwn.see {B : Nat} {w : World} {v : Value} {r : Rat} {L : Nat} (h : ROwn B w v r) (hs : RSz r L) (hL : L ≤ 1000000) : ∃ n ao al ac bo bl bc, v = .agg #[.bool n, .slice ao al ac, .slice bo bl bc] ∧ RNum w (.agg #[.bool n, .slice ao al ac, .slice bo bl bc]) r L := by
  have h1 := h.std
  have h2 := h1.num hs hL
  obtain ⟨n, ao, al, ac, bo, bl, bc, rfl, _⟩ := h1
  exact ⟨n, ao, al, ac, bo, bl, bc, rfl, h2⟩
set_option maxRecDepth 100000 in
set_option maxHeartbeats 6400000 in
theorem l_awake {w : World} : Calls Tryz.prog 5 #[] w fun e w' => e = .returned (.bool true) ∧ Below w.heap.size w w' := by
  obtain ⟨X, hX⟩ : ∃ X, X = Rat.divInt 6 (-4) := ⟨_, rfl⟩
  obtain ⟨Y, hY⟩ : ∃ X, X = Rat.divInt 5 6 := ⟨_, rfl⟩
  have HX : Hid (X = Rat.divInt 6 (-4)) := hX
  have HY : Hid (Y = Rat.divInt 5 6) := hY
  have sX : RSz X 1 := by rw [hX]; exact ⟨⟨by decide⟩, ⟨by decide⟩⟩
  have sY : RSz Y 1 := by rw [hY]; exact ⟨⟨by decide⟩, ⟨by decide⟩⟩
  have hXY : X + Y = Rat.divInt (6 * 6 + 5 * (-4)) ((-4) * 6) := by rw [hX, hY]; exact Rat.divInt_add_divInt 6 5 (by decide) (by decide)
  have sC : RSz (X + Y) 1 := by rw [hXY]; exact ⟨⟨by decide⟩, ⟨by decide⟩⟩
  obtain ⟨C, hC⟩ : ∃ C, C = X + Y := ⟨_, rfl⟩
  have HC : Hid (X + Y = C) := hC.symm
  rw [← hC] at sC
  have tX : rt X = ⟨#[45, 51, 47, 50]⟩ := by rw [hX]; kernel_rfl
  have tC : rt C = ⟨#[45, 50, 47, 51]⟩ := by rw [hC, hXY]; kernel_rfl
  have t0 : rt 0 = ⟨#[48]⟩ := by kernel_rfl
  have cXY : cmpQ X Y = -1 := by rw [hX, hY]; kernel_rfl
  have HTX : Hid (rt X = ⟨#[45, 51, 47, 50]⟩) := tX
  have HTC : Hid (rt C = ⟨#[45, 50, 47, 51]⟩) := tC
  have HT0 : Hid (rt 0 = ⟨#[48]⟩) := t0
  have HXY : Hid (cmpQ X Y = -1) := cXY
  clear hX hY hC hXY tX tC t0 cXY
  go_enter Tryz.func5, Tryz.ntmps5
  go_wp2_with fail
  have hb : Below w.heap.size w w := Below.refl _ _
  have hsz : 0 ≤ w.heap.size := Nat.zero_le _
  have hq := c_fof (n := 6) (d := -4) (w := w) (by decide) (by decide) (by decide) (by decide) (by decide)
  rw [← HX.out] at hq
  refine (hq).mono ?_
  rintro e w2 ⟨v, rfl, hv, b⟩
  clear hq
  obtain ⟨na, ao, al, ac, aO, aL, aC, rfl, ia⟩ := hv.see sX (by decide)
  clear hv
  replace hb := bstep hb b
  clear b
  obtain ⟨W3, hW3⟩ : ∃ W, W = w2.alloc (.cells #[.bool na, .slice ao al ac, .slice aO aL aC] 27) := ⟨_, rfl⟩
  have qa : QCell W3 (w2.heap.size) na (.slice ao al ac) (.slice aO aL aC) := by rw [hW3]; exact (qcell_new _ rfl)
  have b : Below w2.heap.size w2 W3 := by rw [hW3]; exact belowA _ _
  replace ia := ia.below b
  replace hb := bstep hb b
  clear b
  have rqa0 : (w2.alloc (.cells #[.bool na, .slice ao al ac, .slice aO aL aC] 27)).cell? ⟨w2.heap.size, 0, none⟩ = some (.bool na) := by rw [← hW3]; exact qa.cells.1
  have rqa1 : (w2.alloc (.cells #[.bool na, .slice ao al ac, .slice aO aL aC] 27)).cell? ⟨w2.heap.size, 1, none⟩ = some (.slice ao al ac) := by rw [← hW3]; exact qa.cells.2.1
  have rqa2 : (w2.alloc (.cells #[.bool na, .slice ao al ac, .slice aO aL aC] 27)).cell? ⟨w2.heap.size, 2, none⟩ = some (.slice aO aL aC) := by rw [← hW3]; exact qa.cells.2.2
  obtain ⟨v3, hv3⟩ : ∃ v, v = w2.heap.size := ⟨_, rfl⟩
  rw [← hv3] at qa
  have HW3 : Hid (W3 = w2.alloc (.cells #[.bool na, .slice ao al ac, .slice aO aL aC] 27)) := hW3
  have Hv3 : Hid (v3 = w2.heap.size) := hv3
  clear hW3 hv3
  go_wp2_with fail
  rw [← HW3.out, ← Hv3.out]
  clear HW3 Hv3 rqa0 rqa1 rqa2
  have hq := c_parse56 (w := W3)
  rw [← HY.out] at hq
  refine (hq).mono ?_
  rintro e w4 ⟨v, rfl, hv, b⟩
  clear hq
  obtain ⟨nb, bo, bl, bc, bO, bL, bC, rfl, ib⟩ := hv.see sY (by decide)
  clear hv
  replace ia := ia.below b
  replace qa := qa.below b
  replace hb := bstep hb b
  clear b
  obtain ⟨W5, hW5⟩ : ∃ W, W = w4.alloc (.cells #[.bool nb, .slice bo bl bc, .slice bO bL bC] 27) := ⟨_, rfl⟩
  have qb : QCell W5 (w4.heap.size) nb (.slice bo bl bc) (.slice bO bL bC) := by rw [hW5]; exact (qcell_new _ rfl)
  have b : Below w4.heap.size w4 W5 := by rw [hW5]; exact belowA _ _
  replace ia := ia.below b
  replace ib := ib.below b
  replace qa := qa.below b
  replace hb := bstep hb b
  clear b
  have rqa0 : (w4.alloc (.cells #[.bool nb, .slice bo bl bc, .slice bO bL bC] 27)).cell? ⟨v3, 0, none⟩ = some (.bool na) := by rw [← hW5]; exact qa.cells.1
  have rqa1 : (w4.alloc (.cells #[.bool nb, .slice bo bl bc, .slice bO bL bC] 27)).cell? ⟨v3, 1, none⟩ = some (.slice ao al ac) := by rw [← hW5]; exact qa.cells.2.1
  have rqa2 : (w4.alloc (.cells #[.bool nb, .slice bo bl bc, .slice bO bL bC] 27)).cell? ⟨v3, 2, none⟩ = some (.slice aO aL aC) := by rw [← hW5]; exact qa.cells.2.2
  have rqb0 : (w4.alloc (.cells #[.bool nb, .slice bo bl bc, .slice bO bL bC] 27)).cell? ⟨w4.heap.size, 0, none⟩ = some (.bool nb) := by rw [← hW5]; exact qb.cells.1
  have rqb1 : (w4.alloc (.cells #[.bool nb, .slice bo bl bc, .slice bO bL bC] 27)).cell? ⟨w4.heap.size, 1, none⟩ = some (.slice bo bl bc) := by rw [← hW5]; exact qb.cells.2.1
  have rqb2 : (w4.alloc (.cells #[.bool nb, .slice bo bl bc, .slice bO bL bC] 27)).cell? ⟨w4.heap.size, 2, none⟩ = some (.slice bO bL bC) := by rw [← hW5]; exact qb.cells.2.2
  obtain ⟨v5, hv5⟩ : ∃ v, v = w4.heap.size := ⟨_, rfl⟩
  rw [← hv5] at qb
  have HW5 : Hid (W5 = w4.alloc (.cells #[.bool nb, .slice bo bl bc, .slice bO bL bC] 27)) := hW5
  have Hv5 : Hid (v5 = w4.heap.size) := hv5
  clear hW5 hv5
  go_wp2_with fail
  rw [← HW5.out, ← Hv5.out]
  clear HW5 Hv5 rqa0 rqa1 rqa2 rqb0 rqb1 rqb2
  have hq := c_radd ia ib (by decide)
  rw [HC.out] at hq
  refine (hq).mono ?_
  rintro e w6 ⟨v, rfl, hv, b⟩
  clear hq
  obtain ⟨nc, co, cl, cc, cO, cL, cC, rfl, ic⟩ := hv.see sC (by decide)
  clear hv
  replace ia := ia.below b
  replace ib := ib.below b
  replace qa := qa.below b
  replace qb := qb.below b
  replace hb := bstep hb b
  clear b
  obtain ⟨W7, hW7⟩ : ∃ W, W = w6.alloc (.cells #[.bool nc, .slice co cl cc, .slice cO cL cC] 27) := ⟨_, rfl⟩
  have qc : QCell W7 (w6.heap.size) nc (.slice co cl cc) (.slice cO cL cC) := by rw [hW7]; exact (qcell_new _ rfl)
  have b : Below w6.heap.size w6 W7 := by rw [hW7]; exact belowA _ _
  replace ia := ia.below b
  replace ib := ib.below b
  replace ic := ic.below b
  replace qa := qa.below b
  replace qb := qb.below b
  replace hb := bstep hb b
  clear b
  have rqa0 : (w6.alloc (.cells #[.bool nc, .slice co cl cc, .slice cO cL cC] 27)).cell? ⟨v3, 0, none⟩ = some (.bool na) := by rw [← hW7]; exact qa.cells.1
  have rqa1 : (w6.alloc (.cells #[.bool nc, .slice co cl cc, .slice cO cL cC] 27)).cell? ⟨v3, 1, none⟩ = some (.slice ao al ac) := by rw [← hW7]; exact qa.cells.2.1
  have rqa2 : (w6.alloc (.cells #[.bool nc, .slice co cl cc, .slice cO cL cC] 27)).cell? ⟨v3, 2, none⟩ = some (.slice aO aL aC) := by rw [← hW7]; exact qa.cells.2.2
  have rqb0 : (w6.alloc (.cells #[.bool nc, .slice co cl cc, .slice cO cL cC] 27)).cell? ⟨v5, 0, none⟩ = some (.bool nb) := by rw [← hW7]; exact qb.cells.1
  have rqb1 : (w6.alloc (.cells #[.bool nc, .slice co cl cc, .slice cO cL cC] 27)).cell? ⟨v5, 1, none⟩ = some (.slice bo bl bc) := by rw [← hW7]; exact qb.cells.2.1
  have rqb2 : (w6.alloc (.cells #[.bool nc, .slice co cl cc, .slice cO cL cC] 27)).cell? ⟨v5, 2, none⟩ = some (.slice bO bL bC) := by rw [← hW7]; exact qb.cells.2.2
  have rqc0 : (w6.alloc (.cells #[.bool nc, .slice co cl cc, .slice cO cL cC] 27)).cell? ⟨w6.heap.size, 0, none⟩ = some (.bool nc) := by rw [← hW7]; exact qc.cells.1
  have rqc1 : (w6.alloc (.cells #[.bool nc, .slice co cl cc, .slice cO cL cC] 27)).cell? ⟨w6.heap.size, 1, none⟩ = some (.slice co cl cc) := by rw [← hW7]; exact qc.cells.2.1
  have rqc2 : (w6.alloc (.cells #[.bool nc, .slice co cl cc, .slice cO cL cC] 27)).cell? ⟨w6.heap.size, 2, none⟩ = some (.slice cO cL cC) := by rw [← hW7]; exact qc.cells.2.2
  obtain ⟨v7, hv7⟩ : ∃ v, v = w6.heap.size := ⟨_, rfl⟩
  rw [← hv7] at qc
  have HW7 : Hid (W7 = w6.alloc (.cells #[.bool nc, .slice co cl cc, .slice cO cL cC] 27)) := hW7
  have Hv7 : Hid (v7 = w6.heap.size) := hv7
  clear hW7 hv7
  go_wp2_with fail
  rw [← HW7.out, ← Hv7.out]
  clear HW7 Hv7 rqa0 rqa1 rqa2 rqb0 rqb1 rqb2 rqc0 rqc1 rqc2
  have hq := c_rtext ia (by decide)
  rw [HTX.out] at hq
  refine (hq).mono ?_
  rintro e w8 ⟨rfl, b⟩
  clear hq
  replace ia := ia.below b
  replace ib := ib.below b
  replace ic := ic.below b
  replace qa := qa.below b
  replace qb := qb.below b
  replace qc := qc.below b
  replace hb := bstep hb b
  clear b
  obtain ⟨cqa0, cqa1, cqa2⟩ := qa.cells
  obtain ⟨cqb0, cqb1, cqb2⟩ := qb.cells
  obtain ⟨cqc0, cqc1, cqc2⟩ := qc.cells
  go_wp2_with fail
  clear cqa0 cqa1 cqa2 cqb0 cqb1 cqb2 cqc0 cqc1 cqc2
  have hq := c_rtext ic (by decide)
  rw [HTC.out] at hq
  refine (hq).mono ?_
  rintro e w9 ⟨rfl, b⟩
  clear hq
  replace ia := ia.below b
  replace ib := ib.below b
  replace ic := ic.below b
  replace qa := qa.below b
  replace qb := qb.below b
  replace qc := qc.below b
  replace hb := bstep hb b
  clear b
  obtain ⟨cqa0, cqa1, cqa2⟩ := qa.cells
  obtain ⟨cqb0, cqb1, cqb2⟩ := qb.cells
  obtain ⟨cqc0, cqc1, cqc2⟩ := qc.cells
  go_wp2_with fail
  clear cqa0 cqa1 cqa2 cqb0 cqb1 cqb2 cqc0 cqc1 cqc2
  have hq := c_rsum none 0 0 0 (fun _ => 0) 0 w9 (fun h => absurd h (by decide)) (fun i hi => absurd hi (by omega)) (by decide)
  rw [show rsum (fun _ => 0) 0 = 0 from rfl] at hq
  refine (hq).mono ?_
  rintro e w10 ⟨v, rfl, hv, b⟩
  clear hq
  obtain ⟨nz, zo, zl, zc, zO, zL, zC, rfl, iz⟩ := hv.see RSz.zero (by decide)
  clear hv
  replace ia := ia.below b
  replace ib := ib.below b
  replace ic := ic.below b
  replace qa := qa.below b
  replace qb := qb.below b
  replace qc := qc.below b
  replace hb := bstep hb b
  clear b
  obtain ⟨cqa0, cqa1, cqa2⟩ := qa.cells
  obtain ⟨cqb0, cqb1, cqb2⟩ := qb.cells
  obtain ⟨cqc0, cqc1, cqc2⟩ := qc.cells
  go_wp2_with fail
  clear cqa0 cqa1 cqa2 cqb0 cqb1 cqb2 cqc0 cqc1 cqc2
  have hq := c_rtext iz (by decide)
  rw [HT0.out] at hq
  refine (hq).mono ?_
  rintro e w11 ⟨rfl, b⟩
  clear hq
  replace ia := ia.below b
  replace ib := ib.below b
  replace ic := ic.below b
  replace iz := iz.below b
  replace qa := qa.below b
  replace qb := qb.below b
  replace qc := qc.below b
  replace hb := bstep hb b
  clear b
  obtain ⟨cqa0, cqa1, cqa2⟩ := qa.cells
  obtain ⟨cqb0, cqb1, cqb2⟩ := qb.cells
  obtain ⟨cqc0, cqc1, cqc2⟩ := qc.cells
  go_wp2_with fail
  clear cqa0 cqa1 cqa2 cqb0 cqb1 cqb2 cqc0 cqc1 cqc2
  have hq := c_rcmp ia ib (by decide)
  rw [HXY.out] at hq
  refine (hq).mono ?_
  rintro e w12 ⟨rfl, b⟩
  clear hq
  replace ia := ia.below b
  replace ib := ib.below b
  replace ic := ic.below b
  replace iz := iz.below b
  replace qa := qa.below b
  replace qb := qb.below b
  replace qc := qc.below b
  replace hb := bstep hb b
  clear b
  have HE : Hid (Below w.heap.size w w12) := hb
  clear hb hsz qa qb qc ia ib ic iz
  go_wp2_with fail
  go_ret
  exact ⟨rfl, HE.out⟩
end Go.Proofs.YtfnafgjnimfmjaaGreatDoor

/-
  Proved here: credenceref03's OwnRats of fractions whose numbers lie each in a row of its own: it answers true.
  Proved here: what strings.Cut answers of a text and a stroke.
  Proved here: what Parse of package frac answers of a written whole number, and of one with a stroke and digits behind it.
  Proved here: what Parse of package frac answers of a written fraction; what Of answers where the lower number is 0.
  Proved here: what New and Of of package frac, and the document's, answer, error or not, as one.
-/
import Derived.Test.YtnehfkbpbgmbaaaGreatDoorOwn3
import Derived.Test.YtnehfkbpbgmbaaaGreatDoorLate
import Derived.Test.YtnehfkbpbgmbaaaGreatDoorWholeX1
import Derived.Lib.SmallJoins
import Derived.Deep.AppendLies
import Derived.Test.YtnehfkbpbgmbaaaGreatDoorFracDAll
import Derived.Test.YtnehfkbpbgmbaaaGreatDoorRefOfAll
import Derived.Test.YtnehfkbpbgmbaaaGreatDoorFracE
import Derived.Test.YtnehfkbpbgmbaaaGreatDoorR3
namespace Go.Proofs.YtnehfkbpbgmbaaaGreatDoor
open Go.RowKit

/-- The numbers of some fractions, one behind the other. -/
def prs (ms ds : Nat → Value) : Nat → List Value
  | 0 => []
  | n + 1 => prs ms ds n ++ [ms n, ds n]
theorem cell_two_new (w : World) (a b : Value) (t : TypeId) : ∀ j u, [a, b][j]? = some u → (w.alloc (.cells #[a, b] t)).cell? ((⟨w.heap.size, 0, none⟩ : Addr).add j) = some u := by
  intro j u h
  rw [Addr.add_lit, Nat.zero_add, World.cell?_alloc_at _ _ _ _ rfl]
  match j, h with
  | 0, h => exact h
  | 1, h => exact h
  | n + 2, h => cases h
theorem Bex.after {gs : List Value} {w w1 w' : World} (h : Bex gs w1 w') (hb : Below w.heap.size w w1) : Bex gs w w' :=
  ⟨h.os.trans hb.os, h.tape.trans hb.tape, h.output.trans hb.output, Nat.le_trans hb.size h.size, fun k hk hj => by rw [h.block k (Nat.lt_of_lt_of_le hk hb.size) hj, hb.block k hk]⟩
set_option maxRecDepth 100000 in
set_option maxHeartbeats 6400000 in
theorem ownRats3 (B lb cl n : Nat) (ms ds : Nat → Value) (xs : Nat → List Nat) (w : World) (hB : B ≤ w.heap.size) (hn0 : 0 < n) (hn : n ≤ 100)
    (hrow : ∀ i, i < n → w.cell? ⟨lb, i * 3 + 1, none⟩ = some (ms i) ∧ w.cell? ⟨lb, i * 3 + 2, none⟩ = some (ds i))
    (hsl : ∀ i, i < n → (∃ o l c, ms i = .slice o l c) ∧ ∃ o l c, ds i = .slice o l c)
    (hfam : Fam B w (prs ms ds n) xs) (hd : Dist (prs ms ds n)) (hlen : ∀ j, j < n + n → (xs j).length ≤ 1099511627776) :
    Calls Tryz.prog 35 #[.slice (some ⟨lb, 0, none⟩) n cl] w fun e w' => e = .returned (.bool true) ∧ Bex (prs ms ds n) w w' := by
  obtain ⟨iN, hiN, hzN0, hzN1, hzN2⟩ := info_parts Tryz.infoN3
  go_enter Tryz.func35, Tryz.ntmps35
  go_wp2_with fail
  go_loopw [3, 4] (fun va t wr => ∃ i : Nat, i ≤ n ∧ t = .int .i64 i ∧ wr.ownsRow w.heap.size 23 1 va (i + i) (prs ms ds i) ∧ Below w.heap.size w wr) (fun _ t _ => n - (intOf t).toNat)
  case atStart => exact ⟨0, Nat.zero_le _, rfl, World.ownsRow_nil _ _ _ _, Below.refl _ _⟩
  case round =>
    obtain ⟨i, hin, rfl, hown0, hbel⟩ := hrel
    by_cases hlt : i < n
    · have hge : (i : Int) < (n : Int) := by omega
      obtain ⟨c1, c2⟩ := hrow i hlt
      obtain ⟨⟨mo, ml, mc, e1⟩, do_, dl, dc, e2⟩ := hsl i hlt
      rw [e1] at c1
      rw [e2] at c2
      replace c1 : wr.drew.cell? ⟨lb, i * 3 + 1, none⟩ = some (.slice mo ml mc) := keepB (hbel.trans (Below.refl _ _).drew) c1
      replace c2 : wr.drew.cell? ⟨lb, i * 3 + 2, none⟩ = some (.slice do_ dl dc) := keepB (hbel.trans (Below.refl _ _).drew) c2
      have HP : Hid (prs ms ds (i + 1) = prs ms ds i ++ [.slice mo ml mc, .slice do_ dl dc]) := by show prs ms ds i ++ [ms i, ds i] = _; rw [e1, e2]
      obtain ⟨va, hva⟩ : ∃ v, v = u3 := ⟨_, rfl⟩
      rw [← hva] at hown0 ⊢
      clear hva
      have hB1 : w.heap.size ≤ wr.heap.size := hbel.size
      have HO : Hid (wr.drew.ownsRow w.heap.size 23 1 va (i + i) (prs ms ds i)) := hown0
      have HL : Hid (Below w.heap.size w wr) := hbel
      clear hown0 hbel hrow hsl hfam hd hlen e1 e2 hB
      go_wp2_with fail
      refine region_late [(6, fun w' => w'.cell? ⟨lb, i * 3 + 1, none⟩ = some (.slice mo ml mc)), (11, fun w' => w'.cell? ⟨lb, i * 3 + 2, none⟩ = some (.slice do_ dl dc))] (by kernel_rfl) ?_
      have hHeld : AllL wr.drew [(6, fun w' => w'.cell? ⟨lb, i * 3 + 1, none⟩ = some (.slice mo ml mc)), (11, fun w' => w'.cell? ⟨lb, i * 3 + 2, none⟩ = some (.slice do_ dl dc))] := ⟨c1, c2, trivial⟩
      refine late_free 0 (v := va) rfl (by kernel_rfl) (by kernel_rfl) (by kernel_rfl) (by kernel_rfl) (by kernel_rfl) (by kernel_rfl) (fun _ _ _ h => h) (Or.inl ⟨by rfl, ?_⟩) hHeld ?_
      · (intro u _; go_simp)
      (try simp only [Act.put, List.setIfInBounds_toArray, List.set_cons_zero, List.set_cons_succ])
      refine late_free 1 (v := .slice (some ⟨lb, 0, none⟩) n cl) rfl (by kernel_rfl) (by kernel_rfl) (by kernel_rfl) (by kernel_rfl) (by kernel_rfl) (by kernel_rfl) (fun _ _ _ h => h) (Or.inl ⟨by rfl, ?_⟩) hHeld ?_
      · (intro u _; go_simp)
      (try simp only [Act.put, List.setIfInBounds_toArray, List.set_cons_zero, List.set_cons_succ])
      refine late_free 2 (v := .int .i64 (i : Int)) rfl (by kernel_rfl) (by kernel_rfl) (by kernel_rfl) (by kernel_rfl) (by kernel_rfl) (by kernel_rfl) (fun _ _ _ h => h) (Or.inl ⟨by rfl, ?_⟩) hHeld ?_
      · (intro u _; go_simp)
      (try simp only [Act.put, List.setIfInBounds_toArray, List.set_cons_zero, List.set_cons_succ])
      refine late_free 7 (v := .slice (some ⟨lb, 0, none⟩) n cl) rfl (by kernel_rfl) (by kernel_rfl) (by kernel_rfl) (by kernel_rfl) (by kernel_rfl) (by kernel_rfl) (fun _ _ _ h => h) (Or.inl ⟨by rfl, ?_⟩) hHeld ?_
      · (intro u _; go_simp)
      (try simp only [Act.put, List.setIfInBounds_toArray, List.set_cons_zero, List.set_cons_succ])
      refine late_free 8 (v := .int .i64 (i : Int)) rfl (by kernel_rfl) (by kernel_rfl) (by kernel_rfl) (by kernel_rfl) (by kernel_rfl) (by kernel_rfl) (fun _ _ _ h => h) (Or.inl ⟨by rfl, ?_⟩) hHeld ?_
      · (intro u _; go_simp)
      (try simp only [Act.put, List.setIfInBounds_toArray, List.set_cons_zero, List.set_cons_succ])
      refine late_free 3 (v := .pointer (some ⟨lb, i * 3, none⟩)) rfl (by kernel_rfl) (by kernel_rfl) (by kernel_rfl) (by kernel_rfl) (by kernel_rfl) (by kernel_rfl) (fun _ _ _ h => h) (Or.inl ⟨by rfl, ?_⟩) hHeld ?_
      · (intro u _; go_simp)
      (try simp only [Act.put, List.setIfInBounds_toArray, List.set_cons_zero, List.set_cons_succ])
      refine late_free 9 (v := .pointer (some ⟨lb, i * 3, none⟩)) rfl (by kernel_rfl) (by kernel_rfl) (by kernel_rfl) (by kernel_rfl) (by kernel_rfl) (by kernel_rfl) (fun _ _ _ h => h) (Or.inl ⟨by rfl, ?_⟩) hHeld ?_
      · (intro u _; go_simp)
      (try simp only [Act.put, List.setIfInBounds_toArray, List.set_cons_zero, List.set_cons_succ])
      refine late_free 4 (v := .pointer (some ⟨lb, i * 3, none⟩)) rfl (by kernel_rfl) (by kernel_rfl) (by kernel_rfl) (by kernel_rfl) (by kernel_rfl) (by kernel_rfl) (fun _ _ _ h => h) (Or.inl ⟨by rfl, ?_⟩) hHeld ?_
      · (intro u _; go_simp)
      (try simp only [Act.put, List.setIfInBounds_toArray, List.set_cons_zero, List.set_cons_succ])
      refine late_free 5 (v := .pointer (some ⟨lb, i * 3 + 1, none⟩)) rfl (by kernel_rfl) (by kernel_rfl) (by kernel_rfl) (by kernel_rfl) (by kernel_rfl) (by kernel_rfl) (fun _ _ _ h => h) (Or.inl ⟨by rfl, ?_⟩) hHeld ?_
      · (intro u _; go_simp)
      (try simp only [Act.put, List.setIfInBounds_toArray, List.set_cons_zero, List.set_cons_succ])
      refine late_free 10 (v := .pointer (some ⟨lb, i * 3 + 2, none⟩)) rfl (by kernel_rfl) (by kernel_rfl) (by kernel_rfl) (by kernel_rfl) (by kernel_rfl) (by kernel_rfl) (fun _ _ _ h => h) (Or.inl ⟨by rfl, ?_⟩) hHeld ?_
      · (intro u _; go_simp)
      (try simp only [Act.put, List.setIfInBounds_toArray, List.set_cons_zero, List.set_cons_succ])
      refine late_take 6 (v := .slice mo ml mc) rfl (by kernel_rfl) (List.Mem.head _) (by kernel_rfl) (by kernel_rfl) (by kernel_rfl) (by kernel_rfl) (fun _ _ _ h => h) (Or.inl ⟨by rfl, ?_⟩) hHeld ?_
      · (intro u hu; (try dsimp only at hu); go_split_ands; go_simp)
      (try simp only [Act.put, List.setIfInBounds_toArray, List.set_cons_zero, List.set_cons_succ])
      refine late_take 11 (v := .slice do_ dl dc) rfl (by kernel_rfl) (List.Mem.tail _ (List.Mem.head _)) (by kernel_rfl) (by kernel_rfl) (by kernel_rfl) (by kernel_rfl) (fun _ _ _ h => h) (Or.inl ⟨by rfl, ?_⟩) hHeld ?_
      · (intro u hu; (try dsimp only at hu); go_split_ands; go_simp)
      (try simp only [Act.put, List.setIfInBounds_toArray, List.set_cons_zero, List.set_cons_succ])
      refine late_step 12 (by kernel_rfl) rfl (fun K hK => ?_)
      go_simp
      refine hK.out _ _ ⟨Or.inl ⟨12, by kernel_rfl, by kernel_rfl⟩, Or.inl ⟨12, by kernel_rfl, by kernel_rfl⟩, trivial⟩ ?_
      clear hK K
      (try simp only [Act.put, List.setIfInBounds_toArray, List.set_cons_zero, List.set_cons_succ])
      refine late_step 13 (by kernel_rfl) rfl (fun K hK => ?_)
      rw [if_pos (by rfl)]
      refine wp_append_lies _ _ _ 42 rfl w.heap.size 23 iN (.slice none 0 0) 1 24 Tryz.underlying42 hiN hzN0 hzN1 hzN2 rfl (by decide) va (i + i) _ rfl (HO.out.alloc _) ⟨wr.drew.heap.size, 0, none⟩ 2 2 [.slice mo ml mc, .slice do_ dl dc] rfl rfl (cell_two_new _ _ _ _) (by simp [Value.oneCell']) (by decide) (by unfold maxLen; omega) (by omega) (Nat.le_trans hB1 (by simp)) _ rfl ?_
      intro ga ca w7 hown hgr hga hgl
      refine hK.out _ _ ⟨Or.inl ⟨12, by kernel_rfl, by kernel_rfl⟩, Or.inl ⟨12, by kernel_rfl, by kernel_rfl⟩, trivial⟩ ?_
      clear hK K
      (try simp only [Act.put, List.setIfInBounds_toArray, List.set_cons_zero, List.set_cons_succ])
      refine late_step 14 (by kernel_rfl) rfl (fun K hK => ?_)
      go_simp
      refine hK.out _ _ ⟨Or.inl ⟨12, by kernel_rfl, by kernel_rfl⟩, Or.inl ⟨12, by kernel_rfl, by kernel_rfl⟩, trivial⟩ ?_
      clear hK K
      (try simp only [Act.put, List.setIfInBounds_toArray, List.set_cons_zero, List.set_cons_succ])
      refine late_done (by kernel_rfl) ?_ _
      clear hHeld
      have HR : Hid (w7.ownsRow w.heap.size 23 1 (.slice (some ⟨ga, 0, none⟩) (i + i + 2) ca) (i + i + 2) (prs ms ds (i + 1)) ∧ Below w.heap.size w w7) := by
        refine ⟨by rw [HP.out]; exact hown, ((bstep HL.out (belowA _ _)).drew).grown hgr (by simp; omega) (fun k hk => (HO.out.lt k hk).1)⟩
      clear hown hgr hga hgl HO HL HP
      go_wp2
      go_roundw
      case rel => exact ⟨i + 1, by omega, by go_num, by rw [show i + 1 + (i + 1) = i + i + 2 by omega]; exact HR.out.1, HR.out.2⟩
      case measure => simp [intOf]; omega
    · have hge : ¬ (i : Int) < (n : Int) := by omega
      obtain rfl : i = n := by omega
      obtain ⟨ga, ca, hva⟩ := Joins.ownsRow_form hown0 (by omega)
      subst hva
      have hq := own_yes B ga ca (i + i) (prs ms ds i) xs wr (Nat.le_trans hB hbel.size) (by omega) (Joins.ownsRow_le hown0 hB) (fun j hj => (hfam j hj).below hbel) hd hlen
      have HL : Hid (Below w.heap.size w wr) := hbel
      clear hown0 hbel hrow hsl hfam hd hlen hB hlt
      go_wp2_with fail
      refine hq.mono ?_
      rintro e w2 ⟨rfl, hx⟩
      clear hq
      have HX : Hid (Bex (prs ms ds i) w w2) := hx.after HL.out
      clear hx HL
      go_wp2
      go_ret
      exact ⟨rfl, HX.out⟩
end Go.Proofs.YtnehfkbpbgmbaaaGreatDoor

namespace Go.Proofs.YtnehfkbpbgmbaaaGreatDoor
open Go.RowKit

end Go.Proofs.YtnehfkbpbgmbaaaGreatDoor

namespace Go.Proofs.YtnehfkbpbgmbaaaGreatDoor
open Go.RowKit

end Go.Proofs.YtnehfkbpbgmbaaaGreatDoor

namespace Go.Proofs.YtnehfkbpbgmbaaaGreatDoor
open Go.RowKit

end Go.Proofs.YtnehfkbpbgmbaaaGreatDoor

namespace Go.Proofs.YtnehfkbpbgmbaaaGreatDoor
open Go.RowKit

/-- Two of something. -/
def two {α : Type} (a b : α) (i : Nat) : α := if i = 0 then a else b
theorem fam4 {B : Nat} {w : World} {m d m2 d2 : Value} {xm xd ym yd : List Nat} (h1 : Own B 67 w m xm) (h2 : Own B 67 w d xd) (h3 : Own B 67 w m2 ym) (h4 : Own B 67 w d2 yd) : Fam B w (prs (two m m2) (two d d2) 2) (fun j => [xm, xd, ym, yd].getD j []) := by
  intro j hj
  match j, hj with
  | 0, _ => exact h1
  | 1, _ => exact h2
  | 2, _ => exact h3
  | 3, _ => exact h4
  | n + 4, h => exact absurd h (by show ¬ n + 4 < 4; omega)
theorem dist4 {m d m2 d2 : Value} (h1 : m.ownBlock = none ∨ m.ownBlock ≠ d.ownBlock) (h2 : m.ownBlock = none ∨ m.ownBlock ≠ m2.ownBlock) (h3 : m.ownBlock = none ∨ m.ownBlock ≠ d2.ownBlock) (h4 : d.ownBlock = none ∨ d.ownBlock ≠ m2.ownBlock) (h5 : d.ownBlock = none ∨ d.ownBlock ≠ d2.ownBlock) (h6 : m2.ownBlock = none ∨ m2.ownBlock ≠ d2.ownBlock) : Dist (prs (two m m2) (two d d2) 2) := by
  intro i j hi hj hne
  match i, j, hi, hj, hne with
  | 0, 0, _, _, h => exact absurd rfl h
  | 0, 1, _, _, _ => exact h1
  | 0, 2, _, _, _ => exact h2
  | 0, 3, _, _, _ => exact h3
  | 1, 0, _, _, _ => exact apart_symm h1
  | 1, 1, _, _, h => exact absurd rfl h
  | 1, 2, _, _, _ => exact h4
  | 1, 3, _, _, _ => exact h5
  | 2, 0, _, _, _ => exact apart_symm h2
  | 2, 1, _, _, _ => exact apart_symm h4
  | 2, 2, _, _, h => exact absurd rfl h
  | 2, 3, _, _, _ => exact h6
  | 3, 0, _, _, _ => exact apart_symm h3
  | 3, 1, _, _, _ => exact apart_symm h5
  | 3, 2, _, _, _ => exact apart_symm h6
  | 3, 3, _, _, h => exact absurd rfl h
  | n + 4, _, h, _, _ => exact absurd h (by show ¬ n + 4 < 4; omega)
  | 0, n + 4, _, h, _ => exact absurd h (by show ¬ n + 4 < 4; omega)
  | 1, n + 4, _, h, _ => exact absurd h (by show ¬ n + 4 < 4; omega)
  | 2, n + 4, _, h, _ => exact absurd h (by show ¬ n + 4 < 4; omega)
  | 3, n + 4, _, h, _ => exact absurd h (by show ¬ n + 4 < 4; omega)
end Go.Proofs.YtnehfkbpbgmbaaaGreatDoor

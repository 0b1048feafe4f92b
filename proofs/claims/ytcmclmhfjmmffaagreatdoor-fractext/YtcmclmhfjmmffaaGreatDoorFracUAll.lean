/-
  Proved here: credenceref03's OwnRats of fractions whose numbers lie each in a row of its own: it answers true.
  Proved here: what strings.Cut answers of a text and a stroke.
  Proved here: what Parse of package frac answers of a written whole number, and of one with a stroke and digits behind it.
-/
import Derived.Test.YtcmclmhfjmmffaaGreatDoorOwn3
import Derived.Test.YtcmclmhfjmmffaaGreatDoorLate
import Derived.Test.YtcmclmhfjmmffaaGreatDoorWholeX1
import Derived.Lib.SmallJoins
import Derived.Deep.AppendLies
import Derived.Test.YtcmclmhfjmmffaaGreatDoorFracDAll
import Derived.Test.YtcmclmhfjmmffaaGreatDoorRefParseAll
import Derived.Test.YtcmclmhfjmmffaaGreatDoorFracE
namespace Go.Proofs.YtcmclmhfjmmffaaGreatDoor
open Go.RowKit

/-- The numbers of some fractions, one behind the other. -/
def prs (ms ds : Nat → Value) : Nat → List Value
  | 0 => []
  | n + 1 => prs ms ds n ++ [ms n, ds n]
theorem prs_len (ms ds : Nat → Value) : ∀ n, (prs ms ds n).length = n + n
  | 0 => rfl
  | n + 1 => by show (prs ms ds n ++ [ms n, ds n]).length = _; rw [List.length_append, prs_len ms ds n]; show n + n + 2 = _; omega
theorem cell_two_new (w : World) (a b : Value) (t : TypeId) : ∀ j u, [a, b][j]? = some u → (w.alloc (.cells #[a, b] t)).cell? ((⟨w.heap.size, 0, none⟩ : Addr).add j) = some u := by
  intro j u h
  rw [Addr.add_lit, Nat.zero_add, World.cell?_alloc_at _ _ _ _ rfl]
  match j, h with
  | 0, h => exact h
  | 1, h => exact h
  | n + 2, h => cases h
theorem Bex.after {gs : List Value} {w w1 w' : World} (h : Bex gs w1 w') (hb : Below w.heap.size w w1) : Bex gs w w' :=
  ⟨h.os.trans hb.os, h.tape.trans hb.tape, h.output.trans hb.output, Nat.le_trans hb.size h.size, fun k hk hj => by rw [h.block k (Nat.lt_of_lt_of_le hk hb.size) hj, hb.block k hk]⟩
set_option maxRecDepth 100000 in
set_option maxHeartbeats 6400000 in
theorem ownRats3 (B lb cl n : Nat) (ms ds : Nat → Value) (xs : Nat → List Nat) (w : World) (hB : B ≤ w.heap.size) (hn0 : 0 < n) (hn : n ≤ 100)
    (hrow : ∀ i, i < n → w.cell? ⟨lb, i * 3 + 1, none⟩ = some (ms i) ∧ w.cell? ⟨lb, i * 3 + 2, none⟩ = some (ds i))
    (hsl : ∀ i, i < n → (∃ o l c, ms i = .slice o l c) ∧ ∃ o l c, ds i = .slice o l c)
    (hfam : Fam B w (prs ms ds n) xs) (hd : Dist (prs ms ds n)) (hlen : ∀ j, j < n + n → (xs j).length ≤ 1099511627776) :
    Calls Tryz.prog 39 #[.slice (some ⟨lb, 0, none⟩) n cl] w fun e w' => e = .returned (.bool true) ∧ Bex (prs ms ds n) w w' := by
  obtain ⟨iN, hiN, hzN0, hzN1, hzN2⟩ := info_parts Tryz.infoN3
  go_enter Tryz.func39, Tryz.ntmps39
  go_wp2_with fail
  go_loopw [3, 4] (fun va t wr => ∃ i : Nat, i ≤ n ∧ t = .int .i64 i ∧ wr.ownsRow w.heap.size 23 1 va (i + i) (prs ms ds i) ∧ Below w.heap.size w wr) (fun _ t _ => n - (intOf t).toNat)
  case atStart => exact ⟨0, Nat.zero_le _, rfl, World.ownsRow_nil _ _ _ _, Below.refl _ _⟩
  case round =>
    obtain ⟨i, hin, rfl, hown0, hbel⟩ := hrel
    by_cases hlt : i < n
    · have hge : (i : Int) < (n : Int) := by omega
      obtain ⟨c1, c2⟩ := hrow i hlt
      obtain ⟨⟨mo, ml, mc, e1⟩, do_, dl, dc, e2⟩ := hsl i hlt
      rw [e1] at c1
      rw [e2] at c2
      replace c1 : wr.drew.cell? ⟨lb, i * 3 + 1, none⟩ = some (.slice mo ml mc) := keepB (hbel.trans (Below.refl _ _).drew) c1
      replace c2 : wr.drew.cell? ⟨lb, i * 3 + 2, none⟩ = some (.slice do_ dl dc) := keepB (hbel.trans (Below.refl _ _).drew) c2
      have HP : Hid (prs ms ds (i + 1) = prs ms ds i ++ [.slice mo ml mc, .slice do_ dl dc]) := by show prs ms ds i ++ [ms i, ds i] = _; rw [e1, e2]
      obtain ⟨va, hva⟩ : ∃ v, v = u3 := ⟨_, rfl⟩
      rw [← hva] at hown0 ⊢
      clear hva
      have hB1 : w.heap.size ≤ wr.heap.size := hbel.size
      have HO : Hid (wr.drew.ownsRow w.heap.size 23 1 va (i + i) (prs ms ds i)) := hown0
      have HL : Hid (Below w.heap.size w wr) := hbel
      clear hown0 hbel hrow hsl hfam hd hlen e1 e2 hB
      go_wp2_with fail
      refine region_late [(6, fun w' => w'.cell? ⟨lb, i * 3 + 1, none⟩ = some (.slice mo ml mc)), (11, fun w' => w'.cell? ⟨lb, i * 3 + 2, none⟩ = some (.slice do_ dl dc))] (by kernel_rfl) ?_
      have hHeld : AllL wr.drew [(6, fun w' => w'.cell? ⟨lb, i * 3 + 1, none⟩ = some (.slice mo ml mc)), (11, fun w' => w'.cell? ⟨lb, i * 3 + 2, none⟩ = some (.slice do_ dl dc))] := ⟨c1, c2, trivial⟩
      refine late_free 0 (v := va) rfl (by kernel_rfl) (by kernel_rfl) (by kernel_rfl) (by kernel_rfl) (by kernel_rfl) (by kernel_rfl) (fun _ _ _ h => h) (Or.inl ⟨by rfl, ?_⟩) hHeld ?_
      · (intro u _; go_simp)
      (try simp only [Act.put, List.setIfInBounds_toArray, List.set_cons_zero, List.set_cons_succ])
      refine late_free 1 (v := .slice (some ⟨lb, 0, none⟩) n cl) rfl (by kernel_rfl) (by kernel_rfl) (by kernel_rfl) (by kernel_rfl) (by kernel_rfl) (by kernel_rfl) (fun _ _ _ h => h) (Or.inl ⟨by rfl, ?_⟩) hHeld ?_
      · (intro u _; go_simp)
      (try simp only [Act.put, List.setIfInBounds_toArray, List.set_cons_zero, List.set_cons_succ])
      refine late_free 2 (v := .int .i64 (i : Int)) rfl (by kernel_rfl) (by kernel_rfl) (by kernel_rfl) (by kernel_rfl) (by kernel_rfl) (by kernel_rfl) (fun _ _ _ h => h) (Or.inl ⟨by rfl, ?_⟩) hHeld ?_
      · (intro u _; go_simp)
      (try simp only [Act.put, List.setIfInBounds_toArray, List.set_cons_zero, List.set_cons_succ])
      refine late_free 7 (v := .slice (some ⟨lb, 0, none⟩) n cl) rfl (by kernel_rfl) (by kernel_rfl) (by kernel_rfl) (by kernel_rfl) (by kernel_rfl) (by kernel_rfl) (fun _ _ _ h => h) (Or.inl ⟨by rfl, ?_⟩) hHeld ?_
      · (intro u _; go_simp)
      (try simp only [Act.put, List.setIfInBounds_toArray, List.set_cons_zero, List.set_cons_succ])
      refine late_free 8 (v := .int .i64 (i : Int)) rfl (by kernel_rfl) (by kernel_rfl) (by kernel_rfl) (by kernel_rfl) (by kernel_rfl) (by kernel_rfl) (fun _ _ _ h => h) (Or.inl ⟨by rfl, ?_⟩) hHeld ?_
      · (intro u _; go_simp)
      (try simp only [Act.put, List.setIfInBounds_toArray, List.set_cons_zero, List.set_cons_succ])
      refine late_free 3 (v := .pointer (some ⟨lb, i * 3, none⟩)) rfl (by kernel_rfl) (by kernel_rfl) (by kernel_rfl) (by kernel_rfl) (by kernel_rfl) (by kernel_rfl) (fun _ _ _ h => h) (Or.inl ⟨by rfl, ?_⟩) hHeld ?_
      · (intro u _; go_simp)
      (try simp only [Act.put, List.setIfInBounds_toArray, List.set_cons_zero, List.set_cons_succ])
      refine late_free 9 (v := .pointer (some ⟨lb, i * 3, none⟩)) rfl (by kernel_rfl) (by kernel_rfl) (by kernel_rfl) (by kernel_rfl) (by kernel_rfl) (by kernel_rfl) (fun _ _ _ h => h) (Or.inl ⟨by rfl, ?_⟩) hHeld ?_
      · (intro u _; go_simp)
      (try simp only [Act.put, List.setIfInBounds_toArray, List.set_cons_zero, List.set_cons_succ])
      refine late_free 4 (v := .pointer (some ⟨lb, i * 3, none⟩)) rfl (by kernel_rfl) (by kernel_rfl) (by kernel_rfl) (by kernel_rfl) (by kernel_rfl) (by kernel_rfl) (fun _ _ _ h => h) (Or.inl ⟨by rfl, ?_⟩) hHeld ?_
      · (intro u _; go_simp)
      (try simp only [Act.put, List.setIfInBounds_toArray, List.set_cons_zero, List.set_cons_succ])
      refine late_free 5 (v := .pointer (some ⟨lb, i * 3 + 1, none⟩)) rfl (by kernel_rfl) (by kernel_rfl) (by kernel_rfl) (by kernel_rfl) (by kernel_rfl) (by kernel_rfl) (fun _ _ _ h => h) (Or.inl ⟨by rfl, ?_⟩) hHeld ?_
      · (intro u _; go_simp)
      (try simp only [Act.put, List.setIfInBounds_toArray, List.set_cons_zero, List.set_cons_succ])
      refine late_free 10 (v := .pointer (some ⟨lb, i * 3 + 2, none⟩)) rfl (by kernel_rfl) (by kernel_rfl) (by kernel_rfl) (by kernel_rfl) (by kernel_rfl) (by kernel_rfl) (fun _ _ _ h => h) (Or.inl ⟨by rfl, ?_⟩) hHeld ?_
      · (intro u _; go_simp)
      (try simp only [Act.put, List.setIfInBounds_toArray, List.set_cons_zero, List.set_cons_succ])
      refine late_take 6 (v := .slice mo ml mc) rfl (by kernel_rfl) (List.Mem.head _) (by kernel_rfl) (by kernel_rfl) (by kernel_rfl) (by kernel_rfl) (fun _ _ _ h => h) (Or.inl ⟨by rfl, ?_⟩) hHeld ?_
      · (intro u hu; (try dsimp only at hu); go_split_ands; go_simp)
      (try simp only [Act.put, List.setIfInBounds_toArray, List.set_cons_zero, List.set_cons_succ])
      refine late_take 11 (v := .slice do_ dl dc) rfl (by kernel_rfl) (List.Mem.tail _ (List.Mem.head _)) (by kernel_rfl) (by kernel_rfl) (by kernel_rfl) (by kernel_rfl) (fun _ _ _ h => h) (Or.inl ⟨by rfl, ?_⟩) hHeld ?_
      · (intro u hu; (try dsimp only at hu); go_split_ands; go_simp)
      (try simp only [Act.put, List.setIfInBounds_toArray, List.set_cons_zero, List.set_cons_succ])
      refine late_step 12 (by kernel_rfl) rfl (fun K hK => ?_)
      go_simp
      refine hK.out _ _ ⟨Or.inl ⟨12, by kernel_rfl, by kernel_rfl⟩, Or.inl ⟨12, by kernel_rfl, by kernel_rfl⟩, trivial⟩ ?_
      clear hK K
      (try simp only [Act.put, List.setIfInBounds_toArray, List.set_cons_zero, List.set_cons_succ])
      refine late_step 13 (by kernel_rfl) rfl (fun K hK => ?_)
      rw [if_pos (by rfl)]
      refine wp_append_lies _ _ _ 42 rfl w.heap.size 23 iN (.slice none 0 0) 1 24 Tryz.underlying42 hiN hzN0 hzN1 hzN2 rfl (by decide) va (i + i) _ rfl (HO.out.alloc _) ⟨wr.drew.heap.size, 0, none⟩ 2 2 [.slice mo ml mc, .slice do_ dl dc] rfl rfl (cell_two_new _ _ _ _) (by simp [Value.oneCell']) (by decide) (by unfold maxLen; omega) (by omega) (Nat.le_trans hB1 (by simp)) _ rfl ?_
      intro ga ca w7 hown hgr hga hgl
      refine hK.out _ _ ⟨Or.inl ⟨12, by kernel_rfl, by kernel_rfl⟩, Or.inl ⟨12, by kernel_rfl, by kernel_rfl⟩, trivial⟩ ?_
      clear hK K
      (try simp only [Act.put, List.setIfInBounds_toArray, List.set_cons_zero, List.set_cons_succ])
      refine late_step 14 (by kernel_rfl) rfl (fun K hK => ?_)
      go_simp
      refine hK.out _ _ ⟨Or.inl ⟨12, by kernel_rfl, by kernel_rfl⟩, Or.inl ⟨12, by kernel_rfl, by kernel_rfl⟩, trivial⟩ ?_
      clear hK K
      (try simp only [Act.put, List.setIfInBounds_toArray, List.set_cons_zero, List.set_cons_succ])
      refine late_done (by kernel_rfl) ?_ _
      clear hHeld
      have HR : Hid (w7.ownsRow w.heap.size 23 1 (.slice (some ⟨ga, 0, none⟩) (i + i + 2) ca) (i + i + 2) (prs ms ds (i + 1)) ∧ Below w.heap.size w w7) := by
        refine ⟨by rw [HP.out]; exact hown, ((bstep HL.out (belowA _ _)).drew).grown hgr (by simp; omega) (fun k hk => (HO.out.lt k hk).1)⟩
      clear hown hgr hga hgl HO HL HP
      go_wp2
      go_roundw
      case rel => exact ⟨i + 1, by omega, by go_num, by rw [show i + 1 + (i + 1) = i + i + 2 by omega]; exact HR.out.1, HR.out.2⟩
      case measure => simp [intOf]; omega
    · have hge : ¬ (i : Int) < (n : Int) := by omega
      obtain rfl : i = n := by omega
      obtain ⟨ga, ca, hva⟩ := Joins.ownsRow_form hown0 (by omega)
      subst hva
      have hq := own_yes B ga ca (i + i) (prs ms ds i) xs wr (Nat.le_trans hB hbel.size) (by omega) (Joins.ownsRow_le hown0 hB) (fun j hj => (hfam j hj).below hbel) hd hlen
      have HL : Hid (Below w.heap.size w wr) := hbel
      clear hown0 hbel hrow hsl hfam hd hlen hB hlt
      go_wp2_with fail
      refine hq.mono ?_
      rintro e w2 ⟨rfl, hx⟩
      clear hq
      have HX : Hid (Bex (prs ms ds i) w w2) := hx.after HL.out
      clear hx HL
      go_wp2
      go_ret
      exact ⟨rfl, HX.out⟩
end Go.Proofs.YtcmclmhfjmmffaaGreatDoor

namespace Go.Proofs.YtcmclmhfjmmffaaGreatDoor
open Go.RowKit

theorem at_bt {s : ByteArray} {i : Nat} (hi : i < s.size) : (s[i]! == (47 : UInt8)) = decide (bt s i = 47) := by
  rw [getElem!_pos s i hi, Bool.eq_iff_iff]
  simp only [beq_iff_eq, decide_eq_true_eq]
  rw [← bt_get hi]
  exact ⟨fun h => by rw [h]; rfl, fun h => UInt8.toNat_inj.1 h⟩
theorem first_none {s : ByteArray} (h : ∀ i, i < s.size → bt s i ≠ 47) : firstIdx s 47 = -1 := by
  unfold firstIdx
  have h1 : (List.range s.size).find? (fun i => s[i]! == 47) = none := by
    rw [List.find?_range_eq_none]
    intro i hi
    rw [at_bt hi]
    simpa using h i hi
  rw [h1]
theorem first_some {s : ByteArray} {k : Nat} (hk : k < s.size) (h : bt s k = 47) (h0 : ∀ i, i < k → bt s i ≠ 47) : firstIdx s 47 = (k : Int) := by
  unfold firstIdx
  have h1 : (List.range s.size).find? (fun i => s[i]! == 47) = some k := by
    rw [List.find?_range_eq_some]
    refine ⟨by rw [at_bt hk]; exact decide_eq_true h, List.mem_range.2 hk, fun j hj => ?_⟩
    rw [at_bt (by omega)]
    simpa using h0 j hj
  rw [h1]

set_option maxRecDepth 100000 in
set_option maxHeartbeats 3200000 in
theorem slcut_no (s : ByteArray) (_hs : s.size ≤ 1000000000) (hi : firstIdx s 47 = -1) (hne : (([47] : List UInt8) == s.toList) = false) (w : World) : Calls Tryz.prog 116 #[.string s, .string ⟨#[47]⟩] w fun e w' => e = .returned (.tuple #[.string s, .string ⟨#[]⟩, .bool false]) ∧ Below w.heap.size w w' := by
  have h1 := ixb s w
  rw [hi] at h1
  have h2 := b47
  clear hi
  go_enter Tryz.func116, Tryz.ntmps116
  go_wp2
  go_ret3
  exact ⟨rfl, Below.refl _ _⟩
set_option maxRecDepth 100000 in
set_option maxHeartbeats 3200000 in
theorem slcut_yes (s : ByteArray) (k : Nat) (hk : k < s.size) (hs : s.size ≤ 1000000000) (hi : firstIdx s 47 = (k : Int)) (hne : (([47] : List UInt8) == s.toList) = false) (w : World) : Calls Tryz.prog 116 #[.string s, .string ⟨#[47]⟩] w fun e w' => e = .returned (.tuple #[.string (s.extract 0 k), .string (s.extract (k + 1) s.size), .bool true]) ∧ Below w.heap.size w w' := by
  have h1 := ixb s w
  rw [hi] at h1
  have h2 := b47
  have hk2 : (k : Int) ≤ (s.size : Int) := by omega
  have hk3 : (k : Int) + 1 ≤ (s.size : Int) := by omega
  clear hi
  go_enter Tryz.func116, Tryz.ntmps116
  go_wp2
  go_quiet (fail)
  go_wp2
  go_ret3
  exact ⟨rfl, belowDN _ _⟩
end Go.Proofs.YtcmclmhfjmmffaaGreatDoor

namespace Go.Proofs.YtcmclmhfjmmffaaGreatDoor
open Go.RowKit

theorem bt_left {a b : ByteArray} {i : Nat} (h : i < a.size) : bt (a ++ b) i = bt a i := by
  unfold bt
  rw [s_app, List.getD_eq_getElem?_getD, List.getElem?_append_left (by rw [← s_size]; exact h), ← List.getD_eq_getElem?_getD]
theorem bt_right {a b : ByteArray} {i : Nat} (h : a.size ≤ i) : bt (a ++ b) i = bt b (i - a.size) := by
  unfold bt
  rw [s_app, List.getD_eq_getElem?_getD, List.getElem?_append_right (by rw [← s_size]; exact h), ← List.getD_eq_getElem?_getD, ← s_size]
theorem txt_no {n i : Nat} (hi : i < (txt n).size) : bt (txt n) i ≠ 47 := by
  rw [txt_size] at hi
  rw [x_bt hi]
  omega
theorem zt_cases (z : Int) : (z < 0 ∧ zt z = ⟨#[45]⟩ ++ txt z.natAbs) ∨ (¬ z < 0 ∧ zt z = txt z.natAbs) := by
  unfold zt ztxt
  by_cases h : z < 0
  · exact Or.inl ⟨h, by rw [if_pos ⟨decide_eq_true h, by omega⟩]⟩
  · exact Or.inr ⟨h, by rw [if_neg (fun k => h (of_decide_eq_true k.1))]⟩
theorem zt_no {z : Int} {i : Nat} (hi : i < (zt z).size) : bt (zt z) i ≠ 47 := by
  rcases zt_cases z with ⟨_, e⟩ | ⟨_, e⟩
  · rw [e] at hi ⊢
    by_cases h0 : i < 1
    · have e0 : i = 0 := by omega
      subst e0
      rw [bt_left (show 0 < (⟨#[45]⟩ : ByteArray).size by decide)]
      decide
    · rw [bt_right (show (⟨#[45]⟩ : ByteArray).size ≤ i from by show 1 ≤ i; omega)]
      apply txt_no
      rw [ByteArray.size_append] at hi
      have h1 : (⟨#[45]⟩ : ByteArray).size = 1 := rfl
      omega
  · rw [e] at hi ⊢
    exact txt_no hi
theorem zt_pos_size (z : Int) : 0 < (zt z).size := by
  have h := (x_dig z.natAbs).2
  rcases zt_cases z with ⟨_, e⟩ | ⟨_, e⟩
  · rw [e, ByteArray.size_append]; omega
  · rw [e]; exact h
theorem ne47 {s : ByteArray} (h : bt s 0 ≠ 47) : (([47] : List UInt8) == s.toList) = false := by
  rw [ByteArray.toList_eq]
  cases hl : s.data.toList with
  | nil => rfl
  | cons x r =>
    unfold bt at h
    rw [hl] at h
    rw [beq_eq_false_iff_ne]
    intro e
    injection e with e1 _
    apply h
    rw [← e1]
    rfl
theorem c_parse_zt (z : Int) (w : World) (hs : (zt z).size ≤ 1000000) : Calls Tryz.prog 83 #[.string (zt z)] w fun e w' => ∃ v, e = .returned (.tuple #[v, .int .i64 0]) ∧ IOwn w.heap.size w' v z ∧ Below w.heap.size w w' := by
  rcases zt_cases z with ⟨hz, e⟩ | ⟨hz, e⟩
  · rw [e] at hs ⊢
    exact parse_of (strk_minus _).1 (strk_minus _).2 (x_dig _) (by rw [x_val]; unfold zv; simp; omega) hs w
  · rw [e] at hs ⊢
    exact parse_of (dig_first (x_dig _).1 (x_dig _).2).1 (dig_first (x_dig _).1 (x_dig _).2).2 (x_dig _) (by rw [x_val]; unfold zv; simp; omega) hs w
theorem c_nparse (q : Nat) (w : World) (hs : (txt q).size ≤ 1000000) : Calls Tryz.prog 84 #[.string (txt q)] w fun e w' => ∃ v, e = .returned (.tuple #[v, .int .i64 0]) ∧ Own w.heap.size 69 w' v (lim q) ∧ Below w.heap.size w w' := by
  have h := parse_any (txt q) w hs
  refine h.mono ?_
  rintro e w' ⟨u, rfl, hu, hb⟩
  rw [if_pos (x_dig q), x_val] at hu
  exact ⟨u, by rw [if_pos (x_dig q)], hu, hb⟩
/-- Two written numbers with a stroke between. -/
def two47 (a b : ByteArray) : ByteArray := a ++ ⟨#[47]⟩ ++ b
theorem two_size (a b : ByteArray) : (two47 a b).size = a.size + 1 + b.size := by unfold two47; rw [ByteArray.size_append, ByteArray.size_append]; rfl
theorem two_first {a b : ByteArray} (ha : ∀ i, i < a.size → bt a i ≠ 47) : firstIdx (two47 a b) 47 = (a.size : Int) := by
  refine first_some (by rw [two_size]; omega) ?_ (fun i hi => ?_)
  · unfold two47
    rw [bt_left (by rw [ByteArray.size_append]; show a.size < a.size + 1; omega), bt_right (Nat.le_refl _), Nat.sub_self]
    decide
  · unfold two47
    rw [bt_left (by rw [ByteArray.size_append]; omega), bt_left hi]
    exact ha i hi
theorem two_left (a b : ByteArray) : (two47 a b).extract 0 a.size = a := by
  apply s_ext
  unfold two47
  rw [extract_list, s_app, s_app, s_size]
  simp
theorem drop_mid {l r : List UInt8} (x : UInt8) : ((l ++ [x] ++ r).drop (l.length + 1)).take r.length = r := by
  rw [show l.length + 1 = (l ++ [x]).length by simp, List.drop_left, List.take_length]
theorem two_right (a b : ByteArray) : (two47 a b).extract (a.size + 1) (two47 a b).size = b := by
  apply s_ext
  rw [two_size]
  unfold two47
  rw [extract_list, s_app, s_app, s_size a, s_size b, Nat.add_sub_cancel_left]
  exact drop_mid _
set_option maxRecDepth 100000 in
set_option maxHeartbeats 3200000 in
theorem cut_no (s : ByteArray) (hs : s.size ≤ 1000000000) (hi : firstIdx s 47 = -1) (hne : (([47] : List UInt8) == s.toList) = false) (w : World) : Calls Tryz.prog 82 #[.string s, .string ⟨#[47]⟩] w fun e w' => e = .returned (.tuple #[.string s, .string ⟨#[]⟩, .bool false]) ∧ Below w.heap.size w w' := by
  go_enter Tryz.func82, Tryz.ntmps82
  go_wp2_with fail
  refine (slcut_no s hs hi hne _).mono ?_
  rintro e w2 ⟨rfl, hb⟩
  have HB : Hid (Below w.heap.size w w2) := hb
  clear hb hi hne
  go_wp2_with fail
  go_ret3
  exact ⟨rfl, HB.out⟩
set_option maxRecDepth 100000 in
set_option maxHeartbeats 3200000 in
theorem cut_two (a b : ByteArray) (h0 : 0 < a.size) (ha : ∀ i, i < a.size → bt a i ≠ 47) (hs : (two47 a b).size ≤ 1000000000) (w : World) : Calls Tryz.prog 82 #[.string (two47 a b), .string ⟨#[47]⟩] w fun e w' => e = .returned (.tuple #[.string a, .string b, .bool true]) ∧ Below w.heap.size w w' := by
  have h := fun w => slcut_yes (two47 a b) a.size (by rw [two_size]; omega) hs (two_first ha) (ne47 (by unfold two47; rw [bt_left (by rw [ByteArray.size_append]; omega), bt_left h0]; exact ha 0 h0)) w
  rw [two_left, two_right] at h
  generalize two47 a b = s at *
  clear ha h0 hs
  go_enter Tryz.func82, Tryz.ntmps82
  go_wp2_with fail
  refine (h _).mono ?_
  rintro e w2 ⟨rfl, hb⟩
  have HB : Hid (Below w.heap.size w w2) := hb
  clear hb h
  go_wp2_with fail
  go_ret3
  exact ⟨rfl, HB.out⟩
end Go.Proofs.YtcmclmhfjmmffaaGreatDoor

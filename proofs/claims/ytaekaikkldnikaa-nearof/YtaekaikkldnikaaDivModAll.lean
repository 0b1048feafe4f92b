/-
  Proved here: what fresh and Norm answer.
  Proved here: what DivMod answers.
-/
import Derived.Test.YtaekaikkldnikaaShiftMathAll
import Derived.Laws.CopyOwn
import Derived.Test.YtaekaikkldnikaaLong2
namespace Go.Proofs.Ytaekaikkldnikaa
open Go.RowKit

theorem lim_len_of_lt {a b : Nat} (h : a ≤ b) : (lim a).length ≤ (lim b).length := lim_len_le (Nat.lt_of_le_of_lt h (lim_lt_of_len (Nat.le_refl _)))
theorem Try.sizeU : (Try.prog.info? 39).map (·.size) = some 1 := by kernel_rfl
theorem splice_all {L cs : List Value} (h : cs.length = L.length) : splice L 0 cs = cs := by
  simp only [splice, List.take_zero, List.nil_append, Nat.zero_add]
  rw [List.drop_of_length_le (by omega), List.append_nil]

set_option maxRecDepth 100000 in
set_option maxHeartbeats 800000 in
theorem fresh_any (v : Value) (xs : List Nat) (w : World) (h : Num w v xs) (hlen : xs.length ≤ 1099511627776) :
    Calls Try.prog 60 #[v] w fun e w' => Made' w.heap.size w xs e w' := by
  obtain ⟨hb, ao, cap, rfl, hc, hm, hnil, hcell⟩ := h.open_
  obtain ⟨n, hn⟩ : ∃ n, xs.length = n := ⟨_, rfl⟩
  rw [hn] at hc hlen h ⊢
  have HN : Hid (xs.length = n) := hn
  obtain ⟨i0, hi, hz0, hz1, hz2⟩ := info_parts Try.infoU
  have HC : Hid (∀ w2, Below w.heap.size w w2 → 0 < (xs.map U).length → ∃ ad, ao = some ad ∧ ∀ j u, (xs.map U)[j]? = some u → w2.cell? (ad.add j) = some u) := by
    intro w2 hb2 hp
    obtain ⟨b, off, rfl, _⟩ := hcell 0 (by simpa using hp)
    refine ⟨⟨b, off, none⟩, rfl, fun j u hj => ?_⟩
    rw [List.getElem?_map] at hj
    obtain ⟨y, hy, rfl⟩ := Option.map_eq_some_iff.1 hj
    obtain ⟨hjk, hy⟩ := List.getElem?_eq_some_iff.1 hy
    obtain ⟨b', off', he, hc'⟩ := hcell j (by omega)
    simp only [Option.some.injEq, Addr.mk.injEq] at he
    obtain ⟨rfl, rfl, _⟩ := he
    subst hy
    rw [Addr.add_lit, hb2.cell (p := ⟨b, off + j, none⟩) (block_lt_of_cell hc'), hc', List.getD_eq_getElem?_getD, List.getElem?_eq_getElem (by omega)]
    rfl
  have HL : Hid ((xs.map U).length = Nat.min n n) := by show _ = _; rw [List.length_map, HN.out]; simp
  have H1 : Hid (∀ u ∈ xs.map U, u.oneCell' = true) := by intro u hu; obtain ⟨y, _, rfl⟩ := List.mem_map.1 hu; rfl
  clear hcell hnil hn h
  go_enter Try.func60, Try.ntmps60
  go_wp2_with (at_make; refine wpList_make_full _ rfl _ _ 25 rfl w.heap.size 39 i0 (.int .u32 0) 1 Try.underlying25 hi hz0 hz1 _ _ _ _ n rfl rfl (by omega) (by omega) (by rw [hz2]; omega) (by unfold maxLen; omega) (Nat.le_refl _) ?_)
  intro w2 ho2 hg2
  have how := own_made ho2
  have hbel : Below w.heap.size w w2 := (Below.refl w.heap.size w).grown hg2 (Nat.le_refl _) (by intro k hk; simp at hk)
  obtain ⟨hq1, hq2, cur, hcur, hq3, hcs, hct⟩ := how.heap
  clear hq1 hq2 hq3 hct
  obtain ⟨L, hL⟩ : ∃ L : List Value, cur = L.toArray := ⟨cur.toList, by simp⟩
  subst hL
  have hLl : L.length = n := by simpa using hcs
  have HLL : Hid (L.length = n) := hLl
  have HCUR : Hid (w2.heap[w.heap.size]? = some (.cells L.toArray 39 (0, 0))) := hcur
  clear ho2 hg2 how hcur hcs hLl
  go_wp2_with (refine wpList_copy_splice rfl _ _ 25 25 rfl 39 Try.underlying25 Try.sizeU _ _ _ _ _ _ rfl rfl w.heap.size 0 L 39 HCUR.out (xs.map U) HL.out (fun hp => ⟨rfl, HC.out w2 hbel hp⟩) (by rw [HLL.out, List.length_map, HN.out]; omega) H1.out w.heap.size w hbel (Nat.le_refl _) ?_)
  intro w3 hh3 hb3
  have HO : Hid (Own w.heap.size 39 w3 (.slice (some ⟨w.heap.size, 0, none⟩) n n) xs) := by
    have h3 := hh3.out
    rw [splice_all (by rw [HLL.out, List.length_map, HN.out])] at h3
    refine ⟨hb, by rw [List.length_map]; omega, Or.inr ⟨w.heap.size, n, _, by rw [HN.out], Nat.le_refl _, h3, by rw [HN.out]; omega, by unfold maxLen; omega, by simp [HN.out], ?_⟩⟩
    rw [HN.out]
    exact List.take_of_length_le (by simp [HN.out])
  clear hh3 HCUR HC H1 HL hbel
  go_wp2
  go_ret
  exact ⟨_, rfl, HO.out, hb3⟩

theorem norm_any (v : Value) (xs : List Nat) (w : World) (h : Num w v xs) (hlen : xs.length ≤ 1099511627776) :
    Calls Try.prog 52 #[v] w fun e w' => Made' w.heap.size w (lim (val xs)) e w' := by
  go_enter Try.func52, Try.ntmps52
  go_wp2_with fail
  refine (trim_any _ _ _ h).mono ?_
  rintro e w1 ⟨⟨k, hk, hk2, rfl⟩, rfl⟩
  have nu := h.cut hk
  rw [hk2] at nu
  have hlx : (lim (val xs)).length ≤ 1099511627776 := by rw [← hk2, List.length_take]; omega
  clear h hk2
  go_wp2_with fail
  refine (fresh_any _ _ _ nu hlx).mono ?_
  rintro e w2 ⟨v2, rfl, ho, hb⟩
  clear nu hlx
  go_wp2
  go_ret
  exact ⟨_, rfl, ho, hb⟩
end Go.Proofs.Ytaekaikkldnikaa

namespace Go.Proofs.Ytaekaikkldnikaa
open Go.RowKit

def errZ (b : Nat) : Int := if b = 0 then 11 else 0
def modZ (a b : Nat) : Nat := if b = 0 then 0 else a % b
/-- What DivMod leaves. -/
def DivEnd (w : World) (a b : Nat) (e : Ending) (w' : World) : Prop :=
  ∃ q r, e = .returned (.tuple #[q, r, .int .i64 (errZ b)]) ∧ Own w.heap.size 39 w' q (lim (a / b)) ∧ Own w.heap.size 39 w' r (lim (modZ a b)) ∧ (q.ownBlock = none ∨ q.ownBlock ≠ r.ownBlock) ∧ Below w.heap.size w w'

theorem lim_len_zero {n : Nat} (h : (lim n).length = 0) : n = 0 := by
  rw [← val_lim n, List.length_eq_zero_iff.1 h]; rfl
theorem lim_len_one {n : Nat} (h : (lim n).length = 1) : n < 4294967296 ∧ n ≠ 0 ∧ lim n = [n] := by
  have h1 := lim_lt_of_len (n := n) (k := 1) (by omega)
  rw [Nat.pow_one] at h1
  have h0 : n ≠ 0 := by intro e; subst e; simp [lim_zero] at h
  refine ⟨h1, h0, ?_⟩
  rw [lim_pos h0, Nat.mod_eq_of_lt h1, Nat.div_eq_of_lt h1, lim_zero]

set_option maxRecDepth 100000 in
set_option maxHeartbeats 4000000 in
theorem divMod_any (u v : Value) (xs ys : List Nat) (w : World) (hu : Num w u xs) (hv : Num w v ys) (hbx : xs.length ≤ 274877906944) :
    Calls Try.prog 54 #[u, v] w fun e w' => DivEnd w (val xs) (val ys) e w' := by
  obtain ⟨ao, ac, rfl, hac, ham⟩ := hu.ao
  obtain ⟨bo, bc, rfl, hbc, hbm⟩ := hv.ao
  obtain ⟨a, ha⟩ : ∃ a, a = val xs := ⟨_, rfl⟩
  obtain ⟨b, hb⟩ : ∃ b, b = val ys := ⟨_, rfl⟩
  rw [← ha, ← hb]
  go_enter Try.func54, Try.ntmps54
  go_wp2_with fail
  refine (trim_any _ _ _ hu).mono ?_
  rintro e w1 ⟨⟨k, hk, hkt, rfl⟩, rfl⟩
  go_wp2_with fail
  refine (trim_any _ _ _ hv).mono ?_
  rintro e w2 ⟨⟨m, hm, hmt, rfl⟩, rfl⟩
  have na := hu.cut hk
  have nb := hv.cut hm
  rw [hkt, ← ha] at na
  rw [hmt, ← hb] at nb
  have hkl : (lim a).length = k := by rw [ha, ← hkt]; simp; omega
  have hml : (lim b).length = m := by rw [hb, ← hmt]; simp; omega
  simp only [cutTo] at na nb ⊢
  clear hkt hmt ha hb hu hv
  have HKL : Hid ((lim a).length = k) := hkl
  have HML : Hid ((lim b).length = m) := hml
  clear hkl hml
  by_cases hm0 : m = 0
  · subst hm0
    have hb0 := lim_len_zero HML.out
    have HE : Hid (DivEnd w2 a b (.returned (.tuple #[.slice none 0 0, .slice none 0 0, .int .i64 11])) w2) := by
      subst hb0
      exact ⟨_, _, rfl, by rw [Nat.div_zero]; exact Own.of_nil _ _ _, Own.of_nil _ _ _, Or.inl rfl, Below.refl _ _⟩
    clear na nb
    go_wp2_with fail
    go_ret3
    exact HE.out
  · have hm0' : ¬ (m : Int) = 0 := by omega
    have hbn : b ≠ 0 := by intro h; subst h; exact hm0 (by rw [← HML.out]; rfl)
    go_wp2_with fail
    refine (cmp_any _ _ _ _ _ na nb).mono ?_
    rw [val_lim, val_lim]
    rintro e w3 ⟨rfl, kq, hw3⟩
    replace na := na.same (w' := w3) (by rw [hw3, heap_drewN])
    replace nb := nb.same (w' := w3) (by rw [hw3, heap_drewN])
    have hbel3 : Below w2.heap.size w2 w3 := by rw [hw3]; exact below_drewN (Below.refl _ _) kq
    have hs3 : w3.heap.size = w2.heap.size := by rw [hw3, heap_drewN]
    clear hw3
    have HS3 : Hid (w3.heap.size = w2.heap.size) := hs3
    clear hs3
    have HEZ : Hid (errZ b = 0 ∧ modZ a b = a % b) := by unfold errZ modZ; rw [if_neg hbn, if_neg hbn]; exact ⟨rfl, rfl⟩
    by_cases hlt : a < b
    · rw [cmpN_lt hlt]
      go_wp2_with fail
      refine (fresh_any _ _ _ na (by rw [HKL.out]; omega)).mono ?_
      rintro e w4 ⟨r, rfl, hor, hb4⟩
      have HE : Hid (DivEnd w2 a b (.returned (.tuple #[.slice none 0 0, r, .int .i64 0])) w4) := by
        rw [HS3.out] at hor hb4
        refine ⟨_, _, by rw [HEZ.out.1], ?_, ?_, Or.inl rfl, hbel3.trans hb4⟩
        · rw [Nat.div_eq_of_lt hlt]; exact Own.of_nil _ _ _
        · rw [HEZ.out.2, Nat.mod_eq_of_lt hlt]; exact hor
      clear hor hb4 na nb
      go_wp2_with fail
      go_ret3
      exact HE.out
    · have hc : cmpN a b = 0 ∨ cmpN a b = 1 := by
        rcases cmpN_cases a b with h | h | h
        · exact absurd h.1 hlt
        · exact Or.inl h.2
        · exact Or.inr h.2
      obtain ⟨c, hcc⟩ : ∃ c, c = cmpN a b := ⟨_, rfl⟩
      rw [← hcc] at hc ⊢
      have hc0 : ¬ c < 0 := by omega
      clear hcc hc
      have ha0 : a ≠ 0 := by omega
      have hk0 : k ≠ 0 := by intro h; rw [h] at HKL; exact ha0 (lim_len_zero HKL.out)
      by_cases hm1 : m = 1
      · subst hm1
        obtain ⟨hb32, _, hbl⟩ := lim_len_one HML.out
        have hb1' : (0 : Int) < (b : Int) := by omega
        have hcell : ∃ bb off, bo = some ⟨bb, off, none⟩ ∧ w3.cell? ⟨bb, off + 0, none⟩ = some (.int .u32 (b : Int)) := by
          obtain ⟨_, ao', cap', e, _, _, _, h4⟩ := nb
          simp only [Value.slice.injEq] at e
          obtain ⟨rfl, _, rfl⟩ := e
          obtain ⟨bb, off, e1, e2⟩ := h4 0 (by rw [HML.out]; omega)
          rw [hbl] at e2
          exact ⟨bb, off, e1, e2⟩
        obtain ⟨bb, off, rfl, hc1⟩ := hcell
        rw [Nat.add_zero] at hc1
        go_wp2_with fail
        refine (fresh_any _ _ _ na (by rw [HKL.out]; omega)).mono ?_
        rintro e w4 ⟨r, rfl, hor, hb4⟩
        rw [HS3.out] at hor
        obtain ⟨g, cap, rfl, hcap, hcapm⟩ : ∃ g cap, r = .slice (some ⟨g, 0, none⟩) k cap ∧ k ≤ cap ∧ cap ≤ 9223372036854775807 := by
          rcases hor.shape with ⟨_, h⟩ | ⟨g, cap, h1, h2, h3⟩
          · exact absurd (by rw [← HKL.out, h]; rfl) hk0
          · rw [HKL.out] at h1 h2; exact ⟨g, cap, h1, h2, h3⟩
        have hc2 : w4.cell? ⟨bb, off, none⟩ = some (.int .u32 (b : Int)) := by rw [hb4.cell (p := ⟨bb, off, none⟩) (block_lt_of_cell hc1)]; exact hc1
        have hbel4 : Below w2.heap.size w2 w4 := hbel3.trans (by rw [← HS3.out]; exact hb4)
        clear hc1 na nb hbel3 hb4
        go_wp2_with fail
        refine (divideBy_any (lim a) w2.heap.size g k cap (b : Int) w4 hor HKL.out hcap hcapm hb1' (by omega)).mono ?_
        rintro e w5 ⟨ys', rfl, hyl, hoy, hvy, hg5⟩
        rw [Int.toNat_natCast, val_lim] at hvy ⊢
        rw [HKL.out] at hyl hoy
        have hbel5 : Below w2.heap.size w2 w5 := hbel4.grown hg5 hbel4.size (by intro x hx; rw [Option.some.injEq] at hx; rw [← hx]; exact hoy.heap.1)
        have hr32 : a % b < 4294967296 := by have := Nat.mod_lt a (show 0 < b by omega); omega
        obtain ⟨r, hr⟩ : ∃ r, r = a % b := ⟨_, rfl⟩
        rw [← hr] at hr32 ⊢
        have HR : Hid (r = a % b) := hr
        clear hr hc2 hbel4 hg5 hor
        go_wp2_with fail
        refine (trim_any _ _ _ hoy.num).mono ?_
        rintro e w6 ⟨⟨q, hq, hqt, rfl⟩, rfl⟩
        have hoq := hoy.cut hq
        rw [hqt, hvy] at hoq
        go_wp2_with fail
        refine (of_any r _ (by omega)).mono ?_
        rintro e w7 ⟨rv, rfl, hrv, hb7⟩
        have HE : Hid (DivEnd w2 a b (.returned (.tuple #[cutTo (.slice (some ⟨g, 0, none⟩) k cap) q, rv, .int .i64 0])) w7) := by
          refine ⟨_, _, by rw [HEZ.out.1], hoq.below hb7, ?_, apart_later hoq hrv (Nat.le_refl _), hbel5.trans (hb7.mono hbel5.size)⟩
          rw [HEZ.out.2, ← HR.out]; exact hrv.mono hbel5.size
        clear hoq hrv hb7 hbel5 hoy hq hqt hvy
        go_wp2_with fail
        go_ret3
        exact HE.out
      · have hm1' : ¬ (m : Int) = 1 := by omega
        obtain ⟨n, rfl⟩ : ∃ n, m = n + 2 := ⟨m - 2, by omega⟩
        have hkm : n + 2 ≤ k := by
          have := lim_len_of_lt (a := b) (b := a) (by omega)
          rw [HKL.out, HML.out] at this; exact this
        have htop : (lim b).getD (n + 1) 0 ≠ 0 := by
          obtain ⟨q, t, h1, h2, h3, _⟩ := lim_last hbn
          have : q = n + 1 := by have := HML.out; omega
          rw [← this, h2]; exact h3
        have hdl := divideLong_any ao bo ac bc n k (lim a) (lim b) w3 na nb HKL.out HML.out (by omega) hkm htop
        rw [val_lim, val_lim] at hdl
        have HDL : Hid (Calls Try.prog 65 #[.slice ao k ac, .slice bo (n + 2) bc] w3 fun e w' => LongEnd w3 a b e w') := hdl
        clear hdl na nb htop
        go_wp2_with fail
        refine HDL.out.mono ?_
        rintro e w4 ⟨q, r, rfl, hoq, hor, hap, hb4⟩
        have HE : Hid (DivEnd w2 a b (.returned (.tuple #[q, r, .int .i64 0])) w4) := by
          rw [HS3.out] at hoq hor hb4
          refine ⟨_, _, by rw [HEZ.out.1], hoq, ?_, hap, hbel3.trans hb4⟩
          rw [HEZ.out.2]; exact hor
        clear hoq hor hap hb4 hbel3 HDL
        go_wp2_with fail
        go_ret3
        exact HE.out
end Go.Proofs.Ytaekaikkldnikaa

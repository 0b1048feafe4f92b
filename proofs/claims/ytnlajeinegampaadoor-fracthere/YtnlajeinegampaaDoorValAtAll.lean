/-
  Proved here: what fresh and Norm answer.
  Proved here: a number that is read in a world is one number.
-/
import Derived.Test.YtnlajeinegampaaDoorMulMathAll
import Derived.Laws.CopyOwn
import Derived.Test.YtnlajeinegampaaDoorPushAll
namespace Go.Proofs.YtnlajeinegampaaDoor
open Go.RowKit

theorem lim_len_of_lt {a b : Nat} (h : a ≤ b) : (lim a).length ≤ (lim b).length := lim_len_le (Nat.lt_of_le_of_lt h (lim_lt_of_len (Nat.le_refl _)))
theorem Tryd.sizeU : (Tryd.prog.info? 77).map (·.size) = some 1 := by kernel_rfl
theorem splice_all {L cs : List Value} (h : cs.length = L.length) : splice L 0 cs = cs := by
  simp only [splice, List.take_zero, List.nil_append, Nat.zero_add]
  rw [List.drop_of_length_le (by omega), List.append_nil]

set_option maxRecDepth 100000 in
set_option maxHeartbeats 800000 in
theorem fresh_any (v : Value) (xs : List Nat) (w : World) (h : Num w v xs) (hlen : xs.length ≤ 1099511627776) :
    Calls Tryd.prog 60 #[v] w fun e w' => Made' w.heap.size w xs e w' := by
  obtain ⟨hb, ao, cap, rfl, hc, hm, hnil, hcell⟩ := h.open_
  obtain ⟨n, hn⟩ : ∃ n, xs.length = n := ⟨_, rfl⟩
  rw [hn] at hc hlen h ⊢
  have HN : Hid (xs.length = n) := hn
  obtain ⟨i0, hi, hz0, hz1, hz2⟩ := info_parts Tryd.infoU
  have HC : Hid (∀ w2, Below w.heap.size w w2 → 0 < (xs.map U).length → ∃ ad, ao = some ad ∧ ∀ j u, (xs.map U)[j]? = some u → w2.cell? (ad.add j) = some u) := by
    intro w2 hb2 hp
    obtain ⟨b, off, rfl, _⟩ := hcell 0 (by simpa using hp)
    refine ⟨⟨b, off, none⟩, rfl, fun j u hj => ?_⟩
    rw [List.getElem?_map] at hj
    obtain ⟨y, hy, rfl⟩ := Option.map_eq_some_iff.1 hj
    obtain ⟨hjk, hy⟩ := List.getElem?_eq_some_iff.1 hy
    obtain ⟨b', off', he, hc'⟩ := hcell j (by omega)
    simp only [Option.some.injEq, Addr.mk.injEq] at he
    obtain ⟨rfl, rfl, _⟩ := he
    subst hy
    rw [Addr.add_lit, hb2.cell (p := ⟨b, off + j, none⟩) (block_lt_of_cell hc'), hc', List.getD_eq_getElem?_getD, List.getElem?_eq_getElem (by omega)]
    rfl
  have HL : Hid ((xs.map U).length = Nat.min n n) := by show _ = _; rw [List.length_map, HN.out]; simp
  have H1 : Hid (∀ u ∈ xs.map U, u.oneCell' = true) := by intro u hu; obtain ⟨y, _, rfl⟩ := List.mem_map.1 hu; rfl
  clear hcell hnil hn h
  go_enter Tryd.func60, Tryd.ntmps60
  go_wp2_with (at_make; refine wpList_make_full _ rfl _ _ 23 rfl w.heap.size 77 i0 (.int .u32 0) 1 Tryd.underlying23 hi hz0 hz1 _ _ _ _ n rfl rfl (by omega) (by omega) (by rw [hz2]; omega) (by unfold maxLen; omega) (Nat.le_refl _) ?_)
  intro w2 ho2 hg2
  have how := own_made ho2
  have hbel : Below w.heap.size w w2 := (Below.refl w.heap.size w).grown hg2 (Nat.le_refl _) (by intro k hk; simp at hk)
  obtain ⟨hq1, hq2, cur, hcur, hq3, hcs, hct⟩ := how.heap
  clear hq1 hq2 hq3 hct
  obtain ⟨L, hL⟩ : ∃ L : List Value, cur = L.toArray := ⟨cur.toList, by simp⟩
  subst hL
  have hLl : L.length = n := by simpa using hcs
  have HLL : Hid (L.length = n) := hLl
  have HCUR : Hid (w2.heap[w.heap.size]? = some (.cells L.toArray 77 (0, 0))) := hcur
  clear ho2 hg2 how hcur hcs hLl
  go_wp2_with (refine wpList_copy_splice rfl _ _ 23 23 rfl 77 Tryd.underlying23 Tryd.sizeU _ _ _ _ _ _ rfl rfl w.heap.size 0 L 77 HCUR.out (xs.map U) HL.out (fun hp => ⟨rfl, HC.out w2 hbel hp⟩) (by rw [HLL.out, List.length_map, HN.out]; omega) H1.out w.heap.size w hbel (Nat.le_refl _) ?_)
  intro w3 hh3 hb3
  have HO : Hid (Own w.heap.size 77 w3 (.slice (some ⟨w.heap.size, 0, none⟩) n n) xs) := by
    have h3 := hh3.out
    rw [splice_all (by rw [HLL.out, List.length_map, HN.out])] at h3
    refine ⟨hb, by rw [List.length_map]; omega, Or.inr ⟨w.heap.size, n, _, by rw [HN.out], Nat.le_refl _, h3, by rw [HN.out]; omega, by unfold maxLen; omega, by simp [HN.out], ?_⟩⟩
    rw [HN.out]
    exact List.take_of_length_le (by simp [HN.out])
  clear hh3 HCUR HC H1 HL hbel
  go_wp2
  go_ret
  exact ⟨_, rfl, HO.out, hb3⟩

theorem norm_any (v : Value) (xs : List Nat) (w : World) (h : Num w v xs) (hlen : xs.length ≤ 1099511627776) :
    Calls Tryd.prog 42 #[v] w fun e w' => Made' w.heap.size w (lim (val xs)) e w' := by
  go_enter Tryd.func42, Tryd.ntmps42
  go_wp2_with fail
  refine (trim_any _ _ _ h).mono ?_
  rintro e w1 ⟨⟨k, hk, hk2, rfl⟩, rfl⟩
  have nu := h.cut hk
  rw [hk2] at nu
  have hlx : (lim (val xs)).length ≤ 1099511627776 := by rw [← hk2, List.length_take]; omega
  clear h hk2
  go_wp2_with fail
  refine (fresh_any _ _ _ nu hlx).mono ?_
  rintro e w2 ⟨v2, rfl, ho, hb⟩
  clear nu hlx
  go_wp2
  go_ret
  exact ⟨_, rfl, ho, hb⟩
end Go.Proofs.YtnlajeinegampaaDoor

namespace Go.Proofs.YtnlajeinegampaaDoor
open Go.RowKit

theorem Num.unique {w : World} {v : Value} {xs ys : List Nat} (h : Num w v xs) (g : Num w v ys) : xs = ys := by
  obtain ⟨_, ao, cap, e, _, _, _, h4⟩ := h
  obtain ⟨_, ao', cap', e', _, _, _, g4⟩ := g
  rw [e] at e'
  simp only [Value.slice.injEq] at e'
  obtain ⟨rfl, hl, rfl⟩ := e'
  apply List.ext_getElem hl
  intro j h1 h2
  obtain ⟨b, off, e1, c1⟩ := h4 j h1
  obtain ⟨b', off', e2, c2⟩ := g4 j h2
  rw [e1] at e2
  simp only [Option.some.injEq, Addr.mk.injEq, and_true] at e2
  obtain ⟨rfl, rfl⟩ := e2
  rw [c1] at c2
  simp only [U, Option.some.injEq, Value.int.injEq, true_and] at c2
  rw [List.getD_eq_getElem?_getD, List.getElem?_eq_getElem h1, List.getD_eq_getElem?_getD, List.getElem?_eq_getElem h2] at c2
  simp at c2; omega
open Classical in
/-- The number that a value says in a world; 0 where it says none. -/
noncomputable def valAt (w : World) (v : Value) : Nat := if h : ∃ xs, Num w v xs then val (Classical.choose h) else 0
theorem valAt_eq {w : World} {v : Value} {xs : List Nat} (h : Num w v xs) : valAt w v = val xs := by
  have hx : ∃ xs, Num w v xs := ⟨xs, h⟩
  unfold valAt
  rw [dif_pos hx]
  congr 1
  exact (Classical.choose_spec hx).unique h
end Go.Proofs.YtnlajeinegampaaDoor

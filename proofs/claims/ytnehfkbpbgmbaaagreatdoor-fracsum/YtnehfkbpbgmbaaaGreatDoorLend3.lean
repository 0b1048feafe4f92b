/-
  Proved here: credenceref03's limbs and stands: a list that is lent, with marked room behind; what was lent stands as it did.
-/
import Derived.Test.YtnehfkbpbgmbaaaGreatDoorAllAll
import Derived.Test.YtnehfkbpbgmbaaaGreatDoorOwn3
namespace Go.Proofs.YtnehfkbpbgmbaaaGreatDoor
open Go.RowKit

/-- A number with five marked limbs behind it. -/
def RoomL (B : Nat) (w : World) (v : Value) (xs : List Nat) : Prop :=
  ∃ u, v = cutTo u xs.length ∧ Own B 67 w u (xs ++ List.replicate 5 7000)
theorem RoomL.own {B : Nat} {w : World} {v : Value} {xs : List Nat} (h : RoomL B w v xs) : Own B 67 w v xs := by
  obtain ⟨u, rfl, ho⟩ := h
  have := ho.cut (k := xs.length) (by simp)
  rwa [List.take_left] at this
theorem RoomL.shape {B : Nat} {w : World} {v : Value} {xs : List Nat} (h : RoomL B w v xs) : ∃ g cap, v = .slice (some ⟨g, 0, none⟩) xs.length cap ∧ xs.length + 5 ≤ cap ∧ cap ≤ 9223372036854775807 ∧ Own B 67 w (.slice (some ⟨g, 0, none⟩) (xs.length + 5) cap) (xs ++ List.replicate 5 7000) := by
  obtain ⟨u, rfl, ho⟩ := h
  rcases ho.shape with ⟨_, h0⟩ | ⟨g, cap, rfl, h1, h2⟩
  · simp at h0
  · simp only [List.length_append, List.length_replicate] at h1 ho ⊢
    exact ⟨g, cap, rfl, h1, h2, ho⟩
theorem RoomL.below {B : Nat} {w w' : World} {v : Value} {xs : List Nat} (h : RoomL B w v xs) (hb : Below w.heap.size w w') : RoomL B w' v xs := by
  obtain ⟨u, e, ho⟩ := h
  exact ⟨u, e, ho.below hb⟩
theorem RoomL.same {B : Nat} {w w' : World} {v : Value} {xs : List Nat} (h : RoomL B w v xs) (hb : w'.heap = w.heap) : RoomL B w' v xs := by
  obtain ⟨u, e, ho⟩ := h
  exact ⟨u, e, ho.same hb⟩
theorem RoomL.mono {B B' : Nat} {w : World} {v : Value} {xs : List Nat} (h : RoomL B w v xs) (hb : B' ≤ B) : RoomL B' w v xs := by
  obtain ⟨u, e, ho⟩ := h
  exact ⟨u, e, ho.mono hb⟩

theorem room_stepL {B k : Nat} {w w' wr : World} {v v' : Value} {xs : List Nat} {o : Obj} (hv : Own B 67 wr v (xs ++ List.replicate k 7000)) (hbel : Below B w wr) (hB : B ≤ wr.heap.size)
    (ho : w'.ownsRow B 67 1 v' (xs.length + k + 1) ((xs ++ List.replicate k 7000).map U ++ [.int .u32 7000])) (hg : (wr.alloc o).grownBy w' v.ownBlock) :
    Own B 67 w' v' (xs ++ List.replicate (k + 1) 7000) ∧ Below B w w' ∧ B ≤ w'.heap.size := by
  have hsz : (wr.alloc o).heap.size = wr.heap.size + 1 := by simp
  have hbel2 : Below B (wr.alloc o) w' := below_of_grown hg (by omega) (fun g e => (hv.block g e).1)
  refine ⟨⟨?_, ?_⟩, (hbel.alloc hB o).trans hbel2, by have := hbel2.size; omega⟩
  · intro x hx
    rcases List.mem_append.1 hx with h | h
    · exact hv.1 x (List.mem_append_left _ h)
    · have := List.eq_of_mem_replicate h; omega
  · rw [List.length_append, List.length_replicate, List.replicate_succ', ← List.append_assoc, List.map_append]
    exact ho

set_option maxHeartbeats 800000 in
theorem limbs3_any (v : Value) (xs : List Nat) (w : World) (h : Num w v xs) (hlen : xs.length ≤ 1099511627776) :
    Calls Tryz.prog 41 #[v] w fun e w' => ∃ u, e = .returned u ∧ RoomL w.heap.size w' u xs ∧ Below w.heap.size w w' := by
  obtain ⟨hb, ao, cap, rfl, hc, hm, hnil, hcell⟩ := h.open_
  clear h
  obtain ⟨n, hn⟩ : ∃ n, xs.length = n := ⟨_, rfl⟩
  rw [hn] at hc hlen ⊢
  have HN : Hid (xs.length = n) := hn
  clear hn
  obtain ⟨i0, hi, hz0, hz1, hz2⟩ := info_parts Tryz.infoU3
  by_cases hn0 : 0 < n
  · obtain ⟨b, off, rfl, _⟩ := hcell 0 (by rw [HN.out]; exact hn0)
    have HC : Hid (∀ j u, (xs.map U)[j]? = some u → w.cell? ((⟨b, off, none⟩ : Addr).add j) = some u) := by
      intro j u hj
      rw [List.getElem?_map] at hj
      obtain ⟨y, hy, rfl⟩ := Option.map_eq_some_iff.1 hj
      obtain ⟨hjk, hy⟩ := List.getElem?_eq_some_iff.1 hy
      obtain ⟨b', off', he, hc'⟩ := hcell j (by omega)
      simp only [Option.some.injEq, Addr.mk.injEq] at he
      obtain ⟨rfl, rfl, _⟩ := he
      subst hy
      rw [Addr.add_lit]
      rw [hc', List.getD_eq_getElem?_getD, List.getElem?_eq_getElem (by omega)]
      rfl
    have HL : Hid ((xs.map U).length = n * 1) := by show _ = _; rw [List.length_map, HN.out]; omega
    have H1 : Hid (∀ u ∈ xs.map U, u.oneCell' = true) := by intro u hu; obtain ⟨y, _, rfl⟩ := List.mem_map.1 hu; rfl
    clear hcell hnil
    go_enter Tryz.func41, Tryz.ntmps41
    go_wp2_with (at_builtin; refine wpList_append_own _ rfl _ _ 23 rfl w.heap.size 67 i0 (.int .u32 0) 1 4 Tryz.underlying23 hi hz0 hz1 hz2 rfl (by decide) _ _ _ rfl (World.ownsRow_nil _ _ _ _) ⟨b, off, none⟩ n cap (xs.map U) rfl HL.out HC.out H1.out (by unfold maxLen; omega) (by omega) (Nat.le_refl _) ?_)
    intro v1 w1 hown hgr _
    have how : Own w.heap.size 67 w1 v1 (xs ++ List.replicate 0 7000) := ⟨by simpa using hb, by simp only [List.replicate_zero, List.append_nil]; rw [HN.out]; simpa using hown⟩
    have hbel : Below w.heap.size w w1 := (Below.refl w.heap.size w).grown hgr (Nat.le_refl _) (by intro k hk; simp [Value.ownBlock] at hk)
    have hB1 : w.heap.size ≤ w1.heap.size := hbel.size
    clear hown hgr HC
    go_wp2
    go_loopw [3, 4] (fun l t wr => ∃ k : Nat, k ≤ 5 ∧ t = .int .i64 k ∧ Own w.heap.size 67 wr l (xs ++ List.replicate k 7000) ∧ Below w.heap.size w wr ∧ w.heap.size ≤ wr.heap.size) (fun _ t _ => 5 - (intOf t).toNat)
    case atStart => exact ⟨0, by omega, rfl, how, hbel, hB1⟩
    case round =>
      clear how hbel hB1
      obtain ⟨k, hk, rfl, how, hbel, hB1⟩ := hrel
      by_cases hk5 : k < 5
      · have hlt : (k : Int) < 5 := by omega
        have hvo : wr.ownsRow w.heap.size 67 1 u3 (n + k) ((xs ++ List.replicate k 7000).map U) := by have := how.2; rw [List.length_append, List.length_replicate, HN.out] at this; exact this
        have hB3 : w.heap.size ≤ (wr.alloc (.cells #[.int .u32 7000] 67)).heap.size := by simp; omega
        have HO : Hid (wr.ownsRow w.heap.size 67 1 u3 (n + k) ((xs ++ List.replicate k 7000).map U)) := hvo
        clear hvo
        go_wp2_with (at_builtin; refine wpList_push _ rfl _ _ 23 rfl w.heap.size 67 i0 (.int .u32 0) 4 Tryz.underlying23 hi hz0 hz1 hz2 rfl _ (n + k) ((xs ++ List.replicate k 7000).map U) rfl (HO.out.alloc _) ⟨wr.heap.size, 0, none⟩ 1 1 [.int .u32 7000] rfl rfl (cell_one_new _ _ _) (fun u hu => by simp at hu; subst hu; rfl) (by decide) (by unfold maxLen; omega) (by omega) hB3 ?_)
        intro v' w1 ho hgr _ _
        have R := room_stepL how hbel hB1 (by rw [HN.out]; simpa using ho) hgr
        clear ho hgr how hbel hB1 HO
        go_wp2
        go_roundw
        case rel => exact ⟨k + 1, by omega, by go_num, R⟩
        case measure => simp [intOf]; omega
      · have hlt : ¬ (k : Int) < 5 := by omega
        have hk5' : k = 5 := by omega
        rw [hk5'] at how
        have HK : Hid (k = 5) := hk5'
        clear hk5'
        obtain ⟨ao3, cap3, e3, h3, h4, h5⟩ := how.ao
        obtain ⟨g, rfl⟩ := h3 (by simp)
        rw [List.length_append, List.length_replicate, HN.out] at e3 h4
        have HR : Hid (RoomL w.heap.size wr (.slice (some ⟨g, 0, none⟩) n cap3) xs) := ⟨_, by rw [e3, HN.out]; rfl, how⟩
        subst e3
        clear how
        go_wp2
        go_ret
        exact ⟨_, rfl, HR.out, hbel⟩
  · have hn0' : n = 0 := by omega
    subst hn0'
    have hx : xs = [] := List.eq_nil_of_length_eq_zero HN.out
    subst hx
    have how : Own w.heap.size 67 w (.slice none 0 0) (([] : List Nat) ++ List.replicate 0 7000) := by simpa using Own.of_nil _ _ _
    have hbel : Below w.heap.size w w := Below.refl _ _
    have hB1 : w.heap.size ≤ w.heap.size := Nat.le_refl _
    clear hcell
    rcases ao with _ | a
    · have := hnil rfl
      subst this
      clear hnil
      go_enter Tryz.func41, Tryz.ntmps41
      go_wp2
      go_loopw [3, 4] (fun l t wr => ∃ k : Nat, k ≤ 5 ∧ t = .int .i64 k ∧ Own w.heap.size 67 wr l (([] : List Nat) ++ List.replicate k 7000) ∧ Below w.heap.size w wr ∧ w.heap.size ≤ wr.heap.size) (fun _ t _ => 5 - (intOf t).toNat)
      case atStart => exact ⟨0, by omega, rfl, how, hbel, hB1⟩
      case round =>
        clear how hbel hB1
        obtain ⟨k, hk, rfl, how, hbel, hB1⟩ := hrel
        by_cases hk5 : k < 5
        · have hlt : (k : Int) < 5 := by omega
          have hB3 : w.heap.size ≤ (wr.alloc (.cells #[.int .u32 7000] 67)).heap.size := by simp; omega
          have HO : Hid (wr.ownsRow w.heap.size 67 1 u3 k ((List.replicate k 7000).map U)) := by have := how.2; simpa [Hid] using this
          go_wp2_with (at_builtin; refine wpList_push _ rfl _ _ 23 rfl w.heap.size 67 i0 (.int .u32 0) 4 Tryz.underlying23 hi hz0 hz1 hz2 rfl _ k ((List.replicate k 7000).map U) rfl (HO.out.alloc _) ⟨wr.heap.size, 0, none⟩ 1 1 [.int .u32 7000] rfl rfl (cell_one_new _ _ _) (fun u hu => by simp at hu; subst hu; rfl) (by decide) (by unfold maxLen; omega) (by omega) hB3 ?_)
          intro v' w1 ho hgr _ _
          have R := room_stepL how hbel hB1 (by simpa using ho) hgr
          clear ho hgr how hbel hB1 HO
          go_wp2
          go_roundw
          case rel => exact ⟨k + 1, by omega, by go_num, R⟩
          case measure => simp [intOf]; omega
        · have hlt : ¬ (k : Int) < 5 := by omega
          have hk5' : k = 5 := by omega
          rw [hk5'] at how
          have HK : Hid (k = 5) := hk5'
          clear hk5'
          obtain ⟨ao3, cap3, e3, h3, h4, h5⟩ := how.ao
          obtain ⟨g, rfl⟩ := h3 (by simp)
          simp only [List.nil_append, List.length_replicate] at e3 h4
          have HR : Hid (RoomL w.heap.size wr (.slice (some ⟨g, 0, none⟩) 0 cap3) ([] : List Nat)) := ⟨_, by rw [e3]; rfl, how⟩
          subst e3
          clear how
          go_wp2
          go_ret
          exact ⟨_, rfl, HR.out, hbel⟩
    · clear hnil
      obtain ⟨b, off, spot⟩ := a
      go_enter Tryz.func41, Tryz.ntmps41
      go_wp2
      go_loopw [3, 4] (fun l t wr => ∃ k : Nat, k ≤ 5 ∧ t = .int .i64 k ∧ Own w.heap.size 67 wr l (([] : List Nat) ++ List.replicate k 7000) ∧ Below w.heap.size w wr ∧ w.heap.size ≤ wr.heap.size) (fun _ t _ => 5 - (intOf t).toNat)
      case atStart => exact ⟨0, by omega, rfl, how, hbel, hB1⟩
      case round =>
        clear how hbel hB1
        obtain ⟨k, hk, rfl, how, hbel, hB1⟩ := hrel
        by_cases hk5 : k < 5
        · have hlt : (k : Int) < 5 := by omega
          have hB3 : w.heap.size ≤ (wr.alloc (.cells #[.int .u32 7000] 67)).heap.size := by simp; omega
          have HO : Hid (wr.ownsRow w.heap.size 67 1 u3 k ((List.replicate k 7000).map U)) := by have := how.2; simpa [Hid] using this
          go_wp2_with (at_builtin; refine wpList_push _ rfl _ _ 23 rfl w.heap.size 67 i0 (.int .u32 0) 4 Tryz.underlying23 hi hz0 hz1 hz2 rfl _ k ((List.replicate k 7000).map U) rfl (HO.out.alloc _) ⟨wr.heap.size, 0, none⟩ 1 1 [.int .u32 7000] rfl rfl (cell_one_new _ _ _) (fun u hu => by simp at hu; subst hu; rfl) (by decide) (by unfold maxLen; omega) (by omega) hB3 ?_)
          intro v' w1 ho hgr _ _
          have R := room_stepL how hbel hB1 (by simpa using ho) hgr
          clear ho hgr how hbel hB1 HO
          go_wp2
          go_roundw
          case rel => exact ⟨k + 1, by omega, by go_num, R⟩
          case measure => simp [intOf]; omega
        · have hlt : ¬ (k : Int) < 5 := by omega
          have hk5' : k = 5 := by omega
          rw [hk5'] at how
          have HK : Hid (k = 5) := hk5'
          clear hk5'
          obtain ⟨ao3, cap3, e3, h3, h4, h5⟩ := how.ao
          obtain ⟨g, rfl⟩ := h3 (by simp)
          simp only [List.nil_append, List.length_replicate] at e3 h4
          have HR : Hid (RoomL w.heap.size wr (.slice (some ⟨g, 0, none⟩) 0 cap3) ([] : List Nat)) := ⟨_, by rw [e3]; rfl, how⟩
          subst e3
          clear how
          go_wp2
          go_ret
          exact ⟨_, rfl, HR.out, hbel⟩

theorem roomL_full {xs : List Nat} {j : Nat} (h : j < xs.length) : (xs ++ List.replicate 5 7000).getD j 0 = xs.getD j 0 := by
  rw [List.getD_eq_getElem?_getD, List.getD_eq_getElem?_getD, List.getElem?_append_left h]
theorem roomL_mark {xs : List Nat} {j : Nat} (h : xs.length ≤ j) (h2 : j < xs.length + 5) : (xs ++ List.replicate 5 7000).getD j 0 = 7000 := by
  rw [List.getD_eq_getElem?_getD, List.getElem?_append_right h, List.getElem?_replicate, if_pos (by omega)]; rfl

set_option maxRecDepth 100000 in
set_option maxHeartbeats 800000 in
theorem stands_yes (B : Nat) (u v : Value) (xs : List Nat) (w : World) (hr : RoomL B w u xs) (h : Num w v xs) (hlen : xs.length ≤ 1099511627776) :
    Calls Tryz.prog 67 #[u, v] w fun e w' => e = .returned (.bool true) ∧ ∃ q, w' = w.drewN q := by
  obtain ⟨g, capR, rfl, hg1, hg2, how⟩ := hr.shape
  obtain ⟨hb, ao, cap, rfl, hc, hm, hnil, hcell⟩ := h.open_
  clear h hr hnil
  obtain ⟨n, hn⟩ : ∃ n, xs.length = n := ⟨_, rfl⟩
  rw [hn] at hc hlen hg1 how ⊢
  have HN : Hid (xs.length = n) := hn
  clear hn
  have heq : ((n : Int) == (n : Int)) = true := by simp
  go_enter Tryz.func67, Tryz.ntmps67
  go_wp2
  go_loopw [6] (fun t wr => ∃ k : Nat, k ≤ n + 5 ∧ t = .int .i64 k ∧ ∃ q, wr = w.drewN q) (fun t _ => n + 5 - (intOf t).toNat)
  case atStart => exact ⟨0, Nat.zero_le _, rfl, 0, rfl⟩
  case round =>
    obtain ⟨k, hk, rfl, q, hq⟩ := hrel
    have HQ : Hid (wr = w.drewN q) := hq
    have hhp : wr.heap = w.heap := by rw [hq, heap_drewN]
    clear hq
    by_cases hk5 : k < n + 5
    · have c0 := (how.same hhp).cell (k := k) (by simp; rw [HN.out]; exact hk5)
      by_cases hkn : k < n
      · obtain ⟨b, off, rfl, hc1⟩ := hcell k (by rw [HN.out]; exact hkn)
        have c1 : wr.cell? ⟨b, off + k, none⟩ = some (.int .u32 ((xs.getD k 0 : Nat) : Int)) := by rw [← hc1]; exact World.cell?_of_block (by rw [hhp])
        rw [roomL_full (by rw [HN.out]; exact hkn)] at c0
        obtain ⟨x, hx⟩ : ∃ x, x = xs.getD k 0 := ⟨_, rfl⟩
        rw [← hx] at c0 c1
        obtain ⟨c0, _⟩ := c0
        clear hcell hx hhp how hc1
        have hlt : (k : Int) < (n : Int) := by omega
        have hlt5 : (k : Int) < (n : Int) + 5 := by omega
        have hne : ((x : Int) != (x : Int)) = false := by simp
        have hgd : decide (n ≤ k) = false := by simp; omega
        have hgt : decide (k < n) = true := by simp; omega
        go_wp2
        go_quiet (fail)
        go_wp2
        go_roundw
        case rel => exact ⟨k + 1, by omega, by go_num, _, by rw [HQ.out, World.drewN_drewN]⟩
        case measure => simp [intOf]; omega
      · rw [roomL_mark (by rw [HN.out]; omega) (by rw [HN.out]; exact hk5)] at c0
        obtain ⟨c0, _⟩ := c0
        clear hcell hhp how
        have hlt : ¬ (k : Int) < (n : Int) := by omega
        have hld : decide (k < n) = false := by simp; omega
        have hgd : decide (n ≤ k) = true := by simp; omega
        have hlt5 : (k : Int) < (n : Int) + 5 := by omega
        have hge : (n : Int) ≤ (k : Int) := by omega
        go_wp2
        go_quiet (fail)
        go_wp2
        go_roundw
        case rel => exact ⟨k + 1, by omega, by go_num, _, by rw [HQ.out, World.drewN_drewN]⟩
        case measure => simp [intOf]; omega
    · have hlt5 : ¬ (k : Int) < (n : Int) + 5 := by omega
      clear hcell hhp how
      go_wp2
      go_ret
      exact ⟨rfl, q, HQ.out⟩
end Go.Proofs.YtnehfkbpbgmbaaaGreatDoor

/-
  Proved here: credenceref03's limbs and stands: a list that is lent, with marked room behind; what was lent stands as it did.
  Proved here: what strings.Cut answers of a text and a stroke.
  Proved here: what Of and Text of package frac answer, and Parse of one text.
-/
import Derived.Test.YtfnafgjnimfmjaaGreatDoorAllAll
import Derived.Test.YtfnafgjnimfmjaaGreatDoorOwn3All
import Derived.Test.YtfnafgjnimfmjaaGreatDoorFracC
import Derived.Laws.Externs
namespace Go.Proofs.YtfnafgjnimfmjaaGreatDoor
open Go.RowKit

/-- A number with five marked limbs behind it. -/
def RoomL (B : Nat) (w : World) (v : Value) (xs : List Nat) : Prop :=
  ∃ u, v = cutTo u xs.length ∧ Own B 37 w u (xs ++ List.replicate 5 7000)
theorem RoomL.own {B : Nat} {w : World} {v : Value} {xs : List Nat} (h : RoomL B w v xs) : Own B 37 w v xs := by
  obtain ⟨u, rfl, ho⟩ := h
  have := ho.cut (k := xs.length) (by simp)
  rwa [List.take_left] at this
theorem RoomL.shape {B : Nat} {w : World} {v : Value} {xs : List Nat} (h : RoomL B w v xs) : ∃ g cap, v = .slice (some ⟨g, 0, none⟩) xs.length cap ∧ xs.length + 5 ≤ cap ∧ cap ≤ 9223372036854775807 ∧ Own B 37 w (.slice (some ⟨g, 0, none⟩) (xs.length + 5) cap) (xs ++ List.replicate 5 7000) := by
  obtain ⟨u, rfl, ho⟩ := h
  rcases ho.shape with ⟨_, h0⟩ | ⟨g, cap, rfl, h1, h2⟩
  · simp at h0
  · simp only [List.length_append, List.length_replicate] at h1 ho ⊢
    exact ⟨g, cap, rfl, h1, h2, ho⟩
theorem RoomL.below {B : Nat} {w w' : World} {v : Value} {xs : List Nat} (h : RoomL B w v xs) (hb : Below w.heap.size w w') : RoomL B w' v xs := by
  obtain ⟨u, e, ho⟩ := h
  exact ⟨u, e, ho.below hb⟩
theorem RoomL.mono {B B' : Nat} {w : World} {v : Value} {xs : List Nat} (h : RoomL B w v xs) (hb : B' ≤ B) : RoomL B' w v xs := by
  obtain ⟨u, e, ho⟩ := h
  exact ⟨u, e, ho.mono hb⟩

theorem room_stepL {B k : Nat} {w w' wr : World} {v v' : Value} {xs : List Nat} {o : Obj} (hv : Own B 37 wr v (xs ++ List.replicate k 7000)) (hbel : Below B w wr) (hB : B ≤ wr.heap.size)
    (ho : w'.ownsRow B 37 1 v' (xs.length + k + 1) ((xs ++ List.replicate k 7000).map U ++ [.int .u32 7000])) (hg : (wr.alloc o).grownBy w' v.ownBlock) :
    Own B 37 w' v' (xs ++ List.replicate (k + 1) 7000) ∧ Below B w w' ∧ B ≤ w'.heap.size := by
  have hsz : (wr.alloc o).heap.size = wr.heap.size + 1 := by simp
  have hbel2 : Below B (wr.alloc o) w' := below_of_grown hg (by omega) (fun g e => (hv.block g e).1)
  refine ⟨⟨?_, ?_⟩, (hbel.alloc hB o).trans hbel2, by have := hbel2.size; omega⟩
  · intro x hx
    rcases List.mem_append.1 hx with h | h
    · exact hv.1 x (List.mem_append_left _ h)
    · have := List.eq_of_mem_replicate h; omega
  · rw [List.length_append, List.length_replicate, List.replicate_succ', ← List.append_assoc, List.map_append]
    exact ho

set_option maxHeartbeats 800000 in
theorem limbs3_any (v : Value) (xs : List Nat) (w : World) (h : Num w v xs) (hlen : xs.length ≤ 1099511627776) :
    Calls Tryz.prog 23 #[v] w fun e w' => ∃ u, e = .returned u ∧ RoomL w.heap.size w' u xs ∧ Below w.heap.size w w' := by
  obtain ⟨hb, ao, cap, rfl, hc, hm, hnil, hcell⟩ := h.open_
  clear h
  obtain ⟨n, hn⟩ : ∃ n, xs.length = n := ⟨_, rfl⟩
  rw [hn] at hc hlen ⊢
  have HN : Hid (xs.length = n) := hn
  clear hn
  obtain ⟨i0, hi, hz0, hz1, hz2⟩ := info_parts Tryz.infoU3
  by_cases hn0 : 0 < n
  · obtain ⟨b, off, rfl, _⟩ := hcell 0 (by rw [HN.out]; exact hn0)
    have HC : Hid (∀ j u, (xs.map U)[j]? = some u → w.cell? ((⟨b, off, none⟩ : Addr).add j) = some u) := by
      intro j u hj
      rw [List.getElem?_map] at hj
      obtain ⟨y, hy, rfl⟩ := Option.map_eq_some_iff.1 hj
      obtain ⟨hjk, hy⟩ := List.getElem?_eq_some_iff.1 hy
      obtain ⟨b', off', he, hc'⟩ := hcell j (by omega)
      simp only [Option.some.injEq, Addr.mk.injEq] at he
      obtain ⟨rfl, rfl, _⟩ := he
      subst hy
      rw [Addr.add_lit]
      rw [hc', List.getD_eq_getElem?_getD, List.getElem?_eq_getElem (by omega)]
      rfl
    have HL : Hid ((xs.map U).length = n * 1) := by show _ = _; rw [List.length_map, HN.out]; omega
    have H1 : Hid (∀ u ∈ xs.map U, u.oneCell' = true) := by intro u hu; obtain ⟨y, _, rfl⟩ := List.mem_map.1 hu; rfl
    clear hcell hnil
    go_enter Tryz.func23, Tryz.ntmps23
    go_wp2_with (at_builtin; refine wpList_append_own _ rfl _ _ 23 rfl w.heap.size 37 i0 (.int .u32 0) 1 4 Tryz.underlying23 hi hz0 hz1 hz2 rfl (by decide) _ _ _ rfl (World.ownsRow_nil _ _ _ _) ⟨b, off, none⟩ n cap (xs.map U) rfl HL.out HC.out H1.out (by unfold maxLen; omega) (by omega) (Nat.le_refl _) ?_)
    intro v1 w1 hown hgr _
    have how : Own w.heap.size 37 w1 v1 (xs ++ List.replicate 0 7000) := ⟨by simpa using hb, by simp only [List.replicate_zero, List.append_nil]; rw [HN.out]; simpa using hown⟩
    have hbel : Below w.heap.size w w1 := (Below.refl w.heap.size w).grown hgr (Nat.le_refl _) (by intro k hk; simp [Value.ownBlock] at hk)
    have hB1 : w.heap.size ≤ w1.heap.size := hbel.size
    clear hown hgr HC
    go_wp2
    go_loopw [3, 4] (fun l t wr => ∃ k : Nat, k ≤ 5 ∧ t = .int .i64 k ∧ Own w.heap.size 37 wr l (xs ++ List.replicate k 7000) ∧ Below w.heap.size w wr ∧ w.heap.size ≤ wr.heap.size) (fun _ t _ => 5 - (intOf t).toNat)
    case atStart => exact ⟨0, by omega, rfl, how, hbel, hB1⟩
    case round =>
      clear how hbel hB1
      obtain ⟨k, hk, rfl, how, hbel, hB1⟩ := hrel
      by_cases hk5 : k < 5
      · have hlt : (k : Int) < 5 := by omega
        have hvo : wr.ownsRow w.heap.size 37 1 u3 (n + k) ((xs ++ List.replicate k 7000).map U) := by have := how.2; rw [List.length_append, List.length_replicate, HN.out] at this; exact this
        have hB3 : w.heap.size ≤ (wr.alloc (.cells #[.int .u32 7000] 37)).heap.size := by simp; omega
        have HO : Hid (wr.ownsRow w.heap.size 37 1 u3 (n + k) ((xs ++ List.replicate k 7000).map U)) := hvo
        clear hvo
        go_wp2_with (at_builtin; refine wpList_push _ rfl _ _ 23 rfl w.heap.size 37 i0 (.int .u32 0) 4 Tryz.underlying23 hi hz0 hz1 hz2 rfl _ (n + k) ((xs ++ List.replicate k 7000).map U) rfl (HO.out.alloc _) ⟨wr.heap.size, 0, none⟩ 1 1 [.int .u32 7000] rfl rfl (cell_one_new _ _ _) (fun u hu => by simp at hu; subst hu; rfl) (by decide) (by unfold maxLen; omega) (by omega) hB3 ?_)
        intro v' w1 ho hgr _ _
        have R := room_stepL how hbel hB1 (by rw [HN.out]; simpa using ho) hgr
        clear ho hgr how hbel hB1 HO
        go_wp2
        go_roundw
        case rel => exact ⟨k + 1, by omega, by go_num, R⟩
        case measure => simp [intOf]; omega
      · have hlt : ¬ (k : Int) < 5 := by omega
        have hk5' : k = 5 := by omega
        rw [hk5'] at how
        have HK : Hid (k = 5) := hk5'
        clear hk5'
        obtain ⟨ao3, cap3, e3, h3, h4, h5⟩ := how.ao
        obtain ⟨g, rfl⟩ := h3 (by simp)
        rw [List.length_append, List.length_replicate, HN.out] at e3 h4
        have HR : Hid (RoomL w.heap.size wr (.slice (some ⟨g, 0, none⟩) n cap3) xs) := ⟨_, by rw [e3, HN.out]; rfl, how⟩
        subst e3
        clear how
        go_wp2
        go_ret
        exact ⟨_, rfl, HR.out, hbel⟩
  · have hn0' : n = 0 := by omega
    subst hn0'
    have hx : xs = [] := List.eq_nil_of_length_eq_zero HN.out
    subst hx
    have how : Own w.heap.size 37 w (.slice none 0 0) (([] : List Nat) ++ List.replicate 0 7000) := by simpa using Own.of_nil _ _ _
    have hbel : Below w.heap.size w w := Below.refl _ _
    have hB1 : w.heap.size ≤ w.heap.size := Nat.le_refl _
    clear hcell
    rcases ao with _ | a
    · have := hnil rfl
      subst this
      clear hnil
      go_enter Tryz.func23, Tryz.ntmps23
      go_wp2
      go_loopw [3, 4] (fun l t wr => ∃ k : Nat, k ≤ 5 ∧ t = .int .i64 k ∧ Own w.heap.size 37 wr l (([] : List Nat) ++ List.replicate k 7000) ∧ Below w.heap.size w wr ∧ w.heap.size ≤ wr.heap.size) (fun _ t _ => 5 - (intOf t).toNat)
      case atStart => exact ⟨0, by omega, rfl, how, hbel, hB1⟩
      case round =>
        clear how hbel hB1
        obtain ⟨k, hk, rfl, how, hbel, hB1⟩ := hrel
        by_cases hk5 : k < 5
        · have hlt : (k : Int) < 5 := by omega
          have hB3 : w.heap.size ≤ (wr.alloc (.cells #[.int .u32 7000] 37)).heap.size := by simp; omega
          have HO : Hid (wr.ownsRow w.heap.size 37 1 u3 k ((List.replicate k 7000).map U)) := by have := how.2; simpa [Hid] using this
          go_wp2_with (at_builtin; refine wpList_push _ rfl _ _ 23 rfl w.heap.size 37 i0 (.int .u32 0) 4 Tryz.underlying23 hi hz0 hz1 hz2 rfl _ k ((List.replicate k 7000).map U) rfl (HO.out.alloc _) ⟨wr.heap.size, 0, none⟩ 1 1 [.int .u32 7000] rfl rfl (cell_one_new _ _ _) (fun u hu => by simp at hu; subst hu; rfl) (by decide) (by unfold maxLen; omega) (by omega) hB3 ?_)
          intro v' w1 ho hgr _ _
          have R := room_stepL how hbel hB1 (by simpa using ho) hgr
          clear ho hgr how hbel hB1 HO
          go_wp2
          go_roundw
          case rel => exact ⟨k + 1, by omega, by go_num, R⟩
          case measure => simp [intOf]; omega
        · have hlt : ¬ (k : Int) < 5 := by omega
          have hk5' : k = 5 := by omega
          rw [hk5'] at how
          have HK : Hid (k = 5) := hk5'
          clear hk5'
          obtain ⟨ao3, cap3, e3, h3, h4, h5⟩ := how.ao
          obtain ⟨g, rfl⟩ := h3 (by simp)
          simp only [List.nil_append, List.length_replicate] at e3 h4
          have HR : Hid (RoomL w.heap.size wr (.slice (some ⟨g, 0, none⟩) 0 cap3) ([] : List Nat)) := ⟨_, by rw [e3]; rfl, how⟩
          subst e3
          clear how
          go_wp2
          go_ret
          exact ⟨_, rfl, HR.out, hbel⟩
    · clear hnil
      obtain ⟨b, off, spot⟩ := a
      go_enter Tryz.func23, Tryz.ntmps23
      go_wp2
      go_loopw [3, 4] (fun l t wr => ∃ k : Nat, k ≤ 5 ∧ t = .int .i64 k ∧ Own w.heap.size 37 wr l (([] : List Nat) ++ List.replicate k 7000) ∧ Below w.heap.size w wr ∧ w.heap.size ≤ wr.heap.size) (fun _ t _ => 5 - (intOf t).toNat)
      case atStart => exact ⟨0, by omega, rfl, how, hbel, hB1⟩
      case round =>
        clear how hbel hB1
        obtain ⟨k, hk, rfl, how, hbel, hB1⟩ := hrel
        by_cases hk5 : k < 5
        · have hlt : (k : Int) < 5 := by omega
          have hB3 : w.heap.size ≤ (wr.alloc (.cells #[.int .u32 7000] 37)).heap.size := by simp; omega
          have HO : Hid (wr.ownsRow w.heap.size 37 1 u3 k ((List.replicate k 7000).map U)) := by have := how.2; simpa [Hid] using this
          go_wp2_with (at_builtin; refine wpList_push _ rfl _ _ 23 rfl w.heap.size 37 i0 (.int .u32 0) 4 Tryz.underlying23 hi hz0 hz1 hz2 rfl _ k ((List.replicate k 7000).map U) rfl (HO.out.alloc _) ⟨wr.heap.size, 0, none⟩ 1 1 [.int .u32 7000] rfl rfl (cell_one_new _ _ _) (fun u hu => by simp at hu; subst hu; rfl) (by decide) (by unfold maxLen; omega) (by omega) hB3 ?_)
          intro v' w1 ho hgr _ _
          have R := room_stepL how hbel hB1 (by simpa using ho) hgr
          clear ho hgr how hbel hB1 HO
          go_wp2
          go_roundw
          case rel => exact ⟨k + 1, by omega, by go_num, R⟩
          case measure => simp [intOf]; omega
        · have hlt : ¬ (k : Int) < 5 := by omega
          have hk5' : k = 5 := by omega
          rw [hk5'] at how
          have HK : Hid (k = 5) := hk5'
          clear hk5'
          obtain ⟨ao3, cap3, e3, h3, h4, h5⟩ := how.ao
          obtain ⟨g, rfl⟩ := h3 (by simp)
          simp only [List.nil_append, List.length_replicate] at e3 h4
          have HR : Hid (RoomL w.heap.size wr (.slice (some ⟨g, 0, none⟩) 0 cap3) ([] : List Nat)) := ⟨_, by rw [e3]; rfl, how⟩
          subst e3
          clear how
          go_wp2
          go_ret
          exact ⟨_, rfl, HR.out, hbel⟩

theorem roomL_full {xs : List Nat} {j : Nat} (h : j < xs.length) : (xs ++ List.replicate 5 7000).getD j 0 = xs.getD j 0 := by
  rw [List.getD_eq_getElem?_getD, List.getD_eq_getElem?_getD, List.getElem?_append_left h]
theorem roomL_mark {xs : List Nat} {j : Nat} (h : xs.length ≤ j) (h2 : j < xs.length + 5) : (xs ++ List.replicate 5 7000).getD j 0 = 7000 := by
  rw [List.getD_eq_getElem?_getD, List.getElem?_append_right h, List.getElem?_replicate, if_pos (by omega)]; rfl

set_option maxRecDepth 100000 in
set_option maxHeartbeats 800000 in
theorem stands_yes (B : Nat) (u v : Value) (xs : List Nat) (w : World) (hr : RoomL B w u xs) (h : Num w v xs) (hlen : xs.length ≤ 1099511627776) :
    Calls Tryz.prog 36 #[u, v] w fun e w' => e = .returned (.bool true) ∧ ∃ q, w' = w.drewN q := by
  obtain ⟨g, capR, rfl, hg1, hg2, how⟩ := hr.shape
  obtain ⟨hb, ao, cap, rfl, hc, hm, hnil, hcell⟩ := h.open_
  clear h hr hnil
  obtain ⟨n, hn⟩ : ∃ n, xs.length = n := ⟨_, rfl⟩
  rw [hn] at hc hlen hg1 how ⊢
  have HN : Hid (xs.length = n) := hn
  clear hn
  have heq : ((n : Int) == (n : Int)) = true := by simp
  go_enter Tryz.func36, Tryz.ntmps36
  go_wp2
  go_loopw [6] (fun t wr => ∃ k : Nat, k ≤ n + 5 ∧ t = .int .i64 k ∧ ∃ q, wr = w.drewN q) (fun t _ => n + 5 - (intOf t).toNat)
  case atStart => exact ⟨0, Nat.zero_le _, rfl, 0, rfl⟩
  case round =>
    obtain ⟨k, hk, rfl, q, hq⟩ := hrel
    have HQ : Hid (wr = w.drewN q) := hq
    have hhp : wr.heap = w.heap := by rw [hq, heap_drewN]
    clear hq
    by_cases hk5 : k < n + 5
    · have c0 := (how.same hhp).cell (k := k) (by simp; rw [HN.out]; exact hk5)
      by_cases hkn : k < n
      · obtain ⟨b, off, rfl, hc1⟩ := hcell k (by rw [HN.out]; exact hkn)
        have c1 : wr.cell? ⟨b, off + k, none⟩ = some (.int .u32 ((xs.getD k 0 : Nat) : Int)) := by rw [← hc1]; exact World.cell?_of_block (by rw [hhp])
        rw [roomL_full (by rw [HN.out]; exact hkn)] at c0
        obtain ⟨x, hx⟩ : ∃ x, x = xs.getD k 0 := ⟨_, rfl⟩
        rw [← hx] at c0 c1
        obtain ⟨c0, _⟩ := c0
        clear hcell hx hhp how hc1
        have hlt : (k : Int) < (n : Int) := by omega
        have hlt5 : (k : Int) < (n : Int) + 5 := by omega
        have hne : ((x : Int) != (x : Int)) = false := by simp
        have hgd : decide (n ≤ k) = false := by simp; omega
        have hgt : decide (k < n) = true := by simp; omega
        go_wp2
        go_quiet (fail)
        go_wp2
        go_roundw
        case rel => exact ⟨k + 1, by omega, by go_num, _, by rw [HQ.out, World.drewN_drewN]⟩
        case measure => simp [intOf]; omega
      · rw [roomL_mark (by rw [HN.out]; omega) (by rw [HN.out]; exact hk5)] at c0
        obtain ⟨c0, _⟩ := c0
        clear hcell hhp how
        have hlt : ¬ (k : Int) < (n : Int) := by omega
        have hld : decide (k < n) = false := by simp; omega
        have hgd : decide (n ≤ k) = true := by simp; omega
        have hlt5 : (k : Int) < (n : Int) + 5 := by omega
        have hge : (n : Int) ≤ (k : Int) := by omega
        go_wp2
        go_quiet (fail)
        go_wp2
        go_roundw
        case rel => exact ⟨k + 1, by omega, by go_num, _, by rw [HQ.out, World.drewN_drewN]⟩
        case measure => simp [intOf]; omega
    · have hlt5 : ¬ (k : Int) < (n : Int) + 5 := by omega
      clear hcell hhp how
      go_wp2
      go_ret
      exact ⟨rfl, q, HQ.out⟩
end Go.Proofs.YtfnafgjnimfmjaaGreatDoor

namespace Go.Proofs.YtfnafgjnimfmjaaGreatDoor
open Go.RowKit
theorem ixb (s : ByteArray) (w : World) : (callFunc 143 #[.string s, .int .u8 47]).run Tryz.prog w = .ok (.value (.int .i64 (firstIdx s 47))) w := by
  rw [run_callFunc_extern (e := Extern.BytealgIndexByte.indexByte) Tryz.func143 (by kernel_rfl) (by kernel_rfl) (by kernel_rfl) (by kernel_rfl), run_indexByte_string]
  rfl
theorem b47 : ((({ data := #[47] } : ByteArray)[0]'(by decide)).toNat : Int) = 47 := rfl
set_option maxRecDepth 100000 in
set_option maxHeartbeats 3200000 in
theorem slcut56 (w : World) : Calls Tryz.prog 79 #[.string ⟨#[53, 47, 54]⟩, .string ⟨#[47]⟩] w fun e w' => e = .returned (.tuple #[.string ⟨#[53]⟩, .string ⟨#[54]⟩, .bool true]) ∧ Below w.heap.size w w' := by
  have h1 := ixb ⟨#[53, 47, 54]⟩ w
  rw [show firstIdx ⟨#[53, 47, 54]⟩ 47 = 1 by decide] at h1
  have h2 := b47
  go_enter Tryz.func79, Tryz.ntmps79
  go_wp2
  go_quiet (fail)
  go_wp2
  go_ret3
  exact ⟨rfl, belowDN _ _⟩
set_option maxRecDepth 100000 in
set_option maxHeartbeats 3200000 in
theorem cut56 (w : World) : Calls Tryz.prog 47 #[.string ⟨#[53, 47, 54]⟩, .string ⟨#[47]⟩] w fun e w' => e = .returned (.tuple #[.string ⟨#[53]⟩, .string ⟨#[54]⟩, .bool true]) ∧ Below w.heap.size w w' := by
  go_enter Tryz.func47, Tryz.ntmps47
  go_wp2_with fail
  refine (slcut56 _).mono ?_
  rintro e w2 ⟨rfl, hb⟩
  have HB : Hid (Below w.heap.size w w2) := hb
  clear hb
  go_wp2_with fail
  go_ret3
  exact ⟨rfl, HB.out⟩
end Go.Proofs.YtfnafgjnimfmjaaGreatDoor

namespace Go.Proofs.YtfnafgjnimfmjaaGreatDoor
open Go.RowKit

theorem dig1 (c : UInt8) (h1 : 48 ≤ c.toNat) (h2 : c.toNat ≤ 57) : DigOk ⟨#[c]⟩ ∧ 0 < (⟨#[c]⟩ : ByteArray).size := by
  refine ⟨fun i hi => ?_, Nat.zero_lt_one⟩
  have h0 : i = 0 := by change i < 1 at hi; omega
  subst h0
  exact ⟨h1, h2⟩
theorem sz_of {n : Int} (h1 : -9223372036854775808 ≤ n) (h2 : n ≤ 9223372036854775807) : Sz n 8 := Sz.of (by show n.natAbs < 4294967296 ^ 8; omega)
set_option maxRecDepth 100000 in
set_option maxHeartbeats 6400000 in
theorem c_fof {n d : Int} {w : World} (h1 : -9223372036854775808 ≤ n) (h2 : n ≤ 9223372036854775807) (h3 : -9223372036854775808 ≤ d) (h4 : d ≤ 9223372036854775807) (hd : d ≠ 0) : Calls Tryz.prog 16 #[.int .i64 n, .int .i64 d] w fun e w' => RTEnd w (Rat.divInt n d) e w' := by
  obtain ⟨Z, hZ⟩ : ∃ Z, Z = Rat.divInt n d := ⟨_, rfl⟩
  have HZ : Hid (Rat.divInt n d = Z) := hZ.symm
  rw [← hZ]
  clear hZ
  have HD : Hid (d ≠ 0) := hd
  clear hd
  obtain ⟨W1, hW1⟩ : ∃ W1, W1 = w.alloc (.cells #[.bool false, .slice none 0 0, .slice none 0 0] 27) := ⟨_, rfl⟩
  have qR : QCell W1 (w.heap.size) false (.slice none 0 0) (.slice none 0 0) := by rw [hW1]; exact (qcell_new _ (by simp))
  have hb : Below w.heap.size w W1 := by rw [hW1]; exact belowA w _
  have hsz : w.heap.size < W1.heap.size := by rw [hW1]; simp
  have HW1 : Hid (W1 = w.alloc (.cells #[.bool false, .slice none 0 0, .slice none 0 0] 27)) := hW1
  clear hW1
  go_enter Tryz.func16, Tryz.ntmps16
  go_wp2_with fail
  rw [← HW1.out]
  clear HW1
  obtain ⟨g, hg⟩ : ∃ g, g = w.heap.size := ⟨_, rfl⟩
  rw [← hg] at qR hsz ⊢
  have HG : Hid (g = w.heap.size) := hg
  clear hg
  refine (c_of h1 h2).mono ?_
  rintro e w2 ⟨v, rfl, hv, b⟩
  obtain ⟨na, ao, al, ac, rfl, ia⟩ := hv.see (sz_of h1 h2) (by decide)
  clear hv
  replace qR := qR.below b
  replace hb := bstep hb b
  replace hsz := Nat.lt_of_lt_of_le hsz b.size
  clear b
  obtain ⟨cqR0, cqR1, cqR2⟩ := qR.cells
  go_wp2_with fail
  clear cqR0 cqR1 cqR2
  refine (c_of h3 h4).mono ?_
  rintro e w3 ⟨v, rfl, hv, b⟩
  obtain ⟨nb, bo, bl, bc, rfl, ib⟩ := hv.see (sz_of h3 h4) (by decide)
  clear hv
  replace ia := ia.below b
  replace qR := qR.below b
  replace hb := bstep hb b
  replace hsz := Nat.lt_of_lt_of_le hsz b.size
  clear b
  obtain ⟨cqR0, cqR1, cqR2⟩ := qR.cells
  go_wp2_with fail
  clear cqR0 cqR1 cqR2
  have hq := c_new_yes ia ib HD.out
  rw [HZ.out] at hq
  have hszz := hsz
  refine (hq).mono ?_
  rintro e w4 ⟨v, rfl, hv, b⟩
  clear hq
  obtain ⟨m, d, rfl, hm, hd, hap⟩ := hv
  obtain ⟨mo, ml, mc, rfl⟩ := hm.sl
  obtain ⟨mO, mL, mC, rfl⟩ := hd.sl
  replace ia := ia.below b
  replace ib := ib.below b
  replace qR := qR.below b
  replace hb := bstep hb b
  replace hsz := Nat.lt_of_lt_of_le hsz b.size
  clear b
  have qq := qR
  have HE : Hid (REnd w Z (.returned (.agg #[.bool (decide (Z.num < 0)), .slice mo ml mc, .slice mO mL mC])) (((w4.setCell ⟨g, 0, none⟩ (.bool (decide (Z.num < 0)))).setCell ⟨g, 1, none⟩ (.slice mo ml mc)).setCell ⟨g, 2, none⟩ (.slice mO mL mC))) := rat_done rfl (by rw [HG.out]; omega) hm hd hap hszz (hb)
  have HW : Hid (QCell (((w4.setCell ⟨g, 0, none⟩ (.bool (decide (Z.num < 0)))).setCell ⟨g, 1, none⟩ (.slice mo ml mc)).setCell ⟨g, 2, none⟩ (.slice mO mL mC)) (g) (decide (Z.num < 0)) (.slice mo ml mc) (.slice mO mL mC)) := qq.write _ _ _
  obtain ⟨y0, y1, y2⟩ := qq.cells
  have f0 := qq.thaw 0
  have f1 := qq.thaw 1
  have f2 := qq.thaw 2
  generalize decide (Z.num < 0) = bb at *
  clear qq hap
  clear hb hsz hszz hm hd qR ia ib
  go_wp2_with fail
  (try simp only [Exit.inBlock, Exit.then])
  exact bodyPost_ret (results_ct (p := 4) (u := 5) rfl _ _ (g) 27 _ (0, 0) _ rfl HW.out Tryz.underlying27 rfl (by kernel_rfl)) rfl HE.out.t
set_option maxRecDepth 100000 in
set_option maxHeartbeats 6400000 in
theorem c_parse56 {w : World} : Calls Tryz.prog 17 #[.string ⟨#[53, 47, 54]⟩] w fun e w' => RTEnd w (Rat.divInt 5 6) e w' := by
  obtain ⟨W1, hW1⟩ : ∃ W1, W1 = w.alloc (.cells #[.bool false, .slice none 0 0, .slice none 0 0] 27) := ⟨_, rfl⟩
  have qR : QCell W1 (w.heap.size) false (.slice none 0 0) (.slice none 0 0) := by rw [hW1]; exact (qcell_new _ (by simp))
  have hb : Below w.heap.size w W1 := by rw [hW1]; exact belowA w _
  have hsz : w.heap.size < W1.heap.size := by rw [hW1]; simp
  have HW1 : Hid (W1 = w.alloc (.cells #[.bool false, .slice none 0 0, .slice none 0 0] 27)) := hW1
  clear hW1
  go_enter Tryz.func17, Tryz.ntmps17
  go_wp2_with fail
  rw [← HW1.out]
  clear HW1
  obtain ⟨g, hg⟩ : ∃ g, g = w.heap.size := ⟨_, rfl⟩
  rw [← hg] at qR hsz ⊢
  have HG : Hid (g = w.heap.size) := hg
  clear hg
  refine (cut56 _).mono ?_
  rintro e w2 ⟨rfl, b⟩
  replace qR := qR.below b
  replace hb := bstep hb b
  replace hsz := Nat.lt_of_lt_of_le hsz b.size
  clear b
  obtain ⟨cqR0, cqR1, cqR2⟩ := qR.cells
  go_wp2_with fail
  clear cqR0 cqR1 cqR2
  have hq := parse_of (s := ⟨#[53]⟩) (t := ⟨#[53]⟩) (k := false) (z := 5) (dig_first (dig1 53 (by decide) (by decide)).1 (by decide)).1 (dig_first (dig1 53 (by decide) (by decide)).1 (by decide)).2 (dig1 53 (by decide) (by decide)) (by decide) (by decide) w2
  refine (hq).mono ?_
  rintro e w3 ⟨v, rfl, hv, b⟩
  clear hq
  obtain ⟨na, ao, al, ac, rfl, ia⟩ := hv.see (L := 8) (Sz.of (by decide)) (by decide)
  clear hv
  replace qR := qR.below b
  replace hb := bstep hb b
  replace hsz := Nat.lt_of_lt_of_le hsz b.size
  clear b
  obtain ⟨W4, hW4⟩ : ∃ W, W = w3.alloc (.cells #[.bool na, .slice ao al ac] 25) := ⟨_, rfl⟩
  have qA : ICell W4 (w3.heap.size) na (.slice ao al ac) := by rw [hW4]; exact (icell_new _ rfl)
  have b : Below w3.heap.size w3 W4 := by rw [hW4]; exact belowA _ _
  replace ia := ia.below b
  replace qR := qR.below b
  replace hb := bstep hb b
  replace hsz := Nat.lt_of_lt_of_le hsz b.size
  clear b
  have rqR0 : (w3.alloc (.cells #[.bool na, .slice ao al ac] 25)).cell? ⟨g, 0, none⟩ = some (.bool false) := by rw [← hW4]; exact qR.cells.1
  have rqR1 : (w3.alloc (.cells #[.bool na, .slice ao al ac] 25)).cell? ⟨g, 1, none⟩ = some (.slice none 0 0) := by rw [← hW4]; exact qR.cells.2.1
  have rqR2 : (w3.alloc (.cells #[.bool na, .slice ao al ac] 25)).cell? ⟨g, 2, none⟩ = some (.slice none 0 0) := by rw [← hW4]; exact qR.cells.2.2
  have rqA0 : (w3.alloc (.cells #[.bool na, .slice ao al ac] 25)).cell? ⟨w3.heap.size, 0, none⟩ = some (.bool na) := by rw [← hW4]; exact qA.cells.1
  have rqA1 : (w3.alloc (.cells #[.bool na, .slice ao al ac] 25)).cell? ⟨w3.heap.size, 1, none⟩ = some (.slice ao al ac) := by rw [← hW4]; exact qA.cells.2
  obtain ⟨v4, hv4⟩ : ∃ v, v = w3.heap.size := ⟨_, rfl⟩
  rw [← hv4] at qA
  have HW4 : Hid (W4 = w3.alloc (.cells #[.bool na, .slice ao al ac] 25)) := hW4
  have Hv4 : Hid (v4 = w3.heap.size) := hv4
  clear hW4 hv4
  go_wp2_with fail
  rw [← HW4.out, ← Hv4.out]
  clear HW4 Hv4 rqR0 rqR1 rqR2 rqA0 rqA1
  have hq := parse_any ⟨#[54]⟩ W4 (by decide)
  refine (hq).mono ?_
  rintro e w5 ⟨u, rfl, hu, b⟩
  clear hq
  rw [if_pos (dig1 54 (by decide) (by decide))]
  rw [if_pos (dig1 54 (by decide) (by decide)), show bval (dgs ⟨#[54]⟩) = 6 by decide] at hu
  obtain ⟨bo, bl, bc, rfl⟩ := hu.sl
  have ub := hu.num
  clear hu
  replace ia := ia.below b
  replace qR := qR.below b
  replace qA := qA.below b
  replace hb := bstep hb b
  replace hsz := Nat.lt_of_lt_of_le hsz b.size
  clear b
  obtain ⟨cqR0, cqR1, cqR2⟩ := qR.cells
  obtain ⟨cqA0, cqA1⟩ := qA.cells
  go_wp2_with fail
  clear cqR0 cqR1 cqR2 cqA0 cqA1
  have ib : INum w5 (.agg #[.bool false, .slice bo bl bc]) 6 := ⟨_, _, _, _, _, rfl, ub, Nat.le_trans (lim_len_le (n := 6) (k := 1) (by decide)) (by decide), by rw [val_lim]; rfl⟩
  have hq := c_new_yes ia ib (by decide)
  obtain ⟨Z, hZ⟩ : ∃ Z, Z = Rat.divInt 5 6 := ⟨_, rfl⟩
  have HZ : Hid (Z = Rat.divInt 5 6) := hZ
  rw [← hZ] at hq
  clear hZ
  have hszz := hsz
  clear ib
  refine (hq).mono ?_
  rintro e w6 ⟨v, rfl, hv, b⟩
  clear hq
  obtain ⟨m, d, rfl, hm, hd, hap⟩ := hv
  obtain ⟨mo, ml, mc, rfl⟩ := hm.sl
  obtain ⟨mO, mL, mC, rfl⟩ := hd.sl
  replace ia := ia.below b
  replace ub := ub.below (Nat.le_refl _) b
  replace qR := qR.below b
  replace qA := qA.below b
  replace hb := bstep hb b
  replace hsz := Nat.lt_of_lt_of_le hsz b.size
  clear b
  have qq := qR
  have HE : Hid (REnd w Z (.returned (.agg #[.bool (decide (Z.num < 0)), .slice mo ml mc, .slice mO mL mC])) (((w6.setCell ⟨g, 0, none⟩ (.bool (decide (Z.num < 0)))).setCell ⟨g, 1, none⟩ (.slice mo ml mc)).setCell ⟨g, 2, none⟩ (.slice mO mL mC))) := rat_done rfl (by rw [HG.out]; omega) hm hd hap hszz (hb)
  have HW : Hid (QCell (((w6.setCell ⟨g, 0, none⟩ (.bool (decide (Z.num < 0)))).setCell ⟨g, 1, none⟩ (.slice mo ml mc)).setCell ⟨g, 2, none⟩ (.slice mO mL mC)) (g) (decide (Z.num < 0)) (.slice mo ml mc) (.slice mO mL mC)) := qq.write _ _ _
  obtain ⟨y0, y1, y2⟩ := qq.cells
  have f0 := qq.thaw 0
  have f1 := qq.thaw 1
  have f2 := qq.thaw 2
  generalize decide (Z.num < 0) = bb at *
  clear qq hap
  clear hb hsz hszz hm hd qR qA ia ub
  go_wp2_with fail
  (try simp only [Exit.inBlock, Exit.then])
  exact bodyPost_ret (results_ct (p := 2) (u := 3) rfl _ _ (g) 27 _ (0, 0) _ rfl HW.out Tryz.underlying27 rfl (by kernel_rfl)) rfl (by rw [← HZ.out]; exact HE.out.t)
end Go.Proofs.YtfnafgjnimfmjaaGreatDoor

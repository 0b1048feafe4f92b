/-
  Proved here: the law's roomy, kept, plain, same at the three types.
-/
import Derived.Test.YtfanomoijjjcmaaRadG
import Derived.Test.YtfanomoijjjcmaaRadixBackWalk
namespace Go.Proofs.Ytfanomoijjjcmaa
open Go.RowKit Go.Shelf

/-- A row with five marks behind it. -/
def RoomK (k : IntKind) (B e : Nat) (w : World) (u : Value) (zs : List Int) : Prop := ∃ g cap, u = .slice (some ⟨g, 0, none⟩) zs.length cap ∧ OwnK k B e w (.slice (some ⟨g, 0, none⟩) (zs.length + 5) cap) (zs ++ List.replicate 5 77)
theorem RoomK.below {k : IntKind} {B e : Nat} {w w' : World} {u : Value} {zs : List Int} (h : RoomK k B e w u zs) (hb : Below w.heap.size w w') : RoomK k B e w' u zs := by
  obtain ⟨g, cap, h1, h2⟩ := h
  exact ⟨g, cap, h1, h2.below hb⟩
theorem inK_marks {k : IntKind} {zs : List Int} (h : inK k zs) (h77 : k.min ≤ 77 ∧ 77 ≤ k.max) (m : Nat) : inK k (zs ++ List.replicate m 77) := fun i hi => by
  by_cases hl : i < zs.length
  · rw [List.getD_eq_getElem?_getD, List.getElem?_append_left hl, ← List.getD_eq_getElem?_getD]; exact h i hl
  · have hi2 : i - zs.length < m := by rw [List.length_append, List.length_replicate] at hi; omega
    rw [List.getD_eq_getElem?_getD, List.getElem?_append_right (by omega), List.getElem?_replicate, if_pos hi2]; exact h77
theorem RK.inK {k : IntKind} {w : World} {v : Value} {zs : List Int} (h : RK k w v zs) : inK k zs := by
  obtain ⟨_, _, _, _, _, _, h4, _⟩ := h; exact h4
theorem RoomK.rk {k : IntKind} {B e : Nat} {w : World} {u : Value} {zs : List Int} (h : RoomK k B e w u zs) (hz : Go.Proofs.Ytfanomoijjjcmaa.inK k zs) (h77 : k.min ≤ 77 ∧ 77 ≤ k.max) : RK k w u zs := by
  obtain ⟨g, cap, rfl, h2⟩ := h
  have h3 := RK.of_own h2 (inK_marks hz h77 5)
  have h4 := h3.cut (m := zs.length) (by omega)
  rw [List.take_left] at h4
  exact h4
theorem room_at {zs : List Int} {i : Nat} (h : i < zs.length) (m : Nat) : (zs ++ List.replicate m 77).getD i 0 = zs.getD i 0 := by
  rw [List.getD_eq_getElem?_getD, List.getElem?_append_left h, ← List.getD_eq_getElem?_getD]
theorem room_mk {zs : List Int} {i m : Nat} (h : zs.length ≤ i) (h2 : i < zs.length + m) : (zs ++ List.replicate m 77).getD i 0 = 77 := by
  rw [List.getD_eq_getElem?_getD, List.getElem?_append_right (by omega), List.getElem?_replicate, if_pos (by omega)]; rfl

set_option maxRecDepth 100000 in
set_option maxHeartbeats 1600000 in
theorem roomyI (v : Value) (zs : List Int) (w : World) (hv : RK .i64 w v zs) (hz : zs.length ≤ 17592186043904) :
    Calls Try.prog 28 #[v] w fun e w' => ∃ u, e = .returned u ∧ RoomK .i64 w.heap.size 3 w' u zs ∧ Below w.heap.size w w' := by
  have hv0 := hv
  obtain ⟨ao, cap, rfl, hc, hm, -, -, -⟩ := hv
  unfold maxLen at hm
  obtain ⟨i0, hi, hz0, hz1, hz2⟩ := info_parts Try.infoI
  obtain ⟨n, hn⟩ : ∃ n, zs.length = n := ⟨_, rfl⟩
  rw [hn] at hc hz hv0 ⊢
  have HN : Hid (zs.length = n) := hn
  clear hn
  go_enter Try.func28, Try.ntmps28
  go_wp2_with (at_builtin; refine wpList_appK _ rfl _ _ 25 rfl .i64 w.heap.size 3 i0 8 Try.underlying25 hi hz0 hz1 hz2 _ _ [] zs rfl (OwnK.of_nil _ _ _ _) rfl hv0 (by unfold maxLen; rw [HN.out]; simp; omega) (by rw [HN.out]; simp; omega) (Nat.le_refl _) ?_)
  intro v1 w1 ho1 hg1
  have hb1 : Below w.heap.size w w1 := (OwnK.of_nil .i64 w.heap.size 3 w).grown (Below.refl _ _) (Nat.le_refl _) hg1
  have how : OwnK .i64 w.heap.size 3 w1 v1 (zs ++ List.replicate 0 77) := by simpa using ho1
  have hB1 : w.heap.size ≤ w1.heap.size := hb1.size
  clear ho1 hg1 hv0
  go_wp2
  go_loopw [3, 4] (fun u t wr => ∃ k : Nat, k ≤ 5 ∧ t = .int .i64 k ∧ OwnK .i64 w.heap.size 3 wr u (zs ++ List.replicate k 77) ∧ Below w.heap.size w wr ∧ w.heap.size ≤ wr.heap.size) (fun _ t _ => 5 - (intOf t).toNat)
  case atStart => exact ⟨0, by omega, rfl, how, hb1, hB1⟩
  case round =>
    clear how hb1 hB1
    obtain ⟨k, hk, rfl, how, hbel, hB1⟩ := hrel
    by_cases hk5 : k < 5
    · have hlt : (k : Int) < 5 := by omega
      have hlen : (zs ++ List.replicate k 77).length = n + k := by rw [List.length_append, List.length_replicate, HN.out]
      have HO : Hid (wr.ownsRow w.heap.size 3 1 u3 (n + k) ((zs ++ List.replicate k 77).map (Value.int .i64))) := by have := how; unfold OwnK at this; rw [hlen] at this; exact this
      have HH : Hid (OwnK .i64 w.heap.size 3 wr u3 (zs ++ List.replicate k 77)) := how
      have HL : Hid ((zs ++ List.replicate k 77).length = n + k) := hlen
      have HR : Hid (zs ++ List.replicate (k + 1) 77 = (zs ++ List.replicate k 77) ++ [77]) := by show _ = _; rw [List.replicate_succ', List.append_assoc]
      have hB3 : ∀ o, w.heap.size ≤ (wr.alloc o).heap.size := fun o => by simp; omega
      clear how hlen
      generalize zs ++ List.replicate k 77 = L at *
      go_wp2_with (at_builtin; refine wpList_append_own _ rfl _ _ 25 rfl w.heap.size 3 i0 (.int .i64 0) 1 8 Try.underlying25 hi hz0 hz1 hz2 rfl (by decide) _ (n + k) (L.map (Value.int .i64)) rfl (HO.out.alloc _) ⟨wr.heap.size, 0, none⟩ 1 1 [.int .i64 77] rfl rfl (cell_oneR _ _ _) (fun u hu => by simp at hu; subst hu; rfl) (by unfold maxLen; omega) (by omega) (hB3 _) ?_)
      intro v' w2 ho hgr _
      have R := HH.out.push hbel hB1 (z := 77) (by rw [HL.out]; exact ho) hgr
      clear ho hgr HH HO
      go_wp2
      go_roundw
      case rel => exact ⟨k + 1, by omega, by go_num, by rw [HR.out]; exact R.1, R.2.1, R.2.2⟩
      case measure => simp [intOf]; omega
    · have hk5' : k = 5 := by omega
      subst hk5'
      obtain ⟨ao3, cap3, e3, h3, h4, h5, -⟩ := how.sl
      have hlen : (zs ++ List.replicate 5 77).length = n + 5 := by rw [List.length_append, List.length_replicate, HN.out]
      rw [hlen] at e3 h3 h4
      obtain ⟨g, -, rfl⟩ := h3 (by omega)
      have HR : Hid (RoomK .i64 w.heap.size 3 wr (.slice (some ⟨g, 0, none⟩) n cap3) zs) := ⟨g, cap3, by rw [HN.out], by rw [HN.out, ← e3]; exact how⟩
      subst e3
      have hnc : (n : Int) ≤ (cap3 : Int) := by omega
      clear how hlen
      go_wp2
      go_ret
      exact ⟨_, rfl, HR.out, hbel⟩
set_option maxRecDepth 100000 in
set_option maxHeartbeats 1600000 in
theorem keptI (B : Nat) (u v : Value) (zs : List Int) (w : World) (hr : RoomK .i64 B 3 w u zs) (hv : RK .i64 w v zs) (hz : zs.length ≤ 17592186043904) :
    Calls Try.prog 34 #[u, v] w fun e w' => e = .returned (.bool true) ∧ ∃ q, w' = w.drewN q := by
  obtain ⟨g, capR, rfl, how⟩ := hr
  have hin := hv.inK
  have hRf := RK.of_own how (inK_marks hin (by decide) 5)
  obtain ⟨ao', cap', e', -, h4, h5, -⟩ := how.sl
  rw [List.length_append, List.length_replicate] at e' h4
  simp only [Value.slice.injEq] at e'
  obtain ⟨-, -, rfl⟩ := e'
  unfold maxLen at h5
  obtain ⟨ao, cap, rfl, hc, hm, -, -, hcell⟩ := hv
  clear how
  obtain ⟨n, hn⟩ : ∃ n, zs.length = n := ⟨_, rfl⟩
  rw [hn] at hc hz hRf h4 ⊢
  have HN : Hid (zs.length = n) := hn
  clear hn
  have heq : ((n : Int) == (n : Int)) = true := by simp
  have hnc : (n : Int) + 5 ≤ (capR : Int) := by omega
  go_enter Try.func34, Try.ntmps34
  go_wp2
  go_loopw [6] (fun t wr => ∃ k : Nat, k ≤ n + 5 ∧ t = .int .i64 k ∧ ∃ q, wr = w.drewN q) (fun t _ => n + 5 - (intOf t).toNat)
  case atStart => exact ⟨0, Nat.zero_le _, rfl, 0, rfl⟩
  case round =>
    obtain ⟨k, hk, rfl, q, rfl⟩ := hrel
    by_cases hk5 : k < n + 5
    · obtain ⟨b', o', e', c0⟩ := hRf.at hk5
      simp only [Option.some.injEq, Addr.mk.injEq, and_true] at e'
      obtain ⟨rfl, rfl⟩ := e'
      rw [Nat.zero_add] at c0
      by_cases hkn : k < n
      · obtain ⟨b, off, rfl, c1⟩ := hcell k (by rw [HN.out]; exact hkn)
        rw [room_at (by rw [HN.out]; exact hkn)] at c0
        clear hcell hRf
        generalize zs.getD k 0 = x at *
        have hlt : (k : Int) < (n : Int) := by omega
        have hlt5 : (k : Int) < (n : Int) + 5 := by omega
        have hne : ((x : Int) != (x : Int)) = false := by simp
        have hgd : decide (n ≤ k) = false := by simp; omega
        have hgt : decide (k < n) = true := by simp; omega
        go_wp2
        go_quiet (fail)
        go_wp2
        go_roundw
        case rel => exact ⟨k + 1, by omega, by go_num, _, rfl⟩
        case measure => simp [intOf]; omega
      · rw [room_mk (by rw [HN.out]; omega) (by rw [HN.out]; exact hk5)] at c0
        clear hcell hRf
        have hlt : ¬ (k : Int) < (n : Int) := by omega
        have hld : decide (k < n) = false := by simp; omega
        have hgd : decide (n ≤ k) = true := by simp; omega
        have hlt5 : (k : Int) < (n : Int) + 5 := by omega
        have hge : (n : Int) ≤ (k : Int) := by omega
        go_wp2
        go_quiet (fail)
        go_wp2
        go_roundw
        case rel => exact ⟨k + 1, by omega, by go_num, _, rfl⟩
        case measure => simp [intOf]; omega
    · have hlt5 : ¬ (k : Int) < (n : Int) + 5 := by omega
      clear hcell hRf
      go_wp2
      go_ret
      exact ⟨rfl, q, rfl⟩
set_option maxRecDepth 100000 in
set_option maxHeartbeats 1600000 in
theorem plainI (v : Value) (zs : List Int) (w : World) (hv : RK .i64 w v zs) (hz : zs.length ≤ 17592186043904) :
    Calls Try.prog 30 #[v] w fun e w' => ∃ u, e = .returned u ∧ OwnK .i64 w.heap.size 3 w' u zs ∧ Below w.heap.size w w' := by
  have hv' := fun w' (h : Below w.heap.size w w') => hv.below (Nat.le_refl _) h
  obtain ⟨ao, cap, rfl, hc, hm, -, hbd, -⟩ := hv
  unfold maxLen at hm
  obtain ⟨i0, hi, hz0, hz1, hz2⟩ := info_parts Try.infoI
  obtain ⟨n, hn⟩ : ∃ n, zs.length = n := ⟨_, rfl⟩
  rw [hn] at hc hz hv' ⊢
  have HN : Hid (zs.length = n) := hn
  clear hn
  go_enter Try.func30, Try.ntmps30
  go_wp2
  go_loopw [3, 4] (fun u t wr => ∃ k : Nat, k ≤ n ∧ t = .int .i64 k ∧ OwnK .i64 w.heap.size 3 wr u (zs.take k) ∧ Below w.heap.size w wr ∧ w.heap.size ≤ wr.heap.size) (fun _ t _ => n - (intOf t).toNat)
  case atStart => exact ⟨0, Nat.zero_le _, rfl, OwnK.of_nil _ _ _ _, Below.refl _ _, Nat.le_refl _⟩
  case round =>
    obtain ⟨k, hkn, rfl, how, hbel, hB1⟩ := hrel
    by_cases hlt : k < n
    · have hltI : (k : Int) < (n : Int) := by omega
      obtain ⟨b, off, rfl, c0⟩ := (hv' wr hbel).at hlt
      obtain ⟨hx1, hx2⟩ := hbd k (by rw [HN.out]; exact hlt)
      rw [min_i64] at hx1
      rw [max_i64] at hx2
      have hlk : (zs.take k).length = k := by rw [List.length_take, HN.out]; omega
      have HT : Hid (zs.take (k + 1) = zs.take k ++ [zs.getD k 0]) := by
        show _ = _
        rw [List.take_succ_eq_append_getElem (by rw [HN.out]; exact hlt), List.getD_eq_getElem?_getD, List.getElem?_eq_getElem (by rw [HN.out]; exact hlt)]; rfl
      have HO : Hid (wr.ownsRow w.heap.size 3 1 u3 k ((zs.take k).map (Value.int .i64))) := by have := how; unfold OwnK at this; rw [hlk] at this; exact this
      have HH : Hid (OwnK .i64 w.heap.size 3 wr u3 (zs.take k)) := how
      have HL : Hid ((zs.take k).length = k) := hlk
      have hB3 : ∀ o, w.heap.size ≤ (wr.alloc o).heap.size := fun o => by simp; omega
      clear how hlk hv' hbd
      generalize zs.getD k 0 = x at *
      generalize zs.take k = L at *
      go_wp2_with (at_builtin; refine wpList_append_own _ rfl _ _ 25 rfl w.heap.size 3 i0 (.int .i64 0) 1 8 Try.underlying25 hi hz0 hz1 hz2 rfl (by decide) _ k (L.map (Value.int .i64)) rfl (HO.out.alloc _) ⟨wr.heap.size, 0, none⟩ 1 1 [.int .i64 x] rfl rfl (cell_oneR _ _ _) (fun u hu => by simp at hu; subst hu; rfl) (by unfold maxLen; omega) (by omega) (hB3 _) ?_)
      intro v' w2 ho hgr _
      have R := HH.out.push hbel hB1 (z := x) (by rw [HL.out]; exact ho) hgr
      clear ho hgr HH HO
      go_wp2
      go_roundw
      case rel => exact ⟨k + 1, by omega, by go_num, by rw [HT.out]; exact R.1, R.2.1, R.2.2⟩
      case measure => simp [intOf]; omega
    · have hltI : ¬ (k : Int) < (n : Int) := by omega
      have hall : zs.take k = zs := List.take_of_length_le (by have := HN.out; omega)
      rw [hall] at how
      clear hv' hbd hall
      go_wp2
      go_ret
      exact ⟨_, rfl, how, hbel⟩
set_option maxRecDepth 100000 in
set_option maxHeartbeats 1600000 in
theorem sameI (v u : Value) (zs : List Int) (w : World) (hv : RK .i64 w v zs) (hu : RK .i64 w u zs) :
    Calls Try.prog 33 #[v, u] w fun e w' => e = .returned (.bool true) ∧ ∃ q, w' = w.drewN q := by
  obtain ⟨ao, cap, rfl, hc, hm, -, hbd, hcell⟩ := hv
  obtain ⟨ao', cap', rfl, hc', hm', -, -, hcell'⟩ := hu
  unfold maxLen at hm hm'
  obtain ⟨n, hn⟩ : ∃ n, zs.length = n := ⟨_, rfl⟩
  rw [hn] at hc hc' ⊢
  have HN : Hid (zs.length = n) := hn
  clear hn
  have hne : (((n : Nat) : Int) != ((n : Nat) : Int)) = false := by simp
  go_enter Try.func33, Try.ntmps33
  go_wp2
  go_loopw [5] (fun t wr => ∃ k : Nat, k ≤ n ∧ t = .int .i64 k ∧ ∃ q, wr = w.drewN q) (fun t _ => n - (intOf t).toNat)
  case atStart => exact ⟨0, Nat.zero_le _, rfl, 0, rfl⟩
  case round =>
    obtain ⟨k, hk, rfl, q, rfl⟩ := hrel
    by_cases hkn : k < n
    · obtain ⟨b, off, rfl, c0⟩ := hcell k (by rw [HN.out]; exact hkn)
      obtain ⟨b', off', rfl, c1⟩ := hcell' k (by rw [HN.out]; exact hkn)
      obtain ⟨hx1, hx2⟩ := hbd k (by rw [HN.out]; exact hkn)
      rw [min_i64] at hx1
      rw [max_i64] at hx2
      clear hcell hcell' hbd
      generalize zs.getD k 0 = x at *
      have hlt : (k : Int) < (n : Int) := by omega
      have hwx : IntKind.i64.wrap x = x := wrap_i64 (by omega) (by omega)
      have hnx : ((x : Int) != (x : Int)) = false := by simp
      go_wp2
      go_quiet (fail)
      go_wp2
      go_roundw
      case rel => exact ⟨k + 1, by omega, by go_num, _, rfl⟩
      case measure => simp [intOf]; omega
    · have hge : ¬ (k : Int) < (n : Int) := by omega
      clear hcell hcell' hbd
      go_wp2
      go_ret
      exact ⟨rfl, q, rfl⟩

set_option maxRecDepth 100000 in
set_option maxHeartbeats 1600000 in
theorem roomyJ (v : Value) (zs : List Int) (w : World) (hv : RK .i32 w v zs) (hz : zs.length ≤ 17592186043904) :
    Calls Try.prog 35 #[v] w fun e w' => ∃ u, e = .returned u ∧ RoomK .i32 w.heap.size 21 w' u zs ∧ Below w.heap.size w w' := by
  have hv0 := hv
  obtain ⟨ao, cap, rfl, hc, hm, -, -, -⟩ := hv
  unfold maxLen at hm
  obtain ⟨i0, hi, hz0, hz1, hz2⟩ := info_parts Try.infoJ
  obtain ⟨n, hn⟩ : ∃ n, zs.length = n := ⟨_, rfl⟩
  rw [hn] at hc hz hv0 ⊢
  have HN : Hid (zs.length = n) := hn
  clear hn
  go_enter Try.func35, Try.ntmps35
  go_wp2_with (at_builtin; refine wpList_appK _ rfl _ _ 32 rfl .i32 w.heap.size 21 i0 4 Try.underlying32 hi hz0 hz1 hz2 _ _ [] zs rfl (OwnK.of_nil _ _ _ _) rfl hv0 (by unfold maxLen; rw [HN.out]; simp; omega) (by rw [HN.out]; simp; omega) (Nat.le_refl _) ?_)
  intro v1 w1 ho1 hg1
  have hb1 : Below w.heap.size w w1 := (OwnK.of_nil .i32 w.heap.size 21 w).grown (Below.refl _ _) (Nat.le_refl _) hg1
  have how : OwnK .i32 w.heap.size 21 w1 v1 (zs ++ List.replicate 0 77) := by simpa using ho1
  have hB1 : w.heap.size ≤ w1.heap.size := hb1.size
  clear ho1 hg1 hv0
  go_wp2
  go_loopw [3, 4] (fun u t wr => ∃ k : Nat, k ≤ 5 ∧ t = .int .i64 k ∧ OwnK .i32 w.heap.size 21 wr u (zs ++ List.replicate k 77) ∧ Below w.heap.size w wr ∧ w.heap.size ≤ wr.heap.size) (fun _ t _ => 5 - (intOf t).toNat)
  case atStart => exact ⟨0, by omega, rfl, how, hb1, hB1⟩
  case round =>
    clear how hb1 hB1
    obtain ⟨k, hk, rfl, how, hbel, hB1⟩ := hrel
    by_cases hk5 : k < 5
    · have hlt : (k : Int) < 5 := by omega
      have hlen : (zs ++ List.replicate k 77).length = n + k := by rw [List.length_append, List.length_replicate, HN.out]
      have HO : Hid (wr.ownsRow w.heap.size 21 1 u3 (n + k) ((zs ++ List.replicate k 77).map (Value.int .i32))) := by have := how; unfold OwnK at this; rw [hlen] at this; exact this
      have HH : Hid (OwnK .i32 w.heap.size 21 wr u3 (zs ++ List.replicate k 77)) := how
      have HL : Hid ((zs ++ List.replicate k 77).length = n + k) := hlen
      have HR : Hid (zs ++ List.replicate (k + 1) 77 = (zs ++ List.replicate k 77) ++ [77]) := by show _ = _; rw [List.replicate_succ', List.append_assoc]
      have hB3 : ∀ o, w.heap.size ≤ (wr.alloc o).heap.size := fun o => by simp; omega
      clear how hlen
      generalize zs ++ List.replicate k 77 = L at *
      go_wp2_with (at_builtin; refine wpList_append_own _ rfl _ _ 32 rfl w.heap.size 21 i0 (.int .i32 0) 1 4 Try.underlying32 hi hz0 hz1 hz2 rfl (by decide) _ (n + k) (L.map (Value.int .i32)) rfl (HO.out.alloc _) ⟨wr.heap.size, 0, none⟩ 1 1 [.int .i32 77] rfl rfl (cell_oneR _ _ _) (fun u hu => by simp at hu; subst hu; rfl) (by unfold maxLen; omega) (by omega) (hB3 _) ?_)
      intro v' w2 ho hgr _
      have R := HH.out.push hbel hB1 (z := 77) (by rw [HL.out]; exact ho) hgr
      clear ho hgr HH HO
      go_wp2
      go_roundw
      case rel => exact ⟨k + 1, by omega, by go_num, by rw [HR.out]; exact R.1, R.2.1, R.2.2⟩
      case measure => simp [intOf]; omega
    · have hk5' : k = 5 := by omega
      subst hk5'
      obtain ⟨ao3, cap3, e3, h3, h4, h5, -⟩ := how.sl
      have hlen : (zs ++ List.replicate 5 77).length = n + 5 := by rw [List.length_append, List.length_replicate, HN.out]
      rw [hlen] at e3 h3 h4
      obtain ⟨g, -, rfl⟩ := h3 (by omega)
      have HR : Hid (RoomK .i32 w.heap.size 21 wr (.slice (some ⟨g, 0, none⟩) n cap3) zs) := ⟨g, cap3, by rw [HN.out], by rw [HN.out, ← e3]; exact how⟩
      subst e3
      have hnc : (n : Int) ≤ (cap3 : Int) := by omega
      clear how hlen
      go_wp2
      go_ret
      exact ⟨_, rfl, HR.out, hbel⟩
set_option maxRecDepth 100000 in
set_option maxHeartbeats 1600000 in
theorem keptJ (B : Nat) (u v : Value) (zs : List Int) (w : World) (hr : RoomK .i32 B 21 w u zs) (hv : RK .i32 w v zs) (hz : zs.length ≤ 17592186043904) :
    Calls Try.prog 40 #[u, v] w fun e w' => e = .returned (.bool true) ∧ ∃ q, w' = w.drewN q := by
  obtain ⟨g, capR, rfl, how⟩ := hr
  have hin := hv.inK
  have hRf := RK.of_own how (inK_marks hin (by decide) 5)
  obtain ⟨ao', cap', e', -, h4, h5, -⟩ := how.sl
  rw [List.length_append, List.length_replicate] at e' h4
  simp only [Value.slice.injEq] at e'
  obtain ⟨-, -, rfl⟩ := e'
  unfold maxLen at h5
  obtain ⟨ao, cap, rfl, hc, hm, -, -, hcell⟩ := hv
  clear how
  obtain ⟨n, hn⟩ : ∃ n, zs.length = n := ⟨_, rfl⟩
  rw [hn] at hc hz hRf h4 ⊢
  have HN : Hid (zs.length = n) := hn
  clear hn
  have heq : ((n : Int) == (n : Int)) = true := by simp
  have hnc : (n : Int) + 5 ≤ (capR : Int) := by omega
  go_enter Try.func40, Try.ntmps40
  go_wp2
  go_loopw [6] (fun t wr => ∃ k : Nat, k ≤ n + 5 ∧ t = .int .i64 k ∧ ∃ q, wr = w.drewN q) (fun t _ => n + 5 - (intOf t).toNat)
  case atStart => exact ⟨0, Nat.zero_le _, rfl, 0, rfl⟩
  case round =>
    obtain ⟨k, hk, rfl, q, rfl⟩ := hrel
    by_cases hk5 : k < n + 5
    · obtain ⟨b', o', e', c0⟩ := hRf.at hk5
      simp only [Option.some.injEq, Addr.mk.injEq, and_true] at e'
      obtain ⟨rfl, rfl⟩ := e'
      rw [Nat.zero_add] at c0
      by_cases hkn : k < n
      · obtain ⟨b, off, rfl, c1⟩ := hcell k (by rw [HN.out]; exact hkn)
        rw [room_at (by rw [HN.out]; exact hkn)] at c0
        clear hcell hRf
        generalize zs.getD k 0 = x at *
        have hlt : (k : Int) < (n : Int) := by omega
        have hlt5 : (k : Int) < (n : Int) + 5 := by omega
        have hne : ((x : Int) != (x : Int)) = false := by simp
        have hgd : decide (n ≤ k) = false := by simp; omega
        have hgt : decide (k < n) = true := by simp; omega
        go_wp2
        go_quiet (fail)
        go_wp2
        go_roundw
        case rel => exact ⟨k + 1, by omega, by go_num, _, rfl⟩
        case measure => simp [intOf]; omega
      · rw [room_mk (by rw [HN.out]; omega) (by rw [HN.out]; exact hk5)] at c0
        clear hcell hRf
        have hlt : ¬ (k : Int) < (n : Int) := by omega
        have hld : decide (k < n) = false := by simp; omega
        have hgd : decide (n ≤ k) = true := by simp; omega
        have hlt5 : (k : Int) < (n : Int) + 5 := by omega
        have hge : (n : Int) ≤ (k : Int) := by omega
        go_wp2
        go_quiet (fail)
        go_wp2
        go_roundw
        case rel => exact ⟨k + 1, by omega, by go_num, _, rfl⟩
        case measure => simp [intOf]; omega
    · have hlt5 : ¬ (k : Int) < (n : Int) + 5 := by omega
      clear hcell hRf
      go_wp2
      go_ret
      exact ⟨rfl, q, rfl⟩
set_option maxRecDepth 100000 in
set_option maxHeartbeats 1600000 in
theorem plainJ (v : Value) (zs : List Int) (w : World) (hv : RK .i32 w v zs) (hz : zs.length ≤ 17592186043904) :
    Calls Try.prog 37 #[v] w fun e w' => ∃ u, e = .returned u ∧ OwnK .i64 w.heap.size 3 w' u zs ∧ Below w.heap.size w w' := by
  have hv' := fun w' (h : Below w.heap.size w w') => hv.below (Nat.le_refl _) h
  obtain ⟨ao, cap, rfl, hc, hm, -, hbd, -⟩ := hv
  unfold maxLen at hm
  obtain ⟨i0, hi, hz0, hz1, hz2⟩ := info_parts Try.infoI
  obtain ⟨n, hn⟩ : ∃ n, zs.length = n := ⟨_, rfl⟩
  rw [hn] at hc hz hv' ⊢
  have HN : Hid (zs.length = n) := hn
  clear hn
  go_enter Try.func37, Try.ntmps37
  go_wp2
  go_loopw [3, 4] (fun u t wr => ∃ k : Nat, k ≤ n ∧ t = .int .i64 k ∧ OwnK .i64 w.heap.size 3 wr u (zs.take k) ∧ Below w.heap.size w wr ∧ w.heap.size ≤ wr.heap.size) (fun _ t _ => n - (intOf t).toNat)
  case atStart => exact ⟨0, Nat.zero_le _, rfl, OwnK.of_nil _ _ _ _, Below.refl _ _, Nat.le_refl _⟩
  case round =>
    obtain ⟨k, hkn, rfl, how, hbel, hB1⟩ := hrel
    by_cases hlt : k < n
    · have hltI : (k : Int) < (n : Int) := by omega
      obtain ⟨b, off, rfl, c0⟩ := (hv' wr hbel).at hlt
      obtain ⟨hx1, hx2⟩ := hbd k (by rw [HN.out]; exact hlt)
      rw [min_i32] at hx1
      rw [max_i32] at hx2
      have hlk : (zs.take k).length = k := by rw [List.length_take, HN.out]; omega
      have HT : Hid (zs.take (k + 1) = zs.take k ++ [zs.getD k 0]) := by
        show _ = _
        rw [List.take_succ_eq_append_getElem (by rw [HN.out]; exact hlt), List.getD_eq_getElem?_getD, List.getElem?_eq_getElem (by rw [HN.out]; exact hlt)]; rfl
      have HO : Hid (wr.ownsRow w.heap.size 3 1 u3 k ((zs.take k).map (Value.int .i64))) := by have := how; unfold OwnK at this; rw [hlk] at this; exact this
      have HH : Hid (OwnK .i64 w.heap.size 3 wr u3 (zs.take k)) := how
      have HL : Hid ((zs.take k).length = k) := hlk
      have hB3 : ∀ o, w.heap.size ≤ (wr.alloc o).heap.size := fun o => by simp; omega
      clear how hlk hv' hbd
      generalize zs.getD k 0 = x at *
      generalize zs.take k = L at *
      go_wp2_with (at_builtin; refine wpList_append_own _ rfl _ _ 25 rfl w.heap.size 3 i0 (.int .i64 0) 1 8 Try.underlying25 hi hz0 hz1 hz2 rfl (by decide) _ k (L.map (Value.int .i64)) rfl (HO.out.alloc _) ⟨wr.heap.size, 0, none⟩ 1 1 [.int .i64 x] rfl rfl (cell_oneR _ _ _) (fun u hu => by simp at hu; subst hu; rfl) (by unfold maxLen; omega) (by omega) (hB3 _) ?_)
      intro v' w2 ho hgr _
      have R := HH.out.push hbel hB1 (z := x) (by rw [HL.out]; exact ho) hgr
      clear ho hgr HH HO
      go_wp2
      go_roundw
      case rel => exact ⟨k + 1, by omega, by go_num, by rw [HT.out]; exact R.1, R.2.1, R.2.2⟩
      case measure => simp [intOf]; omega
    · have hltI : ¬ (k : Int) < (n : Int) := by omega
      have hall : zs.take k = zs := List.take_of_length_le (by have := HN.out; omega)
      rw [hall] at how
      clear hv' hbd hall
      go_wp2
      go_ret
      exact ⟨_, rfl, how, hbel⟩
set_option maxRecDepth 100000 in
set_option maxHeartbeats 1600000 in
theorem sameJ (v u : Value) (zs : List Int) (w : World) (hv : RK .i32 w v zs) (hu : RK .i64 w u zs) :
    Calls Try.prog 39 #[v, u] w fun e w' => e = .returned (.bool true) ∧ ∃ q, w' = w.drewN q := by
  obtain ⟨ao, cap, rfl, hc, hm, -, hbd, hcell⟩ := hv
  obtain ⟨ao', cap', rfl, hc', hm', -, -, hcell'⟩ := hu
  unfold maxLen at hm hm'
  obtain ⟨n, hn⟩ : ∃ n, zs.length = n := ⟨_, rfl⟩
  rw [hn] at hc hc' ⊢
  have HN : Hid (zs.length = n) := hn
  clear hn
  have hne : (((n : Nat) : Int) != ((n : Nat) : Int)) = false := by simp
  go_enter Try.func39, Try.ntmps39
  go_wp2
  go_loopw [5] (fun t wr => ∃ k : Nat, k ≤ n ∧ t = .int .i64 k ∧ ∃ q, wr = w.drewN q) (fun t _ => n - (intOf t).toNat)
  case atStart => exact ⟨0, Nat.zero_le _, rfl, 0, rfl⟩
  case round =>
    obtain ⟨k, hk, rfl, q, rfl⟩ := hrel
    by_cases hkn : k < n
    · obtain ⟨b, off, rfl, c0⟩ := hcell k (by rw [HN.out]; exact hkn)
      obtain ⟨b', off', rfl, c1⟩ := hcell' k (by rw [HN.out]; exact hkn)
      obtain ⟨hx1, hx2⟩ := hbd k (by rw [HN.out]; exact hkn)
      rw [min_i32] at hx1
      rw [max_i32] at hx2
      clear hcell hcell' hbd
      generalize zs.getD k 0 = x at *
      have hlt : (k : Int) < (n : Int) := by omega
      have hwx : IntKind.i64.wrap x = x := wrap_i64 (by omega) (by omega)
      have hnx : ((x : Int) != (x : Int)) = false := by simp
      go_wp2
      go_quiet (fail)
      go_wp2
      go_roundw
      case rel => exact ⟨k + 1, by omega, by go_num, _, rfl⟩
      case measure => simp [intOf]; omega
    · have hge : ¬ (k : Int) < (n : Int) := by omega
      clear hcell hcell' hbd
      go_wp2
      go_ret
      exact ⟨rfl, q, rfl⟩

set_option maxRecDepth 100000 in
set_option maxHeartbeats 1600000 in
theorem roomyS (v : Value) (zs : List Int) (w : World) (hv : RK .u16 w v zs) (hz : zs.length ≤ 17592186043904) :
    Calls Try.prog 41 #[v] w fun e w' => ∃ u, e = .returned u ∧ RoomK .u16 w.heap.size 36 w' u zs ∧ Below w.heap.size w w' := by
  have hv0 := hv
  obtain ⟨ao, cap, rfl, hc, hm, -, -, -⟩ := hv
  unfold maxLen at hm
  obtain ⟨i0, hi, hz0, hz1, hz2⟩ := info_parts Try.infoS
  obtain ⟨n, hn⟩ : ∃ n, zs.length = n := ⟨_, rfl⟩
  rw [hn] at hc hz hv0 ⊢
  have HN : Hid (zs.length = n) := hn
  clear hn
  go_enter Try.func41, Try.ntmps41
  go_wp2_with (at_builtin; refine wpList_appK _ rfl _ _ 37 rfl .u16 w.heap.size 36 i0 2 Try.underlying37 hi hz0 hz1 hz2 _ _ [] zs rfl (OwnK.of_nil _ _ _ _) rfl hv0 (by unfold maxLen; rw [HN.out]; simp; omega) (by rw [HN.out]; simp; omega) (Nat.le_refl _) ?_)
  intro v1 w1 ho1 hg1
  have hb1 : Below w.heap.size w w1 := (OwnK.of_nil .u16 w.heap.size 36 w).grown (Below.refl _ _) (Nat.le_refl _) hg1
  have how : OwnK .u16 w.heap.size 36 w1 v1 (zs ++ List.replicate 0 77) := by simpa using ho1
  have hB1 : w.heap.size ≤ w1.heap.size := hb1.size
  clear ho1 hg1 hv0
  go_wp2
  go_loopw [3, 4] (fun u t wr => ∃ k : Nat, k ≤ 5 ∧ t = .int .i64 k ∧ OwnK .u16 w.heap.size 36 wr u (zs ++ List.replicate k 77) ∧ Below w.heap.size w wr ∧ w.heap.size ≤ wr.heap.size) (fun _ t _ => 5 - (intOf t).toNat)
  case atStart => exact ⟨0, by omega, rfl, how, hb1, hB1⟩
  case round =>
    clear how hb1 hB1
    obtain ⟨k, hk, rfl, how, hbel, hB1⟩ := hrel
    by_cases hk5 : k < 5
    · have hlt : (k : Int) < 5 := by omega
      have hlen : (zs ++ List.replicate k 77).length = n + k := by rw [List.length_append, List.length_replicate, HN.out]
      have HO : Hid (wr.ownsRow w.heap.size 36 1 u3 (n + k) ((zs ++ List.replicate k 77).map (Value.int .u16))) := by have := how; unfold OwnK at this; rw [hlen] at this; exact this
      have HH : Hid (OwnK .u16 w.heap.size 36 wr u3 (zs ++ List.replicate k 77)) := how
      have HL : Hid ((zs ++ List.replicate k 77).length = n + k) := hlen
      have HR : Hid (zs ++ List.replicate (k + 1) 77 = (zs ++ List.replicate k 77) ++ [77]) := by show _ = _; rw [List.replicate_succ', List.append_assoc]
      have hB3 : ∀ o, w.heap.size ≤ (wr.alloc o).heap.size := fun o => by simp; omega
      clear how hlen
      generalize zs ++ List.replicate k 77 = L at *
      go_wp2_with (at_builtin; refine wpList_append_own _ rfl _ _ 37 rfl w.heap.size 36 i0 (.int .u16 0) 1 2 Try.underlying37 hi hz0 hz1 hz2 rfl (by decide) _ (n + k) (L.map (Value.int .u16)) rfl (HO.out.alloc _) ⟨wr.heap.size, 0, none⟩ 1 1 [.int .u16 77] rfl rfl (cell_oneR _ _ _) (fun u hu => by simp at hu; subst hu; rfl) (by unfold maxLen; omega) (by omega) (hB3 _) ?_)
      intro v' w2 ho hgr _
      have R := HH.out.push hbel hB1 (z := 77) (by rw [HL.out]; exact ho) hgr
      clear ho hgr HH HO
      go_wp2
      go_roundw
      case rel => exact ⟨k + 1, by omega, by go_num, by rw [HR.out]; exact R.1, R.2.1, R.2.2⟩
      case measure => simp [intOf]; omega
    · have hk5' : k = 5 := by omega
      subst hk5'
      obtain ⟨ao3, cap3, e3, h3, h4, h5, -⟩ := how.sl
      have hlen : (zs ++ List.replicate 5 77).length = n + 5 := by rw [List.length_append, List.length_replicate, HN.out]
      rw [hlen] at e3 h3 h4
      obtain ⟨g, -, rfl⟩ := h3 (by omega)
      have HR : Hid (RoomK .u16 w.heap.size 36 wr (.slice (some ⟨g, 0, none⟩) n cap3) zs) := ⟨g, cap3, by rw [HN.out], by rw [HN.out, ← e3]; exact how⟩
      subst e3
      have hnc : (n : Int) ≤ (cap3 : Int) := by omega
      clear how hlen
      go_wp2
      go_ret
      exact ⟨_, rfl, HR.out, hbel⟩
set_option maxRecDepth 100000 in
set_option maxHeartbeats 1600000 in
theorem keptS (B : Nat) (u v : Value) (zs : List Int) (w : World) (hr : RoomK .u16 B 36 w u zs) (hv : RK .u16 w v zs) (hz : zs.length ≤ 17592186043904) :
    Calls Try.prog 46 #[u, v] w fun e w' => e = .returned (.bool true) ∧ ∃ q, w' = w.drewN q := by
  obtain ⟨g, capR, rfl, how⟩ := hr
  have hin := hv.inK
  have hRf := RK.of_own how (inK_marks hin (by decide) 5)
  obtain ⟨ao', cap', e', -, h4, h5, -⟩ := how.sl
  rw [List.length_append, List.length_replicate] at e' h4
  simp only [Value.slice.injEq] at e'
  obtain ⟨-, -, rfl⟩ := e'
  unfold maxLen at h5
  obtain ⟨ao, cap, rfl, hc, hm, -, -, hcell⟩ := hv
  clear how
  obtain ⟨n, hn⟩ : ∃ n, zs.length = n := ⟨_, rfl⟩
  rw [hn] at hc hz hRf h4 ⊢
  have HN : Hid (zs.length = n) := hn
  clear hn
  have heq : ((n : Int) == (n : Int)) = true := by simp
  have hnc : (n : Int) + 5 ≤ (capR : Int) := by omega
  go_enter Try.func46, Try.ntmps46
  go_wp2
  go_loopw [6] (fun t wr => ∃ k : Nat, k ≤ n + 5 ∧ t = .int .i64 k ∧ ∃ q, wr = w.drewN q) (fun t _ => n + 5 - (intOf t).toNat)
  case atStart => exact ⟨0, Nat.zero_le _, rfl, 0, rfl⟩
  case round =>
    obtain ⟨k, hk, rfl, q, rfl⟩ := hrel
    by_cases hk5 : k < n + 5
    · obtain ⟨b', o', e', c0⟩ := hRf.at hk5
      simp only [Option.some.injEq, Addr.mk.injEq, and_true] at e'
      obtain ⟨rfl, rfl⟩ := e'
      rw [Nat.zero_add] at c0
      by_cases hkn : k < n
      · obtain ⟨b, off, rfl, c1⟩ := hcell k (by rw [HN.out]; exact hkn)
        rw [room_at (by rw [HN.out]; exact hkn)] at c0
        clear hcell hRf
        generalize zs.getD k 0 = x at *
        have hlt : (k : Int) < (n : Int) := by omega
        have hlt5 : (k : Int) < (n : Int) + 5 := by omega
        have hne : ((x : Int) != (x : Int)) = false := by simp
        have hgd : decide (n ≤ k) = false := by simp; omega
        have hgt : decide (k < n) = true := by simp; omega
        go_wp2
        go_quiet (fail)
        go_wp2
        go_roundw
        case rel => exact ⟨k + 1, by omega, by go_num, _, rfl⟩
        case measure => simp [intOf]; omega
      · rw [room_mk (by rw [HN.out]; omega) (by rw [HN.out]; exact hk5)] at c0
        clear hcell hRf
        have hlt : ¬ (k : Int) < (n : Int) := by omega
        have hld : decide (k < n) = false := by simp; omega
        have hgd : decide (n ≤ k) = true := by simp; omega
        have hlt5 : (k : Int) < (n : Int) + 5 := by omega
        have hge : (n : Int) ≤ (k : Int) := by omega
        go_wp2
        go_quiet (fail)
        go_wp2
        go_roundw
        case rel => exact ⟨k + 1, by omega, by go_num, _, rfl⟩
        case measure => simp [intOf]; omega
    · have hlt5 : ¬ (k : Int) < (n : Int) + 5 := by omega
      clear hcell hRf
      go_wp2
      go_ret
      exact ⟨rfl, q, rfl⟩
set_option maxRecDepth 100000 in
set_option maxHeartbeats 1600000 in
theorem plainS (v : Value) (zs : List Int) (w : World) (hv : RK .u16 w v zs) (hz : zs.length ≤ 17592186043904) :
    Calls Try.prog 42 #[v] w fun e w' => ∃ u, e = .returned u ∧ OwnK .i64 w.heap.size 3 w' u zs ∧ Below w.heap.size w w' := by
  have hv' := fun w' (h : Below w.heap.size w w') => hv.below (Nat.le_refl _) h
  obtain ⟨ao, cap, rfl, hc, hm, -, hbd, -⟩ := hv
  unfold maxLen at hm
  obtain ⟨i0, hi, hz0, hz1, hz2⟩ := info_parts Try.infoI
  obtain ⟨n, hn⟩ : ∃ n, zs.length = n := ⟨_, rfl⟩
  rw [hn] at hc hz hv' ⊢
  have HN : Hid (zs.length = n) := hn
  clear hn
  go_enter Try.func42, Try.ntmps42
  go_wp2
  go_loopw [3, 4] (fun u t wr => ∃ k : Nat, k ≤ n ∧ t = .int .i64 k ∧ OwnK .i64 w.heap.size 3 wr u (zs.take k) ∧ Below w.heap.size w wr ∧ w.heap.size ≤ wr.heap.size) (fun _ t _ => n - (intOf t).toNat)
  case atStart => exact ⟨0, Nat.zero_le _, rfl, OwnK.of_nil _ _ _ _, Below.refl _ _, Nat.le_refl _⟩
  case round =>
    obtain ⟨k, hkn, rfl, how, hbel, hB1⟩ := hrel
    by_cases hlt : k < n
    · have hltI : (k : Int) < (n : Int) := by omega
      obtain ⟨b, off, rfl, c0⟩ := (hv' wr hbel).at hlt
      obtain ⟨hx1, hx2⟩ := hbd k (by rw [HN.out]; exact hlt)
      rw [min_u16] at hx1
      rw [max_u16] at hx2
      have hlk : (zs.take k).length = k := by rw [List.length_take, HN.out]; omega
      have HT : Hid (zs.take (k + 1) = zs.take k ++ [zs.getD k 0]) := by
        show _ = _
        rw [List.take_succ_eq_append_getElem (by rw [HN.out]; exact hlt), List.getD_eq_getElem?_getD, List.getElem?_eq_getElem (by rw [HN.out]; exact hlt)]; rfl
      have HO : Hid (wr.ownsRow w.heap.size 3 1 u3 k ((zs.take k).map (Value.int .i64))) := by have := how; unfold OwnK at this; rw [hlk] at this; exact this
      have HH : Hid (OwnK .i64 w.heap.size 3 wr u3 (zs.take k)) := how
      have HL : Hid ((zs.take k).length = k) := hlk
      have hB3 : ∀ o, w.heap.size ≤ (wr.alloc o).heap.size := fun o => by simp; omega
      clear how hlk hv' hbd
      generalize zs.getD k 0 = x at *
      generalize zs.take k = L at *
      go_wp2_with (at_builtin; refine wpList_append_own _ rfl _ _ 25 rfl w.heap.size 3 i0 (.int .i64 0) 1 8 Try.underlying25 hi hz0 hz1 hz2 rfl (by decide) _ k (L.map (Value.int .i64)) rfl (HO.out.alloc _) ⟨wr.heap.size, 0, none⟩ 1 1 [.int .i64 x] rfl rfl (cell_oneR _ _ _) (fun u hu => by simp at hu; subst hu; rfl) (by unfold maxLen; omega) (by omega) (hB3 _) ?_)
      intro v' w2 ho hgr _
      have R := HH.out.push hbel hB1 (z := x) (by rw [HL.out]; exact ho) hgr
      clear ho hgr HH HO
      go_wp2
      go_roundw
      case rel => exact ⟨k + 1, by omega, by go_num, by rw [HT.out]; exact R.1, R.2.1, R.2.2⟩
      case measure => simp [intOf]; omega
    · have hltI : ¬ (k : Int) < (n : Int) := by omega
      have hall : zs.take k = zs := List.take_of_length_le (by have := HN.out; omega)
      rw [hall] at how
      clear hv' hbd hall
      go_wp2
      go_ret
      exact ⟨_, rfl, how, hbel⟩
set_option maxRecDepth 100000 in
set_option maxHeartbeats 1600000 in
theorem sameS (v u : Value) (zs : List Int) (w : World) (hv : RK .u16 w v zs) (hu : RK .i64 w u zs) :
    Calls Try.prog 45 #[v, u] w fun e w' => e = .returned (.bool true) ∧ ∃ q, w' = w.drewN q := by
  obtain ⟨ao, cap, rfl, hc, hm, -, hbd, hcell⟩ := hv
  obtain ⟨ao', cap', rfl, hc', hm', -, -, hcell'⟩ := hu
  unfold maxLen at hm hm'
  obtain ⟨n, hn⟩ : ∃ n, zs.length = n := ⟨_, rfl⟩
  rw [hn] at hc hc' ⊢
  have HN : Hid (zs.length = n) := hn
  clear hn
  have hne : (((n : Nat) : Int) != ((n : Nat) : Int)) = false := by simp
  go_enter Try.func45, Try.ntmps45
  go_wp2
  go_loopw [5] (fun t wr => ∃ k : Nat, k ≤ n ∧ t = .int .i64 k ∧ ∃ q, wr = w.drewN q) (fun t _ => n - (intOf t).toNat)
  case atStart => exact ⟨0, Nat.zero_le _, rfl, 0, rfl⟩
  case round =>
    obtain ⟨k, hk, rfl, q, rfl⟩ := hrel
    by_cases hkn : k < n
    · obtain ⟨b, off, rfl, c0⟩ := hcell k (by rw [HN.out]; exact hkn)
      obtain ⟨b', off', rfl, c1⟩ := hcell' k (by rw [HN.out]; exact hkn)
      obtain ⟨hx1, hx2⟩ := hbd k (by rw [HN.out]; exact hkn)
      rw [min_u16] at hx1
      rw [max_u16] at hx2
      clear hcell hcell' hbd
      generalize zs.getD k 0 = x at *
      have hlt : (k : Int) < (n : Int) := by omega
      have hwx : IntKind.i64.wrap x = x := wrap_i64 (by omega) (by omega)
      have hnx : ((x : Int) != (x : Int)) = false := by simp
      go_wp2
      go_quiet (fail)
      go_wp2
      go_roundw
      case rel => exact ⟨k + 1, by omega, by go_num, _, rfl⟩
      case measure => simp [intOf]; omega
    · have hge : ¬ (k : Int) < (n : Int) := by omega
      clear hcell hcell' hbd
      go_wp2
      go_ret
      exact ⟨rfl, q, rfl⟩
end Go.Proofs.Ytfanomoijjjcmaa

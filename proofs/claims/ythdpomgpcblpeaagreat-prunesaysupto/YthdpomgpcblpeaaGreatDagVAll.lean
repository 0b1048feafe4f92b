/-
  Proved here: the document's Has, inside, twice.
  Proved here: the document's out and Check.
-/
import Derived.Test.YthdpomgpcblpeaaGreatDagOAll
import Derived.Test.YthdpomgpcblpeaaGreatDagTAll
import Derived.Test.YthdpomgpcblpeaaGreatDagCyOAll
namespace Go.Proofs.YthdpomgpcblpeaaGreat
set_option linter.unusedVariables false
open Go.RowKit
set_option maxRecDepth 100000 in
set_option maxHeartbeats 1600000 in
theorem hasD (v : Value) (zs : List Int) (x : Int) (w : World) (hv : RG (Value.int .i64) w v zs) :
    Calls Tryz.prog 19 #[v, .int .i64 x] w fun e w' => e = .returned (.bool (decide (x ∈ zs))) ∧ w' = w := by
  obtain ⟨vo, vn, vc, rfl⟩ : ∃ o n c, v = .slice o n c := by obtain ⟨ao, cap, e⟩ := hv.sl; exact ⟨_, _, _, e⟩
  have hm : vn ≤ 9223372036854775807 := by have := hv.room.2.1; have := hv.room.1; unfold maxLen at *; omega
  have HV : Hid (RG (Value.int .i64) w (.slice vo vn vc) zs) := hv
  have HN : Hid (zs.length = vn) := hv.len
  clear hv
  go_enter Tryz.func19, Tryz.ntmps19
  go_wp2
  go_loopg [5] vn (fun g1 v5 wr => ∃ k : Nat, v5 = .int .i64 k ∧ k ≤ vn ∧ vn - k ≤ g1 ∧ Hid (x ∉ zs.take k) ∧ wr = w)
  case atStart => exact ⟨0, rfl, by omega, by omega, by show _ ∉ _; simp, rfl⟩
  case round =>
    obtain ⟨k, rfl, hk, hg1, HA, rfl⟩ := hrel
    by_cases hlt : k < vn
    · have hltz : (k : Int) < (vn : Int) := by omega
      obtain ⟨y, g, o, hy1, rfl, hy2⟩ := HV.out.at hlt
      have htk : zs.take (k + 1) = zs.take k ++ [y] := by rw [List.take_add_one, hy1]; rfl
      by_cases he : y = x
      · have HE : Hid (decide (x ∈ zs) = true) := decide_eq_true (by rw [← he]; exact List.mem_of_getElem? hy1)
        have hez : (y == x) = true := by simpa using he
        clear he hy1 htk HA
        go_wp2
        go_ret
        exact ⟨by rw [HE.out]; rfl, rfl⟩
      · have HA2 : Hid (x ∉ zs.take (k + 1)) := by
          show _ ∉ _
          rw [htk, List.mem_append, List.mem_singleton]
          exact fun h => h.elim HA.out (fun e => he e.symm)
        have hez : (y == x) = false := by simpa using he
        clear he hy1 htk HA
        go_wp2
        clear hy2
        go_roundg (vn - (k + 1))
        case measure => omega
        case rel => exact ⟨k + 1, by first | rfl | go_num, by omega, Nat.le_refl _, HA2, rfl⟩
    · have hltz : ¬ (k : Int) < (vn : Int) := by omega
      have HE : Hid (decide (x ∈ zs) = false) := by
        have := HA.out
        rw [List.take_of_length_le (by rw [HN.out]; omega)] at this
        exact decide_eq_false this
      clear HA
      go_wp2
      go_ret
      exact ⟨by rw [HE.out]; rfl, rfl⟩
set_option maxRecDepth 100000 in
set_option maxHeartbeats 3200000 in
theorem insideD (pv : Value) (pvs : List Value) (P : List (List Int)) (w : World) (h : RRD w pv pvs P) (n : Nat) (hn : P.length = n) (hb : n ≤ 100000) :
    Calls Tryz.prog 41 #[pv] w fun e w' => e = .returned (.bool (!outsB P)) ∧ w' = w := by
  obtain ⟨po, pn, pc, rfl⟩ : ∃ o n c, pv = .slice o n c := by obtain ⟨ao, cap, e⟩ := h.out.sl; exact ⟨_, _, _, e⟩
  obtain rfl : pn = n := by rw [← hn, ← h.len, h.out.len]
  have HR : Hid (RRD w (.slice po pn pc) pvs P) := h
  have HN : Hid (P.length = pn) := hn
  clear h hn
  go_enter Tryz.func41, Tryz.ntmps41
  go_wp2
  go_loopg [3, 4, 5] pn (fun g1 v3 _v4 _v5 wr => ∃ i : Nat, v3 = .int .i64 i ∧ i ≤ pn ∧ pn - i ≤ g1 ∧ Hid ((P.take i).any (noPts (pn : Int)) = false) ∧ wr = w)
  case atStart => exact ⟨0, rfl, by omega, by omega, rfl, rfl⟩
  case round =>
    obtain ⟨i, rfl, hin, hg1, HA, rfl⟩ := hrel
    by_cases hlt : i < pn
    · have hltz : (i : Int) < (pn : Int) := by omega
      obtain ⟨x, gp, op, hx1, rfl, hx2⟩ := HR.out.out.at hlt
      have hxr := HR.out.inn i x hx1
      obtain ⟨xo, xn, xc, rfl⟩ : ∃ o n c, x = .slice o n c := by obtain ⟨ao, cap, e⟩ := hxr.sl; exact ⟨_, _, _, e⟩
      have hxm : xn ≤ 9223372036854775807 := by have := hxr.room.2.1; have := hxr.room.1; unfold maxLen at *; omega
      change wr.cell? ⟨gp, op + i, none⟩ = some (.slice xo xn xc) at hx2
      have HX : Hid (RG (Value.int .i64) wr (.slice xo xn xc) (P.getD i [])) := hxr
      have HTK : Hid ((P.take (i + 1)).any (noPts (pn : Int)) = noPts (pn : Int) (P.getD i [])) := by show _ = _; rw [anyP_take (by rw [HN.out]; exact hlt), HA.out]; rfl
      have HYS : Hid (noPts (pn : Int) (P.getD i []) = true → outsB P = true) := fun h => by unfold outsB; rw [HN.out]; exact anyP_at (by rw [HN.out]; exact hlt) h
      clear hxr hx1 HA
      go_wp2
      go_loopg [4, 5] xn (fun g2 v4 _v5 wq => ∃ k : Nat, v4 = .int .i64 k ∧ k ≤ xn ∧ xn - k ≤ g2 ∧ Hid (((P.getD i []).take k).any (noPt (pn : Int)) = false) ∧ wq = wr)
      case atStart => exact ⟨0, rfl, by omega, by omega, rfl, rfl⟩
      case round =>
        obtain ⟨k, rfl, hkx, hg2, HK, hwq⟩ := hrel
        subst hwq
        by_cases hlk : k < xn
        · have hlkz : (k : Int) < (xn : Int) := by omega
          obtain ⟨y, gx, ox, hy1, rfl, hy2⟩ := HX.out.at hlk
          have e0 : (P.getD i []).getD k 0 = y := by rw [List.getD_eq_getElem?_getD, hy1]; rfl
          have hkl : k < (P.getD i []).length := (List.getElem?_eq_some_iff.1 hy1).1
          have HST : Hid (((P.getD i []).take (k + 1)).any (noPt (pn : Int)) = noPt (pn : Int) y) := by show _ = _; rw [any_take hkl, HK.out, e0]; rfl
          have HY2 : Hid (noPt (pn : Int) y = true → outsB P = true) := fun h => HYS.out (any_at hkl (by rw [e0]; exact h))
          clear e0 hkl hy1 HK
          by_cases h1 : y < 0
          · have HE : Hid (outsB P = true) := HY2.out (by simp [noPt, h1])
            clear HST HY2
            go_wp2
            go_ret
            exact ⟨by rw [HE.out]; rfl, rfl⟩
          · by_cases h2 : (pn : Int) ≤ y
            · have HE : Hid (outsB P = true) := HY2.out (by simp [noPt, h2])
              clear HST HY2
              go_wp2
              go_ret
              exact ⟨by rw [HE.out]; rfl, rfl⟩
            · have HK2 : Hid (((P.getD i []).take (k + 1)).any (noPt (pn : Int)) = false) := by show _ = _; rw [HST.out]; simp [noPt, h1, h2]
              clear HST HY2
              go_wp2
              clear hy2
              go_roundg (xn - (k + 1))
              case measure => omega
              case rel => exact ⟨k + 1, by first | rfl | go_num, by omega, Nat.le_refl _, HK2, rfl⟩
        · have hlkz : ¬ (k : Int) < (xn : Int) := by omega
          have HT2 : Hid ((P.take (i + 1)).any (noPts (pn : Int)) = false) := by
            show _ = _
            rw [HTK.out]
            have := HK.out
            rw [List.take_of_length_le (by rw [HX.out.len]; omega)] at this
            exact this
          clear HK HTK HYS HX
          go_wp2
          clear hx2
          go_roundg (pn - (i + 1))
          case measure => omega
          case rel => exact ⟨i + 1, by first | rfl | go_num, by omega, Nat.le_refl _, HT2, rfl⟩
    · have hltz : ¬ (i : Int) < (pn : Int) := by omega
      obtain rfl : i = pn := by omega
      have HE : Hid (outsB P = false) := by
        show _ = _
        have := HA.out
        unfold outsB
        rw [List.take_of_length_le (by rw [HN.out]; exact Nat.le_refl _)] at this
        rw [HN.out]; exact this
      clear HA
      go_wp2
      go_ret
      exact ⟨by rw [HE.out]; rfl, rfl⟩
set_option maxRecDepth 100000 in
set_option maxHeartbeats 3200000 in
theorem twiceD (pv : Value) (pvs : List Value) (P : List (List Int)) (w : World) (h : RRD w pv pvs P) (n : Nat) (hn : P.length = n) (hb : n ≤ 100000) :
    Calls Tryz.prog 42 #[pv] w fun e w' => e = .returned (.bool (twicesB P)) ∧ Below w.heap.size w w' := by
  obtain ⟨po, pn, pc, rfl⟩ : ∃ o n c, pv = .slice o n c := by obtain ⟨ao, cap, e⟩ := h.out.sl; exact ⟨_, _, _, e⟩
  obtain rfl : pn = n := by rw [← hn, ← h.len, h.out.len]
  have HR : Hid (RRD w (.slice po pn pc) pvs P) := h
  have HN : Hid (P.length = pn) := hn
  clear h hn
  go_enter Tryz.func42, Tryz.ntmps42
  go_wp2
  go_loopg [3, 4] pn (fun g1 v3 _v4 wr => ∃ i : Nat, v3 = .int .i64 i ∧ i ≤ pn ∧ pn - i ≤ g1 ∧ Hid ((P.take i).any twiceB = false) ∧ Hid (Below w.heap.size w wr))
  case atStart => exact ⟨0, rfl, by omega, by omega, rfl, Below.refl _ _⟩
  case round =>
    obtain ⟨i, rfl, hin, hg1, HA, HB⟩ := hrel
    by_cases hlt : i < pn
    · have hltz : (i : Int) < (pn : Int) := by omega
      obtain ⟨x, gp, op, hx1, rfl, hx0⟩ := HR.out.out.at hlt
      have hxr := HR.out.inn i x hx1
      obtain ⟨xo, xn, xc, rfl⟩ : ∃ o n c, x = .slice o n c := by obtain ⟨ao, cap, e⟩ := hxr.sl; exact ⟨_, _, _, e⟩
      change w.cell? ⟨gp, op + i, none⟩ = some (.slice xo xn xc) at hx0
      have HX0 : Hid (w.cell? ⟨gp, op + i, none⟩ = some (.slice xo xn xc)) := hx0
      obtain ⟨hr1, hr2, hr3⟩ := hxr.room
      have hxm : xn ≤ 9223372036854775807 := by unfold maxLen at hr2; omega
      have HX : Hid (RG (Value.int .i64) w (.slice xo xn xc) (P.getD i [])) := hxr
      have HTK : Hid ((P.take (i + 1)).any twiceB = twiceB (P.getD i [])) := by show _ = _; rw [anyP_take (by rw [HN.out]; exact hlt), HA.out]; rfl
      have HYS : Hid (twiceB (P.getD i []) = true → twicesB P = true) := fun h => anyP_at (by rw [HN.out]; exact hlt) h
      have HND0 : Hid (((P.getD i []).take 0).Nodup) := List.nodup_nil
      clear hxr hx1 HA hx0
      go_wp2
      go_loopg [4] xn (fun g2 v4 wq => ∃ k : Nat, v4 = .int .i64 k ∧ k ≤ xn ∧ xn - k ≤ g2 ∧ Hid (((P.getD i []).take k).Nodup) ∧ Hid (Below w.heap.size w wq))
      case atStart => exact ⟨0, rfl, by omega, by omega, HND0, HB⟩
      case round =>
        clear HB HND0
        obtain ⟨k, rfl, hkx, hg2, HK, HB⟩ := hrel
        have hxc : wr.cell? ⟨gp, op + i, none⟩ = some (.slice xo xn xc) := keepR HB.out HX0.out
        by_cases hlk : k < xn
        · have hlkz : (k : Int) < (xn : Int) := by omega
          obtain ⟨y, gx, ox, hy1, rfl, hy2⟩ := (HX.out.below (Nat.le_refl _) HB.out).at hlk
          have hkc : (k : Int) ≤ (xc : Int) := by omega
          have HCC : Hid (∀ W, Below w.heap.size w W → Calls Tryz.prog 19 #[.slice (some ⟨gx, ox, none⟩) k xc, .int .i64 y] W fun e w' => e = .returned (.bool (decide (y ∈ (P.getD i []).take k))) ∧ w' = W) := fun W hW => hasD _ _ y _ ((HX.out.below (Nat.le_refl _) hW).cut (by omega))
          by_cases hm : y ∈ (P.getD i []).take k
          · have HE : Hid (twicesB P = true) := HYS.out (twice_at hy1 hm)
            rw [decide_eq_true hm] at HCC
            clear hy1 hm HK HTK HYS
            go_upto_region 7 with fail
            have KEEP : ∀ u, Below wr.heap.size wr u → L4.AllL u [(3, fun w' => w'.cell? ⟨gp, op + i, none⟩ = some (.slice (some ⟨gx, ox, none⟩) xn xc)), (9, fun w' => w'.cell? ⟨gp, op + i, none⟩ = some (.slice (some ⟨gx, ox, none⟩) xn xc)), (12, fun w' => w'.cell? ⟨gx, ox + k, none⟩ = some (.int .i64 y))] := fun u hu => ⟨keepR hu hxc, keepR hu hxc, keepR hu hy2, trivial⟩
            refine L4.region_late [(3, fun w' => w'.cell? ⟨gp, op + i, none⟩ = some (.slice (some ⟨gx, ox, none⟩) xn xc)), (9, fun w' => w'.cell? ⟨gp, op + i, none⟩ = some (.slice (some ⟨gx, ox, none⟩) xn xc)), (12, fun w' => w'.cell? ⟨gx, ox + k, none⟩ = some (.int .i64 y))] (by kernel_rfl) ?_
            have B : Below wr.heap.size wr wr.drew := (Below.refl _ _).drew
            obtain ⟨w1, hw1⟩ : ∃ u, u = wr.drew := ⟨_, rfl⟩
            rw [← hw1] at B ⊢
            clear hw1
            have hHeld := KEEP _ B
            refine L4.late_free 0 (v := .slice (some ⟨gp, op, none⟩) pn pc) rfl (by kernel_rfl) (by kernel_rfl) (by kernel_rfl) (by kernel_rfl) (by kernel_rfl) (by kernel_rfl) (fun _ _ _ h => h) (Or.inl ⟨by rfl, ?_⟩) hHeld ?_
            · (intro u _; go_simp)
            (try simp only [Act.put, List.setIfInBounds_toArray, List.set_cons_zero, List.set_cons_succ])
            refine L4.late_free 1 (v := .int .i64 ((i : Nat) : Int)) rfl (by kernel_rfl) (by kernel_rfl) (by kernel_rfl) (by kernel_rfl) (by kernel_rfl) (by kernel_rfl) (fun _ _ _ h => h) (Or.inl ⟨by rfl, ?_⟩) hHeld ?_
            · (intro u _; go_simp)
            (try simp only [Act.put, List.setIfInBounds_toArray, List.set_cons_zero, List.set_cons_succ])
            refine L4.late_free 2 (v := .pointer (some ⟨gp, op + i, none⟩)) rfl (by kernel_rfl) (by kernel_rfl) (by kernel_rfl) (by kernel_rfl) (by kernel_rfl) (by kernel_rfl) (fun _ _ _ h => h) (Or.inl ⟨by rfl, ?_⟩) hHeld ?_
            · (intro u _; go_simp)
            (try simp only [Act.put, List.setIfInBounds_toArray, List.set_cons_zero, List.set_cons_succ])
            refine L4.late_take 3 (v := .slice (some ⟨gx, ox, none⟩) xn xc) rfl (by kernel_rfl) (List.Mem.head _) (by kernel_rfl) (by kernel_rfl) (by kernel_rfl) (by kernel_rfl) (fun _ _ _ h => h) (Or.inl ⟨by rfl, ?_⟩) hHeld ?_
            · (intro u hu; (try dsimp only at hu); go_split_ands; go_simp)
            (try simp only [Act.put, List.setIfInBounds_toArray, List.set_cons_zero, List.set_cons_succ])
            refine L4.late_free 4 (v := .int .i64 ((k : Nat) : Int)) rfl (by kernel_rfl) (by kernel_rfl) (by kernel_rfl) (by kernel_rfl) (by kernel_rfl) (by kernel_rfl) (fun _ _ _ h => h) (Or.inl ⟨by rfl, ?_⟩) hHeld ?_
            · (intro u _; go_simp)
            (try simp only [Act.put, List.setIfInBounds_toArray, List.set_cons_zero, List.set_cons_succ])
            refine L4.late_free 5 (v := .slice (some ⟨gx, ox, none⟩) k xc) rfl (by kernel_rfl) (by kernel_rfl) (by kernel_rfl) (by kernel_rfl) (by kernel_rfl) (by kernel_rfl) (fun _ _ _ h => h) (Or.inl ⟨by rfl, ?_⟩) hHeld ?_
            · (intro u _; go_simp)
            (try simp only [Act.put, List.setIfInBounds_toArray, List.set_cons_zero, List.set_cons_succ])
            refine L4.late_free 6 (v := .slice (some ⟨gp, op, none⟩) pn pc) rfl (by kernel_rfl) (by kernel_rfl) (by kernel_rfl) (by kernel_rfl) (by kernel_rfl) (by kernel_rfl) (fun _ _ _ h => h) (Or.inl ⟨by rfl, ?_⟩) hHeld ?_
            · (intro u _; go_simp)
            (try simp only [Act.put, List.setIfInBounds_toArray, List.set_cons_zero, List.set_cons_succ])
            refine L4.late_free 7 (v := .int .i64 ((i : Nat) : Int)) rfl (by kernel_rfl) (by kernel_rfl) (by kernel_rfl) (by kernel_rfl) (by kernel_rfl) (by kernel_rfl) (fun _ _ _ h => h) (Or.inl ⟨by rfl, ?_⟩) hHeld ?_
            · (intro u _; go_simp)
            (try simp only [Act.put, List.setIfInBounds_toArray, List.set_cons_zero, List.set_cons_succ])
            refine L4.late_free 8 (v := .pointer (some ⟨gp, op + i, none⟩)) rfl (by kernel_rfl) (by kernel_rfl) (by kernel_rfl) (by kernel_rfl) (by kernel_rfl) (by kernel_rfl) (fun _ _ _ h => h) (Or.inl ⟨by rfl, ?_⟩) hHeld ?_
            · (intro u _; go_simp)
            (try simp only [Act.put, List.setIfInBounds_toArray, List.set_cons_zero, List.set_cons_succ])
            refine L4.late_take 9 (v := .slice (some ⟨gx, ox, none⟩) xn xc) rfl (by kernel_rfl) (List.Mem.tail _ (List.Mem.head _)) (by kernel_rfl) (by kernel_rfl) (by kernel_rfl) (by kernel_rfl) (fun _ _ _ h => h) (Or.inl ⟨by rfl, ?_⟩) hHeld ?_
            · (intro u hu; (try dsimp only at hu); go_split_ands; go_simp)
            (try simp only [Act.put, List.setIfInBounds_toArray, List.set_cons_zero, List.set_cons_succ])
            refine L4.late_free 10 (v := .int .i64 ((k : Nat) : Int)) rfl (by kernel_rfl) (by kernel_rfl) (by kernel_rfl) (by kernel_rfl) (by kernel_rfl) (by kernel_rfl) (fun _ _ _ h => h) (Or.inl ⟨by rfl, ?_⟩) hHeld ?_
            · (intro u _; go_simp)
            (try simp only [Act.put, List.setIfInBounds_toArray, List.set_cons_zero, List.set_cons_succ])
            refine L4.late_free 11 (v := .pointer (some ⟨gx, ox + k, none⟩)) rfl (by kernel_rfl) (by kernel_rfl) (by kernel_rfl) (by kernel_rfl) (by kernel_rfl) (by kernel_rfl) (fun _ _ _ h => h) (Or.inl ⟨by rfl, ?_⟩) hHeld ?_
            · (intro u _; go_simp)
            (try simp only [Act.put, List.setIfInBounds_toArray, List.set_cons_zero, List.set_cons_succ])
            refine L4.late_take 12 (v := .int .i64 y) rfl (by kernel_rfl) (List.Mem.tail _ (List.Mem.tail _ (List.Mem.head _))) (by kernel_rfl) (by kernel_rfl) (by kernel_rfl) (by kernel_rfl) (fun _ _ _ h => h) (Or.inl ⟨by rfl, ?_⟩) hHeld ?_
            · (intro u hu; (try dsimp only at hu); go_split_ands; go_simp)
            (try simp only [Act.put, List.setIfInBounds_toArray, List.set_cons_zero, List.set_cons_succ])
            refine L4.late_step 13 (by kernel_rfl) rfl (fun K hK => ?_)
            go_simp
            refine (HCC.out _ (HB.out.trans (B.mono HB.out.size))).mono ?_
            rintro e y2 ⟨rfl, hh2⟩
            have c2 : Below w1.heap.size w1 y2 := by rw [hh2]; exact Below.refl _ _
            clear hh2
            have B := B.trans (c2.mono B.size)
            clear c2 hHeld
            have hHeld := KEEP _ B
            go_wp2_with fail
            refine hK.out _ _ (L4.AllL.kept hHeld) ?_
            clear hK K
            (try simp only [Act.put, List.setIfInBounds_toArray, List.set_cons_zero, List.set_cons_succ])
            refine L4.late_done (by kernel_rfl) ?_ _
            clear hHeld KEEP
            have HB2 : Hid (Below w.heap.size w y2) := HB.out.trans (B.mono HB.out.size)
            clear B hxc hy2 HCC HB
            go_wp2
            go_ret
            exact ⟨by rw [HE.out]; rfl, HB2.out⟩
          · have HK2 : Hid (((P.getD i []).take (k + 1)).Nodup) := nodup_take HK.out hy1 hm
            rw [decide_eq_false hm] at HCC
            clear hy1 hm HK
            go_upto_region 7 with fail
            have KEEP : ∀ u, Below wr.heap.size wr u → L4.AllL u [(3, fun w' => w'.cell? ⟨gp, op + i, none⟩ = some (.slice (some ⟨gx, ox, none⟩) xn xc)), (9, fun w' => w'.cell? ⟨gp, op + i, none⟩ = some (.slice (some ⟨gx, ox, none⟩) xn xc)), (12, fun w' => w'.cell? ⟨gx, ox + k, none⟩ = some (.int .i64 y))] := fun u hu => ⟨keepR hu hxc, keepR hu hxc, keepR hu hy2, trivial⟩
            refine L4.region_late [(3, fun w' => w'.cell? ⟨gp, op + i, none⟩ = some (.slice (some ⟨gx, ox, none⟩) xn xc)), (9, fun w' => w'.cell? ⟨gp, op + i, none⟩ = some (.slice (some ⟨gx, ox, none⟩) xn xc)), (12, fun w' => w'.cell? ⟨gx, ox + k, none⟩ = some (.int .i64 y))] (by kernel_rfl) ?_
            have B : Below wr.heap.size wr wr.drew := (Below.refl _ _).drew
            obtain ⟨w3, hw3⟩ : ∃ u, u = wr.drew := ⟨_, rfl⟩
            rw [← hw3] at B ⊢
            clear hw3
            have hHeld := KEEP _ B
            refine L4.late_free 0 (v := .slice (some ⟨gp, op, none⟩) pn pc) rfl (by kernel_rfl) (by kernel_rfl) (by kernel_rfl) (by kernel_rfl) (by kernel_rfl) (by kernel_rfl) (fun _ _ _ h => h) (Or.inl ⟨by rfl, ?_⟩) hHeld ?_
            · (intro u _; go_simp)
            (try simp only [Act.put, List.setIfInBounds_toArray, List.set_cons_zero, List.set_cons_succ])
            refine L4.late_free 1 (v := .int .i64 ((i : Nat) : Int)) rfl (by kernel_rfl) (by kernel_rfl) (by kernel_rfl) (by kernel_rfl) (by kernel_rfl) (by kernel_rfl) (fun _ _ _ h => h) (Or.inl ⟨by rfl, ?_⟩) hHeld ?_
            · (intro u _; go_simp)
            (try simp only [Act.put, List.setIfInBounds_toArray, List.set_cons_zero, List.set_cons_succ])
            refine L4.late_free 2 (v := .pointer (some ⟨gp, op + i, none⟩)) rfl (by kernel_rfl) (by kernel_rfl) (by kernel_rfl) (by kernel_rfl) (by kernel_rfl) (by kernel_rfl) (fun _ _ _ h => h) (Or.inl ⟨by rfl, ?_⟩) hHeld ?_
            · (intro u _; go_simp)
            (try simp only [Act.put, List.setIfInBounds_toArray, List.set_cons_zero, List.set_cons_succ])
            refine L4.late_take 3 (v := .slice (some ⟨gx, ox, none⟩) xn xc) rfl (by kernel_rfl) (List.Mem.head _) (by kernel_rfl) (by kernel_rfl) (by kernel_rfl) (by kernel_rfl) (fun _ _ _ h => h) (Or.inl ⟨by rfl, ?_⟩) hHeld ?_
            · (intro u hu; (try dsimp only at hu); go_split_ands; go_simp)
            (try simp only [Act.put, List.setIfInBounds_toArray, List.set_cons_zero, List.set_cons_succ])
            refine L4.late_free 4 (v := .int .i64 ((k : Nat) : Int)) rfl (by kernel_rfl) (by kernel_rfl) (by kernel_rfl) (by kernel_rfl) (by kernel_rfl) (by kernel_rfl) (fun _ _ _ h => h) (Or.inl ⟨by rfl, ?_⟩) hHeld ?_
            · (intro u _; go_simp)
            (try simp only [Act.put, List.setIfInBounds_toArray, List.set_cons_zero, List.set_cons_succ])
            refine L4.late_free 5 (v := .slice (some ⟨gx, ox, none⟩) k xc) rfl (by kernel_rfl) (by kernel_rfl) (by kernel_rfl) (by kernel_rfl) (by kernel_rfl) (by kernel_rfl) (fun _ _ _ h => h) (Or.inl ⟨by rfl, ?_⟩) hHeld ?_
            · (intro u _; go_simp)
            (try simp only [Act.put, List.setIfInBounds_toArray, List.set_cons_zero, List.set_cons_succ])
            refine L4.late_free 6 (v := .slice (some ⟨gp, op, none⟩) pn pc) rfl (by kernel_rfl) (by kernel_rfl) (by kernel_rfl) (by kernel_rfl) (by kernel_rfl) (by kernel_rfl) (fun _ _ _ h => h) (Or.inl ⟨by rfl, ?_⟩) hHeld ?_
            · (intro u _; go_simp)
            (try simp only [Act.put, List.setIfInBounds_toArray, List.set_cons_zero, List.set_cons_succ])
            refine L4.late_free 7 (v := .int .i64 ((i : Nat) : Int)) rfl (by kernel_rfl) (by kernel_rfl) (by kernel_rfl) (by kernel_rfl) (by kernel_rfl) (by kernel_rfl) (fun _ _ _ h => h) (Or.inl ⟨by rfl, ?_⟩) hHeld ?_
            · (intro u _; go_simp)
            (try simp only [Act.put, List.setIfInBounds_toArray, List.set_cons_zero, List.set_cons_succ])
            refine L4.late_free 8 (v := .pointer (some ⟨gp, op + i, none⟩)) rfl (by kernel_rfl) (by kernel_rfl) (by kernel_rfl) (by kernel_rfl) (by kernel_rfl) (by kernel_rfl) (fun _ _ _ h => h) (Or.inl ⟨by rfl, ?_⟩) hHeld ?_
            · (intro u _; go_simp)
            (try simp only [Act.put, List.setIfInBounds_toArray, List.set_cons_zero, List.set_cons_succ])
            refine L4.late_take 9 (v := .slice (some ⟨gx, ox, none⟩) xn xc) rfl (by kernel_rfl) (List.Mem.tail _ (List.Mem.head _)) (by kernel_rfl) (by kernel_rfl) (by kernel_rfl) (by kernel_rfl) (fun _ _ _ h => h) (Or.inl ⟨by rfl, ?_⟩) hHeld ?_
            · (intro u hu; (try dsimp only at hu); go_split_ands; go_simp)
            (try simp only [Act.put, List.setIfInBounds_toArray, List.set_cons_zero, List.set_cons_succ])
            refine L4.late_free 10 (v := .int .i64 ((k : Nat) : Int)) rfl (by kernel_rfl) (by kernel_rfl) (by kernel_rfl) (by kernel_rfl) (by kernel_rfl) (by kernel_rfl) (fun _ _ _ h => h) (Or.inl ⟨by rfl, ?_⟩) hHeld ?_
            · (intro u _; go_simp)
            (try simp only [Act.put, List.setIfInBounds_toArray, List.set_cons_zero, List.set_cons_succ])
            refine L4.late_free 11 (v := .pointer (some ⟨gx, ox + k, none⟩)) rfl (by kernel_rfl) (by kernel_rfl) (by kernel_rfl) (by kernel_rfl) (by kernel_rfl) (by kernel_rfl) (fun _ _ _ h => h) (Or.inl ⟨by rfl, ?_⟩) hHeld ?_
            · (intro u _; go_simp)
            (try simp only [Act.put, List.setIfInBounds_toArray, List.set_cons_zero, List.set_cons_succ])
            refine L4.late_take 12 (v := .int .i64 y) rfl (by kernel_rfl) (List.Mem.tail _ (List.Mem.tail _ (List.Mem.head _))) (by kernel_rfl) (by kernel_rfl) (by kernel_rfl) (by kernel_rfl) (fun _ _ _ h => h) (Or.inl ⟨by rfl, ?_⟩) hHeld ?_
            · (intro u hu; (try dsimp only at hu); go_split_ands; go_simp)
            (try simp only [Act.put, List.setIfInBounds_toArray, List.set_cons_zero, List.set_cons_succ])
            refine L4.late_step 13 (by kernel_rfl) rfl (fun K hK => ?_)
            go_simp
            refine (HCC.out _ (HB.out.trans (B.mono HB.out.size))).mono ?_
            rintro e y4 ⟨rfl, hh4⟩
            have c4 : Below w3.heap.size w3 y4 := by rw [hh4]; exact Below.refl _ _
            clear hh4
            have B := B.trans (c4.mono B.size)
            clear c4 hHeld
            have hHeld := KEEP _ B
            go_wp2_with fail
            refine hK.out _ _ (L4.AllL.kept hHeld) ?_
            clear hK K
            (try simp only [Act.put, List.setIfInBounds_toArray, List.set_cons_zero, List.set_cons_succ])
            refine L4.late_done (by kernel_rfl) ?_ _
            clear hHeld KEEP
            have HB2 : Hid (Below w.heap.size w y4) := HB.out.trans (B.mono HB.out.size)
            clear B hxc hy2 HCC HB
            go_wp2
            go_roundg (xn - (k + 1))
            case measure => omega
            case rel => exact ⟨k + 1, by first | rfl | go_num, by omega, Nat.le_refl _, HK2, HB2⟩
        · have hlkz : ¬ (k : Int) < (xn : Int) := by omega
          have HT2 : Hid ((P.take (i + 1)).any twiceB = false) := by
            show _ = _
            rw [HTK.out]
            have := HK.out
            rw [List.take_of_length_le (by rw [HX.out.len]; omega)] at this
            unfold twiceB
            exact decide_eq_false fun h => h this
          clear HK HTK HYS HX HX0
          go_wp2
          clear hxc
          go_roundg (pn - (i + 1))
          case measure => omega
          case rel => exact ⟨i + 1, by first | rfl | go_num, by omega, Nat.le_refl _, HT2, HB⟩
    · have hltz : ¬ (i : Int) < (pn : Int) := by omega
      obtain rfl : i = pn := by omega
      have HE : Hid (twicesB P = false) := by
        show _ = _
        have := HA.out
        rw [List.take_of_length_le (by rw [HN.out]; exact Nat.le_refl _)] at this
        exact this
      clear HA
      go_wp2
      go_ret
      exact ⟨by rw [HE.out]; rfl, HB.out⟩
end Go.Proofs.YthdpomgpcblpeaaGreat

namespace Go.Proofs.YthdpomgpcblpeaaGreat
set_option linter.unusedVariables false
open Go.RowKit
/-- Is a point's beginning of parents out, and it not? -/
def rdyK (P : List (List Int)) (T : List Int) (i k : Nat) : Bool := decide ((i : Int) ∉ T) && ((P.getD i []).take k).all (fun p => decide (p ∈ T))
theorem rdyK_zero (P : List (List Int)) (T : List Int) (i : Nat) : rdyK P T i 0 = !decide ((i : Int) ∈ T) := by simp [rdyK]
theorem rdyK_step {P : List (List Int)} {T : List Int} {i k : Nat} {x : Int} (h : (P.getD i [])[k]? = some x) : rdyK P T i (k + 1) = (rdyK P T i k && decide (x ∈ T)) := by
  unfold rdyK
  rw [List.take_add_one, h, List.all_append]
  simp [Bool.and_assoc]
theorem rdyK_end {P : List (List Int)} {T : List Int} {i k : Nat} (h : (P.getD i []).length ≤ k) : rdyK P T i k = decide (rdy P T i) := by
  unfold rdyK rdy
  rw [List.take_of_length_le h]
  rw [Bool.eq_iff_iff]
  simp
/-- The first of the first i that is ready, or -1. -/
def fstR (P : List (List Int)) (T : List Int) (i : Nat) (nx : Int) : Prop := (nx = -1 ∧ ∀ j, j < i → ¬ rdy P T j) ∨ ∃ j : Nat, nx = (j : Int) ∧ j < i ∧ rdy P T j ∧ ∀ q, q < j → ¬ rdy P T q
set_option maxRecDepth 100000 in
set_option maxHeartbeats 12800000 in
theorem outD (pv : Value) (pvs : List Value) (P : List (List Int)) (w : World) (h : RRD w pv pvs P) (n : Nat) (hn : P.length = n) (hb : n ≤ 100000) :
    Calls Tryz.prog 43 #[pv] w fun e w' => ∃ tv, e = .returned tv ∧ OG (Value.int .i64) w.heap.size 3 w' tv (outL P) ∧ Below w.heap.size w w' := by
  obtain ⟨i0, hi, hz0, hz1, hz2⟩ := info_parts Tryz.infoI
  obtain ⟨po, pn, pc, rfl⟩ : ∃ o n c, pv = .slice o n c := by obtain ⟨ao, cap, e⟩ := h.out.sl; exact ⟨_, _, _, e⟩
  obtain rfl : pn = n := by rw [← hn, ← h.len, h.out.len]
  have HR : Hid (RRD w (.slice po pn pc) pvs P) := h
  have HN : Hid (P.length = pn) := hn
  have HE : Hid (outF P (pn - ([] : List Int).length) [] = outL P) := by show _ = _; unfold outL; rw [hn]; rfl
  clear h hn
  go_enter Tryz.func43, Tryz.ntmps43
  go_wp2
  go_loopg [3, 4, 5, 6, 7] pn (fun g1 v3 _v4 _v5 _v6 _v7 wr => ∃ (T : List Int) (tO : Option Addr) (tn tc : Nat), v3 = .slice tO tn tc ∧ T.length ≤ pn ∧ pn - T.length ≤ g1 ∧ Hid (Pts pn T) ∧ Hid (outF P (pn - T.length) T = outL P) ∧ Hid (OG (Value.int .i64) w.heap.size 3 wr (.slice tO tn tc) T) ∧ Hid (Below w.heap.size w wr))
  case atStart => exact ⟨[], none, 0, 0, rfl, by simp, by simp, ⟨List.nodup_nil, by simp⟩, HE, OG.nil _ _ _, Below.refl _ _⟩
  case round =>
    clear HE
    obtain ⟨T, tO, tn, tc, rfl, hTn, hg1, HPT, HE, HT, HB⟩ := hrel
    have HF0 : Hid (fstR P T 0 (-1)) := Or.inl ⟨rfl, fun j hj => by omega⟩
    go_wp2
    go_loopg [4, 5, 6, 7] pn (fun g2 v4 v5 _v6 _v7 wq => ∃ (i : Nat) (nx : Int), v4 = .int .i64 nx ∧ v5 = .int .i64 i ∧ i ≤ pn ∧ pn - i ≤ g2 ∧ Hid (fstR P T i nx) ∧ wq = wr)
    case atStart => exact ⟨0, -1, rfl, rfl, by omega, by omega, HF0, rfl⟩
    case round =>
      clear HF0
      obtain ⟨i, nx, rfl, rfl, hin, hg2, HF, hwq⟩ := hrel
      subst hwq
      by_cases hlt : i < pn
      · have hltz : (i : Int) < (pn : Int) := by omega
        rcases HF.out with ⟨rfl, hno⟩ | ⟨j, rfl, hji, hrj, hlj⟩
        · have HNO : Hid (∀ j, j < i → ¬ rdy P T j) := hno
          have CH : Hid _ := hasD (.slice tO tn tc) T (i : Int) wr HT.out.rg
          obtain ⟨x, gp, op, hx1, rfl, hx2⟩ := (HR.out.below (Nat.le_refl _) HB.out).out.at hlt
          have hxr := (HR.out.below (Nat.le_refl _) HB.out).inn i x hx1
          obtain ⟨xo, xn, xc, rfl⟩ : ∃ o n c, x = .slice o n c := by obtain ⟨ao, cap, e⟩ := hxr.sl; exact ⟨_, _, _, e⟩
          have hxm : xn ≤ 9223372036854775807 := by have := hxr.room.2.1; have := hxr.room.1; unfold maxLen at *; omega
          change wr.cell? ⟨gp, op + i, none⟩ = some (.slice xo xn xc) at hx2
          have HX : Hid (RG (Value.int .i64) wr (.slice xo xn xc) (P.getD i [])) := hxr
          clear hno hx1 hxr HF
          go_wp2_with fail
          refine Calls.mono CH.out ?_
          rintro e y ⟨rfl, hy0⟩
          rw [hy0]
          clear hy0 y CH
          have HK0 : Hid (rdyK P T i 0 = !decide ((i : Int) ∈ T)) := rdyK_zero P T i
          generalize decide ((i : Int) ∈ T) = b0 at *
          go_wp2
          go_loopg [6, 7] xn (fun g3 v6 v7 wq => ∃ (k : Nat) (b : Bool), v6 = .bool b ∧ v7 = .int .i64 k ∧ k ≤ xn ∧ xn - k ≤ g3 ∧ Hid (rdyK P T i k = b) ∧ wq = wr)
          case atStart => exact ⟨0, !b0, rfl, rfl, by omega, by omega, HK0, rfl⟩
          case round =>
            clear HK0
            obtain ⟨k, b, rfl, rfl, hkx, hg3, HK, hwq⟩ := hrel
            subst hwq
            by_cases hlk : k < xn
            · have hlkz : (k : Int) < (xn : Int) := by omega
              obtain ⟨z, gx, ox, hz1', rfl, hz2'⟩ := HX.out.at hlk
              have HS : Hid (rdyK P T i (k + 1) = (b && decide (z ∈ T))) := by show _ = _; rw [rdyK_step hz1', HK.out]
              have CH : Hid _ := hasD (.slice tO tn tc) T z wr HT.out.rg
              clear hz1' HK
              rcases b with _ | _
              · rw [Bool.false_and] at HS
                clear CH
                go_wp2
                clear hz2'
                go_roundg (xn - (k + 1))
                case measure => omega
                case rel => exact ⟨k + 1, false, rfl, by first | rfl | go_num, by omega, Nat.le_refl _, HS, rfl⟩
              · rw [Bool.true_and] at HS
                generalize decide (z ∈ T) = b1 at *
                go_wp2_with fail
                refine Calls.mono CH.out ?_
                rintro e y ⟨rfl, hy0⟩
                rw [hy0]
                clear hy0 y CH
                go_wp2
                clear hz2'
                go_roundg (xn - (k + 1))
                case measure => omega
                case rel => exact ⟨k + 1, b1, rfl, by first | rfl | go_num, by omega, Nat.le_refl _, HS, rfl⟩
            · have hlkz : ¬ (k : Int) < (xn : Int) := by omega
              have HKE : Hid (b = decide (rdy P T i)) := by show _ = _; rw [← HK.out]; exact rdyK_end (by rw [HX.out.len]; omega)
              clear HK
              rcases b with _ | _
              · have HF2 : Hid (fstR P T (i + 1) (-1)) := Or.inl ⟨rfl, fun j hj => by
                  by_cases e : j = i
                  · subst e; exact of_decide_eq_false HKE.out.symm
                  · exact HNO.out j (by omega)⟩
                clear HKE HNO
                go_wp2
                clear hx2
                go_roundg (pn - (i + 1))
                case measure => omega
                case rel => exact ⟨i + 1, -1, rfl, by first | rfl | go_num, by omega, Nat.le_refl _, HF2, rfl⟩
              · have HF2 : Hid (fstR P T (i + 1) (i : Int)) := Or.inr ⟨i, rfl, by omega, of_decide_eq_true HKE.out.symm, HNO.out⟩
                clear HKE HNO
                go_wp2
                clear hx2
                go_roundg (pn - (i + 1))
                case measure => omega
                case rel => exact ⟨i + 1, (i : Int), rfl, by first | rfl | go_num, by omega, Nat.le_refl _, HF2, rfl⟩
        · have hjz : ¬ (j : Int) < 0 := by omega
          have hjn : j < pn := by omega
          have hnx : nxtF P T = some j := nxt_some (by rw [HN.out]; exact hjn) hrj hlj
          have HE2 : Hid (outF P (pn - (T ++ [(j : Int)]).length) (T ++ [(j : Int)]) = outL P) := by
            show _ = _
            rw [← HE.out, out_next (P := P) (T := T) (i := j) (k := pn - T.length) (by rw [HN.out]; exact HPT.out) (by rw [HN.out]; exact hjn) hnx hrj (by rw [HN.out]), List.length_append, List.length_singleton]
            congr 1
          have HP2 : Hid (Pts pn (T ++ [(j : Int)])) := HPT.out.snoc hjn hrj.1
          have hl2 : T.length + 1 ≤ pn := by have := HP2.out.len; rw [List.length_append, List.length_singleton] at this; exact this
          obtain ⟨WA, hWA⟩ : ∃ W, W = wr.alloc (.cells #[.int .i64 (j : Int)] 3) := ⟨_, rfl⟩
          obtain ⟨gb, hgb⟩ : ∃ g, g = wr.heap.size := ⟨_, rfl⟩
          have HBA : Hid (Below wr.heap.size wr WA) := by show Below _ _ _; rw [hWA]; exact belowB _ _
          have HCB : Hid (WA.cell? ⟨gb, 0, none⟩ = some (.int .i64 (j : Int))) := by show _ = _; rw [hWA, hgb, World.cell?_alloc_at _ _ _ _ rfl]; rfl
          have HWA : Hid (WA = wr.alloc (.cells #[.int .i64 (j : Int)] 3)) := hWA
          have HGB : Hid (gb = wr.heap.size) := hgb
          clear hnx hrj hlj HF HE HPT hWA hgb
          go_wp2_with (at_builtin; rw [← HWA.out, ← HGB.out]; refine wpList_pushD _ (fun _ => rfl) rfl _ _ 23 rfl w.heap.size 3 i0 (.int .i64 0) 8 Tryz.underlying23 hi hz0 hz1 hz2 rfl _ T rfl (HT.out.below HBA.out) gb (j : Int) rfl HCB.out (by unfold maxLen; omega) (by omega) (Nat.le_trans HB.out.size HBA.out.size) ?_)
          intro ng tm ncap W2 ho hg3 hng _
          have HO2 : Hid (OG (Value.int .i64) w.heap.size 3 W2 (.slice (some ⟨ng, 0, none⟩) tm ncap) (T ++ [(j : Int)])) := ho
          have HB2 : Hid (Below w.heap.size w W2) := (bstepB HB.out HBA.out).trans ⟨hg3.os, hg3.tape, hg3.output, hg3.size, fun q hq => hg3.block q (Nat.lt_of_lt_of_le hq (Nat.le_trans HB.out.size HBA.out.size)) (fun e => by have := (HT.out.lt q e.symm).1; omega)⟩
          clear ho hg3 hng HT HB HBA HCB HWA HGB
          go_wp2
          go_roundg (pn - (T.length + 1))
          case measure => omega
          case rel => exact ⟨T ++ [(j : Int)], _, _, _, rfl, by simp; omega, by simp, HP2, HE2, HO2, HB2⟩
      · have hltz : ¬ (i : Int) < (pn : Int) := by omega
        obtain rfl : i = pn := by omega
        rcases HF.out with ⟨rfl, hno⟩ | ⟨j, rfl, hjn, hrj, hlj⟩
        · have HRS : Hid (T = outL P) := by show _ = _; rw [← HE.out]; exact (out_end (nxt_none fun q hq => hno q (by rw [← HN.out]; exact hq))).symm
          clear hno HF HE
          go_wp2
          go_ret
          exact ⟨_, rfl, by rw [← HRS.out]; exact HT.out, HB.out⟩
        · have hjz : ¬ (j : Int) < 0 := by omega
          have hnx : nxtF P T = some j := nxt_some (by rw [HN.out]; exact hjn) hrj hlj
          have HE2 : Hid (outF P (i - (T ++ [(j : Int)]).length) (T ++ [(j : Int)]) = outL P) := by
            show _ = _
            rw [← HE.out, out_next (P := P) (T := T) (i := j) (k := i - T.length) (by rw [HN.out]; exact HPT.out) (by rw [HN.out]; exact hjn) hnx hrj (by rw [HN.out]), List.length_append, List.length_singleton]
            congr 1
          have HP2 : Hid (Pts i (T ++ [(j : Int)])) := HPT.out.snoc hjn hrj.1
          have hl2 : T.length + 1 ≤ i := by have := HP2.out.len; rw [List.length_append, List.length_singleton] at this; exact this
          obtain ⟨WA, hWA⟩ : ∃ W, W = wr.alloc (.cells #[.int .i64 (j : Int)] 3) := ⟨_, rfl⟩
          obtain ⟨gb, hgb⟩ : ∃ g, g = wr.heap.size := ⟨_, rfl⟩
          have HBA : Hid (Below wr.heap.size wr WA) := by show Below _ _ _; rw [hWA]; exact belowB _ _
          have HCB : Hid (WA.cell? ⟨gb, 0, none⟩ = some (.int .i64 (j : Int))) := by show _ = _; rw [hWA, hgb, World.cell?_alloc_at _ _ _ _ rfl]; rfl
          have HWA : Hid (WA = wr.alloc (.cells #[.int .i64 (j : Int)] 3)) := hWA
          have HGB : Hid (gb = wr.heap.size) := hgb
          clear hnx hrj hlj HF HE HPT hWA hgb
          go_wp2_with (at_builtin; rw [← HWA.out, ← HGB.out]; refine wpList_pushD _ (fun _ => rfl) rfl _ _ 23 rfl w.heap.size 3 i0 (.int .i64 0) 8 Tryz.underlying23 hi hz0 hz1 hz2 rfl _ T rfl (HT.out.below HBA.out) gb (j : Int) rfl HCB.out (by unfold maxLen; omega) (by omega) (Nat.le_trans HB.out.size HBA.out.size) ?_)
          intro ng tm ncap W2 ho hg3 hng _
          have HO2 : Hid (OG (Value.int .i64) w.heap.size 3 W2 (.slice (some ⟨ng, 0, none⟩) tm ncap) (T ++ [(j : Int)])) := ho
          have HB2 : Hid (Below w.heap.size w W2) := (bstepB HB.out HBA.out).trans ⟨hg3.os, hg3.tape, hg3.output, hg3.size, fun q hq => hg3.block q (Nat.lt_of_lt_of_le hq (Nat.le_trans HB.out.size HBA.out.size)) (fun e => by have := (HT.out.lt q e.symm).1; omega)⟩
          clear ho hg3 hng HT HB HBA HCB HWA HGB
          go_wp2
          go_roundg (i - (T.length + 1))
          case measure => omega
          case rel => exact ⟨T ++ [(j : Int)], _, _, _, rfl, by simp; omega, by simp, HP2, HE2, HO2, HB2⟩
set_option maxRecDepth 100000 in
set_option maxHeartbeats 3200000 in
theorem refCheckD (pv : Value) (pvs : List Value) (P : List (List Int)) (w : World) (h : RRD w pv pvs P) (n : Nat) (hn : P.length = n) (hb : n ≤ 100000) :
    Calls Tryz.prog 28 #[pv] w fun e w' => e = .returned (.int .i64 (ckE P)) ∧ Below w.heap.size w w' := by
  have CI : Hid _ := insideD pv pvs P w h n hn hb
  have CT : Hid _ := twiceD pv pvs P w h n hn hb
  have CO : Hid (∀ W, Below w.heap.size w W → Calls Tryz.prog 43 #[pv] W fun e w' => ∃ tv, e = .returned tv ∧ OG (Value.int .i64) W.heap.size 3 w' tv (outL P) ∧ Below W.heap.size W w') := fun W hW => outD pv pvs P W (h.below (Nat.le_refl _) hW) n hn hb
  obtain ⟨po, pn, pc, rfl⟩ : ∃ o n c, pv = .slice o n c := by obtain ⟨ao, cap, e⟩ := h.out.sl; exact ⟨_, _, _, e⟩
  obtain rfl : pn = n := by rw [← hn, ← h.len, h.out.len]
  have HN : Hid (P.length = pn) := hn
  clear h hn
  go_enter Tryz.func28, Tryz.ntmps28
  go_wp2_with fail
  refine Calls.mono CI.out ?_
  rintro e y ⟨rfl, hy0⟩
  rw [hy0]
  clear hy0 y CI
  rcases h1 : outsB P with _ | _
  · go_wp2_with fail
    refine Calls.mono CT.out ?_
    rintro e y ⟨rfl, hy⟩
    have HB : Hid (Below w.heap.size w y) := hy
    have CO2 : Hid _ := CO.out y hy
    clear CT CO hy
    rcases h2 : twicesB P with _ | _
    · have HCL : Hid (clE P = 0) := by show _ = _; unfold clE; rw [h1, h2]; rfl
      have HCK : Hid (ckE P = if (outL P).length < pn then 42 else 0) := by show _ = _; unfold ckE; rw [if_pos HCL.out, HN.out]
      clear h1 h2 HCL
      go_wp2_with fail
      refine Calls.mono CO2.out ?_
      rintro e x ⟨tv, rfl, hx1, hx2⟩
      have HB2 : Hid (Below w.heap.size w x) := bstepB HB.out hx2
      obtain ⟨tO, tn, tc, rfl⟩ : ∃ o n c, tv = .slice o n c := by obtain ⟨ao, cap, e⟩ := hx1.rg.sl; exact ⟨_, _, _, e⟩
      have hl : (outL P).length = tn := hx1.rg.len
      rw [hl] at HCK
      clear CO2 hx1 hx2 hl HB
      by_cases hlt : tn < pn
      · have hltz : (tn : Int) < (pn : Int) := by omega
        have HE : Hid (ckE P = 42) := by show _ = _; rw [HCK.out, if_pos hlt]
        clear HCK
        go_wp2
        go_ret
        exact ⟨by rw [HE.out]; rfl, HB2.out⟩
      · have hltz : ¬ (tn : Int) < (pn : Int) := by omega
        have HE : Hid (ckE P = 0) := by show _ = _; rw [HCK.out, if_neg hlt]
        clear HCK
        go_wp2
        go_ret
        exact ⟨by rw [HE.out]; rfl, HB2.out⟩
    · have HE : Hid (ckE P = 40) := by
        show _ = _
        have hc : clE P = 40 := by unfold clE; rw [h1, h2]; rfl
        unfold ckE
        rw [hc]; rfl
      clear h1 h2 CO2
      go_wp2
      go_ret
      exact ⟨by rw [HE.out]; rfl, HB.out⟩
  · have HE : Hid (ckE P = 3) := by
      show _ = _
      have hc : clE P = 3 := by unfold clE; rw [h1]; rfl
      unfold ckE
      rw [hc]; rfl
    clear h1 CT CO
    go_wp2
    go_ret
    exact ⟨by rw [HE.out]; rfl, Below.refl _ _⟩
end Go.Proofs.YthdpomgpcblpeaaGreat

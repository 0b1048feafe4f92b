/-
  Proved here: the document's Has, inside, twice.
-/
import Derived.Test.YtcoiapgfaibkgabGreatDagOAll
import Derived.Test.YtcoiapgfaibkgabGreatDagTAll
namespace Go.Proofs.YtcoiapgfaibkgabGreat
set_option linter.unusedVariables false
open Go.RowKit
set_option maxRecDepth 100000 in
set_option maxHeartbeats 1600000 in
theorem hasD (v : Value) (zs : List Int) (x : Int) (w : World) (hv : RG (Value.int .i64) w v zs) :
    Calls Tryz.prog 11 #[v, .int .i64 x] w fun e w' => e = .returned (.bool (decide (x ∈ zs))) ∧ w' = w := by
  obtain ⟨vo, vn, vc, rfl⟩ : ∃ o n c, v = .slice o n c := by obtain ⟨ao, cap, e⟩ := hv.sl; exact ⟨_, _, _, e⟩
  have hm : vn ≤ 9223372036854775807 := by have := hv.room.2.1; have := hv.room.1; unfold maxLen at *; omega
  have HV : Hid (RG (Value.int .i64) w (.slice vo vn vc) zs) := hv
  have HN : Hid (zs.length = vn) := hv.len
  clear hv
  go_enter Tryz.func11, Tryz.ntmps11
  go_wp2
  go_loopg [5] vn (fun g1 v5 wr => ∃ k : Nat, v5 = .int .i64 k ∧ k ≤ vn ∧ vn - k ≤ g1 ∧ Hid (x ∉ zs.take k) ∧ wr = w)
  case atStart => exact ⟨0, rfl, by omega, by omega, by show _ ∉ _; simp, rfl⟩
  case round =>
    obtain ⟨k, rfl, hk, hg1, HA, rfl⟩ := hrel
    by_cases hlt : k < vn
    · have hltz : (k : Int) < (vn : Int) := by omega
      obtain ⟨y, g, o, hy1, rfl, hy2⟩ := HV.out.at hlt
      have htk : zs.take (k + 1) = zs.take k ++ [y] := by rw [List.take_add_one, hy1]; rfl
      by_cases he : y = x
      · have HE : Hid (decide (x ∈ zs) = true) := decide_eq_true (by rw [← he]; exact List.mem_of_getElem? hy1)
        have hez : (y == x) = true := by simpa using he
        clear he hy1 htk HA
        go_wp2
        go_ret
        exact ⟨by rw [HE.out]; rfl, rfl⟩
      · have HA2 : Hid (x ∉ zs.take (k + 1)) := by
          show _ ∉ _
          rw [htk, List.mem_append, List.mem_singleton]
          exact fun h => h.elim HA.out (fun e => he e.symm)
        have hez : (y == x) = false := by simpa using he
        clear he hy1 htk HA
        go_wp2
        clear hy2
        go_roundg (vn - (k + 1))
        case measure => omega
        case rel => exact ⟨k + 1, by first | rfl | go_num, by omega, Nat.le_refl _, HA2, rfl⟩
    · have hltz : ¬ (k : Int) < (vn : Int) := by omega
      have HE : Hid (decide (x ∈ zs) = false) := by
        have := HA.out
        rw [List.take_of_length_le (by rw [HN.out]; omega)] at this
        exact decide_eq_false this
      clear HA
      go_wp2
      go_ret
      exact ⟨by rw [HE.out]; rfl, rfl⟩
set_option maxRecDepth 100000 in
set_option maxHeartbeats 3200000 in
theorem insideD (pv : Value) (pvs : List Value) (P : List (List Int)) (w : World) (h : RRD w pv pvs P) (n : Nat) (hn : P.length = n) (hb : n ≤ 100000) :
    Calls Tryz.prog 96 #[pv] w fun e w' => e = .returned (.bool (!outsB P)) ∧ w' = w := by
  obtain ⟨po, pn, pc, rfl⟩ : ∃ o n c, pv = .slice o n c := by obtain ⟨ao, cap, e⟩ := h.out.sl; exact ⟨_, _, _, e⟩
  obtain rfl : pn = n := by rw [← hn, ← h.len, h.out.len]
  have HR : Hid (RRD w (.slice po pn pc) pvs P) := h
  have HN : Hid (P.length = pn) := hn
  clear h hn
  go_enter Tryz.func96, Tryz.ntmps96
  go_wp2
  go_loopg [3, 4, 5] pn (fun g1 v3 _v4 _v5 wr => ∃ i : Nat, v3 = .int .i64 i ∧ i ≤ pn ∧ pn - i ≤ g1 ∧ Hid ((P.take i).any (noPts (pn : Int)) = false) ∧ wr = w)
  case atStart => exact ⟨0, rfl, by omega, by omega, rfl, rfl⟩
  case round =>
    obtain ⟨i, rfl, hin, hg1, HA, rfl⟩ := hrel
    by_cases hlt : i < pn
    · have hltz : (i : Int) < (pn : Int) := by omega
      obtain ⟨x, gp, op, hx1, rfl, hx2⟩ := HR.out.out.at hlt
      have hxr := HR.out.inn i x hx1
      obtain ⟨xo, xn, xc, rfl⟩ : ∃ o n c, x = .slice o n c := by obtain ⟨ao, cap, e⟩ := hxr.sl; exact ⟨_, _, _, e⟩
      have hxm : xn ≤ 9223372036854775807 := by have := hxr.room.2.1; have := hxr.room.1; unfold maxLen at *; omega
      change wr.cell? ⟨gp, op + i, none⟩ = some (.slice xo xn xc) at hx2
      have HX : Hid (RG (Value.int .i64) wr (.slice xo xn xc) (P.getD i [])) := hxr
      have HTK : Hid ((P.take (i + 1)).any (noPts (pn : Int)) = noPts (pn : Int) (P.getD i [])) := by show _ = _; rw [anyP_take (by rw [HN.out]; exact hlt), HA.out]; rfl
      have HYS : Hid (noPts (pn : Int) (P.getD i []) = true → outsB P = true) := fun h => by unfold outsB; rw [HN.out]; exact anyP_at (by rw [HN.out]; exact hlt) h
      clear hxr hx1 HA
      go_wp2
      go_loopg [4, 5] xn (fun g2 v4 _v5 wq => ∃ k : Nat, v4 = .int .i64 k ∧ k ≤ xn ∧ xn - k ≤ g2 ∧ Hid (((P.getD i []).take k).any (noPt (pn : Int)) = false) ∧ wq = wr)
      case atStart => exact ⟨0, rfl, by omega, by omega, rfl, rfl⟩
      case round =>
        obtain ⟨k, rfl, hkx, hg2, HK, hwq⟩ := hrel
        subst hwq
        by_cases hlk : k < xn
        · have hlkz : (k : Int) < (xn : Int) := by omega
          obtain ⟨y, gx, ox, hy1, rfl, hy2⟩ := HX.out.at hlk
          have e0 : (P.getD i []).getD k 0 = y := by rw [List.getD_eq_getElem?_getD, hy1]; rfl
          have hkl : k < (P.getD i []).length := (List.getElem?_eq_some_iff.1 hy1).1
          have HST : Hid (((P.getD i []).take (k + 1)).any (noPt (pn : Int)) = noPt (pn : Int) y) := by show _ = _; rw [any_take hkl, HK.out, e0]; rfl
          have HY2 : Hid (noPt (pn : Int) y = true → outsB P = true) := fun h => HYS.out (any_at hkl (by rw [e0]; exact h))
          clear e0 hkl hy1 HK
          by_cases h1 : y < 0
          · have HE : Hid (outsB P = true) := HY2.out (by simp [noPt, h1])
            clear HST HY2
            go_wp2
            go_ret
            exact ⟨by rw [HE.out]; rfl, rfl⟩
          · by_cases h2 : (pn : Int) ≤ y
            · have HE : Hid (outsB P = true) := HY2.out (by simp [noPt, h2])
              clear HST HY2
              go_wp2
              go_ret
              exact ⟨by rw [HE.out]; rfl, rfl⟩
            · have HK2 : Hid (((P.getD i []).take (k + 1)).any (noPt (pn : Int)) = false) := by show _ = _; rw [HST.out]; simp [noPt, h1, h2]
              clear HST HY2
              go_wp2
              clear hy2
              go_roundg (xn - (k + 1))
              case measure => omega
              case rel => exact ⟨k + 1, by first | rfl | go_num, by omega, Nat.le_refl _, HK2, rfl⟩
        · have hlkz : ¬ (k : Int) < (xn : Int) := by omega
          have HT2 : Hid ((P.take (i + 1)).any (noPts (pn : Int)) = false) := by
            show _ = _
            rw [HTK.out]
            have := HK.out
            rw [List.take_of_length_le (by rw [HX.out.len]; omega)] at this
            exact this
          clear HK HTK HYS HX
          go_wp2
          clear hx2
          go_roundg (pn - (i + 1))
          case measure => omega
          case rel => exact ⟨i + 1, by first | rfl | go_num, by omega, Nat.le_refl _, HT2, rfl⟩
    · have hltz : ¬ (i : Int) < (pn : Int) := by omega
      obtain rfl : i = pn := by omega
      have HE : Hid (outsB P = false) := by
        show _ = _
        have := HA.out
        unfold outsB
        rw [List.take_of_length_le (by rw [HN.out]; exact Nat.le_refl _)] at this
        rw [HN.out]; exact this
      clear HA
      go_wp2
      go_ret
      exact ⟨by rw [HE.out]; rfl, rfl⟩
set_option maxRecDepth 100000 in
set_option maxHeartbeats 3200000 in
theorem twiceD (pv : Value) (pvs : List Value) (P : List (List Int)) (w : World) (h : RRD w pv pvs P) (n : Nat) (hn : P.length = n) (hb : n ≤ 100000) :
    Calls Tryz.prog 97 #[pv] w fun e w' => e = .returned (.bool (twicesB P)) ∧ Below w.heap.size w w' := by
  obtain ⟨po, pn, pc, rfl⟩ : ∃ o n c, pv = .slice o n c := by obtain ⟨ao, cap, e⟩ := h.out.sl; exact ⟨_, _, _, e⟩
  obtain rfl : pn = n := by rw [← hn, ← h.len, h.out.len]
  have HR : Hid (RRD w (.slice po pn pc) pvs P) := h
  have HN : Hid (P.length = pn) := hn
  clear h hn
  go_enter Tryz.func97, Tryz.ntmps97
  go_wp2
  go_loopg [3, 4] pn (fun g1 v3 _v4 wr => ∃ i : Nat, v3 = .int .i64 i ∧ i ≤ pn ∧ pn - i ≤ g1 ∧ Hid ((P.take i).any twiceB = false) ∧ Hid (Below w.heap.size w wr))
  case atStart => exact ⟨0, rfl, by omega, by omega, rfl, Below.refl _ _⟩
  case round =>
    obtain ⟨i, rfl, hin, hg1, HA, HB⟩ := hrel
    by_cases hlt : i < pn
    · have hltz : (i : Int) < (pn : Int) := by omega
      obtain ⟨x, gp, op, hx1, rfl, hx0⟩ := HR.out.out.at hlt
      have hxr := HR.out.inn i x hx1
      obtain ⟨xo, xn, xc, rfl⟩ : ∃ o n c, x = .slice o n c := by obtain ⟨ao, cap, e⟩ := hxr.sl; exact ⟨_, _, _, e⟩
      change w.cell? ⟨gp, op + i, none⟩ = some (.slice xo xn xc) at hx0
      have HX0 : Hid (w.cell? ⟨gp, op + i, none⟩ = some (.slice xo xn xc)) := hx0
      obtain ⟨hr1, hr2, hr3⟩ := hxr.room
      have hxm : xn ≤ 9223372036854775807 := by unfold maxLen at hr2; omega
      have HX : Hid (RG (Value.int .i64) w (.slice xo xn xc) (P.getD i [])) := hxr
      have HTK : Hid ((P.take (i + 1)).any twiceB = twiceB (P.getD i [])) := by show _ = _; rw [anyP_take (by rw [HN.out]; exact hlt), HA.out]; rfl
      have HYS : Hid (twiceB (P.getD i []) = true → twicesB P = true) := fun h => anyP_at (by rw [HN.out]; exact hlt) h
      have HND0 : Hid (((P.getD i []).take 0).Nodup) := List.nodup_nil
      clear hxr hx1 HA hx0
      go_wp2
      go_loopg [4] xn (fun g2 v4 wq => ∃ k : Nat, v4 = .int .i64 k ∧ k ≤ xn ∧ xn - k ≤ g2 ∧ Hid (((P.getD i []).take k).Nodup) ∧ Hid (Below w.heap.size w wq))
      case atStart => exact ⟨0, rfl, by omega, by omega, HND0, HB⟩
      case round =>
        clear HB HND0
        obtain ⟨k, rfl, hkx, hg2, HK, HB⟩ := hrel
        have hxc : wr.cell? ⟨gp, op + i, none⟩ = some (.slice xo xn xc) := keepR HB.out HX0.out
        by_cases hlk : k < xn
        · have hlkz : (k : Int) < (xn : Int) := by omega
          obtain ⟨y, gx, ox, hy1, rfl, hy2⟩ := (HX.out.below (Nat.le_refl _) HB.out).at hlk
          have hkc : (k : Int) ≤ (xc : Int) := by omega
          have HCC : Hid (∀ W, Below w.heap.size w W → Calls Tryz.prog 11 #[.slice (some ⟨gx, ox, none⟩) k xc, .int .i64 y] W fun e w' => e = .returned (.bool (decide (y ∈ (P.getD i []).take k))) ∧ w' = W) := fun W hW => hasD _ _ y _ ((HX.out.below (Nat.le_refl _) hW).cut (by omega))
          by_cases hm : y ∈ (P.getD i []).take k
          · have HE : Hid (twicesB P = true) := HYS.out (twice_at hy1 hm)
            rw [decide_eq_true hm] at HCC
            clear hy1 hm HK HTK HYS
            go_upto_region 7 with fail
            have KEEP : ∀ u, Below wr.heap.size wr u → L4.AllL u [(3, fun w' => w'.cell? ⟨gp, op + i, none⟩ = some (.slice (some ⟨gx, ox, none⟩) xn xc)), (9, fun w' => w'.cell? ⟨gp, op + i, none⟩ = some (.slice (some ⟨gx, ox, none⟩) xn xc)), (12, fun w' => w'.cell? ⟨gx, ox + k, none⟩ = some (.int .i64 y))] := fun u hu => ⟨keepR hu hxc, keepR hu hxc, keepR hu hy2, trivial⟩
            refine L4.region_late [(3, fun w' => w'.cell? ⟨gp, op + i, none⟩ = some (.slice (some ⟨gx, ox, none⟩) xn xc)), (9, fun w' => w'.cell? ⟨gp, op + i, none⟩ = some (.slice (some ⟨gx, ox, none⟩) xn xc)), (12, fun w' => w'.cell? ⟨gx, ox + k, none⟩ = some (.int .i64 y))] (by kernel_rfl) ?_
            have B : Below wr.heap.size wr wr.drew := (Below.refl _ _).drew
            obtain ⟨w1, hw1⟩ : ∃ u, u = wr.drew := ⟨_, rfl⟩
            rw [← hw1] at B ⊢
            clear hw1
            have hHeld := KEEP _ B
            refine L4.late_free 0 (v := .slice (some ⟨gp, op, none⟩) pn pc) rfl (by kernel_rfl) (by kernel_rfl) (by kernel_rfl) (by kernel_rfl) (by kernel_rfl) (by kernel_rfl) (fun _ _ _ h => h) (Or.inl ⟨by rfl, ?_⟩) hHeld ?_
            · (intro u _; go_simp)
            (try simp only [Act.put, List.setIfInBounds_toArray, List.set_cons_zero, List.set_cons_succ])
            refine L4.late_free 1 (v := .int .i64 ((i : Nat) : Int)) rfl (by kernel_rfl) (by kernel_rfl) (by kernel_rfl) (by kernel_rfl) (by kernel_rfl) (by kernel_rfl) (fun _ _ _ h => h) (Or.inl ⟨by rfl, ?_⟩) hHeld ?_
            · (intro u _; go_simp)
            (try simp only [Act.put, List.setIfInBounds_toArray, List.set_cons_zero, List.set_cons_succ])
            refine L4.late_free 2 (v := .pointer (some ⟨gp, op + i, none⟩)) rfl (by kernel_rfl) (by kernel_rfl) (by kernel_rfl) (by kernel_rfl) (by kernel_rfl) (by kernel_rfl) (fun _ _ _ h => h) (Or.inl ⟨by rfl, ?_⟩) hHeld ?_
            · (intro u _; go_simp)
            (try simp only [Act.put, List.setIfInBounds_toArray, List.set_cons_zero, List.set_cons_succ])
            refine L4.late_take 3 (v := .slice (some ⟨gx, ox, none⟩) xn xc) rfl (by kernel_rfl) (List.Mem.head _) (by kernel_rfl) (by kernel_rfl) (by kernel_rfl) (by kernel_rfl) (fun _ _ _ h => h) (Or.inl ⟨by rfl, ?_⟩) hHeld ?_
            · (intro u hu; (try dsimp only at hu); go_split_ands; go_simp)
            (try simp only [Act.put, List.setIfInBounds_toArray, List.set_cons_zero, List.set_cons_succ])
            refine L4.late_free 4 (v := .int .i64 ((k : Nat) : Int)) rfl (by kernel_rfl) (by kernel_rfl) (by kernel_rfl) (by kernel_rfl) (by kernel_rfl) (by kernel_rfl) (fun _ _ _ h => h) (Or.inl ⟨by rfl, ?_⟩) hHeld ?_
            · (intro u _; go_simp)
            (try simp only [Act.put, List.setIfInBounds_toArray, List.set_cons_zero, List.set_cons_succ])
            refine L4.late_free 5 (v := .slice (some ⟨gx, ox, none⟩) k xc) rfl (by kernel_rfl) (by kernel_rfl) (by kernel_rfl) (by kernel_rfl) (by kernel_rfl) (by kernel_rfl) (fun _ _ _ h => h) (Or.inl ⟨by rfl, ?_⟩) hHeld ?_
            · (intro u _; go_simp)
            (try simp only [Act.put, List.setIfInBounds_toArray, List.set_cons_zero, List.set_cons_succ])
            refine L4.late_free 6 (v := .slice (some ⟨gp, op, none⟩) pn pc) rfl (by kernel_rfl) (by kernel_rfl) (by kernel_rfl) (by kernel_rfl) (by kernel_rfl) (by kernel_rfl) (fun _ _ _ h => h) (Or.inl ⟨by rfl, ?_⟩) hHeld ?_
            · (intro u _; go_simp)
            (try simp only [Act.put, List.setIfInBounds_toArray, List.set_cons_zero, List.set_cons_succ])
            refine L4.late_free 7 (v := .int .i64 ((i : Nat) : Int)) rfl (by kernel_rfl) (by kernel_rfl) (by kernel_rfl) (by kernel_rfl) (by kernel_rfl) (by kernel_rfl) (fun _ _ _ h => h) (Or.inl ⟨by rfl, ?_⟩) hHeld ?_
            · (intro u _; go_simp)
            (try simp only [Act.put, List.setIfInBounds_toArray, List.set_cons_zero, List.set_cons_succ])
            refine L4.late_free 8 (v := .pointer (some ⟨gp, op + i, none⟩)) rfl (by kernel_rfl) (by kernel_rfl) (by kernel_rfl) (by kernel_rfl) (by kernel_rfl) (by kernel_rfl) (fun _ _ _ h => h) (Or.inl ⟨by rfl, ?_⟩) hHeld ?_
            · (intro u _; go_simp)
            (try simp only [Act.put, List.setIfInBounds_toArray, List.set_cons_zero, List.set_cons_succ])
            refine L4.late_take 9 (v := .slice (some ⟨gx, ox, none⟩) xn xc) rfl (by kernel_rfl) (List.Mem.tail _ (List.Mem.head _)) (by kernel_rfl) (by kernel_rfl) (by kernel_rfl) (by kernel_rfl) (fun _ _ _ h => h) (Or.inl ⟨by rfl, ?_⟩) hHeld ?_
            · (intro u hu; (try dsimp only at hu); go_split_ands; go_simp)
            (try simp only [Act.put, List.setIfInBounds_toArray, List.set_cons_zero, List.set_cons_succ])
            refine L4.late_free 10 (v := .int .i64 ((k : Nat) : Int)) rfl (by kernel_rfl) (by kernel_rfl) (by kernel_rfl) (by kernel_rfl) (by kernel_rfl) (by kernel_rfl) (fun _ _ _ h => h) (Or.inl ⟨by rfl, ?_⟩) hHeld ?_
            · (intro u _; go_simp)
            (try simp only [Act.put, List.setIfInBounds_toArray, List.set_cons_zero, List.set_cons_succ])
            refine L4.late_free 11 (v := .pointer (some ⟨gx, ox + k, none⟩)) rfl (by kernel_rfl) (by kernel_rfl) (by kernel_rfl) (by kernel_rfl) (by kernel_rfl) (by kernel_rfl) (fun _ _ _ h => h) (Or.inl ⟨by rfl, ?_⟩) hHeld ?_
            · (intro u _; go_simp)
            (try simp only [Act.put, List.setIfInBounds_toArray, List.set_cons_zero, List.set_cons_succ])
            refine L4.late_take 12 (v := .int .i64 y) rfl (by kernel_rfl) (List.Mem.tail _ (List.Mem.tail _ (List.Mem.head _))) (by kernel_rfl) (by kernel_rfl) (by kernel_rfl) (by kernel_rfl) (fun _ _ _ h => h) (Or.inl ⟨by rfl, ?_⟩) hHeld ?_
            · (intro u hu; (try dsimp only at hu); go_split_ands; go_simp)
            (try simp only [Act.put, List.setIfInBounds_toArray, List.set_cons_zero, List.set_cons_succ])
            refine L4.late_step 13 (by kernel_rfl) rfl (fun K hK => ?_)
            go_simp
            refine (HCC.out _ (HB.out.trans (B.mono HB.out.size))).mono ?_
            rintro e y2 ⟨rfl, hh2⟩
            have c2 : Below w1.heap.size w1 y2 := by rw [hh2]; exact Below.refl _ _
            clear hh2
            have B := B.trans (c2.mono B.size)
            clear c2 hHeld
            have hHeld := KEEP _ B
            go_wp2_with fail
            refine hK.out _ _ (L4.AllL.kept hHeld) ?_
            clear hK K
            (try simp only [Act.put, List.setIfInBounds_toArray, List.set_cons_zero, List.set_cons_succ])
            refine L4.late_done (by kernel_rfl) ?_ _
            clear hHeld KEEP
            have HB2 : Hid (Below w.heap.size w y2) := HB.out.trans (B.mono HB.out.size)
            clear B hxc hy2 HCC HB
            go_wp2
            go_ret
            exact ⟨by rw [HE.out]; rfl, HB2.out⟩
          · have HK2 : Hid (((P.getD i []).take (k + 1)).Nodup) := nodup_take HK.out hy1 hm
            rw [decide_eq_false hm] at HCC
            clear hy1 hm HK
            go_upto_region 7 with fail
            have KEEP : ∀ u, Below wr.heap.size wr u → L4.AllL u [(3, fun w' => w'.cell? ⟨gp, op + i, none⟩ = some (.slice (some ⟨gx, ox, none⟩) xn xc)), (9, fun w' => w'.cell? ⟨gp, op + i, none⟩ = some (.slice (some ⟨gx, ox, none⟩) xn xc)), (12, fun w' => w'.cell? ⟨gx, ox + k, none⟩ = some (.int .i64 y))] := fun u hu => ⟨keepR hu hxc, keepR hu hxc, keepR hu hy2, trivial⟩
            refine L4.region_late [(3, fun w' => w'.cell? ⟨gp, op + i, none⟩ = some (.slice (some ⟨gx, ox, none⟩) xn xc)), (9, fun w' => w'.cell? ⟨gp, op + i, none⟩ = some (.slice (some ⟨gx, ox, none⟩) xn xc)), (12, fun w' => w'.cell? ⟨gx, ox + k, none⟩ = some (.int .i64 y))] (by kernel_rfl) ?_
            have B : Below wr.heap.size wr wr.drew := (Below.refl _ _).drew
            obtain ⟨w3, hw3⟩ : ∃ u, u = wr.drew := ⟨_, rfl⟩
            rw [← hw3] at B ⊢
            clear hw3
            have hHeld := KEEP _ B
            refine L4.late_free 0 (v := .slice (some ⟨gp, op, none⟩) pn pc) rfl (by kernel_rfl) (by kernel_rfl) (by kernel_rfl) (by kernel_rfl) (by kernel_rfl) (by kernel_rfl) (fun _ _ _ h => h) (Or.inl ⟨by rfl, ?_⟩) hHeld ?_
            · (intro u _; go_simp)
            (try simp only [Act.put, List.setIfInBounds_toArray, List.set_cons_zero, List.set_cons_succ])
            refine L4.late_free 1 (v := .int .i64 ((i : Nat) : Int)) rfl (by kernel_rfl) (by kernel_rfl) (by kernel_rfl) (by kernel_rfl) (by kernel_rfl) (by kernel_rfl) (fun _ _ _ h => h) (Or.inl ⟨by rfl, ?_⟩) hHeld ?_
            · (intro u _; go_simp)
            (try simp only [Act.put, List.setIfInBounds_toArray, List.set_cons_zero, List.set_cons_succ])
            refine L4.late_free 2 (v := .pointer (some ⟨gp, op + i, none⟩)) rfl (by kernel_rfl) (by kernel_rfl) (by kernel_rfl) (by kernel_rfl) (by kernel_rfl) (by kernel_rfl) (fun _ _ _ h => h) (Or.inl ⟨by rfl, ?_⟩) hHeld ?_
            · (intro u _; go_simp)
            (try simp only [Act.put, List.setIfInBounds_toArray, List.set_cons_zero, List.set_cons_succ])
            refine L4.late_take 3 (v := .slice (some ⟨gx, ox, none⟩) xn xc) rfl (by kernel_rfl) (List.Mem.head _) (by kernel_rfl) (by kernel_rfl) (by kernel_rfl) (by kernel_rfl) (fun _ _ _ h => h) (Or.inl ⟨by rfl, ?_⟩) hHeld ?_
            · (intro u hu; (try dsimp only at hu); go_split_ands; go_simp)
            (try simp only [Act.put, List.setIfInBounds_toArray, List.set_cons_zero, List.set_cons_succ])
            refine L4.late_free 4 (v := .int .i64 ((k : Nat) : Int)) rfl (by kernel_rfl) (by kernel_rfl) (by kernel_rfl) (by kernel_rfl) (by kernel_rfl) (by kernel_rfl) (fun _ _ _ h => h) (Or.inl ⟨by rfl, ?_⟩) hHeld ?_
            · (intro u _; go_simp)
            (try simp only [Act.put, List.setIfInBounds_toArray, List.set_cons_zero, List.set_cons_succ])
            refine L4.late_free 5 (v := .slice (some ⟨gx, ox, none⟩) k xc) rfl (by kernel_rfl) (by kernel_rfl) (by kernel_rfl) (by kernel_rfl) (by kernel_rfl) (by kernel_rfl) (fun _ _ _ h => h) (Or.inl ⟨by rfl, ?_⟩) hHeld ?_
            · (intro u _; go_simp)
            (try simp only [Act.put, List.setIfInBounds_toArray, List.set_cons_zero, List.set_cons_succ])
            refine L4.late_free 6 (v := .slice (some ⟨gp, op, none⟩) pn pc) rfl (by kernel_rfl) (by kernel_rfl) (by kernel_rfl) (by kernel_rfl) (by kernel_rfl) (by kernel_rfl) (fun _ _ _ h => h) (Or.inl ⟨by rfl, ?_⟩) hHeld ?_
            · (intro u _; go_simp)
            (try simp only [Act.put, List.setIfInBounds_toArray, List.set_cons_zero, List.set_cons_succ])
            refine L4.late_free 7 (v := .int .i64 ((i : Nat) : Int)) rfl (by kernel_rfl) (by kernel_rfl) (by kernel_rfl) (by kernel_rfl) (by kernel_rfl) (by kernel_rfl) (fun _ _ _ h => h) (Or.inl ⟨by rfl, ?_⟩) hHeld ?_
            · (intro u _; go_simp)
            (try simp only [Act.put, List.setIfInBounds_toArray, List.set_cons_zero, List.set_cons_succ])
            refine L4.late_free 8 (v := .pointer (some ⟨gp, op + i, none⟩)) rfl (by kernel_rfl) (by kernel_rfl) (by kernel_rfl) (by kernel_rfl) (by kernel_rfl) (by kernel_rfl) (fun _ _ _ h => h) (Or.inl ⟨by rfl, ?_⟩) hHeld ?_
            · (intro u _; go_simp)
            (try simp only [Act.put, List.setIfInBounds_toArray, List.set_cons_zero, List.set_cons_succ])
            refine L4.late_take 9 (v := .slice (some ⟨gx, ox, none⟩) xn xc) rfl (by kernel_rfl) (List.Mem.tail _ (List.Mem.head _)) (by kernel_rfl) (by kernel_rfl) (by kernel_rfl) (by kernel_rfl) (fun _ _ _ h => h) (Or.inl ⟨by rfl, ?_⟩) hHeld ?_
            · (intro u hu; (try dsimp only at hu); go_split_ands; go_simp)
            (try simp only [Act.put, List.setIfInBounds_toArray, List.set_cons_zero, List.set_cons_succ])
            refine L4.late_free 10 (v := .int .i64 ((k : Nat) : Int)) rfl (by kernel_rfl) (by kernel_rfl) (by kernel_rfl) (by kernel_rfl) (by kernel_rfl) (by kernel_rfl) (fun _ _ _ h => h) (Or.inl ⟨by rfl, ?_⟩) hHeld ?_
            · (intro u _; go_simp)
            (try simp only [Act.put, List.setIfInBounds_toArray, List.set_cons_zero, List.set_cons_succ])
            refine L4.late_free 11 (v := .pointer (some ⟨gx, ox + k, none⟩)) rfl (by kernel_rfl) (by kernel_rfl) (by kernel_rfl) (by kernel_rfl) (by kernel_rfl) (by kernel_rfl) (fun _ _ _ h => h) (Or.inl ⟨by rfl, ?_⟩) hHeld ?_
            · (intro u _; go_simp)
            (try simp only [Act.put, List.setIfInBounds_toArray, List.set_cons_zero, List.set_cons_succ])
            refine L4.late_take 12 (v := .int .i64 y) rfl (by kernel_rfl) (List.Mem.tail _ (List.Mem.tail _ (List.Mem.head _))) (by kernel_rfl) (by kernel_rfl) (by kernel_rfl) (by kernel_rfl) (fun _ _ _ h => h) (Or.inl ⟨by rfl, ?_⟩) hHeld ?_
            · (intro u hu; (try dsimp only at hu); go_split_ands; go_simp)
            (try simp only [Act.put, List.setIfInBounds_toArray, List.set_cons_zero, List.set_cons_succ])
            refine L4.late_step 13 (by kernel_rfl) rfl (fun K hK => ?_)
            go_simp
            refine (HCC.out _ (HB.out.trans (B.mono HB.out.size))).mono ?_
            rintro e y4 ⟨rfl, hh4⟩
            have c4 : Below w3.heap.size w3 y4 := by rw [hh4]; exact Below.refl _ _
            clear hh4
            have B := B.trans (c4.mono B.size)
            clear c4 hHeld
            have hHeld := KEEP _ B
            go_wp2_with fail
            refine hK.out _ _ (L4.AllL.kept hHeld) ?_
            clear hK K
            (try simp only [Act.put, List.setIfInBounds_toArray, List.set_cons_zero, List.set_cons_succ])
            refine L4.late_done (by kernel_rfl) ?_ _
            clear hHeld KEEP
            have HB2 : Hid (Below w.heap.size w y4) := HB.out.trans (B.mono HB.out.size)
            clear B hxc hy2 HCC HB
            go_wp2
            go_roundg (xn - (k + 1))
            case measure => omega
            case rel => exact ⟨k + 1, by first | rfl | go_num, by omega, Nat.le_refl _, HK2, HB2⟩
        · have hlkz : ¬ (k : Int) < (xn : Int) := by omega
          have HT2 : Hid ((P.take (i + 1)).any twiceB = false) := by
            show _ = _
            rw [HTK.out]
            have := HK.out
            rw [List.take_of_length_le (by rw [HX.out.len]; omega)] at this
            unfold twiceB
            exact decide_eq_false fun h => h this
          clear HK HTK HYS HX HX0
          go_wp2
          clear hxc
          go_roundg (pn - (i + 1))
          case measure => omega
          case rel => exact ⟨i + 1, by first | rfl | go_num, by omega, Nat.le_refl _, HT2, HB⟩
    · have hltz : ¬ (i : Int) < (pn : Int) := by omega
      obtain rfl : i = pn := by omega
      have HE : Hid (twicesB P = false) := by
        show _ = _
        have := HA.out
        rw [List.take_of_length_le (by rw [HN.out]; exact Nat.le_refl _)] at this
        exact this
      clear HA
      go_wp2
      go_ret
      exact ⟨by rw [HE.out]; rfl, HB.out⟩
end Go.Proofs.YtcoiapgfaibkgabGreat

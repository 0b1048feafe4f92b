/-
  Proved here: what Cmp answers.
  Proved here: a limb is put behind a row of the call's own; small facts on such rows.
  Proved here: when limbs are a number's normal ones. No condition.
-/
import Derived.Test.YtdfmmaehmngkhaaDoorTrimAll
import Derived.Test.YtdfmmaehmngkhaaDoorFamAll
namespace Go.Proofs.YtdfmmaehmngkhaaDoor
open Go.RowKit

theorem side_t (w : World) : Calls Tryd.prog 44 #[.bool true] w fun e w' => e = .returned (.int .i64 1) ∧ w' = w := by
  go_enter Tryd.func44, Tryd.ntmps44
  go_wp2
  go_ret
  exact ⟨rfl, rfl⟩
theorem side_f (w : World) : Calls Tryd.prog 44 #[.bool false] w fun e w' => e = .returned (.int .i64 (-1)) ∧ w' = w := by
  go_enter Tryd.func44, Tryd.ntmps44
  go_wp2
  go_ret
  exact ⟨rfl, rfl⟩

theorem Num.ao {w : World} {v : Value} {xs : List Nat} (h : Num w v xs) : ∃ ao cap, v = .slice ao xs.length cap ∧ xs.length ≤ cap ∧ cap ≤ 9223372036854775807 := by
  obtain ⟨_, ao, cap, h1, h2, h3, _⟩ := h
  exact ⟨ao, cap, h1, h2, h3⟩

set_option maxRecDepth 100000 in
set_option maxHeartbeats 1600000 in
theorem cmp_any (u v : Value) (xs ys : List Nat) (w : World) (hu : Num w u xs) (hv : Num w v ys) :
    Calls Tryd.prog 19 #[u, v] w fun e w' => e = .returned (.int .i64 (cmpN (val xs) (val ys))) ∧ ∃ q, w' = w.drewN q := by
  obtain ⟨ao, cap, rfl, hl1, hm1⟩ := hu.ao
  obtain ⟨bo, dap, rfl, hl2, hm2⟩ := hv.ao
  go_enter Tryd.func19, Tryd.ntmps19
  go_wp2_with fail
  refine (trim_any _ _ _ hu).mono ?_
  rintro e w1 ⟨⟨k, hk, hk2, rfl⟩, rfl⟩
  go_wp2_with fail
  refine (trim_any _ _ _ hv).mono ?_
  rintro e w1 ⟨⟨m, hm, hm3, rfl⟩, rfl⟩
  simp only [cutTo]
  have hkl : k = (lim (val xs)).length := by rw [← hk2, List.length_take, Nat.min_eq_left hk]
  have hml : m = (lim (val ys)).length := by rw [← hm3, List.length_take, Nat.min_eq_left hm]
  have nu := hu.cut hk
  have nv := hv.cut hm
  rw [hk2] at nu
  rw [hm3] at nv
  simp only [cutTo] at nu nv
  have hle1 : k ≤ 9223372036854775807 := by omega
  have hle2 : m ≤ 9223372036854775807 := by omega
  clear hu hv hk2 hm3
  by_cases hkm : k = m
  · have hne : ((k : Int) != (m : Int)) = false := by simp [hkm]
    have HKM : Hid (k = m) := hkm
    obtain ⟨bx, aox, capx, ex, hcx, _, _, cx⟩ := nu.open_
    obtain ⟨by_, aoy, capy, ey, hcy, _, _, cy⟩ := nv.open_
    simp only [Value.slice.injEq] at ex ey
    obtain ⟨rfl, hq1, rfl⟩ := ex
    obtain ⟨rfl, hq2, rfl⟩ := ey
    clear hq1 hq2
    generalize hX : lim (val xs) = X at *
    generalize hY : lim (val ys) = Y at *
    have HVX : Hid (val xs = val X) := by show _ = _; rw [← hX, val_lim]
    have HVY : Hid (val ys = val Y) := by show _ = _; rw [← hY, val_lim]
    have HKL : Hid (k = X.length) := hkl
    have HML : Hid (m = Y.length) := hml
    clear hX hY hkl hml hkm nu nv hk hm
    go_wp2
    go_loopw [5] (fun t wr => ∃ i : Nat, i ≤ k ∧ t = .int .i64 ((i : Int) - 1) ∧ (∀ j, i ≤ j → X.getD j 0 = Y.getD j 0) ∧ ∃ q, wr = w1.drewN q) (fun t _ => (intOf t + 1).toNat)
    case atStart => exact ⟨k, Nat.le_refl _, rfl, fun j hj => by rw [getD_ge (by have := HKL.out; omega), getD_ge (by have := HML.out; have := HKM.out; omega)], 0, rfl⟩
    case round =>
      obtain ⟨i, hi, rfl, hz, q, hq⟩ := hrel
      have HZ : Hid (∀ j, i ≤ j → X.getD j 0 = Y.getD j 0) := hz
      have HQ : Hid (wr = w1.drewN q) := hq
      have hhp : wr.heap = w1.heap := by rw [hq, heap_drewN]
      clear hz hq
      by_cases hi0 : 0 < i
      · have hge : (0 : Int) ≤ (i : Int) - 1 := by omega
        obtain ⟨b, off, rfl, hcx0⟩ := cx (i - 1) (by have := HKL.out; omega)
        obtain ⟨b', off', rfl, hcy0⟩ := cy (i - 1) (by have := HML.out; have := HKM.out; omega)
        have c0 : wr.cell? ⟨b, off + (i - 1), none⟩ = some (.int .u32 ((X.getD (i - 1) 0 : Nat) : Int)) := by rw [← hcx0]; exact World.cell?_of_block (by rw [hhp])
        have c1 : wr.cell? ⟨b', off' + (i - 1), none⟩ = some (.int .u32 ((Y.getD (i - 1) 0 : Nat) : Int)) := by rw [← hcy0]; exact World.cell?_of_block (by rw [hhp])
        obtain ⟨x, hx⟩ : ∃ x, x = X.getD (i - 1) 0 := ⟨_, rfl⟩
        obtain ⟨y, hy⟩ : ∃ y, y = Y.getD (i - 1) 0 := ⟨_, rfl⟩
        rw [← hx] at c0
        rw [← hy] at c1
        have HX : Hid (x = X.getD (i - 1) 0) := hx
        have HY : Hid (y = Y.getD (i - 1) 0) := hy
        have him : i ≤ m := by have := HKM.out; omega
        clear hx hy cx cy hcx0 hcy0 hhp
        by_cases hxy : x = y
        · have hne2 : ((x : Int) != (y : Int)) = false := by simp [hxy]
          have HXY : Hid (x = y) := hxy
          clear hxy
          go_wp2
          go_quiet (fail)
          go_wp2
          go_roundw
          case rel =>
            refine ⟨i - 1, by omega, by congr 1; omega, fun j hj => ?_, _, by rw [HQ.out, World.drewN_drewN]⟩
            by_cases hj2 : j = i - 1
            · rw [hj2, ← HX.out, ← HY.out]; exact HXY.out
            · exact HZ.out j (by omega)
          case measure => simp [intOf]; omega
        · have hne2 : ((x : Int) != (y : Int)) = true := by simp; omega
          have top : ∀ j, i - 1 < j → X.getD j 0 = Y.getD j 0 := fun j hj => HZ.out j (by omega)
          by_cases hlt : x < y
          · have hgd : decide (y < x) = false := by simp; omega
            have HR : Hid (cmpN (val xs) (val ys) = -1) := by
              show _ = _
              rw [HVX.out, HVY.out]
              exact cmpN_lt (val_lt_top (i - 1) bx by_ top (by rw [← HX.out, ← HY.out]; exact hlt))
            clear hxy hlt top HZ
            go_wp2
            go_quiet (fail)
            go_wp2
            have d0 : (wr.drewN nq).cell? ⟨b, off + (i - 1), none⟩ = some (.int .u32 (x : Int)) := by rw [← c0]; exact World.cell?_of_block (by rw [heap_drewN])
            have d1 : (wr.drewN nq).cell? ⟨b', off' + (i - 1), none⟩ = some (.int .u32 (y : Int)) := by rw [← c1]; exact World.cell?_of_block (by rw [heap_drewN])
            have HW : Hid (wr.drewN nq = w1.drewN (q + nq)) := by show _ = _; rw [HQ.out, World.drewN_drewN]
            clear c0 c1
            generalize wr.drewN nq = W at *
            go_quiet ((go_at_call 44; exact Calls.quiet_of_same (side_f _)))
            go_wp2
            go_ret
            exact ⟨by rw [HR.out]; rfl, _, by rw [HW.out, World.drewN_drewN]⟩
          · have hgd : decide (y < x) = true := by simp; omega
            have HR : Hid (cmpN (val xs) (val ys) = 1) := by
              show _ = _
              rw [HVX.out, HVY.out]
              exact cmpN_gt (val_lt_top (i - 1) by_ bx (fun j hj => (top j hj).symm) (by rw [← HX.out, ← HY.out]; omega))
            clear hxy hlt top HZ
            go_wp2
            go_quiet (fail)
            go_wp2
            have d0 : (wr.drewN nq).cell? ⟨b, off + (i - 1), none⟩ = some (.int .u32 (x : Int)) := by rw [← c0]; exact World.cell?_of_block (by rw [heap_drewN])
            have d1 : (wr.drewN nq).cell? ⟨b', off' + (i - 1), none⟩ = some (.int .u32 (y : Int)) := by rw [← c1]; exact World.cell?_of_block (by rw [heap_drewN])
            have HW : Hid (wr.drewN nq = w1.drewN (q + nq)) := by show _ = _; rw [HQ.out, World.drewN_drewN]
            clear c0 c1
            generalize wr.drewN nq = W at *
            go_quiet ((go_at_call 44; exact Calls.quiet_of_same (side_t _)))
            go_wp2
            go_ret
            exact ⟨by rw [HR.out]; rfl, _, by rw [HW.out, World.drewN_drewN]⟩
      · have hi1 : i = 0 := by omega
        subst hi1
        have HR : Hid (cmpN (val xs) (val ys) = 0) := by
          show _ = _
          rw [HVX.out, HVY.out, val_congr k (by have := HKL.out; omega) (by have := HML.out; have := HKM.out; omega) (fun j => HZ.out j (by omega))]
          exact cmpN_eq _
        clear cx cy hhp
        go_wp2
        go_ret
        exact ⟨by rw [HR.out]; rfl, q, HQ.out⟩
  · have hne : ((k : Int) != (m : Int)) = true := by simp; omega
    by_cases hlt : k < m
    · have hgd : decide (m < k) = false := by simp; omega
      have HR : Hid (cmpN (val xs) (val ys) = -1) := cmpN_lt (lt_of_lim_len (by omega))
      clear hkl hml hkm nu nv hlt
      go_wp2_with fail
      refine (side_f _).mono ?_
      rintro e w2 ⟨rfl, rfl⟩
      go_wp2
      go_ret
      exact ⟨by rw [HR.out]; rfl, 0, rfl⟩
    · have hgd : decide (m < k) = true := by simp; omega
      have HR : Hid (cmpN (val xs) (val ys) = 1) := cmpN_gt (lt_of_lim_len (by omega))
      clear hkl hml hkm nu nv hlt
      go_wp2_with fail
      refine (side_t _).mono ?_
      rintro e w2 ⟨rfl, rfl⟩
      go_wp2
      go_ret
      exact ⟨by rw [HR.out]; rfl, 0, rfl⟩
end Go.Proofs.YtdfmmaehmngkhaaDoor

namespace Go.Proofs.YtdfmmaehmngkhaaDoor
open Go.RowKit

theorem lim_short {w : World} {v : Value} {xs : List Nat} (h : Num w v xs) : (lim (val xs)).length ≤ xs.length := by
  have h1 := lim_len_le (val_lt h.1)
  exact h1
theorem val_snoc (zs : List Nat) (d : Nat) : val (zs ++ [d]) = val zs + 4294967296 ^ zs.length * d := by
  rw [val_append]; simp [val]
theorem limbs_snoc {zs : List Nat} (h : limbs zs) {d : Nat} (hd : d < 4294967296) : limbs (zs ++ [d]) := fun x hx => by
  rcases List.mem_append.1 hx with h1 | h1
  · exact h x h1
  · simp at h1; omega
theorem push_own {B : Nat} {w w' wr : World} {v v' : Value} {zs : List Nat} {d : Nat} {o : Obj} (hv : Own B 68 wr v zs) (hbel : Below B w wr) (hB : B ≤ wr.heap.size) (hd : d < 4294967296)
    (ho : w'.ownsRow B 68 1 v' (zs.length + 1) (zs.map U ++ [U d])) (hg : (wr.alloc o).grownBy w' v.ownBlock) :
    Own B 68 w' v' (zs ++ [d]) ∧ Below B w w' ∧ B ≤ w'.heap.size := by
  have hsz : (wr.alloc o).heap.size = wr.heap.size + 1 := by simp
  have hbel2 : Below B (wr.alloc o) w' := below_of_grown hg (by omega) (fun g e => (hv.block g e).1)
  refine ⟨⟨limbs_snoc hv.1 hd, ?_⟩, (hbel.alloc hB o).trans hbel2, by have := hbel2.size; omega⟩
  rw [List.length_append, List.map_append]
  exact ho
theorem Own.sl {B e : Nat} {w : World} {v : Value} {xs : List Nat} (h : Own B e w v xs) : ∃ ao k cap, v = .slice ao k cap := by
  obtain ⟨ao, cap, h, _⟩ := h.ao
  exact ⟨ao, _, cap, h⟩
end Go.Proofs.YtdfmmaehmngkhaaDoor

namespace Go.Proofs.YtdfmmaehmngkhaaDoor

/-- Limbs whose highest one is none of 0. -/
theorem lim_of_ge {zs : List Nat} (h : limbs zs) {n : Nat} (hn : zs.length = n + 1) (hv : 4294967296 ^ n ≤ val zs) : lim (val zs) = zs := by
  apply lim_of_last h
  intro hne
  have e := low_succ zs n
  rw [low_all (by omega)] at e
  have hl := low_lt h n
  have : zs.getD n 0 ≠ 0 := by intro h0; rw [h0, Nat.mul_zero] at e; omega
  rw [List.getLast_eq_getElem]
  rw [List.getD_eq_getElem?_getD, List.getElem?_eq_getElem (by omega)] at this
  simpa [hn] using this
theorem lim_snoc {zs : List Nat} (h : limbs zs) {d : Nat} (hd : d < 4294967296) (h0 : d ≠ 0) : lim (val zs + 4294967296 ^ zs.length * d) = zs ++ [d] := by
  rw [← val_snoc]
  exact lim_of_last (limbs_snoc h hd) fun _ => by simpa using h0
theorem lim_ge {v n : Nat} (h : (lim v).length = n + 1) : 4294967296 ^ n ≤ v := by
  rcases Nat.lt_or_ge v (4294967296 ^ n) with h1 | h1
  · have := lim_len_le h1; omega
  · exact h1
end Go.Proofs.YtdfmmaehmngkhaaDoor

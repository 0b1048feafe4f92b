/-
  Proved here: what Add answers.
-/
import Derived.Test.YtnlajeinegampaaCmp
import Derived.Test.YtnlajeinegampaaLong
import Derived.Test.YtnlajeinegampaaSmall
namespace Go.Proofs.Ytnlajeinegampaa
open Go.RowKit

theorem own_made {B e n : Nat} {w : World} {v : Value} (h : w.ownsRow B e 1 v n (madeCells #[Value.int .u32 0] n).toList) : Own B e w v (List.replicate n 0) := by
  refine ⟨fun x hx => by have := List.eq_of_mem_replicate hx; omega, ?_⟩
  rw [toList_madeCells_one] at h
  rw [List.map_replicate, List.length_replicate]
  exact h

/-- What a maker of a number leaves. -/
def Made' (B : Nat) (w : World) (xs : List Nat) (en : Ending) (w' : World) : Prop := ∃ v, en = .returned v ∧ Own B 40 w' v xs ∧ Below B w w'

set_option maxRecDepth 100000 in
set_option maxHeartbeats 1600000 in
theorem add_any (u v : Value) (xs ys : List Nat) (w : World) (hu : Num w u xs) (hv : Num w v ys) (hbx : xs.length ≤ 1099511627776) (hby : ys.length ≤ 1099511627776) :
    Calls Try.prog 114 #[u, v] w fun e w' => Made' w.heap.size w (lim (val xs + val ys)) e w' := by
  obtain ⟨ao, cap, rfl, hl1, hm1⟩ := hu.ao
  obtain ⟨bo, dap, rfl, hl2, hm2⟩ := hv.ao
  obtain ⟨i0, hi, hz0, hz1, hz2⟩ := info_parts Try.infoU
  go_enter Try.func114, Try.ntmps114
  go_wp2_with fail
  refine (trim_any _ _ _ hu).mono ?_
  rintro e w1 ⟨⟨k, hk, hk2, rfl⟩, rfl⟩
  go_wp2_with fail
  refine (trim_any _ _ _ hv).mono ?_
  rintro e w1 ⟨⟨m, hm, hm3, rfl⟩, rfl⟩
  simp only [cutTo]
  have hkl : k = (lim (val xs)).length := by rw [← hk2, List.length_take, Nat.min_eq_left hk]
  have hml : m = (lim (val ys)).length := by rw [← hm3, List.length_take, Nat.min_eq_left hm]
  have nu := hu.cut hk
  have nv := hv.cut hm
  rw [hk2] at nu
  rw [hm3] at nv
  simp only [cutTo] at nu nv
  have hle1 : k ≤ 1099511627776 := by omega
  have hle2 : m ≤ 1099511627776 := by omega
  have HE : Hid (val xs + val ys = val (lim (val xs)) + val (lim (val ys))) := by show _ = _; rw [val_lim, val_lim]
  generalize hX : lim (val xs) = X at *
  generalize hY : lim (val ys) = Y at *
  have HKL : Hid (k = X.length) := hkl
  have HML : Hid (m = Y.length) := hml
  clear hX hY hkl hml hu hv hk2 hm3 hk hm
  have pre : ∃ n : Nat, k < n ∧ m < n ∧ n ≤ 1099511627777 ∧ ((k < m ∧ n = m + 1) ∨ (¬ k < m ∧ n = k + 1)) := by
    by_cases h : k < m
    · exact ⟨m + 1, by omega, by omega, by omega, Or.inl ⟨h, rfl⟩⟩
    · exact ⟨k + 1, by omega, by omega, by omega, Or.inr ⟨h, rfl⟩⟩
  obtain ⟨n, hn1, hn2, hn3, hcase⟩ := pre
  rcases hcase with ⟨hkm, hn⟩ | ⟨hkm, hn⟩
  all_goals
    have HNN : Hid (n = _) := hn
    clear hn
    go_wp2_with (at_make; refine wpList_make_full _ rfl _ _ 23 rfl w1.heap.size 40 i0 (.int .u32 0) 1 Try.underlying23 hi hz0 hz1 _ _ _ _ n rfl rfl (by have := HNN.out; omega) (by have := HNN.out; omega) (by rw [hz2]; omega) (by unfold maxLen; omega) (Nat.le_refl _) ?_)
    intro w2 ho2 hg2
    have how := own_made ho2
    have hbel : Below w1.heap.size w1 w2 := (Below.refl w1.heap.size w1).grown hg2 (Nat.le_refl _) (by intro k hk; simp at hk)
    have HXL : Hid (X.length < n) := by show _ < _; rw [← HKL.out]; exact hn1
    have HYL : Hid (Y.length < n) := by show _ < _; rw [← HML.out]; exact hn2
    clear ho2 hg2 HNN hn1 hn2
    obtain ⟨g, hg⟩ : ∃ g, g = w1.heap.size := ⟨_, rfl⟩
    have HB : Hid (Below w1.heap.size w1 w2 ∧ Own w1.heap.size 40 w2 (.slice (some ⟨g, 0, none⟩) n n) (List.replicate n 0)) := by rw [hg]; exact ⟨hbel, how⟩
    rw [← hg] 
    clear hg hbel how
    go_wp2
    go_loopw [6, 21] (fun c t wr => ∃ (i cN : Nat) (zs : List Nat), i ≤ n ∧ t = .int .i64 i ∧ c = .int .u64 cN ∧ cN ≤ 1 ∧ zs.length = n ∧ Own w1.heap.size 40 wr (.slice (some ⟨g, 0, none⟩) n n) zs ∧ low zs i + 4294967296 ^ i * cN = low X i + low Y i ∧ Below w1.heap.size w1 wr) (fun _ t _ => n - (intOf t).toNat)
    case atStart => exact ⟨0, 0, List.replicate n 0, Nat.zero_le _, rfl, rfl, by omega, by simp, HB.out.2, by simp [low_zero], HB.out.1⟩
    case round =>
      obtain ⟨i, c, zs, hin, rfl, rfl, hc1, hzl, how, hinv, hbel⟩ := hrel
      have HZ : Hid (zs.length = n) := hzl
      have HI : Hid (low zs i + 4294967296 ^ i * c = low X i + low Y i) := hinv
      clear hzl hinv HB
      have nu2 := nu.below (Nat.le_refl _) hbel
      have nv2 := nv.below (Nat.le_refl _) hbel
      by_cases hlt : i < n
      · have hlt' : (i : Int) < (n : Int) := by omega
        have hx0 := limb_lt nu.1 i
        have hy0 := limb_lt nv.1 i
        obtain ⟨x, hx⟩ : ∃ x, x = X.getD i 0 := ⟨_, rfl⟩
        obtain ⟨y, hy⟩ : ∃ y, y = Y.getD i 0 := ⟨_, rfl⟩
        have HX : Hid (x = X.getD i 0) := hx
        have HY : Hid (y = Y.getD i 0) := hy
        rw [← hx] at hx0
        rw [← hy] at hy0
        obtain ⟨hcz, hfz⟩ := how.cell (k := i) (by rw [HZ.out]; exact hlt)
        obtain ⟨z, hz⟩ : ∃ z, z = zs.getD i 0 := ⟨_, rfl⟩
        rw [← hz] at hcz
        have hset := how.set HZ.out i ((c + (x + y)) % 4294967296) (by omega)
        have hU : U ((c + (x + y)) % 4294967296) = .int .u32 (((c : Int) + ((x : Int) + (y : Int))) % 4294967296) := by simp [U]
        rw [hU] at hset
        have hbel2 : Below w1.heap.size w1 (wr.setCell ⟨g, i, none⟩ (.int .u32 (((c : Int) + ((x : Int) + (y : Int))) % 4294967296))) := hbel.setCell (by exact how.heap.1) _
        clear hx hy hz how hbel hU
        go_wp2_with fail
        refine (limb_any _ _ _ _ nu2 (by omega)).mono ?_
        rintro e w3 ⟨rfl, rfl⟩
        rw [Int.toNat_natCast, ← HX.out]
        go_wp2_with fail
        refine (limb_any _ _ _ _ nv2 (by omega)).mono ?_
        rintro e w4 ⟨rfl, rfl⟩
        rw [Int.toNat_natCast, ← HY.out]
        clear nu2 nv2
        go_wp2
        go_roundw
        case rel => exact ⟨i + 1, (c + (x + y)) / 4294967296, _, by omega, by go_num, by go_num, by omega, by rw [List.length_set]; exact HZ.out, hset, by rw [HX.out, HY.out]; exact add_step (by rw [HZ.out]; exact hlt) HI.out, hbel2⟩
        case measure => simp [intOf]; omega
      · have hlt' : ¬ (i : Int) < (n : Int) := by omega
        have hin' : i = n := by omega
        have HV : Hid (val zs = val xs + val ys) := by
          show _ = _
          rw [HE.out]
          exact add_done nu.1 nv.1 HXL.out HYL.out HZ.out (by rw [← hin']; exact HI.out)
        clear hin' nu2 nv2
        go_wp2_with fail
        refine (trim_any _ _ _ how.num).mono ?_
        rintro e w3 ⟨⟨k3, hk3, hk4, rfl⟩, rfl⟩
        have how2 := how.cut hk3
        rw [hk4, HV.out] at how2
        clear how hk4
        go_wp2
        go_ret
        exact ⟨_, rfl, how2, hbel⟩
end Go.Proofs.Ytnlajeinegampaa

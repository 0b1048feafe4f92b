/-
  Proved here: slices.Repeat of one number, as often as is asked.
  Proved here: package dag's checkLists: what is wrong with parents, ways that lead back left aside.
  Proved here: package dag's Order and Check.
  Proved here: package dag's Cycle.
-/
import Derived.Test.YtcadljpdokhpmabGreatSpAAll
import Derived.Laws.CopyOwn
import Derived.Test.YtcadljpdokhpmabGreatDagL2All
import Derived.Test.YtcadljpdokhpmabGreatDagN
import Derived.Test.YtcadljpdokhpmabGreatDagCyCAll
namespace Go.Proofs.YtcadljpdokhpmabGreat
set_option linter.unusedVariables false
open Go.RowKit
theorem and_low (n : Nat) (hn : n ≤ 100000) : bits BinOp.and IntKind.u64 (n : Int) 4294967295 = (n : Int) := by
  have h1 : n % 4294967296 = n := Nat.mod_eq_of_lt (by omega)
  have h2 := Nat.and_two_pow_sub_one_eq_mod n 32
  have h3 : n &&& 4294967295 = n := by rw [show (4294967295 : Nat) = 2 ^ 32 - 1 from rfl, h2, show (2 ^ 32 : Nat) = 4294967296 from rfl]; exact h1
  have hw : IntKind.u64.wrap (n : Int) = (n : Int) := by rw [IntKind.wrap_u64]; omega
  simp [bits]
  rw [show IntKind.u64.bits = 64 from rfl, Nat.mod_eq_of_lt (show n < 2 ^ 64 by omega), show (4294967295 % 2 ^ 64 : Nat) = 4294967295 from rfl, h3]
  exact hw
set_option maxRecDepth 100000 in
set_option maxHeartbeats 3200000 in
theorem mul64D (n : Nat) (hn : n ≤ 100000) (w : World) : Calls Tryz.prog 114 #[.int .u64 1, .int .u64 (n : Int)] w fun e w' => e = .returned (.tuple #[.int .u64 0, .int .u64 (n : Int)]) ∧ w' = w := by
  have b1 : bits BinOp.and IntKind.u64 1 4294967295 = 1 := by kernel_rfl
  have b2 := and_low n hn
  have b3 : bits BinOp.and IntKind.u64 0 4294967295 = 0 := by kernel_rfl
  have d1 : (n : Int) / 4294967296 = 0 := by omega
  have hw : IntKind.u64.wrap (n : Int) = (n : Int) := by rw [IntKind.wrap_u64]; omega
  go_enter Tryz.func114, Tryz.ntmps114
  go_wp2
  go_ret2
  exact ⟨rfl, rfl⟩
set_option maxRecDepth 100000 in
set_option maxHeartbeats 3200000 in
theorem mulD (n : Nat) (hn : n ≤ 100000) (w : World) : Calls Tryz.prog 106 #[.int .u64 1, .int .u64 (n : Int)] w fun e w' => e = .returned (.tuple #[.int .u64 0, .int .u64 (n : Int)]) ∧ w' = w := by
  have CM : Hid _ := mul64D n hn
  go_enter Tryz.func106, Tryz.ntmps106
  go_wp2_with fail
  refine Calls.mono (CM.out _) ?_
  rintro e y ⟨rfl, rfl⟩
  go_wp2
  go_ret2
  exact ⟨rfl, rfl⟩
theorem wp_copyD {P : Program} {w : World} {o : Oper} {a : Act} {K : Act → World → Prop} {Q : Exit → Act → World → Prop} (d s : Operand) (dT sT : TypeId)
    (ho : o.op = .call { callee := .builtin .copy, args := #[d, s], argTypes := #[dT, sT] }) (elem : TypeId) (hu : P.underlying dT = some (.slice elem)) (hsz : (P.info? elem).map (·.size) = some 1)
    (g off dLen dCap : Nat) (ad : Addr) (sLen sCap : Nat) (hd : a.eval d = .slice (some ⟨g, off, none⟩) dLen dCap) (hs : a.eval s = .slice (some ad) sLen sCap)
    (cur : Array Value) (t : TypeId) (hg : w.heap[g]? = some (.cells cur t (0, 0))) (cs : List Value) (hn : cs.length = Nat.min sLen dLen)
    (hsrc : ∀ j v, cs[j]? = some v → w.cell? (ad.add j) = some v) (hfit : off + cs.length ≤ cur.size) (h1 : ∀ v ∈ cs, v.oneCell' = true)
    (h : K (a.put o.dst (goInt cs.length)) (w.setRow g (cur.toList.take off ++ (cs ++ cur.toList.drop (off + cs.length))).toArray)) : o.wp P a w K Q := by
  have hrun := run_copy_row (P := P) w dT sT o.type elem g off dLen dCap ad sLen sCap cur t cs hu hsz hg hn hsrc hfit h1
  unfold Oper.wp
  simp [execOp, ho, resolve, invoke, builtin, hd, hs, hrun, Result.andThen]
  exact h
/-- The row while it is filled. -/
def rpL (n k : Nat) : List Value := List.replicate k (.int .i64 (-1)) ++ List.replicate (n - k) (.int .i64 0)
theorem rpL_len {n k : Nat} (h : k ≤ n) : (rpL n k).length = n := by simp [rpL]; omega
theorem rpL_step {n k m : Nat} (h : k + m ≤ n) : (rpL n k).take k ++ (List.replicate m (.int .i64 (-1)) ++ (rpL n k).drop (k + m)) = rpL n (k + m) := by
  unfold rpL
  rw [List.take_left' (by simp), List.drop_append, List.length_replicate, List.drop_replicate, List.drop_replicate, ← List.append_assoc, List.replicate_append_replicate]
  rw [show k - (k + m) = 0 by omega, show k + m - k = m by omega, show n - k - m = n - (k + m) by omega]
  rfl
theorem rpL_get {n k j : Nat} (h : j < k) : (rpL n k)[j]? = some (.int .i64 (-1)) := by
  unfold rpL
  rw [List.getElem?_append_left (by simp; exact h), List.getElem?_replicate, if_pos h]
def RpR (W : World) (g n k : Nat) : Prop := W.heap[g]? = some (.cells (rpL n k).toArray 3 (0, 0))
theorem RpR.cell {W : World} {g n k j : Nat} (h : RpR W g n k) (hj : j < k) : W.cell? ⟨g, j, none⟩ = some (.int .i64 (-1)) := by
  rw [cell_of_row W g _ _ _ _ h, List.getElem?_toArray, rpL_get hj]
theorem goInt_nat (m : Nat) (h : m ≤ 100000) : goInt m = .int .i64 (m : Int) := by rfl
set_option maxRecDepth 100000 in
set_option maxHeartbeats 6400000 in
theorem repeatD (gb n : Nat) (hn : n ≤ 100000) (w : World) (hc : w.cell? ⟨gb, 0, none⟩ = some (.int .i64 (-1))) :
    Calls Tryz.prog 87 #[.slice (some ⟨gb, 0, none⟩) 1 1, .int .i64 (n : Int)] w fun e w' => ∃ g, e = .returned (.slice (some ⟨g, 0, none⟩) n n) ∧ OG (Value.int .i64) w.heap.size 3 w' (.slice (some ⟨g, 0, none⟩) n n) (List.replicate n (-1)) ∧ Below w.heap.size w w' := by
  obtain ⟨i0, hi, hz0, hz1, hz2⟩ := info_parts Tryz.infoI
  have CM : Hid _ := mulD n hn
  have hw : IntKind.u64.wrap (n : Int) = (n : Int) := by rw [IntKind.wrap_u64]; omega
  have hneg : ¬ (n : Int) < 0 := by omega
  have hmx : ¬ (9223372036854775807 : Int) < (n : Int) := by omega
  obtain ⟨W1, hW1⟩ : ∃ W1, W1 = w.alloc (.cells (Array.replicate n (.int .i64 0)) 3) := ⟨_, rfl⟩
  obtain ⟨g, hg⟩ : ∃ g, g = w.heap.size := ⟨_, rfl⟩
  have b0 : Below w.heap.size w W1 := by rw [hW1]; exact belowB w _
  have HRW : Hid (RpR W1 g n 0) := by
    show RpR _ _ _ _
    unfold RpR
    rw [hW1, hg, heap_alloc_new]
    simp [rpL]
  have HC1 : Hid (W1.cell? ⟨gb, 0, none⟩ = some (.int .i64 (-1))) := keepR b0 hc
  have HB0 : Hid (Below w.heap.size w W1) := b0
  have HW1 : Hid (W1 = w.alloc (.cells (Array.replicate n (.int .i64 0)) 3)) := hW1
  have HG : Hid (g = w.heap.size) := hg
  have HSZ : Hid ((Tryz.prog.info? 3).map (·.size) = some 1) := by show _ = _; rw [hi]; simp [hz1]
  clear hW1 hg b0 hc
  go_enter Tryz.func87, Tryz.ntmps87
  go_wp2_with fail
  refine Calls.mono (CM.out _) ?_
  rintro e y ⟨rfl, hy0⟩
  rw [hy0]
  clear CM hy0 y
  go_upto_region 7 with (at_make; refine wpList_madeD _ rfl _ _ 23 rfl 3 i0 (.int .i64 0) rfl Tryz.underlying23 hi hz0 hz1 _ _ n rfl rfl (by rw [hz2]; omega) (by omega) ?_)
  rw [← HW1.out, ← HG.out]
  clear HW1
  obtain ⟨c1, W2, hc1n, hrun, hR2, hB2⟩ : ∃ (c1 : Nat) (W2 : World), (c1 ≤ n ∧ c1 ≤ 1 ∧ (0 < n → c1 = 1)) ∧ (Builtin.copy_ #[23, 23] 3 #[.slice (some ⟨g, 0, none⟩) n n, .slice (some ⟨gb, 0, none⟩) 1 1]).run Tryz.prog W1 = .ok (.int .i64 (c1 : Int)) W2 ∧ RpR W2 g n c1 ∧ Below w.heap.size w W2 := by
    rcases Nat.eq_zero_or_pos n with h0 | h0
    · refine ⟨0, W1, ⟨by omega, by omega, by omega⟩, ?_, HRW.out, HB0.out⟩
      have := run_copy_none (P := Tryz.prog) W1 23 23 3 3 (some ⟨g, 0, none⟩) (some ⟨gb, 0, none⟩) n n 1 1 Tryz.underlying23 HSZ.out (by rw [h0]; rfl)
      exact this
    · refine ⟨1, _, ⟨by omega, by omega, by omega⟩, run_copy_row (P := Tryz.prog) W1 23 23 3 3 g 0 n n ⟨gb, 0, none⟩ 1 1 (rpL n 0).toArray 3 [.int .i64 (-1)] Tryz.underlying23 HSZ.out HRW.out (by rw [show Nat.min 1 n = 1 from Nat.min_eq_left h0]; rfl) (fun j v hj => ?_) (by simp [rpL_len (Nat.zero_le n)]; exact h0) (by simp [Value.oneCell']), ?_, below_setRow HB0.out (by rw [HG.out]; exact Nat.le_refl _) _⟩
      · match j, hj with
        | 0, hj => simp at hj; subst hj; rw [Addr.add_lit]; exact HC1.out
      · unfold RpR
        rw [setRow_heap W1 g _ _ _ _ HRW.out]
        have h2 := rpL_step (n := n) (k := 0) (m := 1) (by omega)
        rw [Nat.zero_add] at h2
        rw [show (rpL n 0).toArray.toList = rpL n 0 from rfl]
        simp only [List.length_singleton, Nat.zero_add]
        rw [← h2]
        rfl
  have HR2 : Hid (RpR W2 g n c1) := hR2
  have HB2 : Hid (Below w.heap.size w W2) := hB2
  clear hR2 hB2 HRW HB0 HC1
  go_wp2
  go_loopg [8] n (fun g1 v8 wr => ∃ k : Nat, v8 = .int .i64 k ∧ k ≤ n ∧ (0 < n → 0 < k) ∧ n - k ≤ g1 ∧ Hid (RpR wr g n k) ∧ Hid (Below w.heap.size w wr))
  case atStart => exact ⟨c1, rfl, hc1n.1, fun h => by have := hc1n.2.2 h; omega, by omega, HR2, HB2⟩
  case round =>
    clear HR2 HB2 hrun hc1n
    obtain ⟨k, rfl, hkn, hk0, hg1, HR, HB⟩ := hrel
    by_cases hlt : k < n
    · have hltz : (k : Int) < (n : Int) := by omega
      have hkp : 0 < k := hk0 (by omega)
      obtain ⟨m, hm⟩ : ∃ m, m = Nat.min k (n - k) := ⟨_, rfl⟩
      have hmb : 0 < m ∧ k + m ≤ n := by
        rw [hm]
        have h1 := Nat.min_le_left k (n - k)
        have h2 := Nat.min_le_right k (n - k)
        refine ⟨?_, ?_⟩
        · exact Nat.lt_min.2 ⟨hkp, by omega⟩
        · have : Nat.min k (n - k) ≤ n - k := h2
          omega
      have HM : Hid (m = Nat.min k (n - k)) := hm
      clear hm
      go_upto_region 9 with fail
      have KEEP : ∀ u, Below wr.heap.size wr u → L4.AllL u [] := fun u hu => trivial
      refine L4.region_late [] (by kernel_rfl) ?_
      have B : Below wr.heap.size wr wr.drew := (Below.refl _ _).drew
      obtain ⟨w1, hw1⟩ : ∃ u, u = wr.drew := ⟨_, rfl⟩
      rw [← hw1] at B ⊢
      clear hw1
      have hHeld := KEEP _ B
      refine L4.late_free 0 (v := .int .i64 ((k : Nat) : Int)) rfl (by kernel_rfl) (by kernel_rfl) (by kernel_rfl) (by kernel_rfl) (by kernel_rfl) (by kernel_rfl) (fun _ _ _ h => h) (Or.inl ⟨by rfl, ?_⟩) hHeld ?_
      · (intro u _; go_simp)
      (try simp only [Act.put, List.setIfInBounds_toArray, List.set_cons_zero, List.set_cons_succ])
      refine L4.late_free 1 (v := .slice (some ⟨g, 0, none⟩) n n) rfl (by kernel_rfl) (by kernel_rfl) (by kernel_rfl) (by kernel_rfl) (by kernel_rfl) (by kernel_rfl) (fun _ _ _ h => h) (Or.inl ⟨by rfl, ?_⟩) hHeld ?_
      · (intro u _; go_simp)
      (try simp only [Act.put, List.setIfInBounds_toArray, List.set_cons_zero, List.set_cons_succ])
      refine L4.late_free 2 (v := .int .i64 ((k : Nat) : Int)) rfl (by kernel_rfl) (by kernel_rfl) (by kernel_rfl) (by kernel_rfl) (by kernel_rfl) (by kernel_rfl) (fun _ _ _ h => h) (Or.inl ⟨by rfl, ?_⟩) hHeld ?_
      · (intro u _; go_simp)
      (try simp only [Act.put, List.setIfInBounds_toArray, List.set_cons_zero, List.set_cons_succ])
      refine L4.late_free 3 (v := .slice (some ⟨g, k, none⟩) (n - k) (n - k)) rfl (by kernel_rfl) (by kernel_rfl) (by kernel_rfl) (by kernel_rfl) (by kernel_rfl) (by kernel_rfl) (fun _ _ _ h => h) (Or.inl ⟨by rfl, ?_⟩) hHeld ?_
      · (intro u _; go_simp; omega)
      (try simp only [Act.put, List.setIfInBounds_toArray, List.set_cons_zero, List.set_cons_succ])
      refine L4.late_free 4 (v := .slice (some ⟨g, 0, none⟩) n n) rfl (by kernel_rfl) (by kernel_rfl) (by kernel_rfl) (by kernel_rfl) (by kernel_rfl) (by kernel_rfl) (fun _ _ _ h => h) (Or.inl ⟨by rfl, ?_⟩) hHeld ?_
      · (intro u _; go_simp)
      (try simp only [Act.put, List.setIfInBounds_toArray, List.set_cons_zero, List.set_cons_succ])
      refine L4.late_free 5 (v := .int .i64 ((k : Nat) : Int)) rfl (by kernel_rfl) (by kernel_rfl) (by kernel_rfl) (by kernel_rfl) (by kernel_rfl) (by kernel_rfl) (fun _ _ _ h => h) (Or.inl ⟨by rfl, ?_⟩) hHeld ?_
      · (intro u _; go_simp)
      (try simp only [Act.put, List.setIfInBounds_toArray, List.set_cons_zero, List.set_cons_succ])
      refine L4.late_free 6 (v := .slice (some ⟨g, 0, none⟩) k n) rfl (by kernel_rfl) (by kernel_rfl) (by kernel_rfl) (by kernel_rfl) (by kernel_rfl) (by kernel_rfl) (fun _ _ _ h => h) (Or.inl ⟨by rfl, ?_⟩) hHeld ?_
      · (intro u _; go_simp)
      (try simp only [Act.put, List.setIfInBounds_toArray, List.set_cons_zero, List.set_cons_succ])
      refine L4.late_step 7 (by kernel_rfl) rfl (fun K hK => ?_)
      refine want_yesD rfl ?_
      have hrw : RpR w1 g n k := by unfold RpR; rw [B.block g (Array.getElem?_eq_some_iff.1 HR.out).1]; exact HR.out
      refine wp_copyD _ _ 23 23 rfl 3 Tryz.underlying23 HSZ.out g k (n - k) (n - k) ⟨g, 0, none⟩ k n rfl rfl (rpL n k).toArray 3 hrw (List.replicate m (.int .i64 (-1))) (by rw [List.length_replicate, HM.out]) (fun j v hj => by rw [List.getElem?_replicate] at hj; split at hj <;> simp at hj; subst hj; rw [Addr.add_lit, Nat.zero_add]; exact hrw.cell (Nat.lt_of_lt_of_le (by assumption) (by rw [HM.out]; exact Nat.min_le_left _ _))) (by rw [List.length_replicate]; simp [rpL_len (show k ≤ n by omega)]; exact hmb.2) (by intro v hv; rw [List.eq_of_mem_replicate hv]; rfl) ?_
      rw [List.length_replicate, goInt_nat m (by omega)]
      obtain ⟨y2, hy2⟩ : ∃ u, u = w1.setRow g (List.take k (rpL n k).toArray.toList ++ (List.replicate m (Value.int .i64 (-1)) ++ List.drop (k + m) (rpL n k).toArray.toList)).toArray := ⟨_, rfl⟩
      rw [← hy2]
      have HR3 : Hid (RpR y2 g n (k + m)) := by show RpR _ _ _ _; unfold RpR; rw [hy2, setRow_heap w1 g _ _ _ _ hrw]; rw [show (rpL n k).toArray.toList = rpL n k from rfl, rpL_step hmb.2]
      have HB3 : Hid (Below w.heap.size w y2) := by show Below _ _ _; rw [hy2]; exact below_setRow (HB.out.trans (B.mono HB.out.size)) (by rw [HG.out]; exact Nat.le_refl _) _
      clear hy2 hrw B hHeld
      have hHeld : L4.AllL y2 [] := trivial
      refine hK.out _ _ (L4.AllL.kept hHeld) ?_
      clear hK K
      (try simp only [Act.put, List.setIfInBounds_toArray, List.set_cons_zero, List.set_cons_succ])
      refine L4.late_free 8 (v := .int .i64 ((k + m : Nat) : Int)) rfl (by kernel_rfl) (by kernel_rfl) (by kernel_rfl) (by kernel_rfl) (by kernel_rfl) (by kernel_rfl) (fun _ _ _ h => h) (Or.inl ⟨by rfl, ?_⟩) hHeld ?_
      · (intro u _; go_simp; rw [IntKind.wrap_i64]; omega)
      (try simp only [Act.put, List.setIfInBounds_toArray, List.set_cons_zero, List.set_cons_succ])
      refine L4.late_step 9 (by kernel_rfl) rfl (fun K hK => ?_)
      go_simp
      refine hK.out _ _ (L4.AllL.kept hHeld) ?_
      clear hK K
      (try simp only [Act.put, List.setIfInBounds_toArray, List.set_cons_zero, List.set_cons_succ])
      refine L4.late_done (by kernel_rfl) ?_ _
      clear KEEP hHeld HR HB
      go_wp2
      go_roundg (n - (k + m))
      case measure => omega
      case rel => exact ⟨k + m, rfl, hmb.2, fun _ => by omega, Nat.le_refl _, HR3, HB3⟩
    · have hltz : ¬ (k : Int) < (n : Int) := by omega
      have hkn2 : k = n := by omega
      subst hkn2
      have HRES : Hid (OG (Value.int .i64) w.heap.size 3 wr (.slice (some ⟨g, 0, none⟩) k k) (List.replicate k (-1))) := by
        refine ⟨by simp, Or.inr ⟨g, k, (rpL k k).toArray, by rw [List.length_replicate], by rw [HG.out]; exact Nat.le_refl _, HR.out, by rw [List.length_replicate]; exact Nat.le_refl _, by unfold maxLen; omega, by simp [rpL], ?_⟩⟩
        rw [List.length_replicate]
        simp [rpL]
      clear HR
      go_wp2
      go_ret
      exact ⟨g, rfl, HRES.out, HB.out⟩
end Go.Proofs.YtcadljpdokhpmabGreat

namespace Go.Proofs.YtcadljpdokhpmabGreat
set_option linter.unusedVariables false
open Go.RowKit
set_option maxRecDepth 100000 in
set_option maxHeartbeats 12800000 in
theorem checkListsD (pv : Value) (pvs : List Value) (P : List (List Int)) (w : World) (h : RRD w pv pvs P) (n : Nat) (hn : P.length = n) (hb : n ≤ 100000) :
    Calls Tryz.prog 71 #[pv] w fun e w' => e = .returned (.int .i64 (clE P)) ∧ Below w.heap.size w w' := by
  obtain ⟨po, pn, pc, rfl⟩ : ∃ o n c, pv = .slice o n c := by obtain ⟨ao, cap, e⟩ := h.out.sl; exact ⟨_, _, _, e⟩
  obtain rfl : pn = n := by rw [← hn, ← h.len, h.out.len]
  have HR : Hid (RRD w (.slice po pn pc) pvs P) := h
  have HN : Hid (P.length = pn) := hn
  clear h hn
  go_enter Tryz.func71, Tryz.ntmps71
  go_wp2
  go_loopg [4, 12] pn (fun g1 _v4 v12 wr => ∃ i : Nat, v12 = .int .i64 i ∧ i ≤ pn ∧ pn - i ≤ g1 ∧ Hid ((P.take i).any (noPts (pn : Int)) = false) ∧ Hid (Below w.heap.size w wr))
  case atStart => exact ⟨0, rfl, by omega, by omega, rfl, Below.refl _ _⟩
  case round =>
    obtain ⟨i, rfl, hin, hg1, HA, HB⟩ := hrel
    by_cases hlt : i < pn
    · have hltz : (i : Int) < (pn : Int) := by omega
      obtain ⟨x, gp, op, hx1, rfl, hx2⟩ := (HR.out.below (Nat.le_refl _) HB.out).out.at hlt
      have hxr := (HR.out.below (Nat.le_refl _) HB.out).inn i x hx1
      obtain ⟨xo, xn, xc, rfl⟩ : ∃ o n c, x = .slice o n c := by obtain ⟨ao, cap, e⟩ := hxr.sl; exact ⟨_, _, _, e⟩
      change wr.cell? ⟨gp, op + i, none⟩ = some (.slice xo xn xc) at hx2
      have CA : Hid _ := arePointsD (pn : Int) _ _ wr hxr
      have HTK : Hid ((P.take (i + 1)).any (noPts (pn : Int)) = noPts (pn : Int) (P.getD i [])) := by show _ = _; rw [anyP_take (by rw [HN.out]; exact hlt), HA.out]; rfl
      have HYS : Hid (noPts (pn : Int) (P.getD i []) = true → outsB P = true) := fun h => by unfold outsB; rw [HN.out]; exact anyP_at (by rw [HN.out]; exact hlt) h
      clear hxr hx1 HA
      go_wp2_with fail
      refine Calls.mono CA.out ?_
      rintro e y ⟨rfl, hy⟩
      have HB2 : Hid (Below w.heap.size w y) := bstepB HB.out hy
      clear CA hx2 HB hy
      rcases hb2 : noPts (pn : Int) (P.getD i []) with _ | _
      · have HT2 : Hid ((P.take (i + 1)).any (noPts (pn : Int)) = false) := by show _ = _; rw [HTK.out, hb2]
        clear hb2 HYS HTK
        go_wp2
        go_roundg (pn - (i + 1))
        case measure => omega
        case rel => exact ⟨i + 1, by first | rfl | go_num, by omega, Nat.le_refl _, HT2, HB2⟩
      · have HE : Hid (clE P = 3) := by show _ = _; unfold clE; rw [HYS.out hb2]; rfl
        clear hb2 HYS HTK
        go_wp2
        go_ret
        exact ⟨by rw [HE.out]; rfl, HB2.out⟩
    · have hltz : ¬ (i : Int) < (pn : Int) := by omega
      obtain rfl : i = pn := by omega
      have HNO : Hid (outsB P = false) := by
        show _ = _
        have := HA.out
        unfold outsB
        rw [List.take_of_length_le (by rw [HN.out]; exact Nat.le_refl _)] at this
        rw [HN.out]; exact this
      have HP : Hid (∀ (j : Nat) (x : Int), x ∈ P.getD j [] → ∃ p : Nat, x = (p : Int) ∧ p < i) := fun j x hx => by have := outs_no HNO.out j x hx; rw [HN.out] at this; exact this
      obtain ⟨WA, hWA⟩ : ∃ W, W = wr.alloc (.cells #[.int .i64 (-1)] 3) := ⟨_, rfl⟩
      obtain ⟨gb, hgb⟩ : ∃ g, g = wr.heap.size := ⟨_, rfl⟩
      have hcb : WA.cell? ⟨gb, 0, none⟩ = some (.int .i64 (-1)) := by rw [hWA, hgb, World.cell?_alloc_at _ _ _ _ rfl]; rfl
      have CR : Hid _ := repeatD gb i hb WA hcb
      have HBA : Hid (Below w.heap.size w WA) := by show Below _ _ _; rw [hWA]; exact bstepB HB.out (belowB _ _)
      have HWA : Hid (WA = wr.alloc (.cells #[.int .i64 (-1)] 3)) := hWA
      have HGB : Hid (gb = wr.heap.size) := hgb
      clear hWA hgb hcb HA HB
      go_wp2_with fail
      rw [← HWA.out, ← HGB.out]
      refine Calls.mono CR.out ?_
      rintro e y ⟨g, rfl, hy1, hy2⟩
      have HLR : Hid (OG (Value.int .i64) w.heap.size 3 y (.slice (some ⟨g, 0, none⟩) i i) (List.replicate i (-1))) := hy1.mono HBA.out.size
      have HB2 : Hid (Below w.heap.size w y) := bstepB HBA.out hy2
      have HLA : Hid (LaI P 0 0 (List.replicate i (-1))) := LaI.start HN.out
      clear CR HBA HWA HGB hy1 hy2
      go_wp2
      go_loopg [6, 7, 9, 28] i (fun g1 _v6 _v7 _v9 v28 wr => ∃ (j : Nat) (La : List Int), v28 = .int .i64 j ∧ j ≤ i ∧ i - j ≤ g1 ∧ Hid ((P.take j).any twiceB = false) ∧ Hid (LaI P j 0 La) ∧ Hid (OG (Value.int .i64) w.heap.size 3 wr (.slice (some ⟨g, 0, none⟩) i i) La) ∧ Hid (Below w.heap.size w wr))
      case atStart => exact ⟨0, _, rfl, by omega, by omega, rfl, HLA, HLR, HB2⟩
      case round =>
        clear HLA HLR HB2
        obtain ⟨j, La, rfl, hjn, hg2, HA, HLA, HLR, HB⟩ := hrel
        by_cases hlj : j < i
        · have hljz : (j : Int) < (i : Int) := by omega
          obtain ⟨x, gp, op, hx1, rfl, hx2⟩ := (HR.out.below (Nat.le_refl _) HB.out).out.at hlj
          have hxr := HR.out.inn j x hx1
          obtain ⟨xo, xn, xc, rfl⟩ : ∃ o n c, x = .slice o n c := by obtain ⟨ao, cap, e⟩ := hxr.sl; exact ⟨_, _, _, e⟩
          have hxm : xn ≤ 9223372036854775807 := by have := hxr.room.2.1; have := hxr.room.1; unfold maxLen at *; omega
          have HX : Hid (RG (Value.int .i64) w (.slice xo xn xc) (P.getD j [])) := hxr
          have HTK : Hid ((P.take (j + 1)).any twiceB = twiceB (P.getD j [])) := by show _ = _; rw [anyP_take (by rw [HN.out]; exact hlj), HA.out]; rfl
          have HYS : Hid (twiceB (P.getD j []) = true → clE P = 40) := fun h => by
            have : twicesB P = true := anyP_at (by rw [HN.out]; exact hlj) h
            unfold clE
            rw [HNO.out, this]; rfl
          change wr.cell? ⟨gp, op + j, none⟩ = some (.slice xo xn xc) at hx2
          have HND0 : Hid (((P.getD j []).take 0).Nodup) := List.nodup_nil
          clear hxr hx1 HA
          go_wp2
          go_loopg [9, 35] xn (fun g3 _v9 v35 wq => ∃ (k : Nat) (La : List Int), v35 = .int .i64 k ∧ k ≤ xn ∧ xn - k ≤ g3 ∧ Hid (((P.getD j []).take k).Nodup) ∧ Hid (LaI P j k La) ∧ Hid (OG (Value.int .i64) w.heap.size 3 wq (.slice (some ⟨g, 0, none⟩) i i) La) ∧ Hid (Below w.heap.size w wq))
          case atStart => exact ⟨0, La, rfl, by omega, by omega, HND0, HLA, HLR, HB⟩
          case round =>
            clear HND0 HLA HLR HB hx2
            obtain ⟨k, La, rfl, hkx, hg3, HND, HLA, HLR, HB⟩ := hrel
            by_cases hlk : k < xn
            · have hlkz : (k : Int) < (xn : Int) := by omega
              obtain ⟨y, gx, ox, hy1, rfl, hy2⟩ := (HX.out.below (Nat.le_refl _) HB.out).at hlk
              obtain ⟨p, rfl, hpn⟩ := HP.out j y (List.mem_of_getElem? hy1)
              have hpz : (p : Int) < (i : Int) := by omega
              have hll := HLR.out.rg.len
              obtain ⟨l, hl⟩ : ∃ l, l = La.getD p 0 := ⟨_, rfl⟩
              have hlp : La[p]? = some l := by rw [hl]; exact getD_some (by omega)
              obtain ⟨hc1, hf1⟩ := HLR.out.cell hlp
              have hla := HLA.out.2 p (by rw [HN.out]; exact hpn)
              rw [← hl] at hla
              have HY : Hid ((P.getD j [])[k]? = some (p : Int)) := hy1
              by_cases he : l = (j : Int)
              · have HE : Hid (clE P = 40) := HYS.out (twice_at hy1 (hla.2.1 he))
                have hez : (l == (j : Int)) = true := by simpa using he
                clear hl hlp hla hy1 hll he HLA HLR
                go_wp2
                go_ret
                exact ⟨by rw [HE.out]; rfl, HB.out⟩
              · have hez : (l == (j : Int)) = false := by simpa using he
                have HNN : Hid (((P.getD j []).take (k + 1)).Nodup) := nodup_take HND.out hy1 (fun hm => he (hla.2.2 hm))
                have HL2 : Hid (LaI P j (k + 1) (La.set p (j : Int))) := HLA.out.step (by rw [HN.out]; exact hpn) hy1
                have hst := HLR.out.set hll p (j : Int)
                obtain ⟨WN, hWN⟩ : ∃ W, W = wr.setCell ⟨g, p, none⟩ (.int .i64 (j : Int)) := ⟨_, rfl⟩
                rw [← hWN] at hst
                have HLR2 : Hid (OG (Value.int .i64) w.heap.size 3 WN (.slice (some ⟨g, 0, none⟩) i i) (La.set p (j : Int))) := hst.1
                have HB2 : Hid (Below w.heap.size w WN) := by show Below _ _ _; rw [hWN]; exact HB.out.setCell (p := ⟨g, p, none⟩) (HLR.out.lt g rfl).1 _
                have HWN : Hid (WN = wr.setCell ⟨g, p, none⟩ (.int .i64 (j : Int))) := hWN
                clear hl hlp hla hy1 hll he hWN hst HLA HLR HB HND
                go_wp2
                rw [← HWN.out]
                clear HWN hc1 hf1 hy2
                go_roundg (xn - (k + 1))
                case measure => omega
                case rel => exact ⟨k + 1, _, by first | rfl | go_num, by omega, Nat.le_refl _, HNN, HL2, HLR2, HB2⟩
            · have hlkz : ¬ (k : Int) < (xn : Int) := by omega
              have HTK2 : Hid ((P.take (j + 1)).any twiceB = false) := by
                show _ = _
                rw [HTK.out]
                have := HND.out
                rw [List.take_of_length_le (by rw [HX.out.len]; omega)] at this
                unfold twiceB
                exact decide_eq_false fun h => h this
              have HL2 : Hid (LaI P (j + 1) 0 La) := HLA.out.next
              clear HND HLA HTK HYS
              go_wp2
              go_roundg (i - (j + 1))
              case measure => omega
              case rel => exact ⟨j + 1, _, by first | rfl | go_num, by omega, Nat.le_refl _, HTK2, HL2, HLR, HB⟩
        · have hljz : ¬ (j : Int) < (i : Int) := by omega
          obtain rfl : j = i := by omega
          have HE : Hid (clE P = 0) := by
            show _ = _
            have := HA.out
            rw [List.take_of_length_le (by rw [HN.out]; exact Nat.le_refl _)] at this
            have h2 : twicesB P = false := this
            unfold clE
            rw [HNO.out, h2]; rfl
          clear HA HLA HLR
          go_wp2
          go_ret
          exact ⟨by rw [HE.out]; rfl, HB.out⟩
end Go.Proofs.YtcadljpdokhpmabGreat

namespace Go.Proofs.YtcadljpdokhpmabGreat
set_option linter.unusedVariables false
open Go.RowKit
/-- What Check answers. -/
def ckE (P : List (List Int)) : Int := if clE P = 0 then (if (outL P).length < P.length then 42 else 0) else clE P
/-- What Order answers. -/
def ordL (P : List (List Int)) : List Int := if ckE P = 0 then outL P else []
theorem cl_zero {P : List (List Int)} (h : clE P = 0) : outsB P = false ∧ twicesB P = false := by
  unfold clE at h
  cases h1 : outsB P <;> cases h2 : twicesB P <;> simp [h1, h2] at h ⊢
set_option maxRecDepth 100000 in
set_option maxHeartbeats 3200000 in
theorem orderD (pv : Value) (pvs : List Value) (P : List (List Int)) (w : World) (h : RRD w pv pvs P) (n : Nat) (hn : P.length = n) (hb : n ≤ 100000) (hbl : ∀ i, (P.getD i []).length ≤ 100000) :
    Calls Tryz.prog 60 #[pv] w fun e w' => ∃ tv, e = .returned (.tuple #[tv, .int .i64 (ckE P)]) ∧ OG (Value.int .i64) w.heap.size 3 w' tv (ordL P) ∧ Below w.heap.size w w' := by
  have CC : Hid _ := checkListsD pv pvs P w h n hn hb
  obtain ⟨po, pn, pc, rfl⟩ : ∃ o n c, pv = .slice o n c := by obtain ⟨ao, cap, e⟩ := h.out.sl; exact ⟨_, _, _, e⟩
  obtain rfl : pn = n := by rw [← hn, ← h.len, h.out.len]
  have HR : Hid (RRD w (.slice po pn pc) pvs P) := h
  have HN : Hid (P.length = pn) := hn
  have HBL : Hid (∀ i, (P.getD i []).length ≤ 100000) := hbl
  clear h hn hbl
  go_enter Tryz.func60, Tryz.ntmps60
  go_wp2_with fail
  refine Calls.mono CC.out ?_
  rintro e y ⟨rfl, hy⟩
  have HB : Hid (Below w.heap.size w y) := hy
  clear CC hy
  by_cases h0 : clE P = 0
  · have hz := cl_zero h0
    have hP := outs_no hz.1
    have hnd := twices_no hz.2
    have CR : Hid _ := restOfD _ pvs P y (HR.out.below (Nat.le_refl _) HB.out) hP hnd pn HN.out hb HBL.out
    have HND : Hid (∀ i, (P.getD i []).Nodup) := hnd
    have HCK : Hid (ckE P = if (outL P).length < pn then 42 else 0) := by show _ = _; unfold ckE; rw [if_pos h0, HN.out]
    rw [h0]
    clear hz hP hnd h0
    go_wp2_with fail
    refine Calls.mono CR.out ?_
    rintro e z ⟨rb, rfl, S, v, g, go, gw, cvs, Ob, Wt, L, hz1, hz2, hz3, hz4, hz5⟩
    have CD : Hid _ := drainD y.heap.size S z rb _ v g go gw pn cvs P Ob Wt L hz1 hz5.size HN.out hb HBL.out HND.out hz2 hz3 hz4
    have HB2 : Hid (Below w.heap.size w z) := bstepB HB.out hz5
    have HBK : Hid (∀ q, RtS rb go gw v q → w.heap.size ≤ q) := fun q hq => by
      have h1 := hz1.frw
      have h2 := HB.out.size
      rcases hq with e | e | e | e
      · rw [e]; exact Nat.le_trans h2 hz1.hB
      · rw [e]; exact Nat.le_trans h2 h1.1
      · rw [e]; exact Nat.le_trans h2 h1.2.1
      · exact Nat.le_trans h2 (h1.2.2 q e)
    clear CR hz1 hz2 hz3 hz4 hz5 HB
    go_wp2_with fail
    refine Calls.mono CD.out ?_
    rintro e x ⟨tv, rfl, hx1, hx2⟩
    have HB3 : Hid (Below w.heap.size w x) := HB2.out.trans (hx2.below HB2.out.size HBK.out)
    have HO : Hid (OG (Value.int .i64) w.heap.size 3 x tv (outL P)) := hx1.mono HB2.out.size
    obtain ⟨to', tn, tc, rfl⟩ : ∃ o n c, tv = .slice o n c := by obtain ⟨ao, cap, e⟩ := hx1.rg.sl; exact ⟨_, _, _, e⟩
    have hl : (outL P).length = tn := hx1.rg.len
    rw [hl] at HCK
    clear CD hx1 hx2 hl HBK HB2
    by_cases hlt : tn < pn
    · have hltz : (tn : Int) < (pn : Int) := by omega
      have HE : Hid (ckE P = 42) := by show _ = _; rw [HCK.out, if_pos hlt]
      clear HCK
      go_wp2
      go_ret2
      exact ⟨_, by rw [HE.out]; rfl, by unfold ordL; rw [HE.out]; exact OG.nil _ _ _, HB3.out⟩
    · have hltz : ¬ (tn : Int) < (pn : Int) := by omega
      have HE : Hid (ckE P = 0) := by show _ = _; rw [HCK.out, if_neg hlt]
      clear HCK
      go_wp2
      go_ret2
      exact ⟨_, by rw [HE.out]; rfl, by unfold ordL; rw [HE.out]; exact HO.out, HB3.out⟩
  · have HE : Hid (ckE P = clE P) := by show _ = _; unfold ckE; rw [if_neg h0]
    obtain ⟨c, hc⟩ : ∃ c, c = clE P := ⟨_, rfl⟩
    rw [← hc] at h0 HE ⊢
    have hcz : (c != (0 : Int)) = true := by simpa using h0
    have HC0 : Hid (c ≠ 0) := h0
    clear h0 hc
    go_wp2
    go_ret2
    exact ⟨_, by rw [HE.out]; rfl, by unfold ordL; rw [HE.out, if_neg HC0.out]; exact OG.nil _ _ _, HB.out⟩
set_option maxRecDepth 100000 in
set_option maxHeartbeats 1600000 in
theorem checkD (pv : Value) (pvs : List Value) (P : List (List Int)) (w : World) (h : RRD w pv pvs P) (n : Nat) (hn : P.length = n) (hb : n ≤ 100000) (hbl : ∀ i, (P.getD i []).length ≤ 100000) :
    Calls Tryz.prog 41 #[pv] w fun e w' => e = .returned (.int .i64 (ckE P)) ∧ Below w.heap.size w w' := by
  have CC : Hid _ := orderD pv pvs P w h n hn hb hbl
  obtain ⟨po, pn, pc, rfl⟩ : ∃ o n c, pv = .slice o n c := by obtain ⟨ao, cap, e⟩ := h.out.sl; exact ⟨_, _, _, e⟩
  clear h hn hbl
  go_enter Tryz.func41, Tryz.ntmps41
  go_wp2_with fail
  refine Calls.mono CC.out ?_
  rintro e y ⟨tv, rfl, _, hy⟩
  have HB : Hid (Below w.heap.size w y) := hy
  clear CC hy
  go_wp2
  go_ret
  exact ⟨rfl, HB.out⟩
end Go.Proofs.YtcadljpdokhpmabGreat

namespace Go.Proofs.YtcadljpdokhpmabGreat
set_option linter.unusedVariables false
open Go.RowKit
/-- One point more: what is out, the best way so far, how many points a better one may have. -/
noncomputable def cyStep (P : List (List Int)) (st : List Int × List Int × Nat) (k : Nat) : List Int × List Int × Nat :=
  if (k : Int) ∈ st.1 then st else
    (outF P (P.length - (st.1 ++ [(k : Int)]).length) (st.1 ++ [(k : Int)]), (bkF P st.1 k st.2.2).getD st.2.1, match bkF P st.1 k st.2.2 with | some c => c.length - 1 | none => st.2.2)
noncomputable def cySt (P : List (List Int)) (k : Nat) : List Int × List Int × Nat := (List.range k).foldl (cyStep P) (outL P, [], P.length)
theorem cySt_succ (P : List (List Int)) (k : Nat) : cySt P (k + 1) = cyStep P (cySt P k) k := by
  unfold cySt
  rw [List.range_succ, List.foldl_append]; rfl
/-- What Cycle answers. -/
noncomputable def cyL (P : List (List Int)) : List Int := if ckE P = 42 then (cySt P P.length).2.1 else []
theorem bkF_len {P : List (List Int)} {T : List Int} {s most : Nat} {c : List Int} (h : bkF P T s most = some c) : 1 ≤ c.length ∧ c.length ≤ most := by
  unfold bkF at h
  split at h
  · rename_i hh
    have h1 := (Classical.choose_spec hh).1.1
    have h2 := (Classical.choose_spec hh).2
    simp only [Option.some.injEq] at h
    rw [← h, List.length_cons, wyF_len]
    omega
  · exact absurd h (by simp)
theorem ck_42 {P : List (List Int)} (h : ckE P = 42) : clE P = 0 := by
  unfold ckE at h
  split at h
  · assumption
  · unfold clE at h
    split at h
    · simp at h
    · split at h <;> simp at h
theorem RtC.shun {B B' : Nat} {S : Nat → Prop} {w : World} {rb : Nat} {a v u : Value} {g go gw n : Nat} {cvs : List Value} {C : Nat → List Int} {Ob : List Bool} {Wt L zs : List Int} (h : RtC B S w rb a v g go gw n cvs C Ob Wt L) (ho : OG (Value.int .i64) B' 3 w u zs) (hap : ∀ q, u.ownBlock = some q → v.ownBlock ≠ some q ∧ q ≠ gw) : ∀ q, u.ownBlock = some q → ¬ RtS rb go gw v q := by
  intro q hq e
  rcases e with e | e | e | e
  · exact ho.neT h.ln.box (by decide) (by rw [hq, e])
  · exact ho.neO h.out (by decide) hq (by rw [e]; rfl)
  · exact (hap q hq).2 e
  · exact (hap q hq).1 e
end Go.Proofs.YtcadljpdokhpmabGreat

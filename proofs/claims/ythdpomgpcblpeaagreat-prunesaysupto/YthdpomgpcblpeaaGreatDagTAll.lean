/-
  Proved here: what is wrong with parents, as plain mathematics.
  Proved here: slices.Repeat of one number, as often as is asked.
-/
import Derived.Test.YthdpomgpcblpeaaGreatDagOAll
import Derived.Test.YthdpomgpcblpeaaGreatDagKAll
import Derived.Laws.CopyOwn
namespace Go.Proofs.YthdpomgpcblpeaaGreat
set_option linter.unusedVariables false
/-- Is some parent no point? -/
def outsB (P : List (List Int)) : Bool := P.any (noPts (P.length : Int))
/-- Comes a number again? -/
def twiceB (zs : List Int) : Bool := decide ¬ zs.Nodup
def twicesB (P : List (List Int)) : Bool := P.any twiceB
/-- What checkLists answers. -/
def clE (P : List (List Int)) : Int := if outsB P then 3 else if twicesB P then 40 else 0
theorem outs_no {P : List (List Int)} (h : outsB P = false) (i : Nat) (x : Int) (hx : x ∈ P.getD i []) : ∃ p : Nat, x = (p : Int) ∧ p < P.length := by
  by_cases hi : i < P.length
  · have h1 : noPts (P.length : Int) (P.getD i []) = false := by
      have := List.any_eq_false.1 h (P.getD i []) (by rw [List.getD_eq_getElem?_getD, List.getElem?_eq_getElem hi]; exact List.getElem_mem hi)
      simpa using this
    have h2 := List.any_eq_false.1 h1 x hx
    have h3 : ¬ x < 0 ∧ ¬ (P.length : Int) ≤ x := by simpa [noPt] using h2
    exact ⟨x.toNat, by omega, by omega⟩
  · rw [List.getD_eq_getElem?_getD, List.getElem?_eq_none (by omega)] at hx
    simp at hx
theorem twices_no {P : List (List Int)} (h : twicesB P = false) (i : Nat) : (P.getD i []).Nodup := by
  by_cases hi : i < P.length
  · have := List.any_eq_false.1 h (P.getD i []) (by rw [List.getD_eq_getElem?_getD, List.getElem?_eq_getElem hi]; exact List.getElem_mem hi)
    simpa [twiceB] using this
  · rw [List.getD_eq_getElem?_getD, List.getElem?_eq_none (by omega)]
    exact List.nodup_nil
theorem anyP_take {p : List Int → Bool} {P : List (List Int)} {k : Nat} (hk : k < P.length) : (P.take (k + 1)).any p = ((P.take k).any p || p (P.getD k [])) := by
  rw [List.take_add_one, List.any_append, List.getD_eq_getElem?_getD, List.getElem?_eq_getElem hk]
  simp
theorem anyP_at {p : List Int → Bool} {P : List (List Int)} {k : Nat} (hk : k < P.length) (h : p (P.getD k []) = true) : P.any p = true := by
  rw [List.getD_eq_getElem?_getD, List.getElem?_eq_getElem hk] at h
  exact List.any_eq_true.2 ⟨_, List.getElem_mem hk, h⟩
/-- What the list of last points holds: by it one sees whether a parent came already for this point. -/
def LaI (P : List (List Int)) (i k : Nat) (La : List Int) : Prop := La.length = P.length ∧ ∀ p : Nat, p < P.length → (La.getD p 0 < (i : Int) + 1) ∧ (La.getD p 0 = (i : Int) ↔ (p : Int) ∈ (P.getD i []).take k)
theorem LaI.next {P : List (List Int)} {i k : Nat} {La : List Int} (h : LaI P i k La) : LaI P (i + 1) 0 La := ⟨h.1, fun p hp => ⟨by have := (h.2 p hp).1; omega, ⟨fun e => by have := (h.2 p hp).1; omega, fun e => by simp at e⟩⟩⟩
theorem LaI.step {P : List (List Int)} {i k p : Nat} {La : List Int} (h : LaI P i k La) (hp : p < P.length) (hk : (P.getD i [])[k]? = some (p : Int)) : LaI P i (k + 1) (La.set p (i : Int)) := by
  refine ⟨by rw [List.length_set]; exact h.1, fun q hq => ?_⟩
  rw [getD_set (by rw [h.1]; exact hp)]
  have e1 : (P.getD i []).take (k + 1) = (P.getD i []).take k ++ [(p : Int)] := by rw [List.take_add_one, hk]; rfl
  rw [e1, List.mem_append, List.mem_singleton]
  by_cases e : q = p
  · subst e; rw [if_pos rfl]; exact ⟨by omega, ⟨fun _ => Or.inr rfl, fun _ => rfl⟩⟩
  · rw [if_neg e]
    refine ⟨(h.2 q hq).1, (h.2 q hq).2.trans ⟨Or.inl, fun h2 => h2.resolve_right (by omega)⟩⟩
theorem LaI.start {P : List (List Int)} {n : Nat} (hn : P.length = n) : LaI P 0 0 (List.replicate n (-1)) := ⟨by simp [hn], fun p hp => by
  rw [List.getD_eq_getElem?_getD, List.getElem?_replicate, if_pos (by omega)]
  simp⟩
theorem nodup_take {zs : List Int} {k : Nat} {x : Int} (h : (zs.take k).Nodup) (hk : zs[k]? = some x) (hn : x ∉ zs.take k) : (zs.take (k + 1)).Nodup := by
  rw [List.take_add_one, hk, List.nodup_append]
  refine ⟨h, by simp, fun a ha b hb e => ?_⟩
  have : b = x := by simpa using hb
  subst this; subst e; exact hn ha
theorem twice_at {zs : List Int} {k : Nat} {x : Int} (hk : zs[k]? = some x) (hn : x ∈ zs.take k) : twiceB zs = true := by
  unfold twiceB
  refine decide_eq_true fun h => ?_
  have h2 : (zs.take (k + 1)).Nodup := h.sublist (List.take_sublist _ _)
  rw [List.take_add_one, hk, List.nodup_append] at h2
  exact h2.2.2 x hn x (by simp) rfl
end Go.Proofs.YthdpomgpcblpeaaGreat

namespace Go.Proofs.YthdpomgpcblpeaaGreat
set_option linter.unusedVariables false
open Go.RowKit
theorem and_low (n : Nat) (hn : n ≤ 100000) : bits BinOp.and IntKind.u64 (n : Int) 4294967295 = (n : Int) := by
  have h1 : n % 4294967296 = n := Nat.mod_eq_of_lt (by omega)
  have h2 := Nat.and_two_pow_sub_one_eq_mod n 32
  have h3 : n &&& 4294967295 = n := by rw [show (4294967295 : Nat) = 2 ^ 32 - 1 from rfl, h2, show (2 ^ 32 : Nat) = 4294967296 from rfl]; exact h1
  have hw : IntKind.u64.wrap (n : Int) = (n : Int) := by rw [IntKind.wrap_u64]; omega
  simp [bits]
  rw [show IntKind.u64.bits = 64 from rfl, Nat.mod_eq_of_lt (show n < 2 ^ 64 by omega), show (4294967295 % 2 ^ 64 : Nat) = 4294967295 from rfl, h3]
  exact hw
set_option maxRecDepth 100000 in
set_option maxHeartbeats 3200000 in
theorem mul64D (n : Nat) (hn : n ≤ 100000) (w : World) : Calls Tryz.prog 116 #[.int .u64 1, .int .u64 (n : Int)] w fun e w' => e = .returned (.tuple #[.int .u64 0, .int .u64 (n : Int)]) ∧ w' = w := by
  have b1 : bits BinOp.and IntKind.u64 1 4294967295 = 1 := by kernel_rfl
  have b2 := and_low n hn
  have b3 : bits BinOp.and IntKind.u64 0 4294967295 = 0 := by kernel_rfl
  have d1 : (n : Int) / 4294967296 = 0 := by omega
  have hw : IntKind.u64.wrap (n : Int) = (n : Int) := by rw [IntKind.wrap_u64]; omega
  go_enter Tryz.func116, Tryz.ntmps116
  go_wp2
  go_ret2
  exact ⟨rfl, rfl⟩
set_option maxRecDepth 100000 in
set_option maxHeartbeats 3200000 in
theorem mulD (n : Nat) (hn : n ≤ 100000) (w : World) : Calls Tryz.prog 92 #[.int .u64 1, .int .u64 (n : Int)] w fun e w' => e = .returned (.tuple #[.int .u64 0, .int .u64 (n : Int)]) ∧ w' = w := by
  have CM : Hid _ := mul64D n hn
  go_enter Tryz.func92, Tryz.ntmps92
  go_wp2_with fail
  refine Calls.mono (CM.out _) ?_
  rintro e y ⟨rfl, rfl⟩
  go_wp2
  go_ret2
  exact ⟨rfl, rfl⟩
theorem wp_copyD {P : Program} {w : World} {o : Oper} {a : Act} {K : Act → World → Prop} {Q : Exit → Act → World → Prop} (d s : Operand) (dT sT : TypeId)
    (ho : o.op = .call { callee := .builtin .copy, args := #[d, s], argTypes := #[dT, sT] }) (elem : TypeId) (hu : P.underlying dT = some (.slice elem)) (hsz : (P.info? elem).map (·.size) = some 1)
    (g off dLen dCap : Nat) (ad : Addr) (sLen sCap : Nat) (hd : a.eval d = .slice (some ⟨g, off, none⟩) dLen dCap) (hs : a.eval s = .slice (some ad) sLen sCap)
    (cur : Array Value) (t : TypeId) (hg : w.heap[g]? = some (.cells cur t (0, 0))) (cs : List Value) (hn : cs.length = Nat.min sLen dLen)
    (hsrc : ∀ j v, cs[j]? = some v → w.cell? (ad.add j) = some v) (hfit : off + cs.length ≤ cur.size) (h1 : ∀ v ∈ cs, v.oneCell' = true)
    (h : K (a.put o.dst (goInt cs.length)) (w.setRow g (cur.toList.take off ++ (cs ++ cur.toList.drop (off + cs.length))).toArray)) : o.wp P a w K Q := by
  have hrun := run_copy_row (P := P) w dT sT o.type elem g off dLen dCap ad sLen sCap cur t cs hu hsz hg hn hsrc hfit h1
  unfold Oper.wp
  simp [execOp, ho, resolve, invoke, builtin, hd, hs, hrun, Result.andThen]
  exact h
/-- The row while it is filled. -/
def rpL (n k : Nat) : List Value := List.replicate k (.int .i64 (-1)) ++ List.replicate (n - k) (.int .i64 0)
theorem rpL_len {n k : Nat} (h : k ≤ n) : (rpL n k).length = n := by simp [rpL]; omega
theorem rpL_step {n k m : Nat} (h : k + m ≤ n) : (rpL n k).take k ++ (List.replicate m (.int .i64 (-1)) ++ (rpL n k).drop (k + m)) = rpL n (k + m) := by
  unfold rpL
  rw [List.take_left' (by simp), List.drop_append, List.length_replicate, List.drop_replicate, List.drop_replicate, ← List.append_assoc, List.replicate_append_replicate]
  rw [show k - (k + m) = 0 by omega, show k + m - k = m by omega, show n - k - m = n - (k + m) by omega]
  rfl
theorem rpL_get {n k j : Nat} (h : j < k) : (rpL n k)[j]? = some (.int .i64 (-1)) := by
  unfold rpL
  rw [List.getElem?_append_left (by simp; exact h), List.getElem?_replicate, if_pos h]
def RpR (W : World) (g n k : Nat) : Prop := W.heap[g]? = some (.cells (rpL n k).toArray 3 (0, 0))
theorem RpR.cell {W : World} {g n k j : Nat} (h : RpR W g n k) (hj : j < k) : W.cell? ⟨g, j, none⟩ = some (.int .i64 (-1)) := by
  rw [cell_of_row W g _ _ _ _ h, List.getElem?_toArray, rpL_get hj]
theorem goInt_nat (m : Nat) (h : m ≤ 100000) : goInt m = .int .i64 (m : Int) := by rfl
set_option maxRecDepth 100000 in
set_option maxHeartbeats 6400000 in
theorem repeatD (gb n : Nat) (hn : n ≤ 100000) (w : World) (hc : w.cell? ⟨gb, 0, none⟩ = some (.int .i64 (-1))) :
    Calls Tryz.prog 80 #[.slice (some ⟨gb, 0, none⟩) 1 1, .int .i64 (n : Int)] w fun e w' => ∃ g, e = .returned (.slice (some ⟨g, 0, none⟩) n n) ∧ OG (Value.int .i64) w.heap.size 3 w' (.slice (some ⟨g, 0, none⟩) n n) (List.replicate n (-1)) ∧ Below w.heap.size w w' := by
  obtain ⟨i0, hi, hz0, hz1, hz2⟩ := info_parts Tryz.infoI
  have CM : Hid _ := mulD n hn
  have hw : IntKind.u64.wrap (n : Int) = (n : Int) := by rw [IntKind.wrap_u64]; omega
  have hneg : ¬ (n : Int) < 0 := by omega
  have hmx : ¬ (9223372036854775807 : Int) < (n : Int) := by omega
  obtain ⟨W1, hW1⟩ : ∃ W1, W1 = w.alloc (.cells (Array.replicate n (.int .i64 0)) 3) := ⟨_, rfl⟩
  obtain ⟨g, hg⟩ : ∃ g, g = w.heap.size := ⟨_, rfl⟩
  have b0 : Below w.heap.size w W1 := by rw [hW1]; exact belowB w _
  have HRW : Hid (RpR W1 g n 0) := by
    show RpR _ _ _ _
    unfold RpR
    rw [hW1, hg, heap_alloc_new]
    simp [rpL]
  have HC1 : Hid (W1.cell? ⟨gb, 0, none⟩ = some (.int .i64 (-1))) := keepR b0 hc
  have HB0 : Hid (Below w.heap.size w W1) := b0
  have HW1 : Hid (W1 = w.alloc (.cells (Array.replicate n (.int .i64 0)) 3)) := hW1
  have HG : Hid (g = w.heap.size) := hg
  have HSZ : Hid ((Tryz.prog.info? 3).map (·.size) = some 1) := by show _ = _; rw [hi]; simp [hz1]
  clear hW1 hg b0 hc
  go_enter Tryz.func80, Tryz.ntmps80
  go_wp2_with fail
  refine Calls.mono (CM.out _) ?_
  rintro e y ⟨rfl, hy0⟩
  rw [hy0]
  clear CM hy0 y
  go_upto_region 7 with (at_make; refine wpList_madeD _ rfl _ _ 23 rfl 3 i0 (.int .i64 0) rfl Tryz.underlying23 hi hz0 hz1 _ _ n rfl rfl (by rw [hz2]; omega) (by omega) ?_)
  rw [← HW1.out, ← HG.out]
  clear HW1
  obtain ⟨c1, W2, hc1n, hrun, hR2, hB2⟩ : ∃ (c1 : Nat) (W2 : World), (c1 ≤ n ∧ c1 ≤ 1 ∧ (0 < n → c1 = 1)) ∧ (Builtin.copy_ #[23, 23] 3 #[.slice (some ⟨g, 0, none⟩) n n, .slice (some ⟨gb, 0, none⟩) 1 1]).run Tryz.prog W1 = .ok (.int .i64 (c1 : Int)) W2 ∧ RpR W2 g n c1 ∧ Below w.heap.size w W2 := by
    rcases Nat.eq_zero_or_pos n with h0 | h0
    · refine ⟨0, W1, ⟨by omega, by omega, by omega⟩, ?_, HRW.out, HB0.out⟩
      have := run_copy_none (P := Tryz.prog) W1 23 23 3 3 (some ⟨g, 0, none⟩) (some ⟨gb, 0, none⟩) n n 1 1 Tryz.underlying23 HSZ.out (by rw [h0]; rfl)
      exact this
    · refine ⟨1, _, ⟨by omega, by omega, by omega⟩, run_copy_row (P := Tryz.prog) W1 23 23 3 3 g 0 n n ⟨gb, 0, none⟩ 1 1 (rpL n 0).toArray 3 [.int .i64 (-1)] Tryz.underlying23 HSZ.out HRW.out (by rw [show Nat.min 1 n = 1 from Nat.min_eq_left h0]; rfl) (fun j v hj => ?_) (by simp [rpL_len (Nat.zero_le n)]; exact h0) (by simp [Value.oneCell']), ?_, below_setRow HB0.out (by rw [HG.out]; exact Nat.le_refl _) _⟩
      · match j, hj with
        | 0, hj => simp at hj; subst hj; rw [Addr.add_lit]; exact HC1.out
      · unfold RpR
        rw [setRow_heap W1 g _ _ _ _ HRW.out]
        have h2 := rpL_step (n := n) (k := 0) (m := 1) (by omega)
        rw [Nat.zero_add] at h2
        rw [show (rpL n 0).toArray.toList = rpL n 0 from rfl]
        simp only [List.length_singleton, Nat.zero_add]
        rw [← h2]
        rfl
  have HR2 : Hid (RpR W2 g n c1) := hR2
  have HB2 : Hid (Below w.heap.size w W2) := hB2
  clear hR2 hB2 HRW HB0 HC1
  go_wp2
  go_loopg [8] n (fun g1 v8 wr => ∃ k : Nat, v8 = .int .i64 k ∧ k ≤ n ∧ (0 < n → 0 < k) ∧ n - k ≤ g1 ∧ Hid (RpR wr g n k) ∧ Hid (Below w.heap.size w wr))
  case atStart => exact ⟨c1, rfl, hc1n.1, fun h => by have := hc1n.2.2 h; omega, by omega, HR2, HB2⟩
  case round =>
    clear HR2 HB2 hrun hc1n
    obtain ⟨k, rfl, hkn, hk0, hg1, HR, HB⟩ := hrel
    by_cases hlt : k < n
    · have hltz : (k : Int) < (n : Int) := by omega
      have hkp : 0 < k := hk0 (by omega)
      obtain ⟨m, hm⟩ : ∃ m, m = Nat.min k (n - k) := ⟨_, rfl⟩
      have hmb : 0 < m ∧ k + m ≤ n := by
        rw [hm]
        have h1 := Nat.min_le_left k (n - k)
        have h2 := Nat.min_le_right k (n - k)
        refine ⟨?_, ?_⟩
        · exact Nat.lt_min.2 ⟨hkp, by omega⟩
        · have : Nat.min k (n - k) ≤ n - k := h2
          omega
      have HM : Hid (m = Nat.min k (n - k)) := hm
      clear hm
      go_upto_region 9 with fail
      have KEEP : ∀ u, Below wr.heap.size wr u → L4.AllL u [] := fun u hu => trivial
      refine L4.region_late [] (by kernel_rfl) ?_
      have B : Below wr.heap.size wr wr.drew := (Below.refl _ _).drew
      obtain ⟨w1, hw1⟩ : ∃ u, u = wr.drew := ⟨_, rfl⟩
      rw [← hw1] at B ⊢
      clear hw1
      have hHeld := KEEP _ B
      refine L4.late_free 0 (v := .int .i64 ((k : Nat) : Int)) rfl (by kernel_rfl) (by kernel_rfl) (by kernel_rfl) (by kernel_rfl) (by kernel_rfl) (by kernel_rfl) (fun _ _ _ h => h) (Or.inl ⟨by rfl, ?_⟩) hHeld ?_
      · (intro u _; go_simp)
      (try simp only [Act.put, List.setIfInBounds_toArray, List.set_cons_zero, List.set_cons_succ])
      refine L4.late_free 1 (v := .slice (some ⟨g, 0, none⟩) n n) rfl (by kernel_rfl) (by kernel_rfl) (by kernel_rfl) (by kernel_rfl) (by kernel_rfl) (by kernel_rfl) (fun _ _ _ h => h) (Or.inl ⟨by rfl, ?_⟩) hHeld ?_
      · (intro u _; go_simp)
      (try simp only [Act.put, List.setIfInBounds_toArray, List.set_cons_zero, List.set_cons_succ])
      refine L4.late_free 2 (v := .int .i64 ((k : Nat) : Int)) rfl (by kernel_rfl) (by kernel_rfl) (by kernel_rfl) (by kernel_rfl) (by kernel_rfl) (by kernel_rfl) (fun _ _ _ h => h) (Or.inl ⟨by rfl, ?_⟩) hHeld ?_
      · (intro u _; go_simp)
      (try simp only [Act.put, List.setIfInBounds_toArray, List.set_cons_zero, List.set_cons_succ])
      refine L4.late_free 3 (v := .slice (some ⟨g, k, none⟩) (n - k) (n - k)) rfl (by kernel_rfl) (by kernel_rfl) (by kernel_rfl) (by kernel_rfl) (by kernel_rfl) (by kernel_rfl) (fun _ _ _ h => h) (Or.inl ⟨by rfl, ?_⟩) hHeld ?_
      · (intro u _; go_simp; omega)
      (try simp only [Act.put, List.setIfInBounds_toArray, List.set_cons_zero, List.set_cons_succ])
      refine L4.late_free 4 (v := .slice (some ⟨g, 0, none⟩) n n) rfl (by kernel_rfl) (by kernel_rfl) (by kernel_rfl) (by kernel_rfl) (by kernel_rfl) (by kernel_rfl) (fun _ _ _ h => h) (Or.inl ⟨by rfl, ?_⟩) hHeld ?_
      · (intro u _; go_simp)
      (try simp only [Act.put, List.setIfInBounds_toArray, List.set_cons_zero, List.set_cons_succ])
      refine L4.late_free 5 (v := .int .i64 ((k : Nat) : Int)) rfl (by kernel_rfl) (by kernel_rfl) (by kernel_rfl) (by kernel_rfl) (by kernel_rfl) (by kernel_rfl) (fun _ _ _ h => h) (Or.inl ⟨by rfl, ?_⟩) hHeld ?_
      · (intro u _; go_simp)
      (try simp only [Act.put, List.setIfInBounds_toArray, List.set_cons_zero, List.set_cons_succ])
      refine L4.late_free 6 (v := .slice (some ⟨g, 0, none⟩) k n) rfl (by kernel_rfl) (by kernel_rfl) (by kernel_rfl) (by kernel_rfl) (by kernel_rfl) (by kernel_rfl) (fun _ _ _ h => h) (Or.inl ⟨by rfl, ?_⟩) hHeld ?_
      · (intro u _; go_simp)
      (try simp only [Act.put, List.setIfInBounds_toArray, List.set_cons_zero, List.set_cons_succ])
      refine L4.late_step 7 (by kernel_rfl) rfl (fun K hK => ?_)
      refine want_yesD rfl ?_
      have hrw : RpR w1 g n k := by unfold RpR; rw [B.block g (Array.getElem?_eq_some_iff.1 HR.out).1]; exact HR.out
      refine wp_copyD _ _ 23 23 rfl 3 Tryz.underlying23 HSZ.out g k (n - k) (n - k) ⟨g, 0, none⟩ k n rfl rfl (rpL n k).toArray 3 hrw (List.replicate m (.int .i64 (-1))) (by rw [List.length_replicate, HM.out]) (fun j v hj => by rw [List.getElem?_replicate] at hj; split at hj <;> simp at hj; subst hj; rw [Addr.add_lit, Nat.zero_add]; exact hrw.cell (Nat.lt_of_lt_of_le (by assumption) (by rw [HM.out]; exact Nat.min_le_left _ _))) (by rw [List.length_replicate]; simp [rpL_len (show k ≤ n by omega)]; exact hmb.2) (by intro v hv; rw [List.eq_of_mem_replicate hv]; rfl) ?_
      rw [List.length_replicate, goInt_nat m (by omega)]
      obtain ⟨y2, hy2⟩ : ∃ u, u = w1.setRow g (List.take k (rpL n k).toArray.toList ++ (List.replicate m (Value.int .i64 (-1)) ++ List.drop (k + m) (rpL n k).toArray.toList)).toArray := ⟨_, rfl⟩
      rw [← hy2]
      have HR3 : Hid (RpR y2 g n (k + m)) := by show RpR _ _ _ _; unfold RpR; rw [hy2, setRow_heap w1 g _ _ _ _ hrw]; rw [show (rpL n k).toArray.toList = rpL n k from rfl, rpL_step hmb.2]
      have HB3 : Hid (Below w.heap.size w y2) := by show Below _ _ _; rw [hy2]; exact below_setRow (HB.out.trans (B.mono HB.out.size)) (by rw [HG.out]; exact Nat.le_refl _) _
      clear hy2 hrw B hHeld
      have hHeld : L4.AllL y2 [] := trivial
      refine hK.out _ _ (L4.AllL.kept hHeld) ?_
      clear hK K
      (try simp only [Act.put, List.setIfInBounds_toArray, List.set_cons_zero, List.set_cons_succ])
      refine L4.late_free 8 (v := .int .i64 ((k + m : Nat) : Int)) rfl (by kernel_rfl) (by kernel_rfl) (by kernel_rfl) (by kernel_rfl) (by kernel_rfl) (by kernel_rfl) (fun _ _ _ h => h) (Or.inl ⟨by rfl, ?_⟩) hHeld ?_
      · (intro u _; go_simp; rw [IntKind.wrap_i64]; omega)
      (try simp only [Act.put, List.setIfInBounds_toArray, List.set_cons_zero, List.set_cons_succ])
      refine L4.late_step 9 (by kernel_rfl) rfl (fun K hK => ?_)
      go_simp
      refine hK.out _ _ (L4.AllL.kept hHeld) ?_
      clear hK K
      (try simp only [Act.put, List.setIfInBounds_toArray, List.set_cons_zero, List.set_cons_succ])
      refine L4.late_done (by kernel_rfl) ?_ _
      clear KEEP hHeld HR HB
      go_wp2
      go_roundg (n - (k + m))
      case measure => omega
      case rel => exact ⟨k + m, rfl, hmb.2, fun _ => by omega, Nat.le_refl _, HR3, HB3⟩
    · have hltz : ¬ (k : Int) < (n : Int) := by omega
      have hkn2 : k = n := by omega
      subst hkn2
      have HRES : Hid (OG (Value.int .i64) w.heap.size 3 wr (.slice (some ⟨g, 0, none⟩) k k) (List.replicate k (-1))) := by
        refine ⟨by simp, Or.inr ⟨g, k, (rpL k k).toArray, by rw [List.length_replicate], by rw [HG.out]; exact Nat.le_refl _, HR.out, by rw [List.length_replicate]; exact Nat.le_refl _, by unfold maxLen; omega, by simp [rpL], ?_⟩⟩
        rw [List.length_replicate]
        simp [rpL]
      clear HR
      go_wp2
      go_ret
      exact ⟨g, rfl, HRES.out, HB.out⟩
end Go.Proofs.YthdpomgpcblpeaaGreat

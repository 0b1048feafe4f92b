/-
  Proved here: package radix's All at the three types, and its iterator, the rounds given.
-/
import Derived.Test.YtfanomoijjjcmaaRadLI
import Derived.Test.YtfanomoijjjcmaaRadLJ
import Derived.Test.YtfanomoijjjcmaaRadLS
namespace Go.Proofs.Ytfanomoijjjcmaa
open Go.RowKit Go.Shelf
attribute [local go_sem] Oper.semAt_some

theorem cnt_pos {zs : List Int} (h : 0 < cntN zs) : (∀ z ∈ zs, 1 ≤ z) ∧ cntE zs = 0 ∧ cntN zs = pr zs := by
  have hE : cntE zs = 0 := by
    by_cases he : cntE zs = 0
    · exact he
    · rw [cntE_pos he] at h; omega
  obtain ⟨h1, h2, h3⟩ := cntE_zero hE
  refine ⟨ones h1 ?_, hE, h3⟩
  cases hn : nuls zs with
  | false => rfl
  | true => rw [h3, pr_zero zs (nuls_yes hn)] at h; omega
theorem dgs_zero (zs : List Int) : dgs zs 0 = List.replicate zs.length 0 := by
  apply List.ext_getElem
  · simp [dgs]
  · intro i h1 h2; simp [dgs, digAt]
theorem OwnK.mono {k : IntKind} {B B' e : Nat} {w : World} {v : Value} {zs : List Int} (h : OwnK k B e w v zs) (hB : B' ≤ B) : OwnK k B' e w v zs := by
  obtain ⟨h1, h2⟩ := h
  refine ⟨h1, ?_⟩
  rcases h2 with h2 | ⟨g, cap, cur, rfl, h3, h5⟩
  · exact Or.inl h2
  · exact Or.inr ⟨g, cap, cur, rfl, by omega, h5⟩
theorem grown_of_below {w w' : World} (h : Below w.heap.size w w') (r : Option Nat) : w.grownBy w' r := ⟨h.os, h.tape, h.output, h.size, fun k hk _ => h.block k hk⟩

set_option maxRecDepth 100000 in
set_option maxHeartbeats 1600000 in
theorem allI (v : Value) (zs : List Int) (w : World) (hv : RK .i64 w v zs) (hz : zs.length ≤ 17592186043904) :
    Calls Try.prog 47 #[v] w fun e w' => ∃ b u, e = .returned (.func (.func 62) #[] #[.pointer (some ⟨b, 0, none⟩), .pointer (some ⟨b + 1, 0, none⟩)]) ∧
      w'.heap[b]? = some (.cells #[u] 25 (0, 0)) ∧ w'.heap[b + 1]? = some (.cells #[.int .i64 (cntN zs)] 3 (0, 0)) ∧ OwnK .i64 w.heap.size 3 w' u zs ∧ w.heap.size ≤ b ∧ b + 2 = w'.heap.size ∧ (∀ g, u.ownBlock = some g → g < b) ∧ Below w.heap.size w w' := by
  have hin := hv.inK
  have hsv : ∃ vo vn vc, v = .slice vo vn vc := by obtain ⟨x, y, e, _⟩ := hv; exact ⟨_, _, _, e⟩
  obtain ⟨vo, vn, vc, rfl⟩ := hsv
  go_enter Try.func47, Try.ntmps47
  go_wp2_with fail
  refine (cloneI _ zs w hv hz).mono ?_
  rintro e w1 ⟨u, rfl, hO, hB⟩
  obtain ⟨uo, uc, rfl, -⟩ := hO.sl
  have hlt := World.ownsRow.lt hO
  obtain ⟨W2, hW2⟩ : ∃ W2, w1.alloc (.cells #[.slice uo zs.length uc] 25) = W2 := ⟨_, rfl⟩
  have b2 : Below w1.heap.size w1 W2 := by rw [← hW2]; exact belowA _ _
  have z2 : W2.heap.size = w1.heap.size + 1 := by rw [← hW2]; simp
  have hbx : W2.heap[w1.heap.size]? = some (.cells #[.slice uo zs.length uc] 25 (0, 0)) := by rw [← hW2]; exact heap_alloc_new w1 _
  have cbx : W2.cell? ⟨w1.heap.size, 0, none⟩ = some (.slice uo zs.length uc) := by simp [World.cell?, hbx]
  replace hO := hO.below b2
  have hR := RK.of_own hO hin
  have HW2 : Hid (w1.alloc (.cells #[.slice uo zs.length uc] 25) = W2) := hW2
  clear hW2 hv
  go_wp2_with fail
  (try rw [HW2.out])
  refine (countI _ zs W2 hR).mono ?_
  rintro e w3 ⟨rfl, q, rfl⟩
  have b3 := below_drewR (Below.refl W2.heap.size W2) q
  have z3 : (W2.drewN q).heap.size = w1.heap.size + 1 := by rw [heap_drewR, z2]
  generalize W2.drewN q = w3 at *
  obtain ⟨W4, hW4⟩ : ∃ W4, w3.alloc (.cells #[.int .i64 (cntN zs)] 3) = W4 := ⟨_, rfl⟩
  have b4 : Below w3.heap.size w3 W4 := by rw [← hW4]; exact belowA _ _
  have h4 : W4.heap[w1.heap.size + 1]? = some (.cells #[.int .i64 (cntN zs)] 3 (0, 0)) := by
    have := heap_alloc_new w3 (.cells #[.int .i64 (cntN zs)] 3)
    rw [z3] at this; rw [← hW4]; exact this
  have z4 : W4.heap.size = w1.heap.size + 2 := by rw [← hW4]; simp [z3]
  have HE : Hid (W4.heap[w1.heap.size]? = some (.cells #[.slice uo zs.length uc] 25 (0, 0)) ∧ W4.heap[w1.heap.size + 1]? = some (.cells #[.int .i64 (cntN zs)] 3 (0, 0)) ∧ OwnK .i64 w.heap.size 3 W4 (.slice uo zs.length uc) zs ∧ w.heap.size ≤ w1.heap.size ∧ w1.heap.size + 2 = W4.heap.size ∧ (∀ g, Value.ownBlock (.slice uo zs.length uc) = some g → g < w1.heap.size) ∧ Below w.heap.size w W4) :=
    ⟨by rw [b4.block _ (by omega), b3.block _ (by omega)]; exact hbx, h4, (hO.below b3).below b4, hB.size, z4.symm, fun g hg => (hlt g hg).2, bstepR (bstepR (bstepR hB b2) b3) b4⟩
  clear b2 b3 b4 h4 z4 hO hR hbx cbx hlt hB hin
  go_wp2
  (try rw [z3])
  go_ret
  refine ⟨w1.heap.size, .slice uo zs.length uc, by (first | rfl | (rw [z3]; rfl) | simp [z3]), ?_⟩
  (try rw [hW4])
  exact HE.out
set_option maxRecDepth 100000 in
set_option maxHeartbeats 6400000 in
theorem all1I (l b R : Nat) (u : Value) (zs : List Int) (hz : zs.length ≤ 17592186043904) (J : Nat → World → Prop) (Jx : World → Prop)
    (hJ : ∀ k A B, J k A → R < A.heap.size → A.grownBy B (some R) → J k B)
    (hY : ∀ (k : Nat) A W d, (k : Int) < cntN zs → J k A → R < A.heap.size → Below A.heap.size A W → OwnK .i64 A.heap.size 3 W d (dgs zs k) →
      YieldAt Fence.wide 2 Try.prog l #[.int .i64 (k : Int), d] W fun e W' => (e = .returned (.bool true) ∧ J (k + 1) W' ∧ W.heap.size ≤ W'.heap.size ∧ W'.heap[b]? = W.heap[b]? ∧ W'.heap[b + 1]? = W.heap[b + 1]? ∧ W'.heap[R]? = W.heap[R]? ∧ ∀ g, u.ownBlock = some g → W'.heap[g]? = W.heap[g]?) ∨ (e = .returned (.bool false) ∧ Jx W'))
    (W : World) (hR : W.heap.size = R) (hbR : b + 1 < R) (hb : W.heap[b]? = some (.cells #[u] 25 (0, 0))) (hc : W.heap[b + 1]? = some (.cells #[.int .i64 (cntN zs)] 3 (0, 0))) (hu : RK .i64 W u zs) (hug : ∀ g, u.ownBlock = some g → g < R) (h0 : ∀ o, J 0 (W.alloc o)) :
    CallsIn Fence.wide 3 Try.prog 62 #[.func (.yield l) #[] #[], .pointer (some ⟨b, 0, none⟩), .pointer (some ⟨b + 1, 0, none⟩)] W fun e W' => (∃ x, e = .returned x) ∧ (J (cntN zs).toNat W' ∨ Jx W') := by
  obtain ⟨uo, uc, rfl, huc, hum, -, -, -⟩ := id hu
  unfold maxLen at hum
  obtain ⟨i0, hi, hz0, hz1, hz2⟩ := info_parts Try.infoI
  have cb : W.cell? ⟨b, 0, none⟩ = some (.slice uo zs.length uc) := by simp [World.cell?, hb]
  have cc : W.cell? ⟨b + 1, 0, none⟩ = some (.int .i64 (cntN zs)) := by simp [World.cell?, hc]
  have hcb := cnt_bd zs
  have hcp := @cnt_pos zs
  have HIN := hu.inK
  obtain ⟨c, hcc⟩ : ∃ c : Nat, cntN zs = (c : Int) := ⟨(cntN zs).toNat, by omega⟩
  rw [hcc] at hcb cc hY hc ⊢
  have HCC : Hid (cntN zs = (c : Int)) := hcc
  clear hcc
  have hcl : c ≤ 2147483647 := by omega
  clear hcb
  rw [Int.toNat_natCast]
  refine callsIn_of_wp Try.func62 rfl trivial ?_ rfl
  simp only [Try.ntmps62, List.size_toArray, List.length_cons, List.length_nil, Nat.reduceAdd, Nat.reduceSub, Array.replicate_succ, Array.replicate_zero, List.push_toArray, List.append_toArray, List.nil_append, List.cons_append]
  gi_wp2_with (gi_at_make; refine wpListIn_zeros _ rfl _ _ 25 rfl 3 i0 .i64 Try.underlying25 hi hz0 hz1 _ _ zs.length rfl rfl (by rw [hz2]; omega) (by omega) ?_)
  (try rw [hR])
  obtain ⟨W1, hW1⟩ : ∃ W1, W.alloc (.cells (Array.replicate zs.length (.int .i64 0)) 3) = W1 := ⟨_, rfl⟩
  have b1 : Below W.heap.size W W1 := by rw [← hW1]; exact belowA _ _
  have z1 : W1.heap.size = R + 1 := by rw [← hW1]; simp [hR]
  have hd1 : W1.heap[R]? = some (.cells ((dgs zs 0).map (Value.int .i64)).toArray 3 (0, 0)) := by
    have := heap_alloc_new W (.cells (Array.replicate zs.length (.int .i64 0)) 3)
    rw [hR] at this
    rw [← hW1, this, dgs_zero]; simp
  have hj1 : J 0 W1 := by rw [← hW1]; exact h0 _
  have hb1 : W1.heap[b]? = some (.cells #[.slice uo zs.length uc] 25 (0, 0)) := by rw [b1.block _ (by omega)]; exact hb
  have hc1 : W1.heap[b + 1]? = some (.cells #[.int .i64 (c : Int)] 3 (0, 0)) := by rw [b1.block _ (by omega)]; exact hc
  have hu1 := hu.below (Nat.le_refl _) b1
  have cc1 : W1.cell? ⟨b + 1, 0, none⟩ = some (.int .i64 (c : Int)) := by simp [World.cell?, hc1]
  rw [hW1]
  clear hW1 b1 cb cc hb hc hu h0 hi hz0 hz1 hz2
  gi_loopw [10] (fun t wr => ∃ k : Nat, k ≤ c ∧ t = .int .i64 k ∧ J k wr ∧ wr.heap[R]? = some (.cells ((dgs zs k).map (Value.int .i64)).toArray 3 (0, 0)) ∧ wr.heap[b]? = some (.cells #[.slice uo zs.length uc] 25 (0, 0)) ∧ RK .i64 wr (.slice uo zs.length uc) zs)
    (fun t _ => c - (intOf t).toNat)
  case atStart => exact ⟨0, Nat.zero_le _, rfl, hj1, hd1, hb1, hu1⟩
  case round =>
    clear hj1 hd1 hb1 hc1 hu1 cc1 z1
    obtain ⟨k, hk, rfl, hjk, hrow, hbk, huk⟩ := hrel
    by_cases hlt : k < c
    · have hltI : (k : Int) < (c : Int) := by omega
      obtain ⟨hone, -, -⟩ := hcp (by rw [HCC.out]; omega)
      have hRl : R < wr.heap.size := (Array.getElem?_eq_some_iff.1 hrow).1
      have hin : inK .i64 (dgs zs k) := fun i hi => by
        rw [dgs_len] at hi
        have := dig_bd zs k hone i hi
        have h2 := HIN i hi
        rw [dgs_get zs k i hi]
        have h3 : IntKind.i64.min ≤ 0 := by decide
        omega
      have hrd : RK .i64 wr (.slice (some ⟨R, 0, none⟩) zs.length zs.length) (dgs zs k) := by
        have := RK.of_row (cap := zs.length) hrow hin (by rw [dgs_len]; exact Nat.le_refl _) (by unfold maxLen; omega)
        rw [dgs_len] at this; exact this
      have hcl' := (callsIn_wide (n := 2)).2 (cloneI _ (dgs zs k) wr hrd (by rw [dgs_len]; exact hz))
      gi_wp2_with fail
      refine ⟨trivial, ?_⟩
      refine hcl'.mono ?_
      rintro e w2 ⟨d, rfl, hO, b2⟩
      have hR2 : R < w2.heap.size := Nat.lt_of_lt_of_le hRl b2.size
      have hrow2 : w2.heap[R]? = some (.cells ((dgs zs k).map (Value.int .i64)).toArray 3 (0, 0)) := by rw [b2.block _ hRl]; exact hrow
      have hb2 : w2.heap[b]? = some (.cells #[.slice uo zs.length uc] 25 (0, 0)) := by rw [b2.block _ (by omega)]; exact hbk
      have hu2 := huk.below (Nat.le_refl _) b2
      obtain ⟨fn, tmps, assign, body, hy, hRn⟩ := hY k wr w2 d hltI hjk hRl b2 hO
      obtain ⟨do_, dc, rfl, -⟩ := hO.sl
      clear hcl' hjk hrow hbk huk hrd hO b2
      gi_wp2_with fail
      refine hRn.mono ?_
      rintro e W3 (⟨rfl, hj3, hs3, e1, e2, e3, e4⟩ | ⟨rfl, hx⟩)
      · rw [hrow2] at e3
        rw [hb2] at e1
        have hR3 : R < W3.heap.size := Nat.lt_of_lt_of_le hR2 hs3
        have hu3 : RK .i64 W3 (.slice uo zs.length uc) zs := by
          obtain ⟨ao', cap', q1, q2, q3, q4, q5, q6⟩ := hu2
          simp only [Value.slice.injEq] at q1
          obtain ⟨rfl, -, rfl⟩ := q1
          refine ⟨uo, uc, rfl, q2, q3, q4, q5, fun j hj => ?_⟩
          obtain ⟨bb, off, rfl, hcc⟩ := q6 j hj
          exact ⟨bb, off, rfl, by rw [← hcc]; exact World.cell?_of_block (e4 bb rfl)⟩
        have cb3 : W3.cell? ⟨b, 0, none⟩ = some (.slice uo zs.length uc) := by simp [World.cell?, e1]
        have hst := (callsIn_wide (n := 2)).2 (stepI _ zs k R W3 hu3 hone hR3 e3 (fun _ bb hbb => by have := hug bb hbb; omega))
        gi_wp2_with fail
        refine ⟨trivial, ?_⟩
        refine hst.mono ?_
        rintro e W4 ⟨⟨x, rfl⟩, r4, g4⟩
        have hj4 := hJ (k + 1) W3 W4 hj3 hR3 g4
        have hb4 : W4.heap[b]? = some (.cells #[.slice uo zs.length uc] 25 (0, 0)) := by rw [g4.block _ (by omega) (fun e => by have := Option.some.inj e; omega)]; exact e1
        have hu4 := hu3.kept' g4 (fun g hg _ bb hbb => by have := hug bb hbb; have := Option.some.inj hg; omega)
        have HF : Hid (J (k + 1) W4 ∧ W4.heap[R]? = some (.cells ((dgs zs ((k : Int) + 1)).map (Value.int .i64)).toArray 3 (0, 0)) ∧ W4.heap[b]? = some (.cells #[.slice uo zs.length uc] 25 (0, 0)) ∧ RK .i64 W4 (.slice uo zs.length uc) zs) := ⟨hj4, r4, hb4, hu4⟩
        clear hst hj4 r4 hb4 hu4 g4 hj3 e1 e2 e3 e4 hu3 hu2 hrow2 hb2 cb3 hone hin
        gi_wp2
        go_roundw
        case rel => exact ⟨k + 1, by omega, by go_num, HF.out.1, by rw [Int.natCast_add]; exact HF.out.2.1, HF.out.2.2.1, HF.out.2.2.2⟩
        case measure => simp [intOf]; omega
      · gi_wp2
        refine bodyPost_ret (results_none rfl _ _ _) rfl ?_
        exact ⟨⟨_, rfl⟩, .inr hx⟩
    · obtain rfl : k = c := by omega
      have hnl : ¬ (k : Int) < (k : Int) := by omega
      gi_wp2
      go_end0
      exact ⟨⟨_, rfl⟩, .inl hjk⟩

set_option maxRecDepth 100000 in
set_option maxHeartbeats 1600000 in
theorem allJ (v : Value) (zs : List Int) (w : World) (hv : RK .i32 w v zs) (hz : zs.length ≤ 17592186043904) :
    Calls Try.prog 48 #[v] w fun e w' => ∃ b u, e = .returned (.func (.func 65) #[] #[.pointer (some ⟨b, 0, none⟩), .pointer (some ⟨b + 1, 0, none⟩)]) ∧
      w'.heap[b]? = some (.cells #[u] 32 (0, 0)) ∧ w'.heap[b + 1]? = some (.cells #[.int .i64 (cntN zs)] 3 (0, 0)) ∧ OwnK .i32 w.heap.size 21 w' u zs ∧ w.heap.size ≤ b ∧ b + 2 = w'.heap.size ∧ (∀ g, u.ownBlock = some g → g < b) ∧ Below w.heap.size w w' := by
  have hin := hv.inK
  have hsv : ∃ vo vn vc, v = .slice vo vn vc := by obtain ⟨x, y, e, _⟩ := hv; exact ⟨_, _, _, e⟩
  obtain ⟨vo, vn, vc, rfl⟩ := hsv
  go_enter Try.func48, Try.ntmps48
  go_wp2_with fail
  refine (cloneJ _ zs w hv hz).mono ?_
  rintro e w1 ⟨u, rfl, hO, hB⟩
  obtain ⟨uo, uc, rfl, -⟩ := hO.sl
  have hlt := World.ownsRow.lt hO
  obtain ⟨W2, hW2⟩ : ∃ W2, w1.alloc (.cells #[.slice uo zs.length uc] 32) = W2 := ⟨_, rfl⟩
  have b2 : Below w1.heap.size w1 W2 := by rw [← hW2]; exact belowA _ _
  have z2 : W2.heap.size = w1.heap.size + 1 := by rw [← hW2]; simp
  have hbx : W2.heap[w1.heap.size]? = some (.cells #[.slice uo zs.length uc] 32 (0, 0)) := by rw [← hW2]; exact heap_alloc_new w1 _
  have cbx : W2.cell? ⟨w1.heap.size, 0, none⟩ = some (.slice uo zs.length uc) := by simp [World.cell?, hbx]
  replace hO := hO.below b2
  have hR := RK.of_own hO hin
  have HW2 : Hid (w1.alloc (.cells #[.slice uo zs.length uc] 32) = W2) := hW2
  clear hW2 hv
  go_wp2_with fail
  (try rw [HW2.out])
  refine (countJ _ zs W2 hR).mono ?_
  rintro e w3 ⟨rfl, q, rfl⟩
  have b3 := below_drewR (Below.refl W2.heap.size W2) q
  have z3 : (W2.drewN q).heap.size = w1.heap.size + 1 := by rw [heap_drewR, z2]
  generalize W2.drewN q = w3 at *
  obtain ⟨W4, hW4⟩ : ∃ W4, w3.alloc (.cells #[.int .i64 (cntN zs)] 3) = W4 := ⟨_, rfl⟩
  have b4 : Below w3.heap.size w3 W4 := by rw [← hW4]; exact belowA _ _
  have h4 : W4.heap[w1.heap.size + 1]? = some (.cells #[.int .i64 (cntN zs)] 3 (0, 0)) := by
    have := heap_alloc_new w3 (.cells #[.int .i64 (cntN zs)] 3)
    rw [z3] at this; rw [← hW4]; exact this
  have z4 : W4.heap.size = w1.heap.size + 2 := by rw [← hW4]; simp [z3]
  have HE : Hid (W4.heap[w1.heap.size]? = some (.cells #[.slice uo zs.length uc] 32 (0, 0)) ∧ W4.heap[w1.heap.size + 1]? = some (.cells #[.int .i64 (cntN zs)] 3 (0, 0)) ∧ OwnK .i32 w.heap.size 21 W4 (.slice uo zs.length uc) zs ∧ w.heap.size ≤ w1.heap.size ∧ w1.heap.size + 2 = W4.heap.size ∧ (∀ g, Value.ownBlock (.slice uo zs.length uc) = some g → g < w1.heap.size) ∧ Below w.heap.size w W4) :=
    ⟨by rw [b4.block _ (by omega), b3.block _ (by omega)]; exact hbx, h4, (hO.below b3).below b4, hB.size, z4.symm, fun g hg => (hlt g hg).2, bstepR (bstepR (bstepR hB b2) b3) b4⟩
  clear b2 b3 b4 h4 z4 hO hR hbx cbx hlt hB hin
  go_wp2
  (try rw [z3])
  go_ret
  refine ⟨w1.heap.size, .slice uo zs.length uc, by (first | rfl | (rw [z3]; rfl) | simp [z3]), ?_⟩
  (try rw [hW4])
  exact HE.out
set_option maxRecDepth 100000 in
set_option maxHeartbeats 6400000 in
theorem all1J (l b R : Nat) (u : Value) (zs : List Int) (hz : zs.length ≤ 17592186043904) (J : Nat → World → Prop) (Jx : World → Prop)
    (hJ : ∀ k A B, J k A → R < A.heap.size → A.grownBy B (some R) → J k B)
    (hY : ∀ (k : Nat) A W d, (k : Int) < cntN zs → J k A → R < A.heap.size → Below A.heap.size A W → OwnK .i32 A.heap.size 21 W d (dgs zs k) →
      YieldAt Fence.wide 2 Try.prog l #[.int .i64 (k : Int), d] W fun e W' => (e = .returned (.bool true) ∧ J (k + 1) W' ∧ W.heap.size ≤ W'.heap.size ∧ W'.heap[b]? = W.heap[b]? ∧ W'.heap[b + 1]? = W.heap[b + 1]? ∧ W'.heap[R]? = W.heap[R]? ∧ ∀ g, u.ownBlock = some g → W'.heap[g]? = W.heap[g]?) ∨ (e = .returned (.bool false) ∧ Jx W'))
    (W : World) (hR : W.heap.size = R) (hbR : b + 1 < R) (hb : W.heap[b]? = some (.cells #[u] 32 (0, 0))) (hc : W.heap[b + 1]? = some (.cells #[.int .i64 (cntN zs)] 3 (0, 0))) (hu : RK .i32 W u zs) (hug : ∀ g, u.ownBlock = some g → g < R) (h0 : ∀ o, J 0 (W.alloc o)) :
    CallsIn Fence.wide 3 Try.prog 65 #[.func (.yield l) #[] #[], .pointer (some ⟨b, 0, none⟩), .pointer (some ⟨b + 1, 0, none⟩)] W fun e W' => (∃ x, e = .returned x) ∧ (J (cntN zs).toNat W' ∨ Jx W') := by
  obtain ⟨uo, uc, rfl, huc, hum, -, -, -⟩ := id hu
  unfold maxLen at hum
  obtain ⟨i0, hi, hz0, hz1, hz2⟩ := info_parts Try.infoJ
  have cb : W.cell? ⟨b, 0, none⟩ = some (.slice uo zs.length uc) := by simp [World.cell?, hb]
  have cc : W.cell? ⟨b + 1, 0, none⟩ = some (.int .i64 (cntN zs)) := by simp [World.cell?, hc]
  have hcb := cnt_bd zs
  have hcp := @cnt_pos zs
  have HIN := hu.inK
  obtain ⟨c, hcc⟩ : ∃ c : Nat, cntN zs = (c : Int) := ⟨(cntN zs).toNat, by omega⟩
  rw [hcc] at hcb cc hY hc ⊢
  have HCC : Hid (cntN zs = (c : Int)) := hcc
  clear hcc
  have hcl : c ≤ 2147483647 := by omega
  clear hcb
  rw [Int.toNat_natCast]
  refine callsIn_of_wp Try.func65 rfl trivial ?_ rfl
  simp only [Try.ntmps65, List.size_toArray, List.length_cons, List.length_nil, Nat.reduceAdd, Nat.reduceSub, Array.replicate_succ, Array.replicate_zero, List.push_toArray, List.append_toArray, List.nil_append, List.cons_append]
  gi_wp2_with (gi_at_make; refine wpListIn_zeros _ rfl _ _ 32 rfl 21 i0 .i32 Try.underlying32 hi hz0 hz1 _ _ zs.length rfl rfl (by rw [hz2]; omega) (by omega) ?_)
  (try rw [hR])
  obtain ⟨W1, hW1⟩ : ∃ W1, W.alloc (.cells (Array.replicate zs.length (.int .i32 0)) 21) = W1 := ⟨_, rfl⟩
  have b1 : Below W.heap.size W W1 := by rw [← hW1]; exact belowA _ _
  have z1 : W1.heap.size = R + 1 := by rw [← hW1]; simp [hR]
  have hd1 : W1.heap[R]? = some (.cells ((dgs zs 0).map (Value.int .i32)).toArray 21 (0, 0)) := by
    have := heap_alloc_new W (.cells (Array.replicate zs.length (.int .i32 0)) 21)
    rw [hR] at this
    rw [← hW1, this, dgs_zero]; simp
  have hj1 : J 0 W1 := by rw [← hW1]; exact h0 _
  have hb1 : W1.heap[b]? = some (.cells #[.slice uo zs.length uc] 32 (0, 0)) := by rw [b1.block _ (by omega)]; exact hb
  have hc1 : W1.heap[b + 1]? = some (.cells #[.int .i64 (c : Int)] 3 (0, 0)) := by rw [b1.block _ (by omega)]; exact hc
  have hu1 := hu.below (Nat.le_refl _) b1
  have cc1 : W1.cell? ⟨b + 1, 0, none⟩ = some (.int .i64 (c : Int)) := by simp [World.cell?, hc1]
  rw [hW1]
  clear hW1 b1 cb cc hb hc hu h0 hi hz0 hz1 hz2
  gi_loopw [10] (fun t wr => ∃ k : Nat, k ≤ c ∧ t = .int .i64 k ∧ J k wr ∧ wr.heap[R]? = some (.cells ((dgs zs k).map (Value.int .i32)).toArray 21 (0, 0)) ∧ wr.heap[b]? = some (.cells #[.slice uo zs.length uc] 32 (0, 0)) ∧ RK .i32 wr (.slice uo zs.length uc) zs)
    (fun t _ => c - (intOf t).toNat)
  case atStart => exact ⟨0, Nat.zero_le _, rfl, hj1, hd1, hb1, hu1⟩
  case round =>
    clear hj1 hd1 hb1 hc1 hu1 cc1 z1
    obtain ⟨k, hk, rfl, hjk, hrow, hbk, huk⟩ := hrel
    by_cases hlt : k < c
    · have hltI : (k : Int) < (c : Int) := by omega
      obtain ⟨hone, -, -⟩ := hcp (by rw [HCC.out]; omega)
      have hRl : R < wr.heap.size := (Array.getElem?_eq_some_iff.1 hrow).1
      have hin : inK .i32 (dgs zs k) := fun i hi => by
        rw [dgs_len] at hi
        have := dig_bd zs k hone i hi
        have h2 := HIN i hi
        rw [dgs_get zs k i hi]
        have h3 : IntKind.i32.min ≤ 0 := by decide
        omega
      have hrd : RK .i32 wr (.slice (some ⟨R, 0, none⟩) zs.length zs.length) (dgs zs k) := by
        have := RK.of_row (cap := zs.length) hrow hin (by rw [dgs_len]; exact Nat.le_refl _) (by unfold maxLen; omega)
        rw [dgs_len] at this; exact this
      have hcl' := (callsIn_wide (n := 2)).2 (cloneJ _ (dgs zs k) wr hrd (by rw [dgs_len]; exact hz))
      gi_wp2_with fail
      refine ⟨trivial, ?_⟩
      refine hcl'.mono ?_
      rintro e w2 ⟨d, rfl, hO, b2⟩
      have hR2 : R < w2.heap.size := Nat.lt_of_lt_of_le hRl b2.size
      have hrow2 : w2.heap[R]? = some (.cells ((dgs zs k).map (Value.int .i32)).toArray 21 (0, 0)) := by rw [b2.block _ hRl]; exact hrow
      have hb2 : w2.heap[b]? = some (.cells #[.slice uo zs.length uc] 32 (0, 0)) := by rw [b2.block _ (by omega)]; exact hbk
      have hu2 := huk.below (Nat.le_refl _) b2
      obtain ⟨fn, tmps, assign, body, hy, hRn⟩ := hY k wr w2 d hltI hjk hRl b2 hO
      obtain ⟨do_, dc, rfl, -⟩ := hO.sl
      clear hcl' hjk hrow hbk huk hrd hO b2
      gi_wp2_with fail
      refine hRn.mono ?_
      rintro e W3 (⟨rfl, hj3, hs3, e1, e2, e3, e4⟩ | ⟨rfl, hx⟩)
      · rw [hrow2] at e3
        rw [hb2] at e1
        have hR3 : R < W3.heap.size := Nat.lt_of_lt_of_le hR2 hs3
        have hu3 : RK .i32 W3 (.slice uo zs.length uc) zs := by
          obtain ⟨ao', cap', q1, q2, q3, q4, q5, q6⟩ := hu2
          simp only [Value.slice.injEq] at q1
          obtain ⟨rfl, -, rfl⟩ := q1
          refine ⟨uo, uc, rfl, q2, q3, q4, q5, fun j hj => ?_⟩
          obtain ⟨bb, off, rfl, hcc⟩ := q6 j hj
          exact ⟨bb, off, rfl, by rw [← hcc]; exact World.cell?_of_block (e4 bb rfl)⟩
        have cb3 : W3.cell? ⟨b, 0, none⟩ = some (.slice uo zs.length uc) := by simp [World.cell?, e1]
        have hst := (callsIn_wide (n := 2)).2 (stepJ _ zs k R W3 hu3 hone hR3 e3 (fun _ bb hbb => by have := hug bb hbb; omega))
        gi_wp2_with fail
        refine ⟨trivial, ?_⟩
        refine hst.mono ?_
        rintro e W4 ⟨⟨x, rfl⟩, r4, g4⟩
        have hj4 := hJ (k + 1) W3 W4 hj3 hR3 g4
        have hb4 : W4.heap[b]? = some (.cells #[.slice uo zs.length uc] 32 (0, 0)) := by rw [g4.block _ (by omega) (fun e => by have := Option.some.inj e; omega)]; exact e1
        have hu4 := hu3.kept' g4 (fun g hg _ bb hbb => by have := hug bb hbb; have := Option.some.inj hg; omega)
        have HF : Hid (J (k + 1) W4 ∧ W4.heap[R]? = some (.cells ((dgs zs ((k : Int) + 1)).map (Value.int .i32)).toArray 21 (0, 0)) ∧ W4.heap[b]? = some (.cells #[.slice uo zs.length uc] 32 (0, 0)) ∧ RK .i32 W4 (.slice uo zs.length uc) zs) := ⟨hj4, r4, hb4, hu4⟩
        clear hst hj4 r4 hb4 hu4 g4 hj3 e1 e2 e3 e4 hu3 hu2 hrow2 hb2 cb3 hone hin
        gi_wp2
        go_roundw
        case rel => exact ⟨k + 1, by omega, by go_num, HF.out.1, by rw [Int.natCast_add]; exact HF.out.2.1, HF.out.2.2.1, HF.out.2.2.2⟩
        case measure => simp [intOf]; omega
      · gi_wp2
        refine bodyPost_ret (results_none rfl _ _ _) rfl ?_
        exact ⟨⟨_, rfl⟩, .inr hx⟩
    · obtain rfl : k = c := by omega
      have hnl : ¬ (k : Int) < (k : Int) := by omega
      gi_wp2
      go_end0
      exact ⟨⟨_, rfl⟩, .inl hjk⟩

set_option maxRecDepth 100000 in
set_option maxHeartbeats 1600000 in
theorem allS (v : Value) (zs : List Int) (w : World) (hv : RK .u16 w v zs) (hz : zs.length ≤ 17592186043904) :
    Calls Try.prog 49 #[v] w fun e w' => ∃ b u, e = .returned (.func (.func 68) #[] #[.pointer (some ⟨b, 0, none⟩), .pointer (some ⟨b + 1, 0, none⟩)]) ∧
      w'.heap[b]? = some (.cells #[u] 37 (0, 0)) ∧ w'.heap[b + 1]? = some (.cells #[.int .i64 (cntN zs)] 3 (0, 0)) ∧ OwnK .u16 w.heap.size 36 w' u zs ∧ w.heap.size ≤ b ∧ b + 2 = w'.heap.size ∧ (∀ g, u.ownBlock = some g → g < b) ∧ Below w.heap.size w w' := by
  have hin := hv.inK
  have hsv : ∃ vo vn vc, v = .slice vo vn vc := by obtain ⟨x, y, e, _⟩ := hv; exact ⟨_, _, _, e⟩
  obtain ⟨vo, vn, vc, rfl⟩ := hsv
  go_enter Try.func49, Try.ntmps49
  go_wp2_with fail
  refine (cloneS _ zs w hv hz).mono ?_
  rintro e w1 ⟨u, rfl, hO, hB⟩
  obtain ⟨uo, uc, rfl, -⟩ := hO.sl
  have hlt := World.ownsRow.lt hO
  obtain ⟨W2, hW2⟩ : ∃ W2, w1.alloc (.cells #[.slice uo zs.length uc] 37) = W2 := ⟨_, rfl⟩
  have b2 : Below w1.heap.size w1 W2 := by rw [← hW2]; exact belowA _ _
  have z2 : W2.heap.size = w1.heap.size + 1 := by rw [← hW2]; simp
  have hbx : W2.heap[w1.heap.size]? = some (.cells #[.slice uo zs.length uc] 37 (0, 0)) := by rw [← hW2]; exact heap_alloc_new w1 _
  have cbx : W2.cell? ⟨w1.heap.size, 0, none⟩ = some (.slice uo zs.length uc) := by simp [World.cell?, hbx]
  replace hO := hO.below b2
  have hR := RK.of_own hO hin
  have HW2 : Hid (w1.alloc (.cells #[.slice uo zs.length uc] 37) = W2) := hW2
  clear hW2 hv
  go_wp2_with fail
  (try rw [HW2.out])
  refine (countS _ zs W2 hR).mono ?_
  rintro e w3 ⟨rfl, q, rfl⟩
  have b3 := below_drewR (Below.refl W2.heap.size W2) q
  have z3 : (W2.drewN q).heap.size = w1.heap.size + 1 := by rw [heap_drewR, z2]
  generalize W2.drewN q = w3 at *
  obtain ⟨W4, hW4⟩ : ∃ W4, w3.alloc (.cells #[.int .i64 (cntN zs)] 3) = W4 := ⟨_, rfl⟩
  have b4 : Below w3.heap.size w3 W4 := by rw [← hW4]; exact belowA _ _
  have h4 : W4.heap[w1.heap.size + 1]? = some (.cells #[.int .i64 (cntN zs)] 3 (0, 0)) := by
    have := heap_alloc_new w3 (.cells #[.int .i64 (cntN zs)] 3)
    rw [z3] at this; rw [← hW4]; exact this
  have z4 : W4.heap.size = w1.heap.size + 2 := by rw [← hW4]; simp [z3]
  have HE : Hid (W4.heap[w1.heap.size]? = some (.cells #[.slice uo zs.length uc] 37 (0, 0)) ∧ W4.heap[w1.heap.size + 1]? = some (.cells #[.int .i64 (cntN zs)] 3 (0, 0)) ∧ OwnK .u16 w.heap.size 36 W4 (.slice uo zs.length uc) zs ∧ w.heap.size ≤ w1.heap.size ∧ w1.heap.size + 2 = W4.heap.size ∧ (∀ g, Value.ownBlock (.slice uo zs.length uc) = some g → g < w1.heap.size) ∧ Below w.heap.size w W4) :=
    ⟨by rw [b4.block _ (by omega), b3.block _ (by omega)]; exact hbx, h4, (hO.below b3).below b4, hB.size, z4.symm, fun g hg => (hlt g hg).2, bstepR (bstepR (bstepR hB b2) b3) b4⟩
  clear b2 b3 b4 h4 z4 hO hR hbx cbx hlt hB hin
  go_wp2
  (try rw [z3])
  go_ret
  refine ⟨w1.heap.size, .slice uo zs.length uc, by (first | rfl | (rw [z3]; rfl) | simp [z3]), ?_⟩
  (try rw [hW4])
  exact HE.out
set_option maxRecDepth 100000 in
set_option maxHeartbeats 6400000 in
theorem all1S (l b R : Nat) (u : Value) (zs : List Int) (hz : zs.length ≤ 17592186043904) (J : Nat → World → Prop) (Jx : World → Prop)
    (hJ : ∀ k A B, J k A → R < A.heap.size → A.grownBy B (some R) → J k B)
    (hY : ∀ (k : Nat) A W d, (k : Int) < cntN zs → J k A → R < A.heap.size → Below A.heap.size A W → OwnK .u16 A.heap.size 36 W d (dgs zs k) →
      YieldAt Fence.wide 2 Try.prog l #[.int .i64 (k : Int), d] W fun e W' => (e = .returned (.bool true) ∧ J (k + 1) W' ∧ W.heap.size ≤ W'.heap.size ∧ W'.heap[b]? = W.heap[b]? ∧ W'.heap[b + 1]? = W.heap[b + 1]? ∧ W'.heap[R]? = W.heap[R]? ∧ ∀ g, u.ownBlock = some g → W'.heap[g]? = W.heap[g]?) ∨ (e = .returned (.bool false) ∧ Jx W'))
    (W : World) (hR : W.heap.size = R) (hbR : b + 1 < R) (hb : W.heap[b]? = some (.cells #[u] 37 (0, 0))) (hc : W.heap[b + 1]? = some (.cells #[.int .i64 (cntN zs)] 3 (0, 0))) (hu : RK .u16 W u zs) (hug : ∀ g, u.ownBlock = some g → g < R) (h0 : ∀ o, J 0 (W.alloc o)) :
    CallsIn Fence.wide 3 Try.prog 68 #[.func (.yield l) #[] #[], .pointer (some ⟨b, 0, none⟩), .pointer (some ⟨b + 1, 0, none⟩)] W fun e W' => (∃ x, e = .returned x) ∧ (J (cntN zs).toNat W' ∨ Jx W') := by
  obtain ⟨uo, uc, rfl, huc, hum, -, -, -⟩ := id hu
  unfold maxLen at hum
  obtain ⟨i0, hi, hz0, hz1, hz2⟩ := info_parts Try.infoS
  have cb : W.cell? ⟨b, 0, none⟩ = some (.slice uo zs.length uc) := by simp [World.cell?, hb]
  have cc : W.cell? ⟨b + 1, 0, none⟩ = some (.int .i64 (cntN zs)) := by simp [World.cell?, hc]
  have hcb := cnt_bd zs
  have hcp := @cnt_pos zs
  have HIN := hu.inK
  obtain ⟨c, hcc⟩ : ∃ c : Nat, cntN zs = (c : Int) := ⟨(cntN zs).toNat, by omega⟩
  rw [hcc] at hcb cc hY hc ⊢
  have HCC : Hid (cntN zs = (c : Int)) := hcc
  clear hcc
  have hcl : c ≤ 2147483647 := by omega
  clear hcb
  rw [Int.toNat_natCast]
  refine callsIn_of_wp Try.func68 rfl trivial ?_ rfl
  simp only [Try.ntmps68, List.size_toArray, List.length_cons, List.length_nil, Nat.reduceAdd, Nat.reduceSub, Array.replicate_succ, Array.replicate_zero, List.push_toArray, List.append_toArray, List.nil_append, List.cons_append]
  gi_wp2_with (gi_at_make; refine wpListIn_zeros _ rfl _ _ 37 rfl 36 i0 .u16 Try.underlying37 hi hz0 hz1 _ _ zs.length rfl rfl (by rw [hz2]; omega) (by omega) ?_)
  (try rw [hR])
  obtain ⟨W1, hW1⟩ : ∃ W1, W.alloc (.cells (Array.replicate zs.length (.int .u16 0)) 36) = W1 := ⟨_, rfl⟩
  have b1 : Below W.heap.size W W1 := by rw [← hW1]; exact belowA _ _
  have z1 : W1.heap.size = R + 1 := by rw [← hW1]; simp [hR]
  have hd1 : W1.heap[R]? = some (.cells ((dgs zs 0).map (Value.int .u16)).toArray 36 (0, 0)) := by
    have := heap_alloc_new W (.cells (Array.replicate zs.length (.int .u16 0)) 36)
    rw [hR] at this
    rw [← hW1, this, dgs_zero]; simp
  have hj1 : J 0 W1 := by rw [← hW1]; exact h0 _
  have hb1 : W1.heap[b]? = some (.cells #[.slice uo zs.length uc] 37 (0, 0)) := by rw [b1.block _ (by omega)]; exact hb
  have hc1 : W1.heap[b + 1]? = some (.cells #[.int .i64 (c : Int)] 3 (0, 0)) := by rw [b1.block _ (by omega)]; exact hc
  have hu1 := hu.below (Nat.le_refl _) b1
  have cc1 : W1.cell? ⟨b + 1, 0, none⟩ = some (.int .i64 (c : Int)) := by simp [World.cell?, hc1]
  rw [hW1]
  clear hW1 b1 cb cc hb hc hu h0 hi hz0 hz1 hz2
  gi_loopw [10] (fun t wr => ∃ k : Nat, k ≤ c ∧ t = .int .i64 k ∧ J k wr ∧ wr.heap[R]? = some (.cells ((dgs zs k).map (Value.int .u16)).toArray 36 (0, 0)) ∧ wr.heap[b]? = some (.cells #[.slice uo zs.length uc] 37 (0, 0)) ∧ RK .u16 wr (.slice uo zs.length uc) zs)
    (fun t _ => c - (intOf t).toNat)
  case atStart => exact ⟨0, Nat.zero_le _, rfl, hj1, hd1, hb1, hu1⟩
  case round =>
    clear hj1 hd1 hb1 hc1 hu1 cc1 z1
    obtain ⟨k, hk, rfl, hjk, hrow, hbk, huk⟩ := hrel
    by_cases hlt : k < c
    · have hltI : (k : Int) < (c : Int) := by omega
      obtain ⟨hone, -, -⟩ := hcp (by rw [HCC.out]; omega)
      have hRl : R < wr.heap.size := (Array.getElem?_eq_some_iff.1 hrow).1
      have hin : inK .u16 (dgs zs k) := fun i hi => by
        rw [dgs_len] at hi
        have := dig_bd zs k hone i hi
        have h2 := HIN i hi
        rw [dgs_get zs k i hi]
        have h3 : IntKind.u16.min ≤ 0 := by decide
        omega
      have hrd : RK .u16 wr (.slice (some ⟨R, 0, none⟩) zs.length zs.length) (dgs zs k) := by
        have := RK.of_row (cap := zs.length) hrow hin (by rw [dgs_len]; exact Nat.le_refl _) (by unfold maxLen; omega)
        rw [dgs_len] at this; exact this
      have hcl' := (callsIn_wide (n := 2)).2 (cloneS _ (dgs zs k) wr hrd (by rw [dgs_len]; exact hz))
      gi_wp2_with fail
      refine ⟨trivial, ?_⟩
      refine hcl'.mono ?_
      rintro e w2 ⟨d, rfl, hO, b2⟩
      have hR2 : R < w2.heap.size := Nat.lt_of_lt_of_le hRl b2.size
      have hrow2 : w2.heap[R]? = some (.cells ((dgs zs k).map (Value.int .u16)).toArray 36 (0, 0)) := by rw [b2.block _ hRl]; exact hrow
      have hb2 : w2.heap[b]? = some (.cells #[.slice uo zs.length uc] 37 (0, 0)) := by rw [b2.block _ (by omega)]; exact hbk
      have hu2 := huk.below (Nat.le_refl _) b2
      obtain ⟨fn, tmps, assign, body, hy, hRn⟩ := hY k wr w2 d hltI hjk hRl b2 hO
      obtain ⟨do_, dc, rfl, -⟩ := hO.sl
      clear hcl' hjk hrow hbk huk hrd hO b2
      gi_wp2_with fail
      refine hRn.mono ?_
      rintro e W3 (⟨rfl, hj3, hs3, e1, e2, e3, e4⟩ | ⟨rfl, hx⟩)
      · rw [hrow2] at e3
        rw [hb2] at e1
        have hR3 : R < W3.heap.size := Nat.lt_of_lt_of_le hR2 hs3
        have hu3 : RK .u16 W3 (.slice uo zs.length uc) zs := by
          obtain ⟨ao', cap', q1, q2, q3, q4, q5, q6⟩ := hu2
          simp only [Value.slice.injEq] at q1
          obtain ⟨rfl, -, rfl⟩ := q1
          refine ⟨uo, uc, rfl, q2, q3, q4, q5, fun j hj => ?_⟩
          obtain ⟨bb, off, rfl, hcc⟩ := q6 j hj
          exact ⟨bb, off, rfl, by rw [← hcc]; exact World.cell?_of_block (e4 bb rfl)⟩
        have cb3 : W3.cell? ⟨b, 0, none⟩ = some (.slice uo zs.length uc) := by simp [World.cell?, e1]
        have hst := (callsIn_wide (n := 2)).2 (stepS _ zs k R W3 hu3 hone hR3 e3 (fun _ bb hbb => by have := hug bb hbb; omega))
        gi_wp2_with fail
        refine ⟨trivial, ?_⟩
        refine hst.mono ?_
        rintro e W4 ⟨⟨x, rfl⟩, r4, g4⟩
        have hj4 := hJ (k + 1) W3 W4 hj3 hR3 g4
        have hb4 : W4.heap[b]? = some (.cells #[.slice uo zs.length uc] 37 (0, 0)) := by rw [g4.block _ (by omega) (fun e => by have := Option.some.inj e; omega)]; exact e1
        have hu4 := hu3.kept' g4 (fun g hg _ bb hbb => by have := hug bb hbb; have := Option.some.inj hg; omega)
        have HF : Hid (J (k + 1) W4 ∧ W4.heap[R]? = some (.cells ((dgs zs ((k : Int) + 1)).map (Value.int .u16)).toArray 36 (0, 0)) ∧ W4.heap[b]? = some (.cells #[.slice uo zs.length uc] 37 (0, 0)) ∧ RK .u16 W4 (.slice uo zs.length uc) zs) := ⟨hj4, r4, hb4, hu4⟩
        clear hst hj4 r4 hb4 hu4 g4 hj3 e1 e2 e3 e4 hu3 hu2 hrow2 hb2 cb3 hone hin
        gi_wp2
        go_roundw
        case rel => exact ⟨k + 1, by omega, by go_num, HF.out.1, by rw [Int.natCast_add]; exact HF.out.2.1, HF.out.2.2.1, HF.out.2.2.2⟩
        case measure => simp [intOf]; omega
      · gi_wp2
        refine bodyPost_ret (results_none rfl _ _ _) rfl ?_
        exact ⟨⟨_, rfl⟩, .inr hx⟩
    · obtain rfl : k = c := by omega
      have hnl : ¬ (k : Int) < (k : Int) := by omega
      gi_wp2
      go_end0
      exact ⟨⟨_, rfl⟩, .inl hjk⟩
end Go.Proofs.Ytfanomoijjjcmaa

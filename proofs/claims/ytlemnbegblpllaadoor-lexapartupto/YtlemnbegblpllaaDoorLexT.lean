/-
  Proved here: what Each's iterator of package lex does, whatever the loop over it.
-/
import Derived.RangeFuncNested
import Derived.RangeFuncBound
import Derived.RangeFuncCalls
import Derived.RangeFuncLeaves
import Derived.Shelf.Abstract
import Derived.Shelf.RegionOpen
import Derived.WalkKit
import Derived.OwnWalkIn
import Derived.TacticsInMore
import Derived.LoopNIn
import Derived.LoopIn
import Derived.Test.YtlemnbegblpllaaDoorLexRangeAll
namespace Go.Proofs.YtlemnbegblpllaaDoor
open Go.RowKit Go.Shelf
attribute [local go_sem] Oper.semAt_some

set_option maxRecDepth 100000 in
set_option maxHeartbeats 6400000 in
theorem each1_in (n : Nat) (hn : 1 ≤ n) (l bx R : Nat) (s : ByteArray) (m : Int) (hz : s.size < 4294967281) (J Aft : Nat → World → Prop) (Jx : World → Prop)
    (hab : ∀ i A B, J i A → Off R A B → J i B)
    (hY : ∀ (i : Nat) (W0 Wm W1 : World) (tv ev : Value), J i W0 → NxEnd W0 R s (nextOut s i) (.tuple #[tv, ev]) Wm → Below Wm.heap.size Wm W1 → Wm.heap.size < W1.heap.size →
      YieldAt Fence.wide (n - 1) Tryd.prog l #[tv, ev] W1 fun e W' =>
        (e = .returned (.bool true) ∧ (Aft i W' ∧ W1.heap.size ≤ W'.heap.size ∧ W'.heap[R]? = W1.heap[R]? ∧ W'.heap[1]? = W1.heap[1]? ∧ ∀ k, Wm.heap.size ≤ k → k < W1.heap.size → W'.heap[k]? = W1.heap[k]?)) ∨ (e = .returned (.bool false) ∧ Jx W'))
    (hstep : ∀ i W', (nextOut s i).last = false → Aft i W' → J (nextOut s i).goes W')
    (W : World) (hR : W.heap.size = R) (h1R : 1 < R) (hb : W.cell? ⟨bx, 0, none⟩ = some (.string s)) (hm : W.cell? ⟨1, 0, none⟩ = some (.int .i64 m)) (h0 : J 0 W) :
    CallsIn Fence.wide n Tryd.prog 24 #[.func (.yield l) #[] #[], .pointer (some ⟨bx, 0, none⟩)] W fun e W' => (∃ v, e = .returned v) ∧ ((∃ i, (nextOut s i).last = true ∧ Aft i W') ∨ Jx W') := by
  refine callsIn_of_wp Tryd.func24 rfl trivial ?_ rfl
  simp only [Tryd.ntmps24, List.size_toArray, List.length_cons, List.length_nil, Nat.reduceAdd, Nat.reduceSub, Array.replicate_succ, Array.replicate_zero, List.push_toArray, List.append_toArray, List.nil_append, List.cons_append]
  gi_wp2_with fail
  gi_loopw [] (fun wr => ∃ i, i ≤ s.size ∧ J i wr ∧ RdC wr R s i ∧ wr.cell? ⟨1, 0, none⟩ = some (.int .i64 m)) (fun wr => s.size - atOf wr R)
  case atStart => exact ⟨0, Nat.zero_le _, hab 0 W _ h0 (Off.of (belowA1 W _)), rdc_new W s hR, keepB2 (belowA1 W _) hm⟩
  case round =>
    clear hb h0 hm
    obtain ⟨i, hi, hJ, hrd, hm⟩ := hrel
    have hnx := (callsIn_wide (n := n - 1)).2 (next_any R s i m wr hrd hi hz hm (by omega))
    have HA : Hid (atOf wr R = i) := hrd.atOf
    have hy0 := hY i wr
    have hst := hstep i
    have hadv := Out.adv (s := s) (i := i) hi
    have hlast : ∀ W', (nextOut s i).last = true → Aft i W' → (∃ i, (nextOut s i).last = true ∧ Aft i W') := fun W' h1 h2 => ⟨i, h1, h2⟩
    generalize nextOut s i = o at *
    gi_wp2_with fail
    refine ⟨trivial, ?_⟩
    refine hnx.mono ?_
    rintro e w2 ⟨v, rfl, hN⟩
    have hmm : w2.cell? ⟨1, 0, none⟩ = some (.int .i64 m) := hN.see.1.cell1 (by omega) hm
    clear hnx hY hstep
    cases o with
    | tok k ms li co j =>
      obtain ⟨rfl, hR2, hO2⟩ := hN
      obtain ⟨W1, hW1⟩ : ∃ W1, w2.alloc (.cells #[.int .i8 k, .string ms, .int .i64 (li : Int), .int .i64 (co : Int)] 38) = W1 := ⟨_, rfl⟩
      have hb1 : Below w2.heap.size w2 W1 := by rw [← hW1]; exact belowA1 _ _
      have hs1 : w2.heap.size < W1.heap.size := by rw [← hW1]; simp
      have hT1 : TkC W1 w2.heap.size (.int .i8 k) (.string ms) (.int .i64 (li : Int)) (.int .i64 (co : Int)) := by rw [← hW1]; exact tkc_new _ rfl
      obtain ⟨fn, tmps, assign, body, hy, hRd⟩ := hy0 w2 W1 _ _ hJ ⟨rfl, hR2, hO2⟩ hb1 hs1
      have HR1 : Hid (RdC W1 R s j ∧ W1.cell? ⟨1, 0, none⟩ = some (.int .i64 m)) := ⟨hR2.below hb1, keepB2 hb1 hmm⟩
      obtain ⟨c0, c1, c2, c3⟩ := hT1.cells
      gi_wp2_with fail
      refine hRd.mono ?_
      rintro e W3 (⟨rfl, hA, hsz, hkR, hk1, hkk⟩ | ⟨rfl, hJx⟩)
      · have hT3 : TkC W3 w2.heap.size (.int .i8 k) (.string ms) (.int .i64 (li : Int)) (.int .i64 (co : Int)) := by unfold TkC; rw [hkk _ (Nat.le_refl _) hs1]; exact hT1
        have d0 := hT3.cells.1
        by_cases hk0 : k = 0
        · have HE : Hid (∃ i, (nextOut s i).last = true ∧ Aft i W3) := hlast W3 (by rw [hk0]; rfl) hA
          have x0 : (k == 0) = true := by rw [hk0]; rfl
          clear hy hRd hA hsz hkR hk1 hkk c0 c1 c2 c3 hT1 hT3 hb1 hs1 hy0 hst hadv hlast hJ hab hW1 hO2 hR2 hrd hm hmm HR1 hk0
          gi_wp2
          (try simp only [Exit.inBlock, Exit.then])
          refine bodyPost_ret (results_none rfl _ _ _) rfl ?_
          exact ⟨⟨_, rfl⟩, .inl HE.out⟩
        · have hla : (Out.tok k ms li co j).last = false := beq_eq_false_iff_ne.2 hk0
          have x0 : (k == 0) = false := hla
          have HE : Hid (i < j ∧ j ≤ s.size ∧ J j W3 ∧ RdC W3 R s j ∧ W3.cell? ⟨1, 0, none⟩ = some (.int .i64 m)) := by
            obtain ⟨h1, h2⟩ := HR1.out
            refine ⟨(hadv hla).1, (hadv hla).2, hst W3 hla hA, by unfold RdC; rw [hkR]; exact h1, ?_⟩
            rw [← h2]
            exact World.cell?_of_block hk1
          have HM : Hid (atOf W3 R = j) := HE.out.2.2.2.1.atOf
          clear hy hRd hA hsz hkR hk1 hkk c0 c1 c2 c3 hT1 hT3 hb1 hs1 hy0 hst hadv hlast hJ hab hW1 hO2 hR2 hrd hm hmm HR1 hk0 hla
          gi_wp2
          go_roundw
          case rel => exact ⟨j, HE.out.2⟩
          case measure => rw [HM.out, HA.out]; have := HE.out; omega
      · have HE : Hid (Jx W3) := hJx
        clear hy hRd hJx c0 c1 c2 c3 hT1 hb1 hs1 hy0 hst hadv hlast hJ hab hW1 hO2 hR2 hrd hm hmm HR1
        gi_wp2
        (try simp only [Exit.inBlock, Exit.then])
        refine bodyPost_ret (results_none rfl _ _ _) rfl ?_
        exact ⟨⟨_, rfl⟩, .inr HE.out⟩
    | flt c li co wd =>
      obtain ⟨fb, hfb, rfl, hF2, hO2⟩ := hN
      obtain ⟨W1, hW1⟩ : ∃ W1, W1 = w2.alloc (.cells #[.int .i8 0, .string ⟨#[]⟩, .int .i64 0, .int .i64 0] 38) := ⟨_, rfl⟩
      have hb1 : Below w2.heap.size w2 W1 := by rw [hW1]; exact belowA1 _ _
      have hs1 : w2.heap.size < W1.heap.size := by rw [hW1]; simp
      have hT1 : TkC W1 w2.heap.size (.int .i8 0) (.string ⟨#[]⟩) (.int .i64 0) (.int .i64 0) := by rw [hW1]; exact tkc_new _ rfl
      obtain ⟨fn, tmps, assign, body, hy, hRd⟩ := hy0 w2 W1 _ _ hJ ⟨fb, hfb, rfl, hF2, hO2⟩ hb1 hs1
      clear hT1
      subst hW1
      gi_wp2_with fail
      refine hRd.mono ?_
      rintro e W3 (⟨rfl, hA, hsz, hkR, hk1, hkk⟩ | ⟨rfl, hJx⟩)
      · have HE : Hid (∃ i, (nextOut s i).last = true ∧ Aft i W3) := hlast W3 rfl hA
        clear hy hRd hA hsz hkR hk1 hkk hb1 hs1 hy0 hst hadv hlast hJ hab hF2 hO2 hrd hm hmm
        gi_wp2
        (try simp only [Exit.inBlock, Exit.then])
        refine bodyPost_ret (results_none rfl _ _ _) rfl ?_
        exact ⟨⟨_, rfl⟩, .inl HE.out⟩
      · have HE : Hid (Jx W3) := hJx
        clear hy hRd hJx hb1 hs1 hy0 hst hadv hlast hJ hab hF2 hO2 hrd hm hmm
        gi_wp2
        (try simp only [Exit.inBlock, Exit.then])
        refine bodyPost_ret (results_none rfl _ _ _) rfl ?_
        exact ⟨⟨_, rfl⟩, .inr HE.out⟩
end Go.Proofs.YtlemnbegblpllaaDoor

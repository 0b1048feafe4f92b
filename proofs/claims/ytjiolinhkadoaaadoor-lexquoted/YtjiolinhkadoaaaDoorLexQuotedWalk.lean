/-
  Proved here: the law LexQuoted, walked.
-/
import Derived.Test.YtjiolinhkadoaaaDoorLexAwB
import Derived.Test.YtjiolinhkadoaaaDoorLexQuotedM
namespace Go.Proofs.YtjiolinhkadoaaaDoor
open Go.RowKit
theorem quoteF_size (s : ByteArray) : (quoteF s).size ≤ 2 * s.size + 2 := by
  unfold quoteF
  split
  · exact Nat.zero_le _
  · rw [bts_size, List.length_append]
    have := qTo_len s s.size
    show _ + 1 ≤ _
    omega
set_option maxRecDepth 100000 in
set_option maxHeartbeats 6400000 in
theorem lexQuoted_top (s : ByteArray) (w : World) (m : Int) (hm : w.cell? ⟨1, 0, none⟩ = some (.int .i64 m)) (hg : ErrT w) (hx : s.size ≤ maxLen) :
    Calls Tryd.prog 7 #[.string s] w fun e w' => e = .returned (.bool true) ∧ Below w.heap.size w w' := by
  have ha := awake_yes m w hm hg
  have hx' : s.size ≤ 9223372036854775807 := hx
  clear hx
  go_enter Tryd.func7, Tryd.ntmps7
  go_wp2_with fail
  refine ha.mono ?_
  rintro e w1 ⟨rfl, b1⟩
  have hm1 := keepB2 b1 hm
  clear ha hm hg
  by_cases hbig : 1048576 < s.size
  · have hc : (1048576 : Int) < (s.size : Int) := by omega
    go_wp2
    go_ret
    exact ⟨rfl, b1⟩
  · have hc : ¬ (1048576 : Int) < (s.size : Int) := by omega
    have q1 := fun w => quote_any s w (by omega)
    have hqz := quoteF_size s
    have hqall := @quoted_all s
    have hq0 : (∃ j, j < s.size ∧ atB s j = 10) → quoteF s = ⟨#[]⟩ := fun h => if_pos h
    generalize quoteF s = q at *
    go_wp2_with fail
    refine (q1 _).mono ?_
    rintro e w2 ⟨rfl, b2⟩
    have HB : Hid (Below w.heap.size w w2) := bstep1 b1 b2
    have hm2 := keepB2 b2 hm1
    clear q1 b1 b2 hm1
    go_wp2_with fail
    go_loopw [5] (fun t wr => ∃ k : Nat, k ≤ s.size ∧ noNl s k ∧ t = .int .i64 k ∧ wr = w2) (fun t _ => s.size - (intOf t).toNat)
    case atStart => exact ⟨0, Nat.zero_le _, fun j h => absurd h (Nat.not_lt_zero _), rfl, rfl⟩
    case round =>
      obtain ⟨k, hk, hnl, rfl, hw⟩ := hrel
      obtain rfl : w2 = wr := hw.symm
      by_cases hlt : k < s.size
      · have hge : (k : Int) < (s.size : Int) := by omega
        have hb : s[k].toNat = atB s k := by unfold atB; rw [dif_pos hlt]; rfl
        by_cases h10 : atB s k = 10
        · have hq := hq0 ⟨k, hlt, h10⟩
          have x10 : ((s[k].toNat : Int) == 10) = true := by rw [hb, h10]; rfl
          subst hq
          clear hb h10 hnl hq0 hqall hqz
          go_wp2
          go_ret
          exact ⟨rfl, HB.out⟩
        · have x10 : ((s[k].toNat : Int) == 10) = false := by rw [hb]; exact nat_beq h10
          have HN : Hid (noNl s (k + 1)) := fun j hj => by
            rcases Nat.lt_or_ge j k with h | h
            · exact hnl j h
            · obtain rfl : j = k := by omega
              exact h10
          clear hb h10 hnl hq0 hqall hqz
          go_wp2
          go_roundw
          case rel => exact ⟨k + 1, by omega, HN.out, by go_num, by first | trivial | rfl⟩
          case measure => simp [intOf]; omega
      · have hge : ¬ (k : Int) < (s.size : Int) := by omega
        obtain rfl : k = s.size := by omega
        have hall := hqall hnl
        have s1 := scan_any q m w2 (by omega) hm2
        unfold ScEnd at s1
        rw [hall] at s1
        have hw1 : IntKind.i64.wrap ((q.size : Int) + 1) = (q.size : Int) + 1 := by rw [IntKind.wrap_i64]; omega
        clear hqall hq0 hnl hall hqz hm2
        go_wp2_with fail
        refine s1.mono ?_
        rintro e w3 ⟨b3, ⟨_, v, rfl, hr⟩ | ⟨_, _, _, _, _, h, _⟩⟩
        rotate_left
        · cases h
        obtain ⟨g, cap, rfl⟩ := Joins.ownsRow_form hr (Nat.succ_pos _)
        have y0 := hr.cellAt 0 (by simp)
        have y1 := hr.cellAt 1 (by simp)
        have y2 := hr.cellAt 2 (by simp)
        have y3 := hr.cellAt 3 (by simp)
        have y4 := hr.cellAt 4 (by simp)
        have y7 := hr.cellAt 7 (by simp)
        simp only [List.flatMap_cons, List.flatMap_nil, tokCells, List.cons_append, List.nil_append, List.getElem?_cons_zero, List.getElem?_cons_succ] at y0 y1 y2 y3 y4 y7
        simp only [List.length_cons, List.length_nil, Nat.reduceAdd]
        have HB3 : Hid (Below w.heap.size w w3) := bstep1 HB.out b3
        clear hr b3 s1 HB
        go_wp2
        go_ret
        exact ⟨rfl, HB3.out⟩
end Go.Proofs.YtjiolinhkadoaaaDoor

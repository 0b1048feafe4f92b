/-
  Proved here: what Shift answers, and what the plain way's Bit answers.
  Proved here: small steps from world to world.
-/
import Derived.Test.YtnlajeinegampaaLift
import Derived.Test.YtnlajeinegampaaPushOwn
import Derived.Test.YtnlajeinegampaaTrim
import Derived.Test.YtnlajeinegampaaPush
namespace Go.Proofs.Ytnlajeinegampaa
open Go.RowKit

/-- What a maker that may refuse leaves. -/
def MadeOk (B : Nat) (w : World) (xs : List Nat) (en : Ending) (w' : World) : Prop := ∃ v, en = .returned (.tuple #[v, .int .i64 0]) ∧ Own B 40 w' v xs ∧ Below B w w'

set_option maxRecDepth 100000 in
theorem shift_bad (v : Value) (n : Int) (w : World) (hn : n < -262144 ∨ 262144 < n) :
    Calls Try.prog 131 #[v, .int .i64 n] w fun e w' => e = .returned (.tuple #[.slice none 0 0, .int .i64 3]) ∧ w' = w := by
  rcases hn with hn | hn
  · have d1 : decide (n < -262144) = true := decide_eq_true hn
    go_enter Try.func131, Try.ntmps131
    go_wp2
    go_ret2
    exact ⟨rfl, rfl⟩
  · have h1 : ¬ n < -262144 := by omega
    have d1 : decide (n < -262144) = false := decide_eq_false h1
    go_enter Try.func131, Try.ntmps131
    go_wp2
    go_ret2
    exact ⟨rfl, rfl⟩

set_option maxRecDepth 100000 in
set_option maxHeartbeats 800000 in
theorem shift_ok (v : Value) (xs : List Nat) (n : Int) (w : World) (h : Num w v xs) (hlen : xs.length ≤ 549755813888) (hn1 : -262144 ≤ n) (hn2 : n ≤ 262144) :
    Calls Try.prog 131 #[v, .int .i64 n] w fun e w' => MadeOk w.heap.size w (lim (shl (val xs) n)) e w' := by
  have h1 : ¬ n < -262144 := by omega
  have h2 : ¬ 262144 < n := by omega
  have hls := lim_short h
  obtain ⟨ao, cap, rfl, hl1, hm1⟩ := h.ao
  by_cases h0 : 0 ≤ n
  · obtain ⟨m, rfl⟩ := Int.eq_ofNat_of_zero_le h0
    have h3 : ¬ (m : Int) < 0 := by omega
    have HS : Hid (shl (val xs) (m : Int) = val (lim (val xs)) * 2 ^ m) := by show _ = _; unfold shl; rw [if_pos h0, Int.toNat_natCast, val_lim]
    go_enter Try.func131, Try.ntmps131
    go_wp2_with fail
    refine (trim_any _ _ _ h).mono ?_
    rintro e w1 ⟨⟨k, hk, hk2, rfl⟩, rfl⟩
    have nu := h.cut hk
    rw [hk2] at nu
    clear h
    go_wp2_with fail
    refine (lift_any _ _ _ _ nu (by omega) (by omega)).mono ?_
    rintro e w2 ⟨zs, rfl, hzl, hcs, hval, hb⟩
    have how : Own w1.heap.size 40 w2 (.slice (some ⟨w1.heap.size, 0, none⟩) zs.length zs.length) zs := hcs.own (Nat.le_refl _) (by rw [hzl]; omega)
    rw [hzl] at how
    have HV : Hid (val zs = shl (val xs) (m : Int)) := by show _ = _; rw [HS.out]; exact hval
    clear hzl hcs hval nu hk2
    go_wp2_with fail
    refine (trim_any _ _ _ how.num).mono ?_
    rintro e w3 ⟨⟨k3, hk3, hk4, rfl⟩, rfl⟩
    have how2 := how.cut hk3
    rw [hk4, HV.out] at how2
    clear how hk4
    go_wp2
    go_ret2
    exact ⟨_, rfl, how2, hb⟩
  · obtain ⟨m, hm⟩ : ∃ m : Nat, n = -(m : Int) := ⟨(-n).toNat, by omega⟩
    have HS : Hid (shl (val xs) n = val (lim (val xs)) / 2 ^ m) := by show _ = _; unfold shl; rw [if_neg h0, val_lim, hm]; simp
    subst hm
    have h3 : -(m : Int) < 0 := by omega
    go_enter Try.func131, Try.ntmps131
    go_wp2_with fail
    refine (trim_any _ _ _ h).mono ?_
    rintro e w1 ⟨⟨k, hk, hk2, rfl⟩, rfl⟩
    have nu := h.cut hk
    rw [hk2] at nu
    clear h
    go_wp2_with fail
    refine (drop_any _ _ _ _ nu (by omega) (by omega)).mono ?_
    rintro e w2 ⟨v2, rfl, ho, hb⟩
    rw [← HS.out] at ho
    clear nu hk2
    go_wp2
    go_ret2
    exact ⟨_, rfl, ho, hb⟩

end Go.Proofs.Ytnlajeinegampaa

namespace Go.Proofs.Ytnlajeinegampaa
open Go.RowKit

theorem belowA (w : World) (o : Obj) : Below w.heap.size w (w.alloc o) := (Below.refl _ _).alloc (Nat.le_refl _) o
theorem belowDN (w : World) (q : Nat) : Below w.heap.size w (w.drewN q) := below_drewN (Below.refl _ _) q
theorem belowK {w w' : World} {k : Nat} (h : w' = w.drewN k) : Below w.heap.size w w' := by rw [h]; exact belowDN _ _
/-- One step on. -/
theorem bstep {w wr w' : World} (h : Below w.heap.size w wr) (hb : Below wr.heap.size wr w') : Below w.heap.size w w' := h.trans (hb.mono h.size)
end Go.Proofs.Ytnlajeinegampaa

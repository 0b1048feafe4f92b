/-
  Proved here: a limb is put behind a row of the call's own; small facts on such rows.
  Proved here: what Shift answers, and what the plain way's Bit answers.
  Proved here: small steps from world to world.
  Proved here: what the small functions of package near's kinds of floats answer.
-/
import Derived.Test.YtaekaikkldnikaaPushAll
import Derived.Test.YtaekaikkldnikaaFam
import Derived.Test.YtaekaikkldnikaaCmpAll
import Derived.Test.YtaekaikkldnikaaLong
import Derived.Test.YtaekaikkldnikaaLift
import Derived.Test.YtaekaikkldnikaaTrimAll
import Derived.Test.YtaekaikkldnikaaNearMathAll
import Derived.Test.YtaekaikkldnikaaShiftMathAll
namespace Go.Proofs.Ytaekaikkldnikaa
open Go.RowKit

theorem lim_short {w : World} {v : Value} {xs : List Nat} (h : Num w v xs) : (lim (val xs)).length ≤ xs.length := by
  have h1 := lim_len_le (val_lt h.1)
  exact h1
theorem val_snoc (zs : List Nat) (d : Nat) : val (zs ++ [d]) = val zs + 4294967296 ^ zs.length * d := by
  rw [val_append]; simp [val]
theorem limbs_snoc {zs : List Nat} (h : limbs zs) {d : Nat} (hd : d < 4294967296) : limbs (zs ++ [d]) := fun x hx => by
  rcases List.mem_append.1 hx with h1 | h1
  · exact h x h1
  · simp at h1; omega
theorem push_own {B : Nat} {w w' wr : World} {v v' : Value} {zs : List Nat} {d : Nat} {o : Obj} (hv : Own B 39 wr v zs) (hbel : Below B w wr) (hB : B ≤ wr.heap.size) (hd : d < 4294967296)
    (ho : w'.ownsRow B 39 1 v' (zs.length + 1) (zs.map U ++ [U d])) (hg : (wr.alloc o).grownBy w' v.ownBlock) :
    Own B 39 w' v' (zs ++ [d]) ∧ Below B w w' ∧ B ≤ w'.heap.size := by
  have hsz : (wr.alloc o).heap.size = wr.heap.size + 1 := by simp
  have hbel2 : Below B (wr.alloc o) w' := below_of_grown hg (by omega) (fun g e => (hv.block g e).1)
  refine ⟨⟨limbs_snoc hv.1 hd, ?_⟩, (hbel.alloc hB o).trans hbel2, by have := hbel2.size; omega⟩
  rw [List.length_append, List.map_append]
  exact ho
theorem Own.sl {B e : Nat} {w : World} {v : Value} {xs : List Nat} (h : Own B e w v xs) : ∃ ao k cap, v = .slice ao k cap := by
  obtain ⟨ao, cap, h, _⟩ := h.ao
  exact ⟨ao, _, cap, h⟩
end Go.Proofs.Ytaekaikkldnikaa

namespace Go.Proofs.Ytaekaikkldnikaa
open Go.RowKit

/-- What a maker that may refuse leaves. -/
def MadeOk (B : Nat) (w : World) (xs : List Nat) (en : Ending) (w' : World) : Prop := ∃ v, en = .returned (.tuple #[v, .int .i64 0]) ∧ Own B 39 w' v xs ∧ Below B w w'

set_option maxRecDepth 100000 in
theorem shift_bad (v : Value) (n : Int) (w : World) (hn : n < -262144 ∨ 262144 < n) :
    Calls Try.prog 32 #[v, .int .i64 n] w fun e w' => e = .returned (.tuple #[.slice none 0 0, .int .i64 3]) ∧ w' = w := by
  rcases hn with hn | hn
  · have d1 : decide (n < -262144) = true := decide_eq_true hn
    go_enter Try.func32, Try.ntmps32
    go_wp2
    go_ret2
    exact ⟨rfl, rfl⟩
  · have h1 : ¬ n < -262144 := by omega
    have d1 : decide (n < -262144) = false := decide_eq_false h1
    go_enter Try.func32, Try.ntmps32
    go_wp2
    go_ret2
    exact ⟨rfl, rfl⟩

set_option maxRecDepth 100000 in
set_option maxHeartbeats 800000 in
theorem shift_ok (v : Value) (xs : List Nat) (n : Int) (w : World) (h : Num w v xs) (hlen : xs.length ≤ 549755813888) (hn1 : -262144 ≤ n) (hn2 : n ≤ 262144) :
    Calls Try.prog 32 #[v, .int .i64 n] w fun e w' => MadeOk w.heap.size w (lim (shl (val xs) n)) e w' := by
  have h1 : ¬ n < -262144 := by omega
  have h2 : ¬ 262144 < n := by omega
  have hls := lim_short h
  obtain ⟨ao, cap, rfl, hl1, hm1⟩ := h.ao
  by_cases h0 : 0 ≤ n
  · obtain ⟨m, rfl⟩ := Int.eq_ofNat_of_zero_le h0
    have h3 : ¬ (m : Int) < 0 := by omega
    have HS : Hid (shl (val xs) (m : Int) = val (lim (val xs)) * 2 ^ m) := by show _ = _; unfold shl; rw [if_pos h0, Int.toNat_natCast, val_lim]
    go_enter Try.func32, Try.ntmps32
    go_wp2_with fail
    refine (trim_any _ _ _ h).mono ?_
    rintro e w1 ⟨⟨k, hk, hk2, rfl⟩, rfl⟩
    have nu := h.cut hk
    rw [hk2] at nu
    clear h
    go_wp2_with fail
    refine (lift_any _ _ _ _ nu (by omega) (by omega)).mono ?_
    rintro e w2 ⟨zs, rfl, hzl, hcs, hval, hb⟩
    have how : Own w1.heap.size 39 w2 (.slice (some ⟨w1.heap.size, 0, none⟩) zs.length zs.length) zs := hcs.own (Nat.le_refl _) (by rw [hzl]; omega)
    rw [hzl] at how
    have HV : Hid (val zs = shl (val xs) (m : Int)) := by show _ = _; rw [HS.out]; exact hval
    clear hzl hcs hval nu hk2
    go_wp2_with fail
    refine (trim_any _ _ _ how.num).mono ?_
    rintro e w3 ⟨⟨k3, hk3, hk4, rfl⟩, rfl⟩
    have how2 := how.cut hk3
    rw [hk4, HV.out] at how2
    clear how hk4
    go_wp2
    go_ret2
    exact ⟨_, rfl, how2, hb⟩
  · obtain ⟨m, hm⟩ : ∃ m : Nat, n = -(m : Int) := ⟨(-n).toNat, by omega⟩
    have HS : Hid (shl (val xs) n = val (lim (val xs)) / 2 ^ m) := by show _ = _; unfold shl; rw [if_neg h0, val_lim, hm]; simp
    subst hm
    have h3 : -(m : Int) < 0 := by omega
    go_enter Try.func32, Try.ntmps32
    go_wp2_with fail
    refine (trim_any _ _ _ h).mono ?_
    rintro e w1 ⟨⟨k, hk, hk2, rfl⟩, rfl⟩
    have nu := h.cut hk
    rw [hk2] at nu
    clear h
    go_wp2_with fail
    refine (drop_any _ _ _ _ nu (by omega) (by omega)).mono ?_
    rintro e w2 ⟨v2, rfl, ho, hb⟩
    rw [← HS.out] at ho
    clear nu hk2
    go_wp2
    go_ret2
    exact ⟨_, rfl, ho, hb⟩

end Go.Proofs.Ytaekaikkldnikaa

namespace Go.Proofs.Ytaekaikkldnikaa
open Go.RowKit

theorem belowA (w : World) (o : Obj) : Below w.heap.size w (w.alloc o) := (Below.refl _ _).alloc (Nat.le_refl _) o
theorem belowDN (w : World) (q : Nat) : Below w.heap.size w (w.drewN q) := below_drewN (Below.refl _ _) q
theorem belowK {w w' : World} {k : Nat} (h : w' = w.drewN k) : Below w.heap.size w w' := by rw [h]; exact belowDN _ _
/-- One step on. -/
theorem bstep {w wr w' : World} (h : Below w.heap.size w wr) (hb : Below wr.heap.size wr w') : Below w.heap.size w w' := h.trans (hb.mono h.size)
end Go.Proofs.Ytaekaikkldnikaa

namespace Go.Proofs.Ytaekaikkldnikaa
open Go.RowKit

/-- A kind of floats. -/
def KV (d l t : Int) : Value := .agg #[.int .i64 d, .int .i64 l, .int .i64 t]

/-- What raised leaves. -/
def UpEnd (w : World) (x : Nat) (L : Nat) (e : Ending) (w' : World) : Prop := ∃ o l c zs, e = .returned (.slice o l c) ∧ Num w' (.slice o l c) zs ∧ val zs = x ∧ zs.length ≤ L ∧ Below w.heap.size w w'

theorem up_len {x : Nat} {xs : List Nat} {n : Int} (h : limbs xs) (hv : val xs = x) (hn : n ≤ 262144) : (lim (up x n)).length ≤ xs.length + 8192 := by
  refine lim_len_le ?_
  unfold up
  obtain ⟨p, hp⟩ : ∃ p : Nat, p = 8192 := ⟨_, rfl⟩
  rw [← hp, Nat.pow_add, ← hv]
  have h1 : (2 : Nat) ^ n.toNat ≤ 4294967296 ^ p := by
    rw [show (4294967296 : Nat) = 2 ^ 32 from rfl, ← Nat.pow_mul]
    exact Nat.pow_le_pow_right (by decide) (by omega)
  calc val xs * 2 ^ n.toNat < 4294967296 ^ xs.length * 2 ^ n.toNat := Nat.mul_lt_mul_of_pos_right (val_lt h) (Nat.two_pow_pos _)
    _ ≤ _ := Nat.mul_le_mul_left _ h1

set_option maxRecDepth 100000 in
set_option maxHeartbeats 1600000 in
theorem raised_any (v : Value) (xs : List Nat) (n : Int) (w : World) (h : Num w v xs) (hl : xs.length ≤ 100000) (hn : n ≤ 262144) (hn2 : -262144 ≤ n) :
    Calls Try.prog 21 #[v, .int .i64 n] w fun e w' => UpEnd w (up (val xs) n) (xs.length + 8192) e w' := by
  have hln := up_len h.1 rfl hn
  obtain ⟨ao, ac, rfl, hac, ham⟩ := h.ao
  by_cases h0 : n ≤ 0
  · have HE : Hid (UpEnd w (up (val xs) n) (xs.length + 8192) (.returned (.slice ao xs.length ac)) w) := by
      refine ⟨_, _, _, xs, rfl, h, ?_, by omega, Below.refl _ _⟩
      unfold up
      rw [show n.toNat = 0 by omega, Nat.pow_zero, Nat.mul_one]
    clear hln h
    go_enter Try.func21, Try.ntmps21
    go_wp2
    go_ret
    exact HE.out
  · have hsh : shl (val xs) n = up (val xs) n := by unfold shl up; rw [if_pos (by omega)]
    have hq := shift_ok _ xs n w h (by omega) hn2 hn
    rw [hsh] at hq
    clear hsh h
    go_enter Try.func21, Try.ntmps21
    go_wp2_with fail
    refine hq.mono ?_
    rintro e w1 ⟨o, rfl, ho, b⟩
    obtain ⟨zo, zl, zc, rfl⟩ := ho.sl
    have HE : Hid (UpEnd w (up (val xs) n) (xs.length + 8192) (.returned (.slice zo zl zc)) w1) := ⟨_, _, _, _, rfl, ho.num, val_lim _, hln, b⟩
    clear hq ho b hln
    go_wp2
    go_ret
    exact HE.out
end Go.Proofs.Ytaekaikkldnikaa

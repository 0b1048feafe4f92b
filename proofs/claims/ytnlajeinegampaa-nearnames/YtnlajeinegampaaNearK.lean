/-
  Proved here: what the small functions of package near's kinds of floats answer.
-/
import Derived.Test.YtnlajeinegampaaNearMath
import Derived.Test.YtnlajeinegampaaAlive0All
import Derived.Test.YtnlajeinegampaaSmall
import Derived.Test.YtnlajeinegampaaCmp
namespace Go.Proofs.Ytnlajeinegampaa
open Go.RowKit

/-- A kind of floats. -/
def KV (d l t : Int) : Value := .agg #[.int .i64 d, .int .i64 l, .int .i64 t]

set_option maxRecDepth 100000 in
set_option maxHeartbeats 1600000 in
theorem number_any (d n u : Nat) (l t : Int) (w : World) (hd : 2 ≤ d) (hd2 : d ≤ 63) (_hl : -2000 ≤ l) (_hl2 : l ≤ 0) (hn : n ≤ 4000) (hu : u + n * 2 ^ (d - 1) < 18446744073709551616) :
    Calls Try.prog 125 #[.agg #[.int .i64 (d : Int), .int .i64 l, .int .i64 t], .int .u64 (u : Int), .int .i64 (l + (n : Int))] w fun e w' => e = .returned (.int .u64 ((u + n * 2 ^ (d - 1) : Nat) : Int)) ∧ Below w.heap.size w w' := by
  obtain ⟨k, rfl⟩ : ∃ k, d = k + 1 := ⟨d - 1, by omega⟩
  rw [show k + 1 - 1 = k by omega] at hu ⊢
  have e0 : l + (n : Int) - l = (n : Int) := by omega
  have e1 : ((k + 1 : Nat) : Int) - 1 = (k : Int) := by omega
  go_enter Try.func125, Try.ntmps125
  obtain ⟨m, hm⟩ : ∃ m, m = n * 2 ^ k := ⟨_, rfl⟩
  have hm2 : ((n : Int) * 2 ^ k) = (m : Int) := by rw [hm]; simp
  rw [← hm] at hu ⊢
  have e2 : IntKind.u64.wrap (m : Int) = (m : Int) := by rw [IntKind.wrap_u64]; omega
  have e3 : IntKind.u64.wrap ((u : Int) + (m : Int)) = ((u + m : Nat) : Int) := by rw [IntKind.wrap_u64]; omega
  clear hm
  go_wp2
  go_ret
  exact ⟨rfl, belowA _ _⟩

/-- What raised leaves. -/
def UpEnd (w : World) (x : Nat) (L : Nat) (e : Ending) (w' : World) : Prop := ∃ o l c zs, e = .returned (.slice o l c) ∧ Num w' (.slice o l c) zs ∧ val zs = x ∧ zs.length ≤ L ∧ Below w.heap.size w w'

theorem up_len {x : Nat} {xs : List Nat} {n : Int} (h : limbs xs) (hv : val xs = x) (hn : n ≤ 262144) : (lim (up x n)).length ≤ xs.length + 8192 := by
  refine lim_len_le ?_
  unfold up
  obtain ⟨p, hp⟩ : ∃ p : Nat, p = 8192 := ⟨_, rfl⟩
  rw [← hp, Nat.pow_add, ← hv]
  have h1 : (2 : Nat) ^ n.toNat ≤ 4294967296 ^ p := by
    rw [show (4294967296 : Nat) = 2 ^ 32 from rfl, ← Nat.pow_mul]
    exact Nat.pow_le_pow_right (by decide) (by omega)
  calc val xs * 2 ^ n.toNat < 4294967296 ^ xs.length * 2 ^ n.toNat := Nat.mul_lt_mul_of_pos_right (val_lt h) (Nat.two_pow_pos _)
    _ ≤ _ := Nat.mul_le_mul_left _ h1

set_option maxRecDepth 100000 in
set_option maxHeartbeats 1600000 in
theorem raised_any (v : Value) (xs : List Nat) (n : Int) (w : World) (h : Num w v xs) (hl : xs.length ≤ 100000) (hn : n ≤ 262144) (hn2 : -262144 ≤ n) :
    Calls Try.prog 124 #[v, .int .i64 n] w fun e w' => UpEnd w (up (val xs) n) (xs.length + 8192) e w' := by
  have hln := up_len h.1 rfl hn
  obtain ⟨ao, ac, rfl, hac, ham⟩ := h.ao
  by_cases h0 : n ≤ 0
  · have HE : Hid (UpEnd w (up (val xs) n) (xs.length + 8192) (.returned (.slice ao xs.length ac)) w) := by
      refine ⟨_, _, _, xs, rfl, h, ?_, by omega, Below.refl _ _⟩
      unfold up
      rw [show n.toNat = 0 by omega, Nat.pow_zero, Nat.mul_one]
    clear hln h
    go_enter Try.func124, Try.ntmps124
    go_wp2
    go_ret
    exact HE.out
  · have hsh : shl (val xs) n = up (val xs) n := by unfold shl up; rw [if_pos (by omega)]
    have hq := shift_ok _ xs n w h (by omega) hn2 hn
    rw [hsh] at hq
    clear hsh h
    go_enter Try.func124, Try.ntmps124
    go_wp2_with fail
    refine hq.mono ?_
    rintro e w1 ⟨o, rfl, ho, b⟩
    obtain ⟨zo, zl, zc, rfl⟩ := ho.sl
    have HE : Hid (UpEnd w (up (val xs) n) (xs.length + 8192) (.returned (.slice zo zl zc)) w1) := ⟨_, _, _, _, rfl, ho.num, val_lim _, hln, b⟩
    clear hq ho b hln
    go_wp2
    go_ret
    exact HE.out
end Go.Proofs.Ytnlajeinegampaa

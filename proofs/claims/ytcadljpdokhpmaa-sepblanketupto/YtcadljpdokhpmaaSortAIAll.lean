/-
  Proved here: mathematics of a stable sort (no program): what an exchange of two ranges leaves, place by place; what a turn is.
  Proved here: slices.swapRangeCmpFunc and slices.rotateCmpFunc at int.
-/
import Derived.Test.YtcadljpdokhpmaaSortMath
import Derived.Shelf.SlSortCmp.Kit1
import Derived.Sort.WalkA
import Derived.Sort.WalkB2
import Derived.Sort.WalkB12
import Derived.Deep.LoopGhost
import Derived.Test.YtcadljpdokhpmaaProg
namespace Go.Proofs.Ytcadljpdokhpmaa
open Go.Sort
section
variable {α : Type}
/-- two ranges, exchanged up to place i -/
def swrA (P U M V Q : List α) (i : Nat) : Array α := (P ++ V.take i ++ U.drop i ++ M ++ U.take i ++ V.drop i ++ Q).toArray
theorem swrA_zero (P U M V Q : List α) : (P ++ U ++ M ++ V ++ Q).toArray = swrA P U M V Q 0 := by simp [swrA]
theorem swrA_end (P U M V Q : List α) (k : Nat) (hU : U.length = k) (hV : V.length = k) : swrA P U M V Q k = (P ++ V ++ M ++ U ++ Q).toArray := by
  unfold swrA
  rw [List.take_of_length_le (by omega), List.drop_of_length_le (l := U) (by omega), List.take_of_length_le (l := U) (by omega), List.drop_of_length_le (l := V) (by omega)]
  simp
theorem swrA_size (P U M V Q : List α) (k n : Nat) (hU : U.length = k) (hV : V.length = k) (hn : (P ++ U ++ M ++ V ++ Q).length = n) (i : Nat) : (swrA P U M V Q i).size = n := by
  simp only [swrA, List.size_toArray, List.length_append, List.length_take, List.length_drop] at hn ⊢
  omega
theorem drop_head {l : List α} {i : Nat} (h : i < l.length) : ∃ x, l.drop i = x :: l.drop (i + 1) ∧ l.take (i + 1) = l.take i ++ [x] :=
  ⟨l[i], List.drop_eq_getElem_cons h, by rw [List.take_add_one, List.getElem?_eq_getElem h]; rfl⟩
end
section
variable {α : Type} [Inhabited α]
theorem swrA_next (P U M V Q : List α) (k a b : Nat) (hP : P.length = a) (hU : U.length = k) (hV : V.length = k) (hM : a + k + M.length = b) (i : Nat) (hi : i < k) :
    swp (swrA P U M V Q i) (a + i) (b + i) = swrA P U M V Q (i + 1) := by
  obtain ⟨u, hu1, hu2⟩ := drop_head (l := U) (i := i) (by omega)
  obtain ⟨v, hv1, hv2⟩ := drop_head (l := V) (i := i) (by omega)
  unfold swrA
  rw [hu1, hv1, hu2, hv2]
  have e : P ++ V.take i ++ u :: U.drop (i + 1) ++ M ++ U.take i ++ v :: V.drop (i + 1) ++ Q = (P ++ V.take i) ++ u :: ((U.drop (i + 1) ++ M ++ U.take i) ++ v :: (V.drop (i + 1) ++ Q)) := by simp
  rw [e, arr_swp _ _ _ _ _ (a + i) (b + i) (by simp; omega) (by simp; omega)]
  simp
end
end Go.Proofs.Ytcadljpdokhpmaa

namespace Go.Proofs.Ytcadljpdokhpmaa
open Go.Shelf Go.RowKit Go.Lib Go.Sort
variable {α : Type} [Inhabited α] {enc : α → Value}

/-- a turn under way -/
def RotSI (enc : α → Value) (w0 : World) (blk off n m b : Nat) (lE : List α) (i j : Nat) (W : World) : Prop :=
  ∃ P U V Q : List α, (P ++ U ++ V ++ Q).length = n ∧ P.length + i = m ∧ U.length = i ∧ m + j ≤ b ∧ V.length = j ∧ 0 < i ∧ 0 < j ∧ P ++ V ++ U ++ Q = lE ∧ SW enc w0 blk off (P ++ U ++ V ++ Q).toArray W

set_option maxHeartbeats 4000000 in
set_option maxRecDepth 1000000 in
theorem swrI (fv : Value) (blk off cap n a b k : Nat) (P U M V Q : List α) (d0 : Array α) (w0 w : World) (R : Row1 enc w0 blk off d0) (hs0 : d0.size = n)
    (hn : (P ++ U ++ M ++ V ++ Q).length = n) (hP : P.length = a) (hU : U.length = k) (hV : V.length = k) (hM : a + k + M.length = b) (hsz : n < 4611686018427387904) (S : SW enc w0 blk off (P ++ U ++ M ++ V ++ Q).toArray w) :
    Calls Try.prog 57 #[.slice (some ⟨blk, off, none⟩) n cap, .int .i64 a, .int .i64 b, .int .i64 k, fv] w fun e w' => e = .returned (.tuple #[]) ∧ SW enc w0 blk off (P ++ V ++ M ++ U ++ Q).toArray w' := by
  have hbk : b + k ≤ n := by simp only [List.length_append] at hn; omega
  have hab : a + k ≤ b := by omega
  have S0 : Aside (SW enc w0 blk off (swrA P U M V Q 0) w) := swrA_zero P U M V Q ▸ S
  obtain ⟨dE, hdE⟩ : ∃ d, d = (P ++ V ++ M ++ U ++ Q).toArray := ⟨_, rfl⟩
  rw [← hdE]
  have HE : Aside (swrA P U M V Q k = dE) := (swrA_end P U M V Q k hU hV).trans hdE.symm
  clear hdE
  have HZ : Aside (∀ i, (swrA P U M V Q i).size = n) := fun i => swrA_size P U M V Q k n hU hV hn i
  have HX : Aside (∀ i, i < k → Sort.swp (swrA P U M V Q i) (a + i) (b + i) = swrA P U M V Q (i + 1)) := fun i hi => swrA_next P U M V Q k a b hP hU hV hM i hi
  clear S hM hU hV hP hn
  have mixed : Try.prog.follows .mixedOrders = true := by kernel_rfl
  have hcl0 := R.hO.cells
  simp only [Value.cells] at hcl0
  have hst := R.hO.store Try.prog
  go_enter Try.func57, Try.ntmps57
  go_wp2
  go_loopg [10] k (fun g1 vi wr => ∃ i : Nat, vi = .int .i64 i ∧ i ≤ k ∧ k - i ≤ g1 ∧ Aside (SW enc w0 blk off (swrA P U M V Q i) wr))
  case atStart => exact ⟨0, rfl, Nat.zero_le _, by omega, S0⟩
  case round =>
    clear S0
    obtain ⟨i, rfl, hik, hg1, S1⟩ := hrel
    by_cases hlt : i < k
    · have hltz : (i : Int) < (k : Int) := by omega
      have hsz1 := HZ.out i
      go_wp2
      obtain ⟨aNk1, haNk1⟩ : ∃ q, q = a + i := ⟨_, rfl⟩
      have eak1 : ((a : Int) + (i : Int)).toNat = aNk1 := by omega
      have pak1 : (0 : Int) ≤ (a : Int) + (i : Int) := by omega
      have bak1 : (a : Int) + (i : Int) < (n : Int) := by omega
      have rak1 : IntKind.i64.wrap ((a : Int) + (i : Int)) = (a : Int) + (i : Int) := by rw [IntKind.wrap_i64]; omega
      obtain ⟨cNk1, hcNk1⟩ : ∃ q, q = b + i := ⟨_, rfl⟩
      have eck1 : ((b : Int) + (i : Int)).toNat = cNk1 := by omega
      have pck1 : (0 : Int) ≤ (b : Int) + (i : Int) := by omega
      have bck1 : (b : Int) + (i : Int) < (n : Int) := by omega
      have rck1 : IntKind.i64.wrap ((b : Int) + (i : Int)) = (b : Int) + (i : Int) := by rw [IntKind.wrap_i64]; omega
      obtain ⟨xk1, hxk1⟩ : ∃ xx, xx = (swrA P U M V Q i)[a + i]! := ⟨_, rfl⟩
      obtain ⟨yk1, hyk1⟩ : ∃ xx, xx = (swrA P U M V Q i)[b + i]! := ⟨_, rfl⟩
      have S3 : Aside (SW enc w0 blk off (Sort.swp (swrA P U M V Q i) (a + i) (b + i)) ((wr.setCell ⟨blk, off + aNk1, none⟩ (enc yk1)).setCell ⟨blk, off + cNk1, none⟩ (enc xk1)).drew) := by rw [haNk1, hcNk1, hxk1, hyk1]; exact S1.out.swapped R (a + i) (b + i) (by rw [hsz1]; omega) (by rw [hsz1]; omega)
      have cak1 := S1.out.c1 R (by rw [hsz1]; omega) (a + i) (by rw [hsz1]; omega)
      have cck1 := S1.out.c1 R (by rw [hsz1]; omega) (b + i) (by rw [hsz1]; omega)
      have fak1 := S1.out.f1 R (by rw [hsz1]; omega) (a + i) (by rw [hsz1]; omega)
      have fck1 := S1.out.f1 R (by rw [hsz1]; omega) (b + i) (by rw [hsz1]; omega)
      obtain ⟨uk1, cdk1⟩ := S1.out.c2 R (by rw [hsz1]; omega) (a + i) (b + i) (by rw [hsz1]; omega) (by rw [hsz1]; omega) (enc yk1)
      rw [← hcNk1, ← haNk1] at cdk1
      rw [← hxk1, ← haNk1] at cak1
      rw [← hyk1, ← hcNk1] at cck1
      rw [← haNk1] at fak1
      rw [← hcNk1] at fck1
      clear S1 hxk1 hyk1 haNk1 hcNk1
      go_wp2_with fail
      go_big_region_o
      clear cak1 cck1 cdk1 fak1 fck1
      generalize ((wr.setCell ⟨blk, off + aNk1, none⟩ (enc yk1)).setCell ⟨blk, off + cNk1, none⟩ (enc xk1)).drew = w3 at S3 ⊢
      clear eak1 eck1
      go_wp2
      go_roundg (k - (i + 1))
      case measure => omega
      case rel => exact ⟨i + 1, by go_num, by omega, by omega, by rw [← HX.out i hlt]; exact S3⟩
    · have hltz : ¬ (i : Int) < (k : Int) := by omega
      have hik2 : i = k := by omega
      subst hik2
      go_wp2
      go_end0
      exact ⟨rfl, by rw [← HE.out]; exact S1.out⟩

set_option maxHeartbeats 4000000 in
set_option maxRecDepth 1000000 in
theorem rotI (fv : Value) (blk off cap n a m b : Nat) (P U V Q : List α) (d0 : Array α) (w0 w : World) (R : Row1 enc w0 blk off d0) (hs0 : d0.size = n)
    (hn : (P ++ U ++ V ++ Q).length = n) (hP : P.length = a) (hU : a + U.length = m) (hV : m + V.length = b) (hU0 : 0 < U.length) (hV0 : 0 < V.length) (hsz : n < 4611686018427387904) (S : SW enc w0 blk off (P ++ U ++ V ++ Q).toArray w) :
    Calls Try.prog 52 #[.slice (some ⟨blk, off, none⟩) n cap, .int .i64 a, .int .i64 m, .int .i64 b, fv] w fun e w' => e = .returned (.tuple #[]) ∧ SW enc w0 blk off (P ++ V ++ U ++ Q).toArray w' := by
  obtain ⟨lE, hlE⟩ : ∃ l, l = P ++ V ++ U ++ Q := ⟨_, rfl⟩
  obtain ⟨dE, hdE⟩ : ∃ d, d = (P ++ V ++ U ++ Q).toArray := ⟨_, rfl⟩
  rw [← hdE]
  have HD : Aside (dE = lE.toArray) := by show _ = _; rw [hdE, hlE]
  have S0 : Aside (RotSI enc w0 blk off n m b lE U.length V.length w) := ⟨P, U, V, Q, hn, by omega, rfl, by omega, rfl, hU0, hV0, hlE.symm, S⟩
  obtain ⟨i0, hi0⟩ : ∃ i, i = U.length := ⟨_, rfl⟩
  obtain ⟨j0, hj0⟩ : ∃ i, i = V.length := ⟨_, rfl⟩
  rw [← hi0, ← hj0] at S0
  have hmn : b ≤ n := by simp only [List.length_append] at hn; omega
  have ei : (m : Int) - (a : Int) = (i0 : Int) := by omega
  have ej : (b : Int) - (m : Int) = (j0 : Int) := by omega
  have hi1 : 0 < i0 := by omega
  have hj1 : 0 < j0 := by omega
  clear S hdE hlE hP hU hV hU0 hV0 hi0 hj0 hn
  have mixed : Try.prog.follows .mixedOrders = true := by kernel_rfl
  have hcl0 := R.hO.cells
  simp only [Value.cells] at hcl0
  have hst := R.hO.store Try.prog
  go_enter Try.func52, Try.ntmps52
  go_wp2
  go_loopg [10, 11] (i0 + j0) (fun g1 vi vj wr => ∃ i j : Nat, vi = .int .i64 i ∧ vj = .int .i64 j ∧ i + j ≤ g1 ∧ Aside (RotSI enc w0 blk off n m b lE i j wr))
  case atStart => exact ⟨i0, j0, rfl, rfl, Nat.le_refl _, S0⟩
  case round =>
    clear S0 ei ej hi1 hj1
    obtain ⟨i, j, rfl, rfl, hg1, S1⟩ := hrel
    have S1' := S1.out
    obtain ⟨P, U, V, Q, hn, hPi, hUi, hj, hVj, hi0, hj0, hl, SS⟩ := S1'
    obtain ⟨p, hp⟩ : ∃ q, q = P.length := ⟨_, rfl⟩
    rw [← hp] at hPi
    have emi : (m : Int) - (i : Int) = (p : Int) := by omega
    have wmi : IntKind.i64.wrap (p : Int) = (p : Int) := by rw [IntKind.wrap_i64]; omega
    clear S1
    by_cases hne : i = j
    · subst hne
      have c1 := swrI fv blk off cap n p m i P U [] V Q d0 w0 wr R hs0 (by simpa using hn) hp.symm hUi hVj (by simp; omega) hsz (by simpa using SS)
      have HC1 : Aside _ := c1
      have HL : Aside ((P ++ V ++ [] ++ U ++ Q) = lE) := by show _ = _; rw [← hl]; simp
      clear c1 SS hl hn hUi hVj hp
      go_wp2_with (go_at_call 57; refine Calls.mono HC1.out ?_; rintro e w' ⟨rfl, S2⟩)
      go_end0
      exact ⟨rfl, by rw [HD.out, ← HL.out]; exact S2⟩
    · have hnez : ((i : Int) != (j : Int)) = true := by simp; omega
      have hned : decide ((i : Int) = (j : Int)) = false := decide_eq_false (by omega)
      by_cases hgt : j < i
      · have hgtz : decide ((i : Int) > (j : Int)) = true := decide_eq_true (by omega)
        have hgtz' : (j : Int) < (i : Int) := by omega
        obtain ⟨i2, hi2⟩ : ∃ q, q + j = i := ⟨i - j, by omega⟩
        have eij : (i : Int) - (j : Int) = (i2 : Int) := by omega
        obtain ⟨U1, U2, hU12, hU1, hU2⟩ : ∃ U1 U2, U = U1 ++ U2 ∧ U1.length = j ∧ U2.length = i2 := ⟨U.take j, U.drop j, (List.take_append_drop j U).symm, by rw [List.length_take]; omega, by rw [List.length_drop]; omega⟩
        have c1 := swrI fv blk off cap n p m j P U1 U2 V Q d0 w0 wr R hs0 (by rw [hU12] at hn; simpa using hn) hp.symm hU1 hVj (by omega) hsz (by rw [hU12] at SS; simpa using SS)
        have HC1 : Aside _ := c1
        have HN : Aside (∀ W, SW enc w0 blk off (P ++ V ++ U2 ++ U1 ++ Q).toArray W → RotSI enc w0 blk off n m b lE i2 j W) := fun W h => ⟨P ++ V, U2, U1, Q, by rw [hU12] at hn; simp only [List.length_append] at hn ⊢; omega, by rw [List.length_append]; omega, hU2, hj, hU1, by omega, hj0, by rw [← hl, hU12]; simp, h⟩
        clear c1 SS hl hn hUi hVj hp hU12 hU1 hU2
        go_wp2_with (go_at_call 57; refine Calls.mono HC1.out ?_; rintro e w' ⟨rfl, S2⟩)
        go_roundg (i2 + j)
        case measure => omega
        case rel => exact ⟨i2, j, by go_num, rfl, Nat.le_refl _, HN.out _ S2⟩
      · have hgtz : decide ((i : Int) > (j : Int)) = false := decide_eq_false (by omega)
        have hgtz' : ¬ (j : Int) < (i : Int) := by omega
        obtain ⟨j2, hj2⟩ : ∃ q, q + i = j := ⟨j - i, by omega⟩
        have eij : (j : Int) - (i : Int) = (j2 : Int) := by omega
        obtain ⟨q2, hq2⟩ : ∃ q, q = m + j2 := ⟨_, rfl⟩
        have emj : (m : Int) + (j : Int) - (i : Int) = (q2 : Int) := by omega
        have wmj : IntKind.i64.wrap ((m : Int) + (j : Int)) = (m : Int) + (j : Int) := by rw [IntKind.wrap_i64]; omega
        have wq2 : IntKind.i64.wrap (q2 : Int) = (q2 : Int) := by rw [IntKind.wrap_i64]; omega
        obtain ⟨V1, V2, hV12, hV1, hV2⟩ : ∃ V1 V2, V = V1 ++ V2 ∧ V1.length = j2 ∧ V2.length = i := ⟨V.take j2, V.drop j2, (List.take_append_drop j2 V).symm, by rw [List.length_take]; omega, by rw [List.length_drop]; omega⟩
        have c1 := swrI fv blk off cap n p q2 i P U V1 V2 Q d0 w0 wr R hs0 (by rw [hV12] at hn; simpa using hn) hp.symm hUi hV2 (by omega) hsz (by rw [hV12] at SS; simpa using SS)
        have HC1 : Aside _ := c1
        have HN : Aside (∀ W, SW enc w0 blk off (P ++ V2 ++ V1 ++ U ++ Q).toArray W → RotSI enc w0 blk off n m b lE i j2 W) := fun W h => ⟨P, V2, V1, U ++ Q, by rw [hV12] at hn; simp only [List.length_append] at hn ⊢; omega, by omega, hV2, by omega, hV1, hi0, by omega, by rw [← hl, hV12]; simp, by simpa using h⟩
        clear c1 SS hl hn hUi hVj hp hV12 hV1 hV2 hq2
        go_wp2_with (go_at_call 57; refine Calls.mono HC1.out ?_; rintro e w' ⟨rfl, S2⟩)
        go_roundg (i + j2)
        case measure => omega
        case rel => exact ⟨i, j2, rfl, by go_num, Nat.le_refl _, HN.out _ S2⟩
end Go.Proofs.Ytcadljpdokhpmaa

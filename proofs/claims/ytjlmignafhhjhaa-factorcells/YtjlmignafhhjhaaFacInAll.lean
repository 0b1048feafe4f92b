/-
  Proved here: plain facts on products of mended tables.
  Proved here: a table of ints that is handed in by value, opened. No condition.
-/
import Derived.Test.YtjlmignafhhjhaaFacX
import Derived.Test.YtjlmignafhhjhaaRadJAll
import Derived.ProofKit
import Derived.OpenShut
import Derived.ShutString
import Derived.ChangeOld
import Derived.Lib.SmallJoins
namespace Go.Proofs.Ytjlmignafhhjhaa
set_option linter.unusedVariables false
open Go.RowKit Go.Shelf Go.Lib Go.Sort
theorem szOf_map : ∀ {V : List Int} {v : Int}, szOf V (V.map szm) v = if v ∈ V then szm v else 0
  | [], v => by simp [szOf]
  | x :: V, v => by
    rw [List.map_cons, szOf, szOf_map]
    by_cases h : x = v
    · subst h; simp
    · have : ¬ v = x := fun e => h e.symm
      simp [h, this]
theorem mend_clash (V1 V2 : List Int) : clash V1 (V1.map szm) V2 (V2.map szm) = false := by
  unfold clash
  rw [List.any_eq_false]
  intro v hv
  unfold two
  rw [szOf_map, szOf_map]
  by_cases h1 : v ∈ V1
  · by_cases h2 : v ∈ V2 <;> simp [h1, h2]
  · simp [h1]
theorem mend_jS (V1 V2 : List Int) : jS V1 (V1.map szm) V2 (V2.map szm) = (joinR V1 V2).map szm := by
  unfold jS
  apply List.map_congr_left
  intro v hv
  rw [szOf_map, szOf_map]
  have hb := szm_bd v
  unfold mxZ
  rcases (mem_joinR V2 V1 v).1 hv with h | h
  · rw [if_pos h]
    by_cases h2 : v ∈ V2
    · rw [if_pos h2]; split <;> rfl
    · rw [if_neg h2]; split
      · omega
      · rfl
  · rw [if_pos h]
    by_cases h2 : v ∈ V1
    · rw [if_pos h2]; split <;> rfl
    · rw [if_neg h2]; split
      · rfl
      · omega
theorem rise_len : ∀ (n : Nat) (U : List Int) (a : Int), Rise U → (∀ x ∈ U, a ≤ x ∧ x < a + n) → U.length ≤ n
  | 0, [], _, _, _ => Nat.le_refl _
  | 0, x :: U, a, _, h => by have := h x (List.mem_cons_self ..); omega
  | n + 1, [], _, _, _ => Nat.zero_le _
  | n + 1, x :: U, a, hr, h => by
    have hx := h x (List.mem_cons_self ..)
    have ih := rise_len n U (a + 1) hr.tail fun y hy => by have h1 := hr.head y hy; have h2 := h y (List.mem_cons_of_mem _ hy); omega
    simp; omega
theorem pr_szm : ∀ U : List Int, 1 ≤ pr (U.map szm) ∧ pr (U.map szm) ≤ ((3 ^ U.length : Nat) : Int)
  | [] => by simp [pr]
  | u :: U => by
    obtain ⟨h1, h2⟩ := pr_szm U
    obtain ⟨h3, h4⟩ := szm_bd u
    rw [List.map_cons, pr, List.length_cons, Nat.pow_succ]
    have a1 := Int.mul_le_mul h3 h1 (by omega) (by omega)
    have a2 := Int.mul_le_mul h4 h2 (by omega) (by decide)
    have a3 : (((3 ^ U.length * 3 : Nat)) : Int) = 3 * ((3 ^ U.length : Nat) : Int) := by rw [Int.natCast_mul, Int.mul_comm]; rfl
    rw [a3]
    exact ⟨by omega, a2⟩
theorem okS_mend : ∀ (V : List Int) (p : Int), Rise V → (∀ x ∈ V, p < x) → okS p V (V.map szm) = true
  | [], _, _, _ => rfl
  | x :: V, p, hr, h => by
    rw [List.map_cons, okS, decide_eq_true (h x (List.mem_cons_self ..)), decide_eq_true (szm_bd x).1, okS_mend V x hr.tail hr.head]; rfl
theorem szm_ones (V : List Int) : ∀ q ∈ V.map szm, 1 ≤ q ∧ q ≤ 3 := fun q hq => by
  obtain ⟨v, _, rfl⟩ := List.mem_map.1 hq
  exact szm_bd v
theorem pow_le8 (n : Nat) (h : n ≤ 8) : ((3 ^ n : Nat) : Int) ≤ 6561 := by have := pow3 n h; omega
theorem mend_tab {V C : List Int} (hr : Rise V) (hb : ∀ x ∈ V, 0 ≤ x ∧ x < 8) (hl : V.length ≤ 8) (hc : (C.length : Int) = pr (V.map szm)) : Tab V (V.map szm) C.length :=
  ⟨by simp, okS_mend V (-1) hr fun x hx => by have := hb x hx; omega, by have := (pr_szm V).2; have := pow_le8 _ hl; omega, hc.symm⟩
theorem Dig.sel : ∀ {S D : List Int} (B : List Bool), Dig S D → Dig (sel B S) (Go.Proofs.Ytjlmignafhhjhaa.sel B D)
  | [], [], B, _ => by cases B <;> exact ⟨rfl, fun i h => by simp [Go.Proofs.Ytjlmignafhhjhaa.sel] at h⟩
  | [], _ :: _, _, h => by have := h.1; simp at this
  | _ :: _, [], _, h => by have := h.1; simp at this
  | s :: S, d :: D, [], _ => ⟨rfl, fun i h => by simp [Go.Proofs.Ytjlmignafhhjhaa.sel] at h⟩
  | s :: S, d :: D, b :: B, h => by
    obtain ⟨h0, h1, h2⟩ := h.tail
    have ih := Dig.sel B h2
    cases b with
    | false => exact ih
    | true =>
      refine ⟨by show (d :: _).length = (s :: _).length; simp [ih.1], fun i hi => ?_⟩
      show 0 ≤ (d :: Go.Proofs.Ytjlmignafhhjhaa.sel B D).getD i 0 ∧ (d :: Go.Proofs.Ytjlmignafhhjhaa.sel B D).getD i 0 < (s :: Go.Proofs.Ytjlmignafhhjhaa.sel B S).getD i 0
      cases i with
      | zero => simpa using ⟨h0, h1⟩
      | succ i =>
        have hi' : i < (Go.Proofs.Ytjlmignafhhjhaa.sel B S).length := by
          have : i + 1 < (s :: Go.Proofs.Ytjlmignafhhjhaa.sel B S).length := hi
          simpa using this
        simpa using ih.2 i hi'
theorem dig_bad {S D : List Int} (h : Dig S D) : bad S D = false := by
  refine bad_not fun i hi => ?_
  have := h.2 i hi
  unfold badAt
  rw [decide_eq_false (by omega), decide_eq_false (by omega)]; rfl
theorem RG.bd {w : World} {v : Value} {L : List Int} (h : RG (Value.int .i64) w v L) (hb : ∀ q ∈ L, -9223372036854775808 ≤ q ∧ q ≤ 9223372036854775807) : RK .i64 w v L :=
  h.rk fun i hi => by
    rw [min_i64, max_i64, List.getD_eq_getElem?_getD, List.getElem?_eq_getElem hi]
    exact hb _ (List.getElem_mem hi)
end Go.Proofs.Ytjlmignafhhjhaa

namespace Go.Proofs.Ytjlmignafhhjhaa
open Go.ChangeShapes Go.WideShapes Go.ChangeAt Go.RowKit
theorem open_rowI {H : Type} {enc : TypeId × Value → H} {W : World} {n : Nat} {c : Value} {y : DataW H × List MemPlace} (h : DataW.trod enc Try.prog W 0 (fun _ => true) true n 22 [c] = some y) : ∃ xs, RK .i64 W c xs := by
  rcases open_ints Try.underlying22 Try.underlying3 (by kernel_rfl) h with ⟨hcs, _⟩ | ⟨x, l, c, zs, hcs, _, hl, hm, hz, _, hcell, hwz⟩
  · simp only [List.cons.injEq, and_true] at hcs
    subst hcs
    exact ⟨[], RK.nil _ _⟩
  · simp only [List.cons.injEq, and_true] at hcs
    subst hcs
    obtain ⟨xs, _, hn⟩ := rk_of_ints hl hm (by simpa using hz) hcell hwz
    exact ⟨xs, hn⟩
set_option maxRecDepth 100000 in
theorem open_boxI {H : Type} {enc : TypeId × Value → H} {W : World} {b0 : Nat} {r : Reach} {v : Value} {d : DataW H} {p : List MemPlace} (hv : Value.okWide Try.prog W r b0 34 v) (h : DataW.Trod enc Try.prog W 0 (fun _ => true) true 34 v d p) :
    ∃ s z c xs zs cs, v = .agg #[s, z, c] ∧ RK .i64 W s xs ∧ RK .i64 W z zs ∧ RK .i64 W c cs := by
  obtain ⟨v0, v1, v2, y0, y1, y2, n, rfl, _, _, h0, h1, h2⟩ := Joins.open_agg3 Try.underlying34 (by kernel_rfl) (by kernel_rfl) hv h
  obtain ⟨xs, k0⟩ := open_rowI h0
  obtain ⟨zs, k1⟩ := open_rowI h1
  obtain ⟨cs, k2⟩ := open_rowI h2
  exact ⟨v0, v1, v2, xs, zs, cs, rfl, k0, k1, k2⟩
end Go.Proofs.Ytjlmignafhhjhaa

/-
  Proved here: parents written over, and what calls answer: the bounds.
-/
import Derived.Test.YtmgbhbdcnciccaaDagAn2
import Derived.Test.YtmgbhbdcnciccaaDagSmAll
import Derived.Test.YtmgbhbdcnciccaaDagSp
import Derived.Test.YtmgbhbdcnciccaaDagLt
import Derived.Test.YtmgbhbdcnciccaaDagManyAll
import Derived.Test.YtmgbhbdcnciccaaDagOrderWalk
namespace Go.Proofs.Ytmgbhbdcnciccaa
set_option linter.unusedVariables false
open Go.RowKit
/-- A point's mirror, as reckoned. -/
def mw (n : Nat) (x : Int) : Int := wrap64 ((n : Int) - 1 - x)
/-- The parents while they are written over. -/
def mvF (P : List (List Int)) (n i k j : Nat) : List Int :=
  if j < i then (P.getD j []).map (mw n) else if j = i then ((P.getD j []).take k).map (mw n) ++ (P.getD j []).drop k else P.getD j []
/-- The parents written over. -/
def mvL (P : List (List Int)) (n : Nat) : List (List Int) := P.map (List.map (mw n))
theorem mvL_len (P : List (List Int)) (n : Nat) : (mvL P n).length = P.length := by simp [mvL]
theorem mvL_get (P : List (List Int)) (n j : Nat) : (mvL P n).getD j [] = (P.getD j []).map (mw n) := by
  unfold mvL
  rw [List.getD_eq_getElem?_getD, List.getD_eq_getElem?_getD, List.getElem?_map]
  cases P[j]? <;> rfl
theorem mvL_row (P : List (List Int)) (n j : Nat) : ((mvL P n).getD j []).length = (P.getD j []).length := by rw [mvL_get, List.length_map]
theorem mvF_len (P : List (List Int)) (n i k j : Nat) : (mvF P n i k j).length = (P.getD j []).length := by
  unfold mvF
  split
  · simp
  · split
    · simp; omega
    · rfl
theorem mvF_start (P : List (List Int)) (n j : Nat) : mvF P n 0 0 j = P.getD j [] := by
  unfold mvF
  rw [if_neg (by omega)]
  split <;> simp
theorem mvF_read {P : List (List Int)} {n i k : Nat} {x : Int} (h : (P.getD i [])[k]? = some x) : (mvF P n i k i)[k]? = some x := by
  have hl := (List.getElem?_eq_some_iff.1 h).1
  unfold mvF
  rw [if_neg (by omega), if_pos rfl, List.getElem?_append_right (by rw [List.length_map, List.length_take]; omega), List.length_map, List.length_take, Nat.min_eq_left (by omega), Nat.sub_self, List.getElem?_drop, Nat.add_zero]
  exact h
theorem mvF_at {P : List (List Int)} {n i k : Nat} {x : Int} (h : (P.getD i [])[k]? = some x) : (mvF P n i k i).set k (mw n x) = mvF P n i (k + 1) i := by
  have hl := (List.getElem?_eq_some_iff.1 h).1
  unfold mvF
  rw [if_neg (by omega), if_pos rfl, if_neg (by omega), if_pos rfl, List.set_append_right _ _ (by simp; omega)]
  rw [List.length_map, List.length_take, Nat.min_eq_left (by omega), Nat.sub_self, List.drop_eq_getElem_cons hl, List.set_cons_zero, List.take_add_one, h, List.map_append, List.append_assoc]
  rfl
theorem mvF_other {P : List (List Int)} {n i k j : Nat} (h : j ≠ i) : mvF P n i (k + 1) j = mvF P n i k j := by
  unfold mvF
  split
  · rfl
  · simp
theorem mvF_full {P : List (List Int)} {n i k : Nat} (hk : (P.getD i []).length = k) : mvF P n i k i = (P.getD i []).map (mw n) := by
  unfold mvF
  rw [if_neg (by omega), if_pos rfl, List.drop_of_length_le (by omega), List.append_nil, List.take_of_length_le (by omega)]
theorem mvF_next {P : List (List Int)} {n i k : Nat} (hk : (P.getD i []).length = k) (j : Nat) : mvF P n i k j = mvF P n (i + 1) 0 j := by
  by_cases h : j < i
  · unfold mvF; rw [if_pos h, if_pos (by omega)]
  · by_cases e : j = i
    · subst e
      rw [mvF_full hk]
      unfold mvF; rw [if_pos (by omega)]
    · unfold mvF
      rw [if_neg h, if_neg e, if_neg (by omega)]
      split <;> simp
theorem mvF_end {P : List (List Int)} {n i j : Nat} (h : j < i) : mvF P n i 0 j = (mvL P n).getD j [] := by
  rw [mvL_get]
  unfold mvF; rw [if_pos h]
/-- What calls answer is small. -/
theorem abS_small {P C : List (List Int)} {n : Nat} {pts : List Int} {c : Int} {L : List (List Int)} (h : AbS P C n pts c L) (hC : ckE P = 0 → ∀ (v : Nat) (y : Int), y ∈ C.getD v [] → 0 ≤ y ∧ y.toNat < n) : L.length ≤ 1 ∧ ∀ i, (L.getD i []).length ≤ n := by
  obtain ⟨R, rfl, h⟩ := h
  have hR : R.length ≤ n := by
    rcases h with ⟨_, _, rfl⟩ | ⟨h0, ⟨_, _, rfl⟩ | ⟨h1, _, h3, h4⟩⟩
    · simp
    · simp
    · have hp : Pts n R := ⟨h3.imp (fun {a b} (h : a < b) (e : a = b) => by omega), fun x hx => by
        obtain ⟨p, hp, m, hr⟩ := (h4 x).1 hx
        have hpt : 0 ≤ p ∧ p < (n : Int) := by
          unfold noPts at h1
          rw [List.any_eq_false] at h1
          have := h1 p hp
          unfold noPt at this
          simp at this
          omega
        exact rn_ptB (hC h0) m p x hpt hr⟩
      exact hp.len
  refine ⟨by simp, fun i => ?_⟩
  match i with
  | 0 => exact hR
  | i + 1 => simp
theorem anS_small {d : Nat} {P : List (List Int)} {n : Nat} {pts : List Int} {c : Int} {L : List (List Int)} (h : AnS d P n pts c L) (hn : P.length = n) (hb : n ≤ 100000) : L.length ≤ 100000 ∧ ∀ i, (L.getD i []).length ≤ 100000 := by
  have one : ∀ R : List Int, R.length ≤ n → ([R] : List (List Int)).length ≤ 100000 ∧ ∀ i, (([R] : List (List Int)).getD i []).length ≤ 100000 := fun R hR => ⟨by simp, fun i => by
    match i with
    | 0 => show R.length ≤ _; omega
    | i + 1 => simp⟩
  unfold AnS at h
  split at h
  · rw [h.2]
    refine one _ ?_
    by_cases hc : ckE P = 42
    · have hok := cyL_ok hc
      have hpl : Pts n (cyL P) := ⟨hok.nd, fun x hx => by
        obtain ⟨i, hi, e⟩ := List.getElem_of_mem hx
        obtain ⟨v, e2, hv⟩ := hok.pt i x (by rw [← e]; exact List.getElem?_eq_getElem hi)
        rw [hn] at hv
        omega⟩
      exact hpl.len
    · rw [cy_nil hc]; simp
  · rw [h.2]
    refine one _ ?_
    by_cases hc : ckE P = 0
    · have := ord_all hc; rw [this.1, this.2, hn]; exact Nat.le_refl _
    · rw [ord_nil hc]; simp
  · have := abS_small h (fun h0 v y hy => by
      obtain ⟨p, e, hp⟩ := outs_no (cl_zero (ck_zero h0)).1 v y hy
      omega)
    exact ⟨by omega, fun i => by have := this.2 i; omega⟩
  · have := abS_small h (fun h0 v y hy => by
      obtain ⟨p, e, hp⟩ := chL_wf P n v y hy
      rw [chL_len] at hp
      omega)
    exact ⟨by omega, fun i => by have := this.2 i; omega⟩
  · rw [h.2]
    split
    · exact ⟨by rw [chL_len]; exact hb, fun i => by have := chL_bound P n i; omega⟩
    · simp
theorem SpI.frame {S : Nat → Prop} {B : Nat} {w0 w w' : World} {v : Value} {rvs : List Value} {f : Nat → List Int} (h : SpI B w0 w v rvs f) (hf : FrP S w w') (hs : ∀ q, S q → w0.heap.size ≤ q) (hlo : ∀ q, (v.ownBlock = some q ∨ InR rvs q) → q < w0.heap.size) : SpI B w0 w' v rvs f :=
  ⟨h.row.of_blocks fun q hq => hf.block q (h.row.lt q hq).2 (fun e => by have := hs q e; have := hlo q (Or.inl hq); omega), fun j u hu => (h.inn j u hu).of_blocks fun q hq => hf.block q ((h.inn j u hu).lt q hq).2 (fun e => by have := hs q e; have := hlo q (Or.inr ⟨j, u, hu, hq⟩); omega), h.frm.tr hf (fun q hq e => by have := hs q e; omega)⟩
/-- The rows that are made out of what was written over. -/
structure NwI (B : Nat) (w : World) (v : Value) (nvs : List Value) (P : List (List Int)) (n i : Nat) : Prop where
  row : OG id B 24 w v nvs
  len : nvs.length = i
  inn : ∀ (j : Nat) (u : Value), nvs[j]? = some u → OG (Value.int .i64) B 3 w u ((mvL P n).getD j [])
theorem NwI.blocks {B : Nat} {w w' : World} {v : Value} {nvs : List Value} {P : List (List Int)} {n i : Nat} (h : NwI B w v nvs P n i) (hb : ∀ q, B ≤ q → q < w.heap.size → w'.heap[q]? = w.heap[q]?) : NwI B w' v nvs P n i :=
  ⟨h.row.of_blocks fun q hq => hb q (h.row.lt q hq).1 (h.row.lt q hq).2, h.len, fun j u hu => (h.inn j u hu).of_blocks fun q hq => hb q ((h.inn j u hu).lt q hq).1 ((h.inn j u hu).lt q hq).2⟩
theorem NwI.push {B : Nat} {w w' : World} {v v' x : Value} {nvs : List Value} {P : List (List Int)} {n i : Nat} (h : NwI B w v nvs P n i) (ho : OG id B 24 w' v' (nvs ++ [x])) (hg : w.grownBy w' v.ownBlock) (hx : OG (Value.int .i64) B 3 w x ((mvL P n).getD i [])) : NwI B w' v' (nvs ++ [x]) P n (i + 1) := by
  have keep : ∀ (u : Value) (L : List Int), OG (Value.int .i64) B 3 w u L → OG (Value.int .i64) B 3 w' u L := fun u L hu => hu.of_blocks fun q hq => hg.block q (hu.lt q hq).2 (fun e => hu.neO h.row (by decide) hq e.symm)
  refine ⟨ho, by rw [List.length_append, h.len]; rfl, fun j u hu => ?_⟩
  by_cases hj : j < nvs.length
  · rw [List.getElem?_append_left hj] at hu
    exact keep u _ (h.inn j u hu)
  · have h3 := (List.getElem?_eq_some_iff.1 hu).1
    rw [List.length_append, List.length_singleton, h.len] at h3
    have hj2 : j = i := by rw [h.len] at hj; omega
    subst hj2
    rw [List.getElem?_append_right (by rw [h.len]; exact Nat.le_refl _), h.len, Nat.sub_self] at hu
    simp only [List.getElem?_cons_zero, Option.some.injEq] at hu
    subst hu
    exact keep _ _ hx
theorem belowS {a b c : World} (h : Below a.heap.size a b) (h2 : Below b.heap.size b c) : Below a.heap.size a c := h.trans (h2.mono h.size)
theorem OwR.lo {B : Nat} {w : World} {v : Value} {rvs : List Value} {L : List (List Int)} (h : OwR B w v rvs L) : ∀ q, (v.ownBlock = some q ∨ InR rvs q) → B ≤ q ∧ q < w.heap.size := fun q hq => by
  rcases hq with hq | ⟨j, u, hu, hq⟩
  · exact h.row.lt q hq
  · exact (h.inn j u hu).lt q hq
end Go.Proofs.Ytmgbhbdcnciccaa

/-
  Proved here: the law's alive: the chapter's points have their order, what is above two of them, three in a ring have their way back.
  Proved here: the law's call and told: what the program and the document answer, as rows.
  Proved here: plain mathematics of layer 17's law: one new point put above one; Apart told by it; rows of one's own, pushed.
-/
import Derived.Test.YtcoiapgfaibkgaaGreatSpDAll
import Derived.Test.YtcoiapgfaibkgaaGreatDagCyOAll
import Derived.Test.YtcoiapgfaibkgaaGreatSpLAll
import Derived.Test.YtcoiapgfaibkgaaGreatPrC
import Derived.Test.YtcoiapgfaibkgaaGreatHuMAll
namespace Go.Proofs.YtcoiapgfaibkgaaGreat
set_option linter.unusedVariables false
open Go.RowKit
def p4 : List (List Int) := [[], [0], [0], [2, 1]]
def p3 : List (List Int) := [[1], [2], [0]]
theorem rise_eq {xs ys : List Int} (hx : xs.Pairwise (· < ·)) (hy : ys.Pairwise (· < ·)) (h : ∀ x, x ∈ xs ↔ x ∈ ys) : xs = ys := by
  have hp : xs.Perm ys := (List.perm_ext_iff_of_nodup (hx.imp (fun {a b} (h : a < b) (e : a = b) => by omega)) (hy.imp (fun {a b} (h : a < b) (e : a = b) => by omega))).2 h
  exact hp.eq_of_pairwise (le := fun a b => a < b) (fun a b _ _ h1 h2 => by omega) hx hy
/-- Rows that are laid one behind the other. -/
theorem RG.lit (w : World) (e : Nat) (zs : List Int) (hl : zs.length ≤ 1000) : RG (Value.int .i64) (w.alloc (.cells (zs.map (Value.int .i64)).toArray e)) (.slice (some ⟨w.heap.size, 0, none⟩) zs.length zs.length) zs := (OG.lit (enc := Value.int .i64) e w zs (by unfold maxLen; omega)).rg
end Go.Proofs.YtcoiapgfaibkgaaGreat

namespace Go.Proofs.YtcoiapgfaibkgaaGreat
set_option linter.unusedVariables false
open Go.RowKit
/-- Rows of a call's own. -/
structure OwR (B : Nat) (w : World) (v : Value) (rvs : List Value) (L : List (List Int)) : Prop where
  row : OG id B 23 w v rvs
  len : rvs.length = L.length
  inn : ∀ (j : Nat) (u : Value), rvs[j]? = some u → OG (Value.int .i64) B 3 w u (L.getD j [])
/-- Each in a block of its own. -/
def SepR (rvs : List Value) : Prop := ∀ (i j : Nat) (u v : Value), i ≠ j → rvs[i]? = some u → rvs[j]? = some v → ∀ q, u.ownBlock = some q → v.ownBlock ≠ some q
/-- The blocks of the rows themselves. -/
def InR (rvs : List Value) (q : Nat) : Prop := ∃ (j : Nat) (u : Value), rvs[j]? = some u ∧ u.ownBlock = some q
theorem SepR.one (v : Value) : SepR [v] := fun i j u v' h1 h2 h3 => by
  have a := (List.getElem?_eq_some_iff.1 h2).1
  have b := (List.getElem?_eq_some_iff.1 h3).1
  simp at a b; omega
theorem SepR.nil : SepR [] := fun i j u v' h1 h2 h3 => by simp at h2
theorem OwR.mono {B B' : Nat} {w : World} {v : Value} {rvs : List Value} {L : List (List Int)} (h : OwR B w v rvs L) (hB : B' ≤ B) : OwR B' w v rvs L := ⟨h.row.mono hB, h.len, fun j u hu => (h.inn j u hu).mono hB⟩
theorem OwR.frame {S : Nat → Prop} {B : Nat} {w w' : World} {v : Value} {rvs : List Value} {L : List (List Int)} (h : OwR B w v rvs L) (hf : FrP S w w') (hs : ∀ q, B ≤ q → q < w.heap.size → (v.ownBlock = some q ∨ InR rvs q) → ¬ S q) : OwR B w' v rvs L :=
  ⟨h.row.of_blocks fun q hq => hf.block q (h.row.lt q hq).2 (hs q (h.row.lt q hq).1 (h.row.lt q hq).2 (Or.inl hq)), h.len, fun j u hu => (h.inn j u hu).of_blocks fun q hq => hf.block q ((h.inn j u hu).lt q hq).2 (hs q ((h.inn j u hu).lt q hq).1 ((h.inn j u hu).lt q hq).2 (Or.inr ⟨j, u, hu, hq⟩))⟩
theorem OwR.below {B : Nat} {w w' : World} {v : Value} {rvs : List Value} {L : List (List Int)} (h : OwR B w v rvs L) (hb : Below w.heap.size w w') : OwR B w' v rvs L :=
  h.frame (S := fun _ => False) (FrP.of_below hb) (fun _ _ _ _ e => e)
theorem OwR.rrd {B : Nat} {w : World} {v : Value} {rvs : List Value} {L : List (List Int)} (h : OwR B w v rvs L) : RRD w v rvs L := ⟨h.row.rg, h.len, fun j u hu => (h.inn j u hu).rg⟩
theorem OwR.nil (B : Nat) (w : World) : OwR B w (.slice none 0 0) [] [] := ⟨OG.nil _ _ _, rfl, fun j u h => by simp at h⟩
theorem OwR.one {B : Nat} {w : World} {v : Value} {R : List Int} (h : OG (Value.int .i64) B 3 w v R) (hB : B ≤ w.heap.size) : OwR B (w.alloc (.cells #[v] 23)) (.slice (some ⟨w.heap.size, 0, none⟩) 1 1) [v] [R] :=
  ⟨(OG.lit (enc := id) 23 w [v] (by unfold maxLen; simp)).mono hB, rfl, fun j u hu => by
    match j, hu with
    | 0, hu =>
      simp only [List.getElem?_cons_zero, Option.some.injEq] at hu
      subst hu
      exact h.below (belowB _ _)
    | j + 1, hu => simp at hu⟩
/-- What Above and Below answer, told as rows. -/
def AbS (P C : List (List Int)) (n : Nat) (pts : List Int) (c : Int) (L : List (List Int)) : Prop := ∃ R, L = [R] ∧ ((ckE P ≠ 0 ∧ c = ckE P ∧ R = []) ∨ (ckE P = 0 ∧ ((noPts (n : Int) pts = true ∧ c = 3 ∧ R = []) ∨ (noPts (n : Int) pts = false ∧ c = 0 ∧ R.Pairwise (· < ·) ∧ ∀ x, x ∈ R ↔ RchP C pts x))))
/-- What each call answers. -/
def AnS (d : Nat) (P : List (List Int)) (n : Nat) (pts : List Int) (c : Int) (L : List (List Int)) : Prop :=
  match d with
  | 0 => c = 0 ∧ L = [cyL P]
  | 1 => c = ckE P ∧ L = [ordL P]
  | 2 => AbS P P n pts c L
  | 3 => AbS P (chL P n) n pts c L
  | _ => c = ckE P ∧ L = if ckE P = 0 then chL P n else []
theorem AbS.uniq {P C : List (List Int)} {n : Nat} {pts : List Int} {c c' : Int} {L L' : List (List Int)} (h : AbS P C n pts c L) (h' : AbS P C n pts c' L') : c = c' ∧ L = L' := by
  obtain ⟨R, rfl, h⟩ := h
  obtain ⟨R', rfl, h'⟩ := h'
  rcases h with ⟨a, b, r⟩ | ⟨a, ⟨b, d, r⟩ | ⟨b, d, r, m⟩⟩ <;> rcases h' with ⟨a', b', r'⟩ | ⟨a', ⟨b', d', r'⟩ | ⟨b', d', r', m'⟩⟩
  · exact ⟨b.trans b'.symm, by rw [r, r']⟩
  · exact absurd a' a
  · exact absurd a' a
  · exact absurd a a'
  · exact ⟨d.trans d'.symm, by rw [r, r']⟩
  · rw [b] at b'; simp at b'
  · exact absurd a a'
  · rw [b] at b'; simp at b'
  · exact ⟨d.trans d'.symm, by rw [rise_eq r r' (fun x => (m x).trans (m' x).symm)]⟩
theorem AnS.uniq {d : Nat} {P : List (List Int)} {n : Nat} {pts : List Int} {c c' : Int} {L L' : List (List Int)} (h : AnS d P n pts c L) (h' : AnS d P n pts c' L') : c = c' ∧ L = L' := by
  unfold AnS at h h'
  split at h
  · exact ⟨h.1.trans h'.1.symm, h.2.trans h'.2.symm⟩
  · exact ⟨h.1.trans h'.1.symm, h.2.trans h'.2.symm⟩
  · exact AbS.uniq h h'
  · exact AbS.uniq h h'
  · rename_i k1 k2 k3 k4
    split at h'
    · exact absurd rfl k1
    · exact absurd rfl k2
    · exact absurd rfl k3
    · exact absurd rfl k4
    · exact ⟨h.1.trans h'.1.symm, h.2.trans h'.2.symm⟩
/-- What a call leaves. -/
def CaE (B d : Nat) (P : List (List Int)) (n : Nat) (pts : List Int) (w' : World) (e : Ending) : Prop := ∃ (ao : Option Addr) (k cap : Nat) (c : Int) (rvs : List Value) (L : List (List Int)), e = .returned (.tuple #[.slice ao k cap, .int .i64 c]) ∧ AnS d P n pts c L ∧ OwR B w' (.slice ao k cap) rvs L ∧ SepR rvs
theorem CaE.one {B d : Nat} {P : List (List Int)} {n : Nat} {pts : List Int} {w : World} {ao : Option Addr} {k cap : Nat} {R : List Int} {c : Int} (h : OG (Value.int .i64) B 3 w (.slice ao k cap) R) (hB : B ≤ w.heap.size) (ha : AnS d P n pts c [R]) : CaE B d P n pts (w.alloc (.cells #[.slice ao k cap] 23)) (.returned (.tuple #[.slice (some ⟨w.heap.size, 0, none⟩) 1 1, .int .i64 c])) :=
  ⟨_, _, _, c, [.slice ao k cap], [R], rfl, ha, OwR.one h hB, SepR.one _⟩
end Go.Proofs.YtcoiapgfaibkgaaGreat

namespace Go.Proofs.YtcoiapgfaibkgaaGreat
set_option linter.unusedVariables false
open Go.RowKit Go.Shelf Go.Sort Go.Lib
/-- A row while one new point is put above point v. -/
def wdR (P : List (List Int)) (v i : Nat) : List Int := P.getD i [] ++ if i = v then [(P.length : Int)] else []
def wdK (P : List (List Int)) (v i : Nat) : List (List Int) := (List.range i).map (wdR P v)
def wdP (P : List (List Int)) (v : Nat) : List (List Int) := wdK P v P.length ++ [[]]
/-- What is asked and not given. -/
def opn (a G : List Int) : List Int := a.filter fun x => decide (x ∉ G)
theorem wk_g {P : List (List Int)} (h : ckE P = 0) {a G : List Int} (ha : noPts (P.length : Int) a = false) (hG : noPts (P.length : Int) G = false) : wkE P P.length a G = 0 := by
  have h1 : nsE P P.length G = 0 := by unfold nsE; rw [h, hG]; rfl
  unfold wkE; rw [h1, ha]; rfl
theorem ends_g {P : List (List Int)} (h : ckE P = 0) {a G A : List Int} (ha : noPts (P.length : Int) a = false) (hG : noPts (P.length : Int) G = false) (hA : AbvP P G A) (y : Int) : y ∈ endsL (wkL P P.length a G A) G ↔ ∃ x ∈ a, TelM P G x y := by
  rw [ends_iff A rfl (wk_g h ha hG), tel_any]
  exact exists_congr fun x => and_congr_right fun _ => (tel_m hA).symm
theorem OwR.push {B : Nat} {w w' : World} {v v' x : Value} {rvs : List Value} {L : List (List Int)} {M : List Int} (h : OwR B w v rvs L) (ho : OG id B 23 w' v' (rvs ++ [x])) (hg : w.grownBy w' v.ownBlock) (hx : OG (Value.int .i64) B 3 w x M) : OwR B w' v' (rvs ++ [x]) (L ++ [M]) := by
  have keep : ∀ (u : Value) (K : List Int), OG (Value.int .i64) B 3 w u K → OG (Value.int .i64) B 3 w' u K := fun u K hu => hu.of_blocks fun q hq => hg.block q (hu.lt q hq).2 (fun e => hu.neO h.row (by decide) hq e.symm)
  refine ⟨ho, by rw [List.length_append, List.length_append, h.len]; rfl, fun j u hu => ?_⟩
  by_cases hj : j < rvs.length
  · rw [List.getElem?_append_left hj] at hu
    rw [List.getD_eq_getElem?_getD, List.getElem?_append_left (by rw [← h.len]; exact hj), ← List.getD_eq_getElem?_getD]
    exact keep u _ (h.inn j u hu)
  · have h3 := (List.getElem?_eq_some_iff.1 hu).1
    rw [List.length_append, List.length_singleton] at h3
    have hj2 : j = rvs.length := by omega
    subst hj2
    rw [List.getElem?_append_right (Nat.le_refl _), Nat.sub_self] at hu
    simp only [List.getElem?_cons_zero, Option.some.injEq] at hu
    subst hu
    rw [List.getD_eq_getElem?_getD, List.getElem?_append_right (by rw [h.len]; exact Nat.le_refl _), h.len, Nat.sub_self]
    exact keep _ _ hx
end Go.Proofs.YtcoiapgfaibkgaaGreat

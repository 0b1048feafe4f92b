/-
  Proved here: credenceref03's SameList of two rows of fractions that stand alike: it answers true.
  Proved here: the answers of Div and of the others, error or not, in one shape for package frac and for the document's layer 3.
  Proved here: the answers of package frac and of the document's layer 3 over fractions of at most 40 limbs, in one shape.
  Proved here: what between of package frac answers of two fractions above 0: the simplest one from the first to the second.
-/
import Derived.Test.YtfnafgjnimfmjaaGreatDoorR3
import Derived.Test.YtfnafgjnimfmjaaGreatDoorFracHAll
import Derived.Test.YtfnafgjnimfmjaaGreatDoorLate
import Derived.Test.YtfnafgjnimfmjaaGreatDoorFloor3
import Derived.Test.YtfnafgjnimfmjaaGreatDoorAllAll
import Derived.Test.YtfnafgjnimfmjaaGreatDoorSimp2
namespace Go.Proofs.YtfnafgjnimfmjaaGreatDoor
open Go.RowKit

end Go.Proofs.YtfnafgjnimfmjaaGreatDoor

namespace Go.Proofs.YtfnafgjnimfmjaaGreatDoor
open Go.RowKit

end Go.Proofs.YtfnafgjnimfmjaaGreatDoor

namespace Go.Proofs.YtfnafgjnimfmjaaGreatDoor
open Go.RowKit

/-- A fraction that can be read, of at most 40 limbs. -/
def RV (w : World) (v : Value) (p : Int) (q : Nat) : Prop := ∃ n ao al ac bo bl bc, v = .agg #[.bool n, .slice ao al ac, .slice bo bl bc] ∧ IB w (.agg #[.bool n, .slice ao al ac]) p 40 ∧ NB w (.slice bo bl bc) (q : Int) 40
theorem RV.below {w w' : World} {v : Value} {p : Int} {q : Nat} (h : RV w v p q) (hb : Below w.heap.size w w') : RV w' v p q := by
  obtain ⟨n, ao, al, ac, bo, bl, bc, e, h1, h2⟩ := h
  exact ⟨n, ao, al, ac, bo, bl, bc, e, h1.below hb, h2.below hb⟩
theorem RV.of {w : World} {n : Bool} {ao bo : Option Addr} {al ac bl bc : Nat} {xs ys : List Nat} (h1 : Num w (.slice ao al ac) xs) (h2 : Num w (.slice bo bl bc) ys) (l1 : xs.length ≤ 40) (l2 : ys.length ≤ 40) : RV w (.agg #[.bool n, .slice ao al ac, .slice bo bl bc]) (zv n (val xs)) (val ys) :=
  ⟨n, ao, al, ac, bo, bl, bc, rfl, ⟨_, _, _, _, _, rfl, h1, l1, rfl⟩, ⟨_, _, _, _, rfl, h2, l2, rfl⟩⟩
theorem RV.rn {w : World} {v : Value} {p : Int} {q : Nat} (h : RV w v p q) : RNum w v (rq p q) 40 := by
  obtain ⟨n, ao, al, ac, bo, bl, bc, rfl, h1, h2⟩ := h
  exact rnum_of h1 h2 (by decide) (by decide)
theorem RV.sz {w : World} {v : Value} {p : Int} {q : Nat} (h : RV w v p q) : Sz p 40 ∧ Sz (und q) 40 := by
  obtain ⟨n, ao, al, ac, bo, bl, bc, rfl, h1, h2⟩ := h
  exact ⟨h1.sz, und_sz h2.sz (by decide)⟩
theorem aCmpF {w : World} {v u : Value} {p r : Int} {q k : Nat} (h : RV w v p q) (h' : RV w u r k) : Calls Tryz.prog 21 #[v, u] w fun e w' => e = .returned (.int .i64 (cmpQ (rq p q) (rq r k))) ∧ Below w.heap.size w w' := by
  exact c_rcmp h.rn h'.rn (by decide)
theorem aCmpR {w : World} {v u : Value} {p r : Int} {q k : Nat} (h : RV w v p q) (h' : RV w u r k) : Calls Tryz.prog 41 #[v, u] w fun e w' => e = .returned (.int .i64 (cmpQ (rq p q) (rq r k))) ∧ Below w.heap.size w w' := by
  obtain ⟨n, ao, al, ac, bo, bl, bc, rfl, h1, h2⟩ := h
  obtain ⟨n', ao', al', ac', bo', bl', bc', rfl, h1', h2'⟩ := h'
  exact cmp3 n ao bo al ac bl bc n' ao' bo' al' ac' bl' bc' h1 h2 (by decide) h1' h2' (by decide) (by decide)
theorem aSignF {w : World} {v : Value} {p : Int} {q : Nat} (h : RV w v p q) : Calls Tryz.prog 38 #[v] w fun e w' => e = .returned (.int .i64 (sgnQ (rq p q))) ∧ Below w.heap.size w w' := by
  exact c_rsign h.rn
theorem aSignR {w : World} {v : Value} {p : Int} {q : Nat} (h : RV w v p q) : Calls Tryz.prog 27 #[v] w fun e w' => e = .returned (.int .i64 (sgnQ (rq p q))) ∧ Below w.heap.size w w' := by
  obtain ⟨n, ao, al, ac, bo, bl, bc, rfl, h1, h2⟩ := h
  exact sign3 n ao bo al ac bl bc h1 (by decide)
end Go.Proofs.YtfnafgjnimfmjaaGreatDoor

namespace Go.Proofs.YtfnafgjnimfmjaaGreatDoor
open Go.RowKit

theorem btw_raw {p r : Int} {q k : Nat} (hu : UpTo (rq p q) (rq r k)) : ∃ P Q R S : Nat, (p = P ∧ und q = Q ∧ r = R ∧ und k = S) ∧ (0 < P ∧ 0 < Q ∧ 0 < S ∧ P * S ≤ R * Q) ∧
    ((sQ (rq p q) (rq r k)).num = ((btw (Q + S) P Q R S).1 : Int) ∧ ((sQ (rq p q) (rq r k)).den : Int) = ((btw (Q + S) P Q R S).2 : Int)) ∧ (btw (Q + S) P Q R S).1 ≤ P ∧ (btw (Q + S) P Q R S).2 ≤ Q := by
  obtain ⟨i, hi, a1, a2⟩ := rq_parts p q
  obtain ⟨j, hj, b1, b2⟩ := rq_parts r k
  have hs := hu.simp
  obtain ⟨n1, n2, n3⟩ := hu.nat
  obtain ⟨pn, pd⟩ := hu.parts
  have u1 := hu.pos
  have u2 := hu.pos2
  generalize rq p q = a at *
  generalize rq r k = b at *
  obtain ⟨ni, rfl⟩ : ∃ n : Nat, i = n := ⟨i.natAbs, by omega⟩
  obtain ⟨nj, rfl⟩ : ∃ n : Nat, j = n := ⟨j.natAbs, by omega⟩
  have hni : 0 < ni := by omega
  have hnj : 0 < nj := by omega
  have ea : ((a.num.natAbs : Nat) : Int) = a.num := by omega
  have eb : ((b.num.natAbs : Nat) : Int) = b.num := by omega
  refine ⟨a.num.natAbs * ni, a.den * ni, b.num.natAbs * nj, b.den * nj, ⟨by rw [Int.natCast_mul, ea]; exact a1, by rw [Int.natCast_mul]; exact a2, by rw [Int.natCast_mul, eb]; exact b1, by rw [Int.natCast_mul]; exact b2⟩, ?_, ?_⟩
  · refine ⟨Nat.mul_pos n1 hni, Nat.mul_pos a.den_pos hni, Nat.mul_pos b.den_pos hnj, ?_⟩
    have e1 : a.num.natAbs * ni * (b.den * nj) = a.num.natAbs * b.den * (ni * nj) := by rw [Nat.mul_mul_mul_comm]
    have e2 : b.num.natAbs * nj * (a.den * ni) = b.num.natAbs * a.den * (ni * nj) := by rw [Nat.mul_mul_mul_comm, Nat.mul_comm nj ni]
    rw [e1, e2]
    exact Nat.mul_le_mul_right _ n3
  · have hle : a.num.natAbs * ni * (b.den * nj) ≤ b.num.natAbs * nj * (a.den * ni) := by
      have e1 : a.num.natAbs * ni * (b.den * nj) = a.num.natAbs * b.den * (ni * nj) := by rw [Nat.mul_mul_mul_comm]
      have e2 : b.num.natAbs * nj * (a.den * ni) = b.num.natAbs * a.den * (ni * nj) := by rw [Nat.mul_mul_mul_comm, Nat.mul_comm nj ni]
      rw [e1, e2]
      exact Nat.mul_le_mul_right _ n3
    have s1 := btw_simp (a.den * ni + b.den * nj) (a.num.natAbs * ni) (a.den * ni) (b.num.natAbs * nj) (b.den * nj) (Nat.mul_pos n1 hni) (Nat.mul_pos a.den_pos hni) (Nat.mul_pos b.den_pos hnj) hle (Nat.le_refl _)
    have s2 := s1.same (P := a.num.natAbs) (Q := a.den) (R := b.num.natAbs) (S := b.den) (Nat.mul_pos a.den_pos hni) a.den_pos (Nat.mul_pos b.den_pos hnj) b.den_pos (by rw [Nat.mul_right_comm, Nat.mul_assoc]) (by rw [Nat.mul_right_comm, Nat.mul_assoc])
    obtain ⟨x1, x2⟩ := s2.unique hs
    have l := (s1.le (Nat.mul_pos a.den_pos hni) (Nat.mul_pos b.den_pos hnj) hle).1
    refine ⟨⟨by rw [x1]; exact pn, by rw [x2, pd]⟩, l.1, l.2⟩
theorem between_q {w : World} {va vb : Value} {p r : Int} {q k : Nat} (h : RV w va p q) (h' : RV w vb r k) (hu : UpTo (rq p q) (rq r k)) : Calls Tryz.prog 39 #[va, vb] w fun e w' => REnd w (sQ (rq p q) (rq r k)) e w' := by
  obtain ⟨n, ao, al, ac, bo, bl, bc, rfl, h1, h2⟩ := h
  obtain ⟨n', ao', al', ac', bo', bl', bc', rfl, h1', h2'⟩ := h'
  obtain ⟨P, Q, R, S, e, hn, hs, l1, l2⟩ := btw_raw hu
  have i1 := h1.num (by decide)
  have r1 := NB.raw h1 h2 (by decide)
  have i2 := h1'.num (by decide)
  have r2 := NB.raw h1' h2' (by decide)
  have sp : Sz (P : Int) 1000000 := by have := i1.sz; rwa [e.1] at this
  have sq : Sz (Q : Int) 1000000 := by rw [← e.2.1]; exact (und_sz h2.sz (by decide)).mono (by decide)
  refine (c_between n ao bo al ac bl bc n' ao' bo' al' ac' bl' bc' P Q R S _ _ e hn ⟨rfl, rfl⟩ ⟨sz_nat l1 sp, sz_nat l2 sq⟩ i1 i2 r1 r2).mono fun _ _ h => h.rend hs.1 hs.2
end Go.Proofs.YtfnafgjnimfmjaaGreatDoor

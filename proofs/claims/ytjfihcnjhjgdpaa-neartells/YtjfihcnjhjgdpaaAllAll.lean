/-
  Proved here: what Int of package whole answers of a number that is an int.
  Proved here: what the plain way's ten answers.
  Proved here: what the plain way's Text answers.
  Proved here: 'apart' of numbers that are what they must be, each in a row of its own, answers true.
  Proved here: what the law's cut answers.
  Proved here: what cut, roomy and kept answer.
  Proved here: plain facts on a bag of numbers that a call made for itself, and 'apart' of such a bag.
  Proved here: what Uint and Sub answer of any numbers, by either way.
-/
import Derived.Test.YtjfihcnjhjgdpaaWholeX3
import Derived.Test.YtjfihcnjhjgdpaaUintAll
import Derived.Test.YtjfihcnjhjgdpaaDivMathAll
import Derived.Test.YtjfihcnjhjgdpaaBlendFnAll
import Derived.Test.YtjfihcnjhjgdpaaLift
import Derived.Test.YtjfihcnjhjgdpaaWholeDAll
import Derived.Test.YtjfihcnjhjgdpaaLong
import Derived.Test.YtjfihcnjhjgdpaaR2AAll
import Derived.WalkSmall
import Derived.Test.YtjfihcnjhjgdpaaTrimAll
import Derived.Test.YtjfihcnjhjgdpaaNearKAll
import Derived.Test.YtjfihcnjhjgdpaaRefDAll
namespace Go.Proofs.Ytjfihcnjhjgdpaa
open Go.RowKit

end Go.Proofs.Ytjfihcnjhjgdpaa

namespace Go.Proofs.Ytjfihcnjhjgdpaa
open Go.RowKit

/-- What ten leaves. -/
def TenEnd (w : World) (v : Nat) (e : Ending) (w' : World) : Prop :=
  ∃ o, e = .returned (.tuple #[o, .int .i64 ((v % 10 : Nat) : Int)]) ∧ Own w.heap.size 39 w' o (lim (v / 10)) ∧ Below w.heap.size w w'

end Go.Proofs.Ytjfihcnjhjgdpaa

namespace Go.Proofs.Ytjfihcnjhjgdpaa
open Go.RowKit

theorem digit_at {d : Nat} (h : d < 10) : (({ data := #[48, 49, 50, 51, 52, 53, 54, 55, 56, 57] } : ByteArray)[d]'h).toNat = 48 + d := by
  rcases (show d = 0 ∨ d = 1 ∨ d = 2 ∨ d = 3 ∨ d = 4 ∨ d = 5 ∨ d = 6 ∨ d = 7 ∨ d = 8 ∨ d = 9 by omega) with rfl | rfl | rfl | rfl | rfl | rfl | rfl | rfl | rfl | rfl <;> rfl
theorem dec_parts {ds : List Nat} {v N : Nat} (h : ds ++ dec v = dec N) : dval ds + 10 ^ ds.length * v = N := by
  rw [← dval_dec N, ← h, dval_append, dval_dec]
theorem snoc_getD (ds : List Nat) (j : Nat) (h : j < ds.length) : (ds.drop j).reverse = (ds.drop (j + 1)).reverse ++ [ds.getD j 0] := by
  rw [List.drop_eq_getElem_cons h, List.reverse_cons, List.getD_eq_getElem?_getD, List.getElem?_eq_getElem h]; rfl

end Go.Proofs.Ytjfihcnjhjgdpaa

namespace Go.Proofs.Ytjfihcnjhjgdpaa
open Go.RowKit

theorem Try.infoN : (Try.prog.info? 25).map (fun i => (i.zero, i.size, i.bytes)) = some (some (.slice none 0 0), 1, 24) := by kernel_rfl

end Go.Proofs.Ytjfihcnjhjgdpaa

namespace Go.Proofs.Ytjfihcnjhjgdpaa
open Go.RowKit


end Go.Proofs.Ytjfihcnjhjgdpaa

namespace Go.Proofs.Ytjfihcnjhjgdpaa
open Go.RowKit

/-- A number with five marked limbs behind it. -/
def Room (B : Nat) (w : World) (v : Value) (xs : List Nat) : Prop :=
  ∃ u, v = cutTo u xs.length ∧ Own B 39 w u (xs ++ List.replicate 5 77)
theorem Room.own {B : Nat} {w : World} {v : Value} {xs : List Nat} (h : Room B w v xs) : Own B 39 w v xs := by
  obtain ⟨u, rfl, ho⟩ := h
  have := ho.cut (k := xs.length) (by simp)
  rwa [List.take_left] at this
theorem Room.shape {B : Nat} {w : World} {v : Value} {xs : List Nat} (h : Room B w v xs) : ∃ g cap, v = .slice (some ⟨g, 0, none⟩) xs.length cap ∧ xs.length + 5 ≤ cap ∧ cap ≤ 9223372036854775807 ∧ Own B 39 w (.slice (some ⟨g, 0, none⟩) (xs.length + 5) cap) (xs ++ List.replicate 5 77) := by
  obtain ⟨u, rfl, ho⟩ := h
  rcases ho.shape with ⟨_, h0⟩ | ⟨g, cap, rfl, h1, h2⟩
  · simp at h0
  · simp only [List.length_append, List.length_replicate] at h1 ho ⊢
    exact ⟨g, cap, rfl, h1, h2, ho⟩
theorem Room.below {B : Nat} {w w' : World} {v : Value} {xs : List Nat} (h : Room B w v xs) (hb : Below w.heap.size w w') : Room B w' v xs := by
  obtain ⟨u, e, ho⟩ := h
  exact ⟨u, e, ho.below hb⟩
theorem Room.same {B : Nat} {w w' : World} {v : Value} {xs : List Nat} (h : Room B w v xs) (hb : w'.heap = w.heap) : Room B w' v xs := by
  obtain ⟨u, e, ho⟩ := h
  exact ⟨u, e, ho.same hb⟩
theorem Room.mono {B B' : Nat} {w : World} {v : Value} {xs : List Nat} (h : Room B w v xs) (hb : B' ≤ B) : Room B' w v xs := by
  obtain ⟨u, e, ho⟩ := h
  exact ⟨u, e, ho.mono hb⟩

theorem room_step {B k : Nat} {w w' wr : World} {v v' : Value} {xs : List Nat} {o : Obj} (hv : Own B 39 wr v (xs ++ List.replicate k 77)) (hbel : Below B w wr) (hB : B ≤ wr.heap.size)
    (ho : w'.ownsRow B 39 1 v' (xs.length + k + 1) ((xs ++ List.replicate k 77).map U ++ [.int .u32 77])) (hg : (wr.alloc o).grownBy w' v.ownBlock) :
    Own B 39 w' v' (xs ++ List.replicate (k + 1) 77) ∧ Below B w w' ∧ B ≤ w'.heap.size := by
  have hsz : (wr.alloc o).heap.size = wr.heap.size + 1 := by simp
  have hbel2 : Below B (wr.alloc o) w' := below_of_grown hg (by omega) (fun g e => (hv.block g e).1)
  refine ⟨⟨?_, ?_⟩, (hbel.alloc hB o).trans hbel2, by have := hbel2.size; omega⟩
  · intro x hx
    rcases List.mem_append.1 hx with h | h
    · exact hv.1 x (List.mem_append_left _ h)
    · have := List.eq_of_mem_replicate h; omega
  · rw [List.length_append, List.length_replicate, List.replicate_succ', ← List.append_assoc, List.map_append]
    exact ho

theorem room_full {xs : List Nat} {j : Nat} (h : j < xs.length) : (xs ++ List.replicate 5 77).getD j 0 = xs.getD j 0 := by
  rw [List.getD_eq_getElem?_getD, List.getD_eq_getElem?_getD, List.getElem?_append_left h]
theorem room_mark {xs : List Nat} {j : Nat} (h : xs.length ≤ j) (h2 : j < xs.length + 5) : (xs ++ List.replicate 5 77).getD j 0 = 77 := by
  rw [List.getD_eq_getElem?_getD, List.getElem?_append_right h, List.getElem?_replicate, if_pos (by omega)]; rfl

end Go.Proofs.Ytjfihcnjhjgdpaa

namespace Go.Proofs.Ytjfihcnjhjgdpaa
open Go.RowKit

/-- Numbers in rows of the call's own, each in another. -/
def Bag (B : Nat) (w : World) (l : List (Value × List Nat)) : Prop :=
  (∀ p ∈ l, Own B 39 w p.1 p.2) ∧ l.Pairwise fun p q => p.1.ownBlock = none ∨ p.1.ownBlock ≠ q.1.ownBlock
theorem Bag.nil (B : Nat) (w : World) : Bag B w [] := ⟨fun p hp => by simp at hp, List.Pairwise.nil⟩
theorem Bag.step {B : Nat} {w w' : World} {l : List (Value × List Nat)} (h : Bag B w l) (hb : Below w.heap.size w w') : Bag B w' l := ⟨fun p hp => (h.1 p hp).below hb, h.2⟩
theorem Bag.push {B : Nat} {w w' : World} {l : List (Value × List Nat)} {v : Value} {xs : List Nat} (h : Bag B w l) (ho : Own w.heap.size 39 w' v xs) (hb : Below w.heap.size w w') (hB : B ≤ w.heap.size) : Bag B w' (l ++ [(v, xs)]) := by
  refine ⟨fun p hp => ?_, ?_⟩
  · rcases List.mem_append.1 hp with hp | hp
    · exact (h.1 p hp).below hb
    · simp only [List.mem_singleton] at hp
      subst hp
      exact ho.mono hB
  · rw [List.pairwise_append]
    refine ⟨h.2, by simp, fun p hp q hq => ?_⟩
    simp only [List.mem_singleton] at hq
    subst hq
    exact apart_later (h.1 p hp) ho (Nat.le_refl _)
theorem Bag.perm {B : Nat} {w : World} {l l' : List (Value × List Nat)} (h : Bag B w l) (p : l'.Perm l) : Bag B w l' :=
  ⟨fun q hq => h.1 q (p.mem_iff.1 hq), (p.pairwise_iff (fun hab => apart_symm hab)).2 h.2⟩
theorem Bag.dist {B : Nat} {w : World} {l : List (Value × List Nat)} (h : Bag B w l) : Dist (l.map Prod.fst) := by
  intro i j hi hj hne
  simp only [List.length_map] at hi hj
  have e1 : at_ (l.map Prod.fst) i = (l[i]).1 := by simp [at_, hi]
  have e2 : at_ (l.map Prod.fst) j = (l[j]).1 := by simp [at_, hj]
  rw [e1, e2]
  rcases Nat.lt_or_gt_of_ne hne with hlt | hgt
  · exact List.pairwise_iff_getElem.1 h.2 i j hi hj hlt
  · exact apart_symm (List.pairwise_iff_getElem.1 h.2 j i hj hi hgt)
theorem Bag.fam {B : Nat} {w : World} {l : List (Value × List Nat)} (h : Bag B w l) : Fam B w (l.map Prod.fst) (fun j => (l.map Prod.snd).getD j []) := by
  intro j hj
  simp only [List.length_map] at hj
  have e1 : at_ (l.map Prod.fst) j = (l[j]).1 := by simp [at_, hj]
  have e2 : (l.map Prod.snd).getD j [] = (l[j]).2 := by simp [List.getD, hj]
  rw [e1]
  simp only [e2]
  exact h.1 _ (List.getElem_mem hj)
theorem Bag.head {B : Nat} {w : World} {p : Value × List Nat} {l : List (Value × List Nat)} {gs : List Value} (h : Bag B w (p :: l)) (hgs : l.map Prod.fst = gs) : Own B 39 w p.1 p.2 ∧ Bag B w l ∧ ∀ j, j < gs.length → (at_ gs j).ownBlock = none ∨ (at_ gs j).ownBlock ≠ p.1.ownBlock := by
  subst hgs
  refine ⟨h.1 p (by simp), ⟨fun q hq => h.1 q (by simp [hq]), (List.pairwise_cons.1 h.2).2⟩, fun j hj => ?_⟩
  simp only [List.length_map] at hj
  have e1 : at_ (l.map Prod.fst) j = (l[j]).1 := by simp [at_, hj]
  rw [e1]
  exact apart_symm ((List.pairwise_cons.1 h.2).1 _ (List.getElem_mem hj))
/-- The answers that must be, beside those that were told. -/
def Wants (w : World) (ws : List Value) (l : List (Value × List Nat)) : Prop := ws.length = l.length ∧ ∀ j, j < l.length → Num w (at_ ws j) ((l.map Prod.snd).getD j [])
theorem Wants.nil (w : World) : Wants w [] [] := ⟨rfl, fun j hj => by simp at hj⟩
theorem Wants.cons {w : World} {ws : List Value} {l : List (Value × List Nat)} {v u : Value} {xs : List Nat} (h : Num w v xs) (hr : Wants w ws l) : Wants w (v :: ws) ((u, xs) :: l) := by
  refine ⟨by simp [hr.1], fun j hj => ?_⟩
  cases j with
  | zero => exact h
  | succ j => exact hr.2 j (by simpa using hj)

theorem nextB {B : Nat} {w wr w' : World} (h : Below B w wr) (hB : B ≤ wr.heap.size) (hb : Below wr.heap.size wr w') : Below B w w' ∧ B ≤ w'.heap.size :=
  ⟨h.trans (hb.mono hB), Nat.le_trans hB hb.size⟩
theorem belowD (w : World) (q : Nat) : Below w.heap.size w (w.drewN q) := below_drewN (Below.refl _ _) q
end Go.Proofs.Ytjfihcnjhjgdpaa

namespace Go.Proofs.Ytjfihcnjhjgdpaa
open Go.RowKit

theorem sub_ref (u v : Value) (xs ys : List Nat) (w : World) (hu : Num w u xs) (hv : Num w v ys) (hbx : xs.length ≤ 1099511627776) (hby : ys.length ≤ 1099511627776) :
    Calls Try.prog 72 #[u, v] w fun e w' => SubTold w.heap.size w (val xs) (val ys) e w' := by
  unfold SubTold
  by_cases hs : val ys ≤ val xs
  · rw [show leB (val ys) (val xs) = true by simp [leB, hs]]
    exact sub_ref_yes u v xs ys w hu hv hbx hby hs
  · rw [show leB (val ys) (val xs) = false by simp [leB, hs], show val xs - val ys = 0 by omega]
    refine (sub_ref_no u v xs ys w hu hv hbx hby (by omega)).mono ?_
    rintro e w' ⟨rfl, rfl⟩
    exact ⟨_, rfl, Own.of_nil _ _ _, Below.refl _ _⟩
end Go.Proofs.Ytjfihcnjhjgdpaa

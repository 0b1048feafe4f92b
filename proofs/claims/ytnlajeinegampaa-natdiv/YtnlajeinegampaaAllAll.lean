/-
  Proved here: plain facts on a bag of numbers that a call made for itself, and 'apart' of such a bag.
  Proved here: what Uint answers.
  Proved here: what Uint and Sub answer of any numbers.
  Proved here: what Uint and Sub answer of any numbers, by either way.
-/
import Derived.Test.YtnlajeinegampaaBitsAll
import Derived.Test.YtnlajeinegampaaApart
import Derived.Test.YtnlajeinegampaaBase
import Derived.Test.YtnlajeinegampaaNormAll
import Derived.Test.YtnlajeinegampaaRefAAll
import Derived.Test.YtnlajeinegampaaRefD
namespace Go.Proofs.Ytnlajeinegampaa
open Go.RowKit

/-- Numbers in rows of the call's own, each in another. -/
def Bag (B : Nat) (w : World) (l : List (Value × List Nat)) : Prop :=
  (∀ p ∈ l, Own B 40 w p.1 p.2) ∧ l.Pairwise fun p q => p.1.ownBlock = none ∨ p.1.ownBlock ≠ q.1.ownBlock
theorem Bag.nil (B : Nat) (w : World) : Bag B w [] := ⟨fun p hp => by simp at hp, List.Pairwise.nil⟩
theorem Bag.step {B : Nat} {w w' : World} {l : List (Value × List Nat)} (h : Bag B w l) (hb : Below w.heap.size w w') : Bag B w' l := ⟨fun p hp => (h.1 p hp).below hb, h.2⟩
theorem Bag.push {B : Nat} {w w' : World} {l : List (Value × List Nat)} {v : Value} {xs : List Nat} (h : Bag B w l) (ho : Own w.heap.size 40 w' v xs) (hb : Below w.heap.size w w') (hB : B ≤ w.heap.size) : Bag B w' (l ++ [(v, xs)]) := by
  refine ⟨fun p hp => ?_, ?_⟩
  · rcases List.mem_append.1 hp with hp | hp
    · exact (h.1 p hp).below hb
    · simp only [List.mem_singleton] at hp
      subst hp
      exact ho.mono hB
  · rw [List.pairwise_append]
    refine ⟨h.2, by simp, fun p hp q hq => ?_⟩
    simp only [List.mem_singleton] at hq
    subst hq
    exact apart_later (h.1 p hp) ho (Nat.le_refl _)
theorem Bag.perm {B : Nat} {w : World} {l l' : List (Value × List Nat)} (h : Bag B w l) (p : l'.Perm l) : Bag B w l' :=
  ⟨fun q hq => h.1 q (p.mem_iff.1 hq), (p.pairwise_iff (fun hab => apart_symm hab)).2 h.2⟩
theorem Bag.dist {B : Nat} {w : World} {l : List (Value × List Nat)} (h : Bag B w l) : Dist (l.map Prod.fst) := by
  intro i j hi hj hne
  simp only [List.length_map] at hi hj
  have e1 : at_ (l.map Prod.fst) i = (l[i]).1 := by simp [at_, hi]
  have e2 : at_ (l.map Prod.fst) j = (l[j]).1 := by simp [at_, hj]
  rw [e1, e2]
  rcases Nat.lt_or_gt_of_ne hne with hlt | hgt
  · exact List.pairwise_iff_getElem.1 h.2 i j hi hj hlt
  · exact apart_symm (List.pairwise_iff_getElem.1 h.2 j i hj hi hgt)
theorem Bag.fam {B : Nat} {w : World} {l : List (Value × List Nat)} (h : Bag B w l) : Fam B w (l.map Prod.fst) (fun j => (l.map Prod.snd).getD j []) := by
  intro j hj
  simp only [List.length_map] at hj
  have e1 : at_ (l.map Prod.fst) j = (l[j]).1 := by simp [at_, hj]
  have e2 : (l.map Prod.snd).getD j [] = (l[j]).2 := by simp [List.getD, hj]
  rw [e1]
  simp only [e2]
  exact h.1 _ (List.getElem_mem hj)
theorem Bag.head {B : Nat} {w : World} {p : Value × List Nat} {l : List (Value × List Nat)} {gs : List Value} (h : Bag B w (p :: l)) (hgs : l.map Prod.fst = gs) : Own B 40 w p.1 p.2 ∧ Bag B w l ∧ ∀ j, j < gs.length → (at_ gs j).ownBlock = none ∨ (at_ gs j).ownBlock ≠ p.1.ownBlock := by
  subst hgs
  refine ⟨h.1 p (by simp), ⟨fun q hq => h.1 q (by simp [hq]), (List.pairwise_cons.1 h.2).2⟩, fun j hj => ?_⟩
  simp only [List.length_map] at hj
  have e1 : at_ (l.map Prod.fst) j = (l[j]).1 := by simp [at_, hj]
  rw [e1]
  exact apart_symm ((List.pairwise_cons.1 h.2).1 _ (List.getElem_mem hj))
/-- The answers that must be, beside those that were told. -/
def Wants (w : World) (ws : List Value) (l : List (Value × List Nat)) : Prop := ws.length = l.length ∧ ∀ j, j < l.length → Num w (at_ ws j) ((l.map Prod.snd).getD j [])
theorem Wants.nil (w : World) : Wants w [] [] := ⟨rfl, fun j hj => by simp at hj⟩
theorem Wants.cons {w : World} {ws : List Value} {l : List (Value × List Nat)} {v u : Value} {xs : List Nat} (h : Num w v xs) (hr : Wants w ws l) : Wants w (v :: ws) ((u, xs) :: l) := by
  refine ⟨by simp [hr.1], fun j hj => ?_⟩
  cases j with
  | zero => exact h
  | succ j => exact hr.2 j (by simpa using hj)

theorem apart_bag (B gb wb m : Nat) (l : List (Value × List Nat)) (gs ws : List Value) (w : World) (hB : B ≤ w.heap.size) (hgb : B ≤ gb) (hl : l.length = m) (hm : m ≤ 1000) (hgs : l.map Prod.fst = gs)
    (hgot : w.heap[gb]? = some (.cells gs.toArray 23 (0, 0))) (hwant : w.heap[wb]? = some (.cells ws.toArray 23 (0, 0)))
    (hbag : Bag B w l) (hws : Wants w ws l) (hlen : ∀ p ∈ l, p.2.length ≤ 1099511627776) :
    Calls Try.prog 14 #[.slice (some ⟨gb, 0, none⟩) m m, .slice (some ⟨wb, 0, none⟩) m m] w fun e w' => e = .returned (.bool true) ∧ Bex gs w w' ∧ Below B w w' := by
  subst hgs
  refine (apart_yes B gb wb m (l.map Prod.fst) ws (fun j => (l.map Prod.snd).getD j []) w hB hgb (by simp [hl]) (by rw [hws.1, hl]) hm hgot hwant hbag.fam hbag.dist (fun j hj => hws.2 j (by omega)) (fun j hj => ?_)).mono ?_
  · have e2 : (l.map Prod.snd).getD j [] = (l[j]'(by omega)).2 := by simp [List.getD, hl, hj]
    simp only [e2]
    exact hlen _ (List.getElem_mem _)
  · rintro e w' ⟨rfl, hx⟩
    refine ⟨rfl, hx, hx.below hB fun j k hj hk => ?_⟩
    exact ((hbag.fam j hj).block k hk).1

theorem nextB {B : Nat} {w wr w' : World} (h : Below B w wr) (hB : B ≤ wr.heap.size) (hb : Below wr.heap.size wr w') : Below B w w' ∧ B ≤ w'.heap.size :=
  ⟨h.trans (hb.mono hB), Nat.le_trans hB hb.size⟩
theorem belowD (w : World) (q : Nat) : Below w.heap.size w (w.drewN q) := below_drewN (Below.refl _ _) q
end Go.Proofs.Ytnlajeinegampaa

namespace Go.Proofs.Ytnlajeinegampaa
open Go.RowKit

set_option maxHeartbeats 400000 in
theorem uint_yes (v : Value) (xs : List Nat) (w : World) (h : Num w v xs) (hsm : val xs < 18446744073709551616) :
    Calls Try.prog 40 #[v] w fun e w' => e = .returned (.tuple #[.int .u64 (val xs : Nat), .bool true]) ∧ w' = w := by
  obtain ⟨ao, cap, hv⟩ : ∃ ao cap, v = .slice ao xs.length cap := by obtain ⟨_, ao, cap, hv, _⟩ := h; exact ⟨ao, cap, hv⟩
  subst hv
  have hl2 : (lim (val xs)).length ≤ 2 := lim_len_le hsm
  have hg := getD_lim_two (val xs) hsm
  go_enter Try.func40, Try.ntmps40
  go_wp2_with fail
  refine (trim_any _ _ _ h).mono ?_
  rintro e w' ⟨⟨k, hk, hk2, rfl⟩, rfl⟩
  have h2 := h.cut hk
  rw [hk2] at h2
  simp only [cutTo] at h2 ⊢
  have hkl : k ≤ 2 := by rw [← hk2, List.length_take, Nat.min_eq_left hk] at hl2; exact hl2
  have hkk : ¬ (2 : Int) < (k : Int) := by omega
  generalize hV : val xs = V at *
  have HV : Hid (val xs = V) := hV
  have Hg1 : Hid ((lim V).getD 0 0 = V % 4294967296) := hg.1
  have Hg2 : Hid ((lim V).getD 1 0 = V / 4294967296) := hg.2
  clear hV h hk2 hl2 hg
  go_wp2_with fail
  refine (limb_any _ _ _ _ h2 (by decide)).mono ?_
  rintro e w' ⟨rfl, rfl⟩
  rw [show (Int.toNat 0) = 0 from rfl, Hg1.out]
  go_wp2_with fail
  refine (limb_any _ _ _ _ h2 (by decide)).mono ?_
  rintro e w' ⟨rfl, rfl⟩
  rw [show (Int.toNat 1) = 1 from rfl, Hg2.out]
  have HO : Hid (bits BinOp.or IntKind.u64 ((V : Int) % 4294967296) ((V : Int) / 4294967296 * 4294967296) = (V : Int)) := or_halves V hsm
  go_wp2
  go_ret2
  refine ⟨?_, rfl⟩
  rw [HO.out, HV.out]; rfl
theorem uint_no (v : Value) (xs : List Nat) (w : World) (h : Num w v xs) (hbig : 18446744073709551616 ≤ val xs) :
    Calls Try.prog 40 #[v] w fun e w' => e = .returned (.tuple #[.int .u64 0, .bool false]) ∧ w' = w := by
  obtain ⟨ao, cap, hv⟩ : ∃ ao cap, v = .slice ao xs.length cap := by obtain ⟨_, ao, cap, hv, _⟩ := h; exact ⟨ao, cap, hv⟩
  subst hv
  have hl2 : 2 < (lim (val xs)).length := by
    rcases Nat.lt_or_ge 2 (lim (val xs)).length with h | h
    · exact h
    · have := lim_lt_of_len h
      omega
  go_enter Try.func40, Try.ntmps40
  go_wp2_with fail
  refine (trim_any _ _ _ h).mono ?_
  rintro e w' ⟨⟨k, hk, hk2, rfl⟩, rfl⟩
  simp only [cutTo]
  have hkl : 2 < k := by rw [← hk2, List.length_take, Nat.min_eq_left hk] at hl2; exact hl2
  have hkk : (2 : Int) < (k : Int) := by omega
  clear hk2 hl2 hbig h
  go_wp2
  go_ret2
  exact ⟨rfl, rfl⟩
end Go.Proofs.Ytnlajeinegampaa

namespace Go.Proofs.Ytnlajeinegampaa
open Go.RowKit

def uintN (n : Nat) : Nat := if n < 18446744073709551616 then n else 0
def uintB (n : Nat) : Bool := decide (n < 18446744073709551616)
def leB (a b : Nat) : Bool := decide (a ≤ b)

theorem uint_all (v : Value) (xs : List Nat) (w : World) (h : Num w v xs) :
    Calls Try.prog 40 #[v] w fun e w' => e = .returned (.tuple #[.int .u64 (uintN (val xs) : Nat), .bool (uintB (val xs))]) ∧ w' = w := by
  by_cases hs : val xs < 18446744073709551616
  · rw [show uintN (val xs) = val xs by simp [uintN, hs], show uintB (val xs) = true by simp [uintB, hs]]
    exact uint_yes v xs w h hs
  · rw [show uintN (val xs) = 0 by simp [uintN, hs], show uintB (val xs) = false by simp [uintB]; omega]
    exact uint_no v xs w h (by omega)
/-- What Sub leaves, either way. -/
def SubTold (B : Nat) (w : World) (a b : Nat) (en : Ending) (w' : World) : Prop := ∃ v, en = .returned (.tuple #[v, .bool (leB b a)]) ∧ Own B 40 w' v (lim (a - b)) ∧ Below B w w'
theorem sub_all (u v : Value) (xs ys : List Nat) (w : World) (hu : Num w u xs) (hv : Num w v ys) (hbx : xs.length ≤ 1099511627776) (hby : ys.length ≤ 1099511627776) :
    Calls Try.prog 115 #[u, v] w fun e w' => SubTold w.heap.size w (val xs) (val ys) e w' := by
  unfold SubTold
  by_cases hs : val ys ≤ val xs
  · rw [show leB (val ys) (val xs) = true by simp [leB, hs]]
    exact sub_yes u v xs ys w hu hv hbx hby hs
  · rw [show leB (val ys) (val xs) = false by simp [leB, hs], show val xs - val ys = 0 by omega]
    refine (sub_no u v xs ys w hu hv (by omega)).mono ?_
    rintro e w' ⟨rfl, q, rfl⟩
    exact ⟨_, rfl, Own.of_nil _ _ _, below_drewN (Below.refl _ _) q⟩
end Go.Proofs.Ytnlajeinegampaa

namespace Go.Proofs.Ytnlajeinegampaa
open Go.RowKit

theorem sub_ref (u v : Value) (xs ys : List Nat) (w : World) (hu : Num w u xs) (hv : Num w v ys) (hbx : xs.length ≤ 1099511627776) (hby : ys.length ≤ 1099511627776) :
    Calls Try.prog 35 #[u, v] w fun e w' => SubTold w.heap.size w (val xs) (val ys) e w' := by
  unfold SubTold
  by_cases hs : val ys ≤ val xs
  · rw [show leB (val ys) (val xs) = true by simp [leB, hs]]
    exact sub_ref_yes u v xs ys w hu hv hbx hby hs
  · rw [show leB (val ys) (val xs) = false by simp [leB, hs], show val xs - val ys = 0 by omega]
    refine (sub_ref_no u v xs ys w hu hv hbx hby (by omega)).mono ?_
    rintro e w' ⟨rfl, rfl⟩
    exact ⟨_, rfl, Own.of_nil _ _ _, Below.refl _ _⟩
end Go.Proofs.Ytnlajeinegampaa

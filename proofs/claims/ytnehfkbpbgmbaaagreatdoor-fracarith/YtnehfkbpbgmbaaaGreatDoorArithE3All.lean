/-
  Proved here: credenceref03's SameList of two rows of fractions that stand alike: it answers true.
  Proved here: the answers of Div and of the others, error or not, in one shape for package frac and for the document's layer 3.
  Proved here: the answers of package frac and of the document's layer 3 over fractions of at most 40 limbs, in one shape.
-/
import Derived.Test.YtnehfkbpbgmbaaaGreatDoorR3All
import Derived.Test.YtnehfkbpbgmbaaaGreatDoorSub3All
import Derived.Test.YtnehfkbpbgmbaaaGreatDoorLate
import Derived.Test.YtnehfkbpbgmbaaaGreatDoorFloor3
import Derived.Test.YtnehfkbpbgmbaaaGreatDoorAllAll
namespace Go.Proofs.YtnehfkbpbgmbaaaGreatDoor
open Go.RowKit

/-- Number i of two rows of fractions stands alike. -/
def SameAt (w' : World) (la lb i : Nat) : Prop := ∃ na ao bo aO bO al ac bc aL aC bC xs ys, (w'.cell? ⟨la, i * 3, none⟩ = some (.bool na) ∧ w'.cell? ⟨la, i * 3 + 1, none⟩ = some (.slice ao al ac) ∧ w'.cell? ⟨la, i * 3 + 2, none⟩ = some (.slice aO aL aC)) ∧ (w'.cell? ⟨lb, i * 3, none⟩ = some (.bool na) ∧ w'.cell? ⟨lb, i * 3 + 1, none⟩ = some (.slice bo al bc) ∧ w'.cell? ⟨lb, i * 3 + 2, none⟩ = some (.slice bO aL bC)) ∧ Num w' (.slice ao al ac) xs ∧ Num w' (.slice bo al bc) xs ∧ Num w' (.slice aO aL aC) ys ∧ Num w' (.slice bO aL bC) ys
theorem SameAt.below {w w' : World} {la lb i : Nat} (h : SameAt w la lb i) (hb : Below w.heap.size w w') : SameAt w' la lb i := by
  obtain ⟨na, ao, bo, aO, bO, al, ac, bc, aL, aC, bC, xs, ys, ⟨c0, c1, c2⟩, ⟨d0, d1, d2⟩, h1, h2, h3, h4⟩ := h
  exact ⟨na, ao, bo, aO, bO, al, ac, bc, aL, aC, bC, xs, ys, ⟨keepB hb c0, keepB hb c1, keepB hb c2⟩, ⟨keepB hb d0, keepB hb d1, keepB hb d2⟩, h1.below (Nat.le_refl _) hb, h2.below (Nat.le_refl _) hb, h3.below (Nat.le_refl _) hb, h4.below (Nat.le_refl _) hb⟩
set_option maxRecDepth 100000 in
set_option maxHeartbeats 6400000 in
theorem sameList3 (la lb ca cb n : Nat) (w : World) (hn : n ≤ 100) (hs : ∀ i, i < n → SameAt w la lb i) :
    Calls Tryz.prog 23 #[.slice (some ⟨la, 0, none⟩) n ca, .slice (some ⟨lb, 0, none⟩) n cb] w fun e w' => e = .returned (.bool true) ∧ Below w.heap.size w w' := by
  go_enter Tryz.func23, Tryz.ntmps23
  go_wp2_with fail
  go_loopw [5] (fun t wr => ∃ i : Nat, i ≤ n ∧ t = .int .i64 i ∧ Below w.heap.size w wr) (fun t _ => n - (intOf t).toNat)
  case atStart => exact ⟨0, Nat.zero_le _, rfl, Below.refl _ _⟩
  case round =>
    obtain ⟨i, hin, rfl, hbel⟩ := hrel
    by_cases hlt : i < n
    · have hge : (i : Int) < (n : Int) := by omega
      obtain ⟨na, ao, bo, aO, bO, al, ac, bc, aL, aC, bC, xs, ys, ha, hb, h1, h2, h3, h4⟩ := ((hs i hlt).below hbel).below (below_drew' wr)
      have HL : Hid (Below w.heap.size w wr) := hbel
      clear hs hbel
      go_wp2_with fail
      refine region_late [(3, fun w' => w'.cell? ⟨la, i * 3, none⟩ = some (.bool na) ∧ w'.cell? ⟨la, i * 3 + 1, none⟩ = some (.slice ao al ac) ∧ w'.cell? ⟨la, i * 3 + 2, none⟩ = some (.slice aO aL aC)), (7, fun w' => w'.cell? ⟨lb, i * 3, none⟩ = some (.bool na) ∧ w'.cell? ⟨lb, i * 3 + 1, none⟩ = some (.slice bo al bc) ∧ w'.cell? ⟨lb, i * 3 + 2, none⟩ = some (.slice bO aL bC))] (by kernel_rfl) ?_
      have hHeld : AllL wr.drew [(3, fun w' => w'.cell? ⟨la, i * 3, none⟩ = some (.bool na) ∧ w'.cell? ⟨la, i * 3 + 1, none⟩ = some (.slice ao al ac) ∧ w'.cell? ⟨la, i * 3 + 2, none⟩ = some (.slice aO aL aC)), (7, fun w' => w'.cell? ⟨lb, i * 3, none⟩ = some (.bool na) ∧ w'.cell? ⟨lb, i * 3 + 1, none⟩ = some (.slice bo al bc) ∧ w'.cell? ⟨lb, i * 3 + 2, none⟩ = some (.slice bO aL bC))] := ⟨ha, hb, trivial⟩
      refine late_fr 0 (v := .slice (some ⟨la, 0, none⟩) n ca) rfl (Or.inl ⟨by rfl, ?_⟩) hHeld ?_
      · (intro u _; go_simp)
      (try simp only [Act.put, putA, putB, putC])
      refine late_fr 1 (v := .int .i64 (i : Int)) rfl (Or.inl ⟨by rfl, ?_⟩) hHeld ?_
      · (intro u _; go_simp)
      (try simp only [Act.put, putA, putB, putC])
      refine late_fr 4 (v := .slice (some ⟨lb, 0, none⟩) n cb) rfl (Or.inl ⟨by rfl, ?_⟩) hHeld ?_
      · (intro u _; go_simp)
      (try simp only [Act.put, putA, putB, putC])
      refine late_fr 5 (v := .int .i64 (i : Int)) rfl (Or.inl ⟨by rfl, ?_⟩) hHeld ?_
      · (intro u _; go_simp)
      (try simp only [Act.put, putA, putB, putC])
      refine late_fr 2 (v := .pointer (some ⟨la, i * 3, none⟩)) rfl (Or.inl ⟨by rfl, ?_⟩) hHeld ?_
      · (intro u _; go_simp)
      (try simp only [Act.put, putA, putB, putC])
      refine late_fr 6 (v := .pointer (some ⟨lb, i * 3, none⟩)) rfl (Or.inl ⟨by rfl, ?_⟩) hHeld ?_
      · (intro u _; go_simp)
      (try simp only [Act.put, putA, putB, putC])
      refine late_tk 3 (v := .agg #[.bool na, .slice ao al ac, .slice aO aL aC]) rfl (List.Mem.head _) (Or.inl ⟨by rfl, ?_⟩) hHeld ?_
      · (intro u hu; (try dsimp only at hu); go_split_ands; go_simp)
      (try simp only [Act.put, putA, putB, putC])
      refine late_tk 7 (v := .agg #[.bool na, .slice bo al bc, .slice bO aL bC]) rfl (List.Mem.tail _ (List.Mem.head _)) (Or.inl ⟨by rfl, ?_⟩) hHeld ?_
      · (intro u hu; (try dsimp only at hu); go_split_ands; go_simp)
      (try simp only [Act.put, putA, putB, putC])
      refine late_st 8 rfl (fun K hK => ?_)
      go_simp
      refine (same3 na ao bo aO bO al ac bc aL aC bC xs ys _ h1 h2 h3 h4).mono ?_
      rintro e w2 ⟨rfl, b2⟩
      go_wp2_with fail
      refine hK.out _ _ ⟨kpt 8, kpt 8, trivial⟩ ?_
      clear hK K
      (try simp only [Act.put, putA, putB, putC])
      refine late_st 9 rfl (fun K hK => ?_)
      go_simp
      refine hK.out _ _ ⟨kpt 8, kpt 8, trivial⟩ ?_
      clear hK K
      (try simp only [Act.put, putA, putB, putC])
      refine late_done (by kernel_rfl) ?_ _
      clear hHeld
      have HB : Hid (Below w.heap.size w w2) := bstep HL.out (bstep (below_drew' _) b2)
      clear ha hb h1 h2 h3 h4 b2 HL
      go_wp2
      go_roundw
      case rel => exact ⟨i + 1, by omega, by go_num, HB.out⟩
      case measure => simp [intOf]; omega
    · have hge : ¬ (i : Int) < (n : Int) := by omega
      have HL : Hid (Below w.heap.size w wr) := hbel
      clear hs hbel hlt
      go_wp2
      go_ret
      exact ⟨rfl, HL.out⟩
end Go.Proofs.YtnehfkbpbgmbaaaGreatDoor

namespace Go.Proofs.YtnehfkbpbgmbaaaGreatDoor
open Go.RowKit

/-- The number below of a quotient; 0 where by 0 is divided. -/
def dQ (x y : Rat) : Int := if y = 0 then 0 else ((x / y).den : Int)
theorem dQ_te {w : World} {x y : Rat} {e : Ending} {w' : World} (hy : y ≠ 0) (h : RTEnd w (x / y) e w') : TE w (x / y).num (dQ x y) e w' := by
  have e1 : dQ x y = ((x / y).den : Int) := by unfold dQ; rw [if_neg hy]
  rw [e1]
  refine te_yes (by have := (x / y).den_nz; omega) ?_
  rw [show Rat.divInt (x / y).num ((x / y).den : Int) = x / y from Rat.num_divInt_den _]
  exact h
theorem divF {a b : Value} {x y : Rat} {L M : Nat} {w : World} (ha : RNum w a x L) (hb' : RNum w b y M) (hK : L + M + 1 ≤ 1000000) : Calls Tryz.prog 10 #[a, b] w fun e w' => TE w (x / y).num (dQ x y) e w' := by
  by_cases hy : y = 0
  · exact (c_rdiv_no ha hb' hK hy).mono fun _ _ h => te_no (by unfold dQ; rw [if_pos hy]) h
  · exact (c_rdiv_yes ha hb' hK hy).mono fun _ _ h => dQ_te hy h
theorem divR {p r : Int} {q k L M : Nat} (na : Bool) (ao aO : Option Addr) (al ac aL aC : Nat) (nb : Bool) (bo bO : Option Addr) (bl bc bL bC : Nat) {w : World} (ia : IB w (.agg #[.bool na, .slice ao al ac]) p L) (da : NB w (.slice aO aL aC) (q : Int) L) (h1L : 1 ≤ L) (ib : IB w (.agg #[.bool nb, .slice bo bl bc]) r M) (db : NB w (.slice bO bL bC) (k : Int) M) (h1M : 1 ≤ M) (hL : L + M ≤ 140) : Calls Tryz.prog 11 #[.agg #[.bool na, .slice ao al ac, .slice aO aL aC], .agg #[.bool nb, .slice bo bl bc, .slice bO bL bC]] w fun e w' => TE w (rq p q / rq r k).num (dQ (rq p q) (rq r k)) e w' := by
  by_cases hy : r = 0
  · exact (div3_no (k := k) na ao aO al ac aL aC nb bo bO bl bc bL bC ib (by omega) hy).mono fun _ _ h => te_no (by unfold dQ; rw [if_pos (by rw [hy, rq_of_zero])]) h
  · exact (div3_yes na ao aO al ac aL aC nb bo bO bl bc bL bC ia da h1L ib db h1M hL hy).mono fun _ _ h => dQ_te (rq_zero hy) h
/-- An answered fraction, by its sign and its limbs. -/
def AE (w : World) (s : Bool) (xm xd : List Nat) (e : Ending) (w' : World) : Prop :=
  ∃ mo mc dO dC, e = .returned (.agg #[.bool s, .slice mo xm.length mc, .slice dO xd.length dC]) ∧ Own w.heap.size 67 w' (.slice mo xm.length mc) xm ∧ Own w.heap.size 67 w' (.slice dO xd.length dC) xd ∧
    ((Value.slice mo xm.length mc).ownBlock = none ∨ (Value.slice mo xm.length mc).ownBlock ≠ (Value.slice dO xd.length dC).ownBlock) ∧ Below w.heap.size w w'
theorem REnd.ae {w w' : World} {x : Rat} {e : Ending} (h : REnd w x e w') : AE w (decide (x.num < 0)) (lim x.num.natAbs) (lim x.den) e w' := by
  obtain ⟨v, rfl, ⟨m, d, rfl, h1, h2, h3⟩, hb⟩ := h
  obtain ⟨mo, ml, mc, rfl⟩ := h1.sl
  obtain ⟨dO, dL, dC, rfl⟩ := h2.sl
  have e1 := (num_len h1.num).1
  have e2 := (num_len h2.num).1
  subst e1
  subst e2
  exact ⟨mo, mc, dO, dC, rfl, h1, h2, h3, hb⟩
/-- An answered whole number likewise. -/
def WE (w : World) (s : Bool) (xm : List Nat) (e : Ending) (w' : World) : Prop :=
  ∃ mo mc, e = .returned (.agg #[.bool s, .slice mo xm.length mc]) ∧ Own w.heap.size 67 w' (.slice mo xm.length mc) xm ∧ Below w.heap.size w w'
theorem IEnd.we {w w' : World} {z : Int} {e : Ending} (h : IEnd w z e w') : WE w (decide (z < 0)) (lim z.natAbs) e w' := by
  obtain ⟨v, rfl, ⟨m, rfl, h1⟩, hb⟩ := h
  obtain ⟨mo, ml, mc, rfl⟩ := h1.sl
  have e1 := (num_len h1.num).1
  subst e1
  exact ⟨mo, mc, rfl, h1, hb⟩
end Go.Proofs.YtnehfkbpbgmbaaaGreatDoor

namespace Go.Proofs.YtnehfkbpbgmbaaaGreatDoor
open Go.RowKit

/-- A fraction that can be read, of at most 40 limbs. -/
def RV (w : World) (v : Value) (p : Int) (q : Nat) : Prop := ∃ n ao al ac bo bl bc, v = .agg #[.bool n, .slice ao al ac, .slice bo bl bc] ∧ IB w (.agg #[.bool n, .slice ao al ac]) p 40 ∧ NB w (.slice bo bl bc) (q : Int) 40
theorem RV.below {w w' : World} {v : Value} {p : Int} {q : Nat} (h : RV w v p q) (hb : Below w.heap.size w w') : RV w' v p q := by
  obtain ⟨n, ao, al, ac, bo, bl, bc, e, h1, h2⟩ := h
  exact ⟨n, ao, al, ac, bo, bl, bc, e, h1.below hb, h2.below hb⟩
theorem RV.of {w : World} {n : Bool} {ao bo : Option Addr} {al ac bl bc : Nat} {xs ys : List Nat} (h1 : Num w (.slice ao al ac) xs) (h2 : Num w (.slice bo bl bc) ys) (l1 : xs.length ≤ 40) (l2 : ys.length ≤ 40) : RV w (.agg #[.bool n, .slice ao al ac, .slice bo bl bc]) (zv n (val xs)) (val ys) :=
  ⟨n, ao, al, ac, bo, bl, bc, rfl, ⟨_, _, _, _, _, rfl, h1, l1, rfl⟩, ⟨_, _, _, _, rfl, h2, l2, rfl⟩⟩
theorem RV.rn {w : World} {v : Value} {p : Int} {q : Nat} (h : RV w v p q) : RNum w v (rq p q) 40 := by
  obtain ⟨n, ao, al, ac, bo, bl, bc, rfl, h1, h2⟩ := h
  exact rnum_of h1 h2 (by decide) (by decide)
theorem RV.sz {w : World} {v : Value} {p : Int} {q : Nat} (h : RV w v p q) : Sz p 40 ∧ Sz (und q) 40 := by
  obtain ⟨n, ao, al, ac, bo, bl, bc, rfl, h1, h2⟩ := h
  exact ⟨h1.sz, und_sz h2.sz (by decide)⟩
/-- A fraction as it is answered. -/
def AR (w : World) (x : Rat) (e : Ending) (w' : World) : Prop := AE w (decide (x.num < 0)) (lim x.num.natAbs) (lim x.den) e w'
def Ln (x : Rat) : Prop := (lim x.num.natAbs).length ≤ 81 ∧ (lim x.den).length ≤ 81
theorem RSz.ln {x : Rat} {L : Nat} (h : RSz x L) (hL : L ≤ 81) : Ln x := ⟨Nat.le_trans h.num.len hL, Nat.le_trans h.den.len hL⟩
theorem aNegF {w : World} {v : Value} {p : Int} {q : Nat} (h : RV w v p q) : Calls Tryz.prog 12 #[v] w fun e w' => AR w (-rq p q) e w' := by
  exact (c_rneg h.rn (by decide)).mono fun _ _ h => h.ae
theorem aNegR {w : World} {v : Value} {p : Int} {q : Nat} (h : RV w v p q) : Calls Tryz.prog 16 #[v] w fun e w' => AR w (-rq p q) e w' := by
  obtain ⟨n, ao, al, ac, bo, bl, bc, rfl, h1, h2⟩ := h
  exact (neg3 n ao bo al ac bl bc h1 h2 (by decide) (by decide)).mono fun _ _ h => h.ae
theorem aAddF {w : World} {v u : Value} {p r : Int} {q k : Nat} (h : RV w v p q) (h' : RV w u r k) : Calls Tryz.prog 13 #[v, u] w fun e w' => AR w (rq p q + rq r k) e w' := by
  exact (c_radd h.rn h'.rn (by decide)).mono fun _ _ h => h.ae
theorem aAddR {w : World} {v u : Value} {p r : Int} {q k : Nat} (h : RV w v p q) (h' : RV w u r k) : Calls Tryz.prog 17 #[v, u] w fun e w' => AR w (rq p q + rq r k) e w' := by
  obtain ⟨n, ao, al, ac, bo, bl, bc, rfl, h1, h2⟩ := h
  obtain ⟨n', ao', al', ac', bo', bl', bc', rfl, h1', h2'⟩ := h'
  exact (add3 n ao bo al ac bl bc n' ao' bo' al' ac' bl' bc' h1 h2 (by decide) h1' h2' (by decide) (by decide)).mono fun _ _ h => h.ae
theorem aSubF {w : World} {v u : Value} {p r : Int} {q k : Nat} (h : RV w v p q) (h' : RV w u r k) : Calls Tryz.prog 14 #[v, u] w fun e w' => AR w (rq p q - rq r k) e w' := by
  exact (c_rsub h.rn h'.rn (by decide)).mono fun _ _ h => h.ae
theorem aSubR {w : World} {v u : Value} {p r : Int} {q k : Nat} (h : RV w v p q) (h' : RV w u r k) : Calls Tryz.prog 18 #[v, u] w fun e w' => AR w (rq p q - rq r k) e w' := by
  obtain ⟨n, ao, al, ac, bo, bl, bc, rfl, h1, h2⟩ := h
  obtain ⟨n', ao', al', ac', bo', bl', bc', rfl, h1', h2'⟩ := h'
  exact (sub3 n ao bo al ac bl bc n' ao' bo' al' ac' bl' bc' h1 h2 (by decide) h1' h2' (by decide) (by decide)).mono fun _ _ h => h.ae
theorem aMulF {w : World} {v u : Value} {p r : Int} {q k : Nat} (h : RV w v p q) (h' : RV w u r k) : Calls Tryz.prog 15 #[v, u] w fun e w' => AR w (rq p q * rq r k) e w' := by
  exact (c_rmul h.rn h'.rn (by decide)).mono fun _ _ h => h.ae
theorem aMulR {w : World} {v u : Value} {p r : Int} {q k : Nat} (h : RV w v p q) (h' : RV w u r k) : Calls Tryz.prog 19 #[v, u] w fun e w' => AR w (rq p q * rq r k) e w' := by
  obtain ⟨n, ao, al, ac, bo, bl, bc, rfl, h1, h2⟩ := h
  obtain ⟨n', ao', al', ac', bo', bl', bc', rfl, h1', h2'⟩ := h'
  exact (mul3 n ao bo al ac bl bc n' ao' bo' al' ac' bl' bc' h1 h2 (by decide) h1' h2' (by decide) (by decide)).mono fun _ _ h => h.ae
theorem aDivF {w : World} {v u : Value} {p r : Int} {q k : Nat} (h : RV w v p q) (h' : RV w u r k) : Calls Tryz.prog 10 #[v, u] w fun e w' => TE w (rq p q / rq r k).num (dQ (rq p q) (rq r k)) e w' := by
  exact divF h.rn h'.rn (by decide)
theorem aDivR {w : World} {v u : Value} {p r : Int} {q k : Nat} (h : RV w v p q) (h' : RV w u r k) : Calls Tryz.prog 11 #[v, u] w fun e w' => TE w (rq p q / rq r k).num (dQ (rq p q) (rq r k)) e w' := by
  obtain ⟨n, ao, al, ac, bo, bl, bc, rfl, h1, h2⟩ := h
  obtain ⟨n', ao', al', ac', bo', bl', bc', rfl, h1', h2'⟩ := h'
  exact divR n ao bo al ac bl bc n' ao' bo' al' ac' bl' bc' h1 h2 (by decide) h1' h2' (by decide) (by decide)
theorem aNormF {w : World} {v : Value} {p : Int} {q : Nat} (h : RV w v p q) : Calls Tryz.prog 8 #[v] w fun e w' => TE w p q e w' := by
  obtain ⟨n, ao, al, ac, bo, bl, bc, rfl, h1, h2⟩ := h
  exact normF n ao bo al ac bl bc h1 h2 (by decide)
theorem aNormR {w : World} {v : Value} {p : Int} {q : Nat} (h : RV w v p q) : Calls Tryz.prog 9 #[v] w fun e w' => TE w p q e w' := by
  obtain ⟨n, ao, al, ac, bo, bl, bc, rfl, h1, h2⟩ := h
  exact normR n ao bo al ac bl bc h1 h2 (by decide) (by decide)
theorem aFloorF {w : World} {v : Value} {p : Int} {q : Nat} (h : RV w v p q) : Calls Tryz.prog 20 #[v] w fun e w' => WE w (decide (fq p (und q) < 0)) (lim (fq p (und q)).natAbs) e w' := by
  obtain ⟨n, ao, al, ac, bo, bl, bc, rfl, h1, h2⟩ := h
  exact (floorF n ao bo al ac bl bc h1 h2 (by decide)).mono fun _ _ h => h.we
theorem aFloorR {w : World} {v : Value} {p : Int} {q : Nat} (h : RV w v p q) : Calls Tryz.prog 22 #[v] w fun e w' => WE w (decide (fq p (und q) < 0)) (lim (fq p (und q)).natAbs) e w' := by
  obtain ⟨n, ao, al, ac, bo, bl, bc, rfl, h1, h2⟩ := h
  exact (floor3 n ao bo al ac bl bc h1 h2 (by decide) (by decide)).mono fun _ _ h => h.we
theorem aCmpF {w : World} {v u : Value} {p r : Int} {q k : Nat} (h : RV w v p q) (h' : RV w u r k) : Calls Tryz.prog 24 #[v, u] w fun e w' => e = .returned (.int .i64 (cmpQ (rq p q) (rq r k))) ∧ Below w.heap.size w w' := by
  exact c_rcmp h.rn h'.rn (by decide)
theorem aCmpR {w : World} {v u : Value} {p r : Int} {q k : Nat} (h : RV w v p q) (h' : RV w u r k) : Calls Tryz.prog 25 #[v, u] w fun e w' => e = .returned (.int .i64 (cmpQ (rq p q) (rq r k))) ∧ Below w.heap.size w w' := by
  obtain ⟨n, ao, al, ac, bo, bl, bc, rfl, h1, h2⟩ := h
  obtain ⟨n', ao', al', ac', bo', bl', bc', rfl, h1', h2'⟩ := h'
  exact cmp3 n ao bo al ac bl bc n' ao' bo' al' ac' bl' bc' h1 h2 (by decide) h1' h2' (by decide) (by decide)
theorem aSignF {w : World} {v : Value} {p : Int} {q : Nat} (h : RV w v p q) : Calls Tryz.prog 26 #[v] w fun e w' => e = .returned (.int .i64 (sgnQ (rq p q))) ∧ Below w.heap.size w w' := by
  exact c_rsign h.rn
theorem aSignR {w : World} {v : Value} {p : Int} {q : Nat} (h : RV w v p q) : Calls Tryz.prog 27 #[v] w fun e w' => e = .returned (.int .i64 (sgnQ (rq p q))) ∧ Below w.heap.size w w' := by
  obtain ⟨n, ao, al, ac, bo, bl, bc, rfl, h1, h2⟩ := h
  exact sign3 n ao bo al ac bl bc h1 (by decide)
theorem ln_neg {w : World} {v : Value} {p : Int} {q : Nat} (h : RV w v p q) : Ln (-rq p q) := (rsz_neg h.sz.1 h.sz.2).ln (by decide)
theorem ln_add {w : World} {v u : Value} {p r : Int} {q k : Nat} (h : RV w v p q) (h' : RV w u r k) : Ln (rq p q + rq r k) := (rsz_add h.sz.1 h.sz.2 h'.sz.1 h'.sz.2).ln (by decide)
theorem ln_sub {w : World} {v u : Value} {p r : Int} {q k : Nat} (h : RV w v p q) (h' : RV w u r k) : Ln (rq p q - rq r k) := (rsz_sub h.sz.1 h.sz.2 h'.sz.1 h'.sz.2).ln (by decide)
theorem ln_mul {w : World} {v u : Value} {p r : Int} {q k : Nat} (h : RV w v p q) (h' : RV w u r k) : Ln (rq p q * rq r k) := (rsz_mul h.sz.1 h.sz.2 h'.sz.1 h'.sz.2).ln (by decide)
theorem ln_div {w : World} {v u : Value} {p r : Int} {q k : Nat} (h : RV w v p q) (h' : RV w u r k) : (nM (rq p q / rq r k).num (dQ (rq p q) (rq r k))).length ≤ 81 ∧ (nD (rq p q / rq r k).num (dQ (rq p q) (rq r k))).length ≤ 81 := by
  by_cases hr : rq r k = 0
  · have e : dQ (rq p q) (rq r k) = 0 := by unfold dQ; rw [if_pos hr]
    unfold nM nD
    rw [e, if_pos rfl, if_pos rfl]
    exact ⟨by decide, by decide⟩
  · have e : dQ (rq p q) (rq r k) = ((rq p q / rq r k).den : Int) := by unfold dQ; rw [if_neg hr]
    have hn : ((rq p q / rq r k).den : Int) ≠ 0 := by have := (rq p q / rq r k).den_nz; omega
    have hr0 : r ≠ 0 := fun e => hr (by rw [e, rq_of_zero])
    unfold nM nD
    rw [e, if_neg hn, if_neg hn, show Rat.divInt (rq p q / rq r k).num ((rq p q / rq r k).den : Int) = rq p q / rq r k from Rat.num_divInt_den _]
    exact (rsz_div hr0 h.sz.1 h.sz.2 h'.sz.1 h'.sz.2).ln (by decide)
theorem ln_norm {w : World} {v : Value} {p : Int} {q : Nat} (h : RV w v p q) : (nM p q).length ≤ 81 ∧ (nD p q).length ≤ 81 := by
  by_cases hq : (q : Int) = 0
  · unfold nM nD
    rw [if_pos hq, if_pos hq]
    exact ⟨by decide, by decide⟩
  · have e : und q = (q : Int) := by unfold und; rw [if_neg (by omega)]
    unfold nM nD
    rw [if_neg hq, if_neg hq]
    have h2 := h.sz.2
    rw [e] at h2
    exact (RSz.of hq h.sz.1 h2).ln (by decide)
theorem fq_le (x y : Int) : (fq x y).natAbs ≤ x.natAbs + 1 := by
  unfold fq
  have h := tdiv_le x y
  split <;> omega
theorem ln_floor {w : World} {v : Value} {p : Int} {q : Nat} (h : RV w v p q) : (lim (fq p (und q)).natAbs).length ≤ 81 := by
  have h1 := h.sz.1.lt
  have h2 := fq_le p (und q)
  refine Nat.le_trans (lim_len_le (k := 41) ?_) (by decide)
  have h3 : (4294967296 : Nat) ^ 41 = 4294967296 ^ 40 * 4294967296 := Nat.pow_succ 4294967296 40
  rw [h3]
  generalize (4294967296 : Nat) ^ 40 = T at *
  omega
end Go.Proofs.YtnehfkbpbgmbaaaGreatDoor

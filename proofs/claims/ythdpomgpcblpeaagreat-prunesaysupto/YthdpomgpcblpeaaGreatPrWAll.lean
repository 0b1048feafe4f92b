/-
  Proved here: layer 16's law: roomy (numbers in memory of their own, with marked room behind) and still (they are as they were).
  Proved here: layer 16's law: twin (parents in memory of their own) and kept (they are as they were).
  Proved here: layer 16's law: has; points (points out of any numbers).
  Proved here: layer 16's law: mended (parents that may be, out of any: each point hangs on points ahead of it).
  Proved here: layer 16's law: mended parents may be; of such Apart and Reach told point by point, either way round.
  Proved here: the law's alive: the chapter's points have their order, what is above two of them, three in a ring have their way back.
  Proved here: the law's call and told: what the program and the document answer, as rows.
  Proved here: plain mathematics of layer 17's law: one new point put above one; Apart told by it; rows of one's own, pushed.
-/
import Derived.Test.YthdpomgpcblpeaaGreatSpLAll
import Derived.Test.YthdpomgpcblpeaaGreatDagVAll
import Derived.Test.YthdpomgpcblpeaaGreatSpKAll
import Derived.Test.YthdpomgpcblpeaaGreatDagCyOAll
import Derived.Test.YthdpomgpcblpeaaGreatPrC
namespace Go.Proofs.YthdpomgpcblpeaaGreat
set_option linter.unusedVariables false
open Go.RowKit
/-- The marks behind a list. -/
def mk16 : List Int := [-77, -77, -77, -77]
/-- A list with its first marks. -/
def rmL (L : List Int) (i : Nat) : List Int := L ++ List.replicate i (-77)
theorem rmL_zero (L : List Int) : rmL L 0 = L := by simp [rmL]
theorem rmL_succ (L : List Int) (i : Nat) : rmL L (i + 1) = rmL L i ++ [-77] := by unfold rmL; rw [List.append_assoc, ← List.replicate_succ']
theorem rmL_len (L : List Int) (i : Nat) : (rmL L i).length = L.length + i := by simp [rmL]
theorem rmL_four (L : List Int) : rmL L 4 = L ++ mk16 := rfl
/-- A list of the call's own with four marks behind it. -/
def RmB (B : Nat) (w : World) (u : Value) (L : List Int) : Prop := ∃ g cap, u = .slice (some ⟨g, 0, none⟩) L.length cap ∧ OG (Value.int .i64) B 3 w (.slice (some ⟨g, 0, none⟩) (L.length + 4) cap) (L ++ mk16)
theorem RmB.below {B : Nat} {w w' : World} {u : Value} {L : List Int} (h : RmB B w u L) (hb : Below w.heap.size w w') : RmB B w' u L := by
  obtain ⟨g, cap, h1, h2⟩ := h
  exact ⟨g, cap, h1, h2.below hb⟩
theorem RmB.mono {B B' : Nat} {w : World} {u : Value} {L : List Int} (h : RmB B w u L) (hB : B' ≤ B) : RmB B' w u L := by
  obtain ⟨g, cap, h1, h2⟩ := h
  exact ⟨g, cap, h1, h2.mono hB⟩
theorem RmB.of_blocks {B : Nat} {w w' : World} {u : Value} {L : List Int} (h : RmB B w u L) (hb : ∀ q, B ≤ q → q < w.heap.size → u.ownBlock = some q → w'.heap[q]? = w.heap[q]?) : RmB B w' u L := by
  obtain ⟨g, cap, h1, h2⟩ := h
  exact ⟨g, cap, h1, h2.of_blocks fun q hq => hb q (h2.lt q hq).1 (h2.lt q hq).2 (by rw [h1]; exact hq)⟩
theorem RmB.lt {B : Nat} {w : World} {u : Value} {L : List Int} (h : RmB B w u L) : ∀ q, u.ownBlock = some q → B ≤ q ∧ q < w.heap.size := by
  obtain ⟨g, cap, rfl, h2⟩ := h
  exact fun q hq => h2.lt q hq
theorem RmB.rg {B : Nat} {w : World} {u : Value} {L : List Int} (h : RmB B w u L) : RG (Value.int .i64) w u L := by
  obtain ⟨g, cap, rfl, h2⟩ := h
  have h3 := h2.rg.cut (m := L.length) (by omega)
  rw [List.take_left] at h3
  exact h3
end Go.Proofs.YthdpomgpcblpeaaGreat

namespace Go.Proofs.YthdpomgpcblpeaaGreat
set_option linter.unusedVariables false
open Go.RowKit
/-- The first i of some parents, in memory of the call's own, each with marked room behind it. -/
structure TwI (B : Nat) (w w' : World) (P : List (List Int)) (i : Nat) (v : Value) (vs : List Value) : Prop where
  frm : Below B w w'
  row : OG id B 23 w' v vs
  len : vs.length = i
  inn : ∀ (j : Nat) (u : Value), vs[j]? = some u → RmB B w' u (P.getD j [])
theorem TwI.below {B : Nat} {w w1 w2 : World} {P : List (List Int)} {i : Nat} {v : Value} {vs : List Value} (h : TwI B w w1 P i v vs) (hB : B ≤ w1.heap.size) (hb : Below w1.heap.size w1 w2) : TwI B w w2 P i v vs :=
  ⟨h.frm.trans (hb.mono hB), h.row.below hb, h.len, fun j u hu => (h.inn j u hu).below hb⟩
theorem TwI.rrd {B : Nat} {w w' : World} {P : List (List Int)} {v : Value} {vs : List Value} (h : TwI B w w' P P.length v vs) : RRD w' v vs P :=
  ⟨h.row.rg, h.len, fun j u hu => (h.inn j u hu).rg⟩
theorem RmB.neO {B B' e' : Nat} {w : World} {u v : Value} {L : List Int} {M : List Value} (h : RmB B w u L) (h' : OG id B' e' w v M) (hne : 3 ≠ e') {q : Nat} (hq : u.ownBlock = some q) : v.ownBlock ≠ some q := by
  obtain ⟨g, cap, rfl, h2⟩ := h
  exact OG.neO h2 h' hne hq
theorem TwI.push {B : Nat} {w W W2 : World} {P : List (List Int)} {i : Nat} {v v' u : Value} {vs : List Value} (h : TwI B w W P i v vs) (hB : B ≤ W.heap.size) (hu : RmB B W u (P.getD i [])) (ho : OG id B 23 W2 v' (vs ++ [u])) (hg : W.grownBy W2 v.ownBlock) : TwI B w W2 P (i + 1) v' (vs ++ [u]) := by
  refine ⟨h.row.grown h.frm hB hg, ho, by rw [List.length_append, h.len]; rfl, fun j x hx => ?_⟩
  have hlen := h.len
  have stay : ∀ (x : Value) (L : List Int), RmB B W x L → RmB B W2 x L := fun x L hxx => hxx.of_blocks fun q _ h2 hq => hg.block q h2 (fun e => hxx.neO h.row (by decide) hq e.symm)
  by_cases e : j < vs.length
  · rw [List.getElem?_append_left e] at hx
    exact stay _ _ (h.inn j x hx)
  · have h1 := (List.getElem?_eq_some_iff.1 hx).1
    rw [List.length_append, List.length_singleton] at h1
    have e1 : j = vs.length := by omega
    subst e1
    rw [List.getElem?_append_right (Nat.le_refl _), Nat.sub_self] at hx
    have e2 : u = x := by simpa using hx
    subst e2
    rw [hlen]
    exact stay _ _ hu
end Go.Proofs.YthdpomgpcblpeaaGreat

namespace Go.Proofs.YthdpomgpcblpeaaGreat
set_option linter.unusedVariables false
open Go.RowKit
/-- Points, all of them. -/
def PtsI (n : Nat) (L : List Int) : Prop := ∀ x ∈ L, ∃ p : Nat, x = (p : Int) ∧ p < n
theorem PtsI.snoc {n : Nat} {L : List Int} (h : PtsI n L) {r : Int} (h0 : 0 ≤ r) (h1 : r < (n : Int)) : PtsI n (L ++ [r]) := fun x hx => by
  rcases List.mem_append.1 hx with h2 | h2
  · exact h x h2
  · have e : x = r := by simpa using h2
    subst e
    exact ⟨x.toNat, by omega, by omega⟩
end Go.Proofs.YthdpomgpcblpeaaGreat

namespace Go.Proofs.YthdpomgpcblpeaaGreat
set_option linter.unusedVariables false
open Go.RowKit
/-- A point's parents lie ahead of it, none twice. -/
def MnL (i : Nat) (M : List Int) : Prop := M.Nodup ∧ ∀ x ∈ M, ∃ p : Nat, x = (p : Int) ∧ p < i
theorem MnL.nil (i : Nat) : MnL i [] := ⟨List.nodup_nil, fun x hx => by simp at hx⟩
theorem MnL.snoc {i : Nat} {M : List Int} (h : MnL i M) {r : Int} (h0 : 0 ≤ r) (h1 : r < (i : Int)) (hn : r ∉ M) : MnL i (M ++ [r]) := by
  refine ⟨List.nodup_append.2 ⟨h.1, by simp, fun a ha b hb e => ?_⟩, fun x hx => ?_⟩
  · have e2 : b = r := by simpa using hb
    rw [e, e2] at ha
    exact hn ha
  · rcases List.mem_append.1 hx with h2 | h2
    · exact h.2 x h2
    · have e : x = r := by simpa using h2
      subst e
      exact ⟨x.toNat, by omega, by omega⟩
structure MnI (B : Nat) (w w' : World) (P : List (List Int)) (v : Value) (vs : List Value) : Prop where
  frm : Below B w w'
  row : OG id B 23 w' v vs
  len : vs.length = P.length
  inn : ∀ (j : Nat) (u : Value), vs[j]? = some u → OG (Value.int .i64) B 3 w' u (P.getD j [])
  mnd : ∀ j, MnL j (P.getD j [])
theorem MnI.below {B : Nat} {w w1 w2 : World} {P : List (List Int)} {v : Value} {vs : List Value} (h : MnI B w w1 P v vs) (hB : B ≤ w1.heap.size) (hb : Below w1.heap.size w1 w2) : MnI B w w2 P v vs :=
  ⟨h.frm.trans (hb.mono hB), h.row.below hb, h.len, fun j u hu => (h.inn j u hu).below hb, h.mnd⟩
theorem MnI.rrd {B : Nat} {w w' : World} {P : List (List Int)} {v : Value} {vs : List Value} (h : MnI B w w' P v vs) : RRD w' v vs P := ⟨h.row.rg, h.len, fun j u hu => (h.inn j u hu).rg⟩
theorem MnI.push {B : Nat} {w W W2 : World} {P : List (List Int)} {v v' u : Value} {vs : List Value} {M : List Int} (h : MnI B w W P v vs) (hB : B ≤ W.heap.size) (hu : OG (Value.int .i64) B 3 W u M) (hM : MnL P.length M) (ho : OG id B 23 W2 v' (vs ++ [u])) (hg : W.grownBy W2 v.ownBlock) : MnI B w W2 (P ++ [M]) v' (vs ++ [u]) := by
  have hlen := h.len
  have stay : ∀ (x : Value) (L : List Int), OG (Value.int .i64) B 3 W x L → OG (Value.int .i64) B 3 W2 x L := fun x L hxx => hxx.of_blocks fun q hq => hg.block q (hxx.lt q hq).2 (fun e => OG.neO hxx h.row (by decide) hq e.symm)
  have get : ∀ j, j < P.length → (P ++ [M]).getD j [] = P.getD j [] := fun j hj => by rw [List.getD_eq_getElem?_getD, List.getD_eq_getElem?_getD, List.getElem?_append_left hj]
  have get2 : (P ++ [M]).getD P.length [] = M := by rw [List.getD_eq_getElem?_getD, List.getElem?_append_right (Nat.le_refl _), Nat.sub_self]; rfl
  refine ⟨h.row.grown h.frm hB hg, ho, by rw [List.length_append, List.length_append, hlen]; rfl, fun j x hx => ?_, fun j => ?_⟩
  · by_cases e : j < vs.length
    · rw [List.getElem?_append_left e] at hx
      rw [get j (by omega)]
      exact stay _ _ (h.inn j x hx)
    · have h1 := (List.getElem?_eq_some_iff.1 hx).1
      rw [List.length_append, List.length_singleton] at h1
      have e1 : j = vs.length := by omega
      subst e1
      rw [List.getElem?_append_right (Nat.le_refl _), Nat.sub_self] at hx
      have e2 : u = x := by simpa using hx
      subst e2
      rw [hlen, get2]
      exact stay _ _ hu
  · by_cases e : j < P.length
    · rw [get j e]; exact h.mnd j
    · by_cases e2 : j = P.length
      · rw [e2, get2]; exact hM
      · rw [List.getD_eq_getElem?_getD, List.getElem?_eq_none (by rw [List.length_append, List.length_singleton]; omega)]
        exact MnL.nil j
end Go.Proofs.YthdpomgpcblpeaaGreat

namespace Go.Proofs.YthdpomgpcblpeaaGreat
set_option linter.unusedVariables false
open Go.RowKit Go.Shelf Go.Sort Go.Lib
theorem sub_len : ∀ {L M : List Int}, L.Nodup → (∀ x ∈ L, x ∈ M) → L.length ≤ M.length
  | [], _, _, _ => Nat.zero_le _
  | x :: L, M, h, hs => by
    have h1 := List.nodup_cons.1 h
    have hx : x ∈ M := hs x (List.mem_cons_self ..)
    have h2 := sub_len (L := L) (M := M.erase x) h1.2 (fun y hy => (List.mem_erase_of_ne (fun e : y = x => h1.1 (by rw [← e]; exact hy))).2 (hs y (List.mem_cons_of_mem _ hy)))
    rw [List.length_erase_of_mem hx] at h2
    have h3 := List.length_pos_of_mem hx
    rw [List.length_cons]
    omega
/-- Parents that lie ahead may be. -/
theorem mn_ck {P : List (List Int)} (h : ∀ j, MnL j (P.getD j [])) : ckE P = 0 := by
  have get : ∀ M ∈ P, ∃ j, j < P.length ∧ P.getD j [] = M := fun M hM => by
    obtain ⟨j, hj, e⟩ := List.mem_iff_getElem.1 hM
    exact ⟨j, hj, by rw [List.getD_eq_getElem?_getD, List.getElem?_eq_getElem hj, e]; rfl⟩
  have h1 : outsB P = false := List.any_eq_false.2 fun M hM => by
    obtain ⟨j, hj, rfl⟩ := get M hM
    have : noPts (P.length : Int) (P.getD j []) = false := List.any_eq_false.2 fun x hx => by
      obtain ⟨p, rfl, hp⟩ := (h j).2 x hx
      simp [noPt]; omega
    simpa using this
  have h2 : twicesB P = false := List.any_eq_false.2 fun M hM => by
    obtain ⟨j, hj, rfl⟩ := get M hM
    simpa [twiceB] using (h j).1
  have hc : clE P = 0 := by unfold clE; rw [h1, h2]; rfl
  have hpn : Pts P.length ([] : List Int) := ⟨List.nodup_nil, by simp⟩
  obtain ⟨-, -, -, hno⟩ := out_all (P := P) P.length [] hpn
  have hno2 := hno (by simp)
  have hall : ∀ m i, i ≤ m → i < P.length → (i : Int) ∈ outF P P.length [] := fun m => by
    induction m with
    | zero =>
      intro i hi hl
      refine Classical.byContradiction fun hc => hno2 i hl ⟨hc, fun p hp => ?_⟩
      obtain ⟨q, rfl, hq⟩ := (h i).2 p hp
      omega
    | succ m ih =>
      intro i hi hl
      refine Classical.byContradiction fun hc => hno2 i hl ⟨hc, fun p hp => ?_⟩
      obtain ⟨q, rfl, hq⟩ := (h i).2 p hp
      exact ih q (by omega) (by omega)
  have hlen : P.length ≤ (outL P).length := by
    have h5 := sub_len (L := (List.range P.length).map (fun i : Nat => (i : Int))) (M := outL P) (List.pairwise_map.2 (List.nodup_range.imp (fun hne e => hne (by omega)))) (fun x hx => by
      obtain ⟨i, hi, rfl⟩ := List.mem_map.1 hx
      exact hall i i (Nat.le_refl _) (List.mem_range.1 hi))
    rwa [List.length_map, List.length_range] at h5
  unfold ckE
  rw [if_pos hc, if_neg (by omega)]
theorem pts_no {n : Nat} {L : List Int} (h : PtsI n L) : noPts (n : Int) L = false := List.any_eq_false.2 fun x hx => by
  obtain ⟨p, rfl, hp⟩ := h x hx
  simp [noPt]; omega
theorem mn_wk {P : List (List Int)} (h : ∀ j, MnL j (P.getD j [])) {a G : List Int} (ha : PtsI P.length a) (hG : PtsI P.length G) : wkE P P.length a G = 0 := by
  have h1 : nsE P P.length G = 0 := by unfold nsE; rw [mn_ck h, pts_no hG]; rfl
  unfold wkE; rw [h1, pts_no ha]; rfl
/-- One point tells something of another, given some. -/
def TelM (P : List (List Int)) (G : List Int) (x y : Int) : Prop := ∃ A, AbvP P G A ∧ TelP P P.length G A [x] y
theorem tel_m {P : List (List Int)} {G A : List Int} (hA : AbvP P G A) {x y : Int} : TelM P G x y ↔ TelP P P.length G A [x] y := by
  constructor
  · rintro ⟨A2, h2, h3⟩
    have e : A2 = A := rise_ext h2.1 hA.1 (fun z => (h2.2 z).trans (hA.2 z).symm)
    rwa [e] at h3
  · exact fun h => ⟨A, hA, h⟩
theorem mn_pts {P : List (List Int)} (h : ∀ j, MnL j (P.getD j [])) (i : Nat) (x : Int) (hx : x ∈ P.getD i []) : ∃ p : Nat, x = (p : Int) ∧ p < P.length := outs_no (cl_zero (ck_zero (mn_ck h))).1 i x hx
theorem tel_swap {P : List (List Int)} (h : ∀ j, MnL j (P.getD j [])) {G : List Int} {x y : Int} (hx : ∃ p : Nat, x = (p : Int) ∧ p < P.length) (ht : TelM P G x y) : TelM P G y x := by
  obtain ⟨A, hA, h1⟩ := ht
  exact ⟨A, hA, tel_even rfl (mn_pts h) hx h1⟩
theorem tel_any {P : List (List Int)} {n : Nat} {G A a : List Int} {y : Int} : TelP P n G A a y ↔ ∃ x ∈ a, TelP P n G A [x] y := by
  unfold TelP
  constructor
  · rintro ⟨h1, d, h2⟩
    obtain ⟨x, hx, h3⟩ := str_any.1 h2
    exact ⟨x, hx, h1, d, h3⟩
  · rintro ⟨x, hx, h1, d, h3⟩
    exact ⟨h1, d, str_any.2 ⟨x, hx, h3⟩⟩
theorem ends_m {P : List (List Int)} (h : ∀ j, MnL j (P.getD j [])) {a G A : List Int} (ha : PtsI P.length a) (hG : PtsI P.length G) (hA : AbvP P G A) (y : Int) : y ∈ endsL (wkL P P.length a G A) G ↔ ∃ x ∈ a, TelM P G x y := by
  rw [ends_iff A rfl (mn_wk h ha hG), tel_any]
  exact exists_congr fun x => and_congr_right fun _ => (tel_m hA).symm
set_option maxRecDepth 1000000 in
theorem reachM (P : List (List Int)) (hmn : ∀ j, MnL j (P.getD j [])) (hn : P.length ≤ 30) (pv av qv : Value) (pvs : List Value) (a G : List Int) (w : World) (h : RRD w pv pvs P) (ha : RG (Value.int .i64) w av a) (hal : a.length ≤ 1048576) (hq : RG (Value.int .i64) w qv G) (hql : G.length ≤ 1048576)
    (pa : PtsI P.length a) (pG : PtsI P.length G) :
    Calls Tryz.prog 25 #[pv, av, qv] w fun e w' => ∃ v R, e = .returned (.tuple #[v, .int .i64 0]) ∧ OG (Value.int .i64) w.heap.size 3 w' v R ∧ (∀ y, y ∈ R ↔ ∃ x ∈ a, TelM P G x y) ∧ Below w.heap.size w w' := by
  have h0 := mn_wk hmn pa pG
  refine (reachP pv av qv pvs P a G w h P.length rfl (by omega) ha hal hq hql (fun h1 A s => hdis_any rfl h1 A s)).mono ?_
  rintro e w' ⟨v, he, -, hr, hbw⟩
  rw [h0] at he
  obtain ⟨A, hA, hr2⟩ := hr h0
  exact ⟨v, _, he, hr2, fun y => ends_m hmn pa pG hA y, hbw⟩
end Go.Proofs.YthdpomgpcblpeaaGreat

namespace Go.Proofs.YthdpomgpcblpeaaGreat
set_option linter.unusedVariables false
open Go.RowKit
def p4 : List (List Int) := [[], [0], [0], [2, 1]]
def p3 : List (List Int) := [[1], [2], [0]]
theorem p4_ck : ckE p4 = 0 := by decide +kernel
theorem p4_ord : ordL p4 = [0, 1, 2, 3] := by decide +kernel
theorem p3_ck : ckE p3 = 42 := by decide +kernel
theorem rise_eq {xs ys : List Int} (hx : xs.Pairwise (· < ·)) (hy : ys.Pairwise (· < ·)) (h : ∀ x, x ∈ xs ↔ x ∈ ys) : xs = ys := by
  have hp : xs.Perm ys := (List.perm_ext_iff_of_nodup (hx.imp (fun {a b} (h : a < b) (e : a = b) => by omega)) (hy.imp (fun {a b} (h : a < b) (e : a = b) => by omega))).2 h
  exact hp.eq_of_pairwise (le := fun a b => a < b) (fun a b _ _ h1 h2 => by omega) hx hy
theorem p4_above {R : List Int} (h : R.Pairwise (· < ·)) (hm : ∀ x, x ∈ R ↔ RchP p4 [1, 2] x) : R = [0, 1, 2] := by
  refine rise_eq h (by decide) (fun x => (hm x).trans ⟨?_, fun hx => ?_⟩)
  · rintro ⟨p, hp, m, hr⟩
    have key : ∀ (m : Nat) (p : Int), p ∈ [(0 : Int), 1, 2] → Rn p4 m p x → x ∈ [(0 : Int), 1, 2] := by
      intro m
      induction m with
      | zero => intro p hp hr; have e : p = x := hr
                rw [← e]; exact hp
      | succ m ih =>
        rintro p hp ⟨z, hz, hr⟩
        refine ih z ?_ hr
        simp only [List.mem_cons, List.not_mem_nil, or_false] at hp
        rcases hp with e | e | e
        · subst e; simp [p4] at hz
        · subst e; have : z = 0 := by simpa [p4] using hz
          subst this; decide
        · subst e; have : z = 0 := by simpa [p4] using hz
          subst this; decide
    refine key m p ?_ hr
    simp only [List.mem_cons, List.not_mem_nil, or_false] at hp ⊢
    exact Or.inr hp
  · simp only [List.mem_cons, List.not_mem_nil, or_false] at hx
    rcases hx with e | e | e
    · subst e; exact ⟨1, by simp, 1, 0, by decide, rfl⟩
    · subst e; exact ⟨1, by simp, 0, rfl⟩
    · subst e; exact ⟨2, by simp, 0, rfl⟩
theorem p3_cyc {c : List Int} (h : CyOk p3 c) : c = [0, 1, 2] := by
  have hpt : ∀ (i : Nat) (x : Int), c[i]? = some x → x = 0 ∨ x = 1 ∨ x = 2 := fun i x hx => by
    obtain ⟨v, e, hv⟩ := h.pt i x hx
    have : v < 3 := hv
    omega
  have hnx : ∀ (i : Nat) (x y : Int), c[i]? = some x → c[(i + 1) % c.length]? = some y → (x = 0 → y = 1) ∧ (x = 1 → y = 2) ∧ (x = 2 → y = 0) := fun i x y hx hy => by
    have h1 := h.nx i x y hx hy
    refine ⟨fun e => ?_, fun e => ?_, fun e => ?_⟩ <;> (subst e; simpa [p3] using h1)
  have hne := h.ne
  have hge := h.ge
  have hnd := h.nd
  match c, hne, hpt, hnx, hge, hnd with
  | [a], _, hpt, hnx, _, _ =>
    have h0 := hpt 0 a rfl
    have h1 := hnx 0 a a (by simp) (by simp)
    omega
  | [a, b], _, hpt, hnx, _, _ =>
    have h0 := hpt 0 a rfl
    have h1 := hnx 0 a b (by simp) (by simp)
    have h2 := hnx 1 b a (by simp) (by simp)
    omega
  | [a, b, d], _, hpt, hnx, hge, _ =>
    have h0 := hpt 0 a rfl
    have h1 := hnx 0 a b (by simp) (by simp)
    have h2 := hnx 1 b d (by simp) (by simp)
    have h3 := hge 1 b a rfl rfl
    have h4 := hge 2 d a rfl rfl
    have e1 : a = 0 := by omega
    have e2 : b = 1 := by omega
    have e3 : d = 2 := by omega
    rw [e1, e2, e3]
  | a :: b :: d :: f :: r, _, hpt, hnx, _, hnd =>
    exfalso
    have h0 := hpt 0 a rfl
    have h1 := hpt 1 b rfl
    have h2 := hpt 2 d rfl
    have h3 := hpt 3 f rfl
    have hn := hnd
    simp only [List.nodup_cons, List.mem_cons, not_or] at hn
    omega
/-- Rows that are laid one behind the other. -/
theorem RG.lit (w : World) (e : Nat) (zs : List Int) (hl : zs.length ≤ 1000) : RG (Value.int .i64) (w.alloc (.cells (zs.map (Value.int .i64)).toArray e)) (.slice (some ⟨w.heap.size, 0, none⟩) zs.length zs.length) zs := (OG.lit (enc := Value.int .i64) e w zs (by unfold maxLen; omega)).rg
theorem rrd4 (w : World) (a b c d : List Int) (ha : a.length ≤ 1000 ∧ b.length ≤ 1000 ∧ c.length ≤ 1000 ∧ d.length ≤ 1000) (W1 W2 W3 W4 W5 : World) (h1 : W1 = w.alloc (.cells (a.map (Value.int .i64)).toArray 3)) (h2 : W2 = W1.alloc (.cells (b.map (Value.int .i64)).toArray 3)) (h3 : W3 = W2.alloc (.cells (c.map (Value.int .i64)).toArray 3)) (h4 : W4 = W3.alloc (.cells (d.map (Value.int .i64)).toArray 3))
    (h5 : W5 = W4.alloc (.cells #[.slice (some ⟨w.heap.size, 0, none⟩) a.length a.length, .slice (some ⟨w.heap.size + 1, 0, none⟩) b.length b.length, .slice (some ⟨w.heap.size + 2, 0, none⟩) c.length c.length, .slice (some ⟨w.heap.size + 3, 0, none⟩) d.length d.length] 23)) :
    ∃ svs, RRD W5 (.slice (some ⟨w.heap.size + 4, 0, none⟩) 4 4) svs [a, b, c, d] ∧ Below w.heap.size w W5 := by
  have s1 : W1.heap.size = w.heap.size + 1 := by rw [h1]; simp
  have s2 : W2.heap.size = w.heap.size + 2 := by rw [h2]; simp [s1]
  have s3 : W3.heap.size = w.heap.size + 3 := by rw [h3]; simp [s2]
  have s4 : W4.heap.size = w.heap.size + 4 := by rw [h4]; simp [s3]
  have r1 := RG.lit w 3 a ha.1
  have r2 := RG.lit W1 3 b ha.2.1
  have r3 := RG.lit W2 3 c ha.2.2.1
  have r4 := RG.lit W3 3 d ha.2.2.2
  rw [← h1] at r1; rw [← h2, s1] at r2; rw [← h3, s2] at r3; rw [← h4, s3] at r4
  have b1 : Below w.heap.size w W1 := by rw [h1]; exact belowB _ _
  have b2 : Below W1.heap.size W1 W2 := by rw [h2]; exact belowB _ _
  have b3 : Below W2.heap.size W2 W3 := by rw [h3]; exact belowB _ _
  have b4 : Below W3.heap.size W3 W4 := by rw [h4]; exact belowB _ _
  have b5 : Below W4.heap.size W4 W5 := by rw [h5]; exact belowB _ _
  have ho := OG.lit (enc := id) 23 W4 [Value.slice (some ⟨w.heap.size, 0, none⟩) a.length a.length, .slice (some ⟨w.heap.size + 1, 0, none⟩) b.length b.length, .slice (some ⟨w.heap.size + 2, 0, none⟩) c.length c.length, .slice (some ⟨w.heap.size + 3, 0, none⟩) d.length d.length] (by simp [maxLen])
  refine ⟨[Value.slice (some ⟨w.heap.size, 0, none⟩) a.length a.length, .slice (some ⟨w.heap.size + 1, 0, none⟩) b.length b.length, .slice (some ⟨w.heap.size + 2, 0, none⟩) c.length c.length, .slice (some ⟨w.heap.size + 3, 0, none⟩) d.length d.length], ⟨?_, rfl, fun i x hx => ?_⟩, ?_⟩
  · rw [h5]
    have := ho.rg
    rw [s4] at this
    exact this
  · have q2 := (r1.below (Nat.le_refl _) b2).below (Nat.le_refl _) b3 |>.below (Nat.le_refl _) b4 |>.below (Nat.le_refl _) b5
    have q3 := (r2.below (Nat.le_refl _) b3).below (Nat.le_refl _) b4 |>.below (Nat.le_refl _) b5
    have q4 := (r3.below (Nat.le_refl _) b4).below (Nat.le_refl _) b5
    have q5 := r4.below (Nat.le_refl _) b5
    match i, hx with
    | 0, hx => simp at hx; subst hx; exact q2
    | 1, hx => simp at hx; subst hx; exact q3
    | 2, hx => simp at hx; subst hx; exact q4
    | 3, hx => simp at hx; subst hx; exact q5
  · exact (((b1.trans (b2.mono b1.size)).trans (b3.mono (by omega))).trans (b4.mono (by omega))).trans (b5.mono (by omega))
theorem rrd3 (w : World) (a b c : List Int) (ha : a.length ≤ 1000 ∧ b.length ≤ 1000 ∧ c.length ≤ 1000) (W1 W2 W3 W4 : World) (h1 : W1 = w.alloc (.cells (a.map (Value.int .i64)).toArray 3)) (h2 : W2 = W1.alloc (.cells (b.map (Value.int .i64)).toArray 3)) (h3 : W3 = W2.alloc (.cells (c.map (Value.int .i64)).toArray 3))
    (h5 : W4 = W3.alloc (.cells #[.slice (some ⟨w.heap.size, 0, none⟩) a.length a.length, .slice (some ⟨w.heap.size + 1, 0, none⟩) b.length b.length, .slice (some ⟨w.heap.size + 2, 0, none⟩) c.length c.length] 23)) :
    ∃ svs, RRD W4 (.slice (some ⟨w.heap.size + 3, 0, none⟩) 3 3) svs [a, b, c] ∧ Below w.heap.size w W4 := by
  have s1 : W1.heap.size = w.heap.size + 1 := by rw [h1]; simp
  have s2 : W2.heap.size = w.heap.size + 2 := by rw [h2]; simp [s1]
  have s3 : W3.heap.size = w.heap.size + 3 := by rw [h3]; simp [s2]
  have r1 := RG.lit w 3 a ha.1
  have r2 := RG.lit W1 3 b ha.2.1
  have r3 := RG.lit W2 3 c ha.2.2
  rw [← h1] at r1; rw [← h2, s1] at r2; rw [← h3, s2] at r3
  have b1 : Below w.heap.size w W1 := by rw [h1]; exact belowB _ _
  have b2 : Below W1.heap.size W1 W2 := by rw [h2]; exact belowB _ _
  have b3 : Below W2.heap.size W2 W3 := by rw [h3]; exact belowB _ _
  have b5 : Below W3.heap.size W3 W4 := by rw [h5]; exact belowB _ _
  have ho := OG.lit (enc := id) 23 W3 [Value.slice (some ⟨w.heap.size, 0, none⟩) a.length a.length, .slice (some ⟨w.heap.size + 1, 0, none⟩) b.length b.length, .slice (some ⟨w.heap.size + 2, 0, none⟩) c.length c.length] (by simp [maxLen])
  refine ⟨[Value.slice (some ⟨w.heap.size, 0, none⟩) a.length a.length, .slice (some ⟨w.heap.size + 1, 0, none⟩) b.length b.length, .slice (some ⟨w.heap.size + 2, 0, none⟩) c.length c.length], ⟨?_, rfl, fun i x hx => ?_⟩, ?_⟩
  · rw [h5]
    have := ho.rg
    rw [s3] at this
    exact this
  · have q2 := (r1.below (Nat.le_refl _) b2).below (Nat.le_refl _) b3 |>.below (Nat.le_refl _) b5
    have q3 := (r2.below (Nat.le_refl _) b3).below (Nat.le_refl _) b5
    have q4 := r3.below (Nat.le_refl _) b5
    match i, hx with
    | 0, hx => simp at hx; subst hx; exact q2
    | 1, hx => simp at hx; subst hx; exact q3
    | 2, hx => simp at hx; subst hx; exact q4
  · exact ((b1.trans (b2.mono b1.size)).trans (b3.mono (by omega))).trans (b5.mono (by omega))
end Go.Proofs.YthdpomgpcblpeaaGreat

namespace Go.Proofs.YthdpomgpcblpeaaGreat
set_option linter.unusedVariables false
open Go.RowKit
/-- Rows of a call's own. -/
structure OwR (B : Nat) (w : World) (v : Value) (rvs : List Value) (L : List (List Int)) : Prop where
  row : OG id B 23 w v rvs
  len : rvs.length = L.length
  inn : ∀ (j : Nat) (u : Value), rvs[j]? = some u → OG (Value.int .i64) B 3 w u (L.getD j [])
/-- Each in a block of its own. -/
def SepR (rvs : List Value) : Prop := ∀ (i j : Nat) (u v : Value), i ≠ j → rvs[i]? = some u → rvs[j]? = some v → ∀ q, u.ownBlock = some q → v.ownBlock ≠ some q
/-- The blocks of the rows themselves. -/
def InR (rvs : List Value) (q : Nat) : Prop := ∃ (j : Nat) (u : Value), rvs[j]? = some u ∧ u.ownBlock = some q
theorem SepR.one (v : Value) : SepR [v] := fun i j u v' h1 h2 h3 => by
  have a := (List.getElem?_eq_some_iff.1 h2).1
  have b := (List.getElem?_eq_some_iff.1 h3).1
  simp at a b; omega
theorem SepR.nil : SepR [] := fun i j u v' h1 h2 h3 => by simp at h2
theorem OwR.mono {B B' : Nat} {w : World} {v : Value} {rvs : List Value} {L : List (List Int)} (h : OwR B w v rvs L) (hB : B' ≤ B) : OwR B' w v rvs L := ⟨h.row.mono hB, h.len, fun j u hu => (h.inn j u hu).mono hB⟩
theorem OwR.frame {S : Nat → Prop} {B : Nat} {w w' : World} {v : Value} {rvs : List Value} {L : List (List Int)} (h : OwR B w v rvs L) (hf : FrP S w w') (hs : ∀ q, B ≤ q → q < w.heap.size → (v.ownBlock = some q ∨ InR rvs q) → ¬ S q) : OwR B w' v rvs L :=
  ⟨h.row.of_blocks fun q hq => hf.block q (h.row.lt q hq).2 (hs q (h.row.lt q hq).1 (h.row.lt q hq).2 (Or.inl hq)), h.len, fun j u hu => (h.inn j u hu).of_blocks fun q hq => hf.block q ((h.inn j u hu).lt q hq).2 (hs q ((h.inn j u hu).lt q hq).1 ((h.inn j u hu).lt q hq).2 (Or.inr ⟨j, u, hu, hq⟩))⟩
theorem OwR.below {B : Nat} {w w' : World} {v : Value} {rvs : List Value} {L : List (List Int)} (h : OwR B w v rvs L) (hb : Below w.heap.size w w') : OwR B w' v rvs L :=
  h.frame (S := fun _ => False) (FrP.of_below hb) (fun _ _ _ _ e => e)
theorem OwR.rrd {B : Nat} {w : World} {v : Value} {rvs : List Value} {L : List (List Int)} (h : OwR B w v rvs L) : RRD w v rvs L := ⟨h.row.rg, h.len, fun j u hu => (h.inn j u hu).rg⟩
theorem OwR.nil (B : Nat) (w : World) : OwR B w (.slice none 0 0) [] [] := ⟨OG.nil _ _ _, rfl, fun j u h => by simp at h⟩
theorem OwR.one {B : Nat} {w : World} {v : Value} {R : List Int} (h : OG (Value.int .i64) B 3 w v R) (hB : B ≤ w.heap.size) : OwR B (w.alloc (.cells #[v] 23)) (.slice (some ⟨w.heap.size, 0, none⟩) 1 1) [v] [R] :=
  ⟨(OG.lit (enc := id) 23 w [v] (by unfold maxLen; simp)).mono hB, rfl, fun j u hu => by
    match j, hu with
    | 0, hu =>
      simp only [List.getElem?_cons_zero, Option.some.injEq] at hu
      subst hu
      exact h.below (belowB _ _)
    | j + 1, hu => simp at hu⟩
/-- What Above and Below answer, told as rows. -/
def AbS (P C : List (List Int)) (n : Nat) (pts : List Int) (c : Int) (L : List (List Int)) : Prop := ∃ R, L = [R] ∧ ((ckE P ≠ 0 ∧ c = ckE P ∧ R = []) ∨ (ckE P = 0 ∧ ((noPts (n : Int) pts = true ∧ c = 3 ∧ R = []) ∨ (noPts (n : Int) pts = false ∧ c = 0 ∧ R.Pairwise (· < ·) ∧ ∀ x, x ∈ R ↔ RchP C pts x))))
/-- What each call answers. -/
def AnS (d : Nat) (P : List (List Int)) (n : Nat) (pts : List Int) (c : Int) (L : List (List Int)) : Prop :=
  match d with
  | 0 => c = 0 ∧ L = [cyL P]
  | 1 => c = ckE P ∧ L = [ordL P]
  | 2 => AbS P P n pts c L
  | 3 => AbS P (chL P n) n pts c L
  | _ => c = ckE P ∧ L = if ckE P = 0 then chL P n else []
theorem AbS.uniq {P C : List (List Int)} {n : Nat} {pts : List Int} {c c' : Int} {L L' : List (List Int)} (h : AbS P C n pts c L) (h' : AbS P C n pts c' L') : c = c' ∧ L = L' := by
  obtain ⟨R, rfl, h⟩ := h
  obtain ⟨R', rfl, h'⟩ := h'
  rcases h with ⟨a, b, r⟩ | ⟨a, ⟨b, d, r⟩ | ⟨b, d, r, m⟩⟩ <;> rcases h' with ⟨a', b', r'⟩ | ⟨a', ⟨b', d', r'⟩ | ⟨b', d', r', m'⟩⟩
  · exact ⟨b.trans b'.symm, by rw [r, r']⟩
  · exact absurd a' a
  · exact absurd a' a
  · exact absurd a a'
  · exact ⟨d.trans d'.symm, by rw [r, r']⟩
  · rw [b] at b'; simp at b'
  · exact absurd a a'
  · rw [b] at b'; simp at b'
  · exact ⟨d.trans d'.symm, by rw [rise_eq r r' (fun x => (m x).trans (m' x).symm)]⟩
theorem AnS.uniq {d : Nat} {P : List (List Int)} {n : Nat} {pts : List Int} {c c' : Int} {L L' : List (List Int)} (h : AnS d P n pts c L) (h' : AnS d P n pts c' L') : c = c' ∧ L = L' := by
  unfold AnS at h h'
  split at h
  · exact ⟨h.1.trans h'.1.symm, h.2.trans h'.2.symm⟩
  · exact ⟨h.1.trans h'.1.symm, h.2.trans h'.2.symm⟩
  · exact AbS.uniq h h'
  · exact AbS.uniq h h'
  · rename_i k1 k2 k3 k4
    split at h'
    · exact absurd rfl k1
    · exact absurd rfl k2
    · exact absurd rfl k3
    · exact absurd rfl k4
    · exact ⟨h.1.trans h'.1.symm, h.2.trans h'.2.symm⟩
/-- What Above and Below leave is rows. -/
theorem AbE.abs {B : Nat} {P C : List (List Int)} {n : Nat} {pts : List Int} {w' : World} {e : Ending} (h : AbE B P C n pts w' e) : ∃ (ao : Option Addr) (k cap : Nat) (c : Int) (R : List Int), e = .returned (.tuple #[.slice ao k cap, .int .i64 c]) ∧ OG (Value.int .i64) B 3 w' (.slice ao k cap) R ∧ AbS P C n pts c [R] := by
  rcases h with ⟨h0, h1⟩ | ⟨h0, ⟨h1, h2⟩ | ⟨h1, tv, R, h2, h3, h4, h5⟩⟩
  · exact ⟨none, 0, 0, _, [], h1, OG.nil _ _ _, [], rfl, Or.inl ⟨h0, rfl, rfl⟩⟩
  · exact ⟨none, 0, 0, _, [], h2, OG.nil _ _ _, [], rfl, Or.inr ⟨h0, Or.inl ⟨h1, rfl, rfl⟩⟩⟩
  · obtain ⟨ao, cap, e1⟩ := h3.rg.sl
    subst e1
    exact ⟨ao, _, cap, 0, R, h2, h3, R, rfl, Or.inr ⟨h0, Or.inr ⟨h1, rfl, h4, h5⟩⟩⟩
/-- What a call leaves. -/
def CaE (B d : Nat) (P : List (List Int)) (n : Nat) (pts : List Int) (w' : World) (e : Ending) : Prop := ∃ (ao : Option Addr) (k cap : Nat) (c : Int) (rvs : List Value) (L : List (List Int)), e = .returned (.tuple #[.slice ao k cap, .int .i64 c]) ∧ AnS d P n pts c L ∧ OwR B w' (.slice ao k cap) rvs L ∧ SepR rvs
theorem CaE.one {B d : Nat} {P : List (List Int)} {n : Nat} {pts : List Int} {w : World} {ao : Option Addr} {k cap : Nat} {R : List Int} {c : Int} (h : OG (Value.int .i64) B 3 w (.slice ao k cap) R) (hB : B ≤ w.heap.size) (ha : AnS d P n pts c [R]) : CaE B d P n pts (w.alloc (.cells #[.slice ao k cap] 23)) (.returned (.tuple #[.slice (some ⟨w.heap.size, 0, none⟩) 1 1, .int .i64 c])) :=
  ⟨_, _, _, c, [.slice ao k cap], [R], rfl, ha, OwR.one h hB, SepR.one _⟩
end Go.Proofs.YthdpomgpcblpeaaGreat

namespace Go.Proofs.YthdpomgpcblpeaaGreat
set_option linter.unusedVariables false
open Go.RowKit Go.Shelf Go.Sort Go.Lib
/-- A row while one new point is put above point v. -/
def wdR (P : List (List Int)) (v i : Nat) : List Int := P.getD i [] ++ if i = v then [(P.length : Int)] else []
def wdK (P : List (List Int)) (v i : Nat) : List (List Int) := (List.range i).map (wdR P v)
def wdP (P : List (List Int)) (v : Nat) : List (List Int) := wdK P v P.length ++ [[]]
theorem wdK_step (P : List (List Int)) (v i : Nat) : wdK P v (i + 1) = wdK P v i ++ [wdR P v i] := by unfold wdK; rw [List.range_succ, List.map_append]; rfl
theorem wdK_len (P : List (List Int)) (v i : Nat) : (wdK P v i).length = i := by unfold wdK; rw [List.length_map, List.length_range]
theorem wd_len (P : List (List Int)) (v : Nat) : (wdP P v).length = P.length + 1 := by unfold wdP; rw [List.length_append, wdK_len]; rfl
theorem wd_old {P : List (List Int)} {v i : Nat} (h : i < P.length) : (wdP P v).getD i [] = wdR P v i := by
  unfold wdP wdK
  rw [List.getD_eq_getElem?_getD, List.getElem?_append_left (by rw [List.length_map, List.length_range]; exact h), List.getElem?_map, List.getElem?_range h]
  rfl
theorem wd_new {P : List (List Int)} {v i : Nat} (h : P.length ≤ i) : (wdP P v).getD i [] = [] := by
  unfold wdP
  rw [List.getD_eq_getElem?_getD, List.getElem?_append_right (by rw [wdK_len]; exact h), wdK_len]
  by_cases e : i = P.length
  · rw [e, Nat.sub_self]; rfl
  · rw [List.getElem?_eq_none (by simp; omega)]; rfl
theorem wd_ext {P : List (List Int)} (h0 : ckE P = 0) {v : Nat} (hv : v < P.length) : ExtP P (wdP P v) := by
  have hz := cl_zero (ck_zero h0)
  have hold : ∀ (i : Nat), (P.length : Int) ∉ P.getD i [] := fun i hc => by
    obtain ⟨q, e, hq⟩ := outs_no hz.1 i _ hc
    omega
  have hin : ∀ (i : Nat) (x : Int), x ∈ (wdP P v).getD i [] → x ∈ P.getD i [] ∨ (i = v ∧ x = (P.length : Int)) := fun i x hx => by
    by_cases hi : i < P.length
    · rw [wd_old hi] at hx
      unfold wdR at hx
      rcases List.mem_append.1 hx with h1 | h1
      · exact Or.inl h1
      · split at h1
        · rename_i e; exact Or.inr ⟨e, List.mem_singleton.1 h1⟩
        · simp at h1
    · rw [wd_new (by omega)] at hx; simp at hx
  refine ⟨by rw [wd_len]; omega, fun i x hx => ?_, fun i x hx hn => ?_, fun i hi => wd_new hi, fun i j m hm h1 h2 => ?_, fun i => ?_⟩
  · rw [wd_old (at_lt hx)]
    exact List.mem_append_left _ hx
  · rcases hin i x hx with h1 | ⟨_, h1⟩
    · exact absurd h1 hn
    · exact ⟨P.length, h1, Nat.le_refl _, by rw [wd_len]; omega⟩
  · have key : ∀ i, (m : Int) ∈ (wdP P v).getD i [] → i = v := fun i hi => by
      rcases hin i _ hi with h1 | ⟨h1, _⟩
      · obtain ⟨q, e, hq⟩ := outs_no hz.1 i _ h1
        omega
      · exact h1
    rw [key i h1, key j h2]
  · by_cases hl : i < P.length
    · rw [wd_old hl]
      unfold wdR
      refine List.nodup_append.2 ⟨twices_no hz.2 i, by split <;> simp, fun a ha b hb e => ?_⟩
      split at hb
      · rw [List.mem_singleton.1 hb] at e
        subst e
        exact hold i ha
      · simp at hb
    · rw [wd_new (by omega)]; exact List.nodup_nil
theorem wd_in {P : List (List Int)} {v : Nat} (hv : v < P.length) : (P.length : Int) ∈ (wdP P v).getD v [] := by rw [wd_old hv]; unfold wdR; simp
/-- What is asked and not given. -/
def opn (a G : List Int) : List Int := a.filter fun x => decide (x ∉ G)
theorem opn_mem {a G : List Int} {x : Int} : x ∈ opn a G ↔ x ∈ a ∧ x ∉ G := by unfold opn; rw [List.mem_filter]; simp
theorem opn_len (a G : List Int) : (opn a G).length ≤ a.length := List.length_filter_le _ _
theorem tel_one {P : List (List Int)} {G : List Int} {x y : Int} {A : List Int} (hA : AbvP P G A) : TelM P G x y ↔ TelP P P.length G A [x] y := tel_m hA
/-- The new point is told something of what is open just where the table below it tells something. -/
theorem tab_wid {P : List (List Int)} {a G : List Int} (h0 : ckE P = 0) (ha : noPts (P.length : Int) a = false) (hG : noPts (P.length : Int) G = false) {v : Nat} (hv : v < P.length) : (∃ y ∈ opn a G, TelM (wdP P v) G (P.length : Int) y) ↔ TabM P a G (v : Int) := by
  have hP := outs_no (cl_zero (ck_zero h0)).1
  have hE := wd_ext h0 hv
  have hck := hE.ck h0
  have hQ := outs_no (cl_zero (ck_zero hck)).1
  have hGQ : noPts ((wdP P v).length : Int) G = false := noPts_wide hG (by rw [wd_len]; omega)
  obtain ⟨A, hA⟩ := abv_ex hP hG
  obtain ⟨C, hC⟩ := abv_ex hQ hGQ
  have hnew : ∃ p : Nat, (P.length : Int) = (p : Int) ∧ p < (wdP P v).length := ⟨P.length, rfl, by rw [wd_len]; omega⟩
  have key : ∀ y, y ∈ a → (TelM (wdP P v) G (P.length : Int) y ↔ TabP P P.length G A [y] (v : Int)) := fun y hy => by
    obtain ⟨p, rfl, hp⟩ := noPts_pt ha y hy
    have hold : ∃ q : Nat, ((p : Nat) : Int) = (q : Int) ∧ q < (wdP P v).length := ⟨p, rfl, by rw [wd_len]; omega⟩
    rw [← hE.tel hP (fun x hx => noPts_pt hG x hx) hA hC (fun x hx => by rw [List.mem_singleton.1 hx]; exact ⟨p, rfl, hp⟩) hv (Nat.le_refl _) (wd_in hv), tel_one hC]
    exact ⟨fun h => tel_even rfl hQ hnew h, fun h => tel_even rfl hQ hold h⟩
  have hM : TabM P a G (v : Int) ↔ TabP P P.length G A a (v : Int) := ⟨fun ⟨A2, h2, h3⟩ => by
    have e : A2 = A := rise_ext h2.1 hA.1 (fun z => (h2.2 z).trans (hA.2 z).symm)
    rwa [e] at h3, fun h => ⟨A, hA, h⟩⟩
  rw [hM, tab_any]
  constructor
  · rintro ⟨y, hy, ht⟩
    exact ⟨y, (opn_mem.1 hy).1, (key y (opn_mem.1 hy).1).1 ht⟩
  · rintro ⟨y, hy, ht⟩
    refine ⟨y, opn_mem.2 ⟨hy, fun hg => tab_given hg ht⟩, (key y hy).2 ht⟩
theorem opn_pts {a G : List Int} {n : Int} (h : noPts n a = false) : noPts n (opn a G) = false := List.any_eq_false.2 fun x hx => by
  have h1 := List.any_eq_false.1 h x (opn_mem.1 hx).1
  exact h1
theorem wk_g {P : List (List Int)} (h : ckE P = 0) {a G : List Int} (ha : noPts (P.length : Int) a = false) (hG : noPts (P.length : Int) G = false) : wkE P P.length a G = 0 := by
  have h1 : nsE P P.length G = 0 := by unfold nsE; rw [h, hG]; rfl
  unfold wkE; rw [h1, ha]; rfl
theorem ends_g {P : List (List Int)} (h : ckE P = 0) {a G A : List Int} (ha : noPts (P.length : Int) a = false) (hG : noPts (P.length : Int) G = false) (hA : AbvP P G A) (y : Int) : y ∈ endsL (wkL P P.length a G A) G ↔ ∃ x ∈ a, TelM P G x y := by
  rw [ends_iff A rfl (wk_g h ha hG), tel_any]
  exact exists_congr fun x => and_congr_right fun _ => (tel_m hA).symm
theorem OwR.push {B : Nat} {w w' : World} {v v' x : Value} {rvs : List Value} {L : List (List Int)} {M : List Int} (h : OwR B w v rvs L) (ho : OG id B 23 w' v' (rvs ++ [x])) (hg : w.grownBy w' v.ownBlock) (hx : OG (Value.int .i64) B 3 w x M) : OwR B w' v' (rvs ++ [x]) (L ++ [M]) := by
  have keep : ∀ (u : Value) (K : List Int), OG (Value.int .i64) B 3 w u K → OG (Value.int .i64) B 3 w' u K := fun u K hu => hu.of_blocks fun q hq => hg.block q (hu.lt q hq).2 (fun e => hu.neO h.row (by decide) hq e.symm)
  refine ⟨ho, by rw [List.length_append, List.length_append, h.len]; rfl, fun j u hu => ?_⟩
  by_cases hj : j < rvs.length
  · rw [List.getElem?_append_left hj] at hu
    rw [List.getD_eq_getElem?_getD, List.getElem?_append_left (by rw [← h.len]; exact hj), ← List.getD_eq_getElem?_getD]
    exact keep u _ (h.inn j u hu)
  · have h3 := (List.getElem?_eq_some_iff.1 hu).1
    rw [List.length_append, List.length_singleton] at h3
    have hj2 : j = rvs.length := by omega
    subst hj2
    rw [List.getElem?_append_right (Nat.le_refl _), Nat.sub_self] at hu
    simp only [List.getElem?_cons_zero, Option.some.injEq] at hu
    subst hu
    rw [List.getD_eq_getElem?_getD, List.getElem?_append_right (by rw [h.len]; exact Nat.le_refl _), h.len, Nat.sub_self]
    exact keep _ _ hx
end Go.Proofs.YthdpomgpcblpeaaGreat

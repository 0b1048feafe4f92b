/-
  Proved here: layer 16's law: mended parents may be; of such Apart and Reach told point by point, either way round.
  Proved here: plain mathematics of open trails: told by places, the oldest point first.
  Proved here: plain mathematics of the hunt of layer 16: all open trails are gone through, the least one is kept, and where any of them ends.
-/
import Derived.Test.YtcoiapgfaibkgaaGreatSpB2
import Derived.Test.YtcoiapgfaibkgaaGreatMoMAll
import Derived.Test.YtcoiapgfaibkgaaGreatSpZAll
import Derived.Test.YtcoiapgfaibkgaaGreatTrN
namespace Go.Proofs.YtcoiapgfaibkgaaGreat
set_option linter.unusedVariables false
open Go.RowKit Go.Shelf Go.Sort Go.Lib
theorem sub_len : ∀ {L M : List Int}, L.Nodup → (∀ x ∈ L, x ∈ M) → L.length ≤ M.length
  | [], _, _, _ => Nat.zero_le _
  | x :: L, M, h, hs => by
    have h1 := List.nodup_cons.1 h
    have hx : x ∈ M := hs x (List.mem_cons_self ..)
    have h2 := sub_len (L := L) (M := M.erase x) h1.2 (fun y hy => (List.mem_erase_of_ne (fun e : y = x => h1.1 (by rw [← e]; exact hy))).2 (hs y (List.mem_cons_of_mem _ hy)))
    rw [List.length_erase_of_mem hx] at h2
    have h3 := List.length_pos_of_mem hx
    rw [List.length_cons]
    omega
/-- Parents that lie ahead may be. -/
theorem mn_ck {P : List (List Int)} (h : ∀ j, MnL j (P.getD j [])) : ckE P = 0 := by
  have get : ∀ M ∈ P, ∃ j, j < P.length ∧ P.getD j [] = M := fun M hM => by
    obtain ⟨j, hj, e⟩ := List.mem_iff_getElem.1 hM
    exact ⟨j, hj, by rw [List.getD_eq_getElem?_getD, List.getElem?_eq_getElem hj, e]; rfl⟩
  have h1 : outsB P = false := List.any_eq_false.2 fun M hM => by
    obtain ⟨j, hj, rfl⟩ := get M hM
    have : noPts (P.length : Int) (P.getD j []) = false := List.any_eq_false.2 fun x hx => by
      obtain ⟨p, rfl, hp⟩ := (h j).2 x hx
      simp [noPt]; omega
    simpa using this
  have h2 : twicesB P = false := List.any_eq_false.2 fun M hM => by
    obtain ⟨j, hj, rfl⟩ := get M hM
    simpa [twiceB] using (h j).1
  have hc : clE P = 0 := by unfold clE; rw [h1, h2]; rfl
  have hpn : Pts P.length ([] : List Int) := ⟨List.nodup_nil, by simp⟩
  obtain ⟨-, -, -, hno⟩ := out_all (P := P) P.length [] hpn
  have hno2 := hno (by simp)
  have hall : ∀ m i, i ≤ m → i < P.length → (i : Int) ∈ outF P P.length [] := fun m => by
    induction m with
    | zero =>
      intro i hi hl
      refine Classical.byContradiction fun hc => hno2 i hl ⟨hc, fun p hp => ?_⟩
      obtain ⟨q, rfl, hq⟩ := (h i).2 p hp
      omega
    | succ m ih =>
      intro i hi hl
      refine Classical.byContradiction fun hc => hno2 i hl ⟨hc, fun p hp => ?_⟩
      obtain ⟨q, rfl, hq⟩ := (h i).2 p hp
      exact ih q (by omega) (by omega)
  have hlen : P.length ≤ (outL P).length := by
    have h5 := sub_len (L := (List.range P.length).map (fun i : Nat => (i : Int))) (M := outL P) (List.pairwise_map.2 (List.nodup_range.imp (fun hne e => hne (by omega)))) (fun x hx => by
      obtain ⟨i, hi, rfl⟩ := List.mem_map.1 hx
      exact hall i i (Nat.le_refl _) (List.mem_range.1 hi))
    rwa [List.length_map, List.length_range] at h5
  unfold ckE
  rw [if_pos hc, if_neg (by omega)]
theorem pts_no {n : Nat} {L : List Int} (h : PtsI n L) : noPts (n : Int) L = false := List.any_eq_false.2 fun x hx => by
  obtain ⟨p, rfl, hp⟩ := h x hx
  simp [noPt]; omega
theorem mn_wk {P : List (List Int)} (h : ∀ j, MnL j (P.getD j [])) {a G : List Int} (ha : PtsI P.length a) (hG : PtsI P.length G) : wkE P P.length a G = 0 := by
  have h1 : nsE P P.length G = 0 := by unfold nsE; rw [mn_ck h, pts_no hG]; rfl
  unfold wkE; rw [h1, pts_no ha]; rfl
/-- One point tells something of another, given some. -/
def TelM (P : List (List Int)) (G : List Int) (x y : Int) : Prop := ∃ A, AbvP P G A ∧ TelP P P.length G A [x] y
theorem tel_m {P : List (List Int)} {G A : List Int} (hA : AbvP P G A) {x y : Int} : TelM P G x y ↔ TelP P P.length G A [x] y := by
  constructor
  · rintro ⟨A2, h2, h3⟩
    have e : A2 = A := rise_ext h2.1 hA.1 (fun z => (h2.2 z).trans (hA.2 z).symm)
    rwa [e] at h3
  · exact fun h => ⟨A, hA, h⟩
theorem mn_pts {P : List (List Int)} (h : ∀ j, MnL j (P.getD j [])) (i : Nat) (x : Int) (hx : x ∈ P.getD i []) : ∃ p : Nat, x = (p : Int) ∧ p < P.length := outs_no (cl_zero (ck_zero (mn_ck h))).1 i x hx
theorem tel_swap {P : List (List Int)} (h : ∀ j, MnL j (P.getD j [])) {G : List Int} {x y : Int} (hx : ∃ p : Nat, x = (p : Int) ∧ p < P.length) (ht : TelM P G x y) : TelM P G y x := by
  obtain ⟨A, hA, h1⟩ := ht
  exact ⟨A, hA, tel_even rfl (mn_pts h) hx h1⟩
theorem tel_any {P : List (List Int)} {n : Nat} {G A a : List Int} {y : Int} : TelP P n G A a y ↔ ∃ x ∈ a, TelP P n G A [x] y := by
  unfold TelP
  constructor
  · rintro ⟨h1, d, h2⟩
    obtain ⟨x, hx, h3⟩ := str_any.1 h2
    exact ⟨x, hx, h1, d, h3⟩
  · rintro ⟨x, hx, h1, d, h3⟩
    exact ⟨h1, d, str_any.2 ⟨x, hx, h3⟩⟩
theorem ends_m {P : List (List Int)} (h : ∀ j, MnL j (P.getD j [])) {a G A : List Int} (ha : PtsI P.length a) (hG : PtsI P.length G) (hA : AbvP P G A) (y : Int) : y ∈ endsL (wkL P P.length a G A) G ↔ ∃ x ∈ a, TelM P G x y := by
  rw [ends_iff A rfl (mn_wk h ha hG), tel_any]
  exact exists_congr fun x => and_congr_right fun _ => (tel_m hA).symm
set_option maxRecDepth 1000000 in
theorem apartM (P : List (List Int)) (hmn : ∀ j, MnL j (P.getD j [])) (hn : P.length ≤ 30) (pv av bv qv : Value) (pvs : List Value) (a b G : List Int) (w : World) (h : RRD w pv pvs P) (ha : RG (Value.int .i64) w av a) (hal : a.length ≤ 1048576) (hb : RG (Value.int .i64) w bv b) (hbl : b.length ≤ 1048576) (hq : RG (Value.int .i64) w qv G) (hql : G.length ≤ 1048576)
    (pa : PtsI P.length a) (pb : PtsI P.length b) (pG : PtsI P.length G) :
    Calls Tryz.prog 17 #[pv, av, bv, qv] w fun e w' => ∃ r : Bool, e = .returned (.tuple #[.bool r, .int .i64 0]) ∧ (r = true ↔ ¬ ∃ x ∈ a, ∃ y ∈ b, TelM P G x y) ∧ Below w.heap.size w w' := by
  have h0 : apE P P.length a b G = 0 := by unfold apE; rw [mn_wk hmn pa pG, pts_no pb]; rfl
  refine (apartP pv av bv qv pvs P a b G w h P.length rfl (by omega) ha hal hb hbl hq hql (fun h1 A s => hdis_any rfl h1 A s)).mono ?_
  rintro e w' ⟨r, he, -, hr, hbw⟩
  rw [h0] at he
  obtain ⟨A, hA, hr2⟩ := hr h0
  refine ⟨r, he, ?_, hbw⟩
  rw [hr2, decide_eq_true_iff, List.length_eq_zero_iff, List.eq_nil_iff_forall_not_mem]
  constructor
  · rintro h1 ⟨x, hx, y, hy, ht⟩
    exact h1 y ((mem_meetR _ _ _).2 ⟨(ends_m hmn pa pG hA y).2 ⟨x, hx, ht⟩, (mem_ofR ..).2 hy⟩)
  · intro h1 y hy
    obtain ⟨h2, h3⟩ := (mem_meetR _ _ _).1 hy
    obtain ⟨x, hx, ht⟩ := (ends_m hmn pa pG hA y).1 h2
    exact h1 ⟨x, hx, y, (mem_ofR ..).1 h3, ht⟩
set_option maxRecDepth 1000000 in
theorem reachM (P : List (List Int)) (hmn : ∀ j, MnL j (P.getD j [])) (hn : P.length ≤ 30) (pv av qv : Value) (pvs : List Value) (a G : List Int) (w : World) (h : RRD w pv pvs P) (ha : RG (Value.int .i64) w av a) (hal : a.length ≤ 1048576) (hq : RG (Value.int .i64) w qv G) (hql : G.length ≤ 1048576)
    (pa : PtsI P.length a) (pG : PtsI P.length G) :
    Calls Tryz.prog 12 #[pv, av, qv] w fun e w' => ∃ v R, e = .returned (.tuple #[v, .int .i64 0]) ∧ OG (Value.int .i64) w.heap.size 3 w' v R ∧ (∀ y, y ∈ R ↔ ∃ x ∈ a, TelM P G x y) ∧ Below w.heap.size w w' := by
  have h0 := mn_wk hmn pa pG
  refine (reachP pv av qv pvs P a G w h P.length rfl (by omega) ha hal hq hql (fun h1 A s => hdis_any rfl h1 A s)).mono ?_
  rintro e w' ⟨v, he, -, hr, hbw⟩
  rw [h0] at he
  obtain ⟨A, hA, hr2⟩ := hr h0
  exact ⟨v, _, he, hr2, fun y => ends_m hmn pa pG hA y, hbw⟩
end Go.Proofs.YtcoiapgfaibkgaaGreat

namespace Go.Proofs.YtcoiapgfaibkgaaGreat
set_option linter.unusedVariables false
open Go.RowKit Go.Shelf Go.Sort Go.Lib
/-- An open trail by its places. -/
structure OpF (P : List (List Int)) (G A : List Int) (a : Int) (T : List Int) : Prop where
  first : T[0]? = some a
  pts : ∀ (i : Nat) (x : Int), T[i]? = some x → ∃ p : Nat, x = (p : Int) ∧ p < P.length
  nd : ∀ (i : Nat) (x : Int), T[i]? = some x → x ∉ T.take i
  adj : ∀ (i : Nat) (x y : Int), T[i]? = some x → T[i + 1]? = some y → y ∈ P.getD x.toNat [] ∨ x ∈ P.getD y.toNat []
  opn : ∀ (i : Nat) (x y z : Int), T[i]? = some x → T[i + 1]? = some y → T[i + 2]? = some z → (x ∈ P.getD y.toNat [] ∧ z ∈ P.getD y.toNat [] → y ∈ A) ∧ (¬ (x ∈ P.getD y.toNat [] ∧ z ∈ P.getD y.toNat []) → y ∉ G)
theorem snoc_pick {T : List Int} {n : Int} {i : Nat} {x : Int} (h : (T ++ [n])[i]? = some x) : T[i]? = some x ∨ (i = T.length ∧ x = n) := by
  by_cases hl : i < T.length
  · rw [List.getElem?_append_left hl] at h; exact Or.inl h
  · have h1 := (List.getElem?_eq_some_iff.1 h).1
    rw [List.length_append, List.length_singleton] at h1
    have e : i = T.length := by omega
    subst e
    rw [List.getElem?_append_right (Nat.le_refl _), Nat.sub_self] at h
    simp at h
    exact Or.inr ⟨rfl, h.symm⟩
theorem OpF.snoc {P : List (List Int)} {G A : List Int} {a n : Int} {T : List Int} (h : OpF P G A a T) (hn : ∃ p : Nat, n = (p : Int) ∧ p < P.length) (hni : n ∉ T) (hadj : ∀ l, T[T.length - 1]? = some l → n ∈ P.getD l.toNat [] ∨ l ∈ P.getD n.toNat [])
    (hop : ∀ p l, T[T.length - 2]? = some p → T[T.length - 1]? = some l → 2 ≤ T.length → (p ∈ P.getD l.toNat [] ∧ n ∈ P.getD l.toNat [] → l ∈ A) ∧ (¬ (p ∈ P.getD l.toNat [] ∧ n ∈ P.getD l.toNat []) → l ∉ G)) : OpF P G A a (T ++ [n]) := by
  have hl0 : 0 < T.length := (List.getElem?_eq_some_iff.1 h.first).1
  refine ⟨by rw [List.getElem?_append_left hl0]; exact h.first, fun i x hx => ?_, fun i x hx => ?_, fun i x y hx hy => ?_, fun i x y z hx hy hz => ?_⟩
  · rcases snoc_pick hx with h1 | ⟨_, rfl⟩
    · exact h.pts i x h1
    · exact hn
  · rcases snoc_pick hx with h1 | ⟨rfl, rfl⟩
    · rw [List.take_append_of_le_length (by have := (List.getElem?_eq_some_iff.1 h1).1; omega)]
      exact h.nd i x h1
    · rw [List.take_left' rfl]; exact hni
  · rcases snoc_pick hy with h2 | ⟨e, rfl⟩
    · rcases snoc_pick hx with h1 | ⟨e, _⟩
      · exact h.adj i x y h1 h2
      · have := (List.getElem?_eq_some_iff.1 h2).1; omega
    · rcases snoc_pick hx with h1 | ⟨e2, _⟩
      · exact hadj x (by rw [show T.length - 1 = i by omega]; exact h1)
      · omega
  · rcases snoc_pick hz with h3 | ⟨e, rfl⟩
    · have hl := (List.getElem?_eq_some_iff.1 h3).1
      rcases snoc_pick hx with h1 | ⟨e, _⟩
      · rcases snoc_pick hy with h2 | ⟨e, _⟩
        · exact h.opn i x y z h1 h2 h3
        · omega
      · omega
    · rcases snoc_pick hx with h1 | ⟨e2, _⟩
      · rcases snoc_pick hy with h2 | ⟨e2, _⟩
        · exact hop x y (by rw [show T.length - 2 = i by omega]; exact h1) (by rw [show T.length - 1 = i + 1 by omega]; exact h2) (by omega)
        · omega
      · omega
theorem OTr.places {P : List (List Int)} {G A : List Int} {a : Int} (ha : ∃ p : Nat, a = (p : Int) ∧ p < P.length) {l : List Int} (h : OTr P G A a l) : OpF P G A a l.reverse := by
  induction h with
  | one h1 =>
    refine ⟨rfl, fun i x hx => ?_, fun i x hx => ?_, fun i x y hx hy => ?_, fun i x y z hx hy hz => ?_⟩
    · match i, hx with
      | 0, hx => simp at hx; subst hx; exact ha
      | i + 1, hx => simp at hx
    · match i, hx with
      | 0, hx => simp
      | i + 1, hx => simp at hx
    · simp at hy
    · simp at hz
  | @two n h1 hn h2 h3 ih =>
    rw [List.reverse_cons]
    refine ih.snoc hn (by simpa using h3) (fun l hl => ?_) (fun p l hp hl h4 => ?_)
    · simp at hl; subst hl; exact h2
    · simp at h4
  | @more n l p r h1 hn h2 h3 h4 ih =>
    rw [List.reverse_cons]
    have hlen : (l :: p :: r).reverse.length = r.length + 2 := by simp
    have g1 : (l :: p :: r).reverse[r.length + 1]? = some l := by
      rw [List.getElem?_reverse (by simp)]; simp
    have g2 : (l :: p :: r).reverse[r.length]? = some p := by
      rw [List.getElem?_reverse (by simp; omega)]; simp
    refine ih.snoc hn (by rw [List.mem_reverse]; exact h3) (fun l' hl => ?_) (fun p' l' hp hl _ => ?_)
    · rw [hlen, show r.length + 2 - 1 = r.length + 1 by omega, g1] at hl
      simp only [Option.some.injEq] at hl
      subst hl; exact h2
    · rw [hlen, show r.length + 2 - 1 = r.length + 1 by omega, g1] at hl
      rw [hlen, show r.length + 2 - 2 = r.length by omega, g2] at hp
      simp only [Option.some.injEq] at hl hp
      subst hl; subst hp; exact h4
theorem rn_back {P : List (List Int)} (hP : ∀ (i : Nat) (x : Int), x ∈ P.getD i [] → ∃ p : Nat, x = (p : Int) ∧ p < P.length) : ∀ (m : Nat) (x y : Nat), x < P.length → Rn P m (x : Int) (y : Int) → Rn (chL P P.length) m (y : Int) (x : Int)
  | 0, x, y, hx, h => by
    have e : (x : Int) = (y : Int) := h
    have e2 : (y : Int) = (x : Int) := e.symm
    exact e2
  | m + 1, x, y, hx, ⟨z, hz, h⟩ => by
    rw [Int.toNat_natCast] at hz
    obtain ⟨q, rfl, hq⟩ := hP x z hz
    have h1 := rn_back hP m q y hq h
    refine rn_snoc m _ _ _ h1 ?_
    rw [Int.toNat_natCast, chL_get hq]
    exact chF_mem.2 ⟨x, hx, rfl, hz⟩
/-- A point above something given has something given below. -/
theorem below_given {P : List (List Int)} (hP : ∀ (i : Nat) (x : Int), x ∈ P.getD i [] → ∃ p : Nat, x = (p : Int) ∧ p < P.length) {G A : List Int} (hG : ∀ x ∈ G, ∃ p : Nat, x = (p : Int) ∧ p < P.length) (hA : AbvP P G A) {y : Nat} (h : (y : Int) ∈ A) : ∃ g ∈ G, RchP (chL P P.length) [(y : Int)] g := by
  obtain ⟨g, hg, k, hr⟩ := (hA.2 _).1 h
  obtain ⟨p, rfl, hp⟩ := hG g hg
  exact ⟨_, hg, _, by simp, k, rn_back hP k p y hp hr⟩
end Go.Proofs.YtcoiapgfaibkgaaGreat

namespace Go.Proofs.YtcoiapgfaibkgaaGreat
set_option linter.unusedVariables false
open Go.RowKit Go.Shelf Go.Sort Go.Lib
/-- Less, of lists as long as each other, the oldest first. -/
def lexB : List Int → List Int → Bool
  | x :: a, y :: b => if x = y then lexB a b else decide (x < y)
  | _, _ => false
def lsB (a b : List Int) : Bool := if a.length = b.length then lexB a b else decide (a.length < b.length)
theorem lexB_same : ∀ a : List Int, lexB a a = false
  | [] => rfl
  | x :: a => by rw [lexB, if_pos rfl]; exact lexB_same a
theorem lexB_at : ∀ {a b : List Int} {i : Nat} {x y : Int}, a.take i = b.take i → a[i]? = some x → b[i]? = some y → x ≠ y → lexB a b = decide (x < y)
  | [], _, _, _, _, _, h, _, _ => by simp at h
  | _ :: _, [], _, _, _, _, _, h, _ => by simp at h
  | u :: a, v :: b, 0, x, y, _, h1, h2, h3 => by
    simp at h1 h2
    subst h1; subst h2
    rw [lexB, if_neg h3]
  | u :: a, v :: b, i + 1, x, y, h0, h1, h2, h3 => by
    simp only [List.take_succ_cons, List.cons.injEq] at h0
    obtain ⟨rfl, h0⟩ := h0
    rw [lexB, if_pos rfl]
    exact lexB_at h0 (by simpa using h1) (by simpa using h2) h3
theorem lexB_snoc : ∀ {a b : List Int} {x y : Int}, a.length = b.length → (lexB (a ++ [x]) (b ++ [y]) = true ↔ lexB a b = true ∨ (a = b ∧ x < y))
  | [], [], x, y, _ => by
    show (if x = y then false else decide (x < y)) = true ↔ _
    by_cases e : x = y
    · subst e; simp [lexB]
    · rw [if_neg e]; simp [lexB]
  | u :: a, v :: b, x, y, h => by
    have h1 : a.length = b.length := by simpa using h
    show (if u = v then lexB (a ++ [x]) (b ++ [y]) else decide (u < v)) = true ↔ (if u = v then lexB a b else decide (u < v)) = true ∨ _
    by_cases e : u = v
    · subst e
      rw [if_pos rfl, if_pos rfl, lexB_snoc h1]
      simp
    · rw [if_neg e, if_neg e]
      simp [e]
  | [], _ :: _, _, _, h => by simp at h
  | _ :: _, [], _, _, h => by simp at h
theorem lexB_rev : ∀ {a b : List Int}, a.length = b.length → (lexB a.reverse b.reverse = true ↔ LxR a b)
  | [], [], _ => by simp [lexB, LxR]
  | x :: a, y :: b, h => by
    have h1 : a.length = b.length := by simpa using h
    rw [List.reverse_cons, List.reverse_cons, lexB_snoc (by simpa using h1), lexB_rev h1]
    constructor
    · rintro (h2 | ⟨h2, h3⟩)
      · exact Or.inl h2
      · exact Or.inr ⟨List.reverse_inj.1 h2, h3⟩
    · rintro (h2 | ⟨h2, h3⟩)
      · exact Or.inl h2
      · exact Or.inr ⟨by rw [h2], h3⟩
  | [], _ :: _, h => by simp at h
  | _ :: _, [], h => by simp at h
theorem lsB_rev {a b : List Int} : lsB a.reverse b.reverse = true ↔ SlR a b := by
  unfold lsB SlR
  rw [List.length_reverse, List.length_reverse]
  by_cases h : a.length = b.length
  · rw [if_pos h, lexB_rev h]
    constructor
    · exact fun h1 => Or.inr ⟨h, h1⟩
    · rintro (h1 | ⟨_, h1⟩)
      · omega
      · exact h1
  · rw [if_neg h, decide_eq_true_iff]
    constructor
    · exact Or.inl
    · rintro (h1 | ⟨h1, _⟩)
      · exact h1
      · exact absurd h1 h
theorem LxR.total : ∀ {a b : List Int}, a.length = b.length → a = b ∨ LxR a b ∨ LxR b a
  | [], [], _ => Or.inl rfl
  | x :: a, y :: b, h => by
    rcases LxR.total (a := a) (b := b) (by simpa using h) with rfl | h1 | h1
    · rcases Int.lt_trichotomy x y with h2 | rfl | h2
      · exact Or.inr (Or.inl (Or.inr ⟨rfl, h2⟩))
      · exact Or.inl rfl
      · exact Or.inr (Or.inr (Or.inr ⟨rfl, h2⟩))
    · exact Or.inr (Or.inl (Or.inl h1))
    · exact Or.inr (Or.inr (Or.inl h1))
  | [], _ :: _, h => by simp at h
  | _ :: _, [], h => by simp at h
theorem LeR.of_not {a b : List Int} (h : ¬ SlR a b) : LeR b a := by
  rcases Nat.lt_trichotomy a.length b.length with h1 | h1 | h1
  · exact absurd (Or.inl h1) h
  · rcases LxR.total h1 with rfl | h2 | h2
    · exact Or.inl rfl
    · exact absurd (Or.inr ⟨h1, h2⟩) h
    · exact Or.inr (Or.inr ⟨h1.symm, h2⟩)
  · exact Or.inr (Or.inl h1)
theorem LeR.anti {a b : List Int} (h : LeR a b) (h2 : LeR b a) : a = b := by
  rcases h with rfl | h
  · rfl
  · rcases h2 with rfl | h2
    · rfl
    · exact (h.trans h2).irr.elim
/-- May a trail go on so? -/
def okX (P : List (List Int)) (G A : List Int) (t : List Int) (k : Int) : Bool :=
  match t with
  | [] => false
  | l :: r => (decide (k ∈ P.getD l.toNat []) || decide (l ∈ P.getD k.toNat [])) && !decide (k ∈ l :: r) && (match r with
    | [] => true
    | p :: _ => if p ∈ P.getD l.toNat [] ∧ k ∈ P.getD l.toNat [] then decide (l ∈ A) else !decide (l ∈ G))
abbrev HuS := Option (List Int) × (Nat → Bool)
def visX (G : List Int) (tz : Int) (t : List Int) (s : HuS) : HuS :=
  match t with
  | [] => s
  | l :: r => if l ∈ G then s else (if l = tz ∧ (match s.1 with | none => true | some b => lsB (l :: r).reverse b.reverse) = true then some (l :: r) else s.1, fun v => if v = l.toNat then true else s.2 v)
def huF (P : List (List Int)) (G A : List Int) (tz : Int) : Nat → List Int → HuS → HuS
  | 0, t, s => visX G tz t s
  | m + 1, t, s => (List.range P.length).foldl (fun s (k : Nat) => if okX P G A t (k : Int) = true then huF P G A tz m ((k : Int) :: t) s else s) (visX G tz t s)
/-- Longer trails. -/
inductive ExH (P : List (List Int)) (G A : List Int) : List Int → List Int → Prop
  | refl {t : List Int} : ExH P G A t t
  | step {t t' : List Int} {k : Nat} : k < P.length → okX P G A t (k : Int) = true → ExH P G A ((k : Int) :: t) t' → ExH P G A t t'
theorem ExH.snoc {P : List (List Int)} {G A : List Int} {t t' : List Int} (h : ExH P G A t t') {k : Nat} (hk : k < P.length) (hok : okX P G A t' (k : Int) = true) : ExH P G A t ((k : Int) :: t') := by
  induction h with
  | refl => exact ExH.step hk hok ExH.refl
  | step h1 h2 _ ih => exact ExH.step h1 h2 (ih hok)
/-- The best of what there was and what is come tz. -/
structure BsP (b : Option (List Int)) (C : List Int → Prop) (b' : Option (List Int)) : Prop where
  sound : ∀ x, b' = some x → b = some x ∨ C x
  least : ∀ x, (b = some x ∨ C x) → ∃ y, b' = some y ∧ LeR y x
theorem BsP.none (b : Option (List Int)) : BsP b (fun _ => False) b := ⟨fun x h => Or.inl h, fun x h => by
  rcases h with h | h
  · exact ⟨x, h, Or.inl rfl⟩
  · exact h.elim⟩
theorem BsP.tr {b b1 b2 : Option (List Int)} {C D : List Int → Prop} (h : BsP b C b1) (h2 : BsP b1 D b2) : BsP b (fun x => C x ∨ D x) b2 := ⟨fun x hx => by
    rcases h2.sound x hx with h3 | h3
    · rcases h.sound x h3 with h4 | h4
      · exact Or.inl h4
      · exact Or.inr (Or.inl h4)
    · exact Or.inr (Or.inr h3), fun x hx => by
    have key : (b = some x ∨ C x) ∨ D x := by
      rcases hx with hx | hx | hx
      · exact Or.inl (Or.inl hx)
      · exact Or.inl (Or.inr hx)
      · exact Or.inr hx
    rcases key with key | key
    · obtain ⟨y, hy, hle⟩ := h.least x key
      obtain ⟨z, hz, hle2⟩ := h2.least y (Or.inl hy)
      exact ⟨z, hz, hle2.trans hle⟩
    · exact h2.least x (Or.inr key)⟩
theorem BsP.congr {b b' : Option (List Int)} {C D : List Int → Prop} (h : BsP b C b') (e : ∀ x, C x ↔ D x) : BsP b D b' := ⟨fun x hx => (h.sound x hx).imp id (e x).1, fun x hx => h.least x (hx.imp id (e x).2)⟩
/-- Ends with what is asked for, not given. -/
def EnP (G : List Int) (tz : Int) (x : List Int) : Prop := ∃ r, x = tz :: r ∧ tz ∉ G
theorem vis_best (G : List Int) (tz : Int) (t : List Int) (s : HuS) : BsP s.1 (fun x => x = t ∧ EnP G tz x) (visX G tz t s).1 := by
  unfold visX EnP
  cases t with
  | nil => exact (BsP.none _).congr fun x => ⟨fun h => h.elim, fun ⟨h1, r, h2, _⟩ => by rw [h1] at h2; simp at h2⟩
  | cons l r =>
    simp only
    by_cases hg : l ∈ G
    · rw [if_pos hg]
      refine (BsP.none _).congr fun x => ⟨fun h => h.elim, ?_⟩
      rintro ⟨h1, r2, h2, h3⟩
      rw [h1] at h2
      simp only [List.cons.injEq] at h2
      exact h3 (h2.1 ▸ hg)
    · rw [if_neg hg]
      simp only
      by_cases e : l = tz
      · subst e
        cases hb : s.1 with
        | none =>
          simp only [and_self, if_true]
          exact ⟨fun x hx => Or.inr (by simp only [Option.some.injEq] at hx; subst hx; exact ⟨rfl, r, rfl, hg⟩), fun x hx => by
            rcases hx with hx | ⟨hx, _⟩
            · simp at hx
            · exact ⟨_, rfl, by rw [hx]; exact Or.inl rfl⟩⟩
        | some b =>
          by_cases hl : lsB (l :: r).reverse b.reverse = true
          · simp only [hl, and_self, if_true]
            exact ⟨fun x hx => Or.inr (by simp only [Option.some.injEq] at hx; subst hx; exact ⟨rfl, r, rfl, hg⟩), fun x hx => by
              rcases hx with hx | ⟨hx, _⟩
              · simp only [Option.some.injEq] at hx
                subst hx
                exact ⟨_, rfl, Or.inr (lsB_rev.1 hl)⟩
              · exact ⟨_, rfl, by rw [hx]; exact Or.inl rfl⟩⟩
          · simp only [hl, true_and]
            exact ⟨fun x hx => Or.inl hx, fun x hx => by
              rcases hx with hx | ⟨hx, _⟩
              · exact ⟨x, hx, Or.inl rfl⟩
              · exact ⟨b, rfl, by rw [hx]; exact LeR.of_not fun h => hl (lsB_rev.2 h)⟩⟩
      · simp only [e, false_and, if_false]
        refine (BsP.none _).congr fun x => ⟨fun h => h.elim, ?_⟩
        rintro ⟨h1, r2, h2, h3⟩
        rw [h1] at h2
        simp only [List.cons.injEq] at h2
        exact e h2.1
theorem vis_came (G : List Int) (tz : Int) (t : List Int) (s : HuS) (v : Nat) : (visX G tz t s).2 v = true ↔ s.2 v = true ∨ ∃ l r, t = l :: r ∧ l ∉ G ∧ v = l.toNat := by
  unfold visX
  cases t with
  | nil => simp
  | cons l r =>
    simp only
    by_cases hg : l ∈ G
    · rw [if_pos hg]
      constructor
      · exact Or.inl
      · rintro (h | ⟨l', r', h1, h2, _⟩)
        · exact h
        · simp only [List.cons.injEq] at h1
          exact absurd (h1.1 ▸ hg) h2
    · rw [if_neg hg]
      simp only
      constructor
      · intro h
        by_cases e : v = l.toNat
        · exact Or.inr ⟨l, r, rfl, hg, e⟩
        · rw [if_neg e] at h; exact Or.inl h
      · rintro (h | ⟨l', r', h1, h2, h3⟩)
        · split
          · rfl
          · exact h
        · simp only [List.cons.injEq] at h1
          rw [if_pos (by rw [h3, h1.1])]
/-- A trail of points, none twice. -/
def GdX (n : Nat) (t : List Int) : Prop := t.Nodup ∧ ∀ x ∈ t, ∃ p : Nat, x = (p : Int) ∧ p < n
theorem ok_new {P : List (List Int)} {G A t : List Int} {k : Int} (h : okX P G A t k = true) : k ∉ t := by
  cases t with
  | nil => simp [okX] at h
  | cons l r =>
    simp only [okX, Bool.and_eq_true, Bool.not_eq_true', decide_eq_false_iff_not] at h
    exact h.1.2
theorem GdX.cons {P : List (List Int)} {G A t : List Int} {k : Nat} (h : GdX P.length t) (hk : k < P.length) (hok : okX P G A t (k : Int) = true) : GdX P.length ((k : Int) :: t) := ⟨List.nodup_cons.2 ⟨ok_new hok, h.1⟩, fun x hx => by
  rcases List.mem_cons.1 hx with rfl | hx
  · exact ⟨k, rfl, hk⟩
  · exact h.2 x hx⟩
theorem gd_full {n : Nat} {t : List Int} (h : GdX n t) (hl : n ≤ t.length) {k : Nat} (hk : k < n) : (k : Int) ∈ t := Classical.byContradiction fun hn => by
  have h2 := len_nd n ((k : Int) :: t) (List.nodup_cons.2 ⟨hn, h.1⟩) fun x hx => by
    rcases List.mem_cons.1 hx with rfl | hx
    · exact ⟨k, rfl, hk⟩
    · exact h.2 x hx
  rw [List.length_cons] at h2
  omega
theorem gd_stop {P : List (List Int)} {G A t : List Int} (h : GdX P.length t) (hl : P.length ≤ t.length) {k : Nat} (hk : k < P.length) : okX P G A t (k : Int) = false := by
  cases hb : okX P G A t (k : Int) with
  | false => rfl
  | true => exact absurd (gd_full h hl hk) (ok_new hb)
theorem exh_iff {P : List (List Int)} {G A t t' : List Int} : ExH P G A t t' ↔ t' = t ∨ ∃ k ∈ List.range P.length, okX P G A t (k : Int) = true ∧ ExH P G A ((k : Int) :: t) t' := by
  constructor
  · intro h
    cases h with
    | refl => exact Or.inl rfl
    | step h1 h2 h3 => exact Or.inr ⟨_, List.mem_range.2 h1, h2, h3⟩
  · rintro (rfl | ⟨k, h1, h2, h3⟩)
    · exact ExH.refl
    · exact ExH.step (List.mem_range.1 h1) h2 h3
theorem huF_spec {P : List (List Int)} {G A : List Int} {tz : Int} : ∀ (m : Nat) (t : List Int) (s : HuS), GdX P.length t → P.length ≤ t.length + m →
    BsP s.1 (fun x => ExH P G A t x ∧ EnP G tz x) (huF P G A tz m t s).1 ∧ ∀ v, (huF P G A tz m t s).2 v = true ↔ s.2 v = true ∨ ∃ l r, ExH P G A t (l :: r) ∧ l ∉ G ∧ v = l.toNat
  | 0, t, s, hg, hl => by
    have hno : ∀ x, ExH P G A t x ↔ x = t := fun x => by
      rw [exh_iff]
      constructor
      · rintro (h | ⟨k, h1, h2, _⟩)
        · exact h
        · rw [gd_stop hg (by omega) (List.mem_range.1 h1)] at h2; simp at h2
      · exact Or.inl
    refine ⟨(vis_best G tz t s).congr fun x => by rw [hno x], fun v => ?_⟩
    show (visX G tz t s).2 v = true ↔ _
    rw [vis_came]
    refine or_congr_right (exists_congr fun l => exists_congr fun r => ?_)
    rw [hno, eq_comm]
  | m + 1, t, s, hg, hl => by
    have fold : ∀ (L : List Nat), (∀ k ∈ L, k < P.length) → ∀ s : HuS,
        BsP s.1 (fun x => (∃ k ∈ L, okX P G A t (k : Int) = true ∧ ExH P G A ((k : Int) :: t) x) ∧ EnP G tz x) (L.foldl (fun s (k : Nat) => if okX P G A t (k : Int) = true then huF P G A tz m ((k : Int) :: t) s else s) s).1 ∧ ∀ v, (L.foldl (fun s (k : Nat) => if okX P G A t (k : Int) = true then huF P G A tz m ((k : Int) :: t) s else s) s).2 v = true ↔ s.2 v = true ∨ ∃ l r, (∃ k ∈ L, okX P G A t (k : Int) = true ∧ ExH P G A ((k : Int) :: t) (l :: r)) ∧ l ∉ G ∧ v = l.toNat := fun L => by
      induction L with
      | nil => intro _ s; exact ⟨(BsP.none _).congr fun x => by simp, fun v => by simp⟩
      | cons k L ih =>
        intro hL s
        have ihL := ih (fun k hk => hL k (List.mem_cons_of_mem _ hk))
        rw [List.foldl_cons]
        by_cases hok : okX P G A t (k : Int) = true
        · rw [if_pos hok]
          obtain ⟨h1, h2⟩ := huF_spec m ((k : Int) :: t) s (hg.cons (hL k (by simp)) hok) (by rw [List.length_cons]; omega)
          obtain ⟨h3, h4⟩ := ihL (huF P G A tz m ((k : Int) :: t) s)
          refine ⟨(h1.tr h3).congr fun x => ?_, fun v => ?_⟩
          · constructor
            · rintro (⟨h5, h6⟩ | ⟨⟨k2, h5, h6⟩, h7⟩)
              · exact ⟨⟨k, by simp, hok, h5⟩, h6⟩
              · exact ⟨⟨k2, List.mem_cons_of_mem _ h5, h6⟩, h7⟩
            · rintro ⟨⟨k2, h5, h6, h7⟩, h8⟩
              rcases List.mem_cons.1 h5 with rfl | h5
              · exact Or.inl ⟨h7, h8⟩
              · exact Or.inr ⟨⟨k2, h5, h6, h7⟩, h8⟩
          · rw [h4 v, h2 v]
            constructor
            · rintro ((h5 | ⟨l, r, h5, h6⟩) | ⟨l, r, ⟨k2, h5, h6⟩, h7⟩)
              · exact Or.inl h5
              · exact Or.inr ⟨l, r, ⟨k, by simp, hok, h5⟩, h6⟩
              · exact Or.inr ⟨l, r, ⟨k2, List.mem_cons_of_mem _ h5, h6⟩, h7⟩
            · rintro (h5 | ⟨l, r, ⟨k2, h5, h6, h7⟩, h8⟩)
              · exact Or.inl (Or.inl h5)
              · rcases List.mem_cons.1 h5 with rfl | h5
                · exact Or.inl (Or.inr ⟨l, r, h7, h8⟩)
                · exact Or.inr ⟨l, r, ⟨k2, h5, h6, h7⟩, h8⟩
        · rw [if_neg hok]
          obtain ⟨h3, h4⟩ := ihL s
          have drop : ∀ x, (∃ k2 ∈ L, okX P G A t (k2 : Int) = true ∧ ExH P G A ((k2 : Int) :: t) x) ↔ ∃ k2 ∈ k :: L, okX P G A t (k2 : Int) = true ∧ ExH P G A ((k2 : Int) :: t) x := fun x => by
            constructor
            · rintro ⟨k2, h5, h6⟩; exact ⟨k2, List.mem_cons_of_mem _ h5, h6⟩
            · rintro ⟨k2, h5, h6⟩
              rcases List.mem_cons.1 h5 with rfl | h5
              · exact absurd h6.1 hok
              · exact ⟨k2, h5, h6⟩
          refine ⟨h3.congr fun x => by rw [drop], fun v => ?_⟩
          rw [h4 v]
          exact or_congr_right (exists_congr fun l => exists_congr fun r => by rw [drop])
    obtain ⟨h1, h2⟩ := fold (List.range P.length) (fun k hk => List.mem_range.1 hk) (visX G tz t s)
    refine ⟨((vis_best G tz t s).tr h1).congr fun x => ?_, fun v => ?_⟩
    · rw [exh_iff, or_and_right]
    · refine (h2 v).trans ?_
      rw [vis_came, or_assoc]
      refine or_congr_right ?_
      constructor
      · rintro (⟨l, r, h5, h6⟩ | ⟨l, r, h5, h6⟩)
        · exact ⟨l, r, exh_iff.2 (Or.inl h5.symm), h6⟩
        · exact ⟨l, r, exh_iff.2 (Or.inr h5), h6⟩
      · rintro ⟨l, r, h5, h6⟩
        rcases exh_iff.1 h5 with h5 | h5
        · exact Or.inl ⟨l, r, h5.symm, h6⟩
        · exact Or.inr ⟨l, r, h5, h6⟩
theorem exh_otr {P : List (List Int)} {G A : List Int} {a : Int} {t t' : List Int} (h : ExH P G A t t') : OTr P G A a t → OTr P G A a t' := by
  induction h with
  | refl => exact id
  | @step t t' k hk hok _ ih =>
    intro ht
    refine ih ?_
    cases ht with
    | one h1 =>
      simp only [okX, Bool.and_eq_true, Bool.or_eq_true, decide_eq_true_eq, Bool.not_eq_true', decide_eq_false_iff_not] at hok
      exact OTr.two (OTr.one h1) ⟨k, rfl, hk⟩ hok.1.1 (by simpa using hok.1.2)
    | two h1 h2 h3 h4 =>
      simp only [okX, Bool.and_eq_true, Bool.or_eq_true, decide_eq_true_eq, Bool.not_eq_true', decide_eq_false_iff_not] at hok
      refine OTr.more (OTr.two h1 h2 h3 h4) ⟨k, rfl, hk⟩ hok.1.1 hok.1.2 ⟨fun h5 => ?_, fun h5 => ?_⟩
      · have h6 := hok.2; rw [if_pos h5] at h6; simpa using h6
      · have h6 := hok.2; rw [if_neg h5] at h6; simpa using h6
    | more h1 h2 h3 h4 h5 =>
      simp only [okX, Bool.and_eq_true, Bool.or_eq_true, decide_eq_true_eq, Bool.not_eq_true', decide_eq_false_iff_not] at hok
      refine OTr.more (OTr.more h1 h2 h3 h4 h5) ⟨k, rfl, hk⟩ hok.1.1 hok.1.2 ⟨fun h5 => ?_, fun h5 => ?_⟩
      · have h6 := hok.2; rw [if_pos h5] at h6; simpa using h6
      · have h6 := hok.2; rw [if_neg h5] at h6; simpa using h6
theorem otr_exh {P : List (List Int)} {G A : List Int} {a : Int} {t : List Int} (h : OTr P G A a t) : ExH P G A [a] t := by
  induction h with
  | one _ => exact ExH.refl
  | @two n h1 hn h2 h3 ih =>
    obtain ⟨q, rfl, hq⟩ := hn
    refine ih.snoc hq ?_
    simp only [okX, Bool.and_eq_true, Bool.or_eq_true, decide_eq_true_eq, Bool.not_eq_true', decide_eq_false_iff_not]
    exact ⟨⟨h2, by simpa using h3⟩, trivial⟩
  | @more n l p r h1 hn h2 h3 h4 ih =>
    obtain ⟨q, rfl, hq⟩ := hn
    refine ih.snoc hq ?_
    simp only [okX, Bool.and_eq_true, Bool.or_eq_true, decide_eq_true_eq, Bool.not_eq_true', decide_eq_false_iff_not]
    refine ⟨⟨h2, h3⟩, ?_⟩
    by_cases h5 : p ∈ P.getD l.toNat [] ∧ (q : Int) ∈ P.getD l.toNat []
    · rw [if_pos h5]; simpa using h4.1 h5
    · rw [if_neg h5]; simpa using h4.2 h5
theorem exh_iff_otr {P : List (List Int)} {G A : List Int} {a : Int} (hag : a ∉ G) {t : List Int} : ExH P G A [a] t ↔ OTr P G A a t := ⟨fun h => exh_otr h (OTr.one hag), otr_exh⟩
end Go.Proofs.YtcoiapgfaibkgaaGreat

/-
  Proved here: layer 16's law: mended parents may be; of such Apart and Reach told point by point, either way round.
  Proved here: plain mathematics of open trails: told by places, the oldest point first.
  Proved here: layer 16's law: alive: in the square two sides are apart given the top, and not given the bottom too.
-/
import Derived.Test.YtcoiapgfaibkgaaGreatSpB2
import Derived.Test.YtcoiapgfaibkgaaGreatMoMAll
import Derived.Test.YtcoiapgfaibkgaaGreatSpZAll
import Derived.Test.YtcoiapgfaibkgaaGreatTrN
import Derived.Test.YtcoiapgfaibkgaaGreatSpLAll
namespace Go.Proofs.YtcoiapgfaibkgaaGreat
set_option linter.unusedVariables false
open Go.RowKit Go.Shelf Go.Sort Go.Lib
theorem sub_len : ∀ {L M : List Int}, L.Nodup → (∀ x ∈ L, x ∈ M) → L.length ≤ M.length
  | [], _, _, _ => Nat.zero_le _
  | x :: L, M, h, hs => by
    have h1 := List.nodup_cons.1 h
    have hx : x ∈ M := hs x (List.mem_cons_self ..)
    have h2 := sub_len (L := L) (M := M.erase x) h1.2 (fun y hy => (List.mem_erase_of_ne (fun e : y = x => h1.1 (by rw [← e]; exact hy))).2 (hs y (List.mem_cons_of_mem _ hy)))
    rw [List.length_erase_of_mem hx] at h2
    have h3 := List.length_pos_of_mem hx
    rw [List.length_cons]
    omega
/-- Parents that lie ahead may be. -/
theorem mn_ck {P : List (List Int)} (h : ∀ j, MnL j (P.getD j [])) : ckE P = 0 := by
  have get : ∀ M ∈ P, ∃ j, j < P.length ∧ P.getD j [] = M := fun M hM => by
    obtain ⟨j, hj, e⟩ := List.mem_iff_getElem.1 hM
    exact ⟨j, hj, by rw [List.getD_eq_getElem?_getD, List.getElem?_eq_getElem hj, e]; rfl⟩
  have h1 : outsB P = false := List.any_eq_false.2 fun M hM => by
    obtain ⟨j, hj, rfl⟩ := get M hM
    have : noPts (P.length : Int) (P.getD j []) = false := List.any_eq_false.2 fun x hx => by
      obtain ⟨p, rfl, hp⟩ := (h j).2 x hx
      simp [noPt]; omega
    simpa using this
  have h2 : twicesB P = false := List.any_eq_false.2 fun M hM => by
    obtain ⟨j, hj, rfl⟩ := get M hM
    simpa [twiceB] using (h j).1
  have hc : clE P = 0 := by unfold clE; rw [h1, h2]; rfl
  have hpn : Pts P.length ([] : List Int) := ⟨List.nodup_nil, by simp⟩
  obtain ⟨-, -, -, hno⟩ := out_all (P := P) P.length [] hpn
  have hno2 := hno (by simp)
  have hall : ∀ m i, i ≤ m → i < P.length → (i : Int) ∈ outF P P.length [] := fun m => by
    induction m with
    | zero =>
      intro i hi hl
      refine Classical.byContradiction fun hc => hno2 i hl ⟨hc, fun p hp => ?_⟩
      obtain ⟨q, rfl, hq⟩ := (h i).2 p hp
      omega
    | succ m ih =>
      intro i hi hl
      refine Classical.byContradiction fun hc => hno2 i hl ⟨hc, fun p hp => ?_⟩
      obtain ⟨q, rfl, hq⟩ := (h i).2 p hp
      exact ih q (by omega) (by omega)
  have hlen : P.length ≤ (outL P).length := by
    have h5 := sub_len (L := (List.range P.length).map (fun i : Nat => (i : Int))) (M := outL P) (List.pairwise_map.2 (List.nodup_range.imp (fun hne e => hne (by omega)))) (fun x hx => by
      obtain ⟨i, hi, rfl⟩ := List.mem_map.1 hx
      exact hall i i (Nat.le_refl _) (List.mem_range.1 hi))
    rwa [List.length_map, List.length_range] at h5
  unfold ckE
  rw [if_pos hc, if_neg (by omega)]
theorem pts_no {n : Nat} {L : List Int} (h : PtsI n L) : noPts (n : Int) L = false := List.any_eq_false.2 fun x hx => by
  obtain ⟨p, rfl, hp⟩ := h x hx
  simp [noPt]; omega
theorem mn_wk {P : List (List Int)} (h : ∀ j, MnL j (P.getD j [])) {a G : List Int} (ha : PtsI P.length a) (hG : PtsI P.length G) : wkE P P.length a G = 0 := by
  have h1 : nsE P P.length G = 0 := by unfold nsE; rw [mn_ck h, pts_no hG]; rfl
  unfold wkE; rw [h1, pts_no ha]; rfl
/-- One point tells something of another, given some. -/
def TelM (P : List (List Int)) (G : List Int) (x y : Int) : Prop := ∃ A, AbvP P G A ∧ TelP P P.length G A [x] y
theorem tel_m {P : List (List Int)} {G A : List Int} (hA : AbvP P G A) {x y : Int} : TelM P G x y ↔ TelP P P.length G A [x] y := by
  constructor
  · rintro ⟨A2, h2, h3⟩
    have e : A2 = A := rise_ext h2.1 hA.1 (fun z => (h2.2 z).trans (hA.2 z).symm)
    rwa [e] at h3
  · exact fun h => ⟨A, hA, h⟩
theorem mn_pts {P : List (List Int)} (h : ∀ j, MnL j (P.getD j [])) (i : Nat) (x : Int) (hx : x ∈ P.getD i []) : ∃ p : Nat, x = (p : Int) ∧ p < P.length := outs_no (cl_zero (ck_zero (mn_ck h))).1 i x hx
theorem tel_swap {P : List (List Int)} (h : ∀ j, MnL j (P.getD j [])) {G : List Int} {x y : Int} (hx : ∃ p : Nat, x = (p : Int) ∧ p < P.length) (ht : TelM P G x y) : TelM P G y x := by
  obtain ⟨A, hA, h1⟩ := ht
  exact ⟨A, hA, tel_even rfl (mn_pts h) hx h1⟩
theorem tel_any {P : List (List Int)} {n : Nat} {G A a : List Int} {y : Int} : TelP P n G A a y ↔ ∃ x ∈ a, TelP P n G A [x] y := by
  unfold TelP
  constructor
  · rintro ⟨h1, d, h2⟩
    obtain ⟨x, hx, h3⟩ := str_any.1 h2
    exact ⟨x, hx, h1, d, h3⟩
  · rintro ⟨x, hx, h1, d, h3⟩
    exact ⟨h1, d, str_any.2 ⟨x, hx, h3⟩⟩
theorem ends_m {P : List (List Int)} (h : ∀ j, MnL j (P.getD j [])) {a G A : List Int} (ha : PtsI P.length a) (hG : PtsI P.length G) (hA : AbvP P G A) (y : Int) : y ∈ endsL (wkL P P.length a G A) G ↔ ∃ x ∈ a, TelM P G x y := by
  rw [ends_iff A rfl (mn_wk h ha hG), tel_any]
  exact exists_congr fun x => and_congr_right fun _ => (tel_m hA).symm
set_option maxRecDepth 1000000 in
theorem apartM (P : List (List Int)) (hmn : ∀ j, MnL j (P.getD j [])) (hn : P.length ≤ 30) (pv av bv qv : Value) (pvs : List Value) (a b G : List Int) (w : World) (h : RRD w pv pvs P) (ha : RG (Value.int .i64) w av a) (hal : a.length ≤ 1048576) (hb : RG (Value.int .i64) w bv b) (hbl : b.length ≤ 1048576) (hq : RG (Value.int .i64) w qv G) (hql : G.length ≤ 1048576)
    (pa : PtsI P.length a) (pb : PtsI P.length b) (pG : PtsI P.length G) :
    Calls Tryz.prog 17 #[pv, av, bv, qv] w fun e w' => ∃ r : Bool, e = .returned (.tuple #[.bool r, .int .i64 0]) ∧ (r = true ↔ ¬ ∃ x ∈ a, ∃ y ∈ b, TelM P G x y) ∧ Below w.heap.size w w' := by
  have h0 : apE P P.length a b G = 0 := by unfold apE; rw [mn_wk hmn pa pG, pts_no pb]; rfl
  refine (apartP pv av bv qv pvs P a b G w h P.length rfl (by omega) ha hal hb hbl hq hql (fun h1 A s => hdis_any rfl h1 A s)).mono ?_
  rintro e w' ⟨r, he, -, hr, hbw⟩
  rw [h0] at he
  obtain ⟨A, hA, hr2⟩ := hr h0
  refine ⟨r, he, ?_, hbw⟩
  rw [hr2, decide_eq_true_iff, List.length_eq_zero_iff, List.eq_nil_iff_forall_not_mem]
  constructor
  · rintro h1 ⟨x, hx, y, hy, ht⟩
    exact h1 y ((mem_meetR _ _ _).2 ⟨(ends_m hmn pa pG hA y).2 ⟨x, hx, ht⟩, (mem_ofR ..).2 hy⟩)
  · intro h1 y hy
    obtain ⟨h2, h3⟩ := (mem_meetR _ _ _).1 hy
    obtain ⟨x, hx, ht⟩ := (ends_m hmn pa pG hA y).1 h2
    exact h1 ⟨x, hx, y, (mem_ofR ..).1 h3, ht⟩
set_option maxRecDepth 1000000 in
theorem reachM (P : List (List Int)) (hmn : ∀ j, MnL j (P.getD j [])) (hn : P.length ≤ 30) (pv av qv : Value) (pvs : List Value) (a G : List Int) (w : World) (h : RRD w pv pvs P) (ha : RG (Value.int .i64) w av a) (hal : a.length ≤ 1048576) (hq : RG (Value.int .i64) w qv G) (hql : G.length ≤ 1048576)
    (pa : PtsI P.length a) (pG : PtsI P.length G) :
    Calls Tryz.prog 12 #[pv, av, qv] w fun e w' => ∃ v R, e = .returned (.tuple #[v, .int .i64 0]) ∧ OG (Value.int .i64) w.heap.size 3 w' v R ∧ (∀ y, y ∈ R ↔ ∃ x ∈ a, TelM P G x y) ∧ Below w.heap.size w w' := by
  have h0 := mn_wk hmn pa pG
  refine (reachP pv av qv pvs P a G w h P.length rfl (by omega) ha hal hq hql (fun h1 A s => hdis_any rfl h1 A s)).mono ?_
  rintro e w' ⟨v, he, -, hr, hbw⟩
  rw [h0] at he
  obtain ⟨A, hA, hr2⟩ := hr h0
  exact ⟨v, _, he, hr2, fun y => ends_m hmn pa pG hA y, hbw⟩
end Go.Proofs.YtcoiapgfaibkgaaGreat

namespace Go.Proofs.YtcoiapgfaibkgaaGreat
set_option linter.unusedVariables false
open Go.RowKit Go.Shelf Go.Sort Go.Lib
/-- An open trail by its places. -/
structure OpF (P : List (List Int)) (G A : List Int) (a : Int) (T : List Int) : Prop where
  first : T[0]? = some a
  pts : ∀ (i : Nat) (x : Int), T[i]? = some x → ∃ p : Nat, x = (p : Int) ∧ p < P.length
  nd : ∀ (i : Nat) (x : Int), T[i]? = some x → x ∉ T.take i
  adj : ∀ (i : Nat) (x y : Int), T[i]? = some x → T[i + 1]? = some y → y ∈ P.getD x.toNat [] ∨ x ∈ P.getD y.toNat []
  opn : ∀ (i : Nat) (x y z : Int), T[i]? = some x → T[i + 1]? = some y → T[i + 2]? = some z → (x ∈ P.getD y.toNat [] ∧ z ∈ P.getD y.toNat [] → y ∈ A) ∧ (¬ (x ∈ P.getD y.toNat [] ∧ z ∈ P.getD y.toNat []) → y ∉ G)
theorem snoc_pick {T : List Int} {n : Int} {i : Nat} {x : Int} (h : (T ++ [n])[i]? = some x) : T[i]? = some x ∨ (i = T.length ∧ x = n) := by
  by_cases hl : i < T.length
  · rw [List.getElem?_append_left hl] at h; exact Or.inl h
  · have h1 := (List.getElem?_eq_some_iff.1 h).1
    rw [List.length_append, List.length_singleton] at h1
    have e : i = T.length := by omega
    subst e
    rw [List.getElem?_append_right (Nat.le_refl _), Nat.sub_self] at h
    simp at h
    exact Or.inr ⟨rfl, h.symm⟩
theorem OpF.snoc {P : List (List Int)} {G A : List Int} {a n : Int} {T : List Int} (h : OpF P G A a T) (hn : ∃ p : Nat, n = (p : Int) ∧ p < P.length) (hni : n ∉ T) (hadj : ∀ l, T[T.length - 1]? = some l → n ∈ P.getD l.toNat [] ∨ l ∈ P.getD n.toNat [])
    (hop : ∀ p l, T[T.length - 2]? = some p → T[T.length - 1]? = some l → 2 ≤ T.length → (p ∈ P.getD l.toNat [] ∧ n ∈ P.getD l.toNat [] → l ∈ A) ∧ (¬ (p ∈ P.getD l.toNat [] ∧ n ∈ P.getD l.toNat []) → l ∉ G)) : OpF P G A a (T ++ [n]) := by
  have hl0 : 0 < T.length := (List.getElem?_eq_some_iff.1 h.first).1
  refine ⟨by rw [List.getElem?_append_left hl0]; exact h.first, fun i x hx => ?_, fun i x hx => ?_, fun i x y hx hy => ?_, fun i x y z hx hy hz => ?_⟩
  · rcases snoc_pick hx with h1 | ⟨_, rfl⟩
    · exact h.pts i x h1
    · exact hn
  · rcases snoc_pick hx with h1 | ⟨rfl, rfl⟩
    · rw [List.take_append_of_le_length (by have := (List.getElem?_eq_some_iff.1 h1).1; omega)]
      exact h.nd i x h1
    · rw [List.take_left' rfl]; exact hni
  · rcases snoc_pick hy with h2 | ⟨e, rfl⟩
    · rcases snoc_pick hx with h1 | ⟨e, _⟩
      · exact h.adj i x y h1 h2
      · have := (List.getElem?_eq_some_iff.1 h2).1; omega
    · rcases snoc_pick hx with h1 | ⟨e2, _⟩
      · exact hadj x (by rw [show T.length - 1 = i by omega]; exact h1)
      · omega
  · rcases snoc_pick hz with h3 | ⟨e, rfl⟩
    · have hl := (List.getElem?_eq_some_iff.1 h3).1
      rcases snoc_pick hx with h1 | ⟨e, _⟩
      · rcases snoc_pick hy with h2 | ⟨e, _⟩
        · exact h.opn i x y z h1 h2 h3
        · omega
      · omega
    · rcases snoc_pick hx with h1 | ⟨e2, _⟩
      · rcases snoc_pick hy with h2 | ⟨e2, _⟩
        · exact hop x y (by rw [show T.length - 2 = i by omega]; exact h1) (by rw [show T.length - 1 = i + 1 by omega]; exact h2) (by omega)
        · omega
      · omega
theorem OTr.places {P : List (List Int)} {G A : List Int} {a : Int} (ha : ∃ p : Nat, a = (p : Int) ∧ p < P.length) {l : List Int} (h : OTr P G A a l) : OpF P G A a l.reverse := by
  induction h with
  | one h1 =>
    refine ⟨rfl, fun i x hx => ?_, fun i x hx => ?_, fun i x y hx hy => ?_, fun i x y z hx hy hz => ?_⟩
    · match i, hx with
      | 0, hx => simp at hx; subst hx; exact ha
      | i + 1, hx => simp at hx
    · match i, hx with
      | 0, hx => simp
      | i + 1, hx => simp at hx
    · simp at hy
    · simp at hz
  | @two n h1 hn h2 h3 ih =>
    rw [List.reverse_cons]
    refine ih.snoc hn (by simpa using h3) (fun l hl => ?_) (fun p l hp hl h4 => ?_)
    · simp at hl; subst hl; exact h2
    · simp at h4
  | @more n l p r h1 hn h2 h3 h4 ih =>
    rw [List.reverse_cons]
    have hlen : (l :: p :: r).reverse.length = r.length + 2 := by simp
    have g1 : (l :: p :: r).reverse[r.length + 1]? = some l := by
      rw [List.getElem?_reverse (by simp)]; simp
    have g2 : (l :: p :: r).reverse[r.length]? = some p := by
      rw [List.getElem?_reverse (by simp; omega)]; simp
    refine ih.snoc hn (by rw [List.mem_reverse]; exact h3) (fun l' hl => ?_) (fun p' l' hp hl _ => ?_)
    · rw [hlen, show r.length + 2 - 1 = r.length + 1 by omega, g1] at hl
      simp only [Option.some.injEq] at hl
      subst hl; exact h2
    · rw [hlen, show r.length + 2 - 1 = r.length + 1 by omega, g1] at hl
      rw [hlen, show r.length + 2 - 2 = r.length by omega, g2] at hp
      simp only [Option.some.injEq] at hl hp
      subst hl; subst hp; exact h4
theorem rn_back {P : List (List Int)} (hP : ∀ (i : Nat) (x : Int), x ∈ P.getD i [] → ∃ p : Nat, x = (p : Int) ∧ p < P.length) : ∀ (m : Nat) (x y : Nat), x < P.length → Rn P m (x : Int) (y : Int) → Rn (chL P P.length) m (y : Int) (x : Int)
  | 0, x, y, hx, h => by
    have e : (x : Int) = (y : Int) := h
    have e2 : (y : Int) = (x : Int) := e.symm
    exact e2
  | m + 1, x, y, hx, ⟨z, hz, h⟩ => by
    rw [Int.toNat_natCast] at hz
    obtain ⟨q, rfl, hq⟩ := hP x z hz
    have h1 := rn_back hP m q y hq h
    refine rn_snoc m _ _ _ h1 ?_
    rw [Int.toNat_natCast, chL_get hq]
    exact chF_mem.2 ⟨x, hx, rfl, hz⟩
/-- A point above something given has something given below. -/
theorem below_given {P : List (List Int)} (hP : ∀ (i : Nat) (x : Int), x ∈ P.getD i [] → ∃ p : Nat, x = (p : Int) ∧ p < P.length) {G A : List Int} (hG : ∀ x ∈ G, ∃ p : Nat, x = (p : Int) ∧ p < P.length) (hA : AbvP P G A) {y : Nat} (h : (y : Int) ∈ A) : ∃ g ∈ G, RchP (chL P P.length) [(y : Int)] g := by
  obtain ⟨g, hg, k, hr⟩ := (hA.2 _).1 h
  obtain ⟨p, rfl, hp⟩ := hG g hg
  exact ⟨_, hg, _, by simp, k, rn_back hP k p y hp hr⟩
end Go.Proofs.YtcoiapgfaibkgaaGreat

namespace Go.Proofs.YtcoiapgfaibkgaaGreat
set_option linter.unusedVariables false
open Go.RowKit Go.Shelf Go.Sort Go.Lib
set_option maxRecDepth 100000 in
set_option maxHeartbeats 1600000 in
theorem sameL16 (u v : Value) (xs ys : List Int) (w : World) (hu : RG (Value.int .i64) w u xs) (hv : RG (Value.int .i64) w v ys) :
    Calls Tryz.prog 46 #[u, v] w fun e w' => e = .returned (.bool (decide (xs = ys))) ∧ ∃ q, w' = w.drewN q := by
  obtain ⟨uo, un, uc, rfl⟩ : ∃ o n c, u = .slice o n c := by obtain ⟨ao, cap, e⟩ := hu.sl; exact ⟨_, _, _, e⟩
  obtain ⟨vo, vn, vc, rfl⟩ : ∃ o n c, v = .slice o n c := by obtain ⟨ao, cap, e⟩ := hv.sl; exact ⟨_, _, _, e⟩
  have hum : un ≤ 9223372036854775807 := by have := hu.room.2.1; have := hu.room.1; unfold maxLen at *; omega
  have HU : Hid (RG (Value.int .i64) w (.slice uo un uc) xs) := hu
  have HV : Hid (RG (Value.int .i64) w (.slice vo vn vc) ys) := hv
  have HUL : Hid (xs.length = un) := hu.len
  have HVL : Hid (ys.length = vn) := hv.len
  clear hu hv
  by_cases hne : un = vn
  · subst hne
    go_enter Tryz.func46, Tryz.ntmps46
    go_wp2
    go_loopg [5] un (fun g1 v5 wr => ∃ k q : Nat, v5 = .int .i64 k ∧ k ≤ un ∧ un - k ≤ g1 ∧ Hid (xs.take k = ys.take k) ∧ Hid (wr = w.drewN q))
    case atStart => exact ⟨0, 0, rfl, by omega, by omega, rfl, rfl⟩
    case round =>
      obtain ⟨k, q0, rfl, hkn, hg1, HA, HQ⟩ := hrel
      have HU2 : Hid (RG (Value.int .i64) wr (.slice uo un uc) xs) := by rw [HQ.out]; exact HU.out.drewN q0
      have HV2 : Hid (RG (Value.int .i64) wr (.slice vo un vc) ys) := by rw [HQ.out]; exact HV.out.drewN q0
      by_cases hlt : k < un
      · have hltz : (k : Int) < (un : Int) := by omega
        obtain ⟨x, gx, ox, hx1, rfl, hx2⟩ := HU2.out.at hlt
        obtain ⟨y, gy, oy, hy1, rfl, hy2⟩ := HV2.out.at hlt
        by_cases he : x = y
        · have HA2 : Hid (xs.take (k + 1) = ys.take (k + 1)) := by show _ = _; rw [List.take_add_one, List.take_add_one, hx1, hy1, HA.out, he]
          have hez : (x != y) = false := by simpa using he
          clear he hx1 hy1 HA
          go_wp2
          go_quiet (fail)
          clear hx2 hy2
          go_wp2
          go_roundg (un - (k + 1))
          case measure => omega
          case rel => exact ⟨k + 1, _, by first | rfl | go_num, by omega, Nat.le_refl _, HA2, by show _ = _; rw [HQ.out]; exact drewR_add _ _ _⟩
        · have HE : Hid (decide (xs = ys) = false) := decide_eq_false fun e => he (by rw [e, hy1] at hx1; exact (Option.some.inj hx1).symm)
          have hez : (x != y) = true := by simpa using he
          clear he hx1 hy1 HA
          go_wp2
          go_quiet (fail)
          clear hx2 hy2
          go_wp2
          go_ret
          exact ⟨by rw [HE.out]; rfl, _, by rw [HQ.out]; exact drewR_add _ _ _⟩
      · have hltz : ¬ (k : Int) < (un : Int) := by omega
        have HE : Hid (decide (xs = ys) = true) := decide_eq_true (by
          have := HA.out
          rw [List.take_of_length_le (by rw [HUL.out]; omega), List.take_of_length_le (by rw [HVL.out]; omega)] at this
          exact this)
        clear HA
        go_wp2
        go_ret
        exact ⟨by rw [HE.out]; rfl, _, HQ.out⟩
  · have HE : Hid (decide (xs = ys) = false) := decide_eq_false fun e => hne (by rw [← HUL.out, ← HVL.out, e])
    have hnz : ((un : Int) != (vn : Int)) = true := by simp; omega
    clear hne
    go_enter Tryz.func46, Tryz.ntmps46
    go_wp2
    go_ret
    exact ⟨by rw [HE.out]; rfl, 0, rfl⟩
def p5 : List (List Int) := [[], [0], [0], [1, 2], [3]]
theorem p5_ck : ckE p5 = 0 := by decide +kernel
theorem abv_of {P : List (List Int)} {G A B : List Int} (h : AbvP P G A) (hB : B.Pairwise (· < ·)) (h1 : ∀ x ∈ G, x ∈ B) (h2 : ∀ x ∈ B, ∀ y ∈ P.getD x.toNat [], y ∈ B) (h3 : ∀ x ∈ B, RchP P G x) : A = B := by
  refine rise_ext h.1 hB fun z => (h.2 z).trans ⟨?_, h3 z⟩
  rintro ⟨x, hx, m, hm⟩
  have key : ∀ (m : Nat) (x : Int), x ∈ B → Rn P m x z → z ∈ B := by
    intro m
    induction m with
    | zero => intro x hx hr; have e : x = z := hr
              rw [← e]; exact hx
    | succ m ih => rintro x hx ⟨u, hu, hr⟩; exact ih u (h2 x hx u hu) hr
  exact key m x (h1 x hx) hm
theorem p5_top {A : List Int} (h : AbvP p5 [0] A) : A = [0] := abv_of h (by decide) (by decide) (by decide) (fun x hx => by
  have e : x = 0 := by simpa using hx
  subst e; exact ⟨0, by simp, 0, rfl⟩)
theorem p5_two {A : List Int} (h : AbvP p5 [0, 4] A) : A = [0, 1, 2, 3, 4] := abv_of h (by decide) (by decide) (by decide) (fun x hx => by
  simp only [List.mem_cons, List.not_mem_nil, or_false] at hx
  rcases hx with e | e | e | e | e
  · subst e; exact ⟨0, by simp, 0, rfl⟩
  · subst e; exact ⟨4, by simp, 2, 3, by decide, 1, by decide, rfl⟩
  · subst e; exact ⟨4, by simp, 2, 3, by decide, 2, by decide, rfl⟩
  · subst e; exact ⟨4, by simp, 1, 3, by decide, rfl⟩
  · subst e; exact ⟨4, by simp, 0, rfl⟩)
theorem cR (w : World) (zs : List Int) (hl : zs.length ≤ 1000) : RG (Value.int .i64) (w.alloc (.cells (zs.map (Value.int .i64)).toArray 3)) (.slice (some ⟨w.heap.size, 0, none⟩) zs.length zs.length) zs := (OG.lit (enc := Value.int .i64) 3 w zs (by unfold maxLen; omega)).rg
theorem lit3 (w : World) (a b c : List Int) (ha : a.length ≤ 1000) (hb : b.length ≤ 1000) (hc : c.length ≤ 1000) : ∃ W, W = ((w.alloc (.cells (a.map (Value.int .i64)).toArray 3)).alloc (.cells (b.map (Value.int .i64)).toArray 3)).alloc (.cells (c.map (Value.int .i64)).toArray 3) ∧ RG (Value.int .i64) W (.slice (some ⟨w.heap.size, 0, none⟩) a.length a.length) a ∧ RG (Value.int .i64) W (.slice (some ⟨w.heap.size + 1, 0, none⟩) b.length b.length) b ∧ RG (Value.int .i64) W (.slice (some ⟨w.heap.size + 1 + 1, 0, none⟩) c.length c.length) c ∧ Below w.heap.size w W := by
  have r1 := cR w a ha
  have r2 := cR (w.alloc (.cells (a.map (Value.int .i64)).toArray 3)) b hb
  have r3 := cR ((w.alloc (.cells (a.map (Value.int .i64)).toArray 3)).alloc (.cells (b.map (Value.int .i64)).toArray 3)) c hc
  have e1 : (w.alloc (.cells (a.map (Value.int .i64)).toArray 3)).heap.size = w.heap.size + 1 := by simp
  have e2 : ((w.alloc (.cells (a.map (Value.int .i64)).toArray 3)).alloc (.cells (b.map (Value.int .i64)).toArray 3)).heap.size = w.heap.size + 1 + 1 := by simp
  rw [e1] at r2
  rw [e2] at r3
  exact ⟨_, rfl, (r1.alloc _).alloc _, r2.alloc _, r3, bstepB (bstepB (belowB _ _) (belowB _ _)) (belowB _ _)⟩
theorem lit2 (w : World) (a b : List Int) (ha : a.length ≤ 1000) (hb : b.length ≤ 1000) : ∃ W, W = (w.alloc (.cells (a.map (Value.int .i64)).toArray 3)).alloc (.cells (b.map (Value.int .i64)).toArray 3) ∧ RG (Value.int .i64) W (.slice (some ⟨w.heap.size, 0, none⟩) a.length a.length) a ∧ RG (Value.int .i64) W (.slice (some ⟨w.heap.size + 1, 0, none⟩) b.length b.length) b ∧ Below w.heap.size w W := by
  have r1 := cR w a ha
  have r2 := cR (w.alloc (.cells (a.map (Value.int .i64)).toArray 3)) b hb
  have e1 : (w.alloc (.cells (a.map (Value.int .i64)).toArray 3)).heap.size = w.heap.size + 1 := by simp
  rw [e1] at r2
  exact ⟨_, rfl, r1.alloc _, r2, bstepB (belowB _ _) (belowB _ _)⟩
theorem lit1 (w : World) (a : List Int) (ha : a.length ≤ 1000) : ∃ W, W = w.alloc (.cells (a.map (Value.int .i64)).toArray 3) ∧ RG (Value.int .i64) W (.slice (some ⟨w.heap.size, 0, none⟩) a.length a.length) a ∧ Below w.heap.size w W := ⟨_, rfl, cR w a ha, belowB _ _⟩
set_option maxRecDepth 1000000 in
set_option maxHeartbeats 3200000 in
theorem small16 (w : World) : Calls Tryz.prog 44 #[] w fun e w' => ∃ so pvs, e = .returned (.slice (some ⟨so, 0, none⟩) 5 5) ∧ RRD w' (.slice (some ⟨so, 0, none⟩) 5 5) pvs p5 ∧ Below w.heap.size w w' := by
  obtain ⟨W3, h3, r1, r2, r3, b3⟩ := lit3 w [0] [0] [1, 2] (by decide) (by decide) (by decide)
  obtain ⟨W4, h4, r4, b4⟩ := lit1 W3 [3] (by decide)
  have s3 : W3.heap.size = w.heap.size + 1 + 1 + 1 := by rw [h3]; simp
  rw [s3] at r4
  have ho := OG.lit (enc := id) 23 W4 [Value.slice none 0 0, .slice (some ⟨w.heap.size, 0, none⟩) 1 1, .slice (some ⟨w.heap.size + 1, 0, none⟩) 1 1, .slice (some ⟨w.heap.size + 1 + 1, 0, none⟩) 2 2, .slice (some ⟨w.heap.size + 1 + 1 + 1, 0, none⟩) 1 1] (by simp [maxLen])
  have s4 : W4.heap.size = w.heap.size + 1 + 1 + 1 + 1 := by rw [h4]; simp [s3]
  obtain ⟨W5, h5⟩ : ∃ W, W = W4.alloc (.cells #[.slice none 0 0, .slice (some ⟨w.heap.size, 0, none⟩) 1 1, .slice (some ⟨w.heap.size + 1, 0, none⟩) 1 1, .slice (some ⟨w.heap.size + 1 + 1, 0, none⟩) 2 2, .slice (some ⟨w.heap.size + 1 + 1 + 1, 0, none⟩) 1 1] 23) := ⟨_, rfl⟩
  have hr : RRD W5 (.slice (some ⟨w.heap.size + 1 + 1 + 1 + 1, 0, none⟩) 5 5) [Value.slice none 0 0, .slice (some ⟨w.heap.size, 0, none⟩) 1 1, .slice (some ⟨w.heap.size + 1, 0, none⟩) 1 1, .slice (some ⟨w.heap.size + 1 + 1, 0, none⟩) 2 2, .slice (some ⟨w.heap.size + 1 + 1 + 1, 0, none⟩) 1 1] p5 := by
    refine ⟨?_, rfl, fun i x hx => ?_⟩
    · rw [h5]; have := ho.rg; rw [s4] at this; exact this
    · rw [h5]
      have b5 := belowB W4 (.cells #[.slice none 0 0, .slice (some ⟨w.heap.size, 0, none⟩) 1 1, .slice (some ⟨w.heap.size + 1, 0, none⟩) 1 1, .slice (some ⟨w.heap.size + 1 + 1, 0, none⟩) 2 2, .slice (some ⟨w.heap.size + 1 + 1 + 1, 0, none⟩) 1 1] 23)
      match i, hx with
      | 0, hx => simp at hx; subst hx; exact RG.nil _
      | 1, hx => simp at hx; subst hx; exact (r1.below (Nat.le_refl _) b4).below (Nat.le_refl _) b5
      | 2, hx => simp at hx; subst hx; exact (r2.below (Nat.le_refl _) b4).below (Nat.le_refl _) b5
      | 3, hx => simp at hx; subst hx; exact (r3.below (Nat.le_refl _) b4).below (Nat.le_refl _) b5
      | 4, hx => simp at hx; subst hx; exact r4.below (Nat.le_refl _) b5
  have hb : Below w.heap.size w W5 := by rw [h5]; exact bstepB (bstepB b3 b4) (belowB _ _)
  have HR : Hid (∃ pvs, RRD W5 (.slice (some ⟨w.heap.size + 1 + 1 + 1 + 1, 0, none⟩) 5 5) pvs p5) := ⟨_, hr⟩
  have HB : Hid (Below w.heap.size w W5) := hb
  have HW : Hid (W5 = ((((w.alloc (.cells #[.int .i64 0] 3)).alloc (.cells #[.int .i64 0] 3)).alloc (.cells #[.int .i64 1, .int .i64 2] 3)).alloc (.cells #[.int .i64 3] 3)).alloc (.cells #[.slice none 0 0, .slice (some ⟨w.heap.size, 0, none⟩) 1 1, .slice (some ⟨w.heap.size + 1, 0, none⟩) 1 1, .slice (some ⟨w.heap.size + 1 + 1, 0, none⟩) 2 2, .slice (some ⟨w.heap.size + 1 + 1 + 1, 0, none⟩) 1 1] 23)) := by show _ = _; rw [h5, h4, h3]; rfl
  clear h3 h4 h5 r1 r2 r3 r4 b3 b4 s3 s4 ho hr hb W3 W4
  go_enter Tryz.func44, Tryz.ntmps44
  go_wp2
  go_ret
  obtain ⟨pvs, hr⟩ := HR.out
  rw [← HW.out]
  exact ⟨_, pvs, rfl, hr, HB.out⟩
end Go.Proofs.YtcoiapgfaibkgaaGreat

/-
  Proved here: a blanket is a wall: given it, its point tells something of none else; and none may be left out of it.
-/
import Derived.Test.YtcadljpdokhpmabGreatSpAnAll
import Derived.Test.YtcadljpdokhpmabGreatSpDAll
import Derived.Test.YtcadljpdokhpmabGreatSpB4
namespace Go.Proofs.YtcadljpdokhpmabGreat
set_option linter.unusedVariables false
open Go.RowKit Go.Shelf Go.Sort Go.Lib
theorem chF_le (P : List (List Int)) (j n : Nat) : (chF P j n).length ≤ n := by
  refine len_nd n _ ((rise_rangeF _ n).imp (fun h e => by omega)) fun x hx => ?_
  obtain ⟨i, hi, rfl, -⟩ := chF_mem.1 hx
  exact ⟨i, rfl, hi⟩
theorem mn_bl {P : List (List Int)} (h : ∀ j, MnL j (P.getD j [])) {a : Nat} (ha : a < P.length) : blE P P.length (a : Int) = 0 := by
  unfold blE
  rw [mn_ck h]
  have : noPt (P.length : Int) (a : Int) = false := by simp [noPt]; omega
  rw [this]; rfl
theorem bl_mem {P : List (List Int)} (h : ∀ j, MnL j (P.getD j [])) {a : Nat} (ha : a < P.length) (y : Int) :
    y ∈ blR P P.length (a : Int) ↔ y ≠ (a : Int) ∧ (y ∈ P.getD a [] ∨ y ∈ chF P a P.length ∨ ∃ c ∈ chF P a P.length, y ∈ P.getD c.toNat []) := by
  unfold blR
  rw [if_pos (mn_bl h ha), List.mem_filter, mem_ofR, Int.toNat_natCast]
  unfold nearK
  rw [List.take_of_length_le (chF_le P a P.length), List.mem_append, List.mem_append, List.mem_flatten]
  constructor
  · rintro ⟨h1, h2⟩
    refine ⟨by simpa using h2, ?_⟩
    rcases h1 with (h1 | h1) | ⟨l, h3, h4⟩
    · exact Or.inl h1
    · exact Or.inr (Or.inl h1)
    · obtain ⟨c, hc, rfl⟩ := List.mem_map.1 h3
      exact Or.inr (Or.inr ⟨c, hc, h4⟩)
  · rintro ⟨h2, h1⟩
    refine ⟨?_, by simpa using h2⟩
    rcases h1 with h1 | h1 | ⟨c, hc, h4⟩
    · exact Or.inl (Or.inl h1)
    · exact Or.inl (Or.inr h1)
    · exact Or.inr ⟨_, List.mem_map.2 ⟨c, hc, rfl⟩, h4⟩
theorem bl_rise {P : List (List Int)} (a : Int) : Rise (blR P P.length a) := by
  unfold blR
  split
  · exact rise_filter (rise_ofR _) _
  · exact List.Pairwise.nil
theorem bl_pts {P : List (List Int)} (h : ∀ j, MnL j (P.getD j [])) {a : Nat} (ha : a < P.length) : PtsI P.length (blR P P.length (a : Int)) := fun y hy => by
  rcases ((bl_mem h ha y).1 hy).2 with h1 | h1 | ⟨c, hc, h4⟩
  · exact mn_pts h _ _ h1
  · obtain ⟨i, hi, rfl, -⟩ := chF_mem.1 h1
    exact ⟨i, rfl, hi⟩
  · exact mn_pts h _ _ h4
theorem ch_ne {P : List (List Int)} (h : ∀ j, MnL j (P.getD j [])) {a : Nat} {c : Int} (hc : c ∈ chF P a P.length) : c ≠ (a : Int) := fun e => by
  obtain ⟨i, hi, rfl, h1⟩ := chF_mem.1 hc
  obtain ⟨p, e2, hp⟩ := (h i).2 _ h1
  omega
theorem wall_str {P : List (List Int)} (h : ∀ j, MnL j (P.getD j [])) {a : Nat} (ha : a < P.length) {A : List Int} {s : Stp} (hs : StR (nxS P P.length (blR P P.length (a : Int)) A) [(a : Int)] s) :
    s = ((a : Int), false) ∨ (s.2 = false ∧ s.1 ∈ blR P P.length (a : Int)) ∨ (s.2 = true ∧ s.1 ∈ chF P a P.length) := by
  have hchB : ∀ c, c ∈ chF P a P.length → c ∈ blR P P.length (a : Int) := fun c hc => (bl_mem h ha c).2 ⟨ch_ne h hc, Or.inr (Or.inl hc)⟩
  induction hs with
  | start hp => exact Or.inl (by rw [List.mem_singleton.1 hp])
  | @step s t hs ht ih =>
    obtain ⟨tx, td⟩ := t
    rcases nx_mem.1 ht with ⟨h1, h2, h3⟩ | ⟨h1, h2, h3⟩
    · simp only at h2 h3
      rcases ih with e | ⟨e1, e2⟩ | ⟨e1, e2⟩
      · rw [e] at h3
        rw [Int.toNat_natCast] at h3
        exact Or.inr (Or.inr ⟨h2, h3⟩)
      · exact absurd e2 h1
      · exact absurd (hchB _ e2) h1
    · simp only at h2 h3
      rcases ih with e | ⟨e1, e2⟩ | ⟨e1, e2⟩
      · rw [e] at h3
        rw [Int.toNat_natCast] at h3
        refine Or.inr (Or.inl ⟨h2, (bl_mem h ha tx).2 ⟨fun e3 => ?_, Or.inl h3⟩⟩)
        obtain ⟨p, e4, hp⟩ := (h a).2 _ h3
        omega
      · rcases h1 with h4 | h4
        · rw [e1] at h4; simp at h4
        · exact absurd e2 h4.2
      · by_cases e3 : tx = (a : Int)
        · exact Or.inl (by rw [e3, h2])
        · exact Or.inr (Or.inl ⟨h2, (bl_mem h ha tx).2 ⟨e3, Or.inr (Or.inr ⟨_, e2, h3⟩)⟩⟩)
theorem pt1 {n a : Nat} (ha : a < n) : PtsI n [(a : Int)] := fun x hx => ⟨a, List.mem_singleton.1 hx, ha⟩
theorem wall_ends {P : List (List Int)} (h : ∀ j, MnL j (P.getD j [])) {a : Nat} (ha : a < P.length) (A : List Int) : endsL (wkL P P.length [(a : Int)] (blR P P.length (a : Int)) A) (blR P P.length (a : Int)) = [(a : Int)] := by
  have hw := mn_wk h (pt1 ha) (bl_pts h ha)
  refine rise_ext (rise_filter (rise_ofR _) _) (List.pairwise_singleton ..) fun y => ?_
  rw [ends_iff A rfl hw, List.mem_singleton]
  constructor
  · rintro ⟨h1, d, h2⟩
    rcases wall_str h ha h2 with e | ⟨-, e⟩ | ⟨-, e⟩
    · exact congrArg Prod.fst e
    · exact absurd e h1
    · exact absurd ((bl_mem h ha y).2 ⟨ch_ne h e, Or.inr (Or.inl e)⟩) h1
  · rintro rfl
    exact ⟨fun hc => ((bl_mem h ha _).1 hc).1 rfl, false, StR.start (by simp)⟩
theorem but_mem {B : List Int} {i : Nat} {b y : Int} (hb : B[i]? = some b) : (y ∈ B.take i ++ B.drop (i + 1) → y ∈ B) ∧ (y ∈ B → y ≠ b → y ∈ B.take i ++ B.drop (i + 1)) := by
  obtain ⟨hi, e⟩ := List.getElem?_eq_some_iff.1 hb
  have h1 : B = B.take i ++ b :: B.drop (i + 1) := by rw [← e, ← List.drop_eq_getElem_cons hi, List.take_append_drop]
  constructor
  · intro hy
    rcases List.mem_append.1 hy with h2 | h2
    · exact List.mem_of_mem_take h2
    · exact List.mem_of_mem_drop h2
  · intro hy hne
    rw [h1] at hy
    rcases List.mem_append.1 hy with h2 | h2
    · exact List.mem_append_left _ h2
    · rcases List.mem_cons.1 h2 with h3 | h3
      · exact absurd h3 hne
      · exact List.mem_append_right _ h3
theorem but_not {B : List Int} (hB : B.Nodup) {i : Nat} {b : Int} (hb : B[i]? = some b) : b ∉ B.take i ++ B.drop (i + 1) := by
  obtain ⟨hi, e⟩ := List.getElem?_eq_some_iff.1 hb
  have h1 : B = B.take i ++ b :: B.drop (i + 1) := by rw [← e, ← List.drop_eq_getElem_cons hi, List.take_append_drop]
  rw [h1] at hB
  obtain ⟨h2, h3, h4⟩ := List.nodup_append.1 hB
  intro hc
  rcases List.mem_append.1 hc with h5 | h5
  · exact h4 b h5 b (List.mem_cons_self ..) rfl
  · exact (List.nodup_cons.1 h3).1 h5
theorem wall_gap {P : List (List Int)} (h : ∀ j, MnL j (P.getD j [])) {a : Nat} (ha : a < P.length) {i : Nat} {b : Int} (hb : (blR P P.length (a : Int))[i]? = some b) {G A : List Int} (hG : G = (blR P P.length (a : Int)).take i ++ (blR P P.length (a : Int)).drop (i + 1)) (hA : AbvP P G A) : TelP P P.length G A [(a : Int)] b := by
  have hnd : (blR P P.length (a : Int)).Nodup := (bl_rise (P := P) (a : Int)).imp (fun h e => by omega)
  have hbn : b ∉ G := by rw [hG]; exact but_not hnd hb
  have haG : (a : Int) ∉ G := fun hc => by
    rw [hG] at hc
    exact ((bl_mem h ha _).1 ((but_mem hb).1 hc)).1 rfl
  refine ⟨hbn, ?_⟩
  have st : StR (nxS P P.length G A) [(a : Int)] ((a : Int), false) := StR.start (by simp)
  rcases ((bl_mem h ha b).1 (List.mem_of_getElem? hb)).2 with h1 | h1 | ⟨c, hc, h1⟩
  · exact ⟨false, StR.step st (nx_mem.2 (Or.inr ⟨Or.inr ⟨rfl, haG⟩, rfl, by simpa using h1⟩))⟩
  · exact ⟨true, StR.step st (nx_mem.2 (Or.inl ⟨haG, rfl, by simpa using h1⟩))⟩
  · have hcb : c ≠ b := fun e => by
      subst e
      obtain ⟨k, hk, rfl, -⟩ := chF_mem.1 hc
      rw [Int.toNat_natCast] at h1
      obtain ⟨p, e4, hp⟩ := (h k).2 _ h1
      omega
    have hcG : c ∈ G := by
      rw [hG]
      exact (but_mem hb).2 ((bl_mem h ha c).2 ⟨ch_ne h hc, Or.inr (Or.inl hc)⟩) hcb
    have hcA : c ∈ A := (hA.2 c).2 ⟨c, hcG, 0, rfl⟩
    refine ⟨false, StR.step (StR.step (t := (c, true)) st (nx_mem.2 (Or.inl ⟨haG, rfl, by simpa using hc⟩))) (nx_mem.2 (Or.inr ⟨Or.inl ⟨rfl, hcA⟩, rfl, h1⟩))⟩
set_option maxRecDepth 1000000 in
theorem wallBl (P : List (List Int)) (hmn : ∀ j, MnL j (P.getD j [])) (hn : P.length ≤ 30) (a : Nat) (ha : a < P.length) (pv : Value) (pvs : List Value) (w : World) (h : RRD w pv pvs P) :
    Calls Tryz.prog 12 #[pv, .int .i64 (a : Int)] w fun e w' => ∃ v, e = .returned (.tuple #[v, .int .i64 0]) ∧ OG (Value.int .i64) w.heap.size 3 w' v (blR P P.length (a : Int)) ∧ Below w.heap.size w w' := by
  refine (blanketS pv pvs P w h P.length rfl (by omega) (a : Int)).mono ?_
  rintro e w' ⟨v, he, h1, h2⟩
  rw [mn_bl hmn ha] at he
  exact ⟨v, he, h1, h2⟩
set_option maxRecDepth 1000000 in
theorem wallRe (P : List (List Int)) (hmn : ∀ j, MnL j (P.getD j [])) (hn : P.length ≤ 30) (a : Nat) (ha : a < P.length) (pv av qv : Value) (pvs : List Value) (w : World) (h : RRD w pv pvs P) (hav : RG (Value.int .i64) w av [(a : Int)]) (hq : RG (Value.int .i64) w qv (blR P P.length (a : Int))) :
    Calls Tryz.prog 10 #[pv, av, qv] w fun e w' => ∃ v, e = .returned (.tuple #[v, .int .i64 0]) ∧ OG (Value.int .i64) w.heap.size 3 w' v [(a : Int)] ∧ Below w.heap.size w w' := by
  have h0 := mn_wk hmn (pt1 ha) (bl_pts hmn ha)
  have hbl : (blR P P.length (a : Int)).length ≤ P.length := len_nd _ _ ((bl_rise (P := P) (a : Int)).imp (fun h e => by omega)) (bl_pts hmn ha)
  refine (reachP pv av qv pvs P _ _ w h P.length rfl (by omega) hav (by simp) hq (by omega) (fun h1 A s => hdis_any rfl h1 A s)).mono ?_
  rintro e w' ⟨v, he, -, hr, hbw⟩
  rw [h0] at he
  obtain ⟨A, hA, hr2⟩ := hr h0
  rw [wall_ends hmn ha A] at hr2
  exact ⟨v, he, hr2, hbw⟩
set_option maxRecDepth 1000000 in
theorem wallAp (P : List (List Int)) (hmn : ∀ j, MnL j (P.getD j [])) (hn : P.length ≤ 30) (a : Nat) (ha : a < P.length) (i : Nat) (b : Int) (hb : (blR P P.length (a : Int))[i]? = some b) (pv av bv qv : Value) (pvs : List Value) (w : World) (h : RRD w pv pvs P) (hav : RG (Value.int .i64) w av [(a : Int)]) (hbv : RG (Value.int .i64) w bv [b]) (hq : RG (Value.int .i64) w qv ((blR P P.length (a : Int)).take i ++ (blR P P.length (a : Int)).drop (i + 1))) :
    Calls Tryz.prog 9 #[pv, av, bv, qv] w fun e w' => e = .returned (.tuple #[.bool false, .int .i64 0]) ∧ Below w.heap.size w w' := by
  have hpb := bl_pts hmn ha
  have hbl : (blR P P.length (a : Int)).length ≤ P.length := len_nd _ _ ((bl_rise (P := P) (a : Int)).imp (fun h e => by omega)) hpb
  have pG : PtsI P.length ((blR P P.length (a : Int)).take i ++ (blR P P.length (a : Int)).drop (i + 1)) := fun y hy => hpb y ((but_mem hb).1 hy)
  have pb : PtsI P.length [b] := fun y hy => by rw [List.mem_singleton.1 hy]; exact hpb b (List.mem_of_getElem? hb)
  have h0 : apE P P.length [(a : Int)] [b] ((blR P P.length (a : Int)).take i ++ (blR P P.length (a : Int)).drop (i + 1)) = 0 := by unfold apE; rw [mn_wk hmn (pt1 ha) pG, pts_no pb]; rfl
  refine (apartP pv av bv qv pvs P _ _ _ w h P.length rfl (by omega) hav (by simp) hbv (by simp) hq (by rw [List.length_append, List.length_take, List.length_drop]; omega) (fun h1 A s => hdis_any rfl h1 A s)).mono ?_
  rintro e w' ⟨r, he, -, hr, hbw⟩
  rw [h0] at he
  obtain ⟨A, hA, hr2⟩ := hr h0
  have hin := (ends_iff A rfl (mn_wk hmn (pt1 ha) pG) b).2 (wall_gap hmn ha hb rfl hA)
  have hrf : r = false := by
    rw [hr2, decide_eq_false_iff_not, List.length_eq_zero_iff, List.eq_nil_iff_forall_not_mem]
    exact fun hc => hc b ((mem_meetR _ _ _).2 ⟨hin, (mem_ofR ..).2 (by simp)⟩)
  subst hrf
  exact ⟨he, hbw⟩
end Go.Proofs.YtcadljpdokhpmabGreat

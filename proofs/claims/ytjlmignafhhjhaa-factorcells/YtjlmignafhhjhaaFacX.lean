/-
  Proved here: the law's some and abs; what a mended table is.
-/
import Derived.Test.YtjlmignafhhjhaaFacN
namespace Go.Proofs.Ytjlmignafhhjhaa
set_option linter.unusedVariables false
open Go.RowKit Go.Shelf Go.Lib Go.Sort
/-- The values of a variable in a scope. -/
def so1 : List Int → List Int → Int → List Int
  | u :: U, d :: D, v => if u = v then d :: so1 U D v else so1 U D v
  | _, _, _ => []
theorem so1_not : ∀ {U D : List Int} {v : Int}, v ∉ U → so1 U D v = []
  | [], _, _, _ => rfl
  | _ :: _, [], _, _ => rfl
  | u :: U, d :: D, v, h => by
    simp only [List.mem_cons, not_or] at h
    rw [so1, if_neg (fun e => h.1 e.symm), so1_not h.2]
theorem so1_take : ∀ (U D : List Int) (k : Nat) (u d v : Int), U[k]? = some u → D[k]? = some d → so1 (U.take (k + 1)) (D.take (k + 1)) v = so1 (U.take k) (D.take k) v ++ (if u = v then [d] else [])
  | [], _, _, _, _, _, h, _ => by simp at h
  | _ :: _, [], _, _, _, _, _, h => by simp at h
  | x :: U, y :: D, 0, u, d, v, h1, h2 => by
    simp at h1 h2; subst h1; subst h2
    simp [so1]
  | x :: U, y :: D, k + 1, u, d, v, h1, h2 => by
    have ih := so1_take U D k u d v (by simpa using h1) (by simpa using h2)
    simp only [List.take_succ_cons, so1]
    split
    · rw [ih]; rfl
    · exact ih
def someL (U D P : List Int) : List Int := P.flatMap (so1 U D)
theorem some_sel : ∀ (U D P : List Int), D.length = U.length → Rise U → Rise P → (∀ v ∈ P, v ∈ U) → someL U D P = sel (mask U P) D
  | [], [], P, _, _, _, hs => by
    have : P = [] := List.eq_nil_iff_forall_not_mem.2 fun v hv => by have := hs v hv; cases this
    subst this; rfl
  | u :: U, d :: D, P, hl, hU, hP, hs => by
    have hl' : D.length = U.length := by simpa using hl
    have hnu : u ∉ U := fun h => by have := hU.head u h; omega
    by_cases hu : u ∈ P
    · obtain ⟨P', rfl⟩ : ∃ P', P = u :: P' := by
        cases P with
        | nil => cases hu
        | cons p P' =>
          rcases List.mem_cons.1 hu with e | e
          · exact ⟨P', by rw [e]⟩
          · have h1 := hP.head u e
            rcases List.mem_cons.1 (hs p (List.mem_cons_self ..)) with e2 | e2
            · omega
            · have := hU.head p e2; omega
      have hP' : ∀ v ∈ P', v ∈ U := fun v hv => by
        rcases List.mem_cons.1 (hs v (List.mem_cons_of_mem _ hv)) with e | e
        · have := hP.head v hv; omega
        · exact e
      have ih := some_sel U D P' hl' hU.tail hP.tail hP'
      have h1 : someL (u :: U) (d :: D) (u :: P') = d :: someL U D P' := by
        unfold someL
        rw [List.flatMap_cons, so1, if_pos rfl, so1_not hnu]
        have : P'.flatMap (so1 (u :: U) (d :: D)) = P'.flatMap (so1 U D) := by
          rw [List.flatMap_def, List.flatMap_def]
          congr 1
          apply List.map_congr_left
          intro v hv
          rw [so1, if_neg (fun e => by have := hP.head v hv; omega)]
        rw [this]; rfl
      have h2 : mask (u :: U) (u :: P') = true :: mask U P' := by
        unfold mask
        rw [List.map_cons]
        congr 1
        · simp
        · apply List.map_congr_left
          intro v hv
          have : v ≠ u := fun e => hnu (e ▸ hv)
          simp [this]
      rw [h1, h2, ih]; rfl
    · have hP' : ∀ v ∈ P, v ∈ U := fun v hv => by
        rcases List.mem_cons.1 (hs v hv) with e | e
        · exact absurd (e ▸ hv) hu
        · exact e
      have ih := some_sel U D P hl' hU.tail hP hP'
      have h1 : someL (u :: U) (d :: D) P = someL U D P := by
        unfold someL
        rw [List.flatMap_def, List.flatMap_def]
        congr 1
        apply List.map_congr_left
        intro v hv
        rw [so1, if_neg (show ¬ u = v from fun e => hu (by rw [e]; exact hv))]
      have h2 : mask (u :: U) P = false :: mask U P := by simp [mask, hu]
      rw [h1, h2, ih]; rfl
theorem flat_take (f : Int → List Int) (P : List Int) (i : Nat) (v : Int) (h : P[i]? = some v) : (P.take (i + 1)).flatMap f = (P.take i).flatMap f ++ f v := by
  obtain ⟨hi, e⟩ := List.getElem?_eq_some_iff.1 h
  rw [List.take_succ_eq_append_getElem hi, List.flatMap_append, e]; simp
theorem so1_len : ∀ (U D : List Int) (v : Int), (so1 U D v).length ≤ U.length
  | [], _, _ => by simp [so1]
  | _ :: _, [], _ => by simp [so1]
  | u :: U, d :: D, v => by
    have := so1_len U D v
    unfold so1
    split
    · simp; omega
    · simp; omega
theorem some_len (U D : List Int) : ∀ P : List Int, (P.flatMap (so1 U D)).length ≤ P.length * U.length
  | [] => by simp
  | p :: P => by
    have := some_len U D P
    have := so1_len U D p
    rw [List.flatMap_cons, List.length_append, List.length_cons, Nat.add_mul, Nat.one_mul]
    omega
set_option maxRecDepth 100000 in
set_option maxHeartbeats 6400000 in
theorem someF (s v p : Value) (U D P : List Int) (w : World) (hs : RG (Value.int .i64) w s U) (hv : RG (Value.int .i64) w v D) (hp : RG (Value.int .i64) w p P) (hl : D.length = U.length) (hU8 : U.length ≤ 100) (hP8 : P.length ≤ 100) :
    Calls Try.prog 32 #[s, v, p] w fun e w' => ∃ o n c, e = .returned (.slice o n c) ∧ OG (Value.int .i64) w.heap.size 3 w' (.slice o n c) (someL U D P) ∧ Below w.heap.size w w' := by
  obtain ⟨ao, ac, rfl, ha1, ha2, -, hacell⟩ := hs
  obtain ⟨bo, bc, rfl, hb1, hb2, -, hbcell⟩ := hv
  obtain ⟨co, cc, rfl, hc1, hc2, -, hccell⟩ := hp
  unfold maxLen at ha2 hb2 hc2
  obtain ⟨n, hn⟩ : ∃ n, U.length = n := ⟨_, rfl⟩
  obtain ⟨m, hm⟩ : ∃ n, P.length = n := ⟨_, rfl⟩
  rw [hl, hn] at hb1 ⊢
  rw [hn] at ha1 hU8
  rw [hm] at hc1 hP8 ⊢
  have HA : Hid (∀ i x, U[i]? = some x → ∃ g o, ao = some ⟨g, o, none⟩ ∧ w.cell? ⟨g, o + i, none⟩ = some (Value.int .i64 x)) := hacell
  have HBc : Hid (∀ i x, D[i]? = some x → ∃ g o, bo = some ⟨g, o, none⟩ ∧ w.cell? ⟨g, o + i, none⟩ = some (Value.int .i64 x)) := hbcell
  have HC : Hid (∀ i x, P[i]? = some x → ∃ g o, co = some ⟨g, o, none⟩ ∧ w.cell? ⟨g, o + i, none⟩ = some (Value.int .i64 x)) := hccell
  have HN : Hid (U.length = n ∧ D.length = n ∧ P.length = m) := ⟨hn, hl.trans hn, hm⟩
  have HLB : Hid (∀ i k v, ((P.take i).flatMap (so1 U D) ++ so1 (U.take k) (D.take k) v).length ≤ 100000) := fun i k v => by
    have h1 := some_len U D (P.take i)
    have h2 := so1_len (U.take k) (D.take k) v
    have h3 : (P.take i).length * U.length ≤ 100 * 100 := Nat.mul_le_mul (by rw [List.length_take]; omega) (by omega)
    have h4 : (U.take k).length ≤ 100 := by rw [List.length_take]; omega
    rw [List.length_append]; omega
  obtain ⟨i0, hi, hz0, hz1', hz2'⟩ := info_parts infoI
  clear hacell hbcell hccell hn hm hl
  go_enter Try.func32, Try.ntmps32
  go_wp2
  go_loopg [7, 8] m (fun g1 v7 v8 wr => ∃ (i : Nat) (o : Option Addr) (l c : Nat), v8 = .int .i64 i ∧ v7 = .slice o l c ∧ i ≤ m ∧ m - i ≤ g1 ∧ Hid (OG (Value.int .i64) w.heap.size 3 wr (.slice o l c) ((P.take i).flatMap (so1 U D)) ∧ Below w.heap.size w wr))
  case atStart => exact ⟨0, none, 0, 0, rfl, rfl, by omega, by omega, OG.nil _ _ _, Below.refl _ _⟩
  case round =>
    obtain ⟨i, o, l, c, rfl, rfl, him, hg1, HI⟩ := hrel
    by_cases hlt : i < m
    · have hltz : (i : Int) < (m : Int) := by omega
      obtain ⟨v, hv⟩ : ∃ v, P[i]? = some v := ⟨_, List.getElem?_eq_getElem (by rw [HN.out.2.2]; exact hlt)⟩
      have HFT : Hid ((P.take (i + 1)).flatMap (so1 U D) = (P.take i).flatMap (so1 U D) ++ so1 U D v) := flat_take _ P i v hv
      obtain ⟨pg, po, rfl, cp⟩ := HC.out i v hv
      have HCP : Hid (w.cell? ⟨pg, po + i, none⟩ = some (.int .i64 v)) := cp
      have HJ : Hid (OG (Value.int .i64) w.heap.size 3 wr (.slice o l c) ((P.take i).flatMap (so1 U D) ++ so1 (U.take 0) (D.take 0) v) ∧ Below w.heap.size w wr) := by
        rw [show so1 (U.take 0) (D.take 0) v = [] from rfl, List.append_nil]; exact HI
      clear hv cp HI
      go_wp2
      go_loopg [7, 9] n (fun g2 v7 v9 wr => ∃ (k : Nat) (o : Option Addr) (l c : Nat), v9 = .int .i64 k ∧ v7 = .slice o l c ∧ k ≤ n ∧ n - k ≤ g2 ∧ Hid (OG (Value.int .i64) w.heap.size 3 wr (.slice o l c) ((P.take i).flatMap (so1 U D) ++ so1 (U.take k) (D.take k) v) ∧ Below w.heap.size w wr))
      case atStart => exact ⟨0, _, _, _, rfl, rfl, by omega, by omega, HJ⟩
      case round =>
        clear HJ
        obtain ⟨k, o, l, c, rfl, rfl, hkn, hg2, HI⟩ := hrel
        by_cases hlt2 : k < n
        · have hlt2z : (k : Int) < (n : Int) := by omega
          obtain ⟨u, hu⟩ : ∃ v, U[k]? = some v := ⟨_, List.getElem?_eq_getElem (by rw [HN.out.1]; exact hlt2)⟩
          obtain ⟨d, hd⟩ : ∃ v, D[k]? = some v := ⟨_, List.getElem?_eq_getElem (by rw [HN.out.2.1]; exact hlt2)⟩
          have HST : Hid (so1 (U.take (k + 1)) (D.take (k + 1)) v = so1 (U.take k) (D.take k) v ++ (if u = v then [d] else [])) := so1_take U D k u d v hu hd
          obtain ⟨ag, aof, rfl, ca⟩ := HA.out k u hu
          obtain ⟨bg, bof, rfl, cb⟩ := HBc.out k d hd
          have ca1 := keepR HI.out.2 ca
          have cb1 := keepR HI.out.2 cb
          have cp1 := keepR HI.out.2 HCP.out
          clear hu hd ca cb
          by_cases huv : u = v
          · have heq : (u == v) = true := by simpa using huv
            obtain ⟨wq, hwq⟩ : ∃ x, wr.drew = x := ⟨_, rfl⟩
            have cb2 : wr.drew.cell? ⟨bg, bof + k, none⟩ = some (.int .i64 d) := cb1
            obtain ⟨WA, hWA⟩ : ∃ u, u = (wr.alloc (.cells #[.int .i64 d] 3)).drew := ⟨_, rfl⟩
            have bA : Below wr.heap.size wr WA := by rw [hWA]; exact (belowB _ _).drew
            have HOA : Hid (OG (Value.int .i64) w.heap.size 3 WA (.slice o l c) ((P.take i).flatMap (so1 U D) ++ so1 (U.take k) (D.take k) v) ∧ Below w.heap.size w WA) := ⟨HI.out.1.below bA, bstepB HI.out.2 bA⟩
            have cbA : WA.cell? ⟨wr.heap.size, 0, none⟩ = some (.int .i64 d) := by rw [hWA]; show (wr.alloc (.cells #[.int .i64 d] 3)).cell? _ = _; rw [World.cell?_alloc_at _ _ _ _ rfl]; rfl
            have HCA : Hid (WA.cell? ⟨wr.heap.size, 0, none⟩ = some (.int .i64 d)) := cbA
            have HWA : Hid (WA = (wr.alloc (.cells #[.int .i64 d] 3)).drew) := hWA
            have hLB := HLB.out i k v
            clear hWA bA cbA hwq wq HI
            go_wp2_with fail
            go_region
            all_goals
              go_wp2_with (at_builtin; refine wpList_push1 (w := (wr.alloc (.cells #[.int .i64 d] 3)).drew) rfl _ _ 22 rfl w.heap.size 3 i0 Try.underlying22 hi hz0 hz1' hz2' _ ((P.take i).flatMap (so1 U D) ++ so1 (U.take k) (D.take k) v) rfl (by rw [← HWA.out]; exact HOA.out.1) wr.heap.size d rfl (by rw [← HWA.out]; exact HCA.out) (by omega) (by rw [← HWA.out]; exact HOA.out.2.size) ?_)
              intro ng nk nc WB ho hg hgg hlt9
              rw [← HWA.out] at hg
              have HNX : Hid (OG (Value.int .i64) w.heap.size 3 WB (.slice (some ⟨ng, 0, none⟩) nk nc) ((P.take i).flatMap (so1 U D) ++ so1 (U.take (k + 1)) (D.take (k + 1)) v) ∧ Below w.heap.size w WB) := by
                refine ⟨?_, HOA.out.1.grown HOA.out.2 HOA.out.2.size hg⟩
                rw [HST.out, if_pos huv]; exact ho
              clear ho hg hgg hlt9 HOA HCA HST
              go_wp2
              go_roundg (n - (k + 1))
              case measure => omega
              case rel => exact ⟨k + 1, _, _, _, by go_num, rfl, by omega, Nat.le_refl _, HNX⟩
          · have heq : (u == v) = false := by simpa using huv
            have HNX : Hid (OG (Value.int .i64) w.heap.size 3 wr.drew (.slice o l c) ((P.take i).flatMap (so1 U D) ++ so1 (U.take (k + 1)) (D.take (k + 1)) v) ∧ Below w.heap.size w wr.drew) := by
              refine ⟨?_, HI.out.2.drew⟩
              rw [HST.out, if_neg huv, List.append_nil]
              exact HI.out.1.of_blocks fun _ _ => rfl
            clear HI HST
            go_wp2_with fail
            go_region
            all_goals
              go_wp2
              go_roundg (n - (k + 1))
              case measure => omega
              case rel => exact ⟨k + 1, _, _, _, by go_num, rfl, by omega, Nat.le_refl _, HNX⟩
        · have hlt2z : ¬ (k : Int) < (n : Int) := by omega
          have HNX : Hid (OG (Value.int .i64) w.heap.size 3 wr (.slice o l c) ((P.take (i + 1)).flatMap (so1 U D)) ∧ Below w.heap.size w wr) := by
            refine ⟨?_, HI.out.2⟩
            have := HI.out.1
            rw [List.take_of_length_le (l := U) (i := k) (by rw [HN.out.1]; omega), List.take_of_length_le (l := D) (i := k) (by rw [HN.out.2.1]; omega)] at this
            rw [HFT.out]; exact this
          clear HI
          go_wp2
          go_roundg (m - (i + 1))
          case measure => omega
          case rel => exact ⟨i + 1, _, _, _, by go_num, rfl, by omega, Nat.le_refl _, HNX⟩
    · have hltz : ¬ (i : Int) < (m : Int) := by omega
      have HE : Hid (OG (Value.int .i64) w.heap.size 3 wr (.slice o l c) (someL U D P) ∧ Below w.heap.size w wr) := by
        refine ⟨?_, HI.out.2⟩
        have := HI.out.1
        rw [List.take_of_length_le (by rw [HN.out.2.2]; omega)] at this
        exact this
      clear HI
      go_wp2
      go_ret
      exact ⟨_, _, _, rfl, HE.out.1, HE.out.2⟩
set_option maxHeartbeats 1600000 in
theorem absF (x : Int) (w : World) (h1 : -9223372036854775808 ≤ x) (h2 : x ≤ 9223372036854775807) : Calls Try.prog 30 #[.int .i64 x] w fun e w' => ∃ k : Nat, e = .returned (.int .i64 (k : Int)) ∧ k ≤ 1000 ∧ w' = w := by
  obtain ⟨r, hr⟩ : ∃ r, x.tmod 1001 = r := ⟨_, rfl⟩
  have hr1 : -1001 < r ∧ r < 1001 := by rw [← hr]; have := Int.tmod_lt_of_pos x (b := 1001) (by decide); have := Int.lt_tmod_of_pos x (b := 1001) (by decide); omega
  have hw : IntKind.i64.wrap r = r := by rw [IntKind.wrap_i64]; omega
  by_cases hneg : r < 0
  · have hw2 : IntKind.i64.wrap (-r) = -r := by rw [IntKind.wrap_i64]; omega
    go_enter Try.func30, Try.ntmps30
    go_wp2
    go_ret
    exact ⟨(-r).toNat, by rw [show (((-r).toNat : Nat) : Int) = -r by omega]; rfl, by omega, rfl⟩
  · go_enter Try.func30, Try.ntmps30
    go_wp2
    go_ret
    exact ⟨r.toNat, by rw [show ((r.toNat : Nat) : Int) = r by omega]; rfl, by omega, rfl⟩
end Go.Proofs.Ytjlmignafhhjhaa

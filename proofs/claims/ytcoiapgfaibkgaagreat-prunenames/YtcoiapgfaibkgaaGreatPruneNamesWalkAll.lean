/-
  Proved here: layer 16's law: alive: in the square two sides are apart given the top, and not given the bottom too.
  Proved here: layer 17's law: alive: of the chapter's points what hangs on nothing is left out; given the first, what is beyond it.
  Proved here: layer 17's law: alive answers true.
  Proved here: the closed law of layer 17 returns true.
-/
import Derived.Test.YtcoiapgfaibkgaaGreatSpZAll
import Derived.Test.YtcoiapgfaibkgaaGreatSpLAll
import Derived.Test.YtcoiapgfaibkgaaGreatPrC
namespace Go.Proofs.YtcoiapgfaibkgaaGreat
set_option linter.unusedVariables false
open Go.RowKit Go.Shelf Go.Sort Go.Lib
set_option maxRecDepth 100000 in
set_option maxHeartbeats 1600000 in
theorem sameL16 (u v : Value) (xs ys : List Int) (w : World) (hu : RG (Value.int .i64) w u xs) (hv : RG (Value.int .i64) w v ys) :
    Calls Tryz.prog 46 #[u, v] w fun e w' => e = .returned (.bool (decide (xs = ys))) ∧ ∃ q, w' = w.drewN q := by
  obtain ⟨uo, un, uc, rfl⟩ : ∃ o n c, u = .slice o n c := by obtain ⟨ao, cap, e⟩ := hu.sl; exact ⟨_, _, _, e⟩
  obtain ⟨vo, vn, vc, rfl⟩ : ∃ o n c, v = .slice o n c := by obtain ⟨ao, cap, e⟩ := hv.sl; exact ⟨_, _, _, e⟩
  have hum : un ≤ 9223372036854775807 := by have := hu.room.2.1; have := hu.room.1; unfold maxLen at *; omega
  have HU : Hid (RG (Value.int .i64) w (.slice uo un uc) xs) := hu
  have HV : Hid (RG (Value.int .i64) w (.slice vo vn vc) ys) := hv
  have HUL : Hid (xs.length = un) := hu.len
  have HVL : Hid (ys.length = vn) := hv.len
  clear hu hv
  by_cases hne : un = vn
  · subst hne
    go_enter Tryz.func46, Tryz.ntmps46
    go_wp2
    go_loopg [5] un (fun g1 v5 wr => ∃ k q : Nat, v5 = .int .i64 k ∧ k ≤ un ∧ un - k ≤ g1 ∧ Hid (xs.take k = ys.take k) ∧ Hid (wr = w.drewN q))
    case atStart => exact ⟨0, 0, rfl, by omega, by omega, rfl, rfl⟩
    case round =>
      obtain ⟨k, q0, rfl, hkn, hg1, HA, HQ⟩ := hrel
      have HU2 : Hid (RG (Value.int .i64) wr (.slice uo un uc) xs) := by rw [HQ.out]; exact HU.out.drewN q0
      have HV2 : Hid (RG (Value.int .i64) wr (.slice vo un vc) ys) := by rw [HQ.out]; exact HV.out.drewN q0
      by_cases hlt : k < un
      · have hltz : (k : Int) < (un : Int) := by omega
        obtain ⟨x, gx, ox, hx1, rfl, hx2⟩ := HU2.out.at hlt
        obtain ⟨y, gy, oy, hy1, rfl, hy2⟩ := HV2.out.at hlt
        by_cases he : x = y
        · have HA2 : Hid (xs.take (k + 1) = ys.take (k + 1)) := by show _ = _; rw [List.take_add_one, List.take_add_one, hx1, hy1, HA.out, he]
          have hez : (x != y) = false := by simpa using he
          clear he hx1 hy1 HA
          go_wp2
          go_quiet (fail)
          clear hx2 hy2
          go_wp2
          go_roundg (un - (k + 1))
          case measure => omega
          case rel => exact ⟨k + 1, _, by first | rfl | go_num, by omega, Nat.le_refl _, HA2, by show _ = _; rw [HQ.out]; exact drewR_add _ _ _⟩
        · have HE : Hid (decide (xs = ys) = false) := decide_eq_false fun e => he (by rw [e, hy1] at hx1; exact (Option.some.inj hx1).symm)
          have hez : (x != y) = true := by simpa using he
          clear he hx1 hy1 HA
          go_wp2
          go_quiet (fail)
          clear hx2 hy2
          go_wp2
          go_ret
          exact ⟨by rw [HE.out]; rfl, _, by rw [HQ.out]; exact drewR_add _ _ _⟩
      · have hltz : ¬ (k : Int) < (un : Int) := by omega
        have HE : Hid (decide (xs = ys) = true) := decide_eq_true (by
          have := HA.out
          rw [List.take_of_length_le (by rw [HUL.out]; omega), List.take_of_length_le (by rw [HVL.out]; omega)] at this
          exact this)
        clear HA
        go_wp2
        go_ret
        exact ⟨by rw [HE.out]; rfl, _, HQ.out⟩
  · have HE : Hid (decide (xs = ys) = false) := decide_eq_false fun e => hne (by rw [← HUL.out, ← HVL.out, e])
    have hnz : ((un : Int) != (vn : Int)) = true := by simp; omega
    clear hne
    go_enter Tryz.func46, Tryz.ntmps46
    go_wp2
    go_ret
    exact ⟨by rw [HE.out]; rfl, 0, rfl⟩
def p5 : List (List Int) := [[], [0], [0], [1, 2], [3]]
theorem p5_ck : ckE p5 = 0 := by decide +kernel
theorem abv_of {P : List (List Int)} {G A B : List Int} (h : AbvP P G A) (hB : B.Pairwise (· < ·)) (h1 : ∀ x ∈ G, x ∈ B) (h2 : ∀ x ∈ B, ∀ y ∈ P.getD x.toNat [], y ∈ B) (h3 : ∀ x ∈ B, RchP P G x) : A = B := by
  refine rise_ext h.1 hB fun z => (h.2 z).trans ⟨?_, h3 z⟩
  rintro ⟨x, hx, m, hm⟩
  have key : ∀ (m : Nat) (x : Int), x ∈ B → Rn P m x z → z ∈ B := by
    intro m
    induction m with
    | zero => intro x hx hr; have e : x = z := hr
              rw [← e]; exact hx
    | succ m ih => rintro x hx ⟨u, hu, hr⟩; exact ih u (h2 x hx u hu) hr
  exact key m x (h1 x hx) hm
theorem p5_top {A : List Int} (h : AbvP p5 [0] A) : A = [0] := abv_of h (by decide) (by decide) (by decide) (fun x hx => by
  have e : x = 0 := by simpa using hx
  subst e; exact ⟨0, by simp, 0, rfl⟩)
theorem p5_two {A : List Int} (h : AbvP p5 [0, 4] A) : A = [0, 1, 2, 3, 4] := abv_of h (by decide) (by decide) (by decide) (fun x hx => by
  simp only [List.mem_cons, List.not_mem_nil, or_false] at hx
  rcases hx with e | e | e | e | e
  · subst e; exact ⟨0, by simp, 0, rfl⟩
  · subst e; exact ⟨4, by simp, 2, 3, by decide, 1, by decide, rfl⟩
  · subst e; exact ⟨4, by simp, 2, 3, by decide, 2, by decide, rfl⟩
  · subst e; exact ⟨4, by simp, 1, 3, by decide, rfl⟩
  · subst e; exact ⟨4, by simp, 0, rfl⟩)
theorem cR (w : World) (zs : List Int) (hl : zs.length ≤ 1000) : RG (Value.int .i64) (w.alloc (.cells (zs.map (Value.int .i64)).toArray 3)) (.slice (some ⟨w.heap.size, 0, none⟩) zs.length zs.length) zs := (OG.lit (enc := Value.int .i64) 3 w zs (by unfold maxLen; omega)).rg
theorem lit3 (w : World) (a b c : List Int) (ha : a.length ≤ 1000) (hb : b.length ≤ 1000) (hc : c.length ≤ 1000) : ∃ W, W = ((w.alloc (.cells (a.map (Value.int .i64)).toArray 3)).alloc (.cells (b.map (Value.int .i64)).toArray 3)).alloc (.cells (c.map (Value.int .i64)).toArray 3) ∧ RG (Value.int .i64) W (.slice (some ⟨w.heap.size, 0, none⟩) a.length a.length) a ∧ RG (Value.int .i64) W (.slice (some ⟨w.heap.size + 1, 0, none⟩) b.length b.length) b ∧ RG (Value.int .i64) W (.slice (some ⟨w.heap.size + 1 + 1, 0, none⟩) c.length c.length) c ∧ Below w.heap.size w W := by
  have r1 := cR w a ha
  have r2 := cR (w.alloc (.cells (a.map (Value.int .i64)).toArray 3)) b hb
  have r3 := cR ((w.alloc (.cells (a.map (Value.int .i64)).toArray 3)).alloc (.cells (b.map (Value.int .i64)).toArray 3)) c hc
  have e1 : (w.alloc (.cells (a.map (Value.int .i64)).toArray 3)).heap.size = w.heap.size + 1 := by simp
  have e2 : ((w.alloc (.cells (a.map (Value.int .i64)).toArray 3)).alloc (.cells (b.map (Value.int .i64)).toArray 3)).heap.size = w.heap.size + 1 + 1 := by simp
  rw [e1] at r2
  rw [e2] at r3
  exact ⟨_, rfl, (r1.alloc _).alloc _, r2.alloc _, r3, bstepB (bstepB (belowB _ _) (belowB _ _)) (belowB _ _)⟩
theorem lit2 (w : World) (a b : List Int) (ha : a.length ≤ 1000) (hb : b.length ≤ 1000) : ∃ W, W = (w.alloc (.cells (a.map (Value.int .i64)).toArray 3)).alloc (.cells (b.map (Value.int .i64)).toArray 3) ∧ RG (Value.int .i64) W (.slice (some ⟨w.heap.size, 0, none⟩) a.length a.length) a ∧ RG (Value.int .i64) W (.slice (some ⟨w.heap.size + 1, 0, none⟩) b.length b.length) b ∧ Below w.heap.size w W := by
  have r1 := cR w a ha
  have r2 := cR (w.alloc (.cells (a.map (Value.int .i64)).toArray 3)) b hb
  have e1 : (w.alloc (.cells (a.map (Value.int .i64)).toArray 3)).heap.size = w.heap.size + 1 := by simp
  rw [e1] at r2
  exact ⟨_, rfl, r1.alloc _, r2, bstepB (belowB _ _) (belowB _ _)⟩
theorem lit1 (w : World) (a : List Int) (ha : a.length ≤ 1000) : ∃ W, W = w.alloc (.cells (a.map (Value.int .i64)).toArray 3) ∧ RG (Value.int .i64) W (.slice (some ⟨w.heap.size, 0, none⟩) a.length a.length) a ∧ Below w.heap.size w W := ⟨_, rfl, cR w a ha, belowB _ _⟩
set_option maxRecDepth 1000000 in
set_option maxHeartbeats 3200000 in
theorem small16 (w : World) : Calls Tryz.prog 44 #[] w fun e w' => ∃ so pvs, e = .returned (.slice (some ⟨so, 0, none⟩) 5 5) ∧ RRD w' (.slice (some ⟨so, 0, none⟩) 5 5) pvs p5 ∧ Below w.heap.size w w' := by
  obtain ⟨W3, h3, r1, r2, r3, b3⟩ := lit3 w [0] [0] [1, 2] (by decide) (by decide) (by decide)
  obtain ⟨W4, h4, r4, b4⟩ := lit1 W3 [3] (by decide)
  have s3 : W3.heap.size = w.heap.size + 1 + 1 + 1 := by rw [h3]; simp
  rw [s3] at r4
  have ho := OG.lit (enc := id) 23 W4 [Value.slice none 0 0, .slice (some ⟨w.heap.size, 0, none⟩) 1 1, .slice (some ⟨w.heap.size + 1, 0, none⟩) 1 1, .slice (some ⟨w.heap.size + 1 + 1, 0, none⟩) 2 2, .slice (some ⟨w.heap.size + 1 + 1 + 1, 0, none⟩) 1 1] (by simp [maxLen])
  have s4 : W4.heap.size = w.heap.size + 1 + 1 + 1 + 1 := by rw [h4]; simp [s3]
  obtain ⟨W5, h5⟩ : ∃ W, W = W4.alloc (.cells #[.slice none 0 0, .slice (some ⟨w.heap.size, 0, none⟩) 1 1, .slice (some ⟨w.heap.size + 1, 0, none⟩) 1 1, .slice (some ⟨w.heap.size + 1 + 1, 0, none⟩) 2 2, .slice (some ⟨w.heap.size + 1 + 1 + 1, 0, none⟩) 1 1] 23) := ⟨_, rfl⟩
  have hr : RRD W5 (.slice (some ⟨w.heap.size + 1 + 1 + 1 + 1, 0, none⟩) 5 5) [Value.slice none 0 0, .slice (some ⟨w.heap.size, 0, none⟩) 1 1, .slice (some ⟨w.heap.size + 1, 0, none⟩) 1 1, .slice (some ⟨w.heap.size + 1 + 1, 0, none⟩) 2 2, .slice (some ⟨w.heap.size + 1 + 1 + 1, 0, none⟩) 1 1] p5 := by
    refine ⟨?_, rfl, fun i x hx => ?_⟩
    · rw [h5]; have := ho.rg; rw [s4] at this; exact this
    · rw [h5]
      have b5 := belowB W4 (.cells #[.slice none 0 0, .slice (some ⟨w.heap.size, 0, none⟩) 1 1, .slice (some ⟨w.heap.size + 1, 0, none⟩) 1 1, .slice (some ⟨w.heap.size + 1 + 1, 0, none⟩) 2 2, .slice (some ⟨w.heap.size + 1 + 1 + 1, 0, none⟩) 1 1] 23)
      match i, hx with
      | 0, hx => simp at hx; subst hx; exact RG.nil _
      | 1, hx => simp at hx; subst hx; exact (r1.below (Nat.le_refl _) b4).below (Nat.le_refl _) b5
      | 2, hx => simp at hx; subst hx; exact (r2.below (Nat.le_refl _) b4).below (Nat.le_refl _) b5
      | 3, hx => simp at hx; subst hx; exact (r3.below (Nat.le_refl _) b4).below (Nat.le_refl _) b5
      | 4, hx => simp at hx; subst hx; exact r4.below (Nat.le_refl _) b5
  have hb : Below w.heap.size w W5 := by rw [h5]; exact bstepB (bstepB b3 b4) (belowB _ _)
  have HR : Hid (∃ pvs, RRD W5 (.slice (some ⟨w.heap.size + 1 + 1 + 1 + 1, 0, none⟩) 5 5) pvs p5) := ⟨_, hr⟩
  have HB : Hid (Below w.heap.size w W5) := hb
  have HW : Hid (W5 = ((((w.alloc (.cells #[.int .i64 0] 3)).alloc (.cells #[.int .i64 0] 3)).alloc (.cells #[.int .i64 1, .int .i64 2] 3)).alloc (.cells #[.int .i64 3] 3)).alloc (.cells #[.slice none 0 0, .slice (some ⟨w.heap.size, 0, none⟩) 1 1, .slice (some ⟨w.heap.size + 1, 0, none⟩) 1 1, .slice (some ⟨w.heap.size + 1 + 1, 0, none⟩) 2 2, .slice (some ⟨w.heap.size + 1 + 1 + 1, 0, none⟩) 1 1] 23)) := by show _ = _; rw [h5, h4, h3]; rfl
  clear h3 h4 h5 r1 r2 r3 r4 b3 b4 s3 s4 ho hr hb W3 W4
  go_enter Tryz.func44, Tryz.ntmps44
  go_wp2
  go_ret
  obtain ⟨pvs, hr⟩ := HR.out
  rw [← HW.out]
  exact ⟨_, pvs, rfl, hr, HB.out⟩
end Go.Proofs.YtcoiapgfaibkgaaGreat

namespace Go.Proofs.YtcoiapgfaibkgaaGreat
set_option linter.unusedVariables false
open Go.RowKit Go.Shelf Go.Sort Go.Lib
def p17 : List (List Int) := [[], [0], [1], [1], [3]]
theorem p17_ck : ckE p17 = 0 := by decide +kernel
theorem n17a : nsE p17 5 ([2] ++ []) = 0 := by decide +kernel
theorem n17b : nsE p17 5 ([2] ++ [1, 4]) = 0 := by decide +kernel
theorem n17c : nsE p17 5 ([2] ++ [4]) = 0 := by decide +kernel
theorem a17a {x : Int} (h : RchP p17 ([2] ++ []) x) : x ∈ [(0 : Int), 1, 2] := by
  obtain ⟨A, hA⟩ := abv_ex (P := p17) (G := [2] ++ []) (outs_no (cl_zero (ck_zero p17_ck)).1) (by decide +kernel)
  have e := abv_of hA (B := [0, 1, 2]) (by decide) (by decide) (by decide) (fun x hx => by
    simp only [List.mem_cons, List.not_mem_nil, or_false] at hx
    rcases hx with e | e | e
    · subst e; exact ⟨2, by simp, 2, 1, by decide, 0, by decide, rfl⟩
    · subst e; exact ⟨2, by simp, 1, 1, by decide, rfl⟩
    · subst e; exact ⟨2, by simp, 0, rfl⟩)
  rw [← e]; exact (hA.2 x).2 h
theorem r17a {x : Int} (hx : x ∈ [(0 : Int), 1, 2]) : RchP p17 ([2] ++ []) x := by
  simp only [List.mem_cons, List.not_mem_nil, or_false] at hx
  rcases hx with e | e | e
  · subst e; exact ⟨2, by simp, 2, 1, by decide, 0, by decide, rfl⟩
  · subst e; exact ⟨2, by simp, 1, 1, by decide, rfl⟩
  · subst e; exact ⟨2, by simp, 0, rfl⟩
theorem r17c {x : Int} (hx : x ∈ [(0 : Int), 1, 2, 3, 4]) : RchP p17 ([2] ++ [4]) x := by
  simp only [List.mem_cons, List.not_mem_nil, or_false] at hx
  rcases hx with e | e | e | e | e
  · subst e; exact ⟨2, by simp, 2, 1, by decide, 0, by decide, rfl⟩
  · subst e; exact ⟨2, by simp, 1, 1, by decide, rfl⟩
  · subst e; exact ⟨2, by simp, 0, rfl⟩
  · subst e; exact ⟨4, by simp, 1, 3, by decide, rfl⟩
  · subst e; exact ⟨4, by simp, 0, rfl⟩
/-- What is above 1 and 4, the new points too. -/
theorem w17 {A : List Int} (h : AbvP (wiP p17) [1, 4] A) : A = [0, 1, 3, 4, 5, 6, 8, 9] := abv_of h (by decide) (by decide) (by decide) (fun x hx => by
  simp only [List.mem_cons, List.not_mem_nil, or_false] at hx
  rcases hx with e | e | e | e | e | e | e | e
  · subst e; exact ⟨1, by simp, 1, 0, by decide, rfl⟩
  · subst e; exact ⟨1, by simp, 0, rfl⟩
  · subst e; exact ⟨4, by simp, 1, 3, by decide, rfl⟩
  · subst e; exact ⟨4, by simp, 0, rfl⟩
  · subst e; exact ⟨1, by simp, 2, 0, by decide, 5, by decide, rfl⟩
  · subst e; exact ⟨1, by simp, 1, 6, by decide, rfl⟩
  · subst e; exact ⟨4, by simp, 2, 3, by decide, 8, by decide, rfl⟩
  · subst e; exact ⟨4, by simp, 1, 9, by decide, rfl⟩)
theorem e17 : endsL (wkL (wiP p17) 10 [2] [1, 4] [0, 1, 3, 4, 5, 6, 8, 9]) [1, 4] = [2, 7] := by decide +kernel
theorem t17 (k : Nat) (hk : k < 5) : TabM p17 [2] [1, 4] (k : Int) ↔ k = 2 := by
  obtain ⟨A, hA⟩ := abv_ex (P := wiP p17) (G := [1, 4]) (outs_no (cl_zero (ck_zero ((wi_ext p17_ck).ck p17_ck))).1) (by decide +kernel)
  have h := wi_told (a := [2]) p17_ck (by decide +kernel) (by decide +kernel) hA (k := k) (by exact hk)
  rw [← h, w17 hA]
  show ((5 + k : Nat) : Int) ∈ endsL (wkL (wiP p17) 10 [2] [1, 4] [0, 1, 3, 4, 5, 6, 8, 9]) [1, 4] ↔ _
  rw [e17]
  simp only [List.mem_cons, List.not_mem_nil, or_false]
  omega
theorem k17 {Q : Int → Prop} {L M : List Int} (h : Rise L ∧ ∀ x, x ∈ L ↔ Q x) (hM : M.Pairwise (· < ·)) (hq : ∀ x, Q x ↔ x ∈ M) : L = M := rise_ext h.1 hM fun x => (h.2 x).trans (hq x)
theorem q17a (x : Int) : BaP p17 5 [2] [] x ↔ x ∈ [(3 : Int), 4] := by
  unfold BaP
  constructor
  · rintro ⟨k, rfl, hk, hn⟩
    have h2 : (k : Int) ∉ [(0 : Int), 1, 2] := fun h => hn (r17a h)
    simp only [List.mem_cons, List.not_mem_nil, or_false] at h2 ⊢
    omega
  · intro h
    refine ⟨x.toNat, ?_, ?_, fun h2 => ?_⟩
    · simp only [List.mem_cons, List.not_mem_nil, or_false] at h; omega
    · simp only [List.mem_cons, List.not_mem_nil, or_false] at h; omega
    · have h3 := a17a h2
      simp only [List.mem_cons, List.not_mem_nil, or_false] at h h3
      omega
theorem q17b (x : Int) : KpP p17 5 [2] [1, 4] false true x ↔ x ∈ [(2 : Int)] := by
  unfold KpP
  constructor
  · rintro ⟨k, rfl, hk, -, ht⟩
    have := (t17 k hk).1 (ht rfl)
    simp only [List.mem_cons, List.not_mem_nil, or_false]
    omega
  · intro h
    have e : x = ((2 : Nat) : Int) := by simpa using h
    subst e
    exact ⟨2, rfl, by omega, fun h => by simp at h, fun _ => (t17 2 (by omega)).2 rfl⟩
theorem q17c (x : Int) : KpP p17 5 [2] [4] true false x ↔ x ∈ [(0 : Int), 1, 2, 3, 4] := by
  unfold KpP
  constructor
  · rintro ⟨k, rfl, hk, -, -⟩
    simp only [List.mem_cons, List.not_mem_nil, or_false]
    omega
  · intro h
    refine ⟨x.toNat, ?_, ?_, fun _ => r17c h, fun h => by simp at h⟩
    · simp only [List.mem_cons, List.not_mem_nil, or_false] at h; omega
    · simp only [List.mem_cons, List.not_mem_nil, or_false] at h; omega
theorem bar17 (pv av : Value) (pvs : List Value) (w : World) (h : RRD w pv pvs p17) (ha : RG (Value.int .i64) w av [2]) :
    Calls Tryz.prog 50 #[pv, av, .slice none 0 0] w fun e w' => ∃ ao n c, e = .returned (.tuple #[.slice ao n c, .int .i64 0]) ∧ RG (Value.int .i64) w' (.slice ao n c) [3, 4] ∧ Below w.heap.size w w' :=
  (barrenS pv av (.slice none 0 0) pvs p17 [2] [] w h 5 rfl (by omega) (fun i => by
    match i with
    | 0 | 1 | 2 | 3 | 4 => decide
    | i + 5 => simp [p17]) ha (by simp) (RG.nil _) (by simp)).mono fun e w' ⟨⟨ao, k, c, L, he, ho, _, hok⟩, hb⟩ => by
    rw [n17a] at he
    have e := k17 (hok n17a) (M := [3, 4]) (by decide) q17a
    subst e
    exact ⟨ao, k, c, he, ho.rg, hb⟩
theorem kep17b (pv av qv : Value) (pvs : List Value) (w : World) (h : RRD w pv pvs p17) (ha : RG (Value.int .i64) w av [2]) (hq : RG (Value.int .i64) w qv [1, 4]) :
    Calls Tryz.prog 51 #[pv, av, qv, .bool false, .bool true] w fun e w' => ∃ ao n c, e = .returned (.tuple #[.slice ao n c, .int .i64 0]) ∧ RG (Value.int .i64) w' (.slice ao n c) [2] ∧ Below w.heap.size w w' :=
  (keptS pv av qv false true pvs p17 [2] [1, 4] w h 5 rfl (by omega) (fun i => by
    match i with
    | 0 | 1 | 2 | 3 | 4 => decide
    | i + 5 => simp [p17]) ha (by simp) hq (by simp)).mono fun e w' ⟨⟨ao, k, c, L, he, ho, _, hok⟩, hb⟩ => by
    rw [n17b] at he
    have e := k17 (hok n17b) (M := [2]) (by decide) q17b
    subst e
    exact ⟨ao, k, c, he, ho.rg, hb⟩
theorem kep17c (pv av qv : Value) (pvs : List Value) (w : World) (h : RRD w pv pvs p17) (ha : RG (Value.int .i64) w av [2]) (hq : RG (Value.int .i64) w qv [4]) :
    Calls Tryz.prog 51 #[pv, av, qv, .bool true, .bool false] w fun e w' => ∃ ao n c, e = .returned (.tuple #[.slice ao n c, .int .i64 0]) ∧ RG (Value.int .i64) w' (.slice ao n c) [0, 1, 2, 3, 4] ∧ Below w.heap.size w w' :=
  (keptS pv av qv true false pvs p17 [2] [4] w h 5 rfl (by omega) (fun i => by
    match i with
    | 0 | 1 | 2 | 3 | 4 => decide
    | i + 5 => simp [p17]) ha (by simp) hq (by simp)).mono fun e w' ⟨⟨ao, k, c, L, he, ho, _, hok⟩, hb⟩ => by
    rw [n17c] at he
    have e := k17 (hok n17c) (M := [0, 1, 2, 3, 4]) (by decide) q17c
    subst e
    exact ⟨ao, k, c, he, ho.rg, hb⟩
theorem same17 (u v : Value) (xs : List Int) (w : World) (hu : RG (Value.int .i64) w u xs) (hv : RG (Value.int .i64) w v xs) : Calls Tryz.prog 35 #[u, v] w fun e w' => e = .returned (.bool true) ∧ Below w.heap.size w w' :=
  (sameD u v xs xs w hu hv).mono fun e w' ⟨he, q, hq⟩ => ⟨he.trans (by rw [decide_eq_true rfl]), by rw [hq]; exact below_drewN (Below.refl _ _) q⟩
end Go.Proofs.YtcoiapgfaibkgaaGreat

namespace Go.Proofs.YtcoiapgfaibkgaaGreat
set_option linter.unusedVariables false
open Go.RowKit Go.Shelf Go.Sort Go.Lib
theorem par17 (w : World) : ∃ W pvs, W = (((((w.alloc (.cells #[] 3)).alloc (.cells #[.int .i64 0] 3)).alloc (.cells #[.int .i64 1] 3)).alloc (.cells #[.int .i64 1] 3)).alloc (.cells #[.int .i64 3] 3)).alloc (.cells #[.slice (some ⟨w.heap.size, 0, none⟩) 0 0, .slice (some ⟨w.heap.size + 1, 0, none⟩) 1 1, .slice (some ⟨w.heap.size + 1 + 1, 0, none⟩) 1 1, .slice (some ⟨w.heap.size + 1 + 1 + 1, 0, none⟩) 1 1, .slice (some ⟨w.heap.size + 1 + 1 + 1 + 1, 0, none⟩) 1 1] 23) ∧ RRD W (.slice (some ⟨w.heap.size + 1 + 1 + 1 + 1 + 1, 0, none⟩) 5 5) pvs p17 ∧ Below w.heap.size w W := by
  obtain ⟨W3, h3, r1, r2, r3, b3⟩ := lit3 w [] [0] [1] (by decide) (by decide) (by decide)
  obtain ⟨W4, h4, r4, r5, b4⟩ := lit2 W3 [1] [3] (by decide) (by decide)
  have s3 : W3.heap.size = w.heap.size + 1 + 1 + 1 := by rw [h3]; simp
  rw [s3] at r4 r5
  have s4 : W4.heap.size = w.heap.size + 1 + 1 + 1 + 1 + 1 := by rw [h4]; simp [s3]
  have ho := OG.lit (enc := id) 23 W4 [Value.slice (some ⟨w.heap.size, 0, none⟩) 0 0, .slice (some ⟨w.heap.size + 1, 0, none⟩) 1 1, .slice (some ⟨w.heap.size + 1 + 1, 0, none⟩) 1 1, .slice (some ⟨w.heap.size + 1 + 1 + 1, 0, none⟩) 1 1, .slice (some ⟨w.heap.size + 1 + 1 + 1 + 1, 0, none⟩) 1 1] (by simp [maxLen])
  rw [s4] at ho
  have b5 := belowB W4 (.cells #[.slice (some ⟨w.heap.size, 0, none⟩) 0 0, .slice (some ⟨w.heap.size + 1, 0, none⟩) 1 1, .slice (some ⟨w.heap.size + 1 + 1, 0, none⟩) 1 1, .slice (some ⟨w.heap.size + 1 + 1 + 1, 0, none⟩) 1 1, .slice (some ⟨w.heap.size + 1 + 1 + 1 + 1, 0, none⟩) 1 1] 23)
  refine ⟨_, [Value.slice (some ⟨w.heap.size, 0, none⟩) 0 0, .slice (some ⟨w.heap.size + 1, 0, none⟩) 1 1, .slice (some ⟨w.heap.size + 1 + 1, 0, none⟩) 1 1, .slice (some ⟨w.heap.size + 1 + 1 + 1, 0, none⟩) 1 1, .slice (some ⟨w.heap.size + 1 + 1 + 1 + 1, 0, none⟩) 1 1], ?_, ⟨ho.rg, rfl, fun i x hx => ?_⟩, bstepB (bstepB b3 b4) b5⟩
  · rw [h4, h3]; rfl
  · match i, hx with
    | 0, hx => simp at hx; subst hx; exact (r1.below (Nat.le_refl _) b4).below (Nat.le_refl _) b5
    | 1, hx => simp at hx; subst hx; exact (r2.below (Nat.le_refl _) b4).below (Nat.le_refl _) b5
    | 2, hx => simp at hx; subst hx; exact (r3.below (Nat.le_refl _) b4).below (Nat.le_refl _) b5
    | 3, hx => simp at hx; subst hx; exact r4.below (Nat.le_refl _) b5
    | 4, hx => simp at hx; subst hx; exact r5.below (Nat.le_refl _) b5
set_option maxRecDepth 1000000 in
set_option maxHeartbeats 12800000 in
theorem alive17 (w : World) : Calls Tryz.prog 29 #[] w fun e w' => e = .returned (.bool true) ∧ Below w.heap.size w w' := by
  obtain ⟨W1, pvs, hW1, hr1, b1⟩ := par17 w
  have HR : Hid (∀ W, Below W1.heap.size W1 W → RRD W (.slice (some ⟨w.heap.size + 1 + 1 + 1 + 1 + 1, 0, none⟩) 5 5) pvs p17) := fun W hW => hr1.below (Nat.le_refl _) hW
  have HB1 : Hid (Below w.heap.size w W1) := b1
  have HW1 : Hid (W1 = (((((w.alloc (.cells #[] 3)).alloc (.cells #[.int .i64 0] 3)).alloc (.cells #[.int .i64 1] 3)).alloc (.cells #[.int .i64 1] 3)).alloc (.cells #[.int .i64 3] 3)).alloc (.cells #[.slice (some ⟨w.heap.size, 0, none⟩) 0 0, .slice (some ⟨w.heap.size + 1, 0, none⟩) 1 1, .slice (some ⟨w.heap.size + 1 + 1, 0, none⟩) 1 1, .slice (some ⟨w.heap.size + 1 + 1 + 1, 0, none⟩) 1 1, .slice (some ⟨w.heap.size + 1 + 1 + 1 + 1, 0, none⟩) 1 1] 23)) := hW1
  obtain ⟨gp, hgp⟩ : ∃ g, g = w.heap.size + 1 + 1 + 1 + 1 + 1 := ⟨_, rfl⟩
  rw [← hgp] at HR
  have HGP : Hid (gp = w.heap.size + 1 + 1 + 1 + 1 + 1) := hgp
  clear hW1 hr1 b1 hgp
  go_enter Tryz.func29, Tryz.ntmps29
  go_upto_region 2 with fail
  rw [← HGP.out, ← HW1.out]
  clear HGP HW1
  obtain ⟨V1, hV1, ra1, c1⟩ := lit1 W1 [2] (by decide)
  have C1 : Hid _ := bar17 (.slice (some ⟨gp, 0, none⟩) 5 5) _ pvs V1 (HR.out V1 c1) ra1
  have HV1 : Hid (V1 = W1.alloc (.cells #[.int .i64 2] 3)) := hV1
  have HC1 : Hid (Below W1.heap.size W1 V1) := c1
  clear hV1 ra1 c1
  go_wp2_with fail
  rw [← HV1.out]
  refine Calls.mono C1.out ?_
  rintro e y1 ⟨o1, n1, k1, rfl, ho1, by1⟩
  have HO1 : Hid (RG (Value.int .i64) y1 (.slice o1 n1 k1) [3, 4]) := ho1
  have HY1 : Hid (Below W1.heap.size W1 y1) := bstepB HC1.out by1
  obtain ⟨V2, hV2, ra2, rb2, c2⟩ := lit2 y1 [2] [1, 4] (by decide) (by decide)
  have C2 : Hid _ := kep17b (.slice (some ⟨gp, 0, none⟩) 5 5) _ _ pvs V2 (HR.out V2 (bstepB HY1.out c2)) ra2 rb2
  have HV2 : Hid (V2 = (y1.alloc (.cells #[.int .i64 2] 3)).alloc (.cells #[.int .i64 1, .int .i64 4] 3)) := hV2
  have HC2 : Hid (Below y1.heap.size y1 V2) := c2
  clear C1 HV1 HC1 ho1 by1 hV2 ra2 rb2 c2
  go_wp2_with fail
  rw [← HV2.out]
  refine Calls.mono C2.out ?_
  rintro e y2 ⟨o2, n2, k2, rfl, ho2, by2⟩
  have HO2 : Hid (RG (Value.int .i64) y2 (.slice o2 n2 k2) [2]) := ho2
  have HY2 : Hid (Below y1.heap.size y1 y2) := bstepB HC2.out by2
  obtain ⟨V3, hV3, ra3, rb3, c3⟩ := lit2 y2 [2] [4] (by decide) (by decide)
  have C3 : Hid _ := kep17c (.slice (some ⟨gp, 0, none⟩) 5 5) _ _ pvs V3 (HR.out V3 (bstepB (bstepB HY1.out HY2.out) c3)) ra3 rb3
  have HV3 : Hid (V3 = (y2.alloc (.cells #[.int .i64 2] 3)).alloc (.cells #[.int .i64 4] 3)) := hV3
  have HC3 : Hid (Below y2.heap.size y2 V3) := c3
  clear C2 HV2 HC2 ho2 by2 hV3 ra3 rb3 c3
  go_wp2_with fail
  rw [← HV3.out]
  refine Calls.mono C3.out ?_
  rintro e y3 ⟨o3, n3, k3, rfl, ho3, by3⟩
  have HO3 : Hid (RG (Value.int .i64) y3 (.slice o3 n3 k3) [0, 1, 2, 3, 4]) := ho3
  have HY3 : Hid (Below y2.heap.size y2 y3) := bstepB HC3.out by3
  have HB3 : Hid (Below w.heap.size w y3) := bstepB HB1.out (bstepB (bstepB HY1.out HY2.out) HY3.out)
  obtain ⟨V4, hV4, ra4, c4⟩ := lit1 y3 [3, 4] (by decide)
  have C4 : Hid _ := same17 _ _ _ V4 (HO1.out.below (Nat.le_refl _) (bstepB (bstepB HY2.out HY3.out) c4)) ra4
  have HV4 : Hid (V4 = y3.alloc (.cells #[.int .i64 3, .int .i64 4] 3)) := hV4
  have HC4 : Hid (Below y3.heap.size y3 V4) := c4
  clear C3 HV3 HC3 ho3 by3 hV4 ra4 c4 HB1
  go_wp2_with fail
  rw [← HV4.out]
  refine Calls.mono C4.out ?_
  rintro e y4 ⟨rfl, by4⟩
  have HY4 : Hid (Below y3.heap.size y3 y4) := bstepB HC4.out by4
  obtain ⟨V5, hV5, ra5, c5⟩ := lit1 y4 [2] (by decide)
  have C5 : Hid _ := same17 _ _ _ V5 (HO2.out.below (Nat.le_refl _) (bstepB (bstepB HY3.out HY4.out) c5)) ra5
  have HV5 : Hid (V5 = y4.alloc (.cells #[.int .i64 2] 3)) := hV5
  have HC5 : Hid (Below y4.heap.size y4 V5) := c5
  clear C4 HV4 HC4 by4 hV5 ra5 c5
  go_wp2_with fail
  rw [← HV5.out]
  refine Calls.mono C5.out ?_
  rintro e y5 ⟨rfl, by5⟩
  have HY5 : Hid (Below y3.heap.size y3 y5) := bstepB HY4.out (bstepB HC5.out by5)
  obtain ⟨V6, hV6, ra6, c6⟩ := lit1 y5 [0, 1, 2, 3, 4] (by decide)
  have C6 : Hid _ := same17 _ _ _ V6 (HO3.out.below (Nat.le_refl _) (bstepB HY5.out c6)) ra6
  have HV6 : Hid (V6 = y5.alloc (.cells #[.int .i64 0, .int .i64 1, .int .i64 2, .int .i64 3, .int .i64 4] 3)) := hV6
  have HC6 : Hid (Below y5.heap.size y5 V6) := c6
  clear C5 HV5 HC5 by5 hV6 ra6 c6
  go_wp2_with fail
  rw [← HV6.out]
  refine Calls.mono C6.out ?_
  rintro e y6 ⟨rfl, by6⟩
  have HY6 : Hid (Below w.heap.size w y6) := bstepB HB3.out (bstepB HY5.out (bstepB HC6.out by6))
  clear C6 HV6 HC6 by6
  go_wp2
  go_ret
  exact ⟨rfl, HY6.out⟩
end Go.Proofs.YtcoiapgfaibkgaaGreat

namespace Go.Proofs.YtcoiapgfaibkgaaGreat
set_option linter.unusedVariables false
open Go.RowKit
set_option maxRecDepth 1000000 in
set_option maxHeartbeats 1600000 in
theorem pruneNames_top (w : World) : Calls Tryz.prog 8 #[] w fun e w' => e = .returned (.bool true) ∧ Below w.heap.size w w' := by
  have CA : Hid _ := alive17 w
  go_enter Tryz.func8, Tryz.ntmps8
  go_wp2_with fail
  refine Calls.mono CA.out ?_
  rintro e y ⟨rfl, hy⟩
  have HY : Hid (Below w.heap.size w y) := hy
  clear CA hy
  go_wp2
  go_ret
  exact ⟨rfl, HY.out⟩
end Go.Proofs.YtcoiapgfaibkgaaGreat

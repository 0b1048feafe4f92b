/-
  Proved here: layer 16's law: alive: in the square two sides are apart given the top, and not given the bottom too.
-/
import Derived.Test.YtcoiapgfaibkgaaGreatSpZAll
import Derived.Test.YtcoiapgfaibkgaaGreatSpLAll
namespace Go.Proofs.YtcoiapgfaibkgaaGreat
set_option linter.unusedVariables false
open Go.RowKit Go.Shelf Go.Sort Go.Lib
set_option maxRecDepth 100000 in
set_option maxHeartbeats 1600000 in
theorem sameL16 (u v : Value) (xs ys : List Int) (w : World) (hu : RG (Value.int .i64) w u xs) (hv : RG (Value.int .i64) w v ys) :
    Calls Tryz.prog 46 #[u, v] w fun e w' => e = .returned (.bool (decide (xs = ys))) ∧ ∃ q, w' = w.drewN q := by
  obtain ⟨uo, un, uc, rfl⟩ : ∃ o n c, u = .slice o n c := by obtain ⟨ao, cap, e⟩ := hu.sl; exact ⟨_, _, _, e⟩
  obtain ⟨vo, vn, vc, rfl⟩ : ∃ o n c, v = .slice o n c := by obtain ⟨ao, cap, e⟩ := hv.sl; exact ⟨_, _, _, e⟩
  have hum : un ≤ 9223372036854775807 := by have := hu.room.2.1; have := hu.room.1; unfold maxLen at *; omega
  have HU : Hid (RG (Value.int .i64) w (.slice uo un uc) xs) := hu
  have HV : Hid (RG (Value.int .i64) w (.slice vo vn vc) ys) := hv
  have HUL : Hid (xs.length = un) := hu.len
  have HVL : Hid (ys.length = vn) := hv.len
  clear hu hv
  by_cases hne : un = vn
  · subst hne
    go_enter Tryz.func46, Tryz.ntmps46
    go_wp2
    go_loopg [5] un (fun g1 v5 wr => ∃ k q : Nat, v5 = .int .i64 k ∧ k ≤ un ∧ un - k ≤ g1 ∧ Hid (xs.take k = ys.take k) ∧ Hid (wr = w.drewN q))
    case atStart => exact ⟨0, 0, rfl, by omega, by omega, rfl, rfl⟩
    case round =>
      obtain ⟨k, q0, rfl, hkn, hg1, HA, HQ⟩ := hrel
      have HU2 : Hid (RG (Value.int .i64) wr (.slice uo un uc) xs) := by rw [HQ.out]; exact HU.out.drewN q0
      have HV2 : Hid (RG (Value.int .i64) wr (.slice vo un vc) ys) := by rw [HQ.out]; exact HV.out.drewN q0
      by_cases hlt : k < un
      · have hltz : (k : Int) < (un : Int) := by omega
        obtain ⟨x, gx, ox, hx1, rfl, hx2⟩ := HU2.out.at hlt
        obtain ⟨y, gy, oy, hy1, rfl, hy2⟩ := HV2.out.at hlt
        by_cases he : x = y
        · have HA2 : Hid (xs.take (k + 1) = ys.take (k + 1)) := by show _ = _; rw [List.take_add_one, List.take_add_one, hx1, hy1, HA.out, he]
          have hez : (x != y) = false := by simpa using he
          clear he hx1 hy1 HA
          go_wp2
          go_quiet (fail)
          clear hx2 hy2
          go_wp2
          go_roundg (un - (k + 1))
          case measure => omega
          case rel => exact ⟨k + 1, _, by first | rfl | go_num, by omega, Nat.le_refl _, HA2, by show _ = _; rw [HQ.out]; exact drewR_add _ _ _⟩
        · have HE : Hid (decide (xs = ys) = false) := decide_eq_false fun e => he (by rw [e, hy1] at hx1; exact (Option.some.inj hx1).symm)
          have hez : (x != y) = true := by simpa using he
          clear he hx1 hy1 HA
          go_wp2
          go_quiet (fail)
          clear hx2 hy2
          go_wp2
          go_ret
          exact ⟨by rw [HE.out]; rfl, _, by rw [HQ.out]; exact drewR_add _ _ _⟩
      · have hltz : ¬ (k : Int) < (un : Int) := by omega
        have HE : Hid (decide (xs = ys) = true) := decide_eq_true (by
          have := HA.out
          rw [List.take_of_length_le (by rw [HUL.out]; omega), List.take_of_length_le (by rw [HVL.out]; omega)] at this
          exact this)
        clear HA
        go_wp2
        go_ret
        exact ⟨by rw [HE.out]; rfl, _, HQ.out⟩
  · have HE : Hid (decide (xs = ys) = false) := decide_eq_false fun e => hne (by rw [← HUL.out, ← HVL.out, e])
    have hnz : ((un : Int) != (vn : Int)) = true := by simp; omega
    clear hne
    go_enter Tryz.func46, Tryz.ntmps46
    go_wp2
    go_ret
    exact ⟨by rw [HE.out]; rfl, 0, rfl⟩
def p5 : List (List Int) := [[], [0], [0], [1, 2], [3]]
theorem p5_ck : ckE p5 = 0 := by decide +kernel
theorem abv_of {P : List (List Int)} {G A B : List Int} (h : AbvP P G A) (hB : B.Pairwise (· < ·)) (h1 : ∀ x ∈ G, x ∈ B) (h2 : ∀ x ∈ B, ∀ y ∈ P.getD x.toNat [], y ∈ B) (h3 : ∀ x ∈ B, RchP P G x) : A = B := by
  refine rise_ext h.1 hB fun z => (h.2 z).trans ⟨?_, h3 z⟩
  rintro ⟨x, hx, m, hm⟩
  have key : ∀ (m : Nat) (x : Int), x ∈ B → Rn P m x z → z ∈ B := by
    intro m
    induction m with
    | zero => intro x hx hr; have e : x = z := hr
              rw [← e]; exact hx
    | succ m ih => rintro x hx ⟨u, hu, hr⟩; exact ih u (h2 x hx u hu) hr
  exact key m x (h1 x hx) hm
theorem p5_top {A : List Int} (h : AbvP p5 [0] A) : A = [0] := abv_of h (by decide) (by decide) (by decide) (fun x hx => by
  have e : x = 0 := by simpa using hx
  subst e; exact ⟨0, by simp, 0, rfl⟩)
theorem p5_two {A : List Int} (h : AbvP p5 [0, 4] A) : A = [0, 1, 2, 3, 4] := abv_of h (by decide) (by decide) (by decide) (fun x hx => by
  simp only [List.mem_cons, List.not_mem_nil, or_false] at hx
  rcases hx with e | e | e | e | e
  · subst e; exact ⟨0, by simp, 0, rfl⟩
  · subst e; exact ⟨4, by simp, 2, 3, by decide, 1, by decide, rfl⟩
  · subst e; exact ⟨4, by simp, 2, 3, by decide, 2, by decide, rfl⟩
  · subst e; exact ⟨4, by simp, 1, 3, by decide, rfl⟩
  · subst e; exact ⟨4, by simp, 0, rfl⟩)
theorem cR (w : World) (zs : List Int) (hl : zs.length ≤ 1000) : RG (Value.int .i64) (w.alloc (.cells (zs.map (Value.int .i64)).toArray 3)) (.slice (some ⟨w.heap.size, 0, none⟩) zs.length zs.length) zs := (OG.lit (enc := Value.int .i64) 3 w zs (by unfold maxLen; omega)).rg
theorem lit3 (w : World) (a b c : List Int) (ha : a.length ≤ 1000) (hb : b.length ≤ 1000) (hc : c.length ≤ 1000) : ∃ W, W = ((w.alloc (.cells (a.map (Value.int .i64)).toArray 3)).alloc (.cells (b.map (Value.int .i64)).toArray 3)).alloc (.cells (c.map (Value.int .i64)).toArray 3) ∧ RG (Value.int .i64) W (.slice (some ⟨w.heap.size, 0, none⟩) a.length a.length) a ∧ RG (Value.int .i64) W (.slice (some ⟨w.heap.size + 1, 0, none⟩) b.length b.length) b ∧ RG (Value.int .i64) W (.slice (some ⟨w.heap.size + 1 + 1, 0, none⟩) c.length c.length) c ∧ Below w.heap.size w W := by
  have r1 := cR w a ha
  have r2 := cR (w.alloc (.cells (a.map (Value.int .i64)).toArray 3)) b hb
  have r3 := cR ((w.alloc (.cells (a.map (Value.int .i64)).toArray 3)).alloc (.cells (b.map (Value.int .i64)).toArray 3)) c hc
  have e1 : (w.alloc (.cells (a.map (Value.int .i64)).toArray 3)).heap.size = w.heap.size + 1 := by simp
  have e2 : ((w.alloc (.cells (a.map (Value.int .i64)).toArray 3)).alloc (.cells (b.map (Value.int .i64)).toArray 3)).heap.size = w.heap.size + 1 + 1 := by simp
  rw [e1] at r2
  rw [e2] at r3
  exact ⟨_, rfl, (r1.alloc _).alloc _, r2.alloc _, r3, bstepB (bstepB (belowB _ _) (belowB _ _)) (belowB _ _)⟩
theorem lit2 (w : World) (a b : List Int) (ha : a.length ≤ 1000) (hb : b.length ≤ 1000) : ∃ W, W = (w.alloc (.cells (a.map (Value.int .i64)).toArray 3)).alloc (.cells (b.map (Value.int .i64)).toArray 3) ∧ RG (Value.int .i64) W (.slice (some ⟨w.heap.size, 0, none⟩) a.length a.length) a ∧ RG (Value.int .i64) W (.slice (some ⟨w.heap.size + 1, 0, none⟩) b.length b.length) b ∧ Below w.heap.size w W := by
  have r1 := cR w a ha
  have r2 := cR (w.alloc (.cells (a.map (Value.int .i64)).toArray 3)) b hb
  have e1 : (w.alloc (.cells (a.map (Value.int .i64)).toArray 3)).heap.size = w.heap.size + 1 := by simp
  rw [e1] at r2
  exact ⟨_, rfl, r1.alloc _, r2, bstepB (belowB _ _) (belowB _ _)⟩
theorem lit1 (w : World) (a : List Int) (ha : a.length ≤ 1000) : ∃ W, W = w.alloc (.cells (a.map (Value.int .i64)).toArray 3) ∧ RG (Value.int .i64) W (.slice (some ⟨w.heap.size, 0, none⟩) a.length a.length) a ∧ Below w.heap.size w W := ⟨_, rfl, cR w a ha, belowB _ _⟩
set_option maxRecDepth 1000000 in
set_option maxHeartbeats 3200000 in
theorem small16 (w : World) : Calls Tryz.prog 44 #[] w fun e w' => ∃ so pvs, e = .returned (.slice (some ⟨so, 0, none⟩) 5 5) ∧ RRD w' (.slice (some ⟨so, 0, none⟩) 5 5) pvs p5 ∧ Below w.heap.size w w' := by
  obtain ⟨W3, h3, r1, r2, r3, b3⟩ := lit3 w [0] [0] [1, 2] (by decide) (by decide) (by decide)
  obtain ⟨W4, h4, r4, b4⟩ := lit1 W3 [3] (by decide)
  have s3 : W3.heap.size = w.heap.size + 1 + 1 + 1 := by rw [h3]; simp
  rw [s3] at r4
  have ho := OG.lit (enc := id) 23 W4 [Value.slice none 0 0, .slice (some ⟨w.heap.size, 0, none⟩) 1 1, .slice (some ⟨w.heap.size + 1, 0, none⟩) 1 1, .slice (some ⟨w.heap.size + 1 + 1, 0, none⟩) 2 2, .slice (some ⟨w.heap.size + 1 + 1 + 1, 0, none⟩) 1 1] (by simp [maxLen])
  have s4 : W4.heap.size = w.heap.size + 1 + 1 + 1 + 1 := by rw [h4]; simp [s3]
  obtain ⟨W5, h5⟩ : ∃ W, W = W4.alloc (.cells #[.slice none 0 0, .slice (some ⟨w.heap.size, 0, none⟩) 1 1, .slice (some ⟨w.heap.size + 1, 0, none⟩) 1 1, .slice (some ⟨w.heap.size + 1 + 1, 0, none⟩) 2 2, .slice (some ⟨w.heap.size + 1 + 1 + 1, 0, none⟩) 1 1] 23) := ⟨_, rfl⟩
  have hr : RRD W5 (.slice (some ⟨w.heap.size + 1 + 1 + 1 + 1, 0, none⟩) 5 5) [Value.slice none 0 0, .slice (some ⟨w.heap.size, 0, none⟩) 1 1, .slice (some ⟨w.heap.size + 1, 0, none⟩) 1 1, .slice (some ⟨w.heap.size + 1 + 1, 0, none⟩) 2 2, .slice (some ⟨w.heap.size + 1 + 1 + 1, 0, none⟩) 1 1] p5 := by
    refine ⟨?_, rfl, fun i x hx => ?_⟩
    · rw [h5]; have := ho.rg; rw [s4] at this; exact this
    · rw [h5]
      have b5 := belowB W4 (.cells #[.slice none 0 0, .slice (some ⟨w.heap.size, 0, none⟩) 1 1, .slice (some ⟨w.heap.size + 1, 0, none⟩) 1 1, .slice (some ⟨w.heap.size + 1 + 1, 0, none⟩) 2 2, .slice (some ⟨w.heap.size + 1 + 1 + 1, 0, none⟩) 1 1] 23)
      match i, hx with
      | 0, hx => simp at hx; subst hx; exact RG.nil _
      | 1, hx => simp at hx; subst hx; exact (r1.below (Nat.le_refl _) b4).below (Nat.le_refl _) b5
      | 2, hx => simp at hx; subst hx; exact (r2.below (Nat.le_refl _) b4).below (Nat.le_refl _) b5
      | 3, hx => simp at hx; subst hx; exact (r3.below (Nat.le_refl _) b4).below (Nat.le_refl _) b5
      | 4, hx => simp at hx; subst hx; exact r4.below (Nat.le_refl _) b5
  have hb : Below w.heap.size w W5 := by rw [h5]; exact bstepB (bstepB b3 b4) (belowB _ _)
  have HR : Hid (∃ pvs, RRD W5 (.slice (some ⟨w.heap.size + 1 + 1 + 1 + 1, 0, none⟩) 5 5) pvs p5) := ⟨_, hr⟩
  have HB : Hid (Below w.heap.size w W5) := hb
  have HW : Hid (W5 = ((((w.alloc (.cells #[.int .i64 0] 3)).alloc (.cells #[.int .i64 0] 3)).alloc (.cells #[.int .i64 1, .int .i64 2] 3)).alloc (.cells #[.int .i64 3] 3)).alloc (.cells #[.slice none 0 0, .slice (some ⟨w.heap.size, 0, none⟩) 1 1, .slice (some ⟨w.heap.size + 1, 0, none⟩) 1 1, .slice (some ⟨w.heap.size + 1 + 1, 0, none⟩) 2 2, .slice (some ⟨w.heap.size + 1 + 1 + 1, 0, none⟩) 1 1] 23)) := by show _ = _; rw [h5, h4, h3]; rfl
  clear h3 h4 h5 r1 r2 r3 r4 b3 b4 s3 s4 ho hr hb W3 W4
  go_enter Tryz.func44, Tryz.ntmps44
  go_wp2
  go_ret
  obtain ⟨pvs, hr⟩ := HR.out
  rw [← HW.out]
  exact ⟨_, pvs, rfl, hr, HB.out⟩
end Go.Proofs.YtcoiapgfaibkgaaGreat

/-
  Proved here: layer 16's law: roomy (numbers in memory of their own, with marked room behind) and still (they are as they were).
-/
import Derived.Test.YtcadljpdokhpmaaDagXAll
namespace Go.Proofs.Ytcadljpdokhpmaa
set_option linter.unusedVariables false
open Go.RowKit
/-- The marks behind a list. -/
def mk16 : List Int := [-77, -77, -77, -77]
/-- A list with its first marks. -/
def rmL (L : List Int) (i : Nat) : List Int := L ++ List.replicate i (-77)
theorem rmL_zero (L : List Int) : rmL L 0 = L := by simp [rmL]
theorem rmL_succ (L : List Int) (i : Nat) : rmL L (i + 1) = rmL L i ++ [-77] := by unfold rmL; rw [List.append_assoc, ← List.replicate_succ']
theorem rmL_len (L : List Int) (i : Nat) : (rmL L i).length = L.length + i := by simp [rmL]
theorem rmL_four (L : List Int) : rmL L 4 = L ++ mk16 := rfl
/-- A list of the call's own with four marks behind it. -/
def RmB (B : Nat) (w : World) (u : Value) (L : List Int) : Prop := ∃ g cap, u = .slice (some ⟨g, 0, none⟩) L.length cap ∧ OG (Value.int .i64) B 3 w (.slice (some ⟨g, 0, none⟩) (L.length + 4) cap) (L ++ mk16)
theorem RmB.below {B : Nat} {w w' : World} {u : Value} {L : List Int} (h : RmB B w u L) (hb : Below w.heap.size w w') : RmB B w' u L := by
  obtain ⟨g, cap, h1, h2⟩ := h
  exact ⟨g, cap, h1, h2.below hb⟩
theorem RmB.mono {B B' : Nat} {w : World} {u : Value} {L : List Int} (h : RmB B w u L) (hB : B' ≤ B) : RmB B' w u L := by
  obtain ⟨g, cap, h1, h2⟩ := h
  exact ⟨g, cap, h1, h2.mono hB⟩
theorem RmB.of_blocks {B : Nat} {w w' : World} {u : Value} {L : List Int} (h : RmB B w u L) (hb : ∀ q, B ≤ q → q < w.heap.size → u.ownBlock = some q → w'.heap[q]? = w.heap[q]?) : RmB B w' u L := by
  obtain ⟨g, cap, h1, h2⟩ := h
  exact ⟨g, cap, h1, h2.of_blocks fun q hq => hb q (h2.lt q hq).1 (h2.lt q hq).2 (by rw [h1]; exact hq)⟩
theorem RmB.lt {B : Nat} {w : World} {u : Value} {L : List Int} (h : RmB B w u L) : ∀ q, u.ownBlock = some q → B ≤ q ∧ q < w.heap.size := by
  obtain ⟨g, cap, rfl, h2⟩ := h
  exact fun q hq => h2.lt q hq
theorem RmB.rg {B : Nat} {w : World} {u : Value} {L : List Int} (h : RmB B w u L) : RG (Value.int .i64) w u L := by
  obtain ⟨g, cap, rfl, h2⟩ := h
  have h3 := h2.rg.cut (m := L.length) (by omega)
  rw [List.take_left] at h3
  exact h3
set_option maxHeartbeats 4000000 in
set_option maxRecDepth 1000000 in
theorem roomy16 (v : Value) (L : List Int) (w : World) (hv : RG (Value.int .i64) w v L) (hz : L.length ≤ 1048576) : Calls Try.prog 9 #[v] w fun e w' => ∃ u, e = .returned u ∧ RmB w.heap.size w' u L ∧ Below w.heap.size w w' := by
  obtain ⟨i0, hi, hz0, hz1, hz2⟩ := info_parts Try.infoI
  have HV : Hid (RG (Value.int .i64) w v L) := hv
  have HL0 : Hid (L.length ≤ 1048576) := hz
  obtain ⟨ao, cap, rfl, -⟩ := hv
  obtain ⟨n, hn⟩ : ∃ n, L.length = n := ⟨_, rfl⟩
  have HN : Hid (L.length = n) := hn
  rw [hn] at HV ⊢
  clear hn hz
  go_enter Try.func9, Try.ntmps9
  go_wp2_with (at_builtin; refine wpList_appG _ (fun _ => rfl) rfl _ _ 24 rfl w.heap.size 3 i0 (.int .i64 0) 8 Try.underlying24 hi hz0 hz1 hz2 rfl _ _ [] L rfl (OG.nil _ _ _) rfl HV.out (by have := HL0.out; unfold maxLen; simp only [List.length_nil]; omega) (by have := HL0.out; simp only [List.length_nil]; omega) (Nat.le_refl _) ?_)
  intro v1 w1 ho1 hg1
  have O1 : Hid (OG (Value.int .i64) w.heap.size 3 w1 v1 (rmL L 0)) := by rw [rmL_zero]; exact ho1
  have B1 : Hid (Below w.heap.size w w1) := (OG.nil (enc := Value.int .i64) w.heap.size 3 w).grown (Below.refl _ _) (Nat.le_refl _) hg1
  clear ho1 hg1 HV
  go_wp2
  go_loopg [3, 4] 4 (fun g1 v3 v4 wr => ∃ (i : Nat) (vt : Value), vt = v3 ∧ v4 = .int .i64 i ∧ i ≤ 4 ∧ 4 - i ≤ g1 ∧ Hid (OG (Value.int .i64) w.heap.size 3 wr vt (rmL L i)) ∧ Hid (Below w.heap.size w wr))
  case atStart => exact ⟨0, _, rfl, rfl, Nat.zero_le _, by omega, O1, B1⟩
  case round =>
    clear O1 B1
    obtain ⟨i, vt, rfl, rfl, hin, hg1, HO, HBW⟩ := hrel
    have HL : Hid ((rmL L i).length ≤ 1048580) := by show _ ≤ _; rw [rmL_len]; have := HL0.out; omega
    by_cases hlt : i < 4
    · have hltz : (i : Int) < 4 := by omega
      have Oa : Hid (OG (Value.int .i64) w.heap.size 3 (wr.alloc (.cells #[.int .i64 (-77)] 3)) vt (rmL L i)) := HO.out.below ((Below.refl _ _).alloc (Nat.le_refl _) _)
      have Ra : Hid (RG (Value.int .i64) (wr.alloc (.cells #[.int .i64 (-77)] 3)) (.slice (some ⟨wr.heap.size, 0, none⟩) 1 1) [-77]) := (OG.lit (enc := Value.int .i64) 3 wr [-77] (by unfold maxLen; simp)).rg
      have Za : Hid (w.heap.size ≤ (wr.alloc (.cells #[.int .i64 (-77)] 3)).heap.size) := Nat.le_trans HBW.out.size (by simp)
      have Ba : Hid (Below w.heap.size w (wr.alloc (.cells #[.int .i64 (-77)] 3))) := HBW.out.alloc HBW.out.size _
      have HS : Hid (rmL L (i + 1) = rmL L i ++ [-77]) := rmL_succ L i
      go_wp2_with (at_builtin; refine wpList_appG _ (fun _ => rfl) rfl _ _ 24 rfl w.heap.size 3 i0 (.int .i64 0) 8 Try.underlying24 hi hz0 hz1 hz2 rfl _ _ (rmL L i) [-77] rfl Oa.out rfl Ra.out (by have := HL.out; unfold maxLen; simp only [List.length_cons, List.length_nil]; omega) (by have := HL.out; simp only [List.length_cons, List.length_nil]; omega) Za.out ?_)
      intro v2 w2 ho2 hg2
      have O2 : Hid (OG (Value.int .i64) w.heap.size 3 w2 v2 (rmL L (i + 1))) := by rw [HS.out]; exact ho2
      have B2 : Hid (Below w.heap.size w w2) := Oa.out.grown Ba.out Za.out hg2
      clear ho2 hg2 Oa Ra Za Ba HO HBW
      go_wp2
      go_roundg (4 - (i + 1))
      case measure => omega
      case rel => exact ⟨i + 1, _, rfl, by go_num, by omega, Nat.le_refl _, O2, B2⟩
    · have hltz : ¬ (i : Int) < 4 := by omega
      have hi2 : i = 4 := by omega
      subst hi2
      have HO2 : Hid (OG (Value.int .i64) w.heap.size 3 wr vt (L ++ mk16)) := HO.out
      obtain ⟨bo, bc, hb0, hb1, hb2, -⟩ := HO2.out.sl
      have hln : (L ++ mk16).length = n + 4 := by simp [mk16, HN.out]
      rw [hln] at hb0 hb1 hb2
      obtain ⟨g, hgB, rfl⟩ := hb1 (by omega)
      subst hb0
      have hnc : n ≤ bc := by omega
      clear HL hln hb2 HO
      go_wp2
      go_ret
      refine ⟨_, rfl, ⟨g, bc, ?_, ?_⟩, HBW.out⟩
      · show _ = Value.slice _ L.length _
        rw [HN.out]; rfl
      · rw [HN.out]; exact HO2.out
set_option maxHeartbeats 4000000 in
set_option maxRecDepth 1000000 in
theorem still16 (B : Nat) (u v : Value) (L : List Int) (w : World) (hu : RmB B w u L) (hv : RG (Value.int .i64) w v L) (hz : L.length ≤ 1048576) : Calls Try.prog 19 #[u, v] w fun e w' => e = .returned (.bool true) ∧ ∃ q, w' = w.drewN q := by
  obtain ⟨g, cap, rfl, hu2⟩ := hu
  obtain ⟨n, hn⟩ : ∃ n, L.length = n := ⟨_, rfl⟩
  rw [hn] at hu2 hz ⊢
  obtain ⟨vo, vc, rfl⟩ : ∃ o c, v = .slice o n c := by obtain ⟨ao, c, e⟩ := hv.sl; exact ⟨_, _, by rw [← hn]; exact e⟩
  have HU : Hid (OG (Value.int .i64) B 3 w (.slice (some ⟨g, 0, none⟩) (n + 4) cap) (L ++ mk16)) := hu2
  have HV : Hid (RG (Value.int .i64) w (.slice vo n vc) L) := hv
  have hcap : n + 4 ≤ cap := hu2.rg.room.1
  have HN : Hid (L.length = n) := hn
  clear hu2 hv hn
  go_enter Try.func19, Try.ntmps19
  go_wp2
  go_loopg [6] 4 (fun g1 v6 wr => ∃ (i q : Nat), v6 = .int .i64 i ∧ i ≤ 4 ∧ 4 - i ≤ g1 ∧ Hid (wr = w.drewN q))
  case atStart => exact ⟨0, 0, rfl, Nat.zero_le _, by omega, rfl⟩
  case round =>
    obtain ⟨i, q0, rfl, hin, hg1, HQ⟩ := hrel
    by_cases hlt : i < 4
    · have hltz : (i : Int) < 4 := by omega
      have hx : (L ++ mk16)[n + i]? = some (-77) := by
        rw [List.getElem?_append_right (by rw [HN.out]; omega), HN.out, Nat.add_sub_cancel_left]
        match i, hlt with
        | 0, _ => rfl
        | 1, _ => rfl
        | 2, _ => rfl
        | 3, _ => rfl
      have hc : wr.cell? ⟨g, n + i, none⟩ = some (.int .i64 (-77)) := by rw [HQ.out]; exact ((HU.out.of_blocks (w' := w.drewN q0) fun q _ => by rw [heap_drewG]).cell hx).1
      clear hx
      go_wp2
      go_roundg (4 - (i + 1))
      case measure => omega
      case rel => exact ⟨i + 1, _, by go_num, by omega, Nat.le_refl _, HQ⟩
    · have hltz : ¬ (i : Int) < 4 := by omega
      have H1 : RG (Value.int .i64) wr (.slice (some ⟨g, 0, none⟩) n cap) L := by
        have h3 := HU.out.rg.cut (m := n) (by omega)
        rw [List.take_left' HN.out] at h3
        rw [HQ.out]; exact h3.drewN q0
      have CS : Hid (Calls Try.prog 18 #[.slice (some ⟨g, 0, none⟩) n cap, .slice vo n vc] wr fun e w' => e = .returned (.bool true) ∧ ∃ q, w' = wr.drewN q) := Calls.mono (sameD _ _ L L wr H1 (by rw [HQ.out]; exact HV.out.drewN q0)) (fun e w' h => ⟨h.1.trans (by rw [decide_eq_true rfl]), h.2⟩)
      clear H1
      go_wp2_with fail
      refine Calls.mono CS.out ?_
      rintro e y ⟨rfl, q1, rfl⟩
      clear CS
      go_wp2
      go_ret
      exact ⟨rfl, _, by rw [HQ.out]; exact drewR_add _ _ _⟩
end Go.Proofs.Ytcadljpdokhpmaa

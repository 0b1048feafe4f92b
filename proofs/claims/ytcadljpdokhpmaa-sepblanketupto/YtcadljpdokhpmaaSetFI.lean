/-
  Proved here: package set at int: With, Without.
-/
import Derived.Test.YtcadljpdokhpmaaSetDIAll
import Derived.Test.YtcadljpdokhpmaaSetEIAll
import Derived.Test.YtcadljpdokhpmaaLate3
namespace Go.Proofs.Ytcadljpdokhpmaa
open Go.Shelf Go.RowKit Go.Lib Go.Sort
set_option maxRecDepth 100000 in
theorem cutI (ao : Option Addr) (n cap m : Nat) (hmn : m ≤ n) (hnc : n ≤ cap) (hm : cap ≤ 9223372036854775807) (hnil : ao = none → cap = 0) (w : World) :
    (Instr.slice 24 (.slice ao n cap) none (some (.int .i64 (m : Int))) none).run Try.prog w = .ok (.slice ao m cap) w := by
  have hb : (m : Int) ≤ (cap : Int) := by omega
  have h0 : (0 : Int) ≤ (m : Int) := by omega
  rcases ao with _ | ad
  · have := hnil rfl
    subst this
    have : m = 0 := by omega
    subst this
    go_simp
  · go_simp
set_option maxRecDepth 100000 in
theorem fromI (ao : Option Addr) (n cap m : Nat) (L : List Int) (hmn : m ≤ n) (hnc : n ≤ cap) (hm : cap ≤ 9223372036854775807) (hnil : ao = none → cap = 0) :
    ∃ bo c2, (∀ w, (Instr.slice 24 (.slice ao n cap) (some (.int .i64 (m : Int))) none none).run Try.prog w = .ok (.slice bo (n - m) c2) w) ∧ ∀ W, RG (Value.int .i64) W (.slice ao n cap) L → RG (Value.int .i64) W (.slice bo (n - m) c2) (L.drop m) := by
  have hb : (m : Int) ≤ (n : Int) := by omega
  have h0 : (0 : Int) ≤ (m : Int) := by omega
  have hc : (n : Int) ≤ (cap : Int) := by omega
  rcases ao with _ | ad
  · have := hnil rfl
    subst this
    have : n = 0 := by omega
    subst this
    have : m = 0 := by omega
    subst this
    exact ⟨none, 0, fun w => by go_simp, fun W h => h⟩
  · obtain ⟨g, o, sp⟩ := ad
    by_cases hcm : cap = m
    · subst hcm
      have hn : n = cap := by omega
      subst hn
      refine ⟨some ⟨g, o, sp⟩, 0, fun w => ?_, fun W h => ?_⟩
      · have e1 : n - n = 0 := Nat.sub_self n
        go_simp
      · have hl := h.len
        rw [List.drop_of_length_le (by omega), Nat.sub_self]
        exact ⟨some ⟨g, o, sp⟩, 0, rfl, Nat.le_refl _, Nat.zero_le _, fun h => by simp at h, fun i x hx => by simp at hx⟩
    refine ⟨some ((⟨g, o, sp⟩ : Addr).add m), cap - m, fun w => ?_, fun W h => ?_⟩
    · have e1 : ((n : Int) - (m : Int)).toNat = n - m := by omega
      have e2 : ((cap : Int) - (m : Int)).toNat = cap - m := by omega
      go_simp
    · have hl := h.len
      by_cases h0 : 0 < n
      · obtain ⟨x, g', o', hx, e, -⟩ := h.at (i := 0) h0
        simp only [Option.some.injEq, Addr.mk.injEq] at e
        obtain ⟨rfl, rfl, rfl⟩ := e
        rw [Addr.add_lit]
        exact h.from hmn
      · have hL : L = [] := List.eq_nil_of_length_eq_zero (by omega)
        subst hL
        have : n = 0 := by omega
        subst this
        have : m = 0 := by omega
        subst this
        obtain ⟨ao, c, e, h1, h2, h3, -⟩ := h
        cases e
        exact ⟨_, _, rfl, by simp, by simp; exact h2, fun h => by simp at h, fun i x hx => by simp at hx⟩
/-- a row that is built of rows that can be read -/
theorem rr_litI (e : Nat) (w : World) (vs : List Value) (Ls : List (List Int)) (hl : vs.length = Ls.length) (hm : vs.length ≤ 1000) (h : ∀ (i : Nat) (u : Value) (L : List Int), vs[i]? = some u → Ls[i]? = some L → RG (Value.int .i64) w u L) :
    RR (Value.int .i64) (w.alloc (.cells vs.toArray e)) (.slice (some ⟨w.heap.size, 0, none⟩) vs.length vs.length) Ls := by
  refine ⟨vs, ?_, hl, fun i u L h1 h2 => (h i u L h1 h2).alloc _⟩
  have := (OG.lit (enc := (id : Value → Value)) e w vs (by unfold maxLen; omega)).rg
  rwa [List.map_id] at this
/-- what With leaves -/
def WithEI (w : World) (L : List Int) (x : Int) (e : Ending) (w' : World) : Prop := ∃ u k, e = .returned (.agg #[u]) ∧ Pos (ltOf cfI) L x k ∧ RG (Value.int .i64) w' u (if hasI L x then L else L.take k ++ x :: L.drop k) ∧ Below w.heap.size w w'
/-- what Without leaves -/
def WithoutEI (w : World) (L : List Int) (x : Int) (e : Ending) (w' : World) : Prop := ∃ u k, e = .returned (.agg #[u]) ∧ Pos (ltOf cfI) L x k ∧ RG (Value.int .i64) w' u (if hasI L x then L.take k ++ L.drop (k + 1) else L) ∧ Below w.heap.size w w'
set_option maxHeartbeats 4000000 in
set_option maxRecDepth 1000000 in
theorem setWithoutI (v : Value) (L : List Int) (x : Int) (w : World) (hv : RG (Value.int .i64) w v L) (hR : Rs (ltOf cfI) L) (hz : L.length ≤ 1000000) : Calls Try.prog 16 #[.agg #[v], (Value.int .i64) x] w fun e w' => WithoutEI w L x e w' := by
  obtain ⟨W1, hW1⟩ : ∃ W1, W1 = (w.alloc (.cells #[v] 39)).alloc (.cells #[.slice none 0 0] 39) := ⟨_, rfl⟩
  have s0 : SCell 39 W1 w.heap.size v := by rw [hW1]; exact (SCell.new w rfl).step _
  have s1 : SCell 39 W1 (w.heap.size + 1) (.slice none 0 0) := by rw [hW1]; exact SCell.new _ (by simp)
  have b0 : Below w.heap.size w W1 := by rw [hW1]; exact ((Below.refl _ _).alloc (Nat.le_refl _) _).alloc (by simp) _
  have z0 : W1.heap.size = w.heap.size + 2 := by rw [hW1]; simp
  have hv1 := hv.below (Nat.le_refl _) b0
  have C := searchI v L x W1 hv1 (hR.srt ordI) (by omega)
  have HW1 : Hid (W1 = (w.alloc (.cells #[v] 39)).alloc (.cells #[.slice none 0 0] 39)) := hW1
  obtain ⟨g, hg⟩ : ∃ g, g = w.heap.size := ⟨_, rfl⟩
  rw [← hg] at s0 s1 b0 z0
  have HG : Hid (g = w.heap.size) := hg
  have hlt := hv1.lt
  obtain ⟨ao, cap, rfl, hc, hm, hnil, hcell⟩ := id hv1
  obtain ⟨n, hn⟩ : ∃ n, L.length = n := ⟨_, rfl⟩
  rw [hn] at hc s0 HW1 C hv1 hz hlt
  have hnv : (Value.slice ao L.length cap) = .slice ao n cap := by rw [hn]
  rw [hnv]
  have HN : Hid (L.length = n) := hn
  have hvw : 0 < n → ∀ j, (Value.slice ao n cap).ownBlock = some j → j < g := fun h j hj => by
    have h1 := hv.lt (by omega) j (by rw [hn]; exact hj)
    rw [← hg] at h1
    exact h1
  clear hW1 hv hcell hn hnv
  unfold maxLen at hm
  have c0 := s0.cell
  go_enter Try.func16, Try.ntmps16
  go_upto_region 1 with fail
  rw [← HW1.out, ← HG.out]
  clear HW1 hg
  go_wp2_with fail
  refine C.mono ?_
  rintro e w2 ⟨k, rfl, hP, q, hq⟩
  have b2 : Below W1.heap.size W1 w2 := by rw [hq]; exact below_drewN (Below.refl _ _) q
  have s0 := s0.below b2
  have s1 := s1.below b2
  have hv2 := hv1.below (Nat.le_refl _) b2
  have b0 := b0.trans (b2.mono (by omega))
  have hsz2 : g + 2 ≤ w2.heap.size := by have := b2.size; omega
  have hn := HN.out
  have hfnd := fndI_has hR hP
  rw [hfnd]
  have HP : Hid (Pos (ltOf cfI) L x k) := hP
  have hkn : k ≤ n := by have := hP.le; omega
  have hk1 := fun (h : hasI L x = true) => (show k < n from by
    rcases Nat.lt_or_ge k n with h1 | h1
    · exact h1
    · rw [← hfnd, fndI_off (by omega)] at h
      exact absurd h (by simp))
  have HK1 : Hid (hasI L x = true → k < n) := hk1
  clear C hq b2 hfnd hP c0 hk1 hn
  have c0 := s0.cell
  have c1 := s1.cell
  have f1 := s1.thaw
  cases hb : hasI L x with
  | false =>
    have HW : Hid (SCell 39 (w2.setCell ⟨g + 1, 0, none⟩ (.slice ao n cap)) (g + 1) (.slice ao n cap)) := s1.write _
    have HB : Hid (Below g w (w2.setCell ⟨g + 1, 0, none⟩ (.slice ao n cap))) := b0.setCell (p := ⟨g + 1, 0, none⟩) (Nat.le_succ _) _
    have HR : Hid (RG (Value.int .i64) (w2.setCell ⟨g + 1, 0, none⟩ (.slice ao n cap)) (.slice ao n cap) L) := hv2.move fun h0 j hj => Below.heap_setCell _ _ _ _ (by have := hvw (by have := HN.out; omega) j hj; show j ≠ g + 1; omega)
    clear hv1 hv2 s0 s1 b0 hlt hvw
    go_wp2_with fail
    (try simp only [Exit.inBlock, Exit.then])
    exact bodyPost_ret (results_cell_row rfl _ _ (g + 1) 39 _ (0, 0) _ rfl HW.out Try.underlying39 rfl (by kernel_rfl)) rfl ⟨_, k, rfl, HP.out, by rw [hb]; exact HR.out, by rw [← HG.out]; exact HB.out⟩
  | true =>
    have hcut := cutI ao n cap k hkn hc (by omega) hnil
    obtain ⟨bo, c2, hfrom, hfr⟩ := fromI ao n cap (k + 1) L (HK1.out hb) hc (by omega) hnil
    have ek1 : ((k + 1 : Nat) : Int) = (k : Int) + 1 := by omega
    rw [ek1] at hfrom
    have wk1 : IntKind.i64.wrap ((k : Int) + 1) = (k : Int) + 1 := by rw [IntKind.wrap_i64]; omega
    have KEEP : ∀ u, Below w2.heap.size w2 u → L3.AllL u [(1, fun w' => w'.cell? ⟨g, 0, none⟩ = some (.slice ao n cap)), (5, fun w' => w'.cell? ⟨g, 0, none⟩ = some (.slice ao n cap))] := fun u hu => ⟨(s0.below hu).cell, (s0.below hu).cell, trivial⟩
    go_wp2_with fail
    refine L3.region_late [(1, fun w' => w'.cell? ⟨g, 0, none⟩ = some (.slice ao n cap)), (5, fun w' => w'.cell? ⟨g, 0, none⟩ = some (.slice ao n cap))] (by kernel_rfl) ?_
    have B0 : Below w2.heap.size w2 w2.drew := (Below.refl _ _).drew
    obtain ⟨w3, hw3⟩ : ∃ u, u = w2.drew := ⟨_, rfl⟩
    rw [← hw3] at B0 ⊢
    clear hw3 c0 c1 f1
    have hHeld := KEEP _ B0
    refine L3.late_free 0 (v := .pointer (some ⟨g, 0, none⟩)) rfl (by kernel_rfl) (by kernel_rfl) (by kernel_rfl) (by kernel_rfl) (by kernel_rfl) (by kernel_rfl) (fun _ _ _ h => h) (Or.inl ⟨by rfl, ?_⟩) hHeld ?_
    · (intro u _; go_simp)
    (try simp only [Act.put, List.setIfInBounds_toArray, List.set_cons_zero, List.set_cons_succ])
    refine L3.late_take 1 (v := .slice ao n cap) rfl (by kernel_rfl) (List.Mem.head _) (by kernel_rfl) (by kernel_rfl) (by kernel_rfl) (by kernel_rfl) (fun _ _ _ h => h) (Or.inl ⟨by rfl, ?_⟩) hHeld ?_
    · (intro u hu; (try dsimp only at hu); go_split_ands; go_simp)
    (try simp only [Act.put, List.setIfInBounds_toArray, List.set_cons_zero, List.set_cons_succ])
    refine L3.late_free 2 (v := .int .i64 k) rfl (by kernel_rfl) (by kernel_rfl) (by kernel_rfl) (by kernel_rfl) (by kernel_rfl) (by kernel_rfl) (fun _ _ _ h => h) (Or.inl ⟨by rfl, ?_⟩) hHeld ?_
    · (intro u _; go_simp)
    (try simp only [Act.put, List.setIfInBounds_toArray, List.set_cons_zero, List.set_cons_succ])
    refine L3.late_free 3 (v := .slice ao k cap) rfl (by kernel_rfl) (by kernel_rfl) (by kernel_rfl) (by kernel_rfl) (by kernel_rfl) (by kernel_rfl) (fun _ _ _ h => h) (Or.inl ⟨by rfl, ?_⟩) hHeld ?_
    · (intro u _; go_simp)
    (try simp only [Act.put, List.setIfInBounds_toArray, List.set_cons_zero, List.set_cons_succ])
    refine L3.late_free 4 (v := .pointer (some ⟨g, 0, none⟩)) rfl (by kernel_rfl) (by kernel_rfl) (by kernel_rfl) (by kernel_rfl) (by kernel_rfl) (by kernel_rfl) (fun _ _ _ h => h) (Or.inl ⟨by rfl, ?_⟩) hHeld ?_
    · (intro u _; go_simp)
    (try simp only [Act.put, List.setIfInBounds_toArray, List.set_cons_zero, List.set_cons_succ])
    refine L3.late_take 5 (v := .slice ao n cap) rfl (by kernel_rfl) (List.Mem.tail _ (List.Mem.head _)) (by kernel_rfl) (by kernel_rfl) (by kernel_rfl) (by kernel_rfl) (fun _ _ _ h => h) (Or.inl ⟨by rfl, ?_⟩) hHeld ?_
    · (intro u hu; (try dsimp only at hu); go_split_ands; go_simp)
    (try simp only [Act.put, List.setIfInBounds_toArray, List.set_cons_zero, List.set_cons_succ])
    refine L3.late_free 6 (v := .int .i64 k) rfl (by kernel_rfl) (by kernel_rfl) (by kernel_rfl) (by kernel_rfl) (by kernel_rfl) (by kernel_rfl) (fun _ _ _ h => h) (Or.inl ⟨by rfl, ?_⟩) hHeld ?_
    · (intro u _; go_simp)
    (try simp only [Act.put, List.setIfInBounds_toArray, List.set_cons_zero, List.set_cons_succ])
    refine L3.late_free 7 (v := .int .i64 ((k : Int) + 1)) rfl (by kernel_rfl) (by kernel_rfl) (by kernel_rfl) (by kernel_rfl) (by kernel_rfl) (by kernel_rfl) (fun _ _ _ h => h) (Or.inl ⟨by rfl, ?_⟩) hHeld ?_
    · (intro u _; go_simp)
    (try simp only [Act.put, List.setIfInBounds_toArray, List.set_cons_zero, List.set_cons_succ])
    refine L3.late_free 8 (v := .slice bo (n - (k + 1)) c2) rfl (by kernel_rfl) (by kernel_rfl) (by kernel_rfl) (by kernel_rfl) (by kernel_rfl) (by kernel_rfl) (fun _ _ _ h => h) (Or.inl ⟨by rfl, ?_⟩) hHeld ?_
    · (intro u _; go_simp)
    (try simp only [Act.put, List.setIfInBounds_toArray, List.set_cons_zero, List.set_cons_succ])
    refine L3.late_step 9 (by kernel_rfl) rfl (fun K hK => ?_)
    go_simp
    have rv := hv2.below (Nat.le_refl _) B0
    have hrr := rr_litI 24 w3 [.slice ao k cap, .slice bo (n - (k + 1)) c2] [L.take k, L.drop (k + 1)] rfl (by simp) (fun i u M h1 h2 => by
      match i, h1, h2 with
      | 0, h1, h2 => cases h1; cases h2; exact rv.cut hkn
      | 1, h1, h2 => cases h1; cases h2; exact hfr _ rv)
    obtain ⟨w5, hw5⟩ : ∃ u, u = w3.alloc (.cells #[.slice ao k cap, .slice bo (n - (k + 1)) c2] 24) := ⟨_, rfl⟩
    have b5 : Below w3.heap.size w3 w5 := by rw [hw5]; exact (Below.refl _ _).alloc (Nat.le_refl _) _
    have B5 : Below w2.heap.size w2 w5 := B0.trans (b5.mono B0.size)
    have hrr : RR (Value.int .i64) w5 (.slice (some ⟨w3.heap.size, 0, none⟩) 2 2) [L.take k, L.drop (k + 1)] := by rw [hw5]; exact hrr
    rw [← hw5]
    obtain ⟨g5, hg5⟩ : ∃ g, g = w3.heap.size := ⟨_, rfl⟩
    rw [← hg5] at hrr ⊢
    clear hw5 hg5 hHeld b5
    have hHeld := KEEP _ B5
    refine hK.out _ _ (L3.AllL.kept hHeld) ?_
    clear hK K
    (try simp only [Act.put, List.setIfInBounds_toArray, List.set_cons_zero, List.set_cons_succ])
    refine L3.late_step 10 (by kernel_rfl) rfl (fun K hK => ?_)
    go_simp
    have hfl : [L.take k, L.drop (k + 1)].flatten = L.take k ++ L.drop (k + 1) := by simp
    have hn := HN.out
    have hflz : (L.take k ++ L.drop (k + 1)).length ≤ 1048576 := by simp only [List.length_append, List.length_take, List.length_drop]; omega
    refine (concatI _ [L.take k, L.drop (k + 1)] w5 hrr (by rw [hfl]; exact hflz) (by simp)).mono ?_
    rintro e w6 ⟨u, rfl, ho, b6⟩
    rw [hfl] at ho
    have B6 : Below w2.heap.size w2 w6 := B5.trans (b6.mono B5.size)
    obtain ⟨uo, uc, hu, -⟩ := ho.sl
    obtain ⟨ul, hul⟩ : ∃ l, l = (L.take k ++ L.drop (k + 1)).length := ⟨_, rfl⟩
    rw [← hul] at hu
    subst hu
    clear hHeld hrr b6 hul hn
    have hHeld := KEEP _ B6
    go_wp2_with fail
    refine hK.out _ _ (L3.AllL.kept hHeld) ?_
    clear hK K
    (try simp only [Act.put, List.setIfInBounds_toArray, List.set_cons_zero, List.set_cons_succ])
    refine L3.late_free 11 (v := .agg #[.slice uo ul uc]) rfl (by kernel_rfl) (by kernel_rfl) (by kernel_rfl) (by kernel_rfl) (by kernel_rfl) (by kernel_rfl) (fun _ _ _ h => h) (Or.inl ⟨by rfl, ?_⟩) hHeld ?_
    · (intro u _; go_simp)
    (try simp only [Act.put, List.setIfInBounds_toArray, List.set_cons_zero, List.set_cons_succ])
    have s6 := s1.below B6
    have c6 := s6.cell
    have f6 := s6.thaw
    have HW : Hid (SCell 39 (w6.setCell ⟨g + 1, 0, none⟩ (.slice uo ul uc)) (g + 1) (.slice uo ul uc)) := s6.write _
    have HB : Hid (Below g w (w6.setCell ⟨g + 1, 0, none⟩ (.slice uo ul uc))) := (b0.trans (B6.mono (by omega))).setCell (p := ⟨g + 1, 0, none⟩) (Nat.le_succ _) _
    have c9 : Hid ((w6.setCell ⟨g + 1, 0, none⟩ (.slice uo ul uc)).cell? ⟨g, 0, none⟩ = some (.slice ao n cap)) := ((s0.below B6).other (by omega) 0 _).cell
    have HR : Hid (RG (Value.int .i64) (w6.setCell ⟨g + 1, 0, none⟩ (.slice uo ul uc)) (.slice uo ul uc) (L.take k ++ L.drop (k + 1))) := ho.rg.of_blocks fun j hj => Below.heap_setCell _ _ _ _ (by have h1 := (ho.lt j hj).1; have h2 := B5.size; show j ≠ g + 1; omega)
    refine L3.late_step 12 (by kernel_rfl) rfl (fun K hK => ?_)
    go_simp
    refine hK.out _ _ (L3.AllL.kept ⟨c9.out, c9.out, trivial⟩) ?_
    clear hK K
    (try simp only [Act.put, List.setIfInBounds_toArray, List.set_cons_zero, List.set_cons_succ])
    refine L3.late_done (by kernel_rfl) ?_ _
    clear hHeld c6 f6
    go_wp2_with fail
    (try simp only [Exit.inBlock, Exit.then])
    exact bodyPost_ret (results_cell_row rfl _ _ (g + 1) 39 _ (0, 0) _ rfl HW.out Try.underlying39 rfl (by kernel_rfl)) rfl ⟨_, k, rfl, HP.out, by rw [hb]; exact HR.out, by rw [← HG.out]; exact HB.out⟩
end Go.Proofs.Ytcadljpdokhpmaa

/-
  Proved here: the law's moral.
-/
import Derived.Test.YtcoiapgfaibkgaaGreatMbA
namespace Go.Proofs.YtcoiapgfaibkgaaGreat
set_option linter.unusedVariables false
open Go.RowKit Go.Shelf Go.Sort Go.Lib
theorem Tryz.infoBB : (Tryz.prog.info? 41).map (fun i => (i.zero, i.size, i.bytes)) = some (some (.slice none 0 0), 1, 24) := by kernel_rfl
def StM (n : Nat) (M : Nat → Nat → Bool) (Q : Nat → Nat → Prop) : Prop := ∀ u v, u < n → v < n → (M u v = true ↔ Q u v)
theorem StM.congr {n : Nat} {M : Nat → Nat → Bool} {Q Q' : Nat → Nat → Prop} (h : StM n M Q) (e : ∀ u v, Q u v ↔ Q' u v) : StM n M Q' := fun u v hu hv => (h u v hu hv).trans (e u v)
theorem StM.put {n : Nat} {M : Nat → Nat → Bool} {Q : Nat → Nat → Prop} (h : StM n M Q) (j k : Nat) : StM n (fun u v => if u = j ∧ v = k then true else M u v) (fun u v => (u = j ∧ v = k) ∨ Q u v) := fun u v hu hv => by
  by_cases e : u = j ∧ v = k
  · simp [e]
  · simp only [e, if_false, false_or]; exact h u v hu hv
/-- While a point's parents are gone through. -/
def Q3 (P : List (List Int)) (K : List Int) (i c j : Nat) (u v : Nat) : Prop := MoG P (K.take i) u v ∨ MoK P c ((P.getD c []).take j) u v
def Q4 (P : List (List Int)) (K : List Int) (i c j p l : Nat) (u v : Nat) : Prop := Q3 P K i c j u v ∨ MoE P c (p : Int) u v ∨ MoF P c (p : Int) ((P.getD c []).take l) u v
theorem q3_zero (P : List (List Int)) (K : List Int) (i c : Nat) (u v : Nat) : MoG P (K.take i) u v ↔ Q3 P K i c 0 u v := by
  unfold Q3 MoK
  simp
theorem q4_zero (P : List (List Int)) (K : List Int) (i c j p : Nat) (u v : Nat) : ((u = p ∧ v = c) ∨ (u = c ∧ v = p) ∨ Q3 P K i c j u v) ↔ Q4 P K i c j p 0 u v := by
  unfold Q4 MoE MoF
  simp only [List.take_zero, List.not_mem_nil, and_false, or_false]
  constructor
  · rintro (⟨rfl, rfl⟩ | ⟨rfl, rfl⟩ | h)
    · exact Or.inr (Or.inr ⟨rfl, rfl⟩)
    · exact Or.inr (Or.inl ⟨rfl, rfl⟩)
    · exact Or.inl h
  · rintro (h | ⟨rfl, h⟩ | ⟨h, rfl⟩)
    · exact Or.inr (Or.inr h)
    · exact Or.inr (Or.inl ⟨rfl, by omega⟩)
    · exact Or.inl ⟨by omega, rfl⟩
theorem q4_step {P : List (List Int)} {K : List Int} {i c j p l q : Nat} (h : (P.getD c [])[l]? = some (q : Int)) (u v : Nat) : ((u = p ∧ v = q) ∨ Q4 P K i c j p l u v) ↔ Q4 P K i c j p (l + 1) u v := by
  unfold Q4 MoF
  rw [List.take_add_one, h]
  simp only [Option.toList, List.mem_append, List.mem_singleton]
  constructor
  · rintro (⟨rfl, rfl⟩ | h | h | ⟨h1, h2⟩)
    · exact Or.inr (Or.inr ⟨rfl, Or.inr rfl⟩)
    · exact Or.inl h
    · exact Or.inr (Or.inl h)
    · exact Or.inr (Or.inr ⟨h1, Or.inl h2⟩)
  · rintro (h | h | ⟨h1, h2 | h2⟩)
    · exact Or.inr (Or.inl h)
    · exact Or.inr (Or.inr (Or.inl h))
    · exact Or.inr (Or.inr (Or.inr ⟨h1, h2⟩))
    · exact Or.inl ⟨by omega, by omega⟩
theorem q4_end {P : List (List Int)} {K : List Int} {i c j p l : Nat} (h : (P.getD c [])[j]? = some (p : Int)) (hl : (P.getD c []).length ≤ l) (u v : Nat) : Q4 P K i c j p l u v ↔ Q3 P K i c (j + 1) u v := by
  unfold Q4 Q3 MoK
  rw [List.take_of_length_le hl, List.take_add_one, h]
  simp only [Option.toList, List.mem_append, List.mem_singleton]
  constructor
  · rintro ((h | ⟨x, h1, h2⟩) | h)
    · exact Or.inl h
    · exact Or.inr ⟨x, Or.inl h1, h2⟩
    · exact Or.inr ⟨_, Or.inr rfl, h⟩
  · rintro (h | ⟨x, h1 | rfl, h2⟩)
    · exact Or.inl (Or.inl h)
    · exact Or.inl (Or.inr ⟨x, h1, h2⟩)
    · exact Or.inr h2
theorem q3_end {P : List (List Int)} {K : List Int} {i c j : Nat} (h : K[i]? = some (c : Int)) (hl : (P.getD c []).length ≤ j) (u v : Nat) : Q3 P K i c j u v ↔ MoG P (K.take (i + 1)) u v := by
  unfold Q3 MoG
  rw [List.take_of_length_le hl, List.take_add_one, h]
  simp only [Option.toList, List.mem_append, List.mem_singleton]
  constructor
  · rintro (⟨x, h1, h2⟩ | h)
    · exact ⟨x, Or.inl h1, h2⟩
    · exact ⟨_, Or.inr rfl, by rw [Int.toNat_natCast]; exact h⟩
  · rintro ⟨x, h1 | rfl, h2⟩
    · exact Or.inl ⟨x, h1, h2⟩
    · rw [Int.toNat_natCast] at h2; exact Or.inr h2
set_option maxRecDepth 1000000 in
set_option maxHeartbeats 12800000 in
theorem moral16 (pv kv : Value) (pvs : List Value) (P : List (List Int)) (K : List Int) (w : World) (h : RRD w pv pvs P) (n : Nat) (hn : P.length = n) (hn7 : n ≤ 100) (hP : ∀ (i : Nat) (x : Int), x ∈ P.getD i [] → ∃ p : Nat, x = (p : Int) ∧ p < n) (hk : RG (Value.int .i64) w kv K) (hK : ∀ x ∈ K, ∃ p : Nat, x = (p : Int) ∧ p < n) :
    Calls Tryz.prog 26 #[pv, kv] w fun e w' => ∃ gm, e = .returned (.slice (some ⟨gm, 0, none⟩) n n) ∧ (∃ cvs M, MbC w.heap.size w' gm n n cvs M ∧ StM n M (MoG P K)) ∧ Below w.heap.size w w' := by
  obtain ⟨ib, hib, hs0, hs1, hs2⟩ := info_parts Tryz.infoBD
  obtain ⟨im, him, hm0, hm1, hm2⟩ := info_parts Tryz.infoBB
  obtain ⟨po, pn, pc, rfl⟩ : ∃ o n c, pv = .slice o n c := by obtain ⟨ao, cap, e⟩ := h.out.sl; exact ⟨_, _, _, e⟩
  obtain rfl : pn = n := by rw [← hn, ← h.len, h.out.len]
  obtain ⟨ko, kn, kc, rfl⟩ : ∃ o n c, kv = .slice o n c := by obtain ⟨ao, cap, e⟩ := hk.sl; exact ⟨_, _, _, e⟩
  have hknm : kn ≤ 9223372036854775807 := by have := hk.room.1; have := hk.room.2.1; unfold maxLen at *; omega
  have HR : Hid (∀ W, Below w.heap.size w W → RRD W (.slice po pn pc) pvs P) := fun W hW => h.below (Nat.le_refl _) hW
  have HK : Hid (∀ W, Below w.heap.size w W → RG (Value.int .i64) W (.slice ko kn kc) K) := fun W hW => hk.below (Nat.le_refl _) hW
  have HKN : Hid (K.length = kn) := hk.len
  have HN : Hid (P.length = pn) := hn
  have HPP : Hid (∀ (i : Nat) (x : Int), x ∈ P.getD i [] → ∃ p : Nat, x = (p : Int) ∧ p < pn) := hP
  have HKP : Hid (∀ x ∈ K, ∃ p : Nat, x = (p : Int) ∧ p < pn) := hK
  obtain ⟨W1, hW1⟩ : ∃ W, W = w.alloc (.cells (Array.replicate pn (.slice none 0 0)) 41) := ⟨_, rfl⟩
  obtain ⟨gm, hgm⟩ : ∃ g, g = w.heap.size := ⟨_, rfl⟩
  have hb1 : Below w.heap.size w W1 := by rw [hW1]; exact belowB _ _
  have HM0 : Hid (∃ cvs M, MbC w.heap.size W1 gm pn 0 cvs M ∧ ∀ u v, u < 0 → M u v = false) := by
    refine ⟨List.replicate pn (.slice none 0 0), fun _ _ => false, ⟨?_, by simp, fun j hj => absurd hj (Nat.not_lt_zero _), fun j k g hj => absurd hj (Nat.not_lt_zero _)⟩, fun _ _ _ => rfl⟩
    rw [hW1, hgm]
    exact OG.made (enc := id) w 41 pn (.slice none 0 0) (by unfold maxLen; omega)
  have HB1 : Hid (Below w.heap.size w W1) := hb1
  have HW1 : Hid (W1 = w.alloc (.cells (Array.replicate pn (.slice none 0 0)) 41)) := hW1
  have HGM : Hid (gm = w.heap.size) := hgm
  clear h hn hP hk hK hW1 hgm hb1
  go_enter Tryz.func26, Tryz.ntmps26
  go_upto_region 3 with (at_make; refine wpList_madeD _ rfl _ _ 43 rfl 41 im (.slice none 0 0) rfl Tryz.underlying43 him hm0 hm1 _ _ pn rfl rfl (by rw [hm2]; omega) (by omega) ?_)
  rw [← HW1.out, ← HGM.out]
  clear HW1 HGM
  go_wp2
  go_loopg [7] pn (fun g1 v7 wr => ∃ i : Nat, v7 = .int .i64 i ∧ i ≤ pn ∧ pn - i ≤ g1 ∧ Hid (∃ cvs M, MbC w.heap.size wr gm pn i cvs M ∧ ∀ u v, u < i → M u v = false) ∧ Hid (Below w.heap.size w wr))
  case atStart => exact ⟨0, rfl, by omega, by omega, HM0, HB1⟩
  case round =>
    clear HM0 HB1
    obtain ⟨i, rfl, hin, hg1, HM, HB⟩ := hrel
    by_cases hlt : i < pn
    · have hltz : (i : Int) < (pn : Int) := by omega
      obtain ⟨cvs, M, hM, hM0⟩ := HM.out
      obtain ⟨x0, hx0⟩ : ∃ x, cvs[i]? = some x := ⟨_, List.getElem?_eq_getElem (by rw [hM.len]; exact hlt)⟩
      have hb2 : Below wr.heap.size wr (wr.alloc (.cells (Array.replicate pn (.bool false)) 4)) := belowB _ _
      obtain ⟨hc1, hc2⟩ := (hM.row.below hb2).cell hx0
      change (wr.alloc (.cells (Array.replicate pn (.bool false)) 4)).cell? ⟨gm, i, none⟩ = some x0 at hc1
      have hnx := hM.next HB.out.size hlt (by unfold maxLen; omega)
      obtain ⟨W3, hW3⟩ : ∃ W, W = (wr.alloc (.cells (Array.replicate pn (.bool false)) 4)).setCell ⟨gm, i, none⟩ (.slice (some ⟨wr.heap.size, 0, none⟩) pn pn) := ⟨_, rfl⟩
      rw [← hW3] at hnx
      have HM2 : Hid (∃ cvs M, MbC w.heap.size W3 gm pn (i + 1) cvs M ∧ ∀ u v, u < i + 1 → M u v = false) := ⟨_, _, hnx, fun u v hu => by
        by_cases e : u = i
        · simp [e]
        · simp only [e, if_false]; exact hM0 u v (by omega)⟩
      have HB2 : Hid (Below w.heap.size w W3) := by show Below _ _ _; rw [hW3]; exact (bstepB HB.out hb2).setCell (p := ⟨gm, i, none⟩) (hM.row.lt gm rfl).1 _
      have HW3 : Hid (W3 = (wr.alloc (.cells (Array.replicate pn (.bool false)) 4)).setCell ⟨gm, i, none⟩ (.slice (some ⟨wr.heap.size, 0, none⟩) pn pn)) := hW3
      clear hM hM0 hx0 hb2 hnx hW3 HM HB
      go_wp2_with (at_make; refine wpList_madeD _ rfl _ _ 41 rfl 4 ib (.bool false) rfl Tryz.underlying41 hib hs0 hs1 _ _ pn rfl rfl (by rw [hs2]; omega) (by omega) ?_)
      try go_wp2
      rw [← HW3.out]
      clear HW3 hc1 hc2
      go_roundg (pn - (i + 1))
      case measure => omega
      case rel => exact ⟨i + 1, by first | rfl | go_num, by omega, Nat.le_refl _, HM2, HB2⟩
    · have hltz : ¬ (i : Int) < (pn : Int) := by omega
      obtain rfl : i = pn := by omega
      obtain ⟨cvs, M, hM, hM0⟩ := HM.out
      have HM2 : Hid (∃ M, MbC w.heap.size wr gm i i cvs M ∧ StM i M (MoG P (K.take 0))) := ⟨M, hM, fun u v hu hv => by
        rw [hM0 u v hu]
        unfold MoG
        simp⟩
      clear hM hM0 HM
      go_wp2
      go_loopg [8, 9, 10, 11, 12] kn (fun g1 v8 _v9 _v10 _v11 _v12 wq => ∃ k : Nat, v8 = .int .i64 k ∧ k ≤ kn ∧ kn - k ≤ g1 ∧ Hid (∃ M, MbC w.heap.size wq gm i i cvs M ∧ StM i M (MoG P (K.take k))) ∧ Hid (Below w.heap.size w wq))
      case atStart => exact ⟨0, rfl, by omega, by omega, HM2, HB⟩
      case round =>
        clear HM2 HB
        obtain ⟨k, rfl, hkn, hg2, HM, HB⟩ := hrel
        by_cases hlk : k < kn
        · have hlkz : (k : Int) < (kn : Int) := by omega
          obtain ⟨x, gx, ox, hx1, rfl, hx2⟩ := (HK.out wr HB.out).at hlk
          obtain ⟨c, rfl, hc⟩ := HKP.out x (List.mem_of_getElem? hx1)
          have hcz : (c : Int) < (i : Int) := by omega
          obtain ⟨z, gp, op, hz1, rfl, hz2w⟩ := (HR.out w (Below.refl _ _)).out.at hc
          have HZR : Hid (∀ W, Below w.heap.size w W → RG (Value.int .i64) W z (P.getD c [])) := fun W hW => (HR.out W hW).inn c z hz1
          obtain ⟨zo, zn, zc, rfl⟩ : ∃ o n c, z = .slice o n c := by obtain ⟨ao, cap, e⟩ := (HZR.out w (Below.refl _ _)).sl; exact ⟨_, _, _, e⟩
          have hzr := (HZR.out w (Below.refl _ _)).room
          have HZN : Hid ((P.getD c []).length = zn) := (HZR.out w (Below.refl _ _)).len
          have HZC : Hid (∀ W, Below w.heap.size w W → W.cell? ⟨gp, op + c, none⟩ = some (.slice zo zn zc)) := fun W hW => keepR hW hz2w
          have hznm : zn ≤ 9223372036854775807 := by have := hzr.1; have := hzr.2.1; unfold maxLen at *; omega
          have HX1 : Hid (K[k]? = some (c : Int)) := hx1
          have HM3 : Hid (∃ M, MbC w.heap.size wr gm i i cvs M ∧ StM i M (Q3 P K k c 0)) := by
            obtain ⟨M, h1, h2⟩ := HM.out
            exact ⟨M, h1, h2.congr (q3_zero P K k c)⟩
          clear hx1 hz1 hz2w hzr HM
          go_wp2
          clear hx2
          go_loopg [10, 11, 12] zn (fun g3 v10 _v11 _v12 wq => ∃ j : Nat, v10 = .int .i64 j ∧ j ≤ zn ∧ zn - j ≤ g3 ∧ Hid (∃ M, MbC w.heap.size wq gm i i cvs M ∧ StM i M (Q3 P K k c j)) ∧ Hid (Below w.heap.size w wq))
          case atStart => exact ⟨0, rfl, by omega, by omega, HM3, HB⟩
          case round =>
            clear HM3 HB
            obtain ⟨j, rfl, hjn, hg3, HM, HB⟩ := hrel
            have hz2 := HZC.out wr HB.out
            by_cases hlj : j < zn
            · have hljz : (j : Int) < (zn : Int) := by omega
              obtain ⟨y, gy, oy, hy1, rfl, hy2⟩ := (HZR.out wr HB.out).at hlj
              obtain ⟨p, rfl, hp⟩ := HPP.out c y (List.mem_of_getElem? hy1)
              have hpz : (p : Int) < (i : Int) := by omega
              obtain ⟨M, hM, hS⟩ := HM.out
              obtain ⟨gr, hgr, hor⟩ := hM.inn c hc
              obtain ⟨gq, hgq, hoq⟩ := hM.inn p hp
              have hcr : wr.cell? ⟨gm, c, none⟩ = some (.slice (some ⟨gr, 0, none⟩) i i) := (hM.row.cell hgr).1
              obtain ⟨hr1, hr2⟩ := hor.cell (rowB_get (f := M c) hp)
              obtain ⟨W1, hW1⟩ : ∃ W, W = wr.setCell ⟨gr, p, none⟩ (.bool true) := ⟨_, rfl⟩
              have hput := hM.put hc hgr p
              rw [← hW1] at hput
              obtain ⟨hM1, hBg⟩ := hput
              have hb1 : Below w.heap.size w W1 := by rw [hW1]; exact HB.out.setCell (p := ⟨gr, p, none⟩) hBg _
              obtain ⟨gq', hgq', hoq1⟩ := hM1.inn p hp
              rw [hgq] at hgq'
              simp only [Option.some.injEq, Value.slice.injEq, Addr.mk.injEq, and_true] at hgq'
              subst hgq'
              have hcq : W1.cell? ⟨gm, p, none⟩ = some (.slice (some ⟨gq, 0, none⟩) i i) := (hM1.row.cell hgq).1
              obtain ⟨b2, hb2⟩ : ∃ b : Bool, b = (if p = c ∧ c = p then true else M p c) := ⟨_, rfl⟩
              have hq12 := hoq1.cell (rowB_get (f := fun v => if p = c ∧ v = p then true else M p v) hc)
              obtain ⟨hq1, hq2⟩ := hq12
              rw [← hb2] at hq1
              obtain ⟨W2, hW2⟩ : ∃ W, W = W1.setCell ⟨gq, c, none⟩ (.bool true) := ⟨_, rfl⟩
              have hput2 := hM1.put hp hgq c
              rw [← hW2] at hput2
              obtain ⟨hM2, hBg2⟩ := hput2
              have HB2 : Hid (Below w.heap.size w W2) := by show Below _ _ _; rw [hW2]; exact hb1.setCell (p := ⟨gq, c, none⟩) hBg2 _
              have HM4 : Hid (∃ M, MbC w.heap.size W2 gm i i cvs M ∧ StM i M (Q4 P K k c j p 0)) := ⟨_, hM2, ((hS.put c p).put p c).congr (q4_zero P K k c j p)⟩
              have HW1 : Hid (W1 = wr.setCell ⟨gr, p, none⟩ (.bool true)) := hW1
              have HW2 : Hid (W2 = W1.setCell ⟨gq, c, none⟩ (.bool true)) := hW2
              have HY1 : Hid ((P.getD c [])[j]? = some (p : Int)) := hy1
              clear hy1 hM hS hgr hgq hor hoq hW1 hM1 hBg hb1 hoq1 hb2 hW2 hM2 hBg2 HM HB
              go_upto_region 16 with fail
              rw [← HW1.out]
              clear HW1 hcr hr1 hr2 hz2 hy2
              go_upto_region 17 with fail
              rw [← HW2.out]
              clear HW2 hcq hq1 hq2
              go_wp2
              go_loopg [12] zn (fun g4 v12 wq => ∃ l : Nat, v12 = .int .i64 l ∧ l ≤ zn ∧ zn - l ≤ g4 ∧ Hid (∃ M, MbC w.heap.size wq gm i i cvs M ∧ StM i M (Q4 P K k c j p l)) ∧ Hid (Below w.heap.size w wq))
              case atStart => exact ⟨0, rfl, by omega, by omega, HM4, HB2⟩
              case round =>
                clear HM4 HB2
                obtain ⟨l, rfl, hln, hg4, HM, HB⟩ := hrel
                have hz2 := HZC.out wr HB.out
                by_cases hll : l < zn
                · have hllz : (l : Int) < (zn : Int) := by omega
                  obtain ⟨y, gx2, ox2, hy1, hye, hy2⟩ := (HZR.out wr HB.out).at hll
                  simp only [Option.some.injEq, Addr.mk.injEq, and_true] at hye
                  obtain ⟨rfl, rfl⟩ := hye
                  obtain ⟨q, rfl, hq⟩ := HPP.out c y (List.mem_of_getElem? hy1)
                  have hqz : (q : Int) < (i : Int) := by omega
                  obtain ⟨M, hM, hS⟩ := HM.out
                  obtain ⟨gr, hgr, hor⟩ := hM.inn p hp
                  have hcr : wr.cell? ⟨gm, p, none⟩ = some (.slice (some ⟨gr, 0, none⟩) i i) := (hM.row.cell hgr).1
                  obtain ⟨hr1, hr2⟩ := hor.cell (rowB_get (f := M p) hq)
                  have hput := hM.put hp hgr q
                  obtain ⟨WN, hWN⟩ : ∃ W, W = (wr.setCell ⟨gr, q, none⟩ (.bool true)).drew := ⟨_, rfl⟩
                  have hbd : Below (wr.setCell ⟨gr, q, none⟩ (.bool true)).heap.size (wr.setCell ⟨gr, q, none⟩ (.bool true)) WN := by rw [hWN]; exact (Below.refl _ _).drew
                  have HM5 : Hid (∃ M, MbC w.heap.size WN gm i i cvs M ∧ StM i M (Q4 P K k c j p (l + 1))) := ⟨_, hput.1.below hbd, (hS.put p q).congr (q4_step hy1)⟩
                  have HB5 : Hid (Below w.heap.size w WN) := bstepB (HB.out.setCell (p := ⟨gr, q, none⟩) hput.2 _) hbd
                  have HWN : Hid (WN = (wr.setCell ⟨gr, q, none⟩ (.bool true)).drew) := hWN
                  clear hy1 hM hS hgr hor hput hWN hbd HM HB
                  go_wp2_with fail
                  go_region
                  rw [← HWN.out]
                  clear HWN hcr hr1 hr2 hz2 hy2
                  go_wp2
                  go_roundg (zn - (l + 1))
                  case measure => omega
                  case rel => exact ⟨l + 1, by first | rfl | go_num, by omega, Nat.le_refl _, HM5, HB5⟩
                · have hllz : ¬ (l : Int) < (zn : Int) := by omega
                  have HM5 : Hid (∃ M, MbC w.heap.size wr gm i i cvs M ∧ StM i M (Q3 P K k c (j + 1))) := by
                    obtain ⟨M, h1, h2⟩ := HM.out
                    exact ⟨M, h1, h2.congr (q4_end HY1.out (by rw [HZN.out]; omega))⟩
                  clear HM
                  go_wp2
                  clear hz2
                  go_roundg (zn - (j + 1))
                  case measure => omega
                  case rel => exact ⟨j + 1, by first | rfl | go_num, by omega, Nat.le_refl _, HM5, HB⟩
            · have hljz : ¬ (j : Int) < (zn : Int) := by omega
              have HM5 : Hid (∃ M, MbC w.heap.size wr gm i i cvs M ∧ StM i M (MoG P (K.take (k + 1)))) := by
                obtain ⟨M, h1, h2⟩ := HM.out
                exact ⟨M, h1, h2.congr (q3_end HX1.out (by rw [HZN.out]; omega))⟩
              clear HM
              go_wp2
              clear hz2
              go_roundg (kn - (k + 1))
              case measure => omega
              case rel => exact ⟨k + 1, by first | rfl | go_num, by omega, Nat.le_refl _, HM5, HB⟩
        · have hlkz : ¬ (k : Int) < (kn : Int) := by omega
          have HME : Hid (∃ M, MbC w.heap.size wr gm i i cvs M ∧ StM i M (MoG P K)) := by
            have h1 := HM.out
            rwa [List.take_of_length_le (by rw [HKN.out]; omega)] at h1
          clear HM
          go_wp2
          go_ret
          exact ⟨gm, rfl, ⟨cvs, HME.out⟩, HB.out⟩
end Go.Proofs.YtcoiapgfaibkgaaGreat

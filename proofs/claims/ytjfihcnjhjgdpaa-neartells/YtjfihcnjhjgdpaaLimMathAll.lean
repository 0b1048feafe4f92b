/-
  Proved here: what the document's Round of floats answers.
  Proved here: what the document's Round of floats answers.
  Proved here: when limbs are a number's normal ones. No condition.
-/
import Derived.Test.YtjfihcnjhjgdpaaNearRF
import Derived.Test.YtjfihcnjhjgdpaaNearKAll
namespace Go.Proofs.Ytjfihcnjhjgdpaa
open Go.RowKit

set_option maxRecDepth 100000 in
set_option maxHeartbeats 6400000 in
theorem roundRD (z : Int) (hz : z = (-1074)) (na : Bool) (po qo : Option Addr) (pl pc ql qc : Nat) (xs ys : List Nat) (w : World) (hu : Num w (.slice po pl pc) xs) (hv : Num w (.slice qo ql qc) ys) (lx : xs.length ≤ 1000) (ly : ys.length ≤ 1000) :
    Calls Try.prog 50 #[.agg #[.int .i64 52, .int .u64 9218868437227405312, .int .i64 (-1074)], .agg #[.bool na, .slice po pl pc, .slice qo ql qc]] w fun e w' => ∃ b : Nat, FloorOk 52 9218868437227405312 (val xs * 2 ^ (-z).toNat) (undN (val ys)) b ∧ e = .returned (.int .u64 ((roundR 52 9218868437227405312 (val xs * 2 ^ (-z).toNat) (undN (val ys)) b : Nat) : Int)) ∧ Below w.heap.size w w' := by
  have hln := scaled_len (k := (-z).toNat) hu.1 lx (by omega)
  have hld := undN_len hv.1 ly
  have hsc := fun w h1 h2 => scaledRD z hz na po qo pl pc ql qc xs ys w h1 h2 lx ly
  have hfl := fun w h1 h2 => floorRD z hz na po qo pl pc ql qc xs ys w h1 h2 lx ly
  obtain ⟨n, hn⟩ : ∃ n, n = val xs * 2 ^ (-z).toNat := ⟨_, rfl⟩
  obtain ⟨D, hD⟩ : ∃ D, D = undN (val ys) := ⟨_, rfl⟩
  rw [← hn] at hsc hfl hln ⊢
  rw [← hD] at hsc hfl hld ⊢
  obtain ⟨W1, hW1⟩ : ∃ W1, W1 = (w.alloc (.cells #[.int .i64 52, .int .u64 9218868437227405312, .int .i64 (-1074)] 53)).alloc (.cells #[.bool na, .slice po pl pc, .slice qo ql qc] 29) := ⟨_, rfl⟩
  have hk : LCell W1 w.heap.size (.int .i64 52) (.int .u64 9218868437227405312) (.int .i64 (-1074)) := by rw [hW1]; exact (lcell_new _ rfl).below (belowA _ _)
  have hr : TCell W1 (w.heap.size + 1) (.bool na) (.slice po pl pc) (.slice qo ql qc) := by rw [hW1]; exact tcell_new _ (by simp)
  have hb1 : Below w.heap.size w W1 := by rw [hW1]; exact bstep (belowA w _) (belowA _ _)
  have HW1 : Hid (W1 = (w.alloc (.cells #[.int .i64 52, .int .u64 9218868437227405312, .int .i64 (-1074)] 53)).alloc (.cells #[.bool na, .slice po pl pc, .slice qo ql qc] 29)) := hW1
  replace hu := hu.below (Nat.le_refl _) hb1
  replace hv := hv.below (Nat.le_refl _) hb1
  clear hW1 hn hD hz
  go_enter Try.func50, Try.ntmps50
  go_wp2_with fail
  rw [← HW1.out]
  obtain ⟨g, hg⟩ : ∃ g, g = w.heap.size := ⟨_, rfl⟩
  rw [← hg] at hk hr ⊢
  refine (hfl _ hu hv).mono ?_
  rintro e w2 ⟨b, rfl, hfo, b2⟩
  replace hu := hu.below (Nat.le_refl _) b2
  replace hv := hv.below (Nat.le_refl _) b2
  replace hk := hk.below b2
  replace hr := hr.below b2
  replace hb1 := bstep hb1 b2
  clear b2 HW1 hg hfl
  have hbL := hfo.lt
  have HFO : Hid (FloorOk 52 9218868437227405312 n D b) := hfo
  clear hfo
  obtain ⟨k0, k1, k2⟩ := hk.cells
  obtain ⟨c0, c1, c2⟩ := hr.cells
  by_cases hbl : b = 9218868437227405312
  · have HE : Hid (roundR 52 9218868437227405312 n D b = 9218868437227405312 ∧ Below w.heap.size w w2) := ⟨by unfold roundR; rw [if_pos hbl]; exact hbl, hb1⟩
    have hbl' : ((b : Int) == 9218868437227405312) = true := by simp; omega
    have hbl2 : (b : Int) = 9218868437227405312 := by omega
    clear hbL hu hv hsc hb1 hk hr
    go_wp2
    go_ret
    exact ⟨b, HFO.out, by rw [HE.out.1]; rfl, HE.out.2⟩
  · have hbl' : ((b : Int) == 9218868437227405312) = false := by simp; omega
    have HR : Hid (roundR 52 9218868437227405312 n D b = if cmpN (n + n) ((fval 52 b + fval 52 (b + 1)) * D) = 1 ∨ (cmpN (n + n) ((fval 52 b + fval 52 (b + 1)) * D) = 0 ∧ b % 2 = 1) then b + 1 else b) := by show _ = _; unfold roundR; rw [if_neg hbl]
    have hb2 : b < 9218868437227405312 := by omega
    clear hbL hbl
    go_wp2_with fail
    refine (hsc _ hu hv).mono ?_
    rintro e w3 ⟨nv, dv, rfl, nn, nd, b3⟩
    replace hk := hk.below b3
    replace hb1 := bstep hb1 b3
    obtain ⟨no, nl, nc, rfl⟩ : ∃ o l c, nv = .slice o l c := by obtain ⟨o, c, h, _⟩ := nn.ao; exact ⟨_, _, _, h⟩
    obtain ⟨do_, dl, dc, rfl⟩ : ∃ o l c, dv = .slice o l c := by obtain ⟨o, c, h, _⟩ := nd.ao; exact ⟨_, _, _, h⟩
    clear b3 hsc hu hv hr k0 k1 k2 c0 c1 c2
    obtain ⟨k0, k1, k2⟩ := hk.cells
    have hl1 := fval_len (p := 52) (b := b) (by decide) (by omega)
    have hl2 := fval_len (p := 52) (b := b + 1) (by decide) (by omega)
    have hw1 : ((b : Int) + 1) = ((b + 1 : Nat) : Int) := by omega
    have hw2 : IntKind.u64.wrap ((b + 1 : Nat) : Int) = ((b + 1 : Nat) : Int) := by rw [IntKind.wrap_u64]; omega
    have hv1 := fun w => valRD b w (by omega)
    have hv2 := fun w => valRD (b + 1) w (by omega)
    obtain ⟨B1, hB1⟩ : ∃ B1, B1 = b + 1 := ⟨_, rfl⟩
    obtain ⟨V1, hV1⟩ : ∃ v, v = fval 52 b := ⟨_, rfl⟩
    obtain ⟨V2, hV2⟩ : ∃ v, v = fval 52 (b + 1) := ⟨_, rfl⟩
    have HB1 : Hid (B1 = b + 1) := hB1
    rw [← hV1, ← hV2] at HR
    rw [← hV1] at hl1 hv1
    rw [← hV2] at hl2 hv2
    rw [← hB1] at hw1 hw2 hv2 HR
    clear hV1 hV2 hB1
    clear hk
    go_wp2_with fail
    go_region_held3 (fun w' => w'.cell? ⟨g, 0, none⟩ = some (.int .i64 52) ∧ w'.cell? ⟨g, 1, none⟩ = some (.int .u64 9218868437227405312) ∧ w'.cell? ⟨g, 2, none⟩ = some (.int .i64 (-1074))) (((try dsimp only); go_split_ands; refine ⟨?_, ?_, ?_⟩ <;> first | exact keepB1 (by with_reducible assumption) (by with_reducible assumption) | go_keep)) (first
      | (go_at_call_of 25 (Value.int .u64 (b : Int)); refine (hv1 _).mono ?_; rintro e w4 ⟨x1, rfl, o1, hb4⟩; obtain ⟨xo, xl, xc, rfl⟩ := o1.sl)
      | (go_at_call_of 25 (Value.int .u64 (B1 : Int)); refine (hv2 _).mono ?_; rintro e w5 ⟨x2, rfl, o2, hb5⟩; obtain ⟨yo, yl, yc, rfl⟩ := o2.sl)
      | (go_at_call 69; refine (add_ref _ _ _ _ _ (o1.below hb5).num o2.num (by omega) (by omega)).mono ?_; rintro e w6 ⟨x3, rfl, o3, hb6⟩; obtain ⟨so, sl, sc, rfl⟩ := o3.sl; rw [val_lim, val_lim] at o3)
      | (go_at_call 67; refine (mul_ref _ _ _ _ _ o3.num ((((nd.same (w' := w3.drew) rfl).below (Nat.le_refl _) hb4).below (Nat.le_refl _) hb5).below (Nat.le_refl _) hb6) (Nat.le_trans (lim_add_len (k := 200) hl1 hl2) (by decide)) (by omega)).mono ?_; rintro e w7 ⟨x4, rfl, o4, hb7⟩; obtain ⟨mo, ml, mc, rfl⟩ := o4.sl; rw [val_lim, val_lim] at o4))
    all_goals
      have b0 : Below w3.heap.size w3 w7 := bstep (bstep (bstep (bstep (Below.refl _ _).drew hb4) hb5) hb6) hb7
      replace nn := nn.below (Nat.le_refl _) b0
      replace hb1 := bstep hb1 b0
      have hm4 : (lim ((V1 + V2) * D)).length ≤ 1201 := lim_mul_len (k := 201) (l := 1000) (lim_add_len (k := 200) hl1 hl2) hld
      clear b0 hb4 hb5 hb6 hb7 o1 o2 o3 nd k0 k1 k2 hv1 hv2 hl1 hl2
      go_wp2_with fail
      refine (add_ref _ _ _ _ _ nn nn (by omega) (by omega)).mono ?_
      rw [val_lim]
      rintro e w8 ⟨x5, rfl, o5, b8⟩
      obtain ⟨to_, tl, tc, rfl⟩ := o5.sl
      replace o4 := o4.below b8
      replace hb1 := bstep hb1 b8
      have hl5 : (lim (n + n)).length ≤ 1101 := lim_add_len hln hln
      clear b8 nn
      go_wp2_with fail
      refine (cmp_ref _ _ _ _ _ o5.num o4.num (by omega) (by omega)).mono ?_
      rw [val_lim, val_lim]
      rintro e w9 ⟨rfl, rfl⟩
      clear o4 o5 hl5 hm4
      have hcr : cmpN (n + n) ((V1 + V2) * D) = -1 ∨ cmpN (n + n) ((V1 + V2) * D) = 0 ∨ cmpN (n + n) ((V1 + V2) * D) = 1 := by
        rcases cmpN_cases (n + n) ((V1 + V2) * D) with ⟨_, e⟩ | ⟨_, e⟩ | ⟨_, e⟩ <;> rw [e] <;> omega
      generalize cmpN (n + n) ((V1 + V2) * D) = cm at *
      have HB : Hid (Below w.heap.size w w9) := hb1
      clear hb1
      rcases hcr with rfl | rfl | rfl
      · have HF : Hid (roundR 52 9218868437227405312 n D b = b) := by show _ = _; rw [HR.out, if_neg (by omega)]
        clear HR
        go_wp2
        go_ret
        exact ⟨b, HFO.out, by rw [HF.out]; rfl, HB.out⟩
      · by_cases hod : b % 2 = 1
        · have HF : Hid (roundR 52 9218868437227405312 n D b = B1) := by show _ = _; rw [HR.out, if_pos (Or.inr ⟨rfl, hod⟩)]
          have e1 : (b : Int) % 2 = 1 := by omega
          have e2 : (b : Int).tmod 2 = 1 := by rw [Int.tmod_eq_emod_of_nonneg (by omega)]; exact e1
          clear HR hod
          go_wp2
          go_ret
          exact ⟨b, HFO.out, by rw [HF.out]; rfl, HB.out⟩
        · have HF : Hid (roundR 52 9218868437227405312 n D b = b) := by show _ = _; rw [HR.out, if_neg (by omega)]
          have e1 : (b : Int) % 2 = 0 := by omega
          have e2 : (b : Int).tmod 2 = 0 := by rw [Int.tmod_eq_emod_of_nonneg (by omega)]; exact e1
          clear HR hod
          go_wp2
          go_ret
          exact ⟨b, HFO.out, by rw [HF.out]; rfl, HB.out⟩
      · have HF : Hid (roundR 52 9218868437227405312 n D b = B1) := by show _ = _; rw [HR.out, if_pos (Or.inl rfl)]
        clear HR
        go_wp2
        go_ret
        exact ⟨b, HFO.out, by rw [HF.out]; rfl, HB.out⟩
end Go.Proofs.Ytjfihcnjhjgdpaa

namespace Go.Proofs.Ytjfihcnjhjgdpaa
open Go.RowKit

set_option maxRecDepth 100000 in
set_option maxHeartbeats 6400000 in
theorem roundRS (z : Int) (hz : z = (-149)) (na : Bool) (po qo : Option Addr) (pl pc ql qc : Nat) (xs ys : List Nat) (w : World) (hu : Num w (.slice po pl pc) xs) (hv : Num w (.slice qo ql qc) ys) (lx : xs.length ≤ 1000) (ly : ys.length ≤ 1000) :
    Calls Try.prog 50 #[.agg #[.int .i64 23, .int .u64 2139095040, .int .i64 (-149)], .agg #[.bool na, .slice po pl pc, .slice qo ql qc]] w fun e w' => ∃ b : Nat, FloorOk 23 2139095040 (val xs * 2 ^ (-z).toNat) (undN (val ys)) b ∧ e = .returned (.int .u64 ((roundR 23 2139095040 (val xs * 2 ^ (-z).toNat) (undN (val ys)) b : Nat) : Int)) ∧ Below w.heap.size w w' := by
  have hln := scaled_len (k := (-z).toNat) hu.1 lx (by omega)
  have hld := undN_len hv.1 ly
  have hsc := fun w h1 h2 => scaledRS z hz na po qo pl pc ql qc xs ys w h1 h2 lx ly
  have hfl := fun w h1 h2 => floorRS z hz na po qo pl pc ql qc xs ys w h1 h2 lx ly
  obtain ⟨n, hn⟩ : ∃ n, n = val xs * 2 ^ (-z).toNat := ⟨_, rfl⟩
  obtain ⟨D, hD⟩ : ∃ D, D = undN (val ys) := ⟨_, rfl⟩
  rw [← hn] at hsc hfl hln ⊢
  rw [← hD] at hsc hfl hld ⊢
  obtain ⟨W1, hW1⟩ : ∃ W1, W1 = (w.alloc (.cells #[.int .i64 23, .int .u64 2139095040, .int .i64 (-149)] 53)).alloc (.cells #[.bool na, .slice po pl pc, .slice qo ql qc] 29) := ⟨_, rfl⟩
  have hk : LCell W1 w.heap.size (.int .i64 23) (.int .u64 2139095040) (.int .i64 (-149)) := by rw [hW1]; exact (lcell_new _ rfl).below (belowA _ _)
  have hr : TCell W1 (w.heap.size + 1) (.bool na) (.slice po pl pc) (.slice qo ql qc) := by rw [hW1]; exact tcell_new _ (by simp)
  have hb1 : Below w.heap.size w W1 := by rw [hW1]; exact bstep (belowA w _) (belowA _ _)
  have HW1 : Hid (W1 = (w.alloc (.cells #[.int .i64 23, .int .u64 2139095040, .int .i64 (-149)] 53)).alloc (.cells #[.bool na, .slice po pl pc, .slice qo ql qc] 29)) := hW1
  replace hu := hu.below (Nat.le_refl _) hb1
  replace hv := hv.below (Nat.le_refl _) hb1
  clear hW1 hn hD hz
  go_enter Try.func50, Try.ntmps50
  go_wp2_with fail
  rw [← HW1.out]
  obtain ⟨g, hg⟩ : ∃ g, g = w.heap.size := ⟨_, rfl⟩
  rw [← hg] at hk hr ⊢
  refine (hfl _ hu hv).mono ?_
  rintro e w2 ⟨b, rfl, hfo, b2⟩
  replace hu := hu.below (Nat.le_refl _) b2
  replace hv := hv.below (Nat.le_refl _) b2
  replace hk := hk.below b2
  replace hr := hr.below b2
  replace hb1 := bstep hb1 b2
  clear b2 HW1 hg hfl
  have hbL := hfo.lt
  have HFO : Hid (FloorOk 23 2139095040 n D b) := hfo
  clear hfo
  obtain ⟨k0, k1, k2⟩ := hk.cells
  obtain ⟨c0, c1, c2⟩ := hr.cells
  by_cases hbl : b = 2139095040
  · have HE : Hid (roundR 23 2139095040 n D b = 2139095040 ∧ Below w.heap.size w w2) := ⟨by unfold roundR; rw [if_pos hbl]; exact hbl, hb1⟩
    have hbl' : ((b : Int) == 2139095040) = true := by simp; omega
    have hbl2 : (b : Int) = 2139095040 := by omega
    clear hbL hu hv hsc hb1 hk hr
    go_wp2
    go_ret
    exact ⟨b, HFO.out, by rw [HE.out.1]; rfl, HE.out.2⟩
  · have hbl' : ((b : Int) == 2139095040) = false := by simp; omega
    have HR : Hid (roundR 23 2139095040 n D b = if cmpN (n + n) ((fval 23 b + fval 23 (b + 1)) * D) = 1 ∨ (cmpN (n + n) ((fval 23 b + fval 23 (b + 1)) * D) = 0 ∧ b % 2 = 1) then b + 1 else b) := by show _ = _; unfold roundR; rw [if_neg hbl]
    have hb2 : b < 2139095040 := by omega
    clear hbL hbl
    go_wp2_with fail
    refine (hsc _ hu hv).mono ?_
    rintro e w3 ⟨nv, dv, rfl, nn, nd, b3⟩
    replace hk := hk.below b3
    replace hb1 := bstep hb1 b3
    obtain ⟨no, nl, nc, rfl⟩ : ∃ o l c, nv = .slice o l c := by obtain ⟨o, c, h, _⟩ := nn.ao; exact ⟨_, _, _, h⟩
    obtain ⟨do_, dl, dc, rfl⟩ : ∃ o l c, dv = .slice o l c := by obtain ⟨o, c, h, _⟩ := nd.ao; exact ⟨_, _, _, h⟩
    clear b3 hsc hu hv hr k0 k1 k2 c0 c1 c2
    obtain ⟨k0, k1, k2⟩ := hk.cells
    have hl1 := fval_len (p := 23) (b := b) (by decide) (by omega)
    have hl2 := fval_len (p := 23) (b := b + 1) (by decide) (by omega)
    have hw1 : ((b : Int) + 1) = ((b + 1 : Nat) : Int) := by omega
    have hw2 : IntKind.u64.wrap ((b + 1 : Nat) : Int) = ((b + 1 : Nat) : Int) := by rw [IntKind.wrap_u64]; omega
    have hv1 := fun w => valRS b w (by omega)
    have hv2 := fun w => valRS (b + 1) w (by omega)
    obtain ⟨B1, hB1⟩ : ∃ B1, B1 = b + 1 := ⟨_, rfl⟩
    obtain ⟨V1, hV1⟩ : ∃ v, v = fval 23 b := ⟨_, rfl⟩
    obtain ⟨V2, hV2⟩ : ∃ v, v = fval 23 (b + 1) := ⟨_, rfl⟩
    have HB1 : Hid (B1 = b + 1) := hB1
    rw [← hV1, ← hV2] at HR
    rw [← hV1] at hl1 hv1
    rw [← hV2] at hl2 hv2
    rw [← hB1] at hw1 hw2 hv2 HR
    clear hV1 hV2 hB1
    clear hk
    go_wp2_with fail
    go_region_held3 (fun w' => w'.cell? ⟨g, 0, none⟩ = some (.int .i64 23) ∧ w'.cell? ⟨g, 1, none⟩ = some (.int .u64 2139095040) ∧ w'.cell? ⟨g, 2, none⟩ = some (.int .i64 (-149))) (((try dsimp only); go_split_ands; refine ⟨?_, ?_, ?_⟩ <;> first | exact keepB1 (by with_reducible assumption) (by with_reducible assumption) | go_keep)) (first
      | (go_at_call_of 25 (Value.int .u64 (b : Int)); refine (hv1 _).mono ?_; rintro e w4 ⟨x1, rfl, o1, hb4⟩; obtain ⟨xo, xl, xc, rfl⟩ := o1.sl)
      | (go_at_call_of 25 (Value.int .u64 (B1 : Int)); refine (hv2 _).mono ?_; rintro e w5 ⟨x2, rfl, o2, hb5⟩; obtain ⟨yo, yl, yc, rfl⟩ := o2.sl)
      | (go_at_call 69; refine (add_ref _ _ _ _ _ (o1.below hb5).num o2.num (by omega) (by omega)).mono ?_; rintro e w6 ⟨x3, rfl, o3, hb6⟩; obtain ⟨so, sl, sc, rfl⟩ := o3.sl; rw [val_lim, val_lim] at o3)
      | (go_at_call 67; refine (mul_ref _ _ _ _ _ o3.num ((((nd.same (w' := w3.drew) rfl).below (Nat.le_refl _) hb4).below (Nat.le_refl _) hb5).below (Nat.le_refl _) hb6) (Nat.le_trans (lim_add_len (k := 200) hl1 hl2) (by decide)) (by omega)).mono ?_; rintro e w7 ⟨x4, rfl, o4, hb7⟩; obtain ⟨mo, ml, mc, rfl⟩ := o4.sl; rw [val_lim, val_lim] at o4))
    all_goals
      have b0 : Below w3.heap.size w3 w7 := bstep (bstep (bstep (bstep (Below.refl _ _).drew hb4) hb5) hb6) hb7
      replace nn := nn.below (Nat.le_refl _) b0
      replace hb1 := bstep hb1 b0
      have hm4 : (lim ((V1 + V2) * D)).length ≤ 1201 := lim_mul_len (k := 201) (l := 1000) (lim_add_len (k := 200) hl1 hl2) hld
      clear b0 hb4 hb5 hb6 hb7 o1 o2 o3 nd k0 k1 k2 hv1 hv2 hl1 hl2
      go_wp2_with fail
      refine (add_ref _ _ _ _ _ nn nn (by omega) (by omega)).mono ?_
      rw [val_lim]
      rintro e w8 ⟨x5, rfl, o5, b8⟩
      obtain ⟨to_, tl, tc, rfl⟩ := o5.sl
      replace o4 := o4.below b8
      replace hb1 := bstep hb1 b8
      have hl5 : (lim (n + n)).length ≤ 1101 := lim_add_len hln hln
      clear b8 nn
      go_wp2_with fail
      refine (cmp_ref _ _ _ _ _ o5.num o4.num (by omega) (by omega)).mono ?_
      rw [val_lim, val_lim]
      rintro e w9 ⟨rfl, rfl⟩
      clear o4 o5 hl5 hm4
      have hcr : cmpN (n + n) ((V1 + V2) * D) = -1 ∨ cmpN (n + n) ((V1 + V2) * D) = 0 ∨ cmpN (n + n) ((V1 + V2) * D) = 1 := by
        rcases cmpN_cases (n + n) ((V1 + V2) * D) with ⟨_, e⟩ | ⟨_, e⟩ | ⟨_, e⟩ <;> rw [e] <;> omega
      generalize cmpN (n + n) ((V1 + V2) * D) = cm at *
      have HB : Hid (Below w.heap.size w w9) := hb1
      clear hb1
      rcases hcr with rfl | rfl | rfl
      · have HF : Hid (roundR 23 2139095040 n D b = b) := by show _ = _; rw [HR.out, if_neg (by omega)]
        clear HR
        go_wp2
        go_ret
        exact ⟨b, HFO.out, by rw [HF.out]; rfl, HB.out⟩
      · by_cases hod : b % 2 = 1
        · have HF : Hid (roundR 23 2139095040 n D b = B1) := by show _ = _; rw [HR.out, if_pos (Or.inr ⟨rfl, hod⟩)]
          have e1 : (b : Int) % 2 = 1 := by omega
          have e2 : (b : Int).tmod 2 = 1 := by rw [Int.tmod_eq_emod_of_nonneg (by omega)]; exact e1
          clear HR hod
          go_wp2
          go_ret
          exact ⟨b, HFO.out, by rw [HF.out]; rfl, HB.out⟩
        · have HF : Hid (roundR 23 2139095040 n D b = b) := by show _ = _; rw [HR.out, if_neg (by omega)]
          have e1 : (b : Int) % 2 = 0 := by omega
          have e2 : (b : Int).tmod 2 = 0 := by rw [Int.tmod_eq_emod_of_nonneg (by omega)]; exact e1
          clear HR hod
          go_wp2
          go_ret
          exact ⟨b, HFO.out, by rw [HF.out]; rfl, HB.out⟩
      · have HF : Hid (roundR 23 2139095040 n D b = B1) := by show _ = _; rw [HR.out, if_pos (Or.inl rfl)]
        clear HR
        go_wp2
        go_ret
        exact ⟨b, HFO.out, by rw [HF.out]; rfl, HB.out⟩
end Go.Proofs.Ytjfihcnjhjgdpaa

namespace Go.Proofs.Ytjfihcnjhjgdpaa

/-- Limbs whose highest one is none of 0. -/
theorem lim_of_ge {zs : List Nat} (h : limbs zs) {n : Nat} (hn : zs.length = n + 1) (hv : 4294967296 ^ n ≤ val zs) : lim (val zs) = zs := by
  apply lim_of_last h
  intro hne
  have e := low_succ zs n
  rw [low_all (by omega)] at e
  have hl := low_lt h n
  have : zs.getD n 0 ≠ 0 := by intro h0; rw [h0, Nat.mul_zero] at e; omega
  rw [List.getLast_eq_getElem]
  rw [List.getD_eq_getElem?_getD, List.getElem?_eq_getElem (by omega)] at this
  simpa [hn] using this
theorem lim_snoc {zs : List Nat} (h : limbs zs) {d : Nat} (hd : d < 4294967296) (h0 : d ≠ 0) : lim (val zs + 4294967296 ^ zs.length * d) = zs ++ [d] := by
  rw [← val_snoc]
  exact lim_of_last (limbs_snoc h hd) fun _ => by simpa using h0
theorem lim_ge {v n : Nat} (h : (lim v).length = n + 1) : 4294967296 ^ n ≤ v := by
  rcases Nat.lt_or_ge v (4294967296 ^ n) with h1 | h1
  · have := lim_len_le h1; omega
  · exact h1
end Go.Proofs.Ytjfihcnjhjgdpaa

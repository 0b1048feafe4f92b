/-
  Proved here: what the small functions of credencelaw03 answer.
-/
import Derived.Test.YtdfmmaehmngkhaaDoorFracF
namespace Go.Proofs.YtdfmmaehmngkhaaDoor
open Go.RowKit

theorem num_len {w : World} {o : Option Addr} {l c : Nat} {xs : List Nat} (h : Num w (.slice o l c) xs) : xs.length = l ∧ l ≤ c ∧ c ≤ 9223372036854775807 := by
  obtain ⟨ao, cap, e, h1, h2⟩ := h.ao
  simp only [Value.slice.injEq] at e
  obtain ⟨_, rfl, rfl⟩ := e
  exact ⟨rfl, h1, h2⟩
/-- A number cut to so many limbs. -/
theorem num_cut {w : World} {o : Option Addr} {l c : Nat} {xs : List Nat} (h : Num w (.slice o l c) xs) {k : Nat} (hk : k ≤ l) : Num w (.slice o k c) (xs.take k) := by
  have h1 := h.cut (k := k) (by rw [(num_len h).1]; exact hk)
  exact h1
theorem lim_top {n k : Nat} (hk : (lim n).length = k + 1) : (lim n).getD k 0 ≠ 0 := by
  have hn : n ≠ 0 := by intro h; rw [h, show (lim 0).length = 0 from rfl] at hk; omega
  obtain ⟨k', t, h1, h2, h3, _⟩ := lim_last hn
  have e : k' = k := by omega
  rw [e] at h2
  rw [h2]
  exact h3
set_option maxRecDepth 100000 in
set_option maxHeartbeats 6400000 in
theorem c_cut (na : Bool) (ao aO : Option Addr) (al ac aL aC k : Nat) (xa ya : List Nat) (w : World) (ha : Num w (.slice ao al ac) xa) (hd : Num w (.slice aO aL aC) ya) (hk : k ≤ 1000) :
    Calls Tryd.prog 6 #[.agg #[.bool na, .slice ao al ac, .slice aO aL aC], .int .i64 k] w fun e w' => e = .returned (.agg #[.bool na, .slice ao (min al k) ac, .slice aO (min aL k) aC]) ∧ Below w.heap.size w w' := by
  obtain ⟨_, h1, h2⟩ := num_len ha
  obtain ⟨_, h3, h4⟩ := num_len hd
  clear ha hd
  by_cases hla : k < al
  · by_cases hlb : k < aL
    · have e1 : min al k = k := by omega
      have e2 : min aL k = k := by omega
      have hla2 : (k : Int) < (al : Int) := by omega
      have hlb2 : (k : Int) < (aL : Int) := by omega
      have hla3 : (k : Int) ≤ (ac : Int) := by omega
      have hlb3 : (k : Int) ≤ (aC : Int) := by omega
      rw [e1, e2]
      clear e1 e2
      go_enter Tryd.func6, Tryd.ntmps6
      go_wp2
      (try simp only [Exit.inBlock, Exit.then])
      exact bodyPost_ret (results_cell_row rfl _ _ (w.heap.size + 1) 27 _ (0, 0) _ rfl (heap_alloc2_new w _ _) Tryd.underlying27 rfl (by kernel_rfl)) rfl ⟨rfl, bstep (belowA _ _) (belowA _ _)⟩
    · have e1 : min al k = k := by omega
      have e2 : min aL k = aL := by omega
      have hla2 : (k : Int) < (al : Int) := by omega
      have hlb2 : ¬ (k : Int) < (aL : Int) := by omega
      have hla3 : (k : Int) ≤ (ac : Int) := by omega
      clear h3
      rw [e1, e2]
      clear e1 e2
      go_enter Tryd.func6, Tryd.ntmps6
      go_wp2
      (try simp only [Exit.inBlock, Exit.then])
      exact bodyPost_ret (results_cell_row rfl _ _ (w.heap.size + 1) 27 _ (0, 0) _ rfl (heap_alloc2_new w _ _) Tryd.underlying27 rfl (by kernel_rfl)) rfl ⟨rfl, bstep (belowA _ _) (belowA _ _)⟩
  · by_cases hlb : k < aL
    · have e1 : min al k = al := by omega
      have e2 : min aL k = k := by omega
      have hla2 : ¬ (k : Int) < (al : Int) := by omega
      have hlb2 : (k : Int) < (aL : Int) := by omega
      clear h1
      have hlb3 : (k : Int) ≤ (aC : Int) := by omega
      rw [e1, e2]
      clear e1 e2
      go_enter Tryd.func6, Tryd.ntmps6
      go_wp2
      (try simp only [Exit.inBlock, Exit.then])
      exact bodyPost_ret (results_cell_row rfl _ _ (w.heap.size + 1) 27 _ (0, 0) _ rfl (heap_alloc2_new w _ _) Tryd.underlying27 rfl (by kernel_rfl)) rfl ⟨rfl, bstep (belowA _ _) (belowA _ _)⟩
    · have e1 : min al k = al := by omega
      have e2 : min aL k = aL := by omega
      have hla2 : ¬ (k : Int) < (al : Int) := by omega
      have hlb2 : ¬ (k : Int) < (aL : Int) := by omega
      clear h1
      clear h3
      rw [e1, e2]
      clear e1 e2
      go_enter Tryd.func6, Tryd.ntmps6
      go_wp2
      (try simp only [Exit.inBlock, Exit.then])
      exact bodyPost_ret (results_cell_row rfl _ _ (w.heap.size + 1) 27 _ (0, 0) _ rfl (heap_alloc2_new w _ _) Tryd.underlying27 rfl (by kernel_rfl)) rfl ⟨rfl, bstep (belowA _ _) (belowA _ _)⟩
set_option maxRecDepth 100000 in
set_option maxHeartbeats 6400000 in
theorem l_lowest {a : Value} {r : Rat} {L : Nat} {w : World} (ha : RStd w a r) (hs : RSz r L) (hL : L ≤ 1000000) : Calls Tryd.prog 18 #[a] w fun e w' => e = .returned (.bool true) ∧ Below w.heap.size w w' := by
  by_cases hr : r.num = 0
  · obtain ⟨na, ao, al, ac, aO, aL, aC, rfl, ea, ua, da⟩ := ha
    have hln := hs.num.len
    have hld := hs.den.len
    rw [Int.natAbs_natCast] at hld
    obtain ⟨la1, hy1, hy2⟩ := num_len ua
    obtain ⟨lb1, hy3, hy4⟩ := num_len da
    have hD0 : r.den ≠ 0 := r.den_nz
    have haL : 0 < aL := by rw [← lb1]; exact lim_pos_len.2 hD0
    obtain ⟨kd, hkd⟩ : ∃ k, aL = k + 1 := ⟨aL - 1, by omega⟩
    have htop : (lim r.den).getD kd 0 ≠ 0 := lim_top (by rw [lb1, hkd])
    subst hkd
    have hn0 : al = 0 := by rw [← la1, hr]; rfl
    have hneg : na = false := by rw [ea, hr]; rfl
    subst hneg
    subst hn0
    have HGC : Hid (lim (Nat.gcd r.num.natAbs r.den) = [1]) := by show _ = _; rw [show Nat.gcd r.num.natAbs r.den = 1 from r.reduced]; rfl
    clear ea
    obtain ⟨W1, hW1⟩ : ∃ W1, W1 = w.alloc (.cells #[.bool false, .slice ao 0 ac, .slice aO (kd + 1) aC] 27) := ⟨_, rfl⟩
    have qa : QCell W1 (w.heap.size) false (.slice ao 0 ac) (.slice aO (kd + 1) aC) := by rw [hW1]; exact (qcell_new _ (by simp))
    have hb : Below w.heap.size w W1 := by rw [hW1]; exact belowA w _
    have hsz : w.heap.size < W1.heap.size := by rw [hW1]; simp
    replace da := da.below (Nat.le_refl _) hb
    replace ua := ua.below (Nat.le_refl _) hb
    have HW1 : Hid (W1 = w.alloc (.cells #[.bool false, .slice ao 0 ac, .slice aO (kd + 1) aC] 27)) := hW1
    clear hW1
    go_enter Tryd.func18, Tryd.ntmps18
    go_wp2_with fail
    rw [← HW1.out]
    clear HW1
    obtain ⟨g, hg⟩ : ∃ g, g = w.heap.size := ⟨_, rfl⟩
    rw [← hg] at qa hsz ⊢
    have HG : Hid (g = w.heap.size) := hg
    clear hg
    have hq := gcd_any _ _ _ _ _ ua da (by omega) (by omega)
    rw [val_lim, val_lim, HGC.out] at hq
    refine (hq).mono ?_
    rintro e w2 ⟨v, rfl, ho, b⟩
    clear hq
    have ug := ho.num
    clear ho
    replace ua := ua.below (Nat.le_refl _) b
    replace da := da.below (Nat.le_refl _) b
    replace qa := qa.below b
    replace hb := bstep hb b
    replace hsz := Nat.lt_of_lt_of_le hsz b.size
    clear b
    obtain ⟨hx1, go, gc, rfl, hx2, hx3, hx4, hgc⟩ := ug.open_
    obtain ⟨gb, goff, hge, hg0⟩ := hgc 0 (by decide)
    subst hge
    clear hgc ug hx1 hx2 hx3 hx4
    rw [Nat.add_zero] at hg0
    replace hg0 : w2.cell? ⟨gb, goff, none⟩ = some (.int .u32 1) := hg0
    have hdc := (da.open_).2
    obtain ⟨do_, dc, hde, hx3, hx4, hx5, hdc⟩ := hdc
    obtain ⟨db, doff, hdo, hd0⟩ := hdc kd (by omega)
    simp only [Value.slice.injEq] at hde
    obtain ⟨hde1, hx1, hx2⟩ := hde
    rw [hdo] at hde1
    clear hdc hdo hx1 hx2 hx3 hx4 hx5
    obtain ⟨td, htd⟩ : ∃ t, t = (lim r.den).getD kd 0 := ⟨_, rfl⟩
    rw [← htd] at hd0 htop
    have htd0 : ((td : Int) == 0) = false := nz_int2' (by omega)
    clear htd htop
    have HE : Hid (Below w.heap.size w w2) := hb
    obtain ⟨cqa0, cqa1, cqa2⟩ := qa.cells
    clear hb hsz la1 lb1 hln hld hr hD0 haL  qa ua da
    subst hde1
    go_wp2_with fail
    go_ret
    exact ⟨rfl, HE.out⟩
  · obtain ⟨na, ao, al, ac, aO, aL, aC, rfl, ea, ua, da⟩ := ha
    have hln := hs.num.len
    have hld := hs.den.len
    rw [Int.natAbs_natCast] at hld
    obtain ⟨la1, hy1, hy2⟩ := num_len ua
    obtain ⟨lb1, hy3, hy4⟩ := num_len da
    have hD0 : r.den ≠ 0 := r.den_nz
    have haL : 0 < aL := by rw [← lb1]; exact lim_pos_len.2 hD0
    obtain ⟨kd, hkd⟩ : ∃ k, aL = k + 1 := ⟨aL - 1, by omega⟩
    have htop : (lim r.den).getD kd 0 ≠ 0 := lim_top (by rw [lb1, hkd])
    subst hkd
    have hal : 0 < al := by rw [← la1]; exact lim_pos_len.2 (by omega)
    obtain ⟨ka, hka⟩ : ∃ k, al = k + 1 := ⟨al - 1, by omega⟩
    have htopa : (lim r.num.natAbs).getD ka 0 ≠ 0 := lim_top (by rw [la1, hka])
    subst hka
    have HGC : Hid (lim (Nat.gcd r.num.natAbs r.den) = [1]) := by show _ = _; rw [show Nat.gcd r.num.natAbs r.den = 1 from r.reduced]; rfl
    clear ea
    obtain ⟨W1, hW1⟩ : ∃ W1, W1 = w.alloc (.cells #[.bool na, .slice ao (ka + 1) ac, .slice aO (kd + 1) aC] 27) := ⟨_, rfl⟩
    have qa : QCell W1 (w.heap.size) na (.slice ao (ka + 1) ac) (.slice aO (kd + 1) aC) := by rw [hW1]; exact (qcell_new _ (by simp))
    have hb : Below w.heap.size w W1 := by rw [hW1]; exact belowA w _
    have hsz : w.heap.size < W1.heap.size := by rw [hW1]; simp
    replace da := da.below (Nat.le_refl _) hb
    replace ua := ua.below (Nat.le_refl _) hb
    have HW1 : Hid (W1 = w.alloc (.cells #[.bool na, .slice ao (ka + 1) ac, .slice aO (kd + 1) aC] 27)) := hW1
    clear hW1
    go_enter Tryd.func18, Tryd.ntmps18
    go_wp2_with fail
    rw [← HW1.out]
    clear HW1
    obtain ⟨g, hg⟩ : ∃ g, g = w.heap.size := ⟨_, rfl⟩
    rw [← hg] at qa hsz ⊢
    have HG : Hid (g = w.heap.size) := hg
    clear hg
    have hq := gcd_any _ _ _ _ _ ua da (by omega) (by omega)
    rw [val_lim, val_lim, HGC.out] at hq
    refine (hq).mono ?_
    rintro e w2 ⟨v, rfl, ho, b⟩
    clear hq
    have ug := ho.num
    clear ho
    replace ua := ua.below (Nat.le_refl _) b
    replace da := da.below (Nat.le_refl _) b
    replace qa := qa.below b
    replace hb := bstep hb b
    replace hsz := Nat.lt_of_lt_of_le hsz b.size
    clear b
    obtain ⟨hx1, go, gc, rfl, hx2, hx3, hx4, hgc⟩ := ug.open_
    obtain ⟨gb, goff, hge, hg0⟩ := hgc 0 (by decide)
    subst hge
    clear hgc ug hx1 hx2 hx3 hx4
    rw [Nat.add_zero] at hg0
    replace hg0 : w2.cell? ⟨gb, goff, none⟩ = some (.int .u32 1) := hg0
    have hdc := (da.open_).2
    obtain ⟨do_, dc, hde, hx3, hx4, hx5, hdc⟩ := hdc
    obtain ⟨db, doff, hdo, hd0⟩ := hdc kd (by omega)
    simp only [Value.slice.injEq] at hde
    obtain ⟨hde1, hx1, hx2⟩ := hde
    rw [hdo] at hde1
    clear hdc hdo hx1 hx2 hx3 hx4 hx5
    obtain ⟨td, htd⟩ : ∃ t, t = (lim r.den).getD kd 0 := ⟨_, rfl⟩
    rw [← htd] at hd0 htop
    have htd0 : ((td : Int) == 0) = false := nz_int2' (by omega)
    clear htd htop
    have hac := (ua.open_).2
    obtain ⟨po, pc, hpe, hx3, hx4, hx5, hac⟩ := hac
    obtain ⟨pb, poff, hpo, hp0⟩ := hac ka (by omega)
    simp only [Value.slice.injEq] at hpe
    obtain ⟨hpe1, hx1, hx2⟩ := hpe
    rw [hpo] at hpe1
    clear hac hpo hx1 hx2 hx3 hx4 hx5
    obtain ⟨ta, hta⟩ : ∃ t, t = (lim r.num.natAbs).getD ka 0 := ⟨_, rfl⟩
    rw [← hta] at hp0 htopa
    have hta0 : ((ta : Int) == 0) = false := nz_int2' (by omega)
    clear hta htopa
    have HE : Hid (Below w.heap.size w w2) := hb
    obtain ⟨cqa0, cqa1, cqa2⟩ := qa.cells
    clear hb hsz la1 lb1 hln hld hr hD0 haL hal qa ua da
    subst hde1
    subst hpe1
    go_wp2_with fail
    go_ret
    exact ⟨rfl, HE.out⟩
end Go.Proofs.YtdfmmaehmngkhaaDoor

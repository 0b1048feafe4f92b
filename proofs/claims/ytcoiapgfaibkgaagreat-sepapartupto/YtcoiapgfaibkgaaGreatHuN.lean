/-
  Proved here: the law's turned.
-/
import Derived.Test.YtcoiapgfaibkgaaGreatDagOpen2All
namespace Go.Proofs.YtcoiapgfaibkgaaGreat
set_option linter.unusedVariables false
open Go.RowKit Go.Shelf Go.Sort Go.Lib
/-- Each last bit turned. -/
def tuL (L : List Int) : List Int := L.map fun x => bits .xor .i64 x 1
def tuR (L : List Int) (i : Nat) : List Int := tuL (L.take i) ++ L.drop i
theorem tuL_len (L : List Int) : (tuL L).length = L.length := List.length_map ..
theorem tuR_len (L : List Int) (i : Nat) : (tuR L i).length = L.length := by
  unfold tuR
  rw [List.length_append, tuL_len, List.length_take, List.length_drop]; omega
theorem tuR_zero (L : List Int) : tuR L 0 = L := rfl
theorem tuR_all (L : List Int) : tuR L L.length = tuL L := by
  unfold tuR
  rw [List.take_of_length_le (Nat.le_refl _), List.drop_length, List.append_nil]
theorem tuL_step {L : List Int} {i : Nat} {x : Int} (h : L[i]? = some x) : tuL (L.take (i + 1)) = tuL (L.take i) ++ [bits .xor .i64 x 1] := by
  unfold tuL
  rw [List.take_add_one, h, List.map_append]; rfl
theorem tuR_get {L : List Int} {i : Nat} {x : Int} (h : L[i]? = some x) (M : List Int) : (tuR L i ++ M)[i]? = some x := by
  have hi := (List.getElem?_eq_some_iff.1 h).1
  have h1 : (tuL (L.take i)).length = i := by rw [tuL_len, List.length_take]; omega
  unfold tuR
  rw [List.append_assoc, List.getElem?_append_right (by omega), h1, Nat.sub_self, List.getElem?_append_left (by rw [List.length_drop]; omega), List.getElem?_drop, Nat.add_zero, h]
theorem tuR_got {L : List Int} {i : Nat} {x : Int} (h : L[i]? = some x) (M : List Int) : (tuR L (i + 1) ++ M)[i]? = some (bits .xor .i64 x 1) := by
  have hi := (List.getElem?_eq_some_iff.1 h).1
  have h1 : (tuL (L.take i)).length = i := by rw [tuL_len, List.length_take]; omega
  unfold tuR
  rw [tuL_step h, List.append_assoc, List.append_assoc, List.getElem?_append_right (by omega), h1, Nat.sub_self]; rfl
theorem tuR_set {L : List Int} {i : Nat} {x : Int} (h : L[i]? = some x) (M : List Int) : (tuR L i ++ M).set i (bits .xor .i64 x 1) = tuR L (i + 1) ++ M := by
  have hi := (List.getElem?_eq_some_iff.1 h).1
  have h1 : (tuL (L.take i)).length = i := by rw [tuL_len, List.length_take]; omega
  have h2 : L.drop i = x :: L.drop (i + 1) := by rw [List.drop_eq_getElem_cons hi, (List.getElem?_eq_some_iff.1 h).2]
  unfold tuR
  rw [h2, tuL_step h, List.append_assoc, List.set_append_right _ _ (by omega), h1, Nat.sub_self]
  simp
set_option maxRecDepth 1000000 in
set_option maxHeartbeats 12800000 in
theorem turned16 (B : Nat) (u : Value) (L : List Int) (w : World) (hu : RmB B w u L) (hz : L.length ≤ 1048576) :
    Calls Tryz.prog 41 #[u] w fun e w' => ∃ v, e = .returned v ∧ OG (Value.int .i64) w.heap.size 3 w' v (tuL L) ∧ RmB B w' u (tuL L) ∧ FrP (fun q => u.ownBlock = some q) w w' := by
  obtain ⟨i0, hi, hz0, hz1, hz2⟩ := info_parts Tryz.infoI
  obtain ⟨g, cap, rfl, hu2⟩ := hu
  obtain ⟨n, hn⟩ : ∃ n, L.length = n := ⟨_, rfl⟩
  rw [hn] at hu2 hz ⊢
  have hroom := hu2.rg.room
  have hcap : n + 4 ≤ cap := hroom.1
  have HG0 : Hid (g < w.heap.size) := (hu2.lt g rfl).2
  have HB0 : Hid (B ≤ g) := (hu2.lt g rfl).1
  have HO0 : Hid (OG (Value.int .i64) B 3 w (.slice (some ⟨g, 0, none⟩) (n + 4) cap) (tuR L 0 ++ mk16)) := by show OG _ _ _ _ _ _; rw [tuR_zero]; exact hu2
  have HL0 : Hid (OG (Value.int .i64) w.heap.size 3 w (.slice none 0 0) (tuL (L.take 0))) := OG.nil _ _ _
  have HF0 : Hid (FrP (fun q => q = g) w w) := FrP.refl _ _
  have HN : Hid (L.length = n) := hn
  clear hu2 hn hroom
  go_enter Tryz.func41, Tryz.ntmps41
  go_wp2
  go_loopg [3, 4] n (fun g1 v3 v4 wr => ∃ (i : Nat) (lo : Option Addr) (ln lc : Nat), v4 = .int .i64 i ∧ v3 = .slice lo ln lc ∧ i ≤ n ∧ n - i ≤ g1 ∧ Hid (OG (Value.int .i64) w.heap.size 3 wr (.slice lo ln lc) (tuL (L.take i))) ∧ Hid (OG (Value.int .i64) B 3 wr (.slice (some ⟨g, 0, none⟩) (n + 4) cap) (tuR L i ++ mk16)) ∧ Hid (FrP (fun q => q = g) w wr))
  case atStart => exact ⟨0, none, 0, 0, rfl, rfl, by omega, by omega, HL0, HO0, HF0⟩
  case round =>
    clear HL0 HO0 HF0
    obtain ⟨i, lo, ln, lc, rfl, rfl, hin, hg1, HL, HO, HF⟩ := hrel
    by_cases hlt : i < n
    · have hltz : (i : Int) < (n : Int) := by omega
      obtain ⟨x, hx⟩ : ∃ x, L[i]? = some x := ⟨_, List.getElem?_eq_getElem (by rw [HN.out]; exact hlt)⟩
      obtain ⟨hc1, hc2⟩ := HO.out.cell (tuR_get hx mk16)
      have hset := (HO.out.set (by rw [List.length_append, tuR_len, HN.out]; rfl) i (bits .xor .i64 x 1)).1
      rw [tuR_set hx mk16] at hset
      obtain ⟨xx, hxx⟩ : ∃ y, y = bits .xor .i64 x 1 := ⟨_, rfl⟩
      have hst := tuL_step hx
      have hgot := tuR_got hx mk16
      rw [← hxx] at hset hst hgot
      have hlx : (tuL (L.take i)).length ≤ 1048576 := by rw [tuL_len, List.length_take]; omega
      obtain ⟨W1, hW1⟩ : ∃ W, W = wr.setCell ⟨g, i, none⟩ (.int .i64 xx) := ⟨_, rfl⟩
      change OG (Value.int .i64) B 3 (wr.setCell ⟨g, i, none⟩ (.int .i64 xx)) _ _ at hset
      rw [← hW1] at hset
      have hc3 := (hset.cell hgot).1
      have HO1 : Hid (OG (Value.int .i64) B 3 W1 (.slice (some ⟨g, 0, none⟩) (n + 4) cap) (tuR L (i + 1) ++ mk16)) := hset
      have HF1 : Hid (FrP (fun q => q = g) w W1) := by show FrP _ _ _; rw [hW1]; exact HF.out.put _ _ (fun _ => rfl)
      have HL1 : Hid (OG (Value.int .i64) w.heap.size 3 W1 (.slice lo ln lc) (tuL (L.take i))) := by
        show OG _ _ _ _ _ _
        rw [hW1]
        exact HL.out.of_blocks fun q hq => Below.heap_setCell _ _ _ _ (fun e => by
          have h1 := (HL.out.lt q hq).1
          have h2 := HG0.out
          have e1 : q = g := e
          omega)
      have HXX : Hid (xx = bits .xor .i64 x 1) := hxx
      rw [hxx] at hW1
      have HW1 : Hid (W1 = wr.setCell ⟨g, i, none⟩ (.int .i64 (bits .xor .i64 x 1))) := hW1
      have HST : Hid (tuL (L.take (i + 1)) = tuL (L.take i) ++ [xx]) := hst
      have HLX : Hid ((tuL (L.take i)).length ≤ 1048576) := hlx
      have HSZ1 : Hid (w.heap.size ≤ W1.heap.size) := HF1.out.size
      clear hxx hst hgot hset hlx HO HL HF hx hW1
      change W1.cell? ⟨g, i, none⟩ = some (.int .i64 xx) at hc3
      change wr.cell? ⟨g, i, none⟩ = some (.int .i64 x) at hc1
      go_upto_region 6 with fail
      rw [← HW1.out]
      clear HW1 hc1 hc2
      obtain ⟨WA, hWA⟩ : ∃ W, W = W1.alloc (.cells #[.int .i64 xx] 3) := ⟨_, rfl⟩
      obtain ⟨gb, hgb⟩ : ∃ g, g = W1.heap.size := ⟨_, rfl⟩
      have HBA : Hid (Below W1.heap.size W1 WA) := by show Below _ _ _; rw [hWA]; exact belowB _ _
      have HCB : Hid (WA.cell? ⟨gb, 0, none⟩ = some (.int .i64 xx)) := by show _ = _; rw [hWA, hgb, World.cell?_alloc_at _ _ _ _ rfl]; rfl
      have HWA : Hid (WA = W1.alloc (.cells #[.int .i64 xx] 3)) := hWA
      have HGB : Hid (gb = W1.heap.size) := hgb
      clear hWA hgb
      go_wp2_with (at_builtin; rw [← HWA.out, ← HGB.out]; refine wpList_pushD _ (fun _ => rfl) rfl _ _ 23 rfl w.heap.size 3 i0 (.int .i64 0) 8 Tryz.underlying23 hi hz0 hz1 hz2 rfl _ (tuL (L.take i)) rfl (HL1.out.below HBA.out) gb xx rfl HCB.out (by have := HLX.out; unfold maxLen; omega) (by have := HLX.out; omega) (Nat.le_trans HSZ1.out HBA.out.size) ?_)
      intro ng tm ncap W2 ho hg9 hng _
      have HO2 : Hid (OG (Value.int .i64) B 3 W2 (.slice (some ⟨g, 0, none⟩) (n + 4) cap) (tuR L (i + 1) ++ mk16)) := (HO1.out.below HBA.out).of_blocks fun q hq => hg9.block q (Nat.lt_of_lt_of_le (HO1.out.lt q hq).2 HBA.out.size) (fun e => by
        have h1 := (HL1.out.lt q e.symm).1
        have e1 : g = q := by simpa [Value.ownBlock] using hq
        have := HG0.out
        omega)
      have HF2 : Hid (FrP (fun q => q = g) w W2) := (HF1.out.tr (FrP.of_below HBA.out) (fun _ _ h => h)).tr (FrP.of_grown hg9) (fun q hq e => by
        have h1 := (HL1.out.lt q e).1
        omega)
      have HL2 : Hid (OG (Value.int .i64) w.heap.size 3 W2 (.slice (some ⟨ng, 0, none⟩) tm ncap) (tuL (L.take (i + 1)))) := by show OG _ _ _ _ _ _; rw [HST.out]; exact ho
      clear ho hg9 hng HO1 HL1 HF1 HBA HCB HWA HGB HST HLX HSZ1 hc3 HXX
      go_wp2
      go_roundg (n - (i + 1))
      case measure => omega
      case rel => exact ⟨i + 1, _, _, _, by first | rfl | go_num, rfl, by omega, Nat.le_refl _, HL2, HO2, HF2⟩
    · have hltz : ¬ (i : Int) < (n : Int) := by omega
      obtain rfl : i = n := by omega
      have HLE : Hid (OG (Value.int .i64) w.heap.size 3 wr (.slice lo ln lc) (tuL L)) := by
        have h1 := HL.out
        rwa [List.take_of_length_le (by rw [HN.out]; omega)] at h1
      have HRE : Hid (RmB B wr (.slice (some ⟨g, 0, none⟩) i cap) (tuL L)) := by
        have h1 := HO.out
        have h2 := tuR_all L
        rw [HN.out] at h2
        rw [h2] at h1
        refine ⟨g, cap, by rw [tuL_len, HN.out], ?_⟩
        rw [tuL_len, HN.out]
        exact h1
      have HFE : Hid (FrP (fun q => (Value.slice (some ⟨g, 0, none⟩) i cap).ownBlock = some q) w wr) := HF.out.mono fun q _ e => by rw [e]; rfl
      clear HL HO HF
      go_wp2
      go_ret
      exact ⟨_, rfl, HLE.out, HRE.out, HFE.out⟩
end Go.Proofs.YtcoiapgfaibkgaaGreat

/-
  Proved here: layer 16's law: own (two answers that must be these, the first written over and gone on with).
-/
import Derived.Test.YtcadljpdokhpmaaSpB
import Derived.Test.YtcadljpdokhpmaaSetSJAll
namespace Go.Proofs.Ytcadljpdokhpmaa
set_option linter.unusedVariables false
open Go.RowKit
theorem grown_rw {w w1 w2 : World} {vm : Value} {rb : Option Nat} (hg : w1.grownBy w2 vm.ownBlock) (h : vm.ownBlock = rb ∨ ∀ g, vm.ownBlock = some g → w.heap.size ≤ g) (h0 : w.grownBy w1 rb) : w.grownBy w2 rb := by
  refine ⟨hg.os.trans h0.os, hg.tape.trans h0.tape, hg.output.trans h0.output, Nat.le_trans h0.size hg.size, fun k hk hne => ?_⟩
  rw [← h0.block k hk hne]
  refine hg.block k (Nat.lt_of_lt_of_le hk h0.size) ?_
  rcases h with h | h
  · rw [h]; exact hne
  · intro e
    have := h k e.symm
    omega
theorem grown_below {w w1 w2 : World} {rb : Option Nat} (h0 : w.grownBy w1 rb) (hb : Below w1.heap.size w1 w2) : w.grownBy w2 rb :=
  ⟨hb.os.trans h0.os, hb.tape.trans h0.tape, hb.output.trans h0.output, Nat.le_trans h0.size hb.size, fun k hk hne => by rw [hb.block k (Nat.lt_of_lt_of_le hk h0.size)]; exact h0.block k hk hne⟩
theorem sameT16 (u v : Value) (xs : List Int) (w : World) (hu : RG (Value.int .i64) w u xs) (hv : RG (Value.int .i64) w v xs) : Calls Try.prog 18 #[u, v] w fun e w' => e = .returned (.bool true) ∧ ∃ q, w' = w.drewN q :=
  Calls.mono (sameD u v xs xs w hu hv) (fun e w' h => ⟨h.1.trans (by rw [decide_eq_true rfl]), h.2⟩)
theorem set_mk16 {L : List Int} {n i : Nat} (mark : Int) (hl : L.length = n) (h : i < n) : (List.replicate i mark ++ L.drop i).set i mark = List.replicate (i + 1) mark ++ L.drop (i + 1) := by
  have hd : L.drop i = L[i] :: L.drop (i + 1) := List.drop_eq_getElem_cons (by omega)
  rw [hd, List.replicate_succ', List.set_append_right _ _ (by simp)]
  simp only [List.length_replicate, Nat.sub_self, List.set_cons_zero, List.append_assoc, List.singleton_append]
set_option maxHeartbeats 6400000 in
set_option maxRecDepth 1000000 in
theorem own16 (B : Nat) (x y z : Value) (L : List Int) (w : World) (hx : OG (Value.int .i64) B 3 w x L) (hB : B ≤ w.heap.size) (hy : RG (Value.int .i64) w y L) (hz : RG (Value.int .i64) w z L) (hl : L.length ≤ 1000000)
    (hxy : 0 < L.length → ∀ b g, y.ownBlock = some b → x.ownBlock = some g → b ≠ g) (hxz : 0 < L.length → ∀ b g, z.ownBlock = some b → x.ownBlock = some g → b ≠ g) :
    Calls Try.prog 7 #[x, y, z] w fun e w' => e = .returned (.bool true) ∧ w.grownBy w' x.ownBlock := by
  obtain ⟨i0, hi, hz0, hz1, hz2⟩ := info_parts Try.infoI
  have hx0 := hx
  obtain ⟨ao, cap, rfl, hao, hlc, hcm, -⟩ := hx.sl
  unfold maxLen at hcm
  obtain ⟨yo, yc, rfl⟩ : ∃ o c, y = .slice o L.length c := by obtain ⟨o, c, e⟩ := hy.sl; exact ⟨_, _, e⟩
  obtain ⟨zo, zc, rfl⟩ : ∃ o c, z = .slice o L.length c := by obtain ⟨o, c, e⟩ := hz.sl; exact ⟨_, _, e⟩
  obtain ⟨n, hn⟩ : ∃ n, L.length = n := ⟨_, rfl⟩
  rw [hn] at hx0 hao hlc hl hy hz hxy hxz ⊢
  have HN : Hid (L.length = n) := hn
  have HX : Hid (OG (Value.int .i64) B 3 w (.slice ao n cap) L) := hx0
  have HAO : Hid (0 < n → ∃ g, B ≤ g ∧ ao = some ⟨g, 0, none⟩) := hao
  have HY : Hid (RG (Value.int .i64) w (.slice yo n yc) L) := hy
  have HZ : Hid (RG (Value.int .i64) w (.slice zo n zc) L) := hz
  obtain ⟨vb, hvb⟩ : ∃ b, b = (Value.slice ao n cap).ownBlock := ⟨_, rfl⟩
  rw [← hvb]
  have HVB : Hid (vb = (Value.slice ao n cap).ownBlock) := hvb
  have HXY : Hid (0 < n → ∀ b g, (Value.slice yo n yc).ownBlock = some b → (Value.slice ao n cap).ownBlock = some g → b ≠ g) := hxy
  have HXZ : Hid (0 < n → ∀ b g, (Value.slice zo n zc).ownBlock = some b → (Value.slice ao n cap).ownBlock = some g → b ≠ g) := hxz
  have C1 : Hid _ := sameT16 _ _ L w hx0.rg hz
  clear hx hn hx0 hao hvb hy hz hxy hxz hlc
  go_enter Try.func7, Try.ntmps7
  go_wp2_with fail
  refine Calls.mono C1.out ?_
  rintro e y1 ⟨rfl, q1, rfl⟩
  have C2 : Hid _ := sameT16 _ _ L (w.drewN q1) (HY.out.drewN q1) (HZ.out.drewN q1)
  clear C1
  go_wp2_with fail
  refine Calls.mono C2.out ?_
  rintro e y2 ⟨rfl, q2, rfl⟩
  clear C2
  obtain ⟨W1, hW1⟩ : ∃ W, W = (w.drewN q1).drewN q2 := ⟨_, rfl⟩
  rw [← hW1]
  have HG0 : Hid (w.grownBy W1 vb) := by show w.grownBy _ _; rw [hW1]; exact grown_below (grown_below (grownG_refl _ _) (below_drewN (Below.refl _ _) _)) (below_drewN (Below.refl _ _) _)
  have HO0 : Hid (OG (Value.int .i64) B 3 W1 (.slice ao n cap) (List.replicate 0 (-1) ++ L.drop 0)) := by rw [hW1]; exact (HX.out.below (below_drewN (Below.refl _ _) _)).below (below_drewN (Below.refl _ _) _)
  clear hW1
  go_wp2
  go_loopg [7] n (fun g1 v7 wr => ∃ i : Nat, v7 = .int .i64 i ∧ i ≤ n ∧ n - i ≤ g1 ∧ Hid (OG (Value.int .i64) B 3 wr (.slice ao n cap) (List.replicate i (-1) ++ L.drop i)) ∧ Hid (w.grownBy wr vb))
  case atStart => exact ⟨0, rfl, Nat.zero_le _, by omega, HO0, HG0⟩
  case round =>
    clear HO0 HG0
    obtain ⟨i, rfl, hin, hg1, HO, HG⟩ := hrel
    by_cases hlt : i < n
    · have hltz : (i : Int) < (n : Int) := by omega
      obtain ⟨g, hgB, e1⟩ := HAO.out (by omega)
      subst e1
      have hlen : (List.replicate i (-1) ++ L.drop i).length = n := by rw [List.length_append, List.length_replicate, List.length_drop, HN.out]; omega
      obtain ⟨c1, f1⟩ := HO.out.cell (i := i) (List.getElem?_eq_getElem (by rw [hlen]; exact hlt))
      obtain ⟨O2, G2⟩ := HO.out.set hlen i (-1)
      have HO2 : Hid (OG (Value.int .i64) B 3 (wr.setCell ⟨g, i, none⟩ (.int .i64 (-1))) (.slice (some ⟨g, 0, none⟩) n cap) (List.replicate (i + 1) (-1) ++ L.drop (i + 1))) := by rw [set_mk16 (-1) HN.out hlt] at O2; exact O2
      have HG2 : Hid (w.grownBy (wr.setCell ⟨g, i, none⟩ (.int .i64 (-1))) vb) := by rw [HVB.out]; have h := HG.out; rw [HVB.out] at h; exact h.trans G2
      generalize (List.replicate i (-1) ++ L.drop i)[i]'_ = y at c1
      clear O2 G2 hlen HO HG
      go_wp2
      go_roundg (n - (i + 1))
      case measure => omega
      case rel => exact ⟨i + 1, by go_num, by omega, Nat.le_refl _, HO2, HG2⟩
    · have hltz : ¬ (i : Int) < (n : Int) := by omega
      have HO1 : Hid (OG (Value.int .i64) B 3 wr (.slice ao n cap) (List.replicate n (-1) ++ List.replicate 0 (-2))) := by
        have h := HO.out
        rw [List.drop_of_length_le (by rw [HN.out]; omega), List.append_nil, show i = n by omega] at h
        show OG _ _ _ _ _ _
        rw [List.replicate_zero, List.append_nil]; exact h
      have HZB : Hid (B ≤ wr.heap.size) := Nat.le_trans hB HG.out.size
      clear HO hltz
      go_wp2
      go_loopg [8, 9] 6 (fun g2 v8 v9 wr2 => ∃ (j : Nat) (mo : Option Addr) (mn mc : Nat), v8 = .slice mo mn mc ∧ v9 = .int .i64 j ∧ j ≤ 6 ∧ 6 - j ≤ g2 ∧ Hid (OG (Value.int .i64) B 3 wr2 (.slice mo mn mc) (List.replicate n (-1) ++ List.replicate j (-2))) ∧ Hid (w.grownBy wr2 vb) ∧ Hid ((Value.slice mo mn mc).ownBlock = vb ∨ ∀ g, (Value.slice mo mn mc).ownBlock = some g → w.heap.size ≤ g))
      case atStart => exact ⟨0, ao, n, cap, rfl, rfl, Nat.zero_le _, by omega, HO1, HG, Or.inl HVB.out.symm⟩
      case round =>
        clear HO1 HG HZB
        obtain ⟨j, mo, mn, mc, rfl, rfl, hjn, hg2, HO2, HG, HV⟩ := hrel
        have HLm : Hid ((List.replicate n (-1 : Int) ++ List.replicate j (-2)).length = n + j) := by show List.length _ = _; simp
        by_cases hj : j < 6
        · have hjz : (j : Int) < 6 := by omega
          obtain ⟨WA, hWA⟩ : ∃ W, W = wr.alloc (.cells #[.int .i64 (-2)] 3) := ⟨_, rfl⟩
          obtain ⟨gb, hgb⟩ : ∃ g, g = wr.heap.size := ⟨_, rfl⟩
          have hBA : Below wr.heap.size wr WA := by rw [hWA]; exact belowB _ _
          have HOA : Hid (OG (Value.int .i64) B 3 WA (.slice mo mn mc) (List.replicate n (-1) ++ List.replicate j (-2))) := HO2.out.below hBA
          have HGA : Hid (w.grownBy WA vb) := grown_below HG.out hBA
          have HCB : Hid (WA.cell? ⟨gb, 0, none⟩ = some (.int .i64 (-2))) := by show _ = _; rw [hWA, hgb, World.cell?_alloc_at _ _ _ _ rfl]; rfl
          have HZA : Hid (B ≤ WA.heap.size) := Nat.le_trans hB HGA.out.size
          have HWA : Hid (WA = wr.alloc (.cells #[.int .i64 (-2)] 3)) := hWA
          have HGB : Hid (gb = wr.heap.size) := hgb
          clear hWA hgb hBA HO2 HG
          go_wp2_with (at_builtin; rw [← HWA.out, ← HGB.out]; refine wpList_pushV (enc := Value.int .i64) _ rfl _ _ 24 rfl B 3 i0 (.int .i64 0) 8 Try.underlying24 hi hz0 hz1 hz2 rfl _ _ rfl HOA.out gb (-2) rfl HCB.out rfl (by rw [HLm.out]; unfold maxLen; omega) (by rw [HLm.out]; omega) HZA.out ?_)
          intro ng tm ncap W2 ho hg3 hng _
          have O2 : Hid (OG (Value.int .i64) B 3 W2 (.slice (some ⟨ng, 0, none⟩) tm ncap) (List.replicate n (-1) ++ List.replicate (j + 1) (-2))) := by
            rw [← List.replicate_succ'] at ho; exact ho
          have G2 : Hid (w.grownBy W2 vb) := grown_rw hg3 HV.out HGA.out
          have V2 : Hid ((Value.slice (some ⟨ng, 0, none⟩) tm ncap).ownBlock = vb ∨ ∀ g, (Value.slice (some ⟨ng, 0, none⟩) tm ncap).ownBlock = some g → w.heap.size ≤ g) := by
            rcases hng with h | h
            · rcases HV.out with h2 | h2
              · exact Or.inl (by rw [← h2, h]; rfl)
              · exact Or.inr fun g hg => h2 g (by rw [h]; exact hg)
            · exact Or.inr fun g hg => by
                have e1 : ng = g := by simpa [Value.ownBlock] using hg
                have := HGA.out.size
                omega
          clear ho hg3 hng HOA HGA HCB HZA HWA HGB HV HLm
          go_wp2
          go_roundg (6 - (j + 1))
          case measure => omega
          case rel => exact ⟨j + 1, _, _, _, rfl, by go_num, by omega, Nat.le_refl _, O2, G2, V2⟩
        · have hjz : ¬ (j : Int) < 6 := by omega
          have hj2 : j = 6 := by omega
          subst hj2
          obtain rfl : mn = n + 6 := by rw [← HO2.out.rg.len, HLm.out]
          have C3 : Hid _ := sameT16 _ _ L wr (HY.out.stay (v := .slice ao n cap) (by rw [← HVB.out]; exact HG.out) (by rw [HN.out]; exact HXY.out)) (HZ.out.stay (v := .slice ao n cap) (by rw [← HVB.out]; exact HG.out) (by rw [HN.out]; exact HXZ.out))
          have HGE : Hid (w.grownBy wr vb) := HG
          clear HO2 HG HV HLm hjz
          go_wp2_with fail
          refine Calls.mono C3.out ?_
          rintro e y3 ⟨rfl, q3, rfl⟩
          clear C3
          go_wp2
          go_ret
          exact ⟨rfl, grown_below HGE.out (below_drewN (Below.refl _ _) _)⟩
end Go.Proofs.Ytcadljpdokhpmaa

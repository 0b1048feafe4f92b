/-
  Proved here: layer 11's law.go: long and spoilt.
-/
import Derived.Test.YtphmamdmkhaemaaSetR
import Derived.Test.YtphmamdmkhaemaaPush
namespace Go.Proofs.Ytphmamdmkhaemaa
open Go.Shelf Go.RowKit Go.Lib Go.Sort
/-- an append to a row that lies where rb does, or beyond w, leaves all else of w -/
theorem grown_row {w w1 w2 : World} {vm : Value} {rb : Option Nat} (hg : w1.grownBy w2 vm.ownBlock) (h : vm.ownBlock = rb ∨ ∀ g, vm.ownBlock = some g → w.heap.size ≤ g) (h0 : w.grownBy w1 rb) : w.grownBy w2 rb := by
  refine ⟨hg.os.trans h0.os, hg.tape.trans h0.tape, hg.output.trans h0.output, Nat.le_trans h0.size hg.size, fun k hk hne => ?_⟩
  rw [← h0.block k hk hne]
  refine hg.block k (Nat.lt_of_lt_of_le hk h0.size) ?_
  rcases h with h | h
  · rw [h]; exact hne
  · intro e
    have := h k e.symm
    omega
/-- a list with its marks -/
def lgI (L : List Int) (i : Nat) : List Int := L ++ (List.range i).map fun (k : Nat) => (90000 + (k : Int))
theorem lgI_succ (L : List Int) (i : Nat) : lgI L (i + 1) = lgI L i ++ [90000 + (i : Int)] := by simp [lgI, List.range_succ]
theorem lgI_zero (L : List Int) : lgI L 0 = L := by simp [lgI]
theorem lgI_len (L : List Int) (i : Nat) : (lgI L i).length = L.length + i := by simp [lgI]
set_option maxHeartbeats 4000000 in
set_option maxRecDepth 1000000 in
theorem long_any (v : Value) (L : List Int) (w : World) (hv : RG (Value.int .i64) w v L) (hz : L.length ≤ 10000) : Calls Try.prog 20 #[v] w fun e w' => RE w (lgI L 20) e w' := by
  obtain ⟨i0, hi, hz0, hz1, hz2⟩ := info_parts infoI
  have HV : Hid (RG (Value.int .i64) w v L) := hv
  have HL0 : Hid (L.length ≤ 10000) := hz
  obtain ⟨ao, cap, rfl, -⟩ := hv
  obtain ⟨n, hn⟩ : ∃ n, L.length = n := ⟨_, rfl⟩
  rw [hn] at HV ⊢
  clear hn hz
  go_enter Try.func20, Try.ntmps20
  go_wp2_with (at_builtin; refine wpList_appG _ oneI rfl _ _ 22 rfl w.heap.size 3 i0 (.int .i64 0) 8 Try.underlying22 hi hz0 hz1 hz2 rfl _ _ [] L rfl (OG.nil _ _ _) rfl HV.out (by have := HL0.out; unfold maxLen; simp only [List.length_nil]; omega) (by have := HL0.out; simp only [List.length_nil]; omega) (Nat.le_refl _) ?_)
  intro v1 w1 ho1 hg1
  have O1 : Hid (OG (Value.int .i64) w.heap.size 3 w1 v1 (lgI L 0)) := by rw [lgI_zero]; exact ho1
  have B1 : Hid (Below w.heap.size w w1) := (OG.nil (enc := Value.int .i64) w.heap.size 3 w).grown (Below.refl _ _) (Nat.le_refl _) hg1
  clear ho1 hg1 HV
  go_wp2
  go_loopg [3, 4] 20 (fun g1 v3 v4 wr => ∃ (i : Nat) (vt : Value), vt = v3 ∧ v4 = .int .i64 i ∧ i ≤ 20 ∧ 20 - i ≤ g1 ∧ Hid (OG (Value.int .i64) w.heap.size 3 wr vt (lgI L i)) ∧ Hid (Below w.heap.size w wr))
  case atStart => exact ⟨0, _, rfl, rfl, Nat.zero_le _, by omega, O1, B1⟩
  case round =>
    clear O1 B1
    obtain ⟨i, vt, rfl, rfl, hin, hg1, HO, HBW⟩ := hrel
    have HL : Hid ((lgI L i).length ≤ 10020) := by show _ ≤ _; rw [lgI_len]; have := HL0.out; omega
    by_cases hlt : i < 20
    · have hltz : (i : Int) < 20 := by omega
      have w90 : IntKind.i64.wrap (90000 + (i : Int)) = 90000 + (i : Int) := by rw [IntKind.wrap_i64]; omega
      have Oa : Hid (OG (Value.int .i64) w.heap.size 3 (wr.alloc (.cells #[.int .i64 (90000 + (i : Int))] 3)) vt (lgI L i)) := HO.out.below ((Below.refl _ _).alloc (Nat.le_refl _) _)
      have Ra : Hid (RG (Value.int .i64) (wr.alloc (.cells #[.int .i64 (90000 + (i : Int))] 3)) (.slice (some ⟨wr.heap.size, 0, none⟩) 1 1) [90000 + (i : Int)]) := (OG.lit (enc := Value.int .i64) 3 wr [90000 + (i : Int)] (by unfold maxLen; simp)).rg
      have Za : Hid (w.heap.size ≤ (wr.alloc (.cells #[.int .i64 (90000 + (i : Int))] 3)).heap.size) := Nat.le_trans HBW.out.size (by simp)
      have Ba : Hid (Below w.heap.size w (wr.alloc (.cells #[.int .i64 (90000 + (i : Int))] 3))) := HBW.out.alloc HBW.out.size _
      have HS : Hid (lgI L (i + 1) = lgI L i ++ [90000 + (i : Int)]) := lgI_succ L i
      go_wp2_with (at_builtin; refine wpList_appG _ oneI rfl _ _ 22 rfl w.heap.size 3 i0 (.int .i64 0) 8 Try.underlying22 hi hz0 hz1 hz2 rfl _ _ (lgI L i) [90000 + (i : Int)] rfl Oa.out rfl Ra.out (by have := HL.out; unfold maxLen; simp only [List.length_cons, List.length_nil]; omega) (by have := HL.out; simp only [List.length_cons, List.length_nil]; omega) Za.out ?_)
      intro v2 w2 ho2 hg2
      have O2 : Hid (OG (Value.int .i64) w.heap.size 3 w2 v2 (lgI L (i + 1))) := by rw [HS.out]; exact ho2
      have B2 : Hid (Below w.heap.size w w2) := Oa.out.grown Ba.out Za.out hg2
      clear ho2 hg2 Oa Ra Za Ba HO HBW
      go_wp2
      go_roundg (20 - (i + 1))
      case measure => omega
      case rel => exact ⟨i + 1, _, rfl, by go_num, by omega, Nat.le_refl _, O2, B2⟩
    · have hltz : ¬ (i : Int) < 20 := by omega
      have hi2 : i = 20 := by omega
      subst hi2
      go_wp2
      go_ret
      exact ⟨_, rfl, HO.out, HBW.out⟩
theorem set_marks {L : List Int} {n i : Nat} (mark : Int) (hl : L.length = n) (h : i < n) : (List.replicate i mark ++ L.drop i).set i mark = List.replicate (i + 1) mark ++ L.drop (i + 1) := by
  have hd : L.drop i = L[i] :: L.drop (i + 1) := List.drop_eq_getElem_cons (by omega)
  rw [hd, List.replicate_succ', List.set_append_right _ _ (by simp)]
  simp only [List.length_replicate, Nat.sub_self, List.set_cons_zero, List.append_assoc, List.singleton_append]
/-- marks, and what is gone on with -/
def mkI (n : Nat) (mark : Int) (j : Nat) : List Int := List.replicate n mark ++ List.replicate j 7
theorem mkI_zero (n : Nat) (mark : Int) : mkI n mark 0 = List.replicate n mark := by simp [mkI]
theorem mkI_succ (n : Nat) (mark : Int) (j : Nat) : mkI n mark (j + 1) = mkI n mark j ++ [7] := by unfold mkI; rw [List.append_assoc, ← List.replicate_succ']
theorem mkI_len (n : Nat) (mark : Int) (j : Nat) : (mkI n mark j).length = n + j := by simp [mkI]
theorem mkI_at (n : Nat) (mark : Int) (j k : Nat) (h : k < n) : (mkI n mark j)[k]? = some mark := by unfold mkI; rw [List.getElem?_append_left (by simpa using h), List.getElem?_replicate, if_pos h]
set_option maxHeartbeats 4000000 in
set_option maxRecDepth 1000000 in
theorem spoilt_any (B : Nat) (v : Value) (L : List Int) (mark : Int) (w : World) (hv : OG (Value.int .i64) B 3 w v L) (hB : B ≤ w.heap.size) (hz : L.length ≤ 10000) :
    Calls Try.prog 21 #[v, .int .i64 mark] w fun e w' => e = .returned (.bool true) ∧ w.grownBy w' v.ownBlock := by
  obtain ⟨i0, hi, hz0, hz1, hz2⟩ := info_parts infoI
  have hv0 := hv
  obtain ⟨ao, cap, rfl, hao, hlc, hcm, -⟩ := hv.sl
  unfold maxLen at hcm
  obtain ⟨n, hn⟩ : ∃ n, L.length = n := ⟨_, rfl⟩
  rw [hn] at hv0 hao hlc hz ⊢
  have HN : Hid (L.length = n) := hn
  have HO0 : Hid (OG (Value.int .i64) B 3 w (.slice ao n cap) (List.replicate 0 mark ++ L.drop 0)) := hv0
  have HAO : Hid (0 < n → ∃ g, B ≤ g ∧ ao = some ⟨g, 0, none⟩) := hao
  clear hv hn hv0 hao
  obtain ⟨vb, hvb⟩ : ∃ b, b = (Value.slice ao n cap).ownBlock := ⟨_, rfl⟩
  rw [← hvb]
  have HVB : Hid (vb = (Value.slice ao n cap).ownBlock) := hvb
  clear hvb
  go_enter Try.func21, Try.ntmps21
  go_wp2
  go_loopg [5] n (fun g1 v5 wr => ∃ i : Nat, v5 = .int .i64 i ∧ i ≤ n ∧ n - i ≤ g1 ∧ Hid (OG (Value.int .i64) B 3 wr (.slice ao n cap) (List.replicate i mark ++ L.drop i)) ∧ Hid (w.grownBy wr vb))
  case atStart => exact ⟨0, rfl, Nat.zero_le _, by omega, HO0, grownG_refl _ _⟩
  case round =>
    clear HO0
    obtain ⟨i, rfl, hin, hg1, HO, HG⟩ := hrel
    by_cases hlt : i < n
    · have hltz : (i : Int) < (n : Int) := by omega
      obtain ⟨g, hgB, e1⟩ := HAO.out (by omega)
      subst e1
      have hlen : (List.replicate i mark ++ L.drop i).length = n := by rw [List.length_append, List.length_replicate, List.length_drop, HN.out]; omega
      obtain ⟨c1, f1⟩ := HO.out.cell (i := i) (List.getElem?_eq_getElem (by rw [hlen]; exact hlt))
      obtain ⟨O2, G2⟩ := HO.out.set hlen i mark
      have HO2 : Hid (OG (Value.int .i64) B 3 (wr.setCell ⟨g, i, none⟩ (.int .i64 mark)) (.slice (some ⟨g, 0, none⟩) n cap) (List.replicate (i + 1) mark ++ L.drop (i + 1))) := by rw [set_marks mark HN.out hlt] at O2; exact O2
      have HG2 : Hid (w.grownBy (wr.setCell ⟨g, i, none⟩ (.int .i64 mark)) vb) := by rw [HVB.out]; have h := HG.out; rw [HVB.out] at h; exact h.trans G2
      generalize (List.replicate i mark ++ L.drop i)[i]'_ = y at c1
      clear O2 G2 hlen HO HG
      go_wp2
      go_roundg (n - (i + 1))
      case measure => omega
      case rel => exact ⟨i + 1, by go_num, by omega, Nat.le_refl _, HO2, HG2⟩
    · have hltz : ¬ (i : Int) < (n : Int) := by omega
      have HO1 : Hid (OG (Value.int .i64) B 3 wr (.slice ao n cap) (List.replicate n mark)) := by
        have h := HO.out
        rw [List.drop_of_length_le (by rw [HN.out]; omega), List.append_nil, show i = n by omega] at h
        exact h
      have HZ : Hid (B ≤ wr.heap.size) := Nat.le_trans hB HG.out.size
      clear HO hltz
      go_wp2
      go_loopg [6, 7] 40 (fun g2 v6 v7 wr2 => ∃ (j : Nat) (vm : Value), vm = v6 ∧ v7 = .int .i64 j ∧ j ≤ 40 ∧ 40 - j ≤ g2 ∧ Hid (OG (Value.int .i64) B 3 wr2 (.slice ao n cap) (List.replicate n mark)) ∧ Hid (OG (Value.int .i64) B 3 wr2 vm (mkI n mark j)) ∧ Hid (w.grownBy wr2 vb) ∧ Hid (vm.ownBlock = vb ∨ ∀ g, vm.ownBlock = some g → w.heap.size ≤ g) ∧ Hid (B ≤ wr2.heap.size))
      case atStart => exact ⟨0, _, rfl, rfl, Nat.zero_le _, by omega, HO1, by rw [mkI_zero]; exact HO1, HG, Or.inl HVB.out.symm, HZ⟩
      case round =>
        clear HO1 HG HZ
        obtain ⟨j, vm, rfl, rfl, hjn, hg2, HO1, HO2, HG, HV, HZ⟩ := hrel
        by_cases hj : j < 40
        · have hjz : (j : Int) < 40 := by omega
          have HLm : Hid ((mkI n mark j).length = n + j) := mkI_len n mark j
          have Oa : Hid (OG (Value.int .i64) B 3 (wr.alloc (.cells #[.int .i64 7] 3)) vm (mkI n mark j)) := HO2.out.below ((Below.refl _ _).alloc (Nat.le_refl _) _)
          have Ob : Hid (OG (Value.int .i64) B 3 (wr.alloc (.cells #[.int .i64 7] 3)) (.slice ao n cap) (List.replicate n mark)) := HO1.out.below ((Below.refl _ _).alloc (Nat.le_refl _) _)
          have Ra : Hid (∀ k u, [Value.int .i64 7][k]? = some u → (wr.alloc (.cells #[.int .i64 7] 3)).cell? ((⟨wr.heap.size, 0, none⟩ : Addr).add k) = some u) := fun k u hk => by
            rw [Addr.add_lit, Nat.zero_add]
            have hlit : OG (Value.int .i64) wr.heap.size 3 (wr.alloc (.cells #[.int .i64 7] 3)) (.slice (some ⟨wr.heap.size, 0, none⟩) 1 1) [7] := OG.lit 3 wr [7] (by unfold maxLen; simp)
            match k, hk with
            | 0, hk => cases hk; exact (hlit.cell (i := 0) rfl).1
          have Za : Hid (B ≤ (wr.alloc (.cells #[.int .i64 7] 3)).heap.size) := Nat.le_trans HZ.out (by simp)
          have Ga : Hid (wr.grownBy (wr.alloc (.cells #[.int .i64 7] 3)) vb) := ⟨rfl, rfl, rfl, by simp, fun k hk _ => by
            show (wr.heap.push _)[k]? = _
            rw [Array.getElem?_push, if_neg (by omega)]⟩
          have HSU : Hid (mkI n mark (j + 1) = mkI n mark j ++ [7]) := mkI_succ n mark j
          go_wp2_with (at_builtin; refine wpList_push _ rfl _ _ 22 rfl B 3 i0 (.int .i64 0) 8 Try.underlying22 hi hz0 hz1 hz2 rfl _ (mkI n mark j).length ((mkI n mark j).map (Value.int .i64)) rfl Oa.out ⟨wr.heap.size, 0, none⟩ 1 1 [.int .i64 7] rfl rfl Ra.out (fun u hu => by simp at hu; subst hu; rfl) (by decide) (by rw [HLm.out]; unfold maxLen; omega) (by rw [HLm.out]; omega) Za.out ?_)
          intro v2 w2 ho2 hg3 hk2 hor
          have O2 : Hid (OG (Value.int .i64) B 3 w2 v2 (mkI n mark (j + 1))) := by
            rw [HSU.out]
            unfold OG
            rw [List.length_append, List.map_append]
            exact ho2
          have O3 : Hid (OG (Value.int .i64) B 3 w2 (.slice ao n cap) (List.replicate n mark)) := hk2 B 3 _ _ _ Ob.out (fun _ => by rw [HLm.out, List.length_replicate]; omega)
          have G2 : Hid (w.grownBy w2 vb) := grown_row hg3 HV.out (HG.out.trans Ga.out)
          have V2 : Hid (v2.ownBlock = vb ∨ ∀ g, v2.ownBlock = some g → w.heap.size ≤ g) := by
            rcases hor with h | h
            · rcases HV.out with h2 | h2
              · exact Or.inl (h.trans h2)
              · exact Or.inr fun g hg => h2 g (h ▸ hg)
            · exact Or.inr fun g hg => by
                have h3 := h g hg
                have h4 := HG.out.size
                have h5 : (wr.alloc (.cells #[.int .i64 7] 3)).heap.size = wr.heap.size + 1 := by simp
                omega
          have Z2 : Hid (B ≤ w2.heap.size) := Nat.le_trans Za.out hg3.size
          clear ho2 hg3 hk2 hor Oa Ob Ra Za Ga HO1 HO2 HG HV HZ HLm HSU
          go_wp2
          go_roundg (40 - (j + 1))
          case measure => omega
          case rel => exact ⟨j + 1, _, rfl, by go_num, by omega, Nat.le_refl _, O3, O2, G2, V2, Z2⟩
        · have hjz : ¬ (j : Int) < 40 := by omega
          have hj2 : j = 40 := by omega
          subst hj2
          obtain ⟨mo, mc, hm0, -, hmc, hmcm, -⟩ := HO2.out.sl
          subst hm0
          unfold maxLen at hmcm
          have hml : (mkI n mark 40).length = n + 40 := mkI_len n mark 40
          rw [hml] at HO2 hmc ⊢
          have CL : Hid (∀ k, k < n → ∃ gg, ao = some ⟨gg, 0, none⟩ ∧ wr.cell? ⟨gg, k, none⟩ = some (.int .i64 mark)) := fun k hk => by
            obtain ⟨gg, _, e1⟩ := HAO.out (by omega)
            refine ⟨gg, e1, ?_⟩
            have h := HO1.out
            rw [e1] at h
            exact (h.cell (i := k) (by rw [List.getElem?_replicate, if_pos hk])).1
          have CM : Hid (∀ k, k < n → ∃ gg o, mo = some ⟨gg, o, none⟩ ∧ wr.cell? ⟨gg, o + k, none⟩ = some (.int .i64 mark)) := fun k hk => by
            obtain ⟨x, gg, o, hx, e1, c1⟩ := HO2.out.rg.at (i := k) (by omega)
            rw [mkI_at n mark 40 k hk] at hx
            cases hx
            exact ⟨gg, o, e1, c1⟩
          have HGE : Hid (w.grownBy wr vb) := HG
          clear HO1 HO2 HG HV HZ hjz hml
          go_wp2
          go_loopg [8] n (fun g3 v8 wr3 => ∃ k : Nat, v8 = .int .i64 k ∧ k ≤ n ∧ n - k ≤ g3 ∧ wr = wr3)
          case atStart => exact ⟨0, rfl, Nat.zero_le _, by omega, rfl⟩
          case round =>
            obtain ⟨k, rfl, hkn, hg3, rfl⟩ := hrel
            by_cases hk : k < n
            · have hkz : (k : Int) < (n : Int) := by omega
              have hkz2 : (k : Int) < ((n + 40 : Nat) : Int) := by omega
              have hkz3 : (k : Int) < (n : Int) + 40 := by omega
              obtain ⟨gg, e1, c1⟩ := CL.out k hk
              obtain ⟨gm, om, e2, c2⟩ := CM.out k hk
              subst e1 e2
              go_wp2
              go_roundg (n - (k + 1))
              case measure => omega
              case rel => exact ⟨k + 1, by go_num, by omega, Nat.le_refl _, rfl⟩
            · have hkz : ¬ (k : Int) < (n : Int) := by omega
              go_wp2
              go_ret
              exact ⟨rfl, HGE.out⟩
end Go.Proofs.Ytphmamdmkhaemaa

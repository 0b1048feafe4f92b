/-
  Proved here: the law's spoilt: rows of a call's own are written full, then gone on with, and all marks stand.
-/
import Derived.Test.YtmgbhbdcnciccaaDagSpM
namespace Go.Proofs.Ytmgbhbdcnciccaa
set_option linter.unusedVariables false
open Go.RowKit
set_option maxRecDepth 100000 in
set_option maxHeartbeats 12800000 in
theorem spoiltD (v : Value) (rvs : List Value) (L : List (List Int)) (mark : Int) (hm1 : -100000 ≤ mark) (hm2 : mark ≤ 0) (B : Nat) (w : World) (h : OwR B w v rvs L) (hs : SepR rvs) (hB : B ≤ w.heap.size) (hl : L.length ≤ 100000) (hbl : ∀ i, (L.getD i []).length ≤ 100000) :
    Calls Try.prog 30 #[v, .int .i64 mark] w fun e w' => e = .returned (.bool true) ∧ FrP (InR rvs) w w' := by
  obtain ⟨i0, hi, hz0, hz1, hz2⟩ := info_parts Try.infoI
  obtain ⟨vo, n, vc, rfl⟩ : ∃ o n c, v = .slice o n c := by obtain ⟨ao, cap, e⟩ := h.row.rg.sl; exact ⟨_, _, _, e⟩
  have hrn : rvs.length = n := h.row.rg.len
  have hln : L.length = n := by rw [← h.len, hrn]
  rw [hln] at hl
  have HS : Hid (SepR rvs) := hs
  have HRN : Hid (rvs.length = n) := hrn
  have HLT : Hid (∀ q, InR rvs q → q < w.heap.size) := fun q ⟨j, u, hu, hq⟩ => ((h.inn j u hu).lt q hq).2
  have HZ : Hid (∀ (j : Nat) (u : Value), rvs[j]? = some u → ∀ (uo : Option Addr) (un uc : Nat), u = .slice uo un uc → (∀ g o, uo = some ⟨g, o, none⟩ → o = 0) ∧ (0 < un → ∃ g, uo = some ⟨g, 0, none⟩)) := fun j u hu uo un uc e => by
    subst e
    obtain ⟨ao, cap, e1, e2, _⟩ := (h.inn j _ hu).sl
    rcases (h.inn j _ hu).2 with ⟨e3, _⟩ | ⟨g', cap', cur, e3, _⟩
    · simp only [Value.slice.injEq] at e3
      obtain ⟨rfl, rfl, rfl⟩ := e3
      exact ⟨fun g o e => by simp at e, fun h => by omega⟩
    · simp only [Value.slice.injEq] at e3
      obtain ⟨rfl, _, _⟩ := e3
      exact ⟨fun g o e => by simp at e; exact e.2.symm, fun _ => ⟨g', rfl⟩⟩
  obtain ⟨f, hf⟩ : ∃ f : Nat → List Int, f = fun i => L.getD i [] := ⟨_, rfl⟩
  have HFL : Hid (∀ i, (f i).length ≤ 100000) := fun i => by rw [hf]; exact hbl i
  have HI0 : Hid (SpI B w w (.slice vo n vc) rvs (spF f mark 0 0)) := by
    show SpI _ _ _ _ _ _
    exact SpI.congr ⟨h.row, h.inn, FrP.refl _ _⟩ (fun j _ => by rw [spF_start, hf])
  clear h hs hrn hln hf hbl
  go_enter Try.func30, Try.ntmps30
  go_wp2
  go_loopg [5, 6] n (fun g1 v5 _v6 wr => ∃ i : Nat, v5 = .int .i64 i ∧ i ≤ n ∧ n - i ≤ g1 ∧ Hid (SpI B w wr (.slice vo n vc) rvs (spF f mark i 0)))
  case atStart => exact ⟨0, rfl, by omega, by omega, HI0⟩
  case round =>
    clear HI0
    obtain ⟨i, rfl, hin, hg1, HI⟩ := hrel
    by_cases hlt : i < n
    · have hltz : (i : Int) < (n : Int) := by omega
      obtain ⟨gv, hgv⟩ : ∃ g, vo = some ⟨g, 0, none⟩ := by
        obtain ⟨ao, cap, e1, e2, _⟩ := HI.out.row.sl
        obtain ⟨g, _, e⟩ := e2 (by rw [HRN.out]; omega)
        simp only [Value.slice.injEq] at e1
        exact ⟨g, e1.1.trans e⟩
      subst hgv
      obtain ⟨u, hu⟩ : ∃ u, rvs[i]? = some u := ⟨_, List.getElem?_eq_getElem (by rw [HRN.out]; exact hlt)⟩
      obtain ⟨uo, un, uc, rfl⟩ : ∃ o n c, u = .slice o n c := by obtain ⟨ao, cap, e⟩ := (HI.out.inn i u hu).rg.sl; exact ⟨_, _, _, e⟩
      have HU : Hid (rvs[i]? = some (.slice uo un uc)) := hu
      have hul := (HI.out.inn i _ hu).rg.len
      rw [spF_len (by omega)] at hul
      have HUL : Hid ((f i).length = un) := hul
      have hun : un ≤ 100000 := by rw [← hul]; exact HFL.out i
      clear hu hul
      go_wp2
      go_loopg [6] un (fun g2 v6 wq => ∃ k : Nat, v6 = .int .i64 k ∧ k ≤ un ∧ un - k ≤ g2 ∧ Hid (SpI B w wq (.slice (some ⟨gv, 0, none⟩) n vc) rvs (spF f mark i k)))
      case atStart => exact ⟨0, rfl, by omega, by omega, HI⟩
      case round =>
        clear HI
        obtain ⟨k, rfl, hkn, hg2, HI⟩ := hrel
        have hu2 : wr.cell? ⟨gv, i, none⟩ = some (.slice uo un uc) := (HI.out.row.cell HU.out).1
        by_cases hlk : k < un
        · have hlkz : (k : Int) < (un : Int) := by omega
          obtain ⟨g, rfl⟩ := ((HZ.out i _ HU.out _ _ _ rfl).2 (by omega))
          have hcl : (spF f mark i k i).length = un := by rw [spF_len (by rw [HUL.out]; omega), HUL.out]
          obtain ⟨y, hy⟩ : ∃ y, (spF f mark i k i)[k]? = some y := ⟨_, List.getElem?_eq_getElem (by omega)⟩
          obtain ⟨hc1, hc2⟩ := (HI.out.inn i _ HU.out).cell hy
          have HSET : Hid (∀ z : Int, z = mark - (i : Int) → SpI B w (wr.setCell ⟨g, k, none⟩ (.int .i64 z)) (.slice (some ⟨gv, 0, none⟩) n vc) rvs (spF f mark i (k + 1))) := fun z hz => by
            rw [hz]
            exact HI.out.set HS.out HU.out k _ (spF_at (by rw [HUL.out]; exact hlk)).symm (fun j hj => (spF_other hj).symm)
          obtain ⟨WN, hWN⟩ : ∃ W, W = wr.setCell ⟨g, k, none⟩ (.int .i64 (mark - (i : Int))) := ⟨_, rfl⟩
          have HN : Hid (SpI B w WN (.slice (some ⟨gv, 0, none⟩) n vc) rvs (spF f mark i (k + 1))) := by show SpI _ _ _ _ _ _; rw [hWN]; exact HSET.out _ rfl
          have HWN : Hid (WN = wr.setCell ⟨g, k, none⟩ (.int .i64 (mark - (i : Int)))) := hWN
          clear hcl hy hWN HSET HI
          go_wp2
          rw [← HWN.out]
          clear hc1 hc2 hu2 HWN
          go_roundg (un - (k + 1))
          case measure => omega
          case rel => exact ⟨k + 1, by first | rfl | go_num, by omega, Nat.le_refl _, HN⟩
        · have hlkz : ¬ (k : Int) < (un : Int) := by omega
          obtain rfl : k = un := by omega
          have HN : Hid (SpI B w wr (.slice (some ⟨gv, 0, none⟩) n vc) rvs (spF f mark (i + 1) 0)) := HI.out.congr (fun j _ => spF_next HUL.out j)
          clear HI
          go_wp2
          clear hu2
          go_roundg (n - (i + 1))
          case measure => omega
          case rel => exact ⟨i + 1, by first | rfl | go_num, by omega, Nat.le_refl _, HN⟩
    · have hltz : ¬ (i : Int) < (n : Int) := by omega
      obtain rfl : i = n := by omega
      have HQ0 : Hid (SqI B w wr (.slice vo i vc) rvs (spE f mark) 0) := (HI.out.congr (fun j hj => spF_end (by rw [HRN.out] at hj; exact hj))).on
      have HEL : Hid (∀ j, (spE f mark j).length ≤ 100000) := fun j => by unfold spE; rw [List.length_replicate]; exact HFL.out j
      clear HI
      go_wp2
      go_loopg [7, 8, 9] i (fun g1 v7 _v8 _v9 wr => ∃ j : Nat, v7 = .int .i64 j ∧ j ≤ i ∧ i - j ≤ g1 ∧ Hid (SqI B w wr (.slice vo i vc) rvs (spE f mark) j))
      case atStart => exact ⟨0, rfl, by omega, by omega, HQ0⟩
      case round =>
        clear HQ0
        obtain ⟨j, rfl, hjn, hg2, HQ⟩ := hrel
        by_cases hlj : j < i
        · have hljz : (j : Int) < (i : Int) := by omega
          obtain ⟨gv, hgv⟩ : ∃ g, vo = some ⟨g, 0, none⟩ := by
            obtain ⟨ao, cap, e1, e2, _⟩ := HQ.out.row.sl
            obtain ⟨g, _, e⟩ := e2 (by rw [HRN.out]; omega)
            simp only [Value.slice.injEq] at e1
            exact ⟨g, e1.1.trans e⟩
          subst hgv
          obtain ⟨u, hu⟩ : ∃ u, rvs[j]? = some u := ⟨_, List.getElem?_eq_getElem (by rw [HRN.out]; exact hlj)⟩
          obtain ⟨uo, un, uc, rfl⟩ : ∃ o n c, u = .slice o n c := by obtain ⟨ao, cap, e⟩ := (HQ.out.inn j u hu).sl; exact ⟨_, _, _, e⟩
          have HU : Hid (rvs[j]? = some (.slice uo un uc)) := hu
          have hu2 : wr.cell? ⟨gv, j, none⟩ = some (.slice uo un uc) := (HQ.out.row.cell hu).1
          have HR0 : Hid (SrI B w wr (.slice (some ⟨gv, 0, none⟩) i vc) rvs (spE f mark) j (.slice uo un uc) (.slice uo un uc) 0) := HQ.out.one hu
          clear hu HQ
          go_wp2
          clear hu2
          go_loopg [8, 9] 300 (fun g2 v8 v9 wq => ∃ (k : Nat) (mo : Option Addr) (mn mc : Nat), v9 = .int .i64 k ∧ v8 = .slice mo mn mc ∧ k ≤ 300 ∧ 300 - k ≤ g2 ∧ Hid (SrI B w wq (.slice (some ⟨gv, 0, none⟩) i vc) rvs (spE f mark) j (.slice uo un uc) (.slice mo mn mc) k))
          case atStart => exact ⟨0, uo, un, uc, rfl, rfl, by omega, by omega, HR0⟩
          case round =>
            clear HR0
            obtain ⟨k, mo, mn, mc, rfl, rfl, hkn, hg3, HR⟩ := hrel
            by_cases hlk : k < 300
            · have hlkz : (k : Int) < 300 := by omega
              obtain ⟨WA, hWA⟩ : ∃ W, W = wr.alloc (.cells #[.int .i64 7] 3) := ⟨_, rfl⟩
              obtain ⟨gb, hgb⟩ : ∃ g, g = wr.heap.size := ⟨_, rfl⟩
              have hBA : Below wr.heap.size wr WA := by rw [hWA]; exact belowB _ _
              have HRA : Hid (SrI B w WA (.slice (some ⟨gv, 0, none⟩) i vc) rvs (spE f mark) j (.slice uo un uc) (.slice mo mn mc) k) := HR.out.below hBA
              have HCB : Hid (WA.cell? ⟨gb, 0, none⟩ = some (.int .i64 7)) := by show _ = _; rw [hWA, hgb, World.cell?_alloc_at _ _ _ _ rfl]; rfl
              have HWA : Hid (WA = wr.alloc (.cells #[.int .i64 7] 3)) := hWA
              have HGB : Hid (gb = wr.heap.size) := hgb
              have HLL : Hid ((spE f mark j ++ List.replicate k 7).length ≤ 1000000) := by
                show _ ≤ _
                rw [List.length_append, List.length_replicate]
                have := HEL.out j; omega
              have HBW : Hid (B ≤ WA.heap.size) := Nat.le_trans hB (Nat.le_trans HR.out.rest.frm.size hBA.size)
              clear hWA hgb hBA HR
              go_wp2_with (at_builtin; rw [← HWA.out, ← HGB.out]; refine wpList_pushS _ rfl _ _ 24 rfl B 3 i0 Try.underlying24 hi hz0 hz1 hz2 mo mn mc (spE f mark j ++ List.replicate k 7) rfl HRA.out.pil gb 7 rfl HCB.out HLL.out HBW.out ?_)
              intro ng nc W2 ho hg9 hng hcl
              have HR2 : Hid (SrI B w W2 (.slice (some ⟨gv, 0, none⟩) i vc) rvs (spE f mark) j (.slice uo un uc) (.slice (some ⟨ng, 0, none⟩) (mn + 1) nc) (k + 1)) := HRA.out.push HS.out HU.out (HZ.out j _ HU.out _ _ _ rfl).1 HLT.out (by simpa only [List.append_assoc] using ho) hg9 hng hcl
              clear ho hg9 hng hcl HRA HCB HWA HGB HLL HBW
              go_wp2
              go_roundg (300 - (k + 1))
              case measure => omega
              case rel => exact ⟨k + 1, _, _, _, by first | rfl | go_num, rfl, by omega, Nat.le_refl _, HR2⟩
            · have hlkz : ¬ (k : Int) < 300 := by omega
              have HQ2 : Hid (SqI B w wr (.slice (some ⟨gv, 0, none⟩) i vc) rvs (spE f mark) (j + 1)) := HR.out.rest
              clear HR
              go_wp2
              go_roundg (i - (j + 1))
              case measure => omega
              case rel => exact ⟨j + 1, by first | rfl | go_num, by omega, Nat.le_refl _, HQ2⟩
        · have hljz : ¬ (j : Int) < (i : Int) := by omega
          obtain rfl : j = i := by omega
          have HRW : Hid (OG id B 24 wr (.slice vo j vc) rvs) := HQ.out.row
          have HIN : Hid (∀ (t : Nat) (u : Value), rvs[t]? = some u → RG (Value.int .i64) wr u (spE f mark t)) := HQ.out.inn
          have HFR : Hid (FrP (InR rvs) w wr) := HQ.out.frm
          clear HQ
          go_wp2
          go_loopg [10, 11] j (fun g1 v10 _v11 wz => ∃ t : Nat, v10 = .int .i64 t ∧ t ≤ j ∧ j - t ≤ g1 ∧ wz = wr)
          case atStart => exact ⟨0, rfl, by omega, by omega, rfl⟩
          case round =>
            obtain ⟨t, rfl, htn, hg4, rfl⟩ := hrel
            by_cases hlt2 : t < j
            · have hltz2 : (t : Int) < (j : Int) := by omega
              obtain ⟨gv, hgv⟩ : ∃ g, vo = some ⟨g, 0, none⟩ := by
                obtain ⟨ao, cap, e1, e2, _⟩ := HRW.out.sl
                obtain ⟨g, _, e⟩ := e2 (by rw [HRN.out]; omega)
                simp only [Value.slice.injEq] at e1
                exact ⟨g, e1.1.trans e⟩
              subst hgv
              obtain ⟨u, hu⟩ : ∃ u, rvs[t]? = some u := ⟨_, List.getElem?_eq_getElem (by rw [HRN.out]; exact hlt2)⟩
              have hur := HIN.out t u hu
              obtain ⟨uo, un, uc, rfl⟩ : ∃ o n c, u = .slice o n c := by obtain ⟨ao, cap, e⟩ := hur.sl; exact ⟨_, _, _, e⟩
              have HUR : Hid (RG (Value.int .i64) wr (.slice uo un uc) (spE f mark t)) := hur
              have hu2 : wr.cell? ⟨gv, t, none⟩ = some (.slice uo un uc) := (HRW.out.cell hu).1
              have hun : un ≤ 100000 := by rw [← hur.len]; exact HEL.out t
              clear hu hur
              go_wp2
              go_loopg [11] un (fun g2 v11 wz => ∃ k : Nat, v11 = .int .i64 k ∧ k ≤ un ∧ un - k ≤ g2 ∧ wz = wr)
              case atStart => exact ⟨0, rfl, by omega, by omega, rfl⟩
              case round =>
                obtain ⟨k, rfl, hkn, hg5, rfl⟩ := hrel
                by_cases hlk : k < un
                · have hlkz : (k : Int) < (un : Int) := by omega
                  obtain ⟨x, g, o, hx1, rfl, hx2⟩ := HUR.out.at hlk
                  have hxe : x = mark - (t : Int) := by
                    unfold spE at hx1
                    rw [List.getElem?_replicate] at hx1
                    split at hx1
                    · simp at hx1; omega
                    · simp at hx1
                  have hxb : (x != mark - (t : Int)) = false := by rw [hxe]; simp
                  rw [hxe] at hx2 hxb
                  clear hx1 hxe
                  go_wp2
                  go_roundg (un - (k + 1))
                  case measure => omega
                  case rel => exact ⟨k + 1, by first | rfl | go_num, by omega, Nat.le_refl _, rfl⟩
                · have hlkz : ¬ (k : Int) < (un : Int) := by omega
                  go_wp2
                  go_roundg (j - (t + 1))
                  case measure => omega
                  case rel => exact ⟨t + 1, by first | rfl | go_num, by omega, Nat.le_refl _, rfl⟩
            · have hltz2 : ¬ (t : Int) < (j : Int) := by omega
              go_wp2
              go_ret
              exact ⟨rfl, HFR.out⟩
end Go.Proofs.Ytmgbhbdcnciccaa

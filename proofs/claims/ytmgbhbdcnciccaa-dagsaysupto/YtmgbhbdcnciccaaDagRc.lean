/-
  Proved here: the document's Children, Above, Below.
-/
import Derived.Test.YtmgbhbdcnciccaaDagCl2
import Derived.Test.YtmgbhbdcnciccaaDagDc
import Derived.Test.YtmgbhbdcnciccaaDagXAll
import Derived.Test.YtmgbhbdcnciccaaDagY
namespace Go.Proofs.Ytmgbhbdcnciccaa
set_option linter.unusedVariables false
open Go.RowKit
/-- What the document's Children answers. -/
def RcE (B : Nat) (P : List (List Int)) (n : Nat) (v : Value) (w' : World) : Prop := (ckE P = 0 ∧ ∃ rvs, OG id B 24 w' v rvs ∧ rvs.length = n ∧ ∀ (j : Nat) (u : Value), rvs[j]? = some u → OG (Value.int .i64) B 3 w' u (chF P j n)) ∨ (ckE P ≠ 0 ∧ v = .slice none 0 0)
theorem RcE.rrd {B : Nat} {P : List (List Int)} {n : Nat} {v : Value} {w' : World} (h : RcE B P n v w') : ∃ rvs, RRD w' v rvs (if ckE P = 0 then chL P n else []) := by
  rcases h with ⟨h0, rvs, h1, h2, h3⟩ | ⟨h0, rfl⟩
  · rw [if_pos h0]
    refine ⟨rvs, h1.rg, by rw [h2, chL_len], fun i x hx => ?_⟩
    have hi : i < n := by have := (List.getElem?_eq_some_iff.1 hx).1; omega
    rw [chL_get hi]; exact (h3 i x hx).rg
  · rw [if_neg h0]
    exact ⟨[], RG.nil _, rfl, fun i x h => by simp at h⟩
set_option maxRecDepth 100000 in
set_option maxHeartbeats 6400000 in
theorem refChildrenD (pv : Value) (pvs : List Value) (P : List (List Int)) (w : World) (h : RRD w pv pvs P) (n : Nat) (hn : P.length = n) (hb : n ≤ 100000) :
    Calls Try.prog 45 #[pv] w fun e w' => ∃ o nn cc, e = .returned (.tuple #[.slice o nn cc, .int .i64 (ckE P)]) ∧ RcE w.heap.size P n (.slice o nn cc) w' ∧ Below w.heap.size w w' := by
  obtain ⟨i0, hi, hz0, hz1, hz2⟩ := info_parts Try.infoI
  obtain ⟨i1, hi1, ha0, ha1, ha2⟩ := info_parts Try.infoRD
  have CC : Hid _ := refCheckD pv pvs P w h n hn hb
  obtain ⟨po, pn, pc, rfl⟩ : ∃ o n c, pv = .slice o n c := by obtain ⟨ao, cap, e⟩ := h.out.sl; exact ⟨_, _, _, e⟩
  obtain rfl : pn = n := by rw [← hn, ← h.len, h.out.len]
  have HR : Hid (∀ W, Below w.heap.size w W → RRD W (.slice po pn pc) pvs P) := fun W hW => h.below (Nat.le_refl _) hW
  have HN : Hid (P.length = pn) := hn
  clear h hn
  go_enter Try.func45, Try.ntmps45
  go_wp2_with fail
  refine Calls.mono CC.out ?_
  rintro e y ⟨rfl, hy⟩
  have HB : Hid (Below w.heap.size w y) := hy
  clear CC hy
  obtain ⟨c, hc⟩ : ∃ c, c = ckE P := ⟨_, rfl⟩
  have HC : Hid (ckE P = c) := hc.symm
  rw [← hc]
  clear hc
  by_cases h0 : c = 0
  · subst h0
    go_wp2
    go_loopg [5, 6, 7, 8] pn (fun g1 v5 v6 _v7 _v8 wr => ∃ (p : Nat) (rvs : List Value) (lo : Option Addr) (lc : Nat), v6 = .int .i64 p ∧ v5 = .slice lo p lc ∧ p ≤ pn ∧ pn - p ≤ g1 ∧ Hid (rvs.length = p) ∧ Hid (OG id w.heap.size 24 wr (.slice lo p lc) rvs) ∧ Hid (∀ (j : Nat) (u : Value), rvs[j]? = some u → OG (Value.int .i64) w.heap.size 3 wr u (chF P j pn)) ∧ Hid (Below w.heap.size w wr))
    case atStart => exact ⟨0, [], none, 0, rfl, rfl, by omega, by omega, rfl, OG.nil _ _ _, (fun j u h => by simp at h), HB⟩
    case round =>
      clear HB
      obtain ⟨p, rvs, lo, lc, rfl, rfl, hpn, hg1, HL, HO, HI, HB⟩ := hrel
      by_cases hlt : p < pn
      · have hltz : (p : Int) < (pn : Int) := by omega
        obtain ⟨sz, hsz⟩ : ∃ z, z = wr.heap.size := ⟨_, rfl⟩
        have HC0 : Hid (OG (Value.int .i64) sz 3 wr (.slice none 0 0) (chF P p 0)) := by show OG _ _ _ _ _ _; exact OG.nil _ _ _
        have HSW : Hid (w.heap.size ≤ sz) := by show _ ≤ _; rw [hsz]; exact HB.out.size
        have HLB : Hid (∀ g, Value.ownBlock (.slice lo p lc) = some g → g < sz) := fun g hg => by rw [hsz]; exact (HO.out.lt g hg).2
        have HIB : Hid (∀ (j : Nat) (u : Value), rvs[j]? = some u → ∀ g, u.ownBlock = some g → g < sz) := fun j u hu g hg => by rw [hsz]; exact ((HI.out j u hu).lt g hg).2
        have HS0 : Hid (sz ≤ wr.heap.size) := by show _ ≤ _; rw [hsz]; exact Nat.le_refl _
        clear hsz
        go_wp2
        go_loopg [7, 8] pn (fun g2 v7 v8 wq => ∃ (i : Nat) (co : Option Addr) (cn cc : Nat), v8 = .int .i64 i ∧ v7 = .slice co cn cc ∧ i ≤ pn ∧ pn - i ≤ g2 ∧ Hid (OG (Value.int .i64) sz 3 wq (.slice co cn cc) (chF P p i)) ∧ Hid (OG id w.heap.size 24 wq (.slice lo p lc) rvs) ∧ Hid (∀ (j : Nat) (u : Value), rvs[j]? = some u → OG (Value.int .i64) w.heap.size 3 wq u (chF P j pn)) ∧ Hid (Below w.heap.size w wq) ∧ Hid (sz ≤ wq.heap.size))
        case atStart => exact ⟨0, none, 0, 0, rfl, rfl, by omega, by omega, HC0, HO, HI, HB, HS0⟩
        case round =>
          clear HC0 HO HI HB HS0
          obtain ⟨i, co, cn, cc, rfl, rfl, hin, hg2, HT, HO, HI, HB, HSZ⟩ := hrel
          by_cases hli : i < pn
          · have hliz : (i : Int) < (pn : Int) := by omega
            obtain ⟨x, gp, op, hx1, rfl, hx2⟩ := (HR.out wr HB.out).out.at hli
            have CH : Hid _ := hasD x (P.getD i []) (p : Int) wr ((HR.out wr HB.out).inn i x hx1)
            obtain ⟨xo, xn, xc, rfl⟩ : ∃ o n c, x = .slice o n c := by obtain ⟨ao, cap, e⟩ := ((HR.out wr HB.out).inn i x hx1).sl; exact ⟨_, _, _, e⟩
            have hxc : wr.cell? ⟨gp, op + i, none⟩ = some (.slice xo xn xc) := hx2
            have HCL : Hid ((chF P p i).length ≤ 100000) := by show _ ≤ _; have := chF_len P p i; omega
            obtain ⟨b, hb1⟩ : ∃ b, b = decide ((p : Int) ∈ P.getD i []) := ⟨_, rfl⟩
            have HST : Hid (chF P p (i + 1) = chF P p i ++ if b = true then [(i : Int)] else []) := by
              show _ = _
              rw [chF_succ, hb1]
              by_cases hm : (p : Int) ∈ P.getD i []
              · simp
              · simp
            rw [← hb1] at CH
            clear hx1 hx2 hb1
            go_wp2_with fail
            refine Calls.mono CH.out ?_
            rintro e y2 ⟨rfl, rfl⟩
            clear CH
            rcases b with _ | _
            · have HT2 : Hid (OG (Value.int .i64) sz 3 y2 (.slice co cn cc) (chF P p (i + 1))) := by show OG _ _ _ _ _ _; rw [HST.out]; simpa using HT.out
              clear HT HST
              go_wp2
              clear hxc
              go_roundg (pn - (i + 1))
              case measure => omega
              case rel => exact ⟨i + 1, _, _, _, by first | rfl | go_num, rfl, by omega, Nat.le_refl _, HT2, HO, HI, HB, HSZ⟩
            · obtain ⟨WA, hWA⟩ : ∃ W, W = y2.alloc (.cells #[.int .i64 (i : Int)] 3) := ⟨_, rfl⟩
              obtain ⟨gb, hgb⟩ : ∃ g, g = y2.heap.size := ⟨_, rfl⟩
              have HBA : Hid (Below y2.heap.size y2 WA) := by show Below _ _ _; rw [hWA]; exact belowB _ _
              have HCB : Hid (WA.cell? ⟨gb, 0, none⟩ = some (.int .i64 (i : Int))) := by show _ = _; rw [hWA, hgb, World.cell?_alloc_at _ _ _ _ rfl]; rfl
              have HWA : Hid (WA = y2.alloc (.cells #[.int .i64 (i : Int)] 3)) := hWA
              have HGB : Hid (gb = y2.heap.size) := hgb
              clear hWA hgb
              go_wp2_with (at_builtin; rw [← HWA.out, ← HGB.out]; refine wpList_pushD _ (fun _ => rfl) rfl _ _ 24 rfl sz 3 i0 (.int .i64 0) 8 Try.underlying24 hi hz0 hz1 hz2 rfl _ (chF P p i) rfl (HT.out.below HBA.out) gb (i : Int) rfl HCB.out (by have := HCL.out; unfold maxLen; omega) (by have := HCL.out; omega) (Nat.le_trans HSZ.out HBA.out.size) ?_)
              intro ng tm ncap W2 ho hg9 hng _
              have hsp : ∀ q, q < sz → W2.heap[q]? = y2.heap[q]? := fun q hq => by
                have hq2 : q < y2.heap.size := Nat.lt_of_lt_of_le hq HSZ.out
                rw [← HBA.out.block q hq2]
                exact hg9.block q (Nat.lt_of_lt_of_le hq2 HBA.out.size) (fun e => by have := (HT.out.lt q e.symm).1; omega)
              have HO2 : Hid (OG id w.heap.size 24 W2 (.slice lo p lc) rvs) := HO.out.of_blocks fun q hq => hsp q (HLB.out q hq)
              have HI2 : Hid (∀ (j : Nat) (u : Value), rvs[j]? = some u → OG (Value.int .i64) w.heap.size 3 W2 u (chF P j pn)) := fun j u hu => (HI.out j u hu).of_blocks fun q hq => hsp q (HIB.out j u hu q hq)
              have HB2 : Hid (Below w.heap.size w W2) := by
                show Below _ _ _
                have b1 := HB.out.trans (HBA.out.mono HB.out.size)
                exact ⟨hg9.os.trans b1.os, hg9.tape.trans b1.tape, hg9.output.trans b1.output, Nat.le_trans b1.size hg9.size, fun q hq => (hsp q (Nat.lt_of_lt_of_le hq HSW.out)).trans (HB.out.block q hq)⟩
              have HSZ2 : Hid (sz ≤ W2.heap.size) := Nat.le_trans (Nat.le_trans HSZ.out HBA.out.size) hg9.size
              have HT2 : Hid (OG (Value.int .i64) sz 3 W2 (.slice (some ⟨ng, 0, none⟩) tm ncap) (chF P p (i + 1))) := by show OG _ _ _ _ _ _; rw [HST.out]; exact ho
              clear ho hg9 hng hsp HT HO HI HB HSZ HBA HCB HWA HGB HST HCL
              go_wp2
              clear hxc
              go_roundg (pn - (i + 1))
              case measure => omega
              case rel => exact ⟨i + 1, _, _, _, by first | rfl | go_num, rfl, by omega, Nat.le_refl _, HT2, HO2, HI2, HB2, HSZ2⟩
          · have hliz : ¬ (i : Int) < (pn : Int) := by omega
            obtain rfl : i = pn := by omega
            obtain ⟨WA, hWA⟩ : ∃ W, W = wr.alloc (.cells #[.slice co cn cc] 24) := ⟨_, rfl⟩
            obtain ⟨gb, hgb⟩ : ∃ g, g = wr.heap.size := ⟨_, rfl⟩
            have HBA : Hid (Below wr.heap.size wr WA) := by show Below _ _ _; rw [hWA]; exact belowB _ _
            have HCB : Hid (WA.cell? ⟨gb, 0, none⟩ = some (.slice co cn cc)) := by show _ = _; rw [hWA, hgb, World.cell?_alloc_at _ _ _ _ rfl]; rfl
            have HWA : Hid (WA = wr.alloc (.cells #[.slice co cn cc] 24)) := hWA
            have HGB : Hid (gb = wr.heap.size) := hgb
            have HRL : Hid (rvs.length ≤ 100000) := by show _ ≤ _; rw [HL.out]; omega
            clear hWA hgb
            have HTA : Hid (OG (Value.int .i64) w.heap.size 3 WA (.slice co cn cc) (chF P p i)) := (HT.out.below HBA.out).mono HSW.out
            have HIA : Hid (∀ (j : Nat) (u : Value), rvs[j]? = some u → OG (Value.int .i64) w.heap.size 3 WA u (chF P j i)) := fun j u hu => (HI.out j u hu).below HBA.out
            have HOA : Hid (OG id w.heap.size 24 WA (.slice lo p lc) rvs) := HO.out.below HBA.out
            have HBB : Hid (Below w.heap.size w WA) := HB.out.trans (HBA.out.mono HB.out.size)
            clear HT HO HI HB HBA HSZ HSW HLB HIB
            go_wp2_with (at_builtin; rw [← HWA.out, ← HGB.out]; refine wpList_pushV (enc := id) _ rfl _ _ 23 rfl w.heap.size 24 i1 (.slice none 0 0) 24 Try.underlying23 hi1 ha0 ha1 ha2 rfl _ rvs rfl HOA.out gb (.slice co cn cc) rfl HCB.out rfl (by have := HRL.out; unfold maxLen; omega) (by have := HRL.out; omega) HBB.out.size ?_)
            intro ng tm ncap W2 ho hg9 hng _
            have keep : ∀ (v : Value) (L : List Int), OG (Value.int .i64) w.heap.size 3 WA v L → OG (Value.int .i64) w.heap.size 3 W2 v L := fun v L hv => hv.of_blocks fun q hq => hg9.block q (hv.lt q hq).2 (fun e => hv.neO HOA.out (by decide) hq e.symm)
            have htm : tm = p + 1 := by have := ho.rg.len; rw [List.length_append, HL.out] at this; exact this.symm
            subst htm
            have HO2 : Hid (OG id w.heap.size 24 W2 (.slice (some ⟨ng, 0, none⟩) (p + 1) ncap) (rvs ++ [.slice co cn cc])) := ho
            have HL2 : Hid ((rvs ++ [Value.slice co cn cc]).length = p + 1) := by show _ = _; rw [List.length_append, HL.out]; rfl
            have HI2 : Hid (∀ (j : Nat) (u : Value), (rvs ++ [Value.slice co cn cc])[j]? = some u → OG (Value.int .i64) w.heap.size 3 W2 u (chF P j i)) := fun j u hu => by
              by_cases hj : j < rvs.length
              · rw [List.getElem?_append_left hj] at hu
                exact keep u _ (HIA.out j u hu)
              · rw [List.getElem?_append_right (by omega)] at hu
                have hj2 : j = p := by
                  have := (List.getElem?_eq_some_iff.1 hu).1
                  have h3 := HL.out
                  simp at this; omega
                subst hj2
                rw [HL.out, Nat.sub_self] at hu
                simp only [List.getElem?_cons_zero, Option.some.injEq] at hu
                subst hu
                exact keep _ _ HTA.out
            have HB2 : Hid (Below w.heap.size w W2) := ⟨hg9.os.trans HBB.out.os, hg9.tape.trans HBB.out.tape, hg9.output.trans HBB.out.output, Nat.le_trans HBB.out.size hg9.size, fun q hq => (hg9.block q (Nat.lt_of_lt_of_le hq HBB.out.size) (fun e => by have := (HOA.out.lt q e.symm).1; omega)).trans (HBB.out.block q hq)⟩
            clear ho hg9 hng keep HTA HIA HOA HBB HCB HWA HGB HRL HL
            go_wp2
            go_roundg (i - (p + 1))
            case measure => omega
            case rel => exact ⟨p + 1, _, _, _, by first | rfl | go_num, rfl, by omega, Nat.le_refl _, HL2, HO2, HI2, HB2⟩
      · have hltz : ¬ (p : Int) < (pn : Int) := by omega
        obtain rfl : p = pn := by omega
        have HE : Hid (RcE w.heap.size P p (.slice lo p lc) wr) := Or.inl ⟨HC.out, rvs, HO.out, HL.out, HI.out⟩
        clear HO HI
        go_wp2
        go_ret2
        exact ⟨_, _, _, by rw [HC.out]; rfl, HE.out, HB.out⟩
  · have hcz : (c != (0 : Int)) = true := by simpa using h0
    have HE : Hid (RcE w.heap.size P pn (.slice none 0 0) y) := Or.inr ⟨by rw [HC.out]; exact h0, rfl⟩
    clear h0
    go_wp2
    go_ret2
    exact ⟨_, _, _, by rw [HC.out]; rfl, HE.out, HB.out⟩
end Go.Proofs.Ytmgbhbdcnciccaa

/-
  Proved here: layer 16's law: mended (parents that may be, out of any: each point hangs on points ahead of it).
-/
import Derived.Test.YtcoiapgfaibkgaaGreatSpB1All
namespace Go.Proofs.YtcoiapgfaibkgaaGreat
set_option linter.unusedVariables false
open Go.RowKit
/-- A point's parents lie ahead of it, none twice. -/
def MnL (i : Nat) (M : List Int) : Prop := M.Nodup ∧ ∀ x ∈ M, ∃ p : Nat, x = (p : Int) ∧ p < i
theorem MnL.nil (i : Nat) : MnL i [] := ⟨List.nodup_nil, fun x hx => by simp at hx⟩
theorem MnL.snoc {i : Nat} {M : List Int} (h : MnL i M) {r : Int} (h0 : 0 ≤ r) (h1 : r < (i : Int)) (hn : r ∉ M) : MnL i (M ++ [r]) := by
  refine ⟨List.nodup_append.2 ⟨h.1, by simp, fun a ha b hb e => ?_⟩, fun x hx => ?_⟩
  · have e2 : b = r := by simpa using hb
    rw [e, e2] at ha
    exact hn ha
  · rcases List.mem_append.1 hx with h2 | h2
    · exact h.2 x h2
    · have e : x = r := by simpa using h2
      subst e
      exact ⟨x.toNat, by omega, by omega⟩
structure MnI (B : Nat) (w w' : World) (P : List (List Int)) (v : Value) (vs : List Value) : Prop where
  frm : Below B w w'
  row : OG id B 23 w' v vs
  len : vs.length = P.length
  inn : ∀ (j : Nat) (u : Value), vs[j]? = some u → OG (Value.int .i64) B 3 w' u (P.getD j [])
  mnd : ∀ j, MnL j (P.getD j [])
theorem MnI.below {B : Nat} {w w1 w2 : World} {P : List (List Int)} {v : Value} {vs : List Value} (h : MnI B w w1 P v vs) (hB : B ≤ w1.heap.size) (hb : Below w1.heap.size w1 w2) : MnI B w w2 P v vs :=
  ⟨h.frm.trans (hb.mono hB), h.row.below hb, h.len, fun j u hu => (h.inn j u hu).below hb, h.mnd⟩
theorem MnI.rrd {B : Nat} {w w' : World} {P : List (List Int)} {v : Value} {vs : List Value} (h : MnI B w w' P v vs) : RRD w' v vs P := ⟨h.row.rg, h.len, fun j u hu => (h.inn j u hu).rg⟩
theorem MnI.push {B : Nat} {w W W2 : World} {P : List (List Int)} {v v' u : Value} {vs : List Value} {M : List Int} (h : MnI B w W P v vs) (hB : B ≤ W.heap.size) (hu : OG (Value.int .i64) B 3 W u M) (hM : MnL P.length M) (ho : OG id B 23 W2 v' (vs ++ [u])) (hg : W.grownBy W2 v.ownBlock) : MnI B w W2 (P ++ [M]) v' (vs ++ [u]) := by
  have hlen := h.len
  have stay : ∀ (x : Value) (L : List Int), OG (Value.int .i64) B 3 W x L → OG (Value.int .i64) B 3 W2 x L := fun x L hxx => hxx.of_blocks fun q hq => hg.block q (hxx.lt q hq).2 (fun e => OG.neO hxx h.row (by decide) hq e.symm)
  have get : ∀ j, j < P.length → (P ++ [M]).getD j [] = P.getD j [] := fun j hj => by rw [List.getD_eq_getElem?_getD, List.getD_eq_getElem?_getD, List.getElem?_append_left hj]
  have get2 : (P ++ [M]).getD P.length [] = M := by rw [List.getD_eq_getElem?_getD, List.getElem?_append_right (Nat.le_refl _), Nat.sub_self]; rfl
  refine ⟨h.row.grown h.frm hB hg, ho, by rw [List.length_append, List.length_append, hlen]; rfl, fun j x hx => ?_, fun j => ?_⟩
  · by_cases e : j < vs.length
    · rw [List.getElem?_append_left e] at hx
      rw [get j (by omega)]
      exact stay _ _ (h.inn j x hx)
    · have h1 := (List.getElem?_eq_some_iff.1 hx).1
      rw [List.length_append, List.length_singleton] at h1
      have e1 : j = vs.length := by omega
      subst e1
      rw [List.getElem?_append_right (Nat.le_refl _), Nat.sub_self] at hx
      have e2 : u = x := by simpa using hx
      subst e2
      rw [hlen, get2]
      exact stay _ _ hu
  · by_cases e : j < P.length
    · rw [get j e]; exact h.mnd j
    · by_cases e2 : j = P.length
      · rw [e2, get2]; exact hM
      · rw [List.getD_eq_getElem?_getD, List.getElem?_eq_none (by rw [List.length_append, List.length_singleton]; omega)]
        exact MnL.nil j
set_option maxRecDepth 1000000 in
set_option maxHeartbeats 12800000 in
theorem mended16 (pv : Value) (pvs : List Value) (P0 : List (List Int)) (w : World) (h : RRD w pv pvs P0) (hbl : ∀ i, (P0.getD i []).length ≤ 1048576) :
    Calls Tryz.prog 22 #[pv] w fun e w' => ∃ v vs P, e = .returned v ∧ P.length ≤ 30 ∧ MnI w.heap.size w w' P v vs := by
  obtain ⟨i0, hi, hz0, hz1, hz2⟩ := info_parts Tryz.infoI
  obtain ⟨i1, hi1, ha0, ha1, ha2⟩ := info_parts Tryz.infoRD
  obtain ⟨po, pn, pc, rfl⟩ : ∃ o n c, pv = .slice o n c := by obtain ⟨ao, cap, e⟩ := h.out.sl; exact ⟨_, _, _, e⟩
  have hpn : pn ≤ 9223372036854775807 := by have := h.out.room.2.1; have := h.out.room.1; unfold maxLen at *; omega
  have HR : Hid (RRD w (.slice po pn pc) pvs P0) := h
  clear h hbl
  go_enter Tryz.func22, Tryz.ntmps22
  go_wp2
  go_loopg [3, 4, 5, 6, 7, 8, 9] 30 (fun g1 v3 v4 _v5 _v6 _v7 _v8 _v9 wr => ∃ (i : Nat) (oo : Option Addr) (on oc : Nat) (vs : List Value) (P : List (List Int)), v3 = .slice oo on oc ∧ v4 = .int .i64 i ∧ i ≤ pn ∧ i ≤ 30 ∧ 30 - i ≤ g1 ∧ P.length = i ∧ Hid (MnI w.heap.size w wr P (.slice oo on oc) vs))
  case atStart => exact ⟨0, none, 0, 0, [], [], rfl, rfl, Nat.zero_le _, by omega, by omega, rfl, ⟨Below.refl _ _, OG.nil _ _ _, rfl, fun j u hu => by simp at hu, fun j => by simpa using MnL.nil j⟩⟩
  case round =>
    obtain ⟨i, oo, on, oc, vs, P, rfl, rfl, hin, hi30, hg1, hPl, HI⟩ := hrel
    by_cases hlt : i < pn
    · have hltz : (i : Int) < (pn : Int) := by omega
      by_cases h30 : i < 30
      · have h30z : (i : Int) < 30 := by omega
        obtain ⟨u, gp, op, hu1, rfl, hu0⟩ := HR.out.out.at hlt
        have hur := HR.out.inn i u hu1
        obtain ⟨uo, un, uc, rfl⟩ : ∃ o n c, u = .slice o n c := by obtain ⟨ao, cap, e⟩ := hur.sl; exact ⟨_, _, _, e⟩
        change w.cell? ⟨gp, op + i, none⟩ = some (.slice uo un uc) at hu0
        obtain ⟨w0, rfl⟩ : ∃ W, W = wr := ⟨_, rfl⟩
        have H0 : Hid (MnI w.heap.size w w0 P (.slice oo on oc) vs) := HI
        have HU0 : Hid (w.cell? ⟨gp, op + i, none⟩ = some (.slice uo un uc)) := hu0
        have HUR : Hid (RG (Value.int .i64) w (.slice uo un uc) (P0.getD i [])) := hur
        have HPL : Hid (P.length = i) := hPl
        clear hu1 hur hu0 hPl HI
        go_wp2
        go_loopg [5, 6, 7, 8, 9] 4 (fun g2 v5 v6 _v7 _v8 _v9 wy => ∃ (k : Nat) (lo : Option Addr) (ln lc : Nat) (M : List Int), v5 = .slice lo ln lc ∧ v6 = .int .i64 k ∧ k ≤ 4 ∧ 4 - k ≤ g2 ∧ M.length ≤ k ∧ Hid (OG (Value.int .i64) w0.heap.size 3 wy (.slice lo ln lc) M) ∧ Hid (MnL i M) ∧ Hid (Below w0.heap.size w0 wy))
        case atStart => exact ⟨0, none, 0, 0, [], rfl, rfl, by omega, by omega, by simp, OG.nil _ _ _, MnL.nil i, Below.refl _ _⟩
        case round =>
          obtain ⟨k, lo, ln, lc, M, rfl, rfl, hk4, hg2, hMl, HM, HMN, HB⟩ := hrel
          have BWR : Hid (Below w.heap.size w wr) := bstepB H0.out.frm HB.out
          have hu2 : wr.cell? ⟨gp, op + i, none⟩ = some (.slice uo un uc) := keepR BWR.out HU0.out
          by_cases hc : k < un ∧ k < 4 ∧ 0 < i
          · obtain ⟨hc1, hc2, hc3⟩ := hc
            have hc1z : (k : Int) < (un : Int) := by omega
            have hc2z : (k : Int) < 4 := by omega
            have hc3z : (0 : Int) < (i : Int) := by omega
            have hc3n : ¬ ((i : Int) = 0) := by omega
            obtain ⟨x, gx, ox, hx1, rfl, hx0⟩ := HUR.out.at hc1
            have hx2 : wr.cell? ⟨gx, ox + k, none⟩ = some (.int .i64 x) := keepR BWR.out hx0
            obtain ⟨r, hr⟩ : ∃ r, x.tmod (i : Int) = r := ⟨_, rfl⟩
            have hr1 : r < (i : Int) := by rw [← hr]; exact Int.tmod_lt_of_pos x hc3z
            have hr2 : -(i : Int) < r := by
              have h1 := Int.tmod_lt_of_pos (-x) hc3z
              rw [Int.neg_tmod] at h1
              omega
            have hrw : IntKind.i64.wrap r = r := by rw [IntKind.wrap_i64]; omega
            clear hx1 hx0
            by_cases hneg : r < 0
            · obtain ⟨s, hs⟩ : ∃ s, r + (i : Int) = s := ⟨_, rfl⟩
              have hs0 : 0 ≤ s := by omega
              have hs1 : s < (i : Int) := by omega
              have hsw : IntKind.i64.wrap s = s := by rw [IntKind.wrap_i64]; omega
              go_wp2
              clear hx2
              go_loopg [8, 9] k (fun g3 v8 v9 wz => ∃ (j : Nat) (b : Bool), v8 = .bool b ∧ v9 = .int .i64 j ∧ j ≤ M.length ∧ M.length - j ≤ g3 ∧ Hid (b = decide (s ∈ M.take j)) ∧ wz = wr)
              case atStart => exact ⟨0, false, rfl, rfl, Nat.zero_le _, by omega, (by show _ = _; simp), rfl⟩
              case round =>
                obtain ⟨j, b, rfl, rfl, hjM, hg3, HBJ, rfl⟩ := hrel
                obtain ⟨lo2, lc2, hle, hlo, -⟩ := HM.out.sl
                simp only [Value.slice.injEq] at hle
                obtain ⟨rfl, hln, rfl⟩ := hle
                have hlnl : ln ≤ 4 := by omega
                by_cases hjl : j < ln
                · have hjz : (j : Int) < (ln : Int) := by omega
                  obtain ⟨gl, -, rfl⟩ := hlo (by omega)
                  obtain ⟨y, hy⟩ : ∃ y, M[j]? = some y := ⟨_, List.getElem?_eq_getElem (by omega)⟩
                  obtain ⟨cy, -⟩ := HM.out.cell hy
                  have HST : Hid (decide (s ∈ M.take (j + 1)) = (b || (y == s))) := by
                    show _ = _
                    rw [HBJ.out, List.take_add_one, hy]
                    have e1 : (s ∈ M.take j ++ (some y).toList) ↔ (s ∈ M.take j ∨ y = s) := by rw [Option.toList_some, List.mem_append, List.mem_singleton]; exact or_congr Iff.rfl eq_comm
                    rw [decide_eq_decide.2 e1, Bool.decide_or]
                    rfl
                  have hj2 : j < M.length := by omega
                  clear hy HBJ hln hlo
                  cases b with
                  | true =>
                    rw [Bool.true_or] at HST
                    go_wp2
                    clear cy
                    go_roundg (M.length - (j + 1))
                    case measure => omega
                    case rel => exact ⟨j + 1, true, rfl, by go_num, by omega, Nat.le_refl _, HST.out.symm, rfl⟩
                  | false =>
                    rw [Bool.false_or] at HST
                    go_wp2
                    clear cy
                    go_roundg (M.length - (j + 1))
                    case measure => omega
                    case rel => exact ⟨j + 1, y == s, rfl, by go_num, by omega, Nat.le_refl _, HST.out.symm, rfl⟩
                · have hjz : ¬ (j : Int) < (ln : Int) := by omega
                  have HB2 : Hid (b = decide (s ∈ M)) := by show _ = _; rw [HBJ.out, List.take_of_length_le (by omega)]
                  clear hlo hln HBJ
                  cases b with
                  | true =>
                    clear HB2
                    go_wp2
                    go_roundg (4 - (k + 1))
                    case measure => omega
                    case rel => exact ⟨k + 1, _, _, _, _, rfl, by go_num, by omega, Nat.le_refl _, by omega, HM, HMN, HB⟩
                  | false =>
                    have HNI : Hid (s ∉ M) := of_decide_eq_false HB2.out.symm
                    obtain ⟨WA, hWA⟩ : ∃ W, W = wr.alloc (.cells #[.int .i64 s] 3) := ⟨_, rfl⟩
                    obtain ⟨gb, hgb⟩ : ∃ g, g = wr.heap.size := ⟨_, rfl⟩
                    have HBA : Hid (Below wr.heap.size wr WA) := by show Below _ _ _; rw [hWA]; exact belowB _ _
                    have HCB : Hid (WA.cell? ⟨gb, 0, none⟩ = some (.int .i64 s)) := by show _ = _; rw [hWA, hgb, World.cell?_alloc_at _ _ _ _ rfl]; rfl
                    have HWA : Hid (WA = wr.alloc (.cells #[.int .i64 s] 3)) := hWA
                    have HGB : Hid (gb = wr.heap.size) := hgb
                    have HBB : Hid (Below w0.heap.size w0 WA) := bstepB HB.out HBA.out
                    have HMA : Hid (OG (Value.int .i64) w0.heap.size 3 WA (.slice lo ln lc) M) := HM.out.below HBA.out
                    have HMN2 : Hid (MnL i (M ++ [s])) := HMN.out.snoc (by omega) (by omega) HNI.out
                    have hM2 : (M ++ [s]).length ≤ k + 1 := by rw [List.length_append, List.length_singleton]; omega
                    clear hWA hgb HB2 HM HB HNI BWR
                    go_wp2_with (at_builtin; rw [← HWA.out, ← HGB.out]; refine wpList_pushV (enc := Value.int .i64) _ rfl _ _ 23 rfl w0.heap.size 3 i0 (.int .i64 0) 8 Tryz.underlying23 hi hz0 hz1 hz2 rfl _ M rfl HMA.out gb s rfl HCB.out rfl (by unfold maxLen; omega) (by omega) HBB.out.size ?_)
                    intro ng tm ncap W2 ho hg3' hng _
                    have HM2 : Hid (OG (Value.int .i64) w0.heap.size 3 W2 (.slice (some ⟨ng, 0, none⟩) tm ncap) (M ++ [s])) := ho
                    have HB2 : Hid (Below w0.heap.size w0 W2) := HMA.out.grown HBB.out HBB.out.size hg3'
                    clear ho hg3' hng HMA HBB HCB HWA HGB HBA
                    go_wp2
                    go_roundg (4 - (k + 1))
                    case measure => omega
                    case rel => exact ⟨k + 1, _, _, _, _, rfl, by go_num, by omega, Nat.le_refl _, hM2, HM2, HMN2, HB2⟩
            · have hr0 : 0 ≤ r := by omega
              go_wp2
              clear hx2
              go_loopg [8, 9] k (fun g3 v8 v9 wz => ∃ (j : Nat) (b : Bool), v8 = .bool b ∧ v9 = .int .i64 j ∧ j ≤ M.length ∧ M.length - j ≤ g3 ∧ Hid (b = decide (r ∈ M.take j)) ∧ wz = wr)
              case atStart => exact ⟨0, false, rfl, rfl, Nat.zero_le _, by omega, (by show _ = _; simp), rfl⟩
              case round =>
                obtain ⟨j, b, rfl, rfl, hjM, hg3, HBJ, rfl⟩ := hrel
                obtain ⟨lo2, lc2, hle, hlo, -⟩ := HM.out.sl
                simp only [Value.slice.injEq] at hle
                obtain ⟨rfl, hln, rfl⟩ := hle
                have hlnl : ln ≤ 4 := by omega
                by_cases hjl : j < ln
                · have hjz : (j : Int) < (ln : Int) := by omega
                  obtain ⟨gl, -, rfl⟩ := hlo (by omega)
                  obtain ⟨y, hy⟩ : ∃ y, M[j]? = some y := ⟨_, List.getElem?_eq_getElem (by omega)⟩
                  obtain ⟨cy, -⟩ := HM.out.cell hy
                  have HST : Hid (decide (r ∈ M.take (j + 1)) = (b || (y == r))) := by
                    show _ = _
                    rw [HBJ.out, List.take_add_one, hy]
                    have e1 : (r ∈ M.take j ++ (some y).toList) ↔ (r ∈ M.take j ∨ y = r) := by rw [Option.toList_some, List.mem_append, List.mem_singleton]; exact or_congr Iff.rfl eq_comm
                    rw [decide_eq_decide.2 e1, Bool.decide_or]
                    rfl
                  have hj2 : j < M.length := by omega
                  clear hy HBJ hln hlo
                  cases b with
                  | true =>
                    rw [Bool.true_or] at HST
                    go_wp2
                    clear cy
                    go_roundg (M.length - (j + 1))
                    case measure => omega
                    case rel => exact ⟨j + 1, true, rfl, by go_num, by omega, Nat.le_refl _, HST.out.symm, rfl⟩
                  | false =>
                    rw [Bool.false_or] at HST
                    go_wp2
                    clear cy
                    go_roundg (M.length - (j + 1))
                    case measure => omega
                    case rel => exact ⟨j + 1, y == r, rfl, by go_num, by omega, Nat.le_refl _, HST.out.symm, rfl⟩
                · have hjz : ¬ (j : Int) < (ln : Int) := by omega
                  have HB2 : Hid (b = decide (r ∈ M)) := by show _ = _; rw [HBJ.out, List.take_of_length_le (by omega)]
                  clear hlo hln HBJ
                  cases b with
                  | true =>
                    clear HB2
                    go_wp2
                    go_roundg (4 - (k + 1))
                    case measure => omega
                    case rel => exact ⟨k + 1, _, _, _, _, rfl, by go_num, by omega, Nat.le_refl _, by omega, HM, HMN, HB⟩
                  | false =>
                    have HNI : Hid (r ∉ M) := of_decide_eq_false HB2.out.symm
                    obtain ⟨WA, hWA⟩ : ∃ W, W = wr.alloc (.cells #[.int .i64 r] 3) := ⟨_, rfl⟩
                    obtain ⟨gb, hgb⟩ : ∃ g, g = wr.heap.size := ⟨_, rfl⟩
                    have HBA : Hid (Below wr.heap.size wr WA) := by show Below _ _ _; rw [hWA]; exact belowB _ _
                    have HCB : Hid (WA.cell? ⟨gb, 0, none⟩ = some (.int .i64 r)) := by show _ = _; rw [hWA, hgb, World.cell?_alloc_at _ _ _ _ rfl]; rfl
                    have HWA : Hid (WA = wr.alloc (.cells #[.int .i64 r] 3)) := hWA
                    have HGB : Hid (gb = wr.heap.size) := hgb
                    have HBB : Hid (Below w0.heap.size w0 WA) := bstepB HB.out HBA.out
                    have HMA : Hid (OG (Value.int .i64) w0.heap.size 3 WA (.slice lo ln lc) M) := HM.out.below HBA.out
                    have HMN2 : Hid (MnL i (M ++ [r])) := HMN.out.snoc (by omega) (by omega) HNI.out
                    have hM2 : (M ++ [r]).length ≤ k + 1 := by rw [List.length_append, List.length_singleton]; omega
                    clear hWA hgb HB2 HM HB HNI BWR
                    go_wp2_with (at_builtin; rw [← HWA.out, ← HGB.out]; refine wpList_pushV (enc := Value.int .i64) _ rfl _ _ 23 rfl w0.heap.size 3 i0 (.int .i64 0) 8 Tryz.underlying23 hi hz0 hz1 hz2 rfl _ M rfl HMA.out gb r rfl HCB.out rfl (by unfold maxLen; omega) (by omega) HBB.out.size ?_)
                    intro ng tm ncap W2 ho hg3' hng _
                    have HM2 : Hid (OG (Value.int .i64) w0.heap.size 3 W2 (.slice (some ⟨ng, 0, none⟩) tm ncap) (M ++ [r])) := ho
                    have HB2 : Hid (Below w0.heap.size w0 W2) := HMA.out.grown HBB.out HBB.out.size hg3'
                    clear ho hg3' hng HMA HBB HCB HWA HGB HBA
                    go_wp2
                    go_roundg (4 - (k + 1))
                    case measure => omega
                    case rel => exact ⟨k + 1, _, _, _, _, rfl, by go_num, by omega, Nat.le_refl _, hM2, HM2, HMN2, HB2⟩
          · have HI2 : Hid (MnI w.heap.size w wr P (.slice oo on oc) vs) := H0.out.below H0.out.frm.size HB.out
            have HM2 : Hid (OG (Value.int .i64) w.heap.size 3 wr (.slice lo ln lc) M) := HM.out.mono H0.out.frm.size
            obtain ⟨WA, hWA⟩ : ∃ W, W = wr.alloc (.cells #[.slice lo ln lc] 23) := ⟨_, rfl⟩
            obtain ⟨gb, hgb⟩ : ∃ g, g = wr.heap.size := ⟨_, rfl⟩
            have hBA : Below wr.heap.size wr WA := by rw [hWA]; exact belowB _ _
            have HIA : Hid (MnI w.heap.size w WA P (.slice oo on oc) vs) := HI2.out.below HI2.out.frm.size hBA
            have HMA : Hid (OG (Value.int .i64) w.heap.size 3 WA (.slice lo ln lc) M) := HM2.out.below hBA
            have HCB : Hid (WA.cell? ⟨gb, 0, none⟩ = some (id (.slice lo ln lc))) := by show _ = _; rw [hWA, hgb, World.cell?_alloc_at _ _ _ _ rfl]; rfl
            have HWA : Hid (WA = wr.alloc (.cells #[.slice lo ln lc] 23)) := hWA
            have HGB : Hid (gb = wr.heap.size) := hgb
            clear hWA hgb hBA HI2 HM2 HB HM BWR
            by_cases h1 : k < un
            · have h1z : (k : Int) < (un : Int) := by omega
              by_cases h2 : k < 4
              · have h2z : (k : Int) < 4 := by omega
                have h3z : ¬ (0 : Int) < (i : Int) := by omega
                go_wp2_with (at_builtin; rw [← HWA.out, ← HGB.out]; refine wpList_pushV (enc := id) _ rfl _ _ 22 rfl w.heap.size 23 i1 (.slice none 0 0) 24 Tryz.underlying22 hi1 ha0 ha1 ha2 rfl _ vs rfl HIA.out.row gb (.slice lo ln lc) rfl HCB.out rfl (by have := HIA.out.len; have := HPL.out; unfold maxLen; omega) (by have := HIA.out.len; have := HPL.out; omega) HIA.out.frm.size ?_)
                intro ng tm ncap W2 ho hg3 hng _
                have HI3 : Hid (MnI w.heap.size w W2 (P ++ [M]) (.slice (some ⟨ng, 0, none⟩) tm ncap) (vs ++ [.slice lo ln lc])) := HIA.out.push HIA.out.frm.size HMA.out (by rw [HPL.out]; exact HMN.out) ho hg3
                have hP2 : (P ++ [M]).length = i + 1 := by rw [List.length_append, HPL.out]; rfl
                clear ho hg3 hng HIA HMA HCB HWA HGB HMN
                go_wp2
                go_roundg (30 - (i + 1))
                case measure => omega
                case rel => exact ⟨i + 1, _, _, _, _, _, rfl, by go_num, by omega, by omega, Nat.le_refl _, hP2, HI3⟩
              · have h2z : ¬ (k : Int) < 4 := by omega
                go_wp2_with (at_builtin; rw [← HWA.out, ← HGB.out]; refine wpList_pushV (enc := id) _ rfl _ _ 22 rfl w.heap.size 23 i1 (.slice none 0 0) 24 Tryz.underlying22 hi1 ha0 ha1 ha2 rfl _ vs rfl HIA.out.row gb (.slice lo ln lc) rfl HCB.out rfl (by have := HIA.out.len; have := HPL.out; unfold maxLen; omega) (by have := HIA.out.len; have := HPL.out; omega) HIA.out.frm.size ?_)
                intro ng tm ncap W2 ho hg3 hng _
                have HI3 : Hid (MnI w.heap.size w W2 (P ++ [M]) (.slice (some ⟨ng, 0, none⟩) tm ncap) (vs ++ [.slice lo ln lc])) := HIA.out.push HIA.out.frm.size HMA.out (by rw [HPL.out]; exact HMN.out) ho hg3
                have hP2 : (P ++ [M]).length = i + 1 := by rw [List.length_append, HPL.out]; rfl
                clear ho hg3 hng HIA HMA HCB HWA HGB HMN
                go_wp2
                go_roundg (30 - (i + 1))
                case measure => omega
                case rel => exact ⟨i + 1, _, _, _, _, _, rfl, by go_num, by omega, by omega, Nat.le_refl _, hP2, HI3⟩
            · have h1z : ¬ (k : Int) < (un : Int) := by omega
              go_wp2_with (at_builtin; rw [← HWA.out, ← HGB.out]; refine wpList_pushV (enc := id) _ rfl _ _ 22 rfl w.heap.size 23 i1 (.slice none 0 0) 24 Tryz.underlying22 hi1 ha0 ha1 ha2 rfl _ vs rfl HIA.out.row gb (.slice lo ln lc) rfl HCB.out rfl (by have := HIA.out.len; have := HPL.out; unfold maxLen; omega) (by have := HIA.out.len; have := HPL.out; omega) HIA.out.frm.size ?_)
              intro ng tm ncap W2 ho hg3 hng _
              have HI3 : Hid (MnI w.heap.size w W2 (P ++ [M]) (.slice (some ⟨ng, 0, none⟩) tm ncap) (vs ++ [.slice lo ln lc])) := HIA.out.push HIA.out.frm.size HMA.out (by rw [HPL.out]; exact HMN.out) ho hg3
              have hP2 : (P ++ [M]).length = i + 1 := by rw [List.length_append, HPL.out]; rfl
              clear ho hg3 hng HIA HMA HCB HWA HGB HMN
              go_wp2
              go_roundg (30 - (i + 1))
              case measure => omega
              case rel => exact ⟨i + 1, _, _, _, _, _, rfl, by go_num, by omega, by omega, Nat.le_refl _, hP2, HI3⟩
      · have h30z : ¬ (i : Int) < 30 := by omega
        go_wp2
        go_ret
        exact ⟨_, rfl, _, P, by omega, HI.out⟩
    · have hltz : ¬ (i : Int) < (pn : Int) := by omega
      go_wp2
      go_ret
      exact ⟨_, rfl, _, P, by omega, HI.out⟩
end Go.Proofs.YtcoiapgfaibkgaaGreat

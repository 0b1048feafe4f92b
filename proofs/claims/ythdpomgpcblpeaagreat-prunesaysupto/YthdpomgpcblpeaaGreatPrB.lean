/-
  Proved here: package prune's leaveOut and withNew.
-/
import Derived.Test.YthdpomgpcblpeaaGreatPrMAll
import Derived.Test.YthdpomgpcblpeaaGreatSpKAll
import Derived.Test.YthdpomgpcblpeaaGreatDagKAll
namespace Go.Proofs.YthdpomgpcblpeaaGreat
set_option linter.unusedVariables false
open Go.RowKit Go.Shelf Go.Sort Go.Lib
/-- The points that no way leaves out. -/
def lvL (n : Nat) (ps : List (Nat → Bool)) : List Int := ((List.range n).filter fun k => !anyW ps k).map Int.ofNat
theorem lvL_yes {k : Nat} {ps : List (Nat → Bool)} (h : anyW ps k = true) : lvL (k + 1) ps = lvL k ps := by
  unfold lvL
  rw [List.range_succ, List.filter_append, List.map_append]
  simp [h]
theorem lvL_no {k : Nat} {ps : List (Nat → Bool)} (h : anyW ps k = false) : lvL (k + 1) ps = lvL k ps ++ [(k : Int)] := by
  unfold lvL
  rw [List.range_succ, List.filter_append, List.map_append]
  simp [h]
theorem lvL_len (n : Nat) (ps : List (Nat → Bool)) : (lvL n ps).length ≤ n := by
  unfold lvL
  rw [List.length_map]
  exact Nat.le_trans (List.length_filter_le _ _) (by rw [List.length_range]; exact Nat.le_refl _)
theorem lvL_mem {n : Nat} {ps : List (Nat → Bool)} {x : Int} : x ∈ lvL n ps ↔ ∃ k : Nat, x = (k : Int) ∧ k < n ∧ anyW ps k = false := by
  unfold lvL
  rw [List.mem_map]
  constructor
  · rintro ⟨k, hk, rfl⟩
    rw [List.mem_filter, List.mem_range] at hk
    exact ⟨k, rfl, hk.1, by simpa using hk.2⟩
  · rintro ⟨k, rfl, hk, ha⟩
    exact ⟨k, by rw [List.mem_filter, List.mem_range]; exact ⟨hk, by simp [ha]⟩, rfl⟩
theorem lvL_rise (n : Nat) (ps : List (Nat → Bool)) : Rise (lvL n ps) := by
  unfold lvL Rise
  refine List.pairwise_map.2 (List.Pairwise.filter _ ((List.pairwise_lt_range).imp fun h => ?_))
  exact Int.ofNat_lt.2 h
set_option maxRecDepth 1000000 in
set_option maxHeartbeats 3200000 in
theorem leaveOutS (po : Option Addr) (n pc : Nat) (hn : n ≤ 100000) (v : Value) (vs : List Value) (ps : List (Nat → Bool)) (w : World) (h : WaysB w v vs ps) :
    Calls Tryz.prog 23 #[.slice po n pc, v] w fun e w' => ∃ u, e = .returned u ∧ OG (Value.int .i64) w.heap.size 3 w' u (lvL n ps) ∧ Below w.heap.size w w' := by
  obtain ⟨i0, hi, hz0, hz1, hz2⟩ := info_parts Tryz.infoI
  obtain ⟨vo, vn, vc, rfl⟩ : ∃ o n c, v = .slice o n c := by obtain ⟨ao, cap, e⟩ := h.row.sl; exact ⟨_, _, _, e⟩
  have HR : Hid (∀ W, Below w.heap.size w W → WaysB W (.slice vo vn vc) vs ps) := fun W hW => h.below hW
  clear h
  go_enter Tryz.func23, Tryz.ntmps23
  go_wp2
  go_loopg [5, 6, 9] n (fun g1 v5 _v6 v9 wr => ∃ (k : Nat) (lo : Option Addr) (ln lc : Nat), v5 = .slice lo ln lc ∧ v9 = .int .i64 k ∧ k ≤ n ∧ n - k ≤ g1 ∧ Hid (OG (Value.int .i64) w.heap.size 3 wr (.slice lo ln lc) (lvL k ps)) ∧ Hid (Below w.heap.size w wr))
  case atStart => exact ⟨0, none, 0, 0, rfl, rfl, Nat.zero_le _, by omega, OG.nil _ _ _, Below.refl _ _⟩
  case round =>
    obtain ⟨k, lo, ln, lc, rfl, rfl, hkn, hg1, HO, HB⟩ := hrel
    by_cases hlt : k < n
    · have hltz : (k : Int) < (n : Int) := by omega
      obtain ⟨W1, hW1⟩ : ∃ W, W = wr.alloc (.cells #[.int .i64 (k : Int)] 3) := ⟨_, rfl⟩
      obtain ⟨gx, hgx⟩ : ∃ g, g = wr.heap.size := ⟨_, rfl⟩
      have hb1 : Below wr.heap.size wr W1 := by rw [hW1]; exact belowB _ _
      have hc1 : W1.cell? ⟨gx, 0, none⟩ = some (.int .i64 (k : Int)) := by rw [hW1, hgx, World.cell?_alloc_at _ _ _ _ rfl]; rfl
      have HO1 : Hid (OG (Value.int .i64) w.heap.size 3 W1 (.slice lo ln lc) (lvL k ps)) := HO.out.below hb1
      have HB1 : Hid (Below w.heap.size w W1) := bstepB HB.out hb1
      have CW : Hid _ := containsW gx k (by omega) _ vs ps W1 (HR.out W1 HB1.out) hc1
      have HW1 : Hid (W1 = wr.alloc (.cells #[.int .i64 (k : Int)] 3)) := hW1
      have HGX : Hid (gx = wr.heap.size) := hgx
      have HC1 : Hid (W1.cell? ⟨gx, 0, none⟩ = some (.int .i64 (k : Int))) := hc1
      obtain ⟨b, hb⟩ : ∃ b, b = anyW ps k := ⟨_, rfl⟩
      rw [← hb] at CW
      have HBB : Hid (b = anyW ps k) := hb
      clear hW1 hgx hb1 hc1 hb HO HB
      go_upto_region 5 with fail
      rw [← HW1.out, ← HGX.out]
      clear HW1 HGX
      go_wp2_with fail
      refine Calls.mono CW.out ?_
      rintro e y ⟨rfl, hy⟩
      have HO2 : Hid (OG (Value.int .i64) w.heap.size 3 y (.slice lo ln lc) (lvL k ps)) := HO1.out.below hy
      have HB2 : Hid (Below w.heap.size w y) := bstepB HB1.out hy
      have hc2 : y.cell? ⟨gx, 0, none⟩ = some (.int .i64 (k : Int)) := keepR hy HC1.out
      clear CW hy HO1 HB1 HC1
      cases b with
      | true =>
        have HO3 : Hid (OG (Value.int .i64) w.heap.size 3 y (.slice lo ln lc) (lvL (k + 1) ps)) := by rw [lvL_yes HBB.out.symm]; exact HO2.out
        clear HO2 HBB
        go_wp2
        clear hc2
        go_roundg (n - (k + 1))
        case measure => omega
        case rel => exact ⟨k + 1, _, _, _, rfl, by first | rfl | go_num, by omega, Nat.le_refl _, HO3, HB2⟩
      | false =>
        have HLN : Hid ((lvL k ps).length ≤ 100000) := Nat.le_trans (lvL_len k ps) (by omega)
        have HE : Hid (lvL (k + 1) ps = lvL k ps ++ [(k : Int)]) := lvL_no HBB.out.symm
        obtain ⟨WA, hWA⟩ : ∃ W, W = y.alloc (.cells #[.int .i64 (k : Int)] 3) := ⟨_, rfl⟩
        obtain ⟨gb, hgb⟩ : ∃ g, g = y.heap.size := ⟨_, rfl⟩
        have HBA : Hid (Below y.heap.size y WA) := by show Below _ _ _; rw [hWA]; exact belowB _ _
        have HCB : Hid (WA.cell? ⟨gb, 0, none⟩ = some (.int .i64 (k : Int))) := by show _ = _; rw [hWA, hgb, World.cell?_alloc_at _ _ _ _ rfl]; rfl
        have HWA : Hid (WA = y.alloc (.cells #[.int .i64 (k : Int)] 3)) := hWA
        have HGB : Hid (gb = y.heap.size) := hgb
        have HBW : Hid (Below w.heap.size w WA) := bstepB HB2.out HBA.out
        clear hWA hgb HBB
        go_wp2_with (at_builtin; rw [← HWA.out, ← HGB.out]; refine wpList_pushV (enc := Value.int .i64) _ rfl _ _ 23 rfl w.heap.size 3 i0 (.int .i64 0) 8 Tryz.underlying23 hi hz0 hz1 hz2 rfl _ (lvL k ps) rfl (HO2.out.below HBA.out) gb (k : Int) rfl HCB.out rfl (by have := HLN.out; unfold maxLen; omega) (by have := HLN.out; omega) HBW.out.size ?_)
        intro ng tm ncap W2 ho hg3 hng _
        have HO3 : Hid (OG (Value.int .i64) w.heap.size 3 W2 (.slice (some ⟨ng, 0, none⟩) tm ncap) (lvL (k + 1) ps)) := by rw [HE.out]; exact ho
        have HB3 : Hid (Below w.heap.size w W2) := (HO2.out.below HBA.out).grown HBW.out HBW.out.size hg3
        clear ho hg3 hng HO2 HB2 HBA HCB HWA HGB HBW HLN HE hc2
        go_wp2
        go_roundg (n - (k + 1))
        case measure => omega
        case rel => exact ⟨k + 1, _, _, _, rfl, by first | rfl | go_num, by omega, Nat.le_refl _, HO3, HB3⟩
    · have hltz : ¬ (k : Int) < (n : Int) := by omega
      obtain rfl : k = n := by omega
      go_wp2
      go_ret
      exact ⟨_, rfl, HO.out, HB.out⟩
/-- Rows of one's own, each of the call's own. -/
structure WiC (w W : World) (g m : Nat) (cvs : List Value) (C : Nat → List Int) : Prop where
  frm : Below w.heap.size w W
  row : OG id w.heap.size 23 W (.slice (some ⟨g, 0, none⟩) m m) cvs
  inn : ∀ (j : Nat) (v : Value), cvs[j]? = some v → OG (Value.int .i64) w.heap.size 3 W v (C j)
theorem WiC.below {w W W' : World} {g m : Nat} {cvs : List Value} {C : Nat → List Int} (h : WiC w W g m cvs C) (hb : Below W.heap.size W W') : WiC w W' g m cvs C :=
  ⟨h.frm.trans (hb.mono h.frm.size), h.row.below hb, fun j v hv => (h.inn j v hv).below hb⟩
theorem WiC.put {w W : World} {g m : Nat} {cvs : List Value} {C : Nat → List Int} (h : WiC w W g m cvs C) {p : Nat} {u : Value} {L : List Int} (hp : p < m) (hu : OG (Value.int .i64) w.heap.size 3 W u L) :
    WiC w (W.setCell ⟨g, p, none⟩ u) g m (cvs.set p u) (fun j => if j = p then L else C j) := by
  have hl : cvs.length = m := h.row.rg.len
  have hgl := h.row.lt g rfl
  have hset := h.row.set hl p u
  refine ⟨h.frm.setCell (p := ⟨g, p, none⟩) hgl.1 _, hset.1, fun j v hv => ?_⟩
  rw [List.getElem?_set] at hv
  by_cases e : p = j
  · subst e
    rw [if_pos rfl, if_pos (by omega)] at hv
    simp only [Option.some.injEq] at hv
    subst hv
    rw [if_pos rfl]
    refine hu.of_blocks fun q hq => Below.heap_setCell _ _ _ _ (fun e2 => ?_)
    have e3 : q = g := e2
    subst e3
    exact hu.neO h.row (by decide) hq rfl
  · rw [if_neg e] at hv
    rw [if_neg (fun e2 => e e2.symm)]
    have hu1 := h.inn j v hv
    exact hu1.of_blocks fun q hq => Below.heap_setCell _ _ _ _ (fun e2 => hu1.neO h.row (by decide) hq (by have e3 : q = g := e2; rw [e3]; rfl))
theorem WiC.congr {w W : World} {g m : Nat} {cvs : List Value} {C C' : Nat → List Int} (h : WiC w W g m cvs C) (e : ∀ j, C j = C' j) : WiC w W g m cvs C' :=
  ⟨h.frm, h.row, fun j v hv => by rw [← e j]; exact h.inn j v hv⟩
/-- What stands while the first k points have their new ones. -/
def wiK (P : List (List Int)) (k j : Nat) : List Int := if j < k then (wiP P).getD j [] else []
theorem wiK_step {P : List (List Int)} {k : Nat} (h : k < P.length) (j : Nat) : (if j = k then [P.getD k [], [((P.length + k : Nat) : Int)]].flatten else wiK P k j) = wiK P (k + 1) j := by
  unfold wiK
  by_cases e : j = k
  · subst e
    rw [if_pos rfl, if_pos (Nat.lt_succ_self _), wi_old h]; simp
  · rw [if_neg e]
    by_cases h2 : j < k
    · rw [if_pos h2, if_pos (by omega)]
    · rw [if_neg h2, if_neg (by omega)]
theorem wiK_end (P : List (List Int)) (j : Nat) : wiK P P.length j = (wiP P).getD j [] := by
  unfold wiK
  by_cases h2 : j < P.length
  · rw [if_pos h2]
  · rw [if_neg h2, wi_new (by omega)]
set_option maxRecDepth 1000000 in
set_option maxHeartbeats 6400000 in
theorem withNewS (pv : Value) (pvs : List Value) (P : List (List Int)) (w : World) (h : RRD w pv pvs P) (n : Nat) (hn : P.length = n) (hb : n ≤ 25000) (hbl : ∀ i, (P.getD i []).length ≤ 100000) :
    Calls Tryz.prog 26 #[pv] w fun e w' => ∃ g cvs, e = .returned (.slice (some ⟨g, 0, none⟩) (2 * n) (2 * n)) ∧ RRD w' (.slice (some ⟨g, 0, none⟩) (2 * n) (2 * n)) cvs (wiP P) ∧ Below w.heap.size w w' := by
  obtain ⟨i1, hi1, ha0, ha1, ha2⟩ := info_parts Tryz.infoRD
  obtain ⟨po, pn, pc, rfl⟩ : ∃ o n c, pv = .slice o n c := by obtain ⟨ao, cap, e⟩ := h.out.sl; exact ⟨_, _, _, e⟩
  obtain rfl : pn = n := by rw [← hn, ← h.len, h.out.len]
  obtain ⟨m, hm⟩ : ∃ m, m = 2 * pn := ⟨_, rfl⟩
  obtain ⟨W1, hW1⟩ : ∃ W1, W1 = w.alloc (.cells (Array.replicate m (.slice none 0 0)) 23) := ⟨_, rfl⟩
  obtain ⟨g, hg⟩ : ∃ g, g = w.heap.size := ⟨_, rfl⟩
  have HT : Hid (WiC w W1 g m (List.replicate m (.slice none 0 0)) (wiK P 0)) := by
    refine ⟨by rw [hW1]; exact belowB w _, by rw [hW1, hg]; exact OG.made (enc := id) w _ m (.slice none 0 0) (by unfold maxLen; omega), fun j v hv => ?_⟩
    rw [List.getElem?_replicate] at hv
    split at hv
    · simp only [Option.some.injEq] at hv; subst hv
      have e : wiK P 0 j = [] := by unfold wiK; rw [if_neg (by omega)]
      rw [e]; exact OG.nil _ _ _
    · simp at hv
  have HR : Hid (RRD w (.slice po pn pc) pvs P) := h
  have HN : Hid (P.length = pn) := hn
  have HBL : Hid (∀ i, (P.getD i []).length ≤ 100000) := hbl
  have HW1 : Hid (W1 = w.alloc (.cells (Array.replicate m (.slice none 0 0)) 23)) := hW1
  have HG : Hid (g = w.heap.size) := hg
  have hmw : IntKind.i64.wrap (2 * (pn : Int)) = (m : Int) := by rw [IntKind.wrap_i64]; omega
  have hm5 : m ≤ 50000 := by omega
  have hmp : pn ≤ m := by omega
  rw [← hm]
  have HM : Hid (m = 2 * pn) := hm
  clear h hn hW1 hg hbl hm
  go_enter Tryz.func26, Tryz.ntmps26
  go_upto_region 2 with (at_make; refine wpList_madeD _ rfl _ _ 22 rfl 23 i1 (.slice none 0 0) rfl Tryz.underlying22 hi1 ha0 ha1 _ _ m rfl rfl (by rw [ha2]; omega) (by omega) ?_)
  rw [← HW1.out, ← HG.out]
  clear HW1 hmw
  go_wp2
  go_loopg [4, 5, 12] pn (fun g1 _v4 _v5 v12 wr => ∃ (k : Nat) (cvs : List Value), v12 = .int .i64 k ∧ k ≤ pn ∧ pn - k ≤ g1 ∧ Hid (WiC w wr g m cvs (wiK P k)))
  case atStart => exact ⟨0, _, rfl, by omega, by omega, HT⟩
  case round =>
    clear HT
    obtain ⟨k, cvs, rfl, hkn, hg1, HT⟩ := hrel
    by_cases hlt : k < pn
    · have hltz : (k : Int) < (pn : Int) := by omega
      have hltm : (k : Int) < (m : Int) := by omega
      obtain ⟨x, gp, op, hx1, rfl, hx2⟩ := (HR.out.below (Nat.le_refl _) HT.out.frm).out.at hlt
      have hxr := (HR.out.below (Nat.le_refl _) HT.out.frm).inn k x hx1
      obtain ⟨xo, xn, xc, rfl⟩ : ∃ o n c, x = .slice o n c := by obtain ⟨ao, cap, e⟩ := hxr.sl; exact ⟨_, _, _, e⟩
      change wr.cell? ⟨gp, op + k, none⟩ = some (.slice xo xn xc) at hx2
      have hws : IntKind.i64.wrap ((pn : Int) + (k : Int)) = ((pn + k : Nat) : Int) := by rw [IntKind.wrap_i64]; omega
      obtain ⟨WA, hWA⟩ : ∃ W, W = wr.alloc (.cells #[.int .i64 ((pn + k : Nat) : Int)] 3) := ⟨_, rfl⟩
      obtain ⟨ga, hga⟩ : ∃ g, g = wr.heap.size := ⟨_, rfl⟩
      have hba : Below wr.heap.size wr WA := by rw [hWA]; exact belowB _ _
      have hla : RG (Value.int .i64) WA (.slice (some ⟨ga, 0, none⟩) 1 1) [((pn + k : Nat) : Int)] := by rw [hWA, hga]; exact (OG.lit (enc := Value.int .i64) 3 wr [((pn + k : Nat) : Int)] (by unfold maxLen; simp)).rg
      obtain ⟨WB, hWB⟩ : ∃ W, W = WA.alloc (.cells #[.slice xo xn xc, .slice (some ⟨ga, 0, none⟩) 1 1] 23) := ⟨_, rfl⟩
      obtain ⟨gb, hgb⟩ : ∃ g, g = WA.heap.size := ⟨_, rfl⟩
      have hbb : Below WA.heap.size WA WB := by rw [hWB]; exact belowB _ _
      have hrr : RR (Value.int .i64) WB (.slice (some ⟨gb, 0, none⟩) 2 2) [P.getD k [], [((pn + k : Nat) : Int)]] := by
        rw [hWB]
        exact rr_two (by rw [hgb]; exact OG.lit (enc := id) 23 WA [.slice xo xn xc, .slice (some ⟨ga, 0, none⟩) 1 1] (by unfold maxLen; simp)) (hxr.below (Nat.le_refl _) hba) hla
      have CC : Hid _ := concatI _ _ WB hrr (by have h1 := HBL.out k; simp only [List.flatten_cons, List.flatten_nil, List.append_nil, List.length_append, List.length_singleton]; omega) (by simp)
      have HTB : Hid (WiC w WB g m cvs (wiK P k)) := (HT.out.below hba).below hbb
      have HWB : Hid (WB = (wr.alloc (.cells #[.int .i64 ((pn : Int) + (k : Int))] 3)).alloc (.cells #[.slice xo xn xc, .slice (some ⟨wr.heap.size, 0, none⟩) 1 1] 23)) := by show _ = _; rw [hWB, hWA, hga]; rfl
      have HGB : Hid (gb = wr.heap.size + 1) := by show _ = _; rw [hgb, hWA]; simp
      clear hWA hga hba hla hWB hgb hbb hrr hxr hx1
      go_wp2_with fail
      rw [← HWB.out, ← HGB.out]
      refine Calls.mono CC.out ?_
      rintro e y ⟨u, rfl, hu, hy⟩
      obtain ⟨uo, un, uc, rfl⟩ : ∃ o n c, u = .slice o n c := by obtain ⟨ao, cap, e, -⟩ := hu.sl; exact ⟨_, _, _, e⟩
      have HTY := HTB.out.below hy
      have hlen : cvs.length = m := HTY.row.rg.len
      obtain ⟨v, hv⟩ : ∃ v, cvs[k]? = some v := ⟨_, List.getElem?_eq_getElem (by omega)⟩
      obtain ⟨vo, vn, vc, rfl⟩ : ∃ o n c, v = .slice o n c := by obtain ⟨ao, cap, e, -⟩ := (HTY.inn k v hv).sl; exact ⟨_, _, _, e⟩
      obtain ⟨hc2, hf2⟩ := HTY.row.cell hv
      change y.cell? ⟨g, k, none⟩ = some (.slice vo vn vc) at hc2
      obtain ⟨WN, hWN⟩ : ∃ W, W = y.setCell ⟨g, k, none⟩ (.slice uo un uc) := ⟨_, rfl⟩
      have HT3 : Hid (WiC w WN g m (cvs.set k (.slice uo un uc)) (wiK P (k + 1))) := by
        rw [hWN]
        refine (HTY.put (by omega) (hu.mono HTB.out.frm.size)).congr fun j => ?_
        have h5 := wiK_step (P := P) (k := k) (by rw [HN.out]; exact hlt) j
        rw [HN.out] at h5
        exact h5
      have HWN : Hid (WN = y.setCell ⟨g, k, none⟩ (.slice uo un uc)) := hWN
      clear hWN hu hy HTY hlen hv HT HTB HWB HGB CC hx2
      go_wp2
      rw [← HWN.out]
      clear HWN hc2 hf2
      go_roundg (pn - (k + 1))
      case measure => omega
      case rel => exact ⟨k + 1, _, by first | rfl | go_num, by omega, Nat.le_refl _, HT3⟩
    · have hltz : ¬ (k : Int) < (pn : Int) := by omega
      obtain rfl : k = pn := by omega
      have hlen : cvs.length = m := HT.out.row.rg.len
      have HRR : Hid (RRD wr (.slice (some ⟨g, 0, none⟩) m m) cvs (wiP P)) := ⟨HT.out.row.rg, by rw [hlen, wi_len, HN.out, HM.out], fun i x hx => by
        have h6 := (HT.out.inn i x hx).rg
        have h7 := wiK_end P i
        rw [HN.out] at h7
        rwa [h7] at h6⟩
      have HFR : Hid (Below w.heap.size w wr) := HT.out.frm
      clear HT hlen
      go_wp2
      go_ret
      exact ⟨g, rfl, ⟨cvs, HRR.out⟩, HFR.out⟩
end Go.Proofs.YthdpomgpcblpeaaGreat

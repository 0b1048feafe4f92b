/-
  Proved here: which method package heap reaches through a line of points.
  Proved here: container/heap's up over a line of points.
  Proved here: container/heap's down over a line of points.
-/
import Derived.Test.YtcoiapgfaibkgabGreatDagAAll
namespace Go.Proofs.YtcoiapgfaibkgabGreat
set_option linter.unusedVariables false
open Go.RowKit
theorem follow_line (w : World) (rb k : Nat) : (follow [⟨107, 0, true⟩] 111 (.val (.pointer (some ⟨rb, k, none⟩)))).run Tryz.prog w = .ok (105, .var ⟨rb, k, none⟩) w := by
  simp [follow, Place.get, asAddr, fieldPlace, sizeOf]
  go_simp
  intro h0
  exact absurd h0 (by rw [show Tryz.t105.size = 1 from by kernel_rfl]; decide)
theorem recv_line (w : World) (rb k : Nat) (v : Value) (h : w.cell? ⟨rb, k, none⟩ = some v) (o : Option String) : (receiverAt 105 (.var ⟨rb, k, none⟩) false o).run Tryz.prog w = .ok v w := by
  simp [receiverAt, Place.get]
  go_simp
set_option maxRecDepth 100000 in
theorem mLnLen (w : World) (rb k : Nat) (v : Value) (h : w.cell? ⟨rb, k, none⟩ = some v) : (Go.method 278 111 (.pointer (some ⟨rb, k, none⟩)) "Len").run Tryz.prog w = .ok (87, v) w := by
  unfold Go.method
  go_simp
  rw [show Array.find? (fun x => x.name == "Len") Tryz.t111.methods = some ⟨"Len", 57, #[⟨107, 0, true⟩], some (87, false)⟩ from by kernel_rfl]
  have h1 := follow_line w rb k
  have h2 := recv_line w rb k v h none
  simp [h1, h2]
theorem entLnLen : ∀ args w, (callFunc 87 args).run Tryz.prog w = .ok (.enter 87 args) w := enters_of Tryz.func87 (by kernel_rfl) rfl
set_option maxRecDepth 100000 in
theorem mLnLess (w : World) (rb k : Nat) (v : Value) (h : w.cell? ⟨rb, k, none⟩ = some v) : (Go.method 278 111 (.pointer (some ⟨rb, k, none⟩)) "Less").run Tryz.prog w = .ok (152, v) w := by
  unfold Go.method
  go_simp
  rw [show Array.find? (fun x => x.name == "Less") Tryz.t111.methods = some ⟨"Less", 88, #[⟨107, 0, true⟩], some (152, false)⟩ from by kernel_rfl]
  have h1 := follow_line w rb k
  have h2 := recv_line w rb k v h none
  simp [h1, h2]
theorem entLnLess : ∀ args w, (callFunc 152 args).run Tryz.prog w = .ok (.enter 152 args) w := enters_of Tryz.func152 (by kernel_rfl) rfl
set_option maxRecDepth 100000 in
theorem mLnSwap (w : World) (rb k : Nat) (v : Value) (h : w.cell? ⟨rb, k, none⟩ = some v) : (Go.method 278 111 (.pointer (some ⟨rb, k, none⟩)) "Swap").run Tryz.prog w = .ok (154, v) w := by
  unfold Go.method
  go_simp
  rw [show Array.find? (fun x => x.name == "Swap") Tryz.t111.methods = some ⟨"Swap", 128, #[⟨107, 0, true⟩], some (154, false)⟩ from by kernel_rfl]
  have h1 := follow_line w rb k
  have h2 := recv_line w rb k v h none
  simp [h1, h2]
theorem entLnSwap : ∀ args w, (callFunc 154 args).run Tryz.prog w = .ok (.enter 154 args) w := enters_of Tryz.func154 (by kernel_rfl) rfl
theorem mLnPush (w : World) (rb k : Nat) : (Go.method 278 111 (.pointer (some ⟨rb, k, none⟩)) "Push").run Tryz.prog w = .ok (156, .pointer (some ⟨rb, k, none⟩)) w := by kernel_rfl
theorem entLnPush : ∀ args w, (callFunc 156 args).run Tryz.prog w = .ok (.enter 156 args) w := enters_of Tryz.func156 (by kernel_rfl) rfl
theorem mLnPop (w : World) (rb k : Nat) : (Go.method 278 111 (.pointer (some ⟨rb, k, none⟩)) "Pop").run Tryz.prog w = .ok (155, .pointer (some ⟨rb, k, none⟩)) w := by kernel_rfl
theorem entLnPop : ∀ args w, (callFunc 155 args).run Tryz.prog w = .ok (.enter 155 args) w := enters_of Tryz.func155 (by kernel_rfl) rfl
end Go.Proofs.YtcoiapgfaibkgabGreat

namespace Go.Proofs.YtcoiapgfaibkgabGreat
set_option linter.unusedVariables false
open Go.RowKit
/-- The five cells of what is left. -/
def RsC (w : World) (rb : Nat) (a b c d v : Value) : Prop := w.heap[rb]? = some (.cells #[a, b, c, d, v] 109 (0, 0))
theorem RsC.cell {w : World} {rb : Nat} {a b c d v : Value} (h : RsC w rb a b c d v) : w.cell? ⟨rb, 4, none⟩ = some v := by rw [cell_of_row w rb _ _ _ _ h]; rfl
theorem RsC.lt {w : World} {rb : Nat} {a b c d v : Value} (h : RsC w rb a b c d v) : rb < w.heap.size := (Array.getElem?_eq_some_iff.1 h).1
theorem OG.neT {α : Type} {enc : α → Value} {B e T : Nat} {w : World} {v : Value} {L : List α} {g : Nat} {cs : Array Value} {fr : Nat × Nat} (h : OG enc B e w v L) (hg : w.heap[g]? = some (.cells cs T fr)) (hne : e ≠ T) : v.ownBlock ≠ some g := by
  intro hv
  rcases h.2 with ⟨rfl, h0⟩ | ⟨g', cap, cur, rfl, h3, h4, h5⟩
  · simp [Value.ownBlock] at hv
  · have e1 : g' = g := by simpa [Value.ownBlock] using hv
    subst e1
    rw [h4] at hg
    simp only [Option.some.injEq, Obj.cells.injEq] at hg
    exact hne hg.2.1
theorem grown_drew {w w' : World} {r : Option Nat} (h : w.grownBy w' r) (q : Nat) : w.grownBy (w'.drewN q) r := by
  have hb := below_drewN (Below.refl w'.heap.size w') q
  exact ⟨hb.os.trans h.os, hb.tape.trans h.tape, hb.output.trans h.output, Nat.le_trans h.size hb.size, fun k hk hr => (hb.block k (Nat.lt_of_lt_of_le hk h.size)).trans (h.block k hk hr)⟩
theorem grown_tr {w w' w'' : World} {r : Option Nat} (h : w.grownBy w' r) (h2 : w'.grownBy w'' r) : w.grownBy w'' r :=
  ⟨h2.os.trans h.os, h2.tape.trans h.tape, h2.output.trans h.output, Nat.le_trans h.size h2.size, fun k hk hr => (h2.block k (Nat.lt_of_lt_of_le hk h.size) hr).trans (h.block k hk hr)⟩
set_option maxRecDepth 100000 in
set_option maxHeartbeats 6400000 in
theorem upH (B rb g n cap j : Nat) (a b c d : Value) (L : List Int) (w : World) (hR : RsC w rb a b c d (.slice (some ⟨g, 0, none⟩) n cap)) (hO : OG (Value.int .i64) B 3 w (.slice (some ⟨g, 0, none⟩) n cap) L) (hj : j < n) (hn : n ≤ 1000000) :
    Calls Tryz.prog 101 #[.iface 111 (.pointer (some ⟨rb, 4, none⟩)), .int .i64 j] w fun e w' => e = .returned (.tuple #[]) ∧ OG (Value.int .i64) B 3 w' (.slice (some ⟨g, 0, none⟩) n cap) (upL L j) ∧ w.grownBy w' (some g) := by
  have hne : g ≠ rb := fun e => hO.neT hR (by decide) (by rw [e]; rfl)
  have HRW : Hid (∀ W, w.grownBy W (some g) → RsC W rb a b c d (.slice (some ⟨g, 0, none⟩) n cap)) := fun W hW => (hW.block rb hR.lt (fun e => hne (by have h := e; simp at h; omega))).trans hR
  obtain ⟨N, hN⟩ : ∃ N, N = upL L j := ⟨_, rfl⟩
  rw [← hN]
  have HN : Hid (upL L j = N) := hN.symm
  have HO : Hid (OG (Value.int .i64) B 3 w (.slice (some ⟨g, 0, none⟩) n cap) L) := hO
  clear hN hne hR hO
  have e1 := entLnLess
  have e2 := entLnSwap
  go_enter Tryz.func101, Tryz.ntmps101
  go_wp2
  go_loopg [1, 4] j (fun g1 v1 _v4 wr => ∃ (k : Nat) (M : List Int), v1 = .int .i64 k ∧ k ≤ g1 ∧ k < n ∧ Hid (OG (Value.int .i64) B 3 wr (.slice (some ⟨g, 0, none⟩) n cap) M) ∧ Hid (upL M k = N) ∧ Hid (w.grownBy wr (some g)))
  case atStart => exact ⟨j, L, rfl, Nat.le_refl _, hj, HO, HN, grownG_refl _ _⟩
  case round =>
    clear HO HN
    obtain ⟨k, M, rfl, hg1, hkn, HO, HN, HG⟩ := hrel
    rcases Nat.eq_zero_or_pos k with hk0 | hk0
    · subst hk0
      have HE : Hid (M = N) := HN.out
      clear HN
      go_wp2
      go_end0
      exact ⟨rfl, by rw [← HE.out]; exact HO.out, HG.out⟩
    · obtain ⟨i, hi⟩ : ∃ i, i = (k - 1) / 2 := ⟨_, rfl⟩
      have hq : ((k : Int) - 1).tdiv 2 = (i : Int) := by rw [Int.tdiv_eq_ediv_of_nonneg (by omega)]; omega
      have hik : i < k := by omega
      have heq : ((i : Int) == (k : Int)) = false := by simp; omega
      have HI : Hid (i = (k - 1) / 2) := hi
      clear hi
      have cl := (HRW.out wr HG.out).cell
      have m1 := mLnLess wr rb 4 _ cl
      have CL : Hid _ := lnLess g n cap M k i wr HO.out.rg hkn (by omega)
      clear cl
      go_wp2_with fail
      refine Calls.mono CL.out ?_
      rintro e y ⟨rfl, q, rfl⟩
      clear CL m1
      have HG2 : Hid (w.grownBy (wr.drewN q) (some g)) := grown_drew HG.out q
      have HO2 : Hid (OG (Value.int .i64) B 3 (wr.drewN q) (.slice (some ⟨g, 0, none⟩) n cap) M) := HO.out.of_blocks fun _ _ => by rw [heap_drewG]
      clear HO HG
      generalize wr.drewN q = y at *
      by_cases hlt : M.getD k 0 < M.getD i 0
      · have HE : Hid (upL (swp M i k) i = N) := by show _ = _; rw [← HN.out]; have h := hlt; rw [HI.out] at h ⊢; exact (upL_yes hk0 h).symm
        rw [decide_eq_true hlt]
        clear HN hlt
        have cl := (HRW.out y HG2.out).cell
        have m2 := mLnSwap y rb 4 _ cl
        have CS : Hid _ := lnSwap B g n cap M i k y HO2.out (by omega) hkn
        clear cl
        go_wp2_with fail
        refine Calls.mono CS.out ?_
        rintro e z ⟨rfl, hz1, hz2⟩
        clear CS m2
        have HO3 : Hid (OG (Value.int .i64) B 3 z (.slice (some ⟨g, 0, none⟩) n cap) (swp M i k)) := hz1
        have HG3 : Hid (w.grownBy z (some g)) := grown_tr HG2.out hz2
        clear hz1 hz2 HO2 HG2
        go_wp2
        go_roundg i
        case measure => omega
        case rel => exact ⟨i, _, rfl, Nat.le_refl _, by omega, HO3, HE, HG3⟩
      · have HE : Hid (M = N) := by show _ = _; rw [← HN.out]; have h := hlt; rw [HI.out] at h; exact (upL_no h).symm
        rw [decide_eq_false hlt]
        clear HN hlt
        go_wp2
        go_end0
        exact ⟨rfl, by rw [← HE.out]; exact HO2.out, HG2.out⟩
end Go.Proofs.YtcoiapgfaibkgabGreat

namespace Go.Proofs.YtcoiapgfaibkgabGreat
set_option linter.unusedVariables false
open Go.RowKit
set_option maxRecDepth 100000 in
set_option maxHeartbeats 12800000 in
theorem downH (B rb g n cap i0 m : Nat) (a b c d : Value) (L : List Int) (w : World) (hR : RsC w rb a b c d (.slice (some ⟨g, 0, none⟩) n cap)) (hO : OG (Value.int .i64) B 3 w (.slice (some ⟨g, 0, none⟩) n cap) L) (hj : i0 < n) (hm : m ≤ n) (hn : n ≤ 1000000) :
    Calls Tryz.prog 102 #[.iface 111 (.pointer (some ⟨rb, 4, none⟩)), .int .i64 i0, .int .i64 m] w fun e w' => ∃ r, e = .returned (.bool r) ∧ OG (Value.int .i64) B 3 w' (.slice (some ⟨g, 0, none⟩) n cap) (dnL L i0 m) ∧ w.grownBy w' (some g) := by
  have hne : g ≠ rb := fun e => hO.neT hR (by decide) (by rw [e]; rfl)
  have HRW : Hid (∀ W, w.grownBy W (some g) → RsC W rb a b c d (.slice (some ⟨g, 0, none⟩) n cap)) := fun W hW => (hW.block rb hR.lt (fun e => hne (by have h := e; simp at h; omega))).trans hR
  obtain ⟨N, hN⟩ : ∃ N, N = dnL L i0 m := ⟨_, rfl⟩
  rw [← hN]
  have HN : Hid (dnL L i0 m = N) := hN.symm
  have HO : Hid (OG (Value.int .i64) B 3 w (.slice (some ⟨g, 0, none⟩) n cap) L) := hO
  clear hN hne hR hO
  have e1 := entLnLess
  have e2 := entLnSwap
  go_enter Tryz.func102, Tryz.ntmps102
  go_wp2
  go_loopg [7, 8, 9, 10] (m - i0) (fun g1 v7 _v8 _v9 _v10 wr => ∃ (k : Nat) (M : List Int), v7 = .int .i64 k ∧ m - k ≤ g1 ∧ k < n ∧ Hid (OG (Value.int .i64) B 3 wr (.slice (some ⟨g, 0, none⟩) n cap) M) ∧ Hid (dnL M k m = N) ∧ Hid (w.grownBy wr (some g)))
  case atStart => exact ⟨i0, L, rfl, Nat.le_refl _, hj, HO, HN, grownG_refl _ _⟩
  case round =>
    clear HO HN
    obtain ⟨k, M, rfl, hg1, hkn, HO, HN, HG⟩ := hrel
    obtain ⟨t1, ht1⟩ : ∃ t, t = 2 * k + 1 := ⟨_, rfl⟩
    have r1 : (2 : Int) * (k : Int) + 1 = (t1 : Int) := by omega
    have HT1 : Hid (t1 = 2 * k + 1) := ht1
    by_cases hs : m ≤ t1
    · have HE : Hid (M = N) := by show _ = _; rw [← HN.out, dnL_stop (by omega)]
      have hge : decide ((m : Int) ≤ (t1 : Int)) = true := decide_eq_true (by omega)
      have hge2 : (m : Int) ≤ (t1 : Int) := by omega
      clear HN ht1
      go_wp2
      go_ret
      exact ⟨_, rfl, by rw [← HE.out]; exact HO.out, HG.out⟩
    · have hge : ¬ (m : Int) ≤ (t1 : Int) := by omega
      obtain ⟨t2, ht2⟩ : ∃ t, t = t1 + 1 := ⟨_, rfl⟩
      have r2 : (t1 : Int) + 1 = (t2 : Int) := by omega
      by_cases h2m : t2 < m
      · have hlz : (t2 : Int) < (m : Int) := by omega
        have cl := (HRW.out wr HG.out).cell
        have m1 := mLnLess wr rb 4 _ cl
        have CL : Hid _ := lnLess g n cap M t2 t1 wr HO.out.rg (by omega) (by omega)
        have HT2 : Hid (t2 = t1 + 1) := ht2
        clear cl ht1 ht2
        go_wp2_with fail
        refine Calls.mono CL.out ?_
        rintro e y0 ⟨rfl, q, rfl⟩
        clear CL m1
        have HG2 : Hid (w.grownBy (wr.drewN q) (some g)) := grown_drew HG.out q
        have HO2 : Hid (OG (Value.int .i64) B 3 (wr.drewN q) (.slice (some ⟨g, 0, none⟩) n cap) M) := HO.out.of_blocks fun _ _ => by rw [heap_drewG]
        clear HO HG
        generalize wr.drewN q = y at *
        have hf1 := HT1.out
        have hf2 := HT2.out
        by_cases hlt : M.getD t2 0 < M.getD t1 0
        · have HK : Hid (kid M k m = t2) := by
            show _ = _
            have e9 : t2 = 2 * k + 2 := by omega
            rw [e9] at hlt h2m ⊢
            rw [hf1] at hlt
            exact kid_two h2m hlt
          rw [decide_eq_true hlt]
          clear hlt
          have hkt : k < t2 := by omega
          have HF : Hid (t1 = 2 * k + 1 ∧ t2 = t1 + 1) := ⟨hf1, hf2⟩
          have hst : ¬ m ≤ 2 * k + 1 := by omega
          clear hf1 hf2
          have cl := (HRW.out y HG2.out).cell
          have m3 := mLnLess y rb 4 _ cl
          have CL : Hid _ := lnLess g n cap M t2 k y HO2.out.rg (by omega) (by omega)
          clear cl
          go_wp2_with fail
          refine Calls.mono CL.out ?_
          rintro e y3 ⟨rfl, q3, rfl⟩
          clear CL m3
          have HG3 : Hid (w.grownBy (y.drewN q3) (some g)) := grown_drew HG2.out q3
          have HO3 : Hid (OG (Value.int .i64) B 3 (y.drewN q3) (.slice (some ⟨g, 0, none⟩) n cap) M) := HO2.out.of_blocks fun _ _ => by rw [heap_drewG]
          clear HO2 HG2
          generalize y.drewN q3 = y4 at *
          by_cases hl2 : M.getD t2 0 < M.getD k 0
          · have HE : Hid (dnL (swp M k t2) t2 m = N) := by
              show _ = _
              have hk := HK.out
              have h9 := dnL_yes (L := M) (i := k) (n := m) hst (by rw [hk]; exact hl2); rw [hk] at h9; rw [← HN.out]; exact h9.symm
            rw [decide_eq_true hl2]
            clear HN hl2
            have cl := (HRW.out y4 HG3.out).cell
            have m4 := mLnSwap y4 rb 4 _ cl
            have CS : Hid _ := lnSwap B g n cap M k t2 y4 HO3.out (by omega) (by omega)
            clear cl
            go_wp2_with fail
            refine Calls.mono CS.out ?_
            rintro e z ⟨rfl, hz1, hz2⟩
            clear CS m4
            have HO4 : Hid (OG (Value.int .i64) B 3 z (.slice (some ⟨g, 0, none⟩) n cap) (swp M k t2)) := hz1
            have HG4 : Hid (w.grownBy z (some g)) := grown_tr HG3.out hz2
            clear hz1 hz2 HO3 HG3 HK
            go_wp2
            go_roundg (m - t2)
            case measure => omega
            case rel => exact ⟨t2, _, rfl, by omega, by omega, HO4, HE, HG4⟩
          · have HE : Hid (M = N) := by
              show _ = _
              have hk := HK.out
              rw [← HN.out, dnL_no hst (by rw [hk]; exact hl2)]
            rw [decide_eq_false hl2]
            clear HN hl2 HK
            go_wp2
            go_ret
            exact ⟨_, rfl, by rw [← HE.out]; exact HO3.out, HG3.out⟩
        · have HK : Hid (kid M k m = t1) := by
            show _ = _
            have e9 : t2 = 2 * k + 2 := by omega
            rw [e9] at hlt
            rw [hf1] at hlt ⊢
            exact kid_one (fun h => hlt h.2)
          rw [decide_eq_false hlt]
          clear hlt
          have hkt : k < t1 := by omega
          have HF : Hid (t1 = 2 * k + 1 ∧ t2 = t1 + 1) := ⟨hf1, hf2⟩
          have hst : ¬ m ≤ 2 * k + 1 := by omega
          clear hf1 hf2
          have cl := (HRW.out y HG2.out).cell
          have m3 := mLnLess y rb 4 _ cl
          have CL : Hid _ := lnLess g n cap M t1 k y HO2.out.rg (by omega) (by omega)
          clear cl
          go_wp2_with fail
          refine Calls.mono CL.out ?_
          rintro e y3 ⟨rfl, q3, rfl⟩
          clear CL m3
          have HG3 : Hid (w.grownBy (y.drewN q3) (some g)) := grown_drew HG2.out q3
          have HO3 : Hid (OG (Value.int .i64) B 3 (y.drewN q3) (.slice (some ⟨g, 0, none⟩) n cap) M) := HO2.out.of_blocks fun _ _ => by rw [heap_drewG]
          clear HO2 HG2
          generalize y.drewN q3 = y4 at *
          by_cases hl2 : M.getD t1 0 < M.getD k 0
          · have HE : Hid (dnL (swp M k t1) t1 m = N) := by
              show _ = _
              have hk := HK.out
              have h9 := dnL_yes (L := M) (i := k) (n := m) hst (by rw [hk]; exact hl2); rw [hk] at h9; rw [← HN.out]; exact h9.symm
            rw [decide_eq_true hl2]
            clear HN hl2
            have cl := (HRW.out y4 HG3.out).cell
            have m4 := mLnSwap y4 rb 4 _ cl
            have CS : Hid _ := lnSwap B g n cap M k t1 y4 HO3.out (by omega) (by omega)
            clear cl
            go_wp2_with fail
            refine Calls.mono CS.out ?_
            rintro e z ⟨rfl, hz1, hz2⟩
            clear CS m4
            have HO4 : Hid (OG (Value.int .i64) B 3 z (.slice (some ⟨g, 0, none⟩) n cap) (swp M k t1)) := hz1
            have HG4 : Hid (w.grownBy z (some g)) := grown_tr HG3.out hz2
            clear hz1 hz2 HO3 HG3 HK
            go_wp2
            go_roundg (m - t1)
            case measure => omega
            case rel => exact ⟨t1, _, rfl, by omega, by omega, HO4, HE, HG4⟩
          · have HE : Hid (M = N) := by
              show _ = _
              have hk := HK.out
              rw [← HN.out, dnL_no hst (by rw [hk]; exact hl2)]
            rw [decide_eq_false hl2]
            clear HN hl2 HK
            go_wp2
            go_ret
            exact ⟨_, rfl, by rw [← HE.out]; exact HO3.out, HG3.out⟩
      · have hlz : ¬ (t2 : Int) < (m : Int) := by omega
        have HK : Hid (kid M k m = t1) := by show _ = _; rw [ht1]; exact kid_one (fun h => by have := h.1; omega)
        have hkt : k < t1 := by omega
        have hst : ¬ m ≤ 2 * k + 1 := by omega
        clear ht1 ht2
        obtain ⟨y, hy⟩ : ∃ u, u = wr := ⟨_, rfl⟩
        have HG2 : Hid (w.grownBy y (some g)) := by rw [hy]; exact HG
        have HO2 : Hid (OG (Value.int .i64) B 3 y (.slice (some ⟨g, 0, none⟩) n cap) M) := by rw [hy]; exact HO
        clear HO HG
        subst hy
        have cl := (HRW.out y HG2.out).cell
        have m3 := mLnLess y rb 4 _ cl
        have CL : Hid _ := lnLess g n cap M t1 k y HO2.out.rg (by omega) (by omega)
        clear cl
        go_wp2_with fail
        refine Calls.mono CL.out ?_
        rintro e y3 ⟨rfl, q3, rfl⟩
        clear CL m3
        have HG3 : Hid (w.grownBy (y.drewN q3) (some g)) := grown_drew HG2.out q3
        have HO3 : Hid (OG (Value.int .i64) B 3 (y.drewN q3) (.slice (some ⟨g, 0, none⟩) n cap) M) := HO2.out.of_blocks fun _ _ => by rw [heap_drewG]
        clear HO2 HG2
        generalize y.drewN q3 = y4 at *
        by_cases hl2 : M.getD t1 0 < M.getD k 0
        · have HE : Hid (dnL (swp M k t1) t1 m = N) := by
            show _ = _
            have hk := HK.out
            have h9 := dnL_yes (L := M) (i := k) (n := m) hst (by rw [hk]; exact hl2); rw [hk] at h9; rw [← HN.out]; exact h9.symm
          rw [decide_eq_true hl2]
          clear HN hl2
          have cl := (HRW.out y4 HG3.out).cell
          have m4 := mLnSwap y4 rb 4 _ cl
          have CS : Hid _ := lnSwap B g n cap M k t1 y4 HO3.out (by omega) (by omega)
          clear cl
          go_wp2_with fail
          refine Calls.mono CS.out ?_
          rintro e z ⟨rfl, hz1, hz2⟩
          clear CS m4
          have HO4 : Hid (OG (Value.int .i64) B 3 z (.slice (some ⟨g, 0, none⟩) n cap) (swp M k t1)) := hz1
          have HG4 : Hid (w.grownBy z (some g)) := grown_tr HG3.out hz2
          clear hz1 hz2 HO3 HG3 HK
          go_wp2
          go_roundg (m - t1)
          case measure => omega
          case rel => exact ⟨t1, _, rfl, by omega, by omega, HO4, HE, HG4⟩
        · have HE : Hid (M = N) := by
            show _ = _
            have hk := HK.out
            rw [← HN.out, dnL_no hst (by rw [hk]; exact hl2)]
          rw [decide_eq_false hl2]
          clear HN hl2 HK
          go_wp2
          go_ret
          exact ⟨_, rfl, by rw [← HE.out]; exact HO3.out, HG3.out⟩
end Go.Proofs.YtcoiapgfaibkgabGreat

/-
  Proved here: which method package heap reaches through a line of points.
  Proved here: container/heap's up over a line of points.
-/
import Derived.Test.YtcadljpdokhpmaaDagAAll
namespace Go.Proofs.Ytcadljpdokhpmaa
set_option linter.unusedVariables false
open Go.RowKit
theorem follow_line (w : World) (rb k : Nat) : (follow [⟨68, 0, true⟩] 72 (.val (.pointer (some ⟨rb, k, none⟩)))).run Try.prog w = .ok (66, .var ⟨rb, k, none⟩) w := by
  simp [follow, Place.get, asAddr, fieldPlace, sizeOf]
  go_simp
  intro h0
  exact absurd h0 (by rw [show Try.t66.size = 1 from by kernel_rfl]; decide)
theorem recv_line (w : World) (rb k : Nat) (v : Value) (h : w.cell? ⟨rb, k, none⟩ = some v) (o : Option String) : (receiverAt 66 (.var ⟨rb, k, none⟩) false o).run Try.prog w = .ok v w := by
  simp [receiverAt, Place.get]
  go_simp
set_option maxRecDepth 100000 in
theorem mLnLen (w : World) (rb k : Nat) (v : Value) (h : w.cell? ⟨rb, k, none⟩ = some v) : (Go.method 206 72 (.pointer (some ⟨rb, k, none⟩)) "Len").run Try.prog w = .ok (49, v) w := by
  unfold Go.method
  go_simp
  rw [show Array.find? (fun x => x.name == "Len") Try.t72.methods = some ⟨"Len", 73, #[⟨68, 0, true⟩], some (49, false)⟩ from by kernel_rfl]
  have h1 := follow_line w rb k
  have h2 := recv_line w rb k v h none
  simp [h1, h2]
theorem entLnLen : ∀ args w, (callFunc 49 args).run Try.prog w = .ok (.enter 49 args) w := enters_of Try.func49 (by kernel_rfl) rfl
set_option maxRecDepth 100000 in
theorem mLnLess (w : World) (rb k : Nat) (v : Value) (h : w.cell? ⟨rb, k, none⟩ = some v) : (Go.method 206 72 (.pointer (some ⟨rb, k, none⟩)) "Less").run Try.prog w = .ok (78, v) w := by
  unfold Go.method
  go_simp
  rw [show Array.find? (fun x => x.name == "Less") Try.t72.methods = some ⟨"Less", 51, #[⟨68, 0, true⟩], some (78, false)⟩ from by kernel_rfl]
  have h1 := follow_line w rb k
  have h2 := recv_line w rb k v h none
  simp [h1, h2]
theorem entLnLess : ∀ args w, (callFunc 78 args).run Try.prog w = .ok (.enter 78 args) w := enters_of Try.func78 (by kernel_rfl) rfl
set_option maxRecDepth 100000 in
theorem mLnSwap (w : World) (rb k : Nat) (v : Value) (h : w.cell? ⟨rb, k, none⟩ = some v) : (Go.method 206 72 (.pointer (some ⟨rb, k, none⟩)) "Swap").run Try.prog w = .ok (80, v) w := by
  unfold Go.method
  go_simp
  rw [show Array.find? (fun x => x.name == "Swap") Try.t72.methods = some ⟨"Swap", 82, #[⟨68, 0, true⟩], some (80, false)⟩ from by kernel_rfl]
  have h1 := follow_line w rb k
  have h2 := recv_line w rb k v h none
  simp [h1, h2]
theorem entLnSwap : ∀ args w, (callFunc 80 args).run Try.prog w = .ok (.enter 80 args) w := enters_of Try.func80 (by kernel_rfl) rfl
theorem mLnPush (w : World) (rb k : Nat) : (Go.method 206 72 (.pointer (some ⟨rb, k, none⟩)) "Push").run Try.prog w = .ok (82, .pointer (some ⟨rb, k, none⟩)) w := by kernel_rfl
theorem entLnPush : ∀ args w, (callFunc 82 args).run Try.prog w = .ok (.enter 82 args) w := enters_of Try.func82 (by kernel_rfl) rfl
theorem mLnPop (w : World) (rb k : Nat) : (Go.method 206 72 (.pointer (some ⟨rb, k, none⟩)) "Pop").run Try.prog w = .ok (81, .pointer (some ⟨rb, k, none⟩)) w := by kernel_rfl
theorem entLnPop : ∀ args w, (callFunc 81 args).run Try.prog w = .ok (.enter 81 args) w := enters_of Try.func81 (by kernel_rfl) rfl
end Go.Proofs.Ytcadljpdokhpmaa

namespace Go.Proofs.Ytcadljpdokhpmaa
set_option linter.unusedVariables false
open Go.RowKit
/-- The five cells of what is left. -/
def RsC (w : World) (rb : Nat) (a b c d v : Value) : Prop := w.heap[rb]? = some (.cells #[a, b, c, d, v] 70 (0, 0))
theorem RsC.cell {w : World} {rb : Nat} {a b c d v : Value} (h : RsC w rb a b c d v) : w.cell? ⟨rb, 4, none⟩ = some v := by rw [cell_of_row w rb _ _ _ _ h]; rfl
theorem RsC.lt {w : World} {rb : Nat} {a b c d v : Value} (h : RsC w rb a b c d v) : rb < w.heap.size := (Array.getElem?_eq_some_iff.1 h).1
theorem OG.neT {α : Type} {enc : α → Value} {B e T : Nat} {w : World} {v : Value} {L : List α} {g : Nat} {cs : Array Value} {fr : Nat × Nat} (h : OG enc B e w v L) (hg : w.heap[g]? = some (.cells cs T fr)) (hne : e ≠ T) : v.ownBlock ≠ some g := by
  intro hv
  rcases h.2 with ⟨rfl, h0⟩ | ⟨g', cap, cur, rfl, h3, h4, h5⟩
  · simp [Value.ownBlock] at hv
  · have e1 : g' = g := by simpa [Value.ownBlock] using hv
    subst e1
    rw [h4] at hg
    simp only [Option.some.injEq, Obj.cells.injEq] at hg
    exact hne hg.2.1
theorem grown_drew {w w' : World} {r : Option Nat} (h : w.grownBy w' r) (q : Nat) : w.grownBy (w'.drewN q) r := by
  have hb := below_drewN (Below.refl w'.heap.size w') q
  exact ⟨hb.os.trans h.os, hb.tape.trans h.tape, hb.output.trans h.output, Nat.le_trans h.size hb.size, fun k hk hr => (hb.block k (Nat.lt_of_lt_of_le hk h.size)).trans (h.block k hk hr)⟩
theorem grown_tr {w w' w'' : World} {r : Option Nat} (h : w.grownBy w' r) (h2 : w'.grownBy w'' r) : w.grownBy w'' r :=
  ⟨h2.os.trans h.os, h2.tape.trans h.tape, h2.output.trans h.output, Nat.le_trans h.size h2.size, fun k hk hr => (h2.block k (Nat.lt_of_lt_of_le hk h.size) hr).trans (h.block k hk hr)⟩
set_option maxRecDepth 100000 in
set_option maxHeartbeats 6400000 in
theorem upH (B rb g n cap j : Nat) (a b c d : Value) (L : List Int) (w : World) (hR : RsC w rb a b c d (.slice (some ⟨g, 0, none⟩) n cap)) (hO : OG (Value.int .i64) B 3 w (.slice (some ⟨g, 0, none⟩) n cap) L) (hj : j < n) (hn : n ≤ 1000000) :
    Calls Try.prog 55 #[.iface 72 (.pointer (some ⟨rb, 4, none⟩)), .int .i64 j] w fun e w' => e = .returned (.tuple #[]) ∧ OG (Value.int .i64) B 3 w' (.slice (some ⟨g, 0, none⟩) n cap) (upL L j) ∧ w.grownBy w' (some g) := by
  have hne : g ≠ rb := fun e => hO.neT hR (by decide) (by rw [e]; rfl)
  have HRW : Hid (∀ W, w.grownBy W (some g) → RsC W rb a b c d (.slice (some ⟨g, 0, none⟩) n cap)) := fun W hW => (hW.block rb hR.lt (fun e => hne (by have h := e; simp at h; omega))).trans hR
  obtain ⟨N, hN⟩ : ∃ N, N = upL L j := ⟨_, rfl⟩
  rw [← hN]
  have HN : Hid (upL L j = N) := hN.symm
  have HO : Hid (OG (Value.int .i64) B 3 w (.slice (some ⟨g, 0, none⟩) n cap) L) := hO
  clear hN hne hR hO
  have e1 := entLnLess
  have e2 := entLnSwap
  go_enter Try.func55, Try.ntmps55
  go_wp2
  go_loopg [1, 4] j (fun g1 v1 _v4 wr => ∃ (k : Nat) (M : List Int), v1 = .int .i64 k ∧ k ≤ g1 ∧ k < n ∧ Hid (OG (Value.int .i64) B 3 wr (.slice (some ⟨g, 0, none⟩) n cap) M) ∧ Hid (upL M k = N) ∧ Hid (w.grownBy wr (some g)))
  case atStart => exact ⟨j, L, rfl, Nat.le_refl _, hj, HO, HN, grownG_refl _ _⟩
  case round =>
    clear HO HN
    obtain ⟨k, M, rfl, hg1, hkn, HO, HN, HG⟩ := hrel
    rcases Nat.eq_zero_or_pos k with hk0 | hk0
    · subst hk0
      have HE : Hid (M = N) := HN.out
      clear HN
      go_wp2
      go_end0
      exact ⟨rfl, by rw [← HE.out]; exact HO.out, HG.out⟩
    · obtain ⟨i, hi⟩ : ∃ i, i = (k - 1) / 2 := ⟨_, rfl⟩
      have hq : ((k : Int) - 1).tdiv 2 = (i : Int) := by rw [Int.tdiv_eq_ediv_of_nonneg (by omega)]; omega
      have hik : i < k := by omega
      have heq : ((i : Int) == (k : Int)) = false := by simp; omega
      have HI : Hid (i = (k - 1) / 2) := hi
      clear hi
      have cl := (HRW.out wr HG.out).cell
      have m1 := mLnLess wr rb 4 _ cl
      have CL : Hid _ := lnLess g n cap M k i wr HO.out.rg hkn (by omega)
      clear cl
      go_wp2_with fail
      refine Calls.mono CL.out ?_
      rintro e y ⟨rfl, q, rfl⟩
      clear CL m1
      have HG2 : Hid (w.grownBy (wr.drewN q) (some g)) := grown_drew HG.out q
      have HO2 : Hid (OG (Value.int .i64) B 3 (wr.drewN q) (.slice (some ⟨g, 0, none⟩) n cap) M) := HO.out.of_blocks fun _ _ => by rw [heap_drewG]
      clear HO HG
      generalize wr.drewN q = y at *
      by_cases hlt : M.getD k 0 < M.getD i 0
      · have HE : Hid (upL (swp M i k) i = N) := by show _ = _; rw [← HN.out]; have h := hlt; rw [HI.out] at h ⊢; exact (upL_yes hk0 h).symm
        rw [decide_eq_true hlt]
        clear HN hlt
        have cl := (HRW.out y HG2.out).cell
        have m2 := mLnSwap y rb 4 _ cl
        have CS : Hid _ := lnSwap B g n cap M i k y HO2.out (by omega) hkn
        clear cl
        go_wp2_with fail
        refine Calls.mono CS.out ?_
        rintro e z ⟨rfl, hz1, hz2⟩
        clear CS m2
        have HO3 : Hid (OG (Value.int .i64) B 3 z (.slice (some ⟨g, 0, none⟩) n cap) (swp M i k)) := hz1
        have HG3 : Hid (w.grownBy z (some g)) := grown_tr HG2.out hz2
        clear hz1 hz2 HO2 HG2
        go_wp2
        go_roundg i
        case measure => omega
        case rel => exact ⟨i, _, rfl, Nat.le_refl _, by omega, HO3, HE, HG3⟩
      · have HE : Hid (M = N) := by show _ = _; rw [← HN.out]; have h := hlt; rw [HI.out] at h; exact (upL_no h).symm
        rw [decide_eq_false hlt]
        clear HN hlt
        go_wp2
        go_end0
        exact ⟨rfl, by rw [← HE.out]; exact HO2.out, HG2.out⟩
end Go.Proofs.Ytcadljpdokhpmaa

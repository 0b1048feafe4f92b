/-
  Proved here: the iterator under Scan's loop, its rounds given.
-/
import Derived.Test.YtlemnbegblpllaaDoorLexScA
namespace Go.Proofs.YtlemnbegblpllaaDoor
open Go.RowKit Go.Shelf

set_option maxHeartbeats 1600000 in
theorem scan_each (s : ByteArray) (m : Int) (hz : s.size < 4294967281) (w : World) (b : Nat) (hb : w.heap.size = b) (lo : Loop)
    (htok : ∀ lo', lo' = lo → ∀ i outs W1 v k ms li co j, Pre s i outs → nextOut s i = .tok k ms li co j → ScC w b lo' outs W1 → W1.heap[b + 2]? = some (.cells #[v] 23 (0, 0)) → W1.ownsRow (b + 7) 38 4 v outs.length (outs.flatMap tokCells) → b + 6 < W1.heap.size →
      YieldAt Fence.wide 2 Tryd.prog (b + 5) #[.agg #[.int .i8 k, .string ms, .int .i64 (li : Int), .int .i64 (co : Int)], .nilIface] W1 fun e W' => e = .returned (.bool true) ∧ ScC w b lo' (outs ++ [.tok k ms li co j]) W' ∧ W1.heap.size ≤ W'.heap.size ∧ ∀ k, k < W1.heap.size → k ≠ b + 2 → k ≠ b + 5 → some k ≠ v.ownBlock → W'.heap[k]? = W1.heap[k]?)
    (hflt : ∀ lo', lo' = lo → ∀ i outs W1 c li co wd fb, Pre s i outs → nextOut s i = .flt c li co wd → ScC w b lo' outs W1 → b ≤ fb → FtC W1 fb (.int .i64 c) (.int .i64 (li : Int)) (.int .i64 (co : Int)) (.string wd) →
      YieldAt Fence.wide 2 Tryd.prog (b + 5) #[.agg #[.int .i8 0, .string ⟨#[]⟩, .int .i64 0, .int .i64 0], .iface 50 (.pointer (some ⟨fb, 0, none⟩))] W1 fun e W' => e = .returned (.bool false) ∧ ScX w b s { lo' with state := .done, pending := some .ret } W')
    (W : World) (hW : W.heap.size = b + 6) (hm : w.cell? ⟨1, 0, none⟩ = some (.int .i64 m)) (hbx : W.cell? ⟨b + 3, 0, none⟩ = some (.string s)) (h0 : ScC w b lo [] W) :
    CallsIn Fence.wide 3 Tryd.prog 24 #[.func (.yield (b + 5)) #[] #[], .pointer (some ⟨b + 3, 0, none⟩)] W fun e W2 => (∃ v, e = .returned v) ∧
      ((∃ outs, fltOf outs = none ∧ allF s 0 = outs ∧ ScC w b lo outs W2) ∨ ScX w b s { lo with state := .done, pending := some .ret } W2) := by
  have h1 : 1 < b := by rw [← hb]; exact block_lt_of_cell hm
  refine CallsIn.mono (each1_in 3 (by decide) (b + 5) (b + 3) (b + 6) s m hz (fun i W => ∃ outs, Pre s i outs ∧ ScC w b lo outs W)
    (fun i W => ∃ outs, Pre s i outs ∧ (nextOut s i).isTok = true ∧ ScC w b lo (outs ++ [nextOut s i]) W) (fun W => ScX w b s { lo with state := .done, pending := some .ret } W) ?_ ?_ ?_ W hW (by omega) hbx ?_ ⟨[], Pre.nil s, h0⟩) ?_
  · rintro i A B ⟨outs, hp, hc⟩ ho
    exact ⟨outs, hp, hc.off ho⟩
  · rintro i W0 Wm W1 tv ev ⟨outs, hp, hc⟩ hN hb1 hs1
    have hoff := hN.see.1
    have hc1 : ScC w b lo outs W1 := (hc.off hoff).below hb1
    cases hn : nextOut s i with
    | tok k ms li co j =>
      rw [hn] at hN
      obtain ⟨hv, hrd, ho⟩ := hN
      have hv := congrArg (fun x => match x with | Value.tuple l => l.toList | _ => []) hv
      simp only [List.cons.injEq, and_true] at hv
      obtain ⟨rfl, rfl⟩ := hv
      obtain ⟨v, hv2, hr⟩ := hc1.row
      obtain ⟨v0, hv0, hr0⟩ := hc.row
      have hvv : v0 = v := by
        have h2 : W1.heap[b + 2]? = W0.heap[b + 2]? := by
          have hl := hc.lt
          rw [hb1.block _ (by have := ho.size; omega), ho.block _ (by omega) (fun e => by have := Option.some.inj e; omega)]
        rw [hv2, hv0] at h2
        have h3 := Option.some.inj h2
        simp only [Obj.cells.injEq] at h3
        have h4 := congrArg Array.toList h3.1
        simp only [List.cons.injEq, and_true] at h4
        exact h4.symm
      subst hvv
      have hlt6 : b + 6 < W1.heap.size := by have := hrd.lt; omega
      refine (htok lo rfl i outs W1 v0 k ms li co j hp hn hc1 hv2 hr hlt6).mono ?_
      rintro e W' ⟨rfl, hc', hsz, hkk⟩
      refine .inl ⟨rfl, ⟨outs, hp, rfl, hc'⟩, hsz, ?_, ?_, ?_⟩
      · exact hkk _ hlt6 (by omega) (by omega) (fun e => by have := (hr.lt _ e.symm).1; omega)
      · exact hkk _ (by omega) (by omega) (by omega) (fun e => by have := (hr.lt _ e.symm).1; omega)
      · intro q hq1 hq2
        have hl := hc.lt
        have hoz := ho.size
        exact hkk _ hq2 (by omega) (by omega) (fun e => by have := (hr0.lt _ e.symm).2; omega)
    | flt c li co wd =>
      rw [hn] at hN
      obtain ⟨fb, hfb, hv, hF, ho⟩ := hN
      have hv := congrArg (fun x => match x with | Value.tuple l => l.toList | _ => []) hv
      simp only [List.cons.injEq, and_true] at hv
      obtain ⟨rfl, rfl⟩ := hv
      refine (hflt lo rfl i outs W1 c li co wd fb hp hn hc1 (by have := hc.lt; omega) (hF.below hb1)).mono ?_
      rintro e W' ⟨rfl, hx⟩
      exact .inr ⟨rfl, hx⟩
  · rintro i W' hl ⟨outs, hp, ht, hc⟩
    exact ⟨_, hp.step hl, hc⟩
  · rw [h0.bel.cell (p := ⟨1, 0, none⟩) (by show 1 < b; exact h1)]
    exact hm
  · rintro e W2 ⟨hv, ⟨i, hl, outs, hp, ht, hc⟩ | hx⟩
    · refine ⟨hv, .inl ⟨_, ?_, hp.last hl, hc⟩⟩
      rw [fltOf_toks _ _ hp.toks]
      cases hn : nextOut s i with
      | tok k ms li co j => rfl
      | flt c li co wd => rw [hn] at ht; cases ht
    · exact ⟨hv, .inr hx⟩
end Go.Proofs.YtlemnbegblpllaaDoor

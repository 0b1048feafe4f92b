/-
  Proved here: the law's written and alike; a list of ints that was handed in.
  Proved here: how LexApart stands while it writes the text anew.
-/
import Derived.Test.YtlemnbegblpllaaDoorLexApartN
import Derived.Test.YtlemnbegblpllaaDoorLexQ
import Derived.OpenShut
namespace Go.Proofs.YtlemnbegblpllaaDoor
open Go.RowKit

theorem rem_six (z : Int) : -6 < z.tmod 6 ∧ z.tmod 6 < 6 ∧ (z.tmod 6 < 0 → z.tmod 6 + 6 = z % 6) ∧ (0 ≤ z.tmod 6 → z.tmod 6 = z % 6) := by
  rcases Int.le_total 0 z with h | h
  · rw [Int.tmod_eq_emod_of_nonneg h]; omega
  · obtain ⟨y, rfl⟩ : ∃ y, z = -y := ⟨-z, by omega⟩
    rw [Int.neg_tmod, Int.tmod_eq_emod_of_nonneg (by omega)]; omega
/-- A list of ints that can be read. -/
def IR (w : World) (v : Value) (zs : List Int) : Prop :=
  ∃ ao cap, v = .slice ao zs.length cap ∧ zs.length ≤ maxLen ∧ (∀ i, i < zs.length → -9223372036854775808 ≤ zs.getD i 0 ∧ zs.getD i 0 ≤ 9223372036854775807) ∧ ∀ i, i < zs.length → ∃ g o, ao = some ⟨g, o, none⟩ ∧ w.cell? ⟨g, o + i, none⟩ = some (.int .i64 (zs.getD i 0))
theorem IR.nil (w : World) : IR w (.slice none 0 0) [] := ⟨none, 0, rfl, Nat.zero_le _, fun _ h => absurd h (Nat.not_lt_zero _), fun _ h => absurd h (Nat.not_lt_zero _)⟩
theorem ir_of_ints {W : World} {x : Addr} {len cap : Nat} {zs : List Int} (hl : len ≤ cap) (hm : cap ≤ maxLen) (hz : zs.length = cap)
    (hcell : ∀ i, i < zs.length → W.cell? (x.add i) = some (.int .i64 (zs.getD i 0))) (hwz : ∀ n ∈ zs, (Lit.int .i64 n).wf = true) : ∃ ys, IR W (.slice (some x) len cap) ys := by
  have hlen : (zs.take len).length = len := by simp; omega
  have hget : ∀ i, i < len → (zs.take len).getD i 0 = zs.getD i 0 := fun i hi => by
    rw [List.getD_eq_getElem?_getD, List.getD_eq_getElem?_getD, List.getElem?_take_of_lt hi]
  refine ⟨zs.take len, some x, cap, by rw [hlen], by rw [hlen]; omega, fun i hi => ?_, fun i hi => ?_⟩
  · rw [hlen] at hi
    rw [hget i hi]
    have hiz : i < zs.length := by omega
    have h1 := hwz _ (List.getElem_mem hiz)
    have h1 : IntKind.i64.min ≤ zs[i] ∧ zs[i] ≤ IntKind.i64.max := by simpa [Lit.wf] using h1
    have e1 : IntKind.i64.min = -9223372036854775808 := by decide
    have e2 : IntKind.i64.max = 9223372036854775807 := by decide
    rw [e1, e2] at h1
    rw [List.getD_eq_getElem?_getD, List.getElem?_eq_getElem hiz]
    exact h1
  · rw [hlen] at hi
    have hc := hcell i (by omega)
    obtain ⟨b, off, spot⟩ := x
    have hspot : spot = none := by
      have := World.cell?_spot (hcell 0 (by omega))
      simpa [Addr.add] using this
    subst hspot
    refine ⟨b, off, rfl, ?_⟩
    rw [Addr.add_lit] at hc
    rw [hc, hget i hi]
set_option maxRecDepth 100000 in
set_option maxHeartbeats 3200000 in
theorem written_any (k : Int) (ms : ByteArray) (li co : Int) (w : World) (hs : ms.size ≤ 35184372088832) :
    Calls Tryd.prog 21 #[.agg #[.int .i8 k, .string ms, .int .i64 li, .int .i64 co]] w fun e w' => e = .returned (.string (wrB k ms)) ∧ Below w.heap.size w w' := by
  have hq := fun w => quote_any ms w hs
  obtain ⟨W1, hW1⟩ : ∃ W1, w.alloc (.cells #[.int .i8 k, .string ms, .int .i64 li, .int .i64 co] 38) = W1 := ⟨_, rfl⟩
  have hb1 : Below w.heap.size w W1 := by rw [← hW1]; exact belowA1 w _
  have hT : TkC W1 w.heap.size (.int .i8 k) (.string ms) (.int .i64 li) (.int .i64 co) := by rw [← hW1]; exact tkc_new _ rfl
  obtain ⟨t0, t1, t2, t3⟩ := hT.cells
  clear hT
  by_cases h3 : k = 3
  · have HW : Hid (wrB k ms = quoteF ms) := if_pos h3
    have hkb : (k == 3) = true := by rw [h3]; rfl
    clear h3
    go_enter Tryd.func21, Tryd.ntmps21
    go_wp2_with fail
    (try rw [hW1])
    refine (hq _).mono ?_
    rintro e w2 ⟨rfl, b2⟩
    go_wp2
    go_ret
    exact ⟨by rw [HW.out]; rfl, bstep1 hb1 b2⟩
  · have HW : Hid (wrB k ms = ms) := if_neg h3
    have hkb : (k == 3) = false := beq_eq_false_iff_ne.2 h3
    clear h3 hq
    go_enter Tryd.func21, Tryd.ntmps21
    go_wp2
    (try rw [hW1])
    go_ret
    exact ⟨by rw [HW.out]; rfl, hb1⟩
set_option maxRecDepth 100000 in
set_option maxHeartbeats 3200000 in
theorem alike_yes (g cap g2 cap2 n : Nat) (oa ob : List Out) (w : World) (ha : TR w (.slice (some ⟨g, 0, none⟩) n cap) oa) (hb : TR w (.slice (some ⟨g2, 0, none⟩) n cap2) ob) (hna : n = oa.length) (hnb : n = ob.length) (hz : n < 4294967300)
    (he : ∀ (i : Nat) (k : Int) (ms : ByteArray) (li co j : Nat) (k2 : Int) (ms2 : ByteArray) (li2 co2 j2 : Nat), oa[i]? = some (Out.tok k ms li co j) → ob[i]? = some (Out.tok k2 ms2 li2 co2 j2) → k = k2 ∧ ms = ms2) :
    Calls Tryd.prog 22 #[.slice (some ⟨g, 0, none⟩) n cap, .slice (some ⟨g2, 0, none⟩) n cap2] w fun e w' => e = .returned (.bool true) ∧ Below w.heap.size w w' := by
  have hta := ha.toks
  have htb := hb.toks
  rcases ha.form with ⟨h, _⟩ | ⟨g', cap', h, _, hcA⟩
  · simp only [Value.slice.injEq] at h; cases h.1
  rcases hb.form with ⟨h2, _⟩ | ⟨g2', cap2', h2, _, hcB⟩
  · simp only [Value.slice.injEq] at h2; cases h2.1
  simp only [Value.slice.injEq, Option.some.injEq, Addr.mk.injEq, and_true] at h h2
  obtain ⟨rfl, _, rfl⟩ := h
  obtain ⟨rfl, _, rfl⟩ := h2
  clear ha hb
  go_enter Tryd.func22, Tryd.ntmps22
  go_wp2_with fail
  go_loopw [5] (fun t wr => ∃ i : Nat, i ≤ n ∧ t = .int .i64 i ∧ ∃ q, wr = w.drewN q) (fun t _ => n - (intOf t).toNat)
  case atStart => exact ⟨0, Nat.zero_le _, rfl, 0, rfl⟩
  case round =>
    obtain ⟨i, hin, rfl, q, rfl⟩ := hrel
    by_cases hlt : i < n
    · have hge : (i : Int) < (n : Int) := by omega
      have hlo : i < oa.length := by omega
      have hlo2 : i < ob.length := by omega
      cases ho : oa[i] with
      | flt c li co wd => exact absurd (hta _ (List.getElem_mem hlo)) (by rw [ho]; exact fun h => by cases h)
      | tok k ms li co j =>
        cases ho2 : ob[i] with
        | flt c li co wd => exact absurd (htb _ (List.getElem_mem hlo2)) (by rw [ho2]; exact fun h => by cases h)
        | tok k2 ms2 li2 co2 j2 =>
          have hget : oa[i]? = some (.tok k ms li co j) := by rw [List.getElem?_eq_getElem hlo, ho]
          have hget2 : ob[i]? = some (.tok k2 ms2 li2 co2 j2) := by rw [List.getElem?_eq_getElem hlo2, ho2]
          obtain ⟨rfl, rfl⟩ := he i _ _ _ _ _ _ _ _ _ _ hget hget2
          have D := below_drewN (Below.refl w.heap.size w) q
          obtain ⟨a0, a1, _, _⟩ := hcA i k ms li co j hget
          obtain ⟨c0, c1, _, _⟩ := hcB i k ms li2 co2 j2 hget2
          replace a0 := keepB2 D a0
          replace a1 := keepB2 D a1
          replace c0 := keepB2 D c0
          replace c1 := keepB2 D c1
          have HW : Hid (∀ r, ∃ q', (w.drewN q).drewN r = w.drewN q') := fun r => ⟨q + r, drewN_add w q r⟩
          clear hcA hcB hget hget2 ho ho2 hta htb D hna hnb hlo hlo2 he
          generalize w.drewN q = W at *
          go_wp2_with fail
          go_quiet (fail)
          go_wp2
          go_roundw
          case rel => exact ⟨i + 1, by omega, by go_num, HW.out _⟩
          case measure => simp [intOf]; omega
    · have hge : ¬ (i : Int) < (n : Int) := by omega
      clear hcA hcB hta htb hna hnb he
      go_wp2
      go_ret
      exact ⟨rfl, below_drewN (Below.refl _ _) q⟩
end Go.Proofs.YtlemnbegblpllaaDoor

namespace Go.Proofs.YtlemnbegblpllaaDoor
open Go.RowKit
theorem below_drew1 (w : World) : Below w.heap.size w w.drew := (Below.refl _ _).drew
/-- The six gaps, as they lie in memory. -/
def gapCells : Array Value := #[.string ⟨#[32]⟩, .string ⟨#[10]⟩, .string ⟨#[9, 13, 32]⟩, .string ⟨#[32, 47, 42, 32, 97, 32, 34, 32, 98, 32, 42, 47]⟩, .string ⟨#[10, 47, 47, 32, 120, 10]⟩, .string ⟨#[9, 47, 42, 42, 42, 47]⟩]
/-- Which gap stands behind a word. -/
def gkF (zs : List Int) (i : Nat) : Nat := if i < zs.length then (zs.getD i 0 % 6).toNat else 0
theorem gk_lt (zs : List Int) (i : Nat) : gkF zs i < 6 := by
  unfold gkF; split
  · omega
  · decide
theorem gap_cell {W : World} {gb : Nat} (h : W.heap[gb]? = some (.cells gapCells 9 (0, 0))) {K : Nat} (hK : K < 6) : W.cell? ⟨gb, K, none⟩ = some (.string (gapOf K)) := by
  match K, hK with
  | 0, _ => simp [World.cell?, h, gapCells]; rfl
  | 1, _ => simp [World.cell?, h, gapCells]; rfl
  | 2, _ => simp [World.cell?, h, gapCells]; rfl
  | 3, _ => simp [World.cell?, h, gapCells]; rfl
  | 4, _ => simp [World.cell?, h, gapCells]; rfl
  | 5, _ => simp [World.cell?, h, gapCells]; rfl
/-- Ints in a row of the call's own. -/
def nI (x : Nat) : Value := .int .i64 (x : Int)
structure ApC (w : World) (B gb : Nat) (vl sv : Value) (al : List Out) (ss : List Nat) (W : World) : Prop where
  tl : TR W vl al
  gp : W.heap[gb]? = some (.cells gapCells 9 (0, 0))
  st : W.ownsRow B 3 1 sv ss.length (ss.map nI)
  bel : Below w.heap.size w W
  hB : B ≤ W.heap.size
  lv : ∀ g, vl.ownBlock = some g → g < B
  lg : gb < B
  lw : w.heap.size ≤ B
theorem ApC.below {w : World} {B gb : Nat} {vl sv : Value} {al : List Out} {ss : List Nat} {W W' : World} (h : ApC w B gb vl sv al ss W) (b : Below W.heap.size W W') : ApC w B gb vl sv al ss W' := by
  have h1 := h.hB
  have h2 := h.lg
  exact ⟨h.tl.below b, by rw [b.block _ (by omega)]; exact h.gp, h.st.kept (Off.of (g := W.heap.size) b) (.inr fun e => by have := (h.st.lt _ e).2; omega), bstep1 h.bel b, Nat.le_trans h.hB b.size, h.lv, h.lg, h.lw⟩
theorem ApC.push {w : World} {B gb : Nat} {vl sv sv' : Value} {al : List Out} {ss : List Nat} {x : Nat} {W W' : World} (h : ApC w B gb vl sv al ss W) (hg : W.grownBy W' sv.ownBlock) (hr : W'.ownsRow B 3 1 sv' (ss.length + 1) (ss.map nI ++ [nI x])) : ApC w B gb vl sv' al (ss ++ [x]) W' := by
  have h1 := h.hB
  have h2 := h.lg
  have h3 := h.lw
  have hne : ∀ k, k < B → some k ≠ sv.ownBlock := fun k hk e => by have := (h.st.lt k e.symm).1; omega
  have hk : ∀ k, k < B → W'.heap[k]? = W.heap[k]? := fun k hk => hg.block k (by omega) (hne k hk)
  refine ⟨h.tl.grown hg ?_, by rw [hk _ h2]; exact h.gp, ?_, h.bel.trans ⟨hg.os, hg.tape, hg.output, hg.size, fun k hkb => hk k (by omega)⟩, Nat.le_trans h1 hg.size, h.lv, h.lg, h.lw⟩
  · rcases hv : vl.ownBlock with _ | g
    · exact .inl rfl
    · exact .inr (hne g (h.lv g hv))
  · rw [List.length_append, List.map_append]; exact hr
end Go.Proofs.YtlemnbegblpllaaDoor

/-
  Proved here: what Each of package lex answers.
  Proved here: all that is told of a text, as one list that goes on from word to word.
  Proved here: a loop over Each's iterator, its rounds given: whatever is told is told to the loop, in order.
-/
import Derived.Test.YtlemnbegblpllaaDoorLexT
namespace Go.Proofs.YtlemnbegblpllaaDoor
open Go.RowKit Go.Shelf

set_option maxRecDepth 100000 in
set_option maxHeartbeats 1600000 in
theorem each_any (s : ByteArray) (w : World) :
    Calls Tryd.prog 15 #[.string s] w fun e w' => e = .returned (.func (.func 24) #[] #[.pointer (some ⟨w.heap.size, 0, none⟩)]) ∧ w' = w.alloc (.cells #[.string s] 9) := by
  go_enter Tryd.func15, Tryd.ntmps15
  go_wp2
  go_ret
  exact ⟨rfl, rfl⟩

/-- What is told, as Scan collects it: the words, where no fault is met. -/
def scanF (s : ByteArray) : Nat → Nat → List Out × Option Out
  | 0, _ => ([], none)
  | n + 1, i => match nextOut s i with
    | .flt c li co wd => ([], some (.flt c li co wd))
    | .tok k ms li co j => if k = 0 then ([.tok k ms li co j], none) else (.tok k ms li co j :: (scanF s n j).1, (scanF s n j).2)
/-- A word's four cells. -/
def tokCells : Out → List Value
  | .tok k ms li co _ => [.int .i8 k, .string ms, .int .i64 (li : Int), .int .i64 (co : Int)]
  | .flt _ _ _ _ => []
end Go.Proofs.YtlemnbegblpllaaDoor

namespace Go.Proofs.YtlemnbegblpllaaDoor
open Go.RowKit

theorem tolds_fuel (s : ByteArray) : ∀ n m i, i ≤ s.size → s.size - i < n → s.size - i < m → tolds s n i = tolds s m i
  | 0, _, _, _, h, _ => absurd h (Nat.not_lt_zero _)
  | _, 0, _, _, _, h => absurd h (Nat.not_lt_zero _)
  | n + 1, m + 1, i, hi, h1, h2 => by
    show nextOut s i :: _ = nextOut s i :: _
    congr 1
    by_cases hl : (nextOut s i).last = true
    · rw [if_pos hl, if_pos hl]
    · rw [if_neg hl, if_neg hl]
      have ha := Out.adv hi (Bool.eq_false_iff.2 hl)
      exact tolds_fuel s n m _ ha.2 (by omega) (by omega)
/-- All that is told from a place on. -/
def allF (s : ByteArray) (i : Nat) : List Out := tolds s (s.size + 1) i
theorem allF_eq {s : ByteArray} {i : Nat} (hi : i ≤ s.size) : allF s i = nextOut s i :: (if (nextOut s i).last = true then [] else allF s (nextOut s i).goes) := by
  show nextOut s i :: _ = nextOut s i :: _
  congr 1
  by_cases hl : (nextOut s i).last = true
  · rw [if_pos hl, if_pos hl]
  · rw [if_neg hl, if_neg hl]
    have ha := Out.adv hi (Bool.eq_false_iff.2 hl)
    exact tolds_fuel s _ _ _ ha.2 (by omega) (by omega)
theorem allF_last {s : ByteArray} {i : Nat} (hi : i ≤ s.size) (h : (nextOut s i).last = true) : allF s i = [nextOut s i] := by rw [allF_eq hi, if_pos h]
theorem allF_goes {s : ByteArray} {i : Nat} (hi : i ≤ s.size) (h : (nextOut s i).last = false) : allF s i = nextOut s i :: allF s (nextOut s i).goes := by rw [allF_eq hi, if_neg (by rw [h]; exact Bool.false_ne_true)]
/-- Is it a word? -/
def Out.isTok : Out → Bool
  | .tok _ _ _ _ _ => true
  | .flt _ _ _ _ => false
/-- Words told one by one, up to a place. -/
structure Pre (s : ByteArray) (i : Nat) (outs : List Out) : Prop where
  le : i ≤ s.size
  all : allF s 0 = outs ++ allF s i
  toks : ∀ o ∈ outs, o.isTok = true
  len : outs.length ≤ i
theorem Pre.nil (s : ByteArray) : Pre s 0 [] := ⟨Nat.zero_le _, rfl, fun _ h => absurd h List.not_mem_nil, Nat.le_refl _⟩
theorem Pre.step {s : ByteArray} {i : Nat} {outs : List Out} (h : Pre s i outs) (hl : (nextOut s i).last = false) : Pre s (nextOut s i).goes (outs ++ [nextOut s i]) := by
  have ha := Out.adv h.le hl
  refine ⟨ha.2, ?_, ?_, ?_⟩
  · rw [h.all, allF_goes h.le hl, List.append_assoc]; rfl
  · intro o ho
    rcases List.mem_append.1 ho with h1 | h1
    · exact h.toks o h1
    · rw [List.mem_singleton.1 h1]
      cases hn : nextOut s i with
      | tok k ms li co j => rfl
      | flt c li co wd => rw [hn] at hl; cases hl
  · have := h.len; rw [List.length_append, List.length_singleton]; omega
theorem Pre.last {s : ByteArray} {i : Nat} {outs : List Out} (h : Pre s i outs) (hl : (nextOut s i).last = true) : allF s 0 = outs ++ [nextOut s i] := by rw [h.all, allF_last h.le hl]
/-- The fault that is told, if one is. -/
def fltOf : List Out → Option (Int × Nat × Nat × ByteArray)
  | [] => none
  | .flt c li co wd :: _ => some (c, li, co, wd)
  | .tok _ _ _ _ _ :: r => fltOf r
theorem fltOf_toks : ∀ (outs r : List Out), (∀ o ∈ outs, o.isTok = true) → fltOf (outs ++ r) = fltOf r
  | [], _, _ => rfl
  | .tok _ _ _ _ _ :: l, r, h => fltOf_toks l r (fun o ho => h o (List.mem_cons_of_mem _ ho))
  | .flt _ _ _ _ :: l, r, h => absurd (h _ List.mem_cons_self) (fun h => by cases h)
theorem fltOf_none : ∀ (l : List Out), fltOf l = none → ∀ o ∈ l, o.isTok = true
  | [], _, _, h => absurd h List.not_mem_nil
  | .tok _ _ _ _ _ :: l, h, o, ho => by
    rcases List.mem_cons.1 ho with rfl | h1
    · rfl
    · exact fltOf_none l h o h1
  | .flt _ _ _ _ :: l, h, _, _ => by cases h
end Go.Proofs.YtlemnbegblpllaaDoor

namespace Go.Proofs.YtlemnbegblpllaaDoor
open Go.RowKit Go.Shelf
/-- What a round is handed. -/
def TV (b : Nat) : Out → Value → Value → World → Prop
  | .tok k ms li co _, tv, ev, _ => tv = .agg #[.int .i8 k, .string ms, .int .i64 (li : Int), .int .i64 (co : Int)] ∧ ev = .nilIface
  | .flt c li co wd, tv, ev, W => tv = .agg #[.int .i8 0, .string ⟨#[]⟩, .int .i64 0, .int .i64 0] ∧ ∃ fb, b ≤ fb ∧ ev = .iface 50 (.pointer (some ⟨fb, 0, none⟩)) ∧ FtC W fb (.int .i64 c) (.int .i64 (li : Int)) (.int .i64 (co : Int)) (.string wd)
set_option maxHeartbeats 1600000 in
theorem each_loop (n : Nat) (hn : 1 ≤ n) (l bx R : Nat) (s : ByteArray) (m : Int) (hz : s.size < 4294967281) (C : List Out → World → Prop) (X : World → Prop)
    (hoff : ∀ outs A B, C outs A → Off R A B → C outs B)
    (hrd : ∀ i outs W1 tv ev, Pre s i outs → TV R (nextOut s i) tv ev W1 → C outs W1 → R < W1.heap.size →
      YieldAt Fence.wide (n - 1) Tryd.prog l #[tv, ev] W1 fun e W' => (e = .returned (.bool true) ∧ C (outs ++ [nextOut s i]) W' ∧ W1.heap.size ≤ W'.heap.size ∧ ∀ k, (k = 1 ∨ R ≤ k) → k < W1.heap.size → W'.heap[k]? = W1.heap[k]?) ∨ (e = .returned (.bool false) ∧ X W'))
    (W : World) (hR : W.heap.size = R) (h1R : 1 < R) (hb : W.cell? ⟨bx, 0, none⟩ = some (.string s)) (hm : W.cell? ⟨1, 0, none⟩ = some (.int .i64 m)) (h0 : C [] W) :
    CallsIn Fence.wide n Tryd.prog 24 #[.func (.yield l) #[] #[], .pointer (some ⟨bx, 0, none⟩)] W fun e W' => (∃ v, e = .returned v) ∧ (C (allF s 0) W' ∨ X W') := by
  refine CallsIn.mono (each1_in n hn l bx R s m hz (fun i W => ∃ outs, Pre s i outs ∧ C outs W ∧ R ≤ W.heap.size)
    (fun i W => ∃ outs, Pre s i outs ∧ C (outs ++ [nextOut s i]) W ∧ R ≤ W.heap.size) X ?_ ?_ ?_ W hR h1R hb hm ⟨[], Pre.nil s, h0, Nat.le_of_eq hR.symm⟩) ?_
  · rintro i A B ⟨outs, hp, hc, hl⟩ ho
    exact ⟨outs, hp, hoff _ _ _ hc ho, Nat.le_trans hl ho.size⟩
  · rintro i W0 Wm W1 tv ev ⟨outs, hp, hc, hl⟩ hN hb1 hs1
    have hoff' := hN.see.1
    have hc1 := hoff _ _ _ (hoff _ _ _ hc hoff') (Off.of hb1)
    have hRm : R ≤ Wm.heap.size := Nat.le_trans hl hoff'.size
    have htv : TV R (nextOut s i) tv ev W1 := by
      cases hn : nextOut s i with
      | tok k ms li co j =>
        rw [hn] at hN
        obtain ⟨hv, _, _⟩ := hN
        have hv := congrArg (fun x => match x with | Value.tuple l => l.toList | _ => []) hv
        simp only [List.cons.injEq, and_true] at hv
        exact hv
      | flt c li co wd =>
        rw [hn] at hN
        obtain ⟨fb, hfb, hv, hF, _⟩ := hN
        have hv := congrArg (fun x => match x with | Value.tuple l => l.toList | _ => []) hv
        simp only [List.cons.injEq, and_true] at hv
        exact ⟨hv.1, fb, Nat.le_trans hl hfb, hv.2, hF.below hb1⟩
    refine (hrd i outs W1 tv ev hp htv hc1 (by omega)).mono ?_
    rintro e W' (⟨rfl, h1, h2, h3⟩ | ⟨rfl, h1⟩)
    · exact .inl ⟨rfl, ⟨outs, hp, h1, by omega⟩, h2, h3 R (.inr (Nat.le_refl _)) (by omega), h3 1 (.inl rfl) (by omega), fun k hk1 hk2 => h3 k (.inr (by omega)) hk2⟩
    · exact .inr ⟨rfl, h1⟩
  · rintro i W' hl ⟨outs, hp, hc, hs⟩
    exact ⟨_, hp.step hl, hc, hs⟩
  · rintro e W2 ⟨hv, ⟨i, hl, outs, hp, hc, _⟩ | hx⟩
    · refine ⟨hv, .inl ?_⟩
      rw [hp.last hl]
      exact hc
    · exact ⟨hv, .inr hx⟩
end Go.Proofs.YtlemnbegblpllaaDoor

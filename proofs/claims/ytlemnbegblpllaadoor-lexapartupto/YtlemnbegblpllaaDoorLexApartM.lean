/-
  Proved here: words written anew, with gaps between, are told alike, each at its place.
-/
import Derived.Test.YtlemnbegblpllaaDoorLexRM
import Derived.Test.YtlemnbegblpllaaDoorLexQuotedM
import Derived.Test.YtlemnbegblpllaaDoorLexPushAll
namespace Go.Proofs.YtlemnbegblpllaaDoor
open Go.RowKit

/-- Bytes of one text that stand in another, a blank behind. -/
structure Stands (s : ByteArray) (a : Nat) (u : ByteArray) (p L : Nat) : Prop where
  eq : ∀ t, t < L → atB u (p + t) = atB s (a + t)
  bl : kd (atB u (p + L)) = 1
theorem kd_in {u : ByteArray} {p : Nat} (h : kd (atB u p) = 1) : p < u.size := atB_in (fun e => by rw [e] at h; exact absurd h (by decide))
theorem run_stands {P : Nat → Bool} (hP : ∀ b, kd b = 1 → P b = false) {s u : ByteArray} {a p L : Nat} (h : Stands s a u p L) (ha : a + L ≤ s.size) :
    ∀ n t, L - t = n → t ≤ L → runEnd P s (a + t) ≤ a + L → runEnd P u (p + t) = p + (runEnd P s (a + t) - a)
  | 0, t, hn, ht, hr => by
    obtain rfl : t = L := by omega
    have h1 := le_runEnd P s (a + t)
    have h2 : runEnd P s (a + t) = a + t := by omega
    have h3 : runEnd P u (p + t) = p + t := runEnd_no (fun hc => by rw [hP _ h.bl] at hc; exact absurd hc.2 (by decide))
    rw [h3, h2]; omega
  | n + 1, t, hn, ht, hr => by
    have hl := kd_in h.bl
    have he := h.eq t (by omega)
    by_cases hc : P (atB s (a + t)) = true
    · have e1 : runEnd P s (a + t) = runEnd P s (a + (t + 1)) := runEnd_yes (by omega) hc
      have e2 : runEnd P u (p + t) = runEnd P u (p + (t + 1)) := runEnd_yes (by omega) (by rw [he]; exact hc)
      rw [e1, e2]
      exact run_stands hP h ha n (t + 1) (by omega) (by omega) (by rw [← e1]; exact hr)
    · have e1 : runEnd P s (a + t) = a + t := runEnd_no (fun h => hc h.2)
      have e2 : runEnd P u (p + t) = p + t := runEnd_no (fun h => hc (by rw [← he]; exact h.2))
      rw [e1, e2]; omega
theorem isD_blank (b : Nat) (h : kd b = 1) : isD b = false := by unfold isD; rw [h]; rfl
theorem isW_blank (b : Nat) (h : kd b = 1) : isW b = false := by unfold isW; rw [h]; rfl
theorem ex_stands {s u : ByteArray} {a p L : Nat} (h : Stands s a u p L) (ha : a + L ≤ s.size) {x : Nat} (hx : x ≤ L) : u.extract (p + x) (p + L) = s.extract (a + x) (a + L) := by
  have hl := kd_in h.bl
  refine bytes_ext (by simp only [ByteArray.size_extract]; omega) (fun k hk => ?_)
  simp only [ByteArray.size_extract] at hk
  have e1 := atB_extract (s := u) (i := p + x) (c := L - x) (k := k) (by omega) (by omega)
  have e2 := atB_extract (s := s) (i := a + x) (c := L - x) (k := k) (by omega) (by omega)
  rw [show p + x + (L - x) = p + L by omega] at e1
  rw [show a + x + (L - x) = a + L by omega] at e2
  rw [e1, e2, Nat.add_assoc, h.eq _ (by omega), Nat.add_assoc]
theorem num_stands {s u : ByteArray} {a p L : Nat} (h : Stands s a u p L) (ha : a + L ≤ s.size) (hL : (numEnd s a).2 = a + L) : ∃ x, x ≤ L ∧ (numEnd s a).1 = a + x ∧ numEnd u p = (p + x, p + L) := by
  have hle : a ≤ s.size := by omega
  have f1 := le_runEnd isD s a
  have f2 := runEnd_size isD s hle
  obtain ⟨f3, f4, _⟩ := pt_facts s (runEnd isD s a) f2
  obtain ⟨f5, f6, _, _, _⟩ := xpo_facts s (ptEnd s (runEnd isD s a)) f4
  unfold numEnd at hL ⊢
  have r1 := run_stands isD_blank h ha L 0 (by omega) (by omega)
  rw [Nat.add_zero, Nat.add_zero] at r1
  have r1 := r1 (by omega)
  rw [r1]
  clear r1
  generalize runEnd isD s a = d1 at *
  obtain ⟨t1, rfl⟩ : ∃ t, d1 = a + t := ⟨d1 - a, by omega⟩
  rw [Nat.add_sub_cancel_left]
  -- the point
  have h2 : ptEnd u (p + t1) = p + (ptEnd s (a + t1) - a) := by
    by_cases hc : atB s (a + t1) = 46 ∧ a + t1 + 1 < runEnd isD s (a + t1 + 1)
    · have e : ptEnd s (a + t1) = runEnd isD s (a + t1 + 1) := by unfold ptEnd; rw [if_pos hc]
      rw [e] at f5 f6 hL f3 f4 ⊢
      have r2 := run_stands isD_blank h ha (L - (t1 + 1)) (t1 + 1) rfl (by omega) (by show runEnd isD s (a + t1 + 1) ≤ _; omega)
      have r2 : runEnd isD u (p + t1 + 1) = p + (runEnd isD s (a + t1 + 1) - a) := r2
      have q := h.eq t1 (by omega)
      unfold ptEnd
      rw [q, r2, if_pos ⟨hc.1, by omega⟩]
    · have e : ptEnd s (a + t1) = a + t1 := by unfold ptEnd; rw [if_neg hc]
      rw [e] at f5 f6 hL ⊢
      have hne : atB u (p + t1) ≠ 46 := by
        by_cases hq : t1 = L
        · rw [hq]; intro e2; have := h.bl; rw [e2] at this; exact absurd this (by decide)
        · rw [h.eq t1 (by omega)]
          intro e2
          unfold xpo at hL
          rw [if_neg (fun h => by rw [e2] at h; rcases h.1 with h | h <;> exact absurd h (by decide))] at hL
          dsimp only at hL
          omega
      unfold ptEnd
      rw [if_neg (fun h => hne h.1)]; omega
  rw [h2]
  clear h2
  generalize ptEnd s (a + t1) = d2 at *
  obtain ⟨t2, rfl⟩ : ∃ t, d2 = a + t := ⟨d2 - a, by omega⟩
  rw [Nat.add_sub_cancel_left]
  by_cases hc : (atB s (a + t2) = 101 ∨ atB s (a + t2) = 69) ∧ xFirst s (a + t2) < runEnd isD s (xFirst s (a + t2))
  · have e : xpo s (a + t2) = (xFirst s (a + t2), runEnd isD s (xFirst s (a + t2))) := by unfold xpo; rw [if_pos hc]
    rw [e] at hL f5 f6 ⊢
    dsimp only at hL f5 f6 ⊢
    have hg := xfirst_gt s (a + t2)
    have q0 := h.eq t2 (by omega)
    have q1 : atB u (p + t2 + 1) = atB s (a + t2 + 1) := h.eq (t2 + 1) (by omega)
    have q2 : xFirst u (p + t2) = p + (xFirst s (a + t2) - a) := by
      unfold xFirst
      rw [q1]
      split <;> omega
    generalize xFirst s (a + t2) = x at *
    obtain ⟨t3, rfl⟩ : ∃ t, x = a + t := ⟨x - a, by omega⟩
    rw [Nat.add_sub_cancel_left] at q2
    have r3 := run_stands isD_blank h ha (L - t3) t3 rfl (by omega) (by omega)
    rw [hL, Nat.add_sub_cancel_left] at r3
    refine ⟨t3, by omega, rfl, ?_⟩
    unfold xpo
    rw [q2, r3, q0, if_pos ⟨hc.1, by omega⟩]
  · have e : xpo s (a + t2) = (a + t2, a + t2) := by unfold xpo; rw [if_neg hc]
    rw [e] at hL ⊢
    dsimp only at hL ⊢
    obtain rfl : t2 = L := by omega
    refine ⟨t2, Nat.le_refl _, rfl, ?_⟩
    unfold xpo
    rw [if_neg (fun hq => by
      have := h.bl
      rcases hq.1 with h9 | h9 <;> (rw [h9] at this; exact absurd this (by decide)))]
theorem word_stands {s u : ByteArray} {a p L : Nat} {k : Int} {ms : ByteArray} {li co : Nat} (hw : wordOut s a = .tok k ms li co (a + L)) (hle : a ≤ s.size) (hk : k ≠ 0) (hk3 : k ≠ 3) (h : Stands s a u p L) :
    wordOut u p = .tok k ms (lineOf u p) (colOf u p) (p + L) ∧ ms = s.extract a (a + L) ∧ kd (atB u p) ≠ 1 := by
  obtain ⟨ad1, ad2⟩ := word_adv hle hw hk
  have hl := kd_in h.bl
  have e0 := h.eq 0 (by omega)
  rw [Nat.add_zero, Nat.add_zero] at e0
  have ex := ex_stands h ad2 (Nat.zero_le L)
  rw [Nat.add_zero, Nat.add_zero] at ex
  unfold wordOut at hw ⊢
  rw [if_neg (show ¬ a = s.size by omega)] at hw
  rw [if_neg (show ¬ p = u.size by omega), e0]
  by_cases hk2 : kd (atB s a) = 2
  · rw [if_pos hk2] at hw ⊢
    unfold nameOut at hw ⊢
    by_cases h64 : 64 < runEnd isW s a - a
    · rw [if_pos h64] at hw; cases hw
    · rw [if_neg h64] at hw
      simp only [Out.tok.injEq] at hw
      obtain ⟨rfl, rfl, _, _, hr⟩ := hw
      have r1 := run_stands isW_blank h ad2 L 0 (by omega) (by omega)
      rw [Nat.add_zero, Nat.add_zero] at r1
      have r1 := r1 (by omega)
      rw [hr, Nat.add_sub_cancel_left] at r1
      rw [hr, Nat.add_sub_cancel_left] at h64
      rw [r1, Nat.add_sub_cancel_left, if_neg h64, ex, hr]
      exact ⟨rfl, rfl, by rw [hk2]; decide⟩
  · rw [if_neg hk2] at hw ⊢
    by_cases hk3' : kd (atB s a) = 3
    · rw [if_pos hk3'] at hw ⊢
      unfold numOut at hw ⊢
      by_cases hb : numBad s a = true
      · rw [if_pos hb] at hw; cases hw
      · rw [if_neg hb] at hw
        simp only [Out.tok.injEq] at hw
        obtain ⟨rfl, rfl, _, _, hr⟩ := hw
        obtain ⟨x, hx, e1, e2⟩ := num_stands h ad2 hr
        have hb2 : ¬ numBad u p = true := by
          unfold numBad at hb ⊢
          rw [e2]
          dsimp only
          have e3 : runEnd isW u (p + L) = p + L := runEnd_no (fun hc => by rw [isW_blank _ h.bl] at hc; exact absurd hc.2 (by decide))
          rw [e3, ex_stands h ad2 hx]
          rw [e1, hr] at hb
          intro h9
          apply hb
          rw [Bool.or_eq_true] at h9 ⊢
          rcases h9 with h9 | h9
          · simp at h9
          · exact .inr h9
        rw [if_neg hb2, e2, hr]
        dsimp only
        rw [ex]
        exact ⟨rfl, rfl, by rw [hk3']; decide⟩
    · rw [if_neg hk3'] at hw ⊢
      by_cases hk4 : kd (atB s a) = 4
      · rw [if_pos hk4] at hw
        unfold quoteOut quoteTold at hw
        split at hw
        · simp only [Out.tok.injEq] at hw; exact absurd hw.1.symm hk3
        · cases hw
      · rw [if_neg hk4] at hw ⊢
        by_cases hk5 : kd (atB s a) = 5
        · rw [if_pos hk5] at hw ⊢
          simp only [Out.tok.injEq] at hw
          obtain ⟨rfl, rfl, _, _, hr⟩ := hw
          obtain rfl : L = 1 := by omega
          rw [ex]
          exact ⟨rfl, rfl, by rw [hk5]; decide⟩
        · rw [if_neg hk5] at hw; cases hw
/-- Bytes that were quoted: where they end, and that no line ends among them. -/
theorem qF_plain (s : ByteArray) : ∀ n a acc l j, qF s n a acc = some (l, j) → (∀ x ∈ acc, x ≠ 10 ∧ x < 256) → (∀ x ∈ l, x ≠ 10 ∧ x < 256) ∧ l.length + a ≤ acc.length + j
  | 0, _, _, _, _, h, _ => by cases h
  | n + 1, a, acc, l, j, h, ha => by
    unfold qF at h
    split at h
    · split at h
      · simp only [Option.some.injEq, Prod.mk.injEq] at h
        obtain ⟨rfl, rfl⟩ := h
        exact ⟨ha, by omega⟩
      · split at h
        · cases h
        · rename_i h10
          split at h
          · split at h
            · rename_i hq
              have := qF_plain s n _ _ l j h (fun x hx => by
                rcases List.mem_append.1 hx with h1 | h1
                · exact ha x h1
                · rw [List.mem_singleton.1 h1]; omega)
              rw [List.length_append, List.length_singleton] at this
              exact ⟨this.1, by omega⟩
            · cases h
          · have := qF_plain s n _ _ l j h (fun x hx => by
              rcases List.mem_append.1 hx with h1 | h1
              · exact ha x h1
              · rw [List.mem_singleton.1 h1]; exact ⟨h10, atB_lt s a⟩)
            rw [List.length_append, List.length_singleton] at this
            exact ⟨this.1, by omega⟩
    · cases h
theorem qF_stands {q u : ByteArray} {p L : Nat} (hS : ∀ t, t < L → atB u (p + t) = atB q t) (hu : p + L ≤ u.size) :
    ∀ f t acc l e, qF q f t acc = some (l, e) → e ≤ L → ∀ f', f ≤ f' → qF u f' (p + t) acc = some (l, p + e)
  | 0, _, _, _, _, h, _, _, _ => by cases h
  | f + 1, t, acc, l, e, h, he, f', hf => by
    obtain ⟨g, rfl⟩ : ∃ g, f' = g + 1 := ⟨f' - 1, by omega⟩
    have hend := qF_end q (f + 1) t acc l e h
    have h0 := hS t (by omega)
    unfold qF at h ⊢
    rw [if_pos (show p + t < u.size by omega), h0]
    split at h
    · by_cases h34 : atB q t = 34
      · rw [if_pos h34] at h ⊢
        simp only [Option.some.injEq, Prod.mk.injEq] at h ⊢
        exact ⟨h.1, by omega⟩
      · rw [if_neg h34] at h ⊢
        by_cases h10 : atB q t = 10
        · rw [if_pos h10] at h; cases h
        · rw [if_neg h10] at h ⊢
          by_cases h92 : atB q t = 92
          · rw [if_pos h92] at h ⊢
            by_cases hq : atB q (t + 1) = 34 ∨ atB q (t + 1) = 92
            · rw [if_pos hq] at h
              have hend2 := qF_end q f _ _ l e h
              have h1 : atB u (p + t + 1) = atB q (t + 1) := hS (t + 1) (by omega)
              rw [h1, if_pos hq]
              exact qF_stands hS hu f (t + 2) _ l e h he g (by omega)
            · rw [if_neg hq] at h; cases h
          · rw [if_neg h92] at h ⊢
            exact qF_stands hS hu f (t + 1) _ l e h he g (by omega)
    · cases h
theorem quote_facts {ms : ByteArray} (h10 : ∀ j, j < ms.size → atB ms j ≠ 10) : atB (quoteF ms) 0 = 34 ∧ 0 < (quoteF ms).size ∧ (quoteF ms).size ≤ 2 * ms.size + 2 ∧ qF (quoteF ms) ((quoteF ms).size + 1) 1 [] = some (byTo ms ms.size, (quoteF ms).size) := by
  have hq : quoteF ms = bts (qTo ms ms.size ++ [34]) := if_neg (fun ⟨j, h1, h2⟩ => h10 j h1 h2)
  generalize quoteF ms = q at *
  have hlt : ∀ x ∈ qTo ms ms.size ++ [34], x < 256 := by
    intro x hx
    rcases List.mem_append.1 hx with h | h
    · exact qTo_lt ms _ x h
    · rw [List.mem_singleton.1 h]; decide
  have hat : ∀ i, atB q i = (qTo ms ms.size ++ [34])[i]?.getD 0 := fun i => by rw [hq]; exact atB_bts _ hlt i
  have h0 : atB q 0 = 34 := by
    rw [hat]
    have h1 := qTo_from ms ms.size 0
    rw [Nat.zero_add] at h1
    rw [h1]
    rfl
  have hsz : q.size = (qTo ms ms.size ++ [34]).length := by rw [hq, bts_size]
  rw [List.length_append, List.length_singleton] at hsz
  have hle := qTo_len ms ms.size
  have h2 : ∀ k, k ≤ (qTo ms k).length := fun k => by
    induction k with
    | zero => exact Nat.zero_le _
    | succ k ih =>
      have := (qb_len (atB ms k)).1
      show k + 1 ≤ (qTo ms k ++ qb (atB ms k)).length
      rw [List.length_append]; omega
  have h3 := h2 ms.size
  exact ⟨h0, by omega, by omega, qF_quoted ms h10 q hq ms.size 0 (q.size + 1) (by omega) (by omega)⟩
theorem quote_stands {ms u : ByteArray} {p : Nat} (h10 : ∀ j, j < ms.size → atB ms j ≠ 10) (hS : ∀ t, t < (quoteF ms).size → atB u (p + t) = atB (quoteF ms) t) (hu : p + (quoteF ms).size ≤ u.size) :
    wordOut u p = .tok 3 ms (lineOf u p) (colOf u p) (p + (quoteF ms).size) ∧ atB u p = 34 := by
  obtain ⟨h0, hpos, _, hqf⟩ := quote_facts h10
  have e0 := hS 0 hpos
  rw [Nat.add_zero, h0] at e0
  refine ⟨?_, e0⟩
  unfold wordOut
  rw [if_neg (by omega), e0, if_neg (by decide), if_neg (by decide), if_pos (by decide)]
  unfold quoteOut
  have := qF_stands hS hu _ 1 [] _ _ hqf (Nat.le_refl _) (u.size + 1) (by omega)
  rw [this]
  show Out.tok 3 (bts (byTo ms ms.size)) _ _ _ = _
  rw [bts_byTo]
/-- A word as it is written anew. -/
def wrB (k : Int) (ms : ByteArray) : ByteArray := if k = 3 then quoteF ms else ms
theorem sk_stay {s : ByteArray} {i : Nat} (h1 : kd (atB s i) ≠ 1) (h2 : ¬ (atB s i = 47 ∧ atB s (i + 1) = 47)) (h3 : ¬ (atB s i = 47 ∧ atB s (i + 1) = 42)) : nextOut s i = wordOut s i := by
  unfold nextOut nextTold skF
  rw [if_neg h1, if_neg h2, if_neg h3, if_pos rfl]
theorem word_kinds {s : ByteArray} {a : Nat} {k : Int} {ms : ByteArray} {li co j : Nat} (hw : wordOut s a = .tok k ms li co j) : (k = 0 ∧ ms = ⟨#[]⟩) ∨ (k = 3 ∧ (∀ i, i < ms.size → atB ms i ≠ 10) ∧ ms.size + a + 1 ≤ j) ∨ (k ≠ 0 ∧ k ≠ 3) := by
  unfold wordOut at hw
  split at hw
  · simp only [Out.tok.injEq] at hw
    exact .inl ⟨hw.1.symm, hw.2.1.symm⟩
  · split at hw
    · unfold nameOut at hw
      split at hw
      · cases hw
      · simp only [Out.tok.injEq] at hw
        rw [← hw.1]; exact .inr (.inr ⟨by decide, by decide⟩)
    · split at hw
      · unfold numOut at hw
        split at hw
        · cases hw
        · simp only [Out.tok.injEq] at hw
          rw [← hw.1]; exact .inr (.inr ⟨by decide, by decide⟩)
      · split at hw
        · unfold quoteOut at hw
          cases hq : qF s (s.size + 1) (a + 1) [] with
          | none => rw [hq] at hw; cases hw
          | some r =>
            obtain ⟨l, j'⟩ := r
            rw [hq] at hw
            unfold quoteTold at hw
            simp only [Out.tok.injEq] at hw
            obtain ⟨rfl, rfl, _, _, rfl⟩ := hw
            have hp := qF_plain s _ _ _ l j' hq (fun x hx => absurd hx List.not_mem_nil)
            have hz := bts_size l
            refine .inr (.inl ⟨rfl, fun i hi => ?_, ?_⟩)
            · rw [atB_bts l (fun x hx => (hp.1 x hx).2)]
              rw [hz] at hi
              rw [List.getElem?_eq_getElem hi]
              exact (hp.1 _ (List.getElem_mem hi)).1
            · have := hp.2
              rw [hz]
              simp only [List.length_nil] at this
              omega
        · split at hw
          · simp only [Out.tok.injEq] at hw
            rw [← hw.1]; exact .inr (.inr ⟨by decide, by decide⟩)
          · cases hw
theorem told_anew {s u : ByteArray} {a p : Nat} {k : Int} {ms : ByteArray} {li co j : Nat} (hw : wordOut s a = .tok k ms li co j) (hle : a ≤ s.size) (hk : k ≠ 0)
    (hS : ∀ t, t < (wrB k ms).size → atB u (p + t) = atB (wrB k ms) t) (hb : kd (atB u (p + (wrB k ms).size)) = 1) :
    nextOut u p = .tok k ms (lineOf u p) (colOf u p) (p + (wrB k ms).size) := by
  have hl := kd_in hb
  obtain ⟨ad1, ad2⟩ := word_adv hle hw hk
  rcases word_kinds hw with h0 | ⟨h3, h10, _⟩ | ⟨_, h3⟩
  · exact absurd h0.1 hk
  · subst h3
    have e : wrB 3 ms = quoteF ms := if_pos rfl
    rw [e] at hS hb hl ⊢
    obtain ⟨q1, q2⟩ := quote_stands h10 hS (by omega)
    rw [next_here (by rw [q2]; decide) (by rw [q2]; decide)]
    exact q1
  · have e : wrB k ms = ms := if_neg h3
    rw [e] at hS hb hl ⊢
    obtain ⟨L, rfl⟩ : ∃ L, j = a + L := ⟨j - a, by omega⟩
    have hex : ms = s.extract a (a + L) := by
      unfold wordOut at hw
      rw [if_neg (show ¬ a = s.size by omega)] at hw
      split at hw
      · unfold nameOut at hw
        split at hw
        · cases hw
        · simp only [Out.tok.injEq] at hw
          obtain ⟨_, h1, _, _, h2⟩ := hw
          rw [← h1, h2]
      · split at hw
        · unfold numOut at hw
          split at hw
          · cases hw
          · simp only [Out.tok.injEq] at hw
            obtain ⟨_, h1, _, _, h2⟩ := hw
            rw [← h1, h2]
        · split at hw
          · unfold quoteOut quoteTold at hw
            split at hw
            · simp only [Out.tok.injEq] at hw; exact absurd hw.1.symm h3
            · cases hw
          · split at hw
            · simp only [Out.tok.injEq] at hw
              obtain ⟨_, h1, _, _, h2⟩ := hw
              rw [← h1, h2]
            · cases hw
    have hz : ms.size = L := by rw [hex, ByteArray.size_extract]; omega
    rw [hz] at hS hb hl ⊢
    have hSt : Stands s a u p L := ⟨fun t ht => by rw [hS t ht, hex, atB_extract ad2 ht], hb⟩
    obtain ⟨w1, w2, w3⟩ := word_stands hw hle hk h3 hSt
    have hnc : ∀ b, (b = 47 ∨ b = 42) → ¬ (atB u p = 47 ∧ atB u (p + 1) = b) := by
      rintro b hb2 ⟨h4, h5⟩
      -- a stroke is a word of one byte
      have hL1 : L = 1 := by
        have e0 := hSt.eq 0 (by omega)
        rw [Nat.add_zero, Nat.add_zero, h4] at e0
        unfold wordOut at hw
        rw [if_neg (show ¬ a = s.size by omega), ← e0, if_neg (by decide), if_neg (by decide), if_neg (by decide), if_pos (by decide)] at hw
        simp only [Out.tok.injEq] at hw
        omega
      rw [hL1, h5] at hb
      rcases hb2 with rfl | rfl <;> exact absurd hb (by decide)
    rw [sk_stay w3 (hnc 47 (.inl rfl)) (hnc 42 (.inr rfl))]
    exact w1
/-- Past something that says nothing. -/
theorem next_past {s : ByteArray} {i k : Nat} (hk0 : 0 < k) (hk : i + k ≤ s.size) (he : skF s (s.size + 1) i = skF s s.size (i + k)) : nextOut s i = nextOut s (i + k) := by
  unfold nextOut
  rw [he, sk_fuel s s.size (s.size + 1) (i + k) hk (by omega) (by omega)]
theorem past_blank {s : ByteArray} {i : Nat} (h : kd (atB s i) = 1) : nextOut s i = nextOut s (i + 1) := by
  refine next_past Nat.one_pos (kd_in h) ?_
  show (if kd (atB s i) = 1 then _ else _) = _
  rw [if_pos h]
theorem past_line {s : ByteArray} {i k : Nat} (hk0 : 0 < k) (h0 : atB s i = 47) (h1 : atB s (i + 1) = 47) (hno : ∀ j, j < k → atB s (i + j) ≠ 10) (h : atB s (i + k) = 10) : nextOut s i = nextOut s (i + k) := by
  have hlt : i + k < s.size := atB_in (by rw [h]; decide)
  have hi : i ≤ s.size := by omega
  have hl : lineLen s i = k := by
    rw [← line_shift hi]
    exact lineLen_here (fun j hj => by rw [atB_rest hi]; exact hno j hj) (by rw [rest_size hi]; omega) (.inr (by rw [atB_rest hi]; exact h))
  refine next_past hk0 (by omega) ?_
  show (if kd (atB s i) = 1 then _ else if atB s i = 47 ∧ atB s (i + 1) = 47 then skF s s.size (i + lineLen s i) else _) = _
  rw [if_neg (by rw [h0]; decide), if_pos ⟨h0, h1⟩, hl]
theorem past_block {s : ByteArray} {i k : Nat} (hk2 : 2 ≤ k) (h0 : atB s i = 47) (h1 : atB s (i + 1) = 42) (hno : ∀ j, 2 ≤ j → j < k → ¬ (atB s (i + j) = 42 ∧ atB s (i + j + 1) = 47)) (h : atB s (i + k) = 42) (h' : atB s (i + k + 1) = 47) : nextOut s i = nextOut s (i + (k + 2)) := by
  have hlt : i + k + 1 < s.size := atB_in (by rw [h']; decide)
  have hi : i ≤ s.size := by omega
  have hl : shutAt s i = ((k - 2 : Nat) : Int) := by
    rw [← shut_shift]
    exact shut_here (by rw [rest_size hi]; omega) (fun j hj1 hj2 => by rw [atB_rest hi, atB_rest hi]; exact hno j hj1 hj2) hk2 (by rw [atB_rest hi, atB_rest hi]; exact ⟨h, h'⟩)
  refine next_past (by omega) (by omega) ?_
  show (if kd (atB s i) = 1 then _ else if atB s i = 47 ∧ atB s (i + 1) = 47 then _ else if atB s i = 47 ∧ atB s (i + 1) = 42 then (if shutAt s i < 0 then _ else skF s s.size (i + (2 + (shutAt s i).toNat + 2))) else _) = _
  rw [if_neg (by rw [h0]; decide), if_neg (fun h => by rw [h1] at h; exact absurd h.2 (by decide)), if_pos ⟨h0, h1⟩, hl, if_neg (by omega), show 2 + ((k - 2 : Nat) : Int).toNat + 2 = k + 2 by omega]
/-- The gaps. -/
def gapOf : Nat → ByteArray
  | 0 => ⟨#[32]⟩
  | 1 => ⟨#[10]⟩
  | 2 => ⟨#[9, 13, 32]⟩
  | 3 => ⟨#[32, 47, 42, 32, 97, 32, 34, 32, 98, 32, 42, 47]⟩
  | 4 => ⟨#[10, 47, 47, 32, 120, 10]⟩
  | _ => ⟨#[9, 47, 42, 42, 42, 47]⟩
theorem gap_size (k : Nat) : 1 ≤ (gapOf k).size ∧ (gapOf k).size ≤ 12 := by
  match k with
  | 0 => exact ⟨by decide, by decide⟩
  | 1 => exact ⟨by decide, by decide⟩
  | 2 => exact ⟨by decide, by decide⟩
  | 3 => exact ⟨by decide, by decide⟩
  | 4 => exact ⟨by decide, by decide⟩
  | n + 5 => exact ⟨by show 1 ≤ 6; decide, by show 6 ≤ 12; decide⟩
theorem gap_blank (k : Nat) : kd (atB (gapOf k) 0) = 1 := by
  match k with
  | 0 => rfl
  | 1 => rfl
  | 2 => rfl
  | 3 => rfl
  | 4 => rfl
  | n + 5 => rfl
theorem gap_past {u : ByteArray} {q : Nat} (k : Nat) (h : ∀ t, t < (gapOf k).size → atB u (q + t) = atB (gapOf k) t) : nextOut u q = nextOut u (q + (gapOf k).size) := by
  have hb : kd (atB u q) = 1 := by
    have := h 0 (by have := (gap_size k).1; omega)
    rw [Nat.add_zero] at this
    rw [this]; exact gap_blank k
  rw [past_blank hb]
  match k, h with
  | 0, _ => rfl
  | 1, _ => rfl
  | 2, h =>
    have h1 : atB u (q + 1) = 13 := h 1 (by decide)
    have h2 : atB u (q + 1 + 1) = 32 := h 2 (by decide)
    rw [past_blank (by rw [h1]; decide), past_blank (by rw [h2]; decide)]
    rfl
  | 3, h =>
    have e : ∀ t, t < 12 → atB u (q + t) = atB (gapOf 3) t := h
    rw [past_block (k := 9) (by decide) (e 1 (by decide)) (e 2 (by decide)) (fun j h1 h2 => ?_) (e 10 (by decide)) (e 11 (by decide))]
    · rfl
    · have e1 := e (1 + j) (by omega)
      have e2 := e (1 + j + 1) (by omega)
      rw [show q + 1 + j = q + (1 + j) by omega, show q + (1 + j) + 1 = q + (1 + j + 1) by omega, e1, e2]
      match j, h1, h2 with
      | 2, _, _ => decide
      | 3, _, _ => decide
      | 4, _, _ => decide
      | 5, _, _ => decide
      | 6, _, _ => decide
      | 7, _, _ => decide
      | 8, _, _ => decide
      | 0, h1, _ => omega
      | 1, h1, _ => omega
      | n + 9, _, h2 => omega
  | 4, h =>
    have e : ∀ t, t < 6 → atB u (q + t) = atB (gapOf 4) t := h
    rw [past_line (k := 4) (by decide) (e 1 (by decide)) (e 2 (by decide)) (fun j h1 => ?_) (e 5 (by decide)), past_blank (by rw [show q + 1 + 4 = q + 5 by omega, e 5 (by decide)]; decide)]
    · rfl
    · rw [show q + 1 + j = q + (1 + j) by omega, e (1 + j) (by omega)]
      match j, h1 with
      | 0, _ => decide
      | 1, _ => decide
      | 2, _ => decide
      | 3, _ => decide
      | n + 4, h1 => omega
  | n + 5, h =>
    have e : ∀ t, t < 6 → atB u (q + t) = atB (gapOf 5) t := h
    rw [past_block (k := 3) (by decide) (e 1 (by decide)) (e 2 (by decide)) (fun j h1 h2 => ?_) (e 4 (by decide)) (e 5 (by decide))]
    · rfl
    · obtain rfl : j = 2 := by omega
      rw [show q + 1 + 2 = q + 3 by omega, show q + 3 + 1 = q + 4 by omega, e 3 (by decide), e 4 (by decide)]
      decide
end Go.Proofs.YtlemnbegblpllaaDoor

/-
  Proved here: a text written anew word by word, with gaps, is told alike, each word at its place.
-/
import Derived.Test.YtlemnbegblpllaaDoorLexApartM
namespace Go.Proofs.YtlemnbegblpllaaDoor
open Go.RowKit

theorem atB_left {x y : ByteArray} {k : Nat} (h : k < x.size) : atB (x ++ y) k = atB x k := by
  rw [atB_list, atB_list, ByteArray.data_append, Array.toList_append, List.getElem?_append_left (by simpa using h)]
theorem atB_right (x y : ByteArray) (k : Nat) : atB (x ++ y) (x.size + k) = atB y k := by
  rw [atB_list, atB_list, ByteArray.data_append, Array.toList_append]
  have e : x.size = x.data.toList.length := by simp
  rw [e, List.getElem?_append_right (Nat.le_add_right _ _), Nat.add_sub_cancel_left]
/-- The first pieces, one behind the other. -/
def awTo (f : Nat → ByteArray) : Nat → ByteArray
  | 0 => ⟨#[]⟩
  | i + 1 => awTo f i ++ f i
theorem aw_succ (f : Nat → ByteArray) (i : Nat) : (awTo f (i + 1)).size = (awTo f i).size + (f i).size := by
  show (awTo f i ++ f i).size = _
  rw [ByteArray.size_append]
theorem aw_mono (f : Nat → ByteArray) (i : Nat) : ∀ d, (awTo f i).size ≤ (awTo f (i + d)).size
  | 0 => Nat.le_refl _
  | d + 1 => by
    have := aw_mono f i d
    rw [← Nat.add_assoc, aw_succ]; omega
theorem aw_at (f : Nat → ByteArray) (i t : Nat) (ht : t < (f i).size) : ∀ d, atB (awTo f (i + 1 + d)) ((awTo f i).size + t) = atB (f i) t
  | 0 => atB_right _ _ _
  | d + 1 => by
    have h1 := aw_mono f (i + 1) d
    rw [aw_succ] at h1
    have e : awTo f (i + 1 + (d + 1)) = awTo f (i + 1 + d) ++ f (i + 1 + d) := rfl
    rw [e, atB_left (by omega)]
    exact aw_at f i t ht d
/-- A word as it is written. -/
def wrO : Option Out → ByteArray
  | some (.tok k ms _ _ _) => wrB k ms
  | _ => ⟨#[]⟩
/-- A word and the gap behind it. -/
def pcF (al : List Out) (gk : Nat → Nat) (i : Nat) : ByteArray := wrO al[i]? ++ gapOf (gk i)
theorem word_size {s : ByteArray} {a : Nat} (ha : a ≤ s.size) {k : Int} {ms : ByteArray} {li co j : Nat} (hw : wordOut s a = .tok k ms li co j) (hk : k ≠ 0) : (wrB k ms).size ≤ 2 * (j - a) + 2 := by
  have had := word_adv ha hw hk
  rcases word_kinds hw with h0 | ⟨h3, h10, hz⟩ | ⟨_, h3⟩
  · exact absurd h0.1 hk
  · have e : wrB k ms = quoteF ms := if_pos h3
    have := (quote_facts h10).2.2.1
    rw [e]; omega
  · have e : wrB k ms = ms := if_neg h3
    rw [e]
    unfold wordOut at hw
    rw [if_neg (show ¬ a = s.size by omega)] at hw
    split at hw
    · unfold nameOut at hw
      split at hw
      · cases hw
      · simp only [Out.tok.injEq] at hw
        obtain ⟨_, h1, _, _, h2⟩ := hw
        rw [← h1, h2, ByteArray.size_extract]; omega
    · split at hw
      · unfold numOut at hw
        split at hw
        · cases hw
        · simp only [Out.tok.injEq] at hw
          obtain ⟨_, h1, _, _, h2⟩ := hw
          rw [← h1, h2, ByteArray.size_extract]; omega
      · split at hw
        · unfold quoteOut quoteTold at hw
          split at hw
          · simp only [Out.tok.injEq] at hw; exact absurd hw.1.symm h3
          · cases hw
        · split at hw
          · simp only [Out.tok.injEq] at hw
            obtain ⟨_, h1, _, _, h2⟩ := hw
            rw [← h1, h2, ByteArray.size_extract]; omega
          · cases hw
/-- Where the words of a text come from. -/
structure Src (s : ByteArray) (al : List Out) (gk : Nat → Nat) (idx i a : Nat) (k : Int) (ms : ByteArray) (li co j : Nat) : Prop where
  pre : Pre s i (al.take idx)
  is : al[idx]? = some (.tok k ms li co j)
  nx : nextOut s i = .tok k ms li co j
  le : i ≤ a
  la : a ≤ s.size
  wd : wordOut s a = .tok k ms li co j
  bd : (awTo (pcF al gk) idx).size ≤ 16 * i
  lst : k = 0 ↔ idx + 1 = al.length
theorem src_of {s : ByteArray} {al : List Out} (hal : al = allF s 0) (hf : fltOf al = none) (gk : Nat → Nat) {idx i : Nat} (hp : Pre s i (al.take idx)) (hidx : idx < al.length) (hb : (awTo (pcF al gk) idx).size ≤ 16 * i) :
    ∃ a k ms li co j, Src s al gk idx i a k ms li co j := by
  have hall := hp.all
  have ht := fltOf_none al hf
  have hlen : (al.take idx).length = idx := by rw [List.length_take]; omega
  have e : al[idx]? = some (nextOut s i) := by
    have h1 : al[idx]? = (al.take idx ++ allF s i)[idx]? := by rw [← hall, ← hal]
    rw [h1, List.getElem?_append_right (by omega), hlen, Nat.sub_self, allF_eq hp.le]
    rfl
  have hm := ht _ (List.mem_of_getElem? e)
  cases hn : nextOut s i with
  | flt c li co wd => rw [hn] at hm; cases hm
  | tok k ms li co j =>
    rw [hn] at e
    have hn2 := hn
    unfold nextOut nextTold at hn
    have hsk := sk_le s (s.size + 1) i hp.le
    generalize skF s (s.size + 1) i = r at *
    split at hn
    · refine ⟨r.2, k, ms, li, co, j, hp, e, hn2, hsk.1, hsk.2, hn, hb, ?_⟩
      constructor
      · intro hk
        have hl : (nextOut s i).last = true := by rw [hn2, hk]; rfl
        have := congrArg List.length (hal.trans (hp.last hl))
        rw [List.length_append, hlen] at this
        exact this.symm
      · intro hl
        by_cases hk : k = 0
        · exact hk
        · exfalso
          have hl2 : (nextOut s i).last = false := by rw [hn2]; exact beq_eq_false_iff_ne.2 hk
          have h9 := congrArg List.length (hal.trans hall)
          have had := Out.adv hp.le hl2
          rw [allF_goes hp.le hl2, allF_eq had.2, List.length_append, hlen] at h9
          simp only [List.length_cons] at h9
          omega
    · cases hn
theorem src_all {s : ByteArray} {al : List Out} (hal : al = allF s 0) (hf : fltOf al = none) (gk : Nat → Nat) : ∀ idx, idx < al.length → ∃ i a k ms li co j, Src s al gk idx i a k ms li co j
  | 0, h => ⟨0, src_of hal hf gk (by rw [List.take_zero]; exact Pre.nil s) h (Nat.le_refl 0)⟩
  | idx + 1, h => by
    obtain ⟨i, a, k, ms, li, co, j, hS⟩ := src_all hal hf gk idx (by omega)
    have hk : k ≠ 0 := fun e => by have := hS.lst.1 e; omega
    have hl2 : (nextOut s i).last = false := by rw [hS.nx]; exact beq_eq_false_iff_ne.2 hk
    have hp := hS.pre.step hl2
    have had := word_adv hS.la hS.wd hk
    rw [hS.nx] at hp
    have e : al.take (idx + 1) = al.take idx ++ [.tok k ms li co j] := by
      rw [List.take_add_one, hS.is]; rfl
    rw [← e] at hp
    refine ⟨j, src_of hal hf gk hp h ?_⟩
    have hw := word_size hS.la hS.wd hk
    have hg := (gap_size (gk idx)).2
    have hb := hS.bd
    have hle := hS.le
    have hpc : (pcF al gk idx).size = (wrB k ms).size + (gapOf (gk idx)).size := by
      unfold pcF
      rw [hS.is, ByteArray.size_append]
      rfl
    rw [aw_succ, hpc]
    omega
/-- The words told of the text written anew. -/
def nwO (al : List Out) (gk : Nat → Nat) (u : ByteArray) (i : Nat) : Out :=
  match al[i]? with
  | some (.tok k ms _ _ _) => .tok k ms (lineOf u (awTo (pcF al gk) i).size) (colOf u (awTo (pcF al gk) i).size) ((awTo (pcF al gk) i).size + (wrB k ms).size)
  | _ => .tok 0 ⟨#[]⟩ 0 0 0
theorem apart_pre {s : ByteArray} {al : List Out} (hal : al = allF s 0) (hf : fltOf al = none) (gk : Nat → Nat) {u : ByteArray} (hu : u = awTo (pcF al gk) al.length) :
    ∀ idx, idx < al.length → ∃ q, Pre u q ((List.range idx).map (nwO al gk u)) ∧ nextOut u q = nextOut u (awTo (pcF al gk) idx).size
  | 0, _ => ⟨0, Pre.nil u, rfl⟩
  | idx + 1, h => by
    obtain ⟨q, hp, hn⟩ := apart_pre hal hf gk hu idx (by omega)
    obtain ⟨i, a, k, ms, li, co, j, hS⟩ := src_all hal hf gk idx (by omega)
    have hk : k ≠ 0 := fun e => by have := hS.lst.1 e; omega
    have epc : pcF al gk idx = wrB k ms ++ gapOf (gk idx) := by unfold pcF; rw [hS.is]; rfl
    have hat : ∀ t, t < (pcF al gk idx).size → atB u ((awTo (pcF al gk) idx).size + t) = atB (pcF al gk idx) t := fun t ht => by
      have := aw_at (pcF al gk) idx t ht (al.length - (idx + 1))
      rw [show idx + 1 + (al.length - (idx + 1)) = al.length by omega] at this
      rw [hu]; exact this
    rw [epc] at hat
    have hsz : (wrB k ms ++ gapOf (gk idx)).size = (wrB k ms).size + (gapOf (gk idx)).size := ByteArray.size_append
    rw [hsz] at hat
    have hg := gap_size (gk idx)
    have hgap : ∀ t, t < (gapOf (gk idx)).size → atB u ((awTo (pcF al gk) idx).size + (wrB k ms).size + t) = atB (gapOf (gk idx)) t := fun t ht => by
      rw [Nat.add_assoc, hat _ (by omega), atB_right]
    have hbl : kd (atB u ((awTo (pcF al gk) idx).size + (wrB k ms).size)) = 1 := by
      have := hgap 0 (by omega)
      rw [Nat.add_zero] at this
      rw [this]; exact gap_blank _
    have htold := told_anew hS.wd hS.la hk (fun t ht => by rw [hat t (by omega), atB_left ht]) hbl
    have hn2 : nextOut u q = nwO al gk u idx := by
      rw [hn, htold]
      unfold nwO
      rw [hS.is]
    have hl2 : (nextOut u q).last = false := by rw [hn, htold]; exact beq_eq_false_iff_ne.2 hk
    have hp2 := hp.step hl2
    have hgo : (nextOut u q).goes = (awTo (pcF al gk) idx).size + (wrB k ms).size := by rw [hn, htold]; rfl
    rw [hgo, hn2] at hp2
    refine ⟨(awTo (pcF al gk) idx).size + (wrB k ms).size, ?_, ?_⟩
    · rw [List.range_succ, List.map_append]
      exact hp2
    · rw [gap_past (gk idx) hgap, aw_succ, epc, hsz, Nat.add_assoc]
theorem src_pos {s : ByteArray} {al : List Out} (hal : al = allF s 0) : 0 < al.length := by
  rw [hal, allF_eq (Nat.zero_le _), List.length_cons]; omega
theorem apart_all {s : ByteArray} {al : List Out} (hal : al = allF s 0) (hf : fltOf al = none) (gk : Nat → Nat) {u : ByteArray} (hu : u = awTo (pcF al gk) al.length) :
    allF u 0 = (List.range (al.length - 1)).map (nwO al gk u) ++ [.tok 0 ⟨#[]⟩ (lineOf u u.size) (colOf u u.size) u.size] ∧ (∃ li co j, al[al.length - 1]? = some (.tok 0 ⟨#[]⟩ li co j)) ∧ u.size ≤ 16 * s.size + 12 := by
  have hpos := src_pos hal
  obtain ⟨q, hp, hn⟩ := apart_pre hal hf gk hu (al.length - 1) (by omega)
  obtain ⟨i, a, k, ms, li, co, j, hS⟩ := src_all hal hf gk (al.length - 1) (by omega)
  obtain rfl : k = 0 := hS.lst.2 (by omega)
  have hms : ms = ⟨#[]⟩ := by
    rcases word_kinds hS.wd with h0 | ⟨h3, _⟩ | ⟨h3, _⟩
    · exact h0.2
    · cases h3
    · exact absurd rfl h3
  subst hms
  have epc : pcF al gk (al.length - 1) = ⟨#[]⟩ ++ gapOf (gk (al.length - 1)) := by unfold pcF; rw [hS.is]; rfl
  have esz : (pcF al gk (al.length - 1)).size = (gapOf (gk (al.length - 1))).size := by
    rw [epc, ByteArray.size_append]; exact Nat.zero_add _
  have husz : u.size = (awTo (pcF al gk) (al.length - 1)).size + (gapOf (gk (al.length - 1))).size := by
    have := aw_succ (pcF al gk) (al.length - 1)
    rw [show al.length - 1 + 1 = al.length by omega, ← hu, esz] at this
    exact this
  have hgap : ∀ t, t < (gapOf (gk (al.length - 1))).size → atB u ((awTo (pcF al gk) (al.length - 1)).size + t) = atB (gapOf (gk (al.length - 1))) t := fun t ht => by
    have := aw_at (pcF al gk) (al.length - 1) t (by omega) 0
    rw [show al.length - 1 + 1 + 0 = al.length by omega, ← hu] at this
    rw [this, epc]
    have h2 := atB_right ⟨#[]⟩ (gapOf (gk (al.length - 1))) t
    have e0 : (⟨#[]⟩ : ByteArray).size = 0 := rfl
    rw [e0, Nat.zero_add] at h2
    exact h2
  have hn3 : nextOut u q = .tok 0 ⟨#[]⟩ (lineOf u u.size) (colOf u u.size) u.size := by
    rw [hn, gap_past _ hgap, ← husz, next_end]
  refine ⟨?_, ⟨li, co, j, hS.is⟩, ?_⟩
  · rw [hp.last (by rw [hn3]; rfl), hn3]
  · have h1 := hS.bd
    have h2 := hS.pre.le
    have h3 := (gap_size (gk (al.length - 1))).2
    omega
end Go.Proofs.YtlemnbegblpllaaDoor

/-
  Proved here: an append to a row of words: it stays, or it moves to a new block.
-/
import Derived.Test.YtjiolinhkadoaaaDoorLexSame
import Derived.Test.YtjiolinhkadoaaaDoorLexAwB
namespace Go.Proofs.YtjiolinhkadoaaaDoor
open Go.RowKit
theorem wpList_push4 {P : Program} (w : World) {ops : Array Oper} {rest : List Oper} {o : Oper} {a : Act} {Q : Exit → Act → World → Prop}
    (hg : o.guard = none) (s x : Operand) (t : TypeId) (hop : o.op = Op.call { callee := Callee.builtin Builtin.append, args := #[s, x], argTypes := #[t, t] })
    (base : Nat) (e : TypeId) (i : TypeInfo) (z : Value) (bytes : Nat) (h1 : P.underlying t = some (.slice e)) (h2 : P.info? e = some i) (h3 : i.zero = some z) (h4 : i.size = 4) (h5 : i.bytes = bytes) (h6 : z.cells.size = 4)
    (v : Value) (n : Nat) (xs : List Value) (hs : a.eval s = v) (hown : w.ownsRow base e 4 v n xs)
    (ad : Addr) (m c : Nat) (news : List Value) (hx : a.eval x = .slice (some ad) m c) (hn : news.length = m * 4) (hc : ∀ j u, news[j]? = some u → w.cell? (ad.add j) = some u) (h1c : ∀ u ∈ news, u.oneCell' = true)
    (hm : 0 < m) (b1 : n + m ≤ maxLen) (b2 : (n + m) * bytes ≤ 140737488355328) (hbase : base ≤ w.heap.size)
    (hK : ∀ v' w', w'.ownsRow base e 4 v' (n + m) (xs ++ news) → w.grownBy w' v.ownBlock → (v'.ownBlock = v.ownBlock ∨ ∀ g, v'.ownBlock = some g → w.heap.size ≤ g) → wpList P ops Q rest (a.put o.dst v') w') :
    wpList P ops Q (o :: rest) a w := by
  have hown0 := hown
  have grow : ∀ v' w', w'.ownsRow w.heap.size e 4 v' (n + m) (xs ++ news) → w.grownBy w' none → wpList P ops Q rest (a.put o.dst v') w' := by
    intro v' w' ho hgr
    refine hK v' w' ?_ ⟨hgr.os, hgr.tape, hgr.output, hgr.size, fun k hk _ => hgr.block k hk (by simp)⟩ (Or.inr fun g hg => (World.ownsRow.lt ho g hg).1)
    exact Joins.ownsRow_le ho hbase
  rcases hown.2 with ⟨rfl, hn0⟩ | ⟨g, cap, cur, rfl, hb, hh, hnc, hcm, hcs, ht⟩
  · subst hn0
    have hx0 : xs = [] := by have := hown.1; simpa using this
    subst hx0
    exact wpList_append_grows w hg s x t hop e i z 4 bytes h1 h2 h3 h4 h5 h6 (by decide) none 0 0 [] hs (fun _ => ⟨rfl, rfl⟩) (by simp) (fun b h => by simp at h) ad m c news hx hn hc h1c (by omega) b1 b2 grow
  · by_cases hr : n + m ≤ cap
    · refine wpList_append_fits w hg s x t hop base e i 4 h1 h2 h4 g n cap xs hs hown ad m c news hx hn hc h1c hr ?_
      intro w' ho hgr
      exact hK _ w' ho hgr (Or.inl rfl)
    · refine wpList_append_grows w hg s x t hop e i z 4 bytes h1 h2 h3 h4 h5 h6 (by decide) (some ⟨g, 0, none⟩) n cap xs hs (fun h => by simp at h) hown.1 ?_ ad m c news hx hn hc h1c (by omega) b1 b2 grow
      intro b hb' j u hj
      simp only [Option.some.injEq] at hb'
      subst hb'
      rw [Addr.add_lit, Nat.zero_add, World.ownsRow.cellAt hown0 j ?_, hj]
      have := (List.getElem?_eq_some_iff.1 hj).1
      rw [hown.1] at this
      exact this
/-- The words that are collected, and the fault (of zeros: none). -/
def outsOf (al : List Out) : List Out := match fltOf al with | none => al | some _ => []
def fzOf (al : List Out) : Int × Int × Int × ByteArray := match fltOf al with | none => (0, 0, 0, ⟨#[]⟩) | some (c, li, co, wd) => (c, li, co, wd)
theorem outsOf_toks (al : List Out) : ∀ o ∈ outsOf al, o.isTok = true := by
  unfold outsOf
  cases h : fltOf al with
  | none => exact fltOf_none al h
  | some p => exact fun o ho => absurd ho List.not_mem_nil
theorem outsOf_len (al : List Out) : (outsOf al).length ≤ al.length := by
  unfold outsOf
  cases fltOf al with
  | none => exact Nat.le_refl _
  | some p => exact Nat.zero_le _
theorem tolds_len (s : ByteArray) : ∀ n i, (tolds s n i).length ≤ n
  | 0, _ => Nat.le_refl _
  | n + 1, i => by
    show (_ :: _ : List Out).length ≤ _
    rw [List.length_cons]
    split
    · exact Nat.succ_le_succ (Nat.zero_le _)
    · exact Nat.succ_le_succ (tolds_len s n _)
theorem next_flt {s : ByteArray} {i : Nat} {c : Int} {li co : Nat} {wd : ByteArray} (h : nextOut s i = .flt c li co wd) : c ≠ 0 := by
  unfold nextOut nextTold wordOut nameOut numOut quoteOut quoteTold at h
  repeat' split at h
  all_goals first | (cases h; done) | (cases h; decide)
theorem flt_tolds {s : ByteArray} {c : Int} {li co : Nat} {wd : ByteArray} : ∀ n i, fltOf (tolds s n i) = some (c, li, co, wd) → c ≠ 0
  | 0, _, h => by cases h
  | n + 1, i, h => by
    unfold tolds at h
    cases hn : nextOut s i with
    | flt c0 li0 co0 wd0 =>
      rw [hn] at h
      have h2 : some (c0, li0, co0, wd0) = some (c, li, co, wd) := h
      have h3 := next_flt hn
      cases h2
      exact h3
    | tok k ms li0 co0 j =>
      rw [hn] at h
      have h2 : fltOf (if (Out.tok k ms li0 co0 j).last = true then [] else tolds s n (Out.tok k ms li0 co0 j).goes) = some (c, li, co, wd) := h
      split at h2
      · cases h2
      · exact flt_tolds n _ h2
/-- The fault as a value. -/
def fV (z : Int × Int × Int × ByteArray) : Value := .agg #[.int .i64 z.1, .int .i64 z.2.1, .int .i64 z.2.2.1, .string z.2.2.2]
theorem scanR_both (s : ByteArray) (w : World) (hs : s.size < 4294967281) :
    Calls Tryd.prog 10 #[.string s] w fun e w' => ∃ v, e = .returned (.tuple #[v, fV (fzOf (allF s 0))]) ∧ w'.ownsRow w.heap.size 38 4 v (outsOf (allF s 0)).length ((outsOf (allF s 0)).flatMap tokCells) ∧ Below w.heap.size w w' := by
  refine (scanR_any s w hs).mono ?_
  rintro e w' ⟨hb, ⟨hf, v, rfl, hr⟩ | ⟨c, li, co, wd, _, hf, rfl⟩⟩
  · refine ⟨v, ?_, ?_, hb⟩
    · unfold fzOf; rw [hf]; rfl
    · unfold outsOf; rw [hf]; exact hr
  · refine ⟨.slice none 0 0, ?_, ?_, hb⟩
    · unfold fzOf; rw [hf]; rfl
    · unfold outsOf; rw [hf]; exact World.ownsRow_nil _ _ _ _
theorem scan_both (s : ByteArray) (m : Int) (w : World) (hs : s.size < 4294967281) (hm : w.cell? ⟨1, 0, none⟩ = some (.int .i64 m)) :
    Calls Tryd.prog 11 #[.string s] w fun e w' => ∃ v ev, e = .returned (.tuple #[v, ev]) ∧ w'.ownsRow w.heap.size 38 4 v (outsOf (allF s 0)).length ((outsOf (allF s 0)).flatMap tokCells) ∧ Below w.heap.size w w' ∧
      (ErrT w' → Calls Tryd.prog 12 #[ev] w' fun e2 w2 => e2 = .returned (.tuple #[fV (fzOf (allF s 0)), .bool true]) ∧ Below w'.heap.size w' w2) := by
  refine (scan_any s m w hs hm).mono ?_
  rintro e w' ⟨hb, ⟨hf, v, rfl, hr⟩ | ⟨c, li, co, wd, fb, hf, hfb, rfl, hF⟩⟩
  · refine ⟨v, _, rfl, ?_, hb, fun _ => ?_⟩
    · unfold outsOf; rw [hf]; exact hr
    · have : fzOf (allF s 0) = (0, 0, 0, ⟨#[]⟩) := by unfold fzOf; rw [hf]
      rw [this]
      exact told_nil w'
  · refine ⟨_, _, rfl, ?_, hb, fun hg => ?_⟩
    · unfold outsOf; rw [hf]; exact World.ownsRow_nil _ _ _ _
    · have : fzOf (allF s 0) = (c, (li : Int), (co : Int), wd) := by unfold fzOf; rw [hf]
      rw [this]
      exact told_flt fb c li co wd w' hF (flt_tolds _ _ hf) hg
theorem TR.set {w : World} {v : Value} {outs : List Out} (h : TR w v outs) {p : Addr} (hne : v.ownBlock ≠ some p.block) (u : Value) : TR (w.setCell p u) v outs := by
  refine ⟨h.toks, ?_⟩
  rcases h.form with h1 | ⟨g, cap, h1, h2, h3⟩
  · exact .inl h1
  · have hg : g ≠ p.block := fun e => hne (by rw [h1, e]; rfl)
    refine .inr ⟨g, cap, h1, by simpa [World.setCell] using h2, ?_⟩
    intro i k ms li co j hi
    have hk : ∀ q, (w.setCell p u).cell? ⟨g, q, none⟩ = w.cell? ⟨g, q, none⟩ := fun q => World.cell?_of_block (Below.heap_setCell _ _ _ _ hg)
    rw [hk, hk, hk, hk]
    exact h3 i k ms li co j hi
theorem TR.grown {w w' : World} {v : Value} {outs : List Out} {row : Option Nat} (h : TR w v outs) (hg : w.grownBy w' row) (hne : v.ownBlock = none ∨ v.ownBlock ≠ row) : TR w' v outs := by
  refine ⟨h.toks, ?_⟩
  rcases h.form with h1 | ⟨g, cap, h1, h2, h3⟩
  · exact .inl h1
  · have hr : some g ≠ row := by
      rcases hne with h4 | h4
      · rw [h1] at h4; cases h4
      · rw [h1] at h4; exact h4
    refine .inr ⟨g, cap, h1, Nat.lt_of_lt_of_le h2 hg.size, ?_⟩
    intro i k ms li co j hi
    have hk : ∀ q, w'.cell? ⟨g, q, none⟩ = w.cell? ⟨g, q, none⟩ := fun q => World.cell?_of_block (hg.block g h2 hr)
    rw [hk, hk, hk, hk]
    exact h3 i k ms li co j hi
theorem TR.lt {w : World} {v : Value} {outs : List Out} (h : TR w v outs) : ∀ g, v.ownBlock = some g → g < w.heap.size := by
  intro g hg
  rcases h.form with ⟨h1, _⟩ | ⟨g2, cap, h1, h2, _⟩
  · rw [h1] at hg; cases hg
  · rw [h1] at hg; cases hg; exact h2
end Go.Proofs.YtjiolinhkadoaaaDoor

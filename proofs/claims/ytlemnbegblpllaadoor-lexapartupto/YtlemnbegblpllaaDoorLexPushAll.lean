/-
  Proved here: the law's awake.
  Proved here: an append to a row of words: it stays, or it moves to a new block.
-/
import Derived.Test.YtlemnbegblpllaaDoorLexAwA
import Derived.Test.YtlemnbegblpllaaDoorLexTold
import Derived.Test.YtlemnbegblpllaaDoorLexScB
import Derived.Test.YtlemnbegblpllaaDoorLexQ
import Derived.Test.YtlemnbegblpllaaDoorLexSame
namespace Go.Proofs.YtlemnbegblpllaaDoor
open Go.RowKit
theorem nm_one : isNm ⟨#[97, 49]⟩ = true := by
  unfold isNm
  rw [runEnd_C]
  kernel_rfl
theorem nm_two : isNm ⟨#[49, 97]⟩ = false := by
  unfold isNm
  rw [runEnd_C]
  kernel_rfl
theorem q_one : quoteF ⟨#[97]⟩ = ⟨#[34, 97, 34]⟩ := by
  unfold quoteF
  rw [if_neg]
  · kernel_rfl
  · rintro ⟨j, hj, h⟩
    have hj' : j < 1 := hj
    obtain rfl : j = 0 := by omega
    exact absurd h (by decide)
set_option maxRecDepth 100000 in
set_option maxHeartbeats 3200000 in
theorem awake_yes (m : Int) (w : World) (hm : w.cell? ⟨1, 0, none⟩ = some (.int .i64 m)) (hg : ErrT w) :
    Calls Tryd.prog 9 #[] w fun e w' => e = .returned (.bool true) ∧ Below w.heap.size w w' := by
  have s1 := fun w hm => scan_any ⟨#[97, 10, 34, 120, 92, 34, 121, 34, 59, 32, 47, 47, 32, 115, 111]⟩ m w (by decide) hm
  have s2 := fun w hm => scan_any ⟨#[49, 46, 53, 101, 45, 51, 44, 50, 101]⟩ m w (by decide) hm
  unfold ScEnd at s1 s2
  rw [all_one] at s1
  rw [all_two] at s2
  go_enter Tryd.func9, Tryd.ntmps9
  go_wp2_with fail
  refine (s1 _ hm).mono ?_
  rintro e w1 ⟨b1, ⟨_, v, rfl, hr⟩ | ⟨_, _, _, _, _, h, _⟩⟩
  rotate_left
  · cases h
  have hm1 := keepB2 b1 hm
  have hg1 : ErrT w1 := keepB2 b1 hg
  obtain ⟨g, cap, rfl⟩ := Joins.ownsRow_form hr (by decide)
  clear s1
  go_wp2_with fail
  refine (s2 _ hm1).mono ?_
  rintro e w2 ⟨b2, ⟨h, _⟩ | ⟨c, li, co, wd, fb, h, hfb, rfl, hF⟩⟩
  · cases h
  simp only [Option.some.injEq, Prod.mk.injEq] at h
  obtain ⟨rfl, rfl, rfl, rfl⟩ := h
  have hg2 : ErrT w2 := keepB2 b2 hg1
  have ht := told_flt fb _ _ _ _ w2 hF (by decide) hg2
  clear s2
  go_wp2_with fail
  refine ht.mono ?_
  rintro e w3 ⟨rfl, b3⟩
  clear ht
  obtain ⟨X, hX⟩ : ∃ X, w3.alloc (.cells #[.int .i64 22, .int .i64 1, .int .i64 8, .string ⟨#[50, 101]⟩] 26) = X := ⟨_, rfl⟩
  have bX : Below w3.heap.size w3 X := by rw [← hX]; exact belowA1 _ _
  have hfX : FtC X w3.heap.size (.int .i64 22) (.int .i64 1) (.int .i64 8) (.string ⟨#[50, 101]⟩) := by rw [← hX]; exact ftc_new _ rfl
  have bb : Below w1.heap.size w1 X := bstep1 (bstep1 b2 b3) bX
  have hcell : ∀ j v, ([Out.tok 1 ⟨#[97]⟩ 1 1 1, .tok 3 ⟨#[120, 34, 121]⟩ 2 1 8, .tok 4 ⟨#[59]⟩ 2 7 9, .tok 0 ⟨#[]⟩ 2 14 15].flatMap tokCells)[j]? = some v → X.cell? ⟨g, j, none⟩ = some v := by
    intro j v hj
    have hlt : j < 4 * 4 := (List.getElem?_eq_some_iff.1 hj).1
    exact keepB2 bb (by rw [hr.cellAt j hlt]; exact hj)
  have y4 := hcell 4 _ rfl
  have y5 := hcell 5 _ rfl
  have y6 := hcell 6 _ rfl
  have y7 := hcell 7 _ rfl
  have y12 := hcell 12 _ rfl
  have y13 := hcell 13 _ rfl
  have y14 := hcell 14 _ rfl
  have y15 := hcell 15 _ rfl
  obtain ⟨z0, z1, z2, z3⟩ := hfX.cells
  have HB : Hid (Below w.heap.size w X) := bstep1 b1 bb
  have n1 := fun w => lexName_any ⟨#[97, 49]⟩ w (by decide)
  have n2 := fun w => lexName_any ⟨#[49, 97]⟩ w (by decide)
  have q1 := fun w => quote_any ⟨#[97]⟩ w (by decide)
  rw [nm_one] at n1
  rw [nm_two] at n2
  rw [q_one] at q1
  clear hcell hr hfX bX bb b1 b2 b3 hF hm hm1 hg hg1 hg2
  go_wp2_with fail
  refine (n1 _).mono ?_
  rintro e w5 ⟨rfl, rfl⟩
  clear n1
  go_wp2_with fail
  refine (n2 _).mono ?_
  rintro e w6 ⟨rfl, rfl⟩
  clear n2
  go_wp2_with fail
  refine (q1 _).mono ?_
  rintro e w7 ⟨rfl, b7⟩
  go_wp2
  go_ret
  exact ⟨rfl, bstep1 HB.out b7⟩
end Go.Proofs.YtlemnbegblpllaaDoor

namespace Go.Proofs.YtlemnbegblpllaaDoor
open Go.RowKit
theorem wpList_push4 {P : Program} (w : World) {ops : Array Oper} {rest : List Oper} {o : Oper} {a : Act} {Q : Exit → Act → World → Prop}
    (hg : o.guard = none) (s x : Operand) (t : TypeId) (hop : o.op = Op.call { callee := Callee.builtin Builtin.append, args := #[s, x], argTypes := #[t, t] })
    (base : Nat) (e : TypeId) (i : TypeInfo) (z : Value) (bytes : Nat) (h1 : P.underlying t = some (.slice e)) (h2 : P.info? e = some i) (h3 : i.zero = some z) (h4 : i.size = 4) (h5 : i.bytes = bytes) (h6 : z.cells.size = 4)
    (v : Value) (n : Nat) (xs : List Value) (hs : a.eval s = v) (hown : w.ownsRow base e 4 v n xs)
    (ad : Addr) (m c : Nat) (news : List Value) (hx : a.eval x = .slice (some ad) m c) (hn : news.length = m * 4) (hc : ∀ j u, news[j]? = some u → w.cell? (ad.add j) = some u) (h1c : ∀ u ∈ news, u.oneCell' = true)
    (hm : 0 < m) (b1 : n + m ≤ maxLen) (b2 : (n + m) * bytes ≤ 140737488355328) (hbase : base ≤ w.heap.size)
    (hK : ∀ v' w', w'.ownsRow base e 4 v' (n + m) (xs ++ news) → w.grownBy w' v.ownBlock → (v'.ownBlock = v.ownBlock ∨ ∀ g, v'.ownBlock = some g → w.heap.size ≤ g) → wpList P ops Q rest (a.put o.dst v') w') :
    wpList P ops Q (o :: rest) a w := by
  have hown0 := hown
  have grow : ∀ v' w', w'.ownsRow w.heap.size e 4 v' (n + m) (xs ++ news) → w.grownBy w' none → wpList P ops Q rest (a.put o.dst v') w' := by
    intro v' w' ho hgr
    refine hK v' w' ?_ ⟨hgr.os, hgr.tape, hgr.output, hgr.size, fun k hk _ => hgr.block k hk (by simp)⟩ (Or.inr fun g hg => (World.ownsRow.lt ho g hg).1)
    exact Joins.ownsRow_le ho hbase
  rcases hown.2 with ⟨rfl, hn0⟩ | ⟨g, cap, cur, rfl, hb, hh, hnc, hcm, hcs, ht⟩
  · subst hn0
    have hx0 : xs = [] := by have := hown.1; simpa using this
    subst hx0
    exact wpList_append_grows w hg s x t hop e i z 4 bytes h1 h2 h3 h4 h5 h6 (by decide) none 0 0 [] hs (fun _ => ⟨rfl, rfl⟩) (by simp) (fun b h => by simp at h) ad m c news hx hn hc h1c (by omega) b1 b2 grow
  · by_cases hr : n + m ≤ cap
    · refine wpList_append_fits w hg s x t hop base e i 4 h1 h2 h4 g n cap xs hs hown ad m c news hx hn hc h1c hr ?_
      intro w' ho hgr
      exact hK _ w' ho hgr (Or.inl rfl)
    · refine wpList_append_grows w hg s x t hop e i z 4 bytes h1 h2 h3 h4 h5 h6 (by decide) (some ⟨g, 0, none⟩) n cap xs hs (fun h => by simp at h) hown.1 ?_ ad m c news hx hn hc h1c (by omega) b1 b2 grow
      intro b hb' j u hj
      simp only [Option.some.injEq] at hb'
      subst hb'
      rw [Addr.add_lit, Nat.zero_add, World.ownsRow.cellAt hown0 j ?_, hj]
      have := (List.getElem?_eq_some_iff.1 hj).1
      rw [hown.1] at this
      exact this
/-- The words that are collected, and the fault (of zeros: none). -/
def outsOf (al : List Out) : List Out := match fltOf al with | none => al | some _ => []
def fzOf (al : List Out) : Int × Int × Int × ByteArray := match fltOf al with | none => (0, 0, 0, ⟨#[]⟩) | some (c, li, co, wd) => (c, li, co, wd)
theorem outsOf_toks (al : List Out) : ∀ o ∈ outsOf al, o.isTok = true := by
  unfold outsOf
  cases h : fltOf al with
  | none => exact fltOf_none al h
  | some p => exact fun o ho => absurd ho List.not_mem_nil
theorem outsOf_len (al : List Out) : (outsOf al).length ≤ al.length := by
  unfold outsOf
  cases fltOf al with
  | none => exact Nat.le_refl _
  | some p => exact Nat.zero_le _
theorem tolds_len (s : ByteArray) : ∀ n i, (tolds s n i).length ≤ n
  | 0, _ => Nat.le_refl _
  | n + 1, i => by
    show (_ :: _ : List Out).length ≤ _
    rw [List.length_cons]
    split
    · exact Nat.succ_le_succ (Nat.zero_le _)
    · exact Nat.succ_le_succ (tolds_len s n _)
theorem next_flt {s : ByteArray} {i : Nat} {c : Int} {li co : Nat} {wd : ByteArray} (h : nextOut s i = .flt c li co wd) : c ≠ 0 := by
  unfold nextOut nextTold wordOut nameOut numOut quoteOut quoteTold at h
  repeat' split at h
  all_goals first | (cases h; done) | (cases h; decide)
theorem flt_tolds {s : ByteArray} {c : Int} {li co : Nat} {wd : ByteArray} : ∀ n i, fltOf (tolds s n i) = some (c, li, co, wd) → c ≠ 0
  | 0, _, h => by cases h
  | n + 1, i, h => by
    unfold tolds at h
    cases hn : nextOut s i with
    | flt c0 li0 co0 wd0 =>
      rw [hn] at h
      have h2 : some (c0, li0, co0, wd0) = some (c, li, co, wd) := h
      have h3 := next_flt hn
      cases h2
      exact h3
    | tok k ms li0 co0 j =>
      rw [hn] at h
      have h2 : fltOf (if (Out.tok k ms li0 co0 j).last = true then [] else tolds s n (Out.tok k ms li0 co0 j).goes) = some (c, li, co, wd) := h
      split at h2
      · cases h2
      · exact flt_tolds n _ h2
/-- The fault as a value. -/
def fV (z : Int × Int × Int × ByteArray) : Value := .agg #[.int .i64 z.1, .int .i64 z.2.1, .int .i64 z.2.2.1, .string z.2.2.2]
theorem scanR_both (s : ByteArray) (w : World) (hs : s.size < 4294967281) :
    Calls Tryd.prog 10 #[.string s] w fun e w' => ∃ v, e = .returned (.tuple #[v, fV (fzOf (allF s 0))]) ∧ w'.ownsRow w.heap.size 38 4 v (outsOf (allF s 0)).length ((outsOf (allF s 0)).flatMap tokCells) ∧ Below w.heap.size w w' := by
  refine (scanR_any s w hs).mono ?_
  rintro e w' ⟨hb, ⟨hf, v, rfl, hr⟩ | ⟨c, li, co, wd, _, hf, rfl⟩⟩
  · refine ⟨v, ?_, ?_, hb⟩
    · unfold fzOf; rw [hf]; rfl
    · unfold outsOf; rw [hf]; exact hr
  · refine ⟨.slice none 0 0, ?_, ?_, hb⟩
    · unfold fzOf; rw [hf]; rfl
    · unfold outsOf; rw [hf]; exact World.ownsRow_nil _ _ _ _
theorem scan_both (s : ByteArray) (m : Int) (w : World) (hs : s.size < 4294967281) (hm : w.cell? ⟨1, 0, none⟩ = some (.int .i64 m)) :
    Calls Tryd.prog 11 #[.string s] w fun e w' => ∃ v ev, e = .returned (.tuple #[v, ev]) ∧ w'.ownsRow w.heap.size 38 4 v (outsOf (allF s 0)).length ((outsOf (allF s 0)).flatMap tokCells) ∧ Below w.heap.size w w' ∧
      (ErrT w' → Calls Tryd.prog 12 #[ev] w' fun e2 w2 => e2 = .returned (.tuple #[fV (fzOf (allF s 0)), .bool true]) ∧ Below w'.heap.size w' w2) := by
  refine (scan_any s m w hs hm).mono ?_
  rintro e w' ⟨hb, ⟨hf, v, rfl, hr⟩ | ⟨c, li, co, wd, fb, hf, hfb, rfl, hF⟩⟩
  · refine ⟨v, _, rfl, ?_, hb, fun _ => ?_⟩
    · unfold outsOf; rw [hf]; exact hr
    · have : fzOf (allF s 0) = (0, 0, 0, ⟨#[]⟩) := by unfold fzOf; rw [hf]
      rw [this]
      exact told_nil w'
  · refine ⟨_, _, rfl, ?_, hb, fun hg => ?_⟩
    · unfold outsOf; rw [hf]; exact World.ownsRow_nil _ _ _ _
    · have : fzOf (allF s 0) = (c, (li : Int), (co : Int), wd) := by unfold fzOf; rw [hf]
      rw [this]
      exact told_flt fb c li co wd w' hF (flt_tolds _ _ hf) hg
theorem TR.set {w : World} {v : Value} {outs : List Out} (h : TR w v outs) {p : Addr} (hne : v.ownBlock ≠ some p.block) (u : Value) : TR (w.setCell p u) v outs := by
  refine ⟨h.toks, ?_⟩
  rcases h.form with h1 | ⟨g, cap, h1, h2, h3⟩
  · exact .inl h1
  · have hg : g ≠ p.block := fun e => hne (by rw [h1, e]; rfl)
    refine .inr ⟨g, cap, h1, by simpa [World.setCell] using h2, ?_⟩
    intro i k ms li co j hi
    have hk : ∀ q, (w.setCell p u).cell? ⟨g, q, none⟩ = w.cell? ⟨g, q, none⟩ := fun q => World.cell?_of_block (Below.heap_setCell _ _ _ _ hg)
    rw [hk, hk, hk, hk]
    exact h3 i k ms li co j hi
theorem TR.grown {w w' : World} {v : Value} {outs : List Out} {row : Option Nat} (h : TR w v outs) (hg : w.grownBy w' row) (hne : v.ownBlock = none ∨ v.ownBlock ≠ row) : TR w' v outs := by
  refine ⟨h.toks, ?_⟩
  rcases h.form with h1 | ⟨g, cap, h1, h2, h3⟩
  · exact .inl h1
  · have hr : some g ≠ row := by
      rcases hne with h4 | h4
      · rw [h1] at h4; cases h4
      · rw [h1] at h4; exact h4
    refine .inr ⟨g, cap, h1, Nat.lt_of_lt_of_le h2 hg.size, ?_⟩
    intro i k ms li co j hi
    have hk : ∀ q, w'.cell? ⟨g, q, none⟩ = w.cell? ⟨g, q, none⟩ := fun q => World.cell?_of_block (hg.block g h2 hr)
    rw [hk, hk, hk, hk]
    exact h3 i k ms li co j hi
theorem TR.lt {w : World} {v : Value} {outs : List Out} (h : TR w v outs) : ∀ g, v.ownBlock = some g → g < w.heap.size := by
  intro g hg
  rcases h.form with ⟨h1, _⟩ | ⟨g2, cap, h1, h2, _⟩
  · rw [h1] at hg; cases hg
  · rw [h1] at hg; cases hg; exact h2
end Go.Proofs.YtlemnbegblpllaaDoor

/-
  Proved here: how memory stands in the law's walked.
-/
import Derived.Test.YtfanomoijjjcmaaRadM
import Derived.Test.YtfanomoijjjcmaaRadixAskedWalk
import Derived.ArgAppend
namespace Go.Proofs.Ytfanomoijjjcmaa
open Go.RowKit Go.Shelf

theorem results_c1 {P : Program} {fn : Func} {p : Tmp} {ty : TypeId} (h : fn.results = #[.cell p ty]) (tmps : Array Value) (w : World) (g : Nat) (v : Value) (d : TypeDesc)
    (hp : tmps.getD p undef = .pointer (some ⟨g, 0, none⟩)) (hg : w.cell? ⟨g, 0, none⟩ = some v)
    (hu : P.underlying ty = some d) (hd : (match d with | .struct _ | .array _ _ => true | _ => false) = false) :
    (results fn tmps).run P w = .ok v w := by
  have hp' : tmps[p]?.getD undef = .pointer (some ⟨g, 0, none⟩) := by simpa using hp
  simp [results, h, hp', asAddr, loadVar, isAgg, underlying, hu, Result.andThen]
  cases d <;> simp_all
theorem below_putR {b : Nat} {W : World} {l : Nat} (o : Obj) (h : b ≤ l) : Below b W (W.putObj l o) :=
  ⟨rfl, rfl, rfl, by simp, fun k hk => World.putObj_heap_other (by omega)⟩
/-- What stands while walked goes on: the boxes of left, the answer, own, e; what All has taken. -/
structure WkF (K : IntKind) (t : Nat) (w : World) (left : Int) (zs : List Int) (o b : Nat) (pv u : Value) (N : Nat) (W : World) : Prop where
  lft : W.heap[w.heap.size]? = some (.cells #[.int .i64 left] 3 (0, 0))
  res : W.heap[w.heap.size + 1]? = some (.cells #[.bool false] 4 (0, 0))
  own : W.heap[o]? = some (.cells #[pv] 25 (0, 0))
  err : W.heap[o + 1]? = some (.cells #[.int .i64 (cntE zs)] 22 (0, 0))
  bas : W.heap[b]? = some (.cells #[u] t (0, 0))
  cnt : W.heap[b + 1]? = some (.cells #[.int .i64 (cntN zs)] 3 (0, 0))
  rpv : RK .i64 W pv zs
  ru : RK K W u zs
  lo : w.heap.size + 1 < o
  lb : o + 1 < b
  ln : b + 1 < N
  pvb : ∀ g, pv.ownBlock = some g → g < N
  ub : ∀ g, u.ownBlock = some g → g < b
  bel : Below w.heap.size w W
theorem RK.of_blocks {k : IntKind} {w w' : World} {v : Value} {zs : List Int} (h : RK k w v zs) (hb : ∀ g, v.ownBlock = some g → w'.heap[g]? = w.heap[g]?) : RK k w' v zs := by
  obtain ⟨ao, cap, rfl, h1, h2, h3, h4, h5⟩ := h
  refine ⟨ao, cap, rfl, h1, h2, h3, h4, fun j hj => ?_⟩
  obtain ⟨b, off, rfl, hc⟩ := h5 j hj
  exact ⟨b, off, rfl, by rw [← hc]; exact World.cell?_of_block (hb b rfl)⟩
theorem WkF.keep {K : IntKind} {t : Nat} {w : World} {left : Int} {zs : List Int} {o b : Nat} {pv u : Value} {N : Nat} {W W' : World} (h : WkF K t w left zs o b pv u N W) (hq : ∀ q, q < N → W'.heap[q]? = W.heap[q]?) (ho : W'.os = W.os) (ht : W'.tape = W.tape) (hp : W'.output = W.output) (hs : W.heap.size ≤ W'.heap.size) :
    WkF K t w left zs o b pv u N W' := by
  have h1 := h.lo
  have h2 := h.lb
  have h3 := h.ln
  refine ⟨?_, ?_, ?_, ?_, ?_, ?_, h.rpv.of_blocks fun g hg => hq g (h.pvb g hg), h.ru.of_blocks fun g hg => hq g (by have := h.ub g hg; omega), h1, h2, h3, h.pvb, h.ub, ⟨ho.trans h.bel.os, ht.trans h.bel.tape, hp.trans h.bel.output, Nat.le_trans h.bel.size hs, fun k hk => ?_⟩⟩
  · rw [hq _ (by omega)]; exact h.lft
  · rw [hq _ (by omega)]; exact h.res
  · rw [hq _ (by omega)]; exact h.own
  · rw [hq _ (by omega)]; exact h.err
  · rw [hq _ (by omega)]; exact h.bas
  · rw [hq _ (by omega)]; exact h.cnt
  · rw [hq _ (by omega)]; exact h.bel.block k hk
theorem WkF.set {K : IntKind} {t : Nat} {w : World} {left : Int} {zs : List Int} {o b : Nat} {pv u : Value} {N : Nat} {W : World} (h : WkF K t w left zs o b pv u N W) {g : Nat} (g1 : w.heap.size + 2 ≤ g) (g2 : g < o) (g3 : ∀ q, pv.ownBlock = some q → q ≠ g) (g4 : ∀ q, u.ownBlock = some q → q ≠ g) (j : Nat) (x : Value) :
    WkF K t w left zs o b pv u N (W.setCell ⟨g, j, none⟩ x) := by
  have h1 := h.lo
  have h2 := h.lb
  have hq : ∀ q, q ≠ g → (W.setCell ⟨g, j, none⟩ x).heap[q]? = W.heap[q]? := fun q hq => Below.heap_setCell _ _ _ _ hq
  refine ⟨?_, ?_, ?_, ?_, ?_, ?_, h.rpv.of_blocks fun q hq' => hq q (g3 q hq'), h.ru.of_blocks fun q hq' => hq q (g4 q hq'), h1, h2, h.ln, h.pvb, h.ub, h.bel.setCell (p := ⟨g, j, none⟩) (by show w.heap.size ≤ g; omega) x⟩
  · rw [hq _ (by omega)]; exact h.lft
  · rw [hq _ (by omega)]; exact h.res
  · rw [hq _ (by omega)]; exact h.own
  · rw [hq _ (by omega)]; exact h.err
  · rw [hq _ (by omega)]; exact h.bas
  · rw [hq _ (by omega)]; exact h.cnt
theorem wpListIn_growsR {F : Fence} {n0 : Nat} {P : Program} (w : World) {ops : Array Oper} {rest : List Oper} {o : Oper} {a : Act} {Q : Exit → Act → World → Prop}
    (hg : o.guard = none) (s x : Operand) (t : TypeId) (hop : o.op = Op.call { callee := Callee.builtin Builtin.append, args := #[s, x], argTypes := #[t, t] })
    (e : TypeId) (i : TypeInfo) (z : Value) (size bytes : Nat) (h1 : P.underlying t = some (.slice e)) (h2 : P.info? e = some i) (h3 : i.zero = some z) (h4 : i.size = size) (h5 : i.bytes = bytes) (h6 : z.cells.size = size) (h7 : 0 < size)
    (ao : Option Addr) (n cap : Nat) (olds : List Value) (hs : a.eval s = .slice ao n cap) (hnone : ao = none → n = 0 ∧ cap = 0) (hlo : olds.length = n * size) (holds : ∀ b, ao = some b → ∀ j u, olds[j]? = some u → w.cell? (b.add j) = some u)
    (ad : Addr) (m c : Nat) (news : List Value) (hx : a.eval x = .slice (some ad) m c) (hn : news.length = m * size) (hc : ∀ j u, news[j]? = some u → w.cell? (ad.add j) = some u) (h1c : ∀ u ∈ news, u.oneCell' = true)
    (hfull : cap < n + m) (b1 : n + m ≤ maxLen) (b2 : (n + m) * bytes ≤ 140737488355328)
    (hK : ∀ v' w', w'.ownsRow w.heap.size e size v' (n + m) (olds ++ news) → w.grownBy w' none → wpListIn F n0 P ops Q rest (a.put o.dst v') w') :
    wpListIn F n0 P ops Q (o :: rest) a w := by
  refine wpListIn_plain hg fun K hK' => ?_
  cases ao with
  | some b =>
    obtain ⟨v', w', hrun, r1, r2⟩ := run_append_arg_grows (P := P) w t o.type e i z size bytes h1 h2 h3 h4 h5 h6 h7 b n cap olds hlo (holds b rfl) ad m c news hn hc hfull b1 b2
    unfold Oper.wpIn
    refine ⟨?_, ?_⟩
    · simp [Oper.about, hop, resolve, Target.leads, Sem.run_pure]
    · rw [Oper.semAt_plain F _ _ (by rw [hop]; intro c hc'; cases hc')]
      simp [execOp, hop, resolve, invoke, builtin, hs, hx, hrun, Result.andThen]
      exact hK' _ _ (hK v' w' r1 r2)
  | none =>
    obtain ⟨rfl, rfl⟩ := hnone rfl
    obtain rfl : olds = [] := List.eq_nil_of_length_eq_zero (by simpa using hlo)
    obtain ⟨v', w', hrun, r1, r2, _⟩ := run_append_own (P := P) w w.heap.size t o.type e i z size bytes h1 h2 h3 h4 h5 h6 h7 (.slice none 0 0) 0 [] (World.ownsRow_nil w _ e size) ad m c news hn hc h1c b1 b2 (Nat.le_refl _)
    unfold Oper.wpIn
    refine ⟨?_, ?_⟩
    · simp [Oper.about, hop, resolve, Target.leads, Sem.run_pure]
    · rw [Oper.semAt_plain F _ _ (by rw [hop]; intro c hc'; cases hc')]
      simp [execOp, hop, resolve, invoke, builtin, hs, hx, hrun, Result.andThen]
      exact hK' _ _ (hK v' w' r1 r2)
theorem wpListIn_pushR {F : Fence} {n0 : Nat} {P : Program} (w : World) {ops : Array Oper} {rest : List Oper} {o : Oper} {a : Act} {Q : Exit → Act → World → Prop}
    (hg : o.guard = none) (s x : Operand) (t : TypeId) (hop : o.op = Op.call { callee := Callee.builtin Builtin.append, args := #[s, x], argTypes := #[t, t] })
    (base : Nat) (e : TypeId) (i : TypeInfo) (z : Value) (bytes : Nat) (h1 : P.underlying t = some (.slice e)) (h2 : P.info? e = some i) (h3 : i.zero = some z) (h4 : i.size = 1) (h5 : i.bytes = bytes) (h6 : z.cells.size = 1)
    (v : Value) (n : Nat) (xs : List Value) (hs : a.eval s = v) (hown : w.ownsRow base e 1 v n xs)
    (ad : Addr) (m c : Nat) (news : List Value) (hx : a.eval x = .slice (some ad) m c) (hn : news.length = m * 1) (hc : ∀ j u, news[j]? = some u → w.cell? (ad.add j) = some u) (h1c : ∀ u ∈ news, u.oneCell' = true)
    (hm : 0 < m) (b1 : n + m ≤ maxLen) (b2 : (n + m) * bytes ≤ 140737488355328) (hbase : base ≤ w.heap.size)
    (hK : ∀ v' w', w'.ownsRow base e 1 v' (n + m) (xs ++ news) → w.grownBy w' v.ownBlock → (v'.ownBlock = v.ownBlock ∨ ∀ g, v'.ownBlock = some g → w.heap.size ≤ g) → wpListIn F n0 P ops Q rest (a.put o.dst v') w') :
    wpListIn F n0 P ops Q (o :: rest) a w := by
  have hown0 := hown
  have grow : ∀ v' w', w'.ownsRow w.heap.size e 1 v' (n + m) (xs ++ news) → w.grownBy w' none → wpListIn F n0 P ops Q rest (a.put o.dst v') w' := by
    intro v' w' ho hgr
    refine hK v' w' ?_ ⟨hgr.os, hgr.tape, hgr.output, hgr.size, fun k hk _ => hgr.block k hk (by simp)⟩ (Or.inr fun g hg => (World.ownsRow.lt ho g hg).1)
    refine ⟨ho.1, ?_⟩
    rcases ho.2 with h | ⟨g, cap, cur, e1, e2, e3⟩
    · exact Or.inl h
    · exact Or.inr ⟨g, cap, cur, e1, by omega, e3⟩
  rcases hown.2 with ⟨rfl, hn0⟩ | ⟨g, cap, cur, rfl, hb, hh, hnc, hcm, hcs, ht⟩
  · subst hn0
    have hx0 : xs = [] := by have := hown.1; simpa using this
    subst hx0
    exact wpListIn_growsR w hg s x t hop e i z 1 bytes h1 h2 h3 h4 h5 h6 (by decide) none 0 0 [] hs (fun _ => ⟨rfl, rfl⟩) (by simp) (fun b h => by simp at h) ad m c news hx hn hc h1c (by omega) b1 b2 grow
  · by_cases hr : n + m ≤ cap
    · refine wpListIn_append_fits w hg s x t hop base e i 1 h1 h2 h4 g n cap xs hs hown ad m c news hx hn hc h1c hr ?_
      intro w' ho hgr
      exact hK _ w' ho hgr (Or.inl rfl)
    · refine wpListIn_growsR w hg s x t hop e i z 1 bytes h1 h2 h3 h4 h5 h6 (by decide) (some ⟨g, 0, none⟩) n cap xs hs (fun h => by simp at h) hown.1 ?_ ad m c news hx hn hc h1c (by omega) b1 b2 grow
      intro b hb' j u hj
      simp only [Option.some.injEq] at hb'
      subst hb'
      rw [Addr.add_lit, Nat.zero_add, World.ownsRow.cellAt hown0 j ?_, hj]
      have := (List.getElem?_eq_some_iff.1 hj).1
      rw [hown.1] at this
      exact this
/-- Blocks that are as they were: rows that are as they were. -/
theorem own_blocks {w w' : World} {B e s : Nat} {v : Value} {n : Nat} {xs : List Value} (h : w.ownsRow B e s v n xs) (hb : ∀ g, v.ownBlock = some g → w'.heap[g]? = w.heap[g]?) : w'.ownsRow B e s v n xs := by
  refine ⟨h.1, ?_⟩
  rcases h.2 with h2 | ⟨g, cap, cur, rfl, h3, h4, h5⟩
  · exact .inl h2
  · exact .inr ⟨g, cap, cur, rfl, h3, by rw [hb g rfl]; exact h4, h5⟩
/-- Rows of two types never meet. -/
theorem own_apart {w : World} {B B' e e' : Nat} {v v' : Value} {n n' : Nat} {xs xs' : List Value} (h : w.ownsRow B e 1 v n xs) (h' : w.ownsRow B' e' 1 v' n' xs') (hne : e ≠ e') : ∀ g, v.ownBlock = some g → v'.ownBlock ≠ some g := by
  intro g hg hg'
  rcases h.2 with ⟨rfl, _⟩ | ⟨q, cap, cur, rfl, _, h4, _⟩
  · simp [Value.ownBlock] at hg
  rcases h'.2 with ⟨rfl, _⟩ | ⟨q', cap', cur', rfl, _, h4', _⟩
  · simp [Value.ownBlock] at hg'
  simp only [Value.ownBlock, Option.some.injEq] at hg hg'
  subst hg
  subst hg'
  rw [h4] at h4'
  simp only [Option.some.injEq, Obj.cells.injEq] at h4'
  exact hne h4'.2.1
/-- The lists that were told: each second one is as it was told. -/
structure AlR (K : IntKind) (e t M : Nat) (zs : List Int) (k : Nat) (av : Value) (ds : List Value) (W : World) : Prop where
  row : W.ownsRow (M + 4) t 1 av k ds
  odd : ∀ i, i < k → i % 2 = 1 → ∃ dv, ds[i]? = some dv ∧ OwnK K (M + 4) e W dv (dgs zs i)
theorem AlR.len {K : IntKind} {e t M : Nat} {zs : List Int} {k : Nat} {av : Value} {ds : List Value} {W : World} (h : AlR K e t M zs k av ds W) : ds.length = k := by have := h.row.1; omega
theorem AlR.form {K : IntKind} {e t M : Nat} {zs : List Int} {k : Nat} {av : Value} {ds : List Value} {W : World} (h : AlR K e t M zs k av ds W) : ∃ ao cap, av = .slice ao k cap := by
  rcases h.row.2 with ⟨rfl, h0⟩ | ⟨g, cap, cur, rfl, _⟩
  · exact ⟨none, 0, by rw [h0]⟩
  · exact ⟨_, _, rfl⟩
theorem AlR.blocks {K : IntKind} {e t M : Nat} {zs : List Int} {k : Nat} {av : Value} {ds : List Value} {W W' : World} (h : AlR K e t M zs k av ds W) (hb : ∀ g, M + 4 ≤ g → g < W.heap.size → W'.heap[g]? = W.heap[g]?) : AlR K e t M zs k av ds W' := by
  refine ⟨own_blocks h.row fun g hg => hb g (World.ownsRow.lt h.row g hg).1 (World.ownsRow.lt h.row g hg).2, fun i hi ho => ?_⟩
  obtain ⟨dv, h1, h2⟩ := h.odd i hi ho
  exact ⟨dv, h1, own_blocks h2 fun g hg => hb g (World.ownsRow.lt h2 g hg).1 (World.ownsRow.lt h2 g hg).2⟩
theorem AlR.next {K : IntKind} {e t M : Nat} {zs : List Int} {k : Nat} {av v' d : Value} {ds : List Value} {A W w5 X : World} {r : Option Nat} (hte : e ≠ t) (hA : AlR K e t M zs k av ds A) (hMA : M + 3 < A.heap.size) (hAW : Below A.heap.size A W) (hd : OwnK K A.heap.size e W d (dgs zs k))
    (h5 : ∀ q, q < W.heap.size → M + 4 ≤ q → some q ≠ av.ownBlock → w5.heap[q]? = W.heap[q]?) (ho5 : w5.ownsRow (M + 4) t 1 v' (k + 1) (ds ++ [d])) (hr : r = none ∨ (r = d.ownBlock ∧ k % 2 = 0)) (hX : (w5.setCell ⟨M, 0, none⟩ v').grownBy X r) (hzw : W.heap.size ≤ w5.heap.size) :
    AlR K e t M zs (k + 1) v' (ds ++ [d]) X := by
  have hz6 : (w5.setCell ⟨M, 0, none⟩ v').heap.size = w5.heap.size := by simp [World.setCell]
  have hzA := hAW.size
  have h6 : ∀ q, M + 4 ≤ q → (w5.setCell ⟨M, 0, none⟩ v').heap[q]? = w5.heap[q]? := fun q hq => Below.heap_setCell _ _ _ _ (show q ≠ M by omega)
  have hrl : ∀ q, r = some q → A.heap.size ≤ q := fun q hq => by
    rcases hr with h | ⟨h, _⟩
    · rw [h] at hq; cases hq
    · rw [h] at hq; exact (World.ownsRow.lt hd q hq).1
  have hkeep : ∀ q, q < W.heap.size → M + 4 ≤ q → some q ≠ av.ownBlock → some q ≠ r → X.heap[q]? = W.heap[q]? := fun q h1 h2 h3 h4 => by
    rw [hX.block q (by omega) h4, h6 q h2]; exact h5 q h1 h2 h3
  have hrowW : W.ownsRow (M + 4) t 1 av k ds := own_blocks hA.row fun g hg => hAW.block g (World.ownsRow.lt hA.row g hg).2
  have hd5 : w5.ownsRow A.heap.size e 1 d (dgs zs k).length ((dgs zs k).map (Value.int K)) := own_blocks hd fun g hg => h5 g (World.ownsRow.lt hd g hg).2 (by have := (World.ownsRow.lt hd g hg).1; omega) (fun e1 => own_apart hd hrowW hte g hg e1.symm)
  have hlen := hA.len
  refine ⟨own_blocks ho5 fun g hg => ?_, fun i hi hodd => ?_⟩
  · have hgl := World.ownsRow.lt ho5 g hg
    rw [hX.block g (by omega) ?_]
    · exact h6 g hgl.1
    · intro e1
      rcases hr with h | ⟨h, _⟩
      · rw [h] at e1; cases e1
      · rw [h] at e1
        exact own_apart hd5 ho5 hte g e1.symm hg
  · by_cases hik : i < k
    · obtain ⟨dv, h1, h2⟩ := hA.odd i hik hodd
      have h2W : OwnK K (M + 4) e W dv (dgs zs i) := own_blocks h2 fun g hg => hAW.block g (World.ownsRow.lt h2 g hg).2
      refine ⟨dv, by rw [List.getElem?_append_left (by omega)]; exact h1, own_blocks h2W fun g hg => ?_⟩
      have hgl := World.ownsRow.lt h2 g hg
      exact hkeep g (by omega) hgl.1 (fun e1 => own_apart h2W hrowW hte g hg e1.symm) (fun e1 => by have := hrl g e1.symm; omega)
    · have hik' : i = k := by omega
      subst hik'
      have hrn : r = none := by
        rcases hr with h | ⟨_, h⟩
        · exact h
        · omega
      refine ⟨d, by rw [← hlen, List.getElem?_append_right (Nat.le_refl _), Nat.sub_self]; rfl, ?_⟩
      have hdm : OwnK K (M + 4) e W d (dgs zs i) := hd.mono (by omega)
      refine own_blocks hdm fun g hg => ?_
      have hgl := World.ownsRow.lt hd g hg
      exact hkeep g hgl.2 (by omega) (fun e1 => own_apart hd hrowW hte g hg e1.symm) (fun e1 => by rw [hrn] at e1; cases e1)
/-- How memory stands between two rounds: one box that the rounds write, the loop's own two blocks; all else that lay there as it lay. -/
structure WkC (t : Nat) (W0 : World) (N : Nat) (kv : Value) (lo : Loop) (W : World) : Prop where
  kbx : W.heap[N]? = some (.cells #[kv] t (0, 0))
  oth : ∀ q, q < N → W.heap[q]? = W0.heap[q]?
  dfr : W.heap[N + 1]? = some (.deferred (some []))
  rcd : W.heap[N + 2]? = some (.loop lo)
  os : W.os = W0.os
  tape : W.tape = W0.tape
  output : W.output = W0.output
section
variable {t : Nat} {W0 : World} {N : Nat} {kv : Value} {lo : Loop} {W W' : World}
theorem WkC.start (t : Nat) (W0 : World) (hN : W0.heap.size = N) (kv : Value) (lo : Loop) : WkC t W0 N kv lo (((W0.alloc (.cells #[kv] t)).alloc (.deferred (some []))).alloc (.loop lo)) := by
  have g0 := heap_alloc_new W0 (.cells #[kv] t)
  have g1 := heap_alloc_new (W0.alloc (.cells #[kv] t)) (.deferred (some []))
  have g2 := heap_alloc_new ((W0.alloc (.cells #[kv] t)).alloc (.deferred (some []))) (.loop lo)
  rw [hN] at g0
  rw [World.size_alloc, hN] at g1
  rw [World.size_alloc, World.size_alloc, hN] at g2
  refine ⟨?_, fun q hq => ?_, ?_, g2, rfl, rfl, rfl⟩
  · rw [Below.heap_alloc _ _ _ (by simp [hN]; omega), Below.heap_alloc _ _ _ (by simp [hN])]; exact g0
  · rw [Below.heap_alloc _ _ _ (by simp [hN]; omega), Below.heap_alloc _ _ _ (by simp [hN]; omega), Below.heap_alloc _ _ _ (by omega)]
  · rw [Below.heap_alloc _ _ _ (by simp [hN])]; exact g1
theorem WkC.lt (h : WkC t W0 N kv lo W) : N + 2 < W.heap.size := (Array.getElem?_eq_some_iff.1 h.rcd).1
theorem WkC.grow (h : WkC t W0 N kv lo W) {r : Option Nat} (hr : ∀ g, r = some g → N + 3 ≤ g) (hg : W.grownBy W' r) : WkC t W0 N kv lo W' := by
  have hl := h.lt
  have hb : ∀ q, q < N + 3 → W'.heap[q]? = W.heap[q]? := fun q hq => hg.block q (by omega) (fun e => by have := hr q e.symm; omega)
  exact ⟨by rw [hb _ (by omega)]; exact h.kbx, fun q hq => by rw [hb _ (by omega)]; exact h.oth q hq, by rw [hb _ (by omega)]; exact h.dfr, by rw [hb _ (by omega)]; exact h.rcd, hg.os.trans h.os, hg.tape.trans h.tape, hg.output.trans h.output⟩
theorem WkC.put (h : WkC t W0 N kv lo W) (lo' : Loop) : WkC t W0 N kv lo' (W.putObj (N + 2) (.loop lo')) := by
  refine ⟨?_, fun q hq => ?_, ?_, World.putObj_heap_same h.lt, h.os, h.tape, h.output⟩
  · rw [World.putObj_heap_other (by omega)]; exact h.kbx
  · rw [World.putObj_heap_other (by omega)]; exact h.oth q hq
  · rw [World.putObj_heap_other (by omega)]; exact h.dfr
theorem WkC.set (h : WkC t W0 N kv lo W) (kv' : Value) : WkC t W0 N kv' lo (W.setCell ⟨N, 0, none⟩ kv') := by
  refine ⟨by rw [heap_setCell_same W N 0 _ _ _ h.kbx]; rfl, fun q hq => ?_, ?_, ?_, h.os, h.tape, h.output⟩
  · rw [Below.heap_setCell _ _ _ _ (show q ≠ N by omega)]; exact h.oth q hq
  · rw [Below.heap_setCell _ _ _ _ (show N + 1 ≠ N by omega)]; exact h.dfr
  · rw [Below.heap_setCell _ _ _ _ (show N + 2 ≠ N by omega)]; exact h.rcd
end
end Go.Proofs.Ytfanomoijjjcmaa

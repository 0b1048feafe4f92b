/-
  Proved here: the document's own answers of layer 11, for ints: Has, With, Of, Some, Join.
  Proved here: what an append to a row of the call's own keeps of the other rows. No condition but those of the given laws on append.
  Proved here: layer 11's law.go: long and spoilt.
  Proved here: With and Without of sets of ints, by their rising lists; what the document's Some says.
  Proved here: a set of numbers of the call's own, told as a list; slices.Clone of ints.
-/
import Derived.Test.YthdpomgpcblpeaaGreatSetSIAll
import Derived.Test.YthdpomgpcblpeaaGreatMemAll
import Derived.ArgAppend
import Derived.Test.YthdpomgpcblpeaaGreatDagMpAll
import Derived.Lib.SlKeysI
namespace Go.Proofs.YthdpomgpcblpeaaGreat
open Go.Shelf Go.RowKit Go.Lib Go.Sort
theorem insR_lt {x y : Int} {l : List Int} (h : y < x) : insR x (y :: l) = y :: insR x l := by rw [insR, if_neg (by omega), if_neg (by omega)]
theorem insR_eq {x y : Int} {l : List Int} (h : y = x) : insR x (y :: l) = y :: l := by rw [insR, if_neg (by omega), if_pos h.symm]
theorem insR_gt {x y : Int} {l : List Int} (h : x < y) : insR x (y :: l) = x :: y :: l := by rw [insR, if_pos h]
theorem len_insR_le (x : Int) (l : List Int) : (insR x l).length ≤ l.length + 1 := by
  induction l with
  | nil => simp [insR]
  | cons y l ih =>
    rcases Int.lt_trichotomy y x with h | h | h
    · rw [insR_lt h]; simp only [List.length_cons]; omega
    · rw [insR_eq h]; simp
    · rw [insR_gt h]; simp
theorem len_joinR_le (l : List Int) : ∀ s : List Int, (joinR s l).length ≤ s.length + l.length := by
  refine snoc_ind (C := fun l => ∀ s : List Int, (joinR s l).length ≤ s.length + l.length) ?_ ?_ l
  · intro s; simp [joinR]
  · intro l x ih s
    rw [joinR_snoc, List.length_append]
    have := len_insR_le x (joinR s l)
    have := ih s
    simp only [List.length_cons, List.length_nil]
    omega
/-- what the document's answer leaves -/
def RE (w : World) (M : List Int) (e : Ending) (w' : World) : Prop := ∃ u, e = .returned u ∧ OG (Value.int .i64) w.heap.size 3 w' u M ∧ Below w.heap.size w w'
/-- what the document's Join leaves -/
def RJ (w : World) (M : List Int) (e : Ending) (w' : World) : Prop := ∃ u, e = .returned u ∧ RG (Value.int .i64) w' u M ∧ Below w.heap.size w w'
end Go.Proofs.YthdpomgpcblpeaaGreat

namespace Go.Proofs.YthdpomgpcblpeaaGreat
open Go.RowKit

/-- What is owned stays owned, where it lies elsewhere, or is no longer than n. -/
def Keeps (w w' : World) (v : Value) (n : Nat) : Prop := ∀ b e u k ys, w.ownsRow b e 1 u k ys → (u.ownBlock = v.ownBlock → k ≤ n) → w'.ownsRow b e 1 u k ys

theorem keeps_none {w w' : World} {v : Value} {n : Nat} (hg : w.grownBy w' none) : Keeps w w' v n := fun b e u k ys h _ => by
  rcases hu : u.ownBlock with _ | g
  · exact h.kept hg (Or.inl hu)
  · exact h.kept hg (Or.inr (by rw [hu]; simp))

theorem keeps_fits {w w' : World} {base e g n m cap : Nat} {xs news : List Value} (h : w.ownsRow base e 1 (.slice (some ⟨g, 0, none⟩) n cap) n xs)
    (h' : w'.ownsRow base e 1 (.slice (some ⟨g, 0, none⟩) (n + m) cap) (n + m) (xs ++ news)) (hg : w.grownBy w' (some g)) : Keeps w w' (.slice (some ⟨g, 0, none⟩) n cap) n := fun b e2 u k ys hu hk => by
  by_cases hb : u.ownBlock = some g
  · have hkn := hk hb
    obtain ⟨hl, hu⟩ := hu
    rcases hu with ⟨rfl, _⟩ | ⟨g2, cap2, cur, rfl, hb2, hh, hkc, hcm, hcs, ht⟩
    · simp [Value.ownBlock] at hb
    · simp only [Value.ownBlock, Option.some.injEq] at hb
      subst hb
      rcases h.2 with ⟨h, _⟩ | ⟨g3, cap3, cur3, h3, hb3, hh3, hkc3, hcm3, hcs3, ht3⟩
      · simp at h
      rcases h'.2 with ⟨h', _⟩ | ⟨g4, cap4, cur4, h4, hb4, hh4, hkc4, hcm4, hcs4, ht4⟩
      · simp at h'
      simp only [Value.slice.injEq, Option.some.injEq, Addr.mk.injEq, and_true, true_and] at h3 h4
      obtain ⟨rfl, rfl⟩ := h3
      obtain ⟨rfl, rfl⟩ := h4
      rw [hh] at hh3
      simp only [Option.some.injEq, Obj.cells.injEq, and_true] at hh3
      obtain ⟨rfl, rfl⟩ := hh3
      refine ⟨hl, Or.inr ⟨g2, cap2, cur4, rfl, hb2, hh4, hkc, hcm, by omega, ?_⟩⟩
      simp only [Nat.mul_one] at ht ht3 ht4 hl ⊢
      have e1 : (cur4.toList.take (n + m)).take k = (xs ++ news).take k := by rw [ht4]
      rw [List.take_take, Nat.min_eq_left (by omega), List.take_append_of_le_length (by rw [← ht3, List.length_take, Array.length_toList]; omega)] at e1
      rw [e1, ← ht3, List.take_take, Nat.min_eq_left hkn, ht]
  · rcases hu' : u.ownBlock with _ | g'
    · exact hu.kept hg (Or.inl hu')
    · exact hu.kept hg (Or.inr (by rw [hu'] at hb ⊢; exact hb))

theorem wpList_push {P : Program} (w : World) {ops : Array Oper} {rest : List Oper} {o : Oper} {a : Act} {Q : Exit → Act → World → Prop}
    (hg : o.guard = none) (s x : Operand) (t : TypeId) (hop : o.op = Op.call { callee := Callee.builtin Builtin.append, args := #[s, x], argTypes := #[t, t] })
    (base : Nat) (e : TypeId) (i : TypeInfo) (z : Value) (bytes : Nat) (h1 : P.underlying t = some (.slice e)) (h2 : P.info? e = some i) (h3 : i.zero = some z) (h4 : i.size = 1) (h5 : i.bytes = bytes) (h6 : z.cells.size = 1)
    (v : Value) (n : Nat) (xs : List Value) (hs : a.eval s = v) (hown : w.ownsRow base e 1 v n xs)
    (ad : Addr) (m c : Nat) (news : List Value) (hx : a.eval x = .slice (some ad) m c) (hn : news.length = m * 1) (hc : ∀ j u, news[j]? = some u → w.cell? (ad.add j) = some u) (h1c : ∀ u ∈ news, u.oneCell' = true)
    (hm : 0 < m) (b1 : n + m ≤ maxLen) (b2 : (n + m) * bytes ≤ 140737488355328) (hbase : base ≤ w.heap.size)
    (hK : ∀ v' w', w'.ownsRow base e 1 v' (n + m) (xs ++ news) → w.grownBy w' v.ownBlock → Keeps w w' v n → (v'.ownBlock = v.ownBlock ∨ ∀ g, v'.ownBlock = some g → w.heap.size ≤ g) → wpList P ops Q rest (a.put o.dst v') w') :
    wpList P ops Q (o :: rest) a w := by
  have hown0 := hown
  have grow : ∀ v' w', w'.ownsRow w.heap.size e 1 v' (n + m) (xs ++ news) → w.grownBy w' none → wpList P ops Q rest (a.put o.dst v') w' := by
    intro v' w' ho hgr
    refine hK v' w' ?_ ⟨hgr.os, hgr.tape, hgr.output, hgr.size, fun k hk _ => hgr.block k hk (by simp)⟩ (keeps_none hgr) (Or.inr fun g hg => (World.ownsRow.lt ho g hg).1)
    refine ⟨ho.1, ?_⟩
    rcases ho.2 with h | ⟨g, cap, cur, e1, e2, e3⟩
    · exact Or.inl h
    · exact Or.inr ⟨g, cap, cur, e1, by omega, e3⟩
  rcases hown.2 with ⟨rfl, hn0⟩ | ⟨g, cap, cur, rfl, hb, hh, hnc, hcm, hcs, ht⟩
  · subst hn0
    have hx0 : xs = [] := by have := hown.1; simpa using this
    subst hx0
    exact wpList_append_grows w hg s x t hop e i z 1 bytes h1 h2 h3 h4 h5 h6 (by decide) none 0 0 [] hs (fun _ => ⟨rfl, rfl⟩) (by simp) (fun b h => by simp at h) ad m c news hx hn hc h1c (by omega) b1 b2 grow
  · by_cases hr : n + m ≤ cap
    · refine wpList_append_fits w hg s x t hop base e i 1 h1 h2 h4 g n cap xs hs hown ad m c news hx hn hc h1c hr ?_
      intro w' ho hgr
      exact hK _ w' ho hgr (keeps_fits hown ho hgr) (Or.inl rfl)
    · refine wpList_append_grows w hg s x t hop e i z 1 bytes h1 h2 h3 h4 h5 h6 (by decide) (some ⟨g, 0, none⟩) n cap xs hs (fun h => by simp at h) hown.1 ?_ ad m c news hx hn hc h1c (by omega) b1 b2 grow
      intro b hb' j u hj
      simp only [Option.some.injEq] at hb'
      subst hb'
      rw [Addr.add_lit, Nat.zero_add, World.ownsRow.cellAt hown0 j ?_, hj]
      have := (List.getElem?_eq_some_iff.1 hj).1
      rw [hown.1] at this
      exact this
end Go.Proofs.YthdpomgpcblpeaaGreat

namespace Go.Proofs.YthdpomgpcblpeaaGreat
open Go.Shelf Go.RowKit Go.Lib Go.Sort
/-- an append to a row that lies where rb does, or beyond w, leaves all else of w -/
theorem grown_row {w w1 w2 : World} {vm : Value} {rb : Option Nat} (hg : w1.grownBy w2 vm.ownBlock) (h : vm.ownBlock = rb ∨ ∀ g, vm.ownBlock = some g → w.heap.size ≤ g) (h0 : w.grownBy w1 rb) : w.grownBy w2 rb := by
  refine ⟨hg.os.trans h0.os, hg.tape.trans h0.tape, hg.output.trans h0.output, Nat.le_trans h0.size hg.size, fun k hk hne => ?_⟩
  rw [← h0.block k hk hne]
  refine hg.block k (Nat.lt_of_lt_of_le hk h0.size) ?_
  rcases h with h | h
  · rw [h]; exact hne
  · intro e
    have := h k e.symm
    omega
/-- a list with its marks -/
def lgI (L : List Int) (i : Nat) : List Int := L ++ (List.range i).map fun (k : Nat) => (90000 + (k : Int))
theorem lgI_succ (L : List Int) (i : Nat) : lgI L (i + 1) = lgI L i ++ [90000 + (i : Int)] := by simp [lgI, List.range_succ]
theorem lgI_zero (L : List Int) : lgI L 0 = L := by simp [lgI]
theorem lgI_len (L : List Int) (i : Nat) : (lgI L i).length = L.length + i := by simp [lgI]
theorem set_marks {L : List Int} {n i : Nat} (mark : Int) (hl : L.length = n) (h : i < n) : (List.replicate i mark ++ L.drop i).set i mark = List.replicate (i + 1) mark ++ L.drop (i + 1) := by
  have hd : L.drop i = L[i] :: L.drop (i + 1) := List.drop_eq_getElem_cons (by omega)
  rw [hd, List.replicate_succ', List.set_append_right _ _ (by simp)]
  simp only [List.length_replicate, Nat.sub_self, List.set_cons_zero, List.append_assoc, List.singleton_append]
/-- marks, and what is gone on with -/
def mkI (n : Nat) (mark : Int) (j : Nat) : List Int := List.replicate n mark ++ List.replicate j 7
theorem mkI_zero (n : Nat) (mark : Int) : mkI n mark 0 = List.replicate n mark := by simp [mkI]
theorem mkI_succ (n : Nat) (mark : Int) (j : Nat) : mkI n mark (j + 1) = mkI n mark j ++ [7] := by unfold mkI; rw [List.append_assoc, ← List.replicate_succ']
theorem mkI_len (n : Nat) (mark : Int) (j : Nat) : (mkI n mark j).length = n + j := by simp [mkI]
theorem mkI_at (n : Nat) (mark : Int) (j k : Nat) (h : k < n) : (mkI n mark j)[k]? = some mark := by unfold mkI; rw [List.getElem?_append_left (by simpa using h), List.getElem?_replicate, if_pos h]
end Go.Proofs.YthdpomgpcblpeaaGreat

namespace Go.Proofs.YthdpomgpcblpeaaGreat
open Go.Shelf Go.RowKit Go.Lib Go.Sort
theorem with_list {L : List Int} (h : Rise L) {x : Int} {k : Nat} (hP : Pos (ltOf cfI) L x k) : (if hasI L x then L else L.take k ++ x :: L.drop k) = insR x L := by
  have hlo : ∀ z ∈ L.take k, z < x := fun z hz => by
    obtain ⟨i, hi⟩ := List.mem_iff_getElem?.1 hz
    have hi2 : i < k := by have := (List.getElem?_eq_some_iff.1 hi).1; rw [List.length_take] at this; omega
    rw [List.getElem?_take_of_lt hi2] at hi
    have := hP.lo i z hi2 hi
    rw [ltI] at this
    exact of_decide_eq_true this
  have hhi : ∀ z ∈ L.drop k, x ≤ z := fun z hz => by
    obtain ⟨i, hi⟩ := List.mem_iff_getElem?.1 hz
    rw [List.getElem?_drop] at hi
    have := hP.hi (k + i) z (by omega) hi
    rw [ltI] at this
    have := of_decide_eq_false this
    omega
  by_cases hx : x ∈ L
  · rw [if_pos (by rw [hasI_mem]; exact decide_eq_true hx)]
    refine rise_ext h (rise_insR x h) fun z => ?_
    rw [mem_insR]
    exact ⟨Or.inr, fun hz => hz.elim (fun e => e ▸ hx) id⟩
  · rw [if_neg (by rw [hasI_mem]; simpa using hx)]
    refine rise_ext ?_ (rise_insR x h) fun z => ?_
    · refine List.pairwise_append.2 ⟨List.Pairwise.sublist (List.take_sublist _ _) h, List.pairwise_cons.2 ⟨fun z hz => ?_, List.Pairwise.sublist (List.drop_sublist _ _) h⟩, fun a ha b hb => ?_⟩
      · have h1 := hhi z hz
        have h2 : z ≠ x := fun e => hx (e ▸ List.mem_of_mem_drop hz)
        omega
      · have h1 := hlo a ha
        rcases List.mem_cons.1 hb with rfl | hb
        · exact h1
        · have := hhi b hb; omega
    · rw [mem_insR]
      conv => rhs; rw [← List.take_append_drop k L]
      simp only [List.mem_append, List.mem_cons]
      by_cases a : z ∈ L.take k <;> by_cases b : z = x <;> by_cases c : z ∈ L.drop k <;> simp [a, b, c]
theorem without_list {L : List Int} (h : Rise L) {x : Int} {k : Nat} (hP : Pos (ltOf cfI) L x k) : (if hasI L x then L.take k ++ L.drop (k + 1) else L) = L.filter fun z => decide (z ∈ [x]) == false := by
  by_cases hx : x ∈ L
  · have hh : hasI L x = true := by rw [hasI_mem]; exact decide_eq_true hx
    rw [if_pos hh]
    have hk : L[k]? = some x := by
      have h1 := fndI_has (rs_rise.2 h) hP
      rw [hh] at h1
      unfold fndI at h1
      cases e2 : L[k]? with
      | none => rw [e2] at h1; exact absurd h1 (by simp)
      | some y => rw [e2] at h1; rw [smI_eq y x h1]
    have hL : L = L.take k ++ x :: L.drop (k + 1) := by rw [← drop_cons hk, List.take_append_drop]
    have hR := h
    rw [hL] at hR
    have hp := List.pairwise_append.1 hR
    have hc := List.pairwise_cons.1 hp.2.1
    have e1 : (L.take k).filter (fun z => decide (z ∈ [x]) == false) = L.take k := List.filter_eq_self.2 fun z hz => by
      have := hp.2.2 z hz x (List.mem_cons_self ..)
      simp
      omega
    have e2 : (L.drop (k + 1)).filter (fun z => decide (z ∈ [x]) == false) = L.drop (k + 1) := List.filter_eq_self.2 fun z hz => by
      have := hc.1 z hz
      simp
      omega
    conv => rhs; rw [hL]
    rw [List.filter_append, e1, List.filter_cons_of_neg (by simp), e2]
  · rw [if_neg (by rw [hasI_mem]; simpa using hx)]
    exact (List.filter_eq_self.2 fun z hz => by
      have : z ≠ x := fun e => hx (e ▸ hz)
      simp [this]).symm
theorem siHas {w : World} {v : Value} {L : List Int} {k : Nat} (h1 : SI w v L k) (x : Int) (hk : k ≤ 100000) (b : Bool) (hb : decide (x ∈ L) = b) : Calls Tryz.prog 69 #[.agg #[v], .int .i64 x] w fun e w' => e = .returned (.bool b) ∧ Below w.heap.size w w' := by
  have := setHasI v L x w h1.rg (rs_rise.2 h1.rise) (by have := h1.len; omega)
  rw [hasI_mem, hb] at this
  exact this
theorem siList {w : World} {v : Value} {L : List Int} {k : Nat} (h1 : SI w v L k) (hk : k ≤ 100000) : Calls Tryz.prog 40 #[.agg #[v]] w fun e w' => RE w L e w' := setListI v L w h1.rg (by have := h1.len; omega)
theorem some_true (L M : List Int) : (L.filter fun z => decide (z ∈ M) == true) = meetR L M := by unfold meetR; congr 1; funext z; simp
theorem some_false (L M : List Int) : (L.filter fun z => decide (z ∈ M) == false) = minusR L M := by unfold minusR; congr 1; funext z; cases decide (z ∈ M) <;> rfl
theorem len_filt (L : List Int) (p : Int → Bool) {k : Nat} (h : L.length ≤ k) : (L.filter p).length ≤ k := Nat.le_trans (List.length_filter_le _ _) h
theorem siOfO {w : World} {v : Value} {L : List Int} (hv : RG (Value.int .i64) w v L) {k : Nat} (hk : L.length ≤ k) (hk2 : k ≤ 100000) : Calls Tryz.prog 55 #[v] w fun e w' => ∃ ao n cap, e = .returned (.agg #[.slice ao n cap]) ∧ SI w' (.slice ao n cap) (ofR L) k ∧ (∀ b, (Value.slice ao n cap).ownBlock = some b → w.heap.size ≤ b) ∧ Below w.heap.size w w' :=
  (setOfI v L w hv (by omega)).mono fun _ _ ⟨u, h1, h2, h3⟩ => by
    obtain ⟨ao, cap, rfl, -⟩ := h2.sl
    exact ⟨ao, _, cap, h1, ⟨by have := h2.rg; rwa [ofI_eq L] at this ⊢, rise_ofR L, by rw [← ofI_eq]; have := ofI_len L; omega⟩, fun b hb => (h2.lt b hb).1, h3⟩
theorem lgI_take (L : List Int) (i n : Nat) (h : L.length = n) : (lgI L i).take n = L := by subst h; simp [lgI]
/-- rows and sets that lie elsewhere stay -/
theorem RG.stay {w w' : World} {u v : Value} {L : List Int} (h : RG (Value.int .i64) w u L) (hg : w.grownBy w' v.ownBlock) (hne : 0 < L.length → ∀ b g, u.ownBlock = some b → v.ownBlock = some g → b ≠ g) : RG (Value.int .i64) w' u L :=
  h.kept hg fun g e h0 b hb => hne h0 b g hb e
theorem SI.stay {w w' : World} {u v : Value} {L : List Int} {k : Nat} (h : SI w u L k) (hg : w.grownBy w' v.ownBlock) (hne : 0 < L.length → ∀ b g, u.ownBlock = some b → v.ownBlock = some g → b ≠ g) : SI w' u L k := ⟨h.rg.stay hg hne, h.rise, h.len⟩
theorem OG.stay {B e : Nat} {w w' : World} {u v : Value} {L : List Int} (h : OG (Value.int .i64) B e w u L) (hg : w.grownBy w' v.ownBlock) (hne : ∀ b g, u.ownBlock = some b → v.ownBlock = some g → b ≠ g) : OG (Value.int .i64) B e w' u L :=
  h.of_blocks fun b hb => hg.block b (h.lt b hb).2 fun e => hne b b hb e.symm rfl
theorem SCell.stay {T : TypeId} {w w' : World} {b : Nat} {x v : Value} (h : SCell T w b x) (hg : w.grownBy w' v.ownBlock) (hne : ∀ g, v.ownBlock = some g → b ≠ g) : SCell T w' b x := by
  unfold SCell
  rw [hg.block b h.lt fun e => hne b e.symm rfl]
  exact h
theorem below_row {B : Nat} {w0 w w' : World} {v : Value} (hb : Below B w0 w) (hB : B ≤ w.heap.size) (hg : w.grownBy w' v.ownBlock) (hv : ∀ g, v.ownBlock = some g → B ≤ g) : Below B w0 w' := hb.trans ((Below.refl B w).grown hg hB hv)
end Go.Proofs.YthdpomgpcblpeaaGreat

namespace Go.Proofs.YthdpomgpcblpeaaGreat
set_option linter.unusedVariables false
open Go.RowKit Go.Maps
theorem zeroU (w : World) : (zeroValue 65).run Tryz.prog w = .ok (.agg #[]) w := by kernel_rfl
/-- Block b is a set of at most n numbers, just those of a list. -/
def MpU (w : World) (b n : Nat) (Z : List Int) : Prop :=
  ∃ D : DataW Unit, w.ownsMap Tryz.prog 3 unitElem b n D ∧ ∀ x : Int, has D (.int .i64 x) = decide (x ∈ Z)
theorem MpU.made (w : World) : MpU (w.alloc (.map #[] 0)) w.heap.size 0 [] := ⟨_, World.ownsMap_made w _ _ _, fun x => rfl⟩
theorem MpU.lt {w : World} {b n : Nat} {Z : List Int} (h : MpU w b n Z) : b < w.heap.size := by obtain ⟨D, hD, _⟩ := h; exact hD.lt
theorem MpU.of_block {w w' : World} {b n : Nat} {Z : List Int} (h : MpU w b n Z) (hb : w'.heap[b]? = w.heap[b]?) : MpU w' b n Z := by
  obtain ⟨D, ⟨es, clock, h1, h2⟩, h3⟩ := h
  exact ⟨D, ⟨es, clock, hb.trans h1, h2⟩, h3⟩
theorem MpU.ne {w : World} {b n : Nat} {Z : List Int} (h : MpU w b n Z) {q : Nat} {cs : Array Value} {t : Nat} {fr : Nat × Nat} (hq : w.heap[q]? = some (.cells cs t fr)) : b ≠ q := fun e => by
  obtain ⟨D, ⟨es, clock, h1, _⟩, _⟩ := h
  rw [e, hq] at h1
  simp at h1
open Go.WideShapes in
/-- The keys of such a set, in whatever order. -/
theorem keys_mem {w : World} {b n : Nat} {D : DataW Unit} (h : w.ownsMap Tryz.prog 3 unitElem b n D) : (intKeys D).Nodup ∧ (∀ x : Int, x ∈ intKeys D ↔ has D (.int .i64 x) = true) ∧ Maps.size D ≤ n := by
  have hsz := h.size_le
  obtain ⟨es, clock, hb, F, hs, rfl⟩ := h
  have hp := ((sorted_perm (es.toList.map (WideElems.rg Tryz.prog 3 unitElem))).pairwise_iff (fun {a b : Lit × DataW Unit} (hne : a.1 ≠ b.1) => hne.symm)).2 (Maps.fit_apart keyedI F)
  have hk : ∀ p ∈ (es.toList.map (WideElems.rg Tryz.prog 3 unitElem)).foldr DataW.insert [], ∃ x : Int, p.1 = .int .i64 x := fun p hp => by
    have hp2 := (sorted_perm (es.toList.map (WideElems.rg Tryz.prog 3 unitElem))).mem_iff.1 hp
    obtain ⟨e, he, rfl⟩ := List.mem_map.1 hp2
    obtain ⟨y, hy⟩ := F.reads e he
    rw [WideElems.rg_of hy]
    obtain ⟨x, _, h2, _⟩ := Maps.keyOf_i64 Tryz.underlying3 (WideElems.rd_key hy)
    exact ⟨x, h2⟩
  generalize (es.toList.map (WideElems.rg Tryz.prog 3 unitElem)).foldr DataW.insert [] = E at hp hk hsz ⊢
  refine ⟨?_, fun x => ?_, hsz⟩
  · show (E.map fun p => Go.intOf p.1).Nodup
    refine List.pairwise_map.2 (hp.imp_of_mem fun {p q} hp' hq' hne e => hne ?_)
    obtain ⟨a, ha⟩ := hk p hp'
    obtain ⟨b, hb⟩ := hk q hq'
    rw [ha, hb] at e ⊢
    exact congrArg _ e
  · rw [has_eq, List.any_eq_true]
    show x ∈ E.map (fun p => Go.intOf p.1) ↔ _
    rw [List.mem_map]
    constructor
    · rintro ⟨p, hp', rfl⟩
      obtain ⟨a, ha⟩ := hk p hp'
      exact ⟨p, hp', by rw [ha]; simp [Lit.sameKey, Go.intOf]⟩
    · rintro ⟨p, hp', hs⟩
      obtain ⟨a, ha⟩ := hk p hp'
      rw [ha] at hs
      exact ⟨p, hp', by rw [ha]; simpa [Lit.sameKey, Go.intOf] using hs⟩
section
variable {w : World} {ops : Array Oper} {rest : List Oper} {o : Oper} {a : Act} {Q : Exit → Act → World → Prop}
theorem wpList_muLook (hg : o.guard = none) (m x : Operand) (hop : o.op = Op.lookup 64 m x true) (b n : Nat) (Z : List Int) (hm : a.eval m = .map (some b)) (h : MpU w b n Z)
    (k : Int) (hx : a.eval x = .int .i64 k) (hk : (Lit.int .i64 k).wf = true) (hK : wpList Tryz.prog ops Q rest (a.put o.dst (.tuple #[.agg #[], .bool (decide (k ∈ Z))])) w) : wpList Tryz.prog ops Q (o :: rest) a w := by
  obtain ⟨D, hD, h3⟩ := h
  refine wpList_lookup_own_unit w hg m x 64 hop 3 65 keyedI Tryz.underlying64 (zeroU _) b n D hm hD _ _ hx (keyOf_int_mk Tryz.underlying3 hk) ?_
  rw [h3 k]; exact hK
theorem wpList_muPut (hg : o.guard = none) (m x v : Operand) (hop : o.op = Op.mapUpdate 64 m x v) (b n : Nat) (Z : List Int) (hm : a.eval m = .map (some b)) (h : MpU w b n Z) (hn : n < maxLen)
    (k : Int) (hx : a.eval x = .int .i64 k) (hv : a.eval v = .agg #[]) (hk : (Lit.int .i64 k).wf = true)
    (hK : ∀ w', MpU w' b (n + 1) (Z ++ [k]) → w.grownBy w' (some b) → wpList Tryz.prog ops Q rest (a.put o.dst undef) w') : wpList Tryz.prog ops Q (o :: rest) a w := by
  refine wpList_plain hg fun K' hK' => ?_
  obtain ⟨D, hD, h3⟩ := h
  obtain ⟨w', hrun, r1, r2⟩ := hD.update keyedI Tryz.underlying64 hn (keyOf_int_mk Tryz.underlying3 hk) unitElem_mk
  unfold Oper.wp
  simp [execOp, hop, hm, hx, hv, hrun, Result.andThen]
  refine hK' _ _ (hK w' ⟨_, r1, fun y => ?_⟩ r2)
  by_cases e : y = k
  · subst e
    have hkl : WideAt.IsKeyLit (Lit.int .i64 y) := trivial
    rw [has_put_same hD.isMap hkl]
    simp
  · have hne : (Lit.int .i64 y) ≠ Lit.int .i64 k := fun e2 => e (by simpa using e2)
    rw [has_put_other hne, h3 y]
    simp [e]
end
set_option maxRecDepth 100000 in
set_option maxHeartbeats 3200000 in
theorem cloneD (v : Value) (zs : List Int) (w : World) (hv : RG (Value.int .i64) w v zs) (hl : zs.length ≤ 2000000) :
    Calls Tryz.prog 47 #[v] w fun e w' => ∃ u, e = .returned u ∧ OG (Value.int .i64) w.heap.size 3 w' u zs ∧ Below w.heap.size w w' := by
  obtain ⟨i0, hi, hz0, hz1, hz2⟩ := info_parts Tryz.infoI
  obtain ⟨ao, cap, rfl⟩ := hv.sl
  obtain ⟨n, hn⟩ : ∃ n, zs.length = n := ⟨_, rfl⟩
  have hroom := hv.room
  rcases ao with _ | ad
  · have hc := hroom.2.2 rfl
    have hz : zs = [] := List.eq_nil_of_length_eq_zero (by have := hroom.1; omega)
    subst hz
    subst hc
    clear hv hroom
    have heq : ∀ w, (binOp .eql 23 (.slice none 0 0) (.slice none 0 0)).run Tryz.prog w = .ok (.bool true) w := fun _ => by kernel_rfl
    go_enter Tryz.func47, Tryz.ntmps47
    go_wp2
    go_ret
    exact ⟨_, rfl, OG.nil _ _ _, Below.refl _ _⟩
  · have HV : Hid (RG (Value.int .i64) w (.slice (some ad) zs.length cap) zs) := hv
    obtain ⟨W1, hW1⟩ : ∃ W1, W1 = w.alloc (.cells #[] 3) := ⟨_, rfl⟩
    obtain ⟨g, hg⟩ : ∃ g, g = w.heap.size := ⟨_, rfl⟩
    have HO : Hid (OG (Value.int .i64) w.heap.size 3 W1 (.slice (some ⟨g, 0, none⟩) 0 0) []) := by show OG _ _ _ _ _ _; rw [hW1, hg]; exact OG.lit0 _ _
    have HB : Hid (Below w.heap.size w W1) := by show Below _ _ _; rw [hW1]; exact belowB _ _
    have HW1 : Hid (W1 = w.alloc (.cells #[] 3)) := hW1
    have HG : Hid (g = w.heap.size) := hg
    have HN : Hid (zs.length = n) := hn
    clear hv hW1 hg hroom
    rw [hn] at HV hl ⊢
    clear hn
    have heq : ∀ w, (binOp .eql 23 (.slice (some ad) n cap) (.slice none 0 0)).run Tryz.prog w = .ok (.bool false) w := fun _ => by kernel_rfl
    go_enter Tryz.func47, Tryz.ntmps47
    go_wp2_with (at_builtin; rw [← HW1.out, ← HG.out]; refine wpList_appG _ (fun _ => rfl) rfl _ _ 23 rfl w.heap.size 3 i0 (.int .i64 0) 8 Tryz.underlying23 hi hz0 hz1 hz2 rfl _ _ [] zs rfl HO.out rfl (HV.out.below (Nat.le_refl _) HB.out) (by have := HN.out; simp only [List.length_nil]; unfold maxLen; omega) (by have := HN.out; simp only [List.length_nil]; omega) HB.out.size ?_)
    intro v' w' ho hg3
    have HB2 : Hid (Below w.heap.size w w') := by
      show Below _ _ _
      exact HB.out.trans ⟨hg3.os, hg3.tape, hg3.output, hg3.size, fun q hq => hg3.block q (Nat.lt_of_lt_of_le hq HB.out.size) (fun e => by
        have := (HO.out.lt q e.symm).1; omega)⟩
    have HO2 : Hid (OG (Value.int .i64) w.heap.size 3 w' v' zs) := ho
    obtain ⟨vo, vn, vc, rfl⟩ : ∃ o n c, v' = .slice o n c := by obtain ⟨ao, cap, e⟩ := HO2.out.rg.sl; exact ⟨_, _, _, e⟩
    clear ho hg3 HO HB HW1 HG HV
    go_wp2
    go_ret
    exact ⟨_, rfl, HO2.out, HB2.out⟩
end Go.Proofs.YthdpomgpcblpeaaGreat

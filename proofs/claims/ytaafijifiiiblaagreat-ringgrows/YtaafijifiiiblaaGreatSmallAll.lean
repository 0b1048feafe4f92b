/-
  Proved here: what an append to a row of the call's own keeps of the other rows. No condition but those of the given laws on append.
  Proved here: plain facts on several rows of a call's own that lie apart.
  Proved here: what stays as it was while numbers are gone on with, one by one.
  Proved here: what the small makers of numbers answer.
-/
import Derived.Test.YtaafijifiiiblaaGreatTrimAll
import Derived.ArgAppend
import Derived.Laws.Bits64b
namespace Go.Proofs.YtaafijifiiiblaaGreat
open Go.RowKit

/-- What is owned stays owned, where it lies elsewhere, or is no longer than n. -/
def Keeps (w w' : World) (v : Value) (n : Nat) : Prop := ∀ b e u k ys, w.ownsRow b e 1 u k ys → (u.ownBlock = v.ownBlock → k ≤ n) → w'.ownsRow b e 1 u k ys

theorem keeps_none {w w' : World} {v : Value} {n : Nat} (hg : w.grownBy w' none) : Keeps w w' v n := fun b e u k ys h _ => by
  rcases hu : u.ownBlock with _ | g
  · exact h.kept hg (Or.inl hu)
  · exact h.kept hg (Or.inr (by rw [hu]; simp))

theorem keeps_fits {w w' : World} {base e g n m cap : Nat} {xs news : List Value} (h : w.ownsRow base e 1 (.slice (some ⟨g, 0, none⟩) n cap) n xs)
    (h' : w'.ownsRow base e 1 (.slice (some ⟨g, 0, none⟩) (n + m) cap) (n + m) (xs ++ news)) (hg : w.grownBy w' (some g)) : Keeps w w' (.slice (some ⟨g, 0, none⟩) n cap) n := fun b e2 u k ys hu hk => by
  by_cases hb : u.ownBlock = some g
  · have hkn := hk hb
    obtain ⟨hl, hu⟩ := hu
    rcases hu with ⟨rfl, _⟩ | ⟨g2, cap2, cur, rfl, hb2, hh, hkc, hcm, hcs, ht⟩
    · simp [Value.ownBlock] at hb
    · simp only [Value.ownBlock, Option.some.injEq] at hb
      subst hb
      rcases h.2 with ⟨h, _⟩ | ⟨g3, cap3, cur3, h3, hb3, hh3, hkc3, hcm3, hcs3, ht3⟩
      · simp at h
      rcases h'.2 with ⟨h', _⟩ | ⟨g4, cap4, cur4, h4, hb4, hh4, hkc4, hcm4, hcs4, ht4⟩
      · simp at h'
      simp only [Value.slice.injEq, Option.some.injEq, Addr.mk.injEq, and_true, true_and] at h3 h4
      obtain ⟨rfl, rfl⟩ := h3
      obtain ⟨rfl, rfl⟩ := h4
      rw [hh] at hh3
      simp only [Option.some.injEq, Obj.cells.injEq, and_true] at hh3
      obtain ⟨rfl, rfl⟩ := hh3
      refine ⟨hl, Or.inr ⟨g2, cap2, cur4, rfl, hb2, hh4, hkc, hcm, by omega, ?_⟩⟩
      simp only [Nat.mul_one] at ht ht3 ht4 hl ⊢
      have e1 : (cur4.toList.take (n + m)).take k = (xs ++ news).take k := by rw [ht4]
      rw [List.take_take, Nat.min_eq_left (by omega), List.take_append_of_le_length (by rw [← ht3, List.length_take, Array.length_toList]; omega)] at e1
      rw [e1, ← ht3, List.take_take, Nat.min_eq_left hkn, ht]
  · rcases hu' : u.ownBlock with _ | g'
    · exact hu.kept hg (Or.inl hu')
    · exact hu.kept hg (Or.inr (by rw [hu'] at hb ⊢; exact hb))

theorem wpList_push {P : Program} (w : World) {ops : Array Oper} {rest : List Oper} {o : Oper} {a : Act} {Q : Exit → Act → World → Prop}
    (hg : o.guard = none) (s x : Operand) (t : TypeId) (hop : o.op = Op.call { callee := Callee.builtin Builtin.append, args := #[s, x], argTypes := #[t, t] })
    (base : Nat) (e : TypeId) (i : TypeInfo) (z : Value) (bytes : Nat) (h1 : P.underlying t = some (.slice e)) (h2 : P.info? e = some i) (h3 : i.zero = some z) (h4 : i.size = 1) (h5 : i.bytes = bytes) (h6 : z.cells.size = 1)
    (v : Value) (n : Nat) (xs : List Value) (hs : a.eval s = v) (hown : w.ownsRow base e 1 v n xs)
    (ad : Addr) (m c : Nat) (news : List Value) (hx : a.eval x = .slice (some ad) m c) (hn : news.length = m * 1) (hc : ∀ j u, news[j]? = some u → w.cell? (ad.add j) = some u) (h1c : ∀ u ∈ news, u.oneCell' = true)
    (hm : 0 < m) (b1 : n + m ≤ maxLen) (b2 : (n + m) * bytes ≤ 140737488355328) (hbase : base ≤ w.heap.size)
    (hK : ∀ v' w', w'.ownsRow base e 1 v' (n + m) (xs ++ news) → w.grownBy w' v.ownBlock → Keeps w w' v n → (v'.ownBlock = v.ownBlock ∨ ∀ g, v'.ownBlock = some g → w.heap.size ≤ g) → wpList P ops Q rest (a.put o.dst v') w') :
    wpList P ops Q (o :: rest) a w := by
  have hown0 := hown
  have grow : ∀ v' w', w'.ownsRow w.heap.size e 1 v' (n + m) (xs ++ news) → w.grownBy w' none → wpList P ops Q rest (a.put o.dst v') w' := by
    intro v' w' ho hgr
    refine hK v' w' ?_ ⟨hgr.os, hgr.tape, hgr.output, hgr.size, fun k hk _ => hgr.block k hk (by simp)⟩ (keeps_none hgr) (Or.inr fun g hg => (World.ownsRow.lt ho g hg).1)
    refine ⟨ho.1, ?_⟩
    rcases ho.2 with h | ⟨g, cap, cur, e1, e2, e3⟩
    · exact Or.inl h
    · exact Or.inr ⟨g, cap, cur, e1, by omega, e3⟩
  rcases hown.2 with ⟨rfl, hn0⟩ | ⟨g, cap, cur, rfl, hb, hh, hnc, hcm, hcs, ht⟩
  · subst hn0
    have hx0 : xs = [] := by have := hown.1; simpa using this
    subst hx0
    exact wpList_append_grows w hg s x t hop e i z 1 bytes h1 h2 h3 h4 h5 h6 (by decide) none 0 0 [] hs (fun _ => ⟨rfl, rfl⟩) (by simp) (fun b h => by simp at h) ad m c news hx hn hc h1c (by omega) b1 b2 grow
  · by_cases hr : n + m ≤ cap
    · refine wpList_append_fits w hg s x t hop base e i 1 h1 h2 h4 g n cap xs hs hown ad m c news hx hn hc h1c hr ?_
      intro w' ho hgr
      exact hK _ w' ho hgr (keeps_fits hown ho hgr) (Or.inl rfl)
    · refine wpList_append_grows w hg s x t hop e i z 1 bytes h1 h2 h3 h4 h5 h6 (by decide) (some ⟨g, 0, none⟩) n cap xs hs (fun h => by simp at h) hown.1 ?_ ad m c news hx hn hc h1c (by omega) b1 b2 grow
      intro b hb' j u hj
      simp only [Option.some.injEq] at hb'
      subst hb'
      rw [Addr.add_lit, Nat.zero_add, World.ownsRow.cellAt hown0 j ?_, hj]
      have := (List.getElem?_eq_some_iff.1 hj).1
      rw [hown.1] at this
      exact this
end Go.Proofs.YtaafijifiiiblaaGreat

namespace Go.Proofs.YtaafijifiiiblaaGreat
open Go.RowKit

def at_ (l : List Value) (i : Nat) : Value := l.getD i (.slice none 0 0)
theorem limbs_set {xs : List Nat} (h : limbs xs) (k x : Nat) (hx : x < 4294967296) : limbs (xs.set k x) := fun y hy => by
  rcases List.mem_or_eq_of_mem_set hy with h' | h'
  · exact h y h'
  · omega

theorem Own.set {B e g n cap : Nat} {w : World} {xs : List Nat} (h : Own B e w (.slice (some ⟨g, 0, none⟩) n cap) xs) (hn : xs.length = n) (k x : Nat) (hx : x < 4294967296) :
    Own B e (w.setCell ⟨g, k, none⟩ (U x)) (.slice (some ⟨g, 0, none⟩) n cap) (xs.set k x) := by
  subst hn
  refine ⟨limbs_set h.1 k x hx, ?_⟩
  have := (World.ownsRow.stored h.2 k (U x)).1
  rw [List.length_set, List.map_set]
  exact this

theorem Own.other {B e : Nat} {w : World} {v : Value} {xs : List Nat} (h : Own B e w v xs) {g k : Nat} (u : Value) (hne : v.ownBlock = none ∨ v.ownBlock ≠ some g) : Own B e (w.setCell ⟨g, k, none⟩ u) v xs := by
  obtain ⟨h0, h1, h2⟩ := h
  refine ⟨h0, h1, ?_⟩
  rcases h2 with h2 | ⟨g', cap, cur, rfl, h3, h4, h5⟩
  · exact Or.inl h2
  · refine Or.inr ⟨g', cap, cur, rfl, h3, ?_, h5⟩
    rw [heap_setCell_other]
    · exact h4
    · simp [Value.ownBlock] at hne
      exact hne

/-- The row of an Own value is there, of its element type. -/
theorem Own.heap {B e g n cap : Nat} {w : World} {xs : List Nat} (h : Own B e w (.slice (some ⟨g, 0, none⟩) n cap) xs) : B ≤ g ∧ n = xs.length ∧ ∃ cur, w.heap[g]? = some (.cells cur e (0, 0)) ∧ xs.length ≤ cap ∧ cur.size = cap ∧ cur.toList.take xs.length = xs.map U := by
  rcases h.2.2 with ⟨h, _⟩ | ⟨g', cap', cur, h1, h3, h4, h5, h6, h7, h8⟩
  · simp at h
  · simp only [Value.slice.injEq, Option.some.injEq, Addr.mk.injEq, and_true] at h1
    obtain ⟨rfl, rfl, rfl⟩ := h1
    exact ⟨h3, rfl, cur, h4, h5, by simpa using h7, by simpa using h8⟩

theorem Own.shape {B e : Nat} {w : World} {v : Value} {xs : List Nat} (h : Own B e w v xs) : (v = .slice none 0 0 ∧ xs = []) ∨ ∃ g cap, v = .slice (some ⟨g, 0, none⟩) xs.length cap ∧ xs.length ≤ cap ∧ cap ≤ 9223372036854775807 := by
  rcases h.2.2 with ⟨h1, h2⟩ | ⟨g', cap', cur, h1, h3, h4, h5, h6, h7, h8⟩
  · exact Or.inl ⟨h1, List.eq_nil_of_length_eq_zero h2⟩
  · exact Or.inr ⟨g', cap', h1, h5, h6⟩

theorem Own.cell {B e g n cap : Nat} {w : World} {xs : List Nat} (h : Own B e w (.slice (some ⟨g, 0, none⟩) n cap) xs) {k : Nat} (hk : k < xs.length) : w.cell? ⟨g, k, none⟩ = some (.int .u32 ((xs.getD k 0 : Nat) : Int)) ∧ w.frozen? ⟨g, k, none⟩ = false := by
  obtain ⟨_, hn, cur, h1, h2, h3, h4⟩ := h.heap
  refine ⟨?_, frozen_of_row w g k cur e h1⟩
  rw [cell_of_row w g k cur e _ h1]
  have h5 : cur.toList[k]? = (xs.map U)[k]? := by rw [← h4, List.getElem?_take_of_lt hk]
  rw [Array.getElem?_toList] at h5
  rw [h5, List.getElem?_map, List.getElem?_eq_getElem hk, List.getD_eq_getElem?_getD, List.getElem?_eq_getElem hk]
  rfl

theorem Own.ao {B e : Nat} {w : World} {v : Value} {xs : List Nat} (h : Own B e w v xs) : ∃ ao cap, v = .slice ao xs.length cap ∧ (0 < xs.length → ∃ g, ao = some ⟨g, 0, none⟩) ∧ xs.length ≤ cap ∧ cap ≤ 9223372036854775807 := by
  rcases h.shape with ⟨rfl, rfl⟩ | ⟨g, cap, rfl, h1, h2⟩
  · exact ⟨none, 0, rfl, fun h => by simp at h, by simp, by omega⟩
  · exact ⟨_, cap, rfl, fun _ => ⟨g, rfl⟩, h1, h2⟩

end Go.Proofs.YtaafijifiiiblaaGreat

namespace Go.Proofs.YtaafijifiiiblaaGreat
open Go.RowKit

theorem below_of_grown {B : Nat} {w w' : World} {v : Value} (hg : w.grownBy w' v.ownBlock) (hB : B ≤ w.heap.size) (hv : ∀ k, v.ownBlock = some k → B ≤ k) : Below B w w' := (Below.refl B w).grown hg hB hv

theorem Num.alloc {w : World} {v : Value} {xs : List Nat} (h : Num w v xs) (o : Obj) : Num (w.alloc o) v xs := h.below (Nat.le_refl _) ((Below.refl _ _).alloc (Nat.le_refl _) o)
/-- Two rows, the one made behind the other. -/
theorem apart_later {B B' e e' : Nat} {w w' : World} {u v : Value} {xs ys : List Nat} (h : Own B e w u xs) (h' : Own B' e' w' v ys) (hB : w.heap.size ≤ B') : u.ownBlock = none ∨ u.ownBlock ≠ v.ownBlock := by
  rcases hu : u.ownBlock with _ | g
  · exact Or.inl rfl
  · right
    rcases hv : v.ownBlock with _ | g'
    · simp
    · have := (h.block g hu).2
      have := (h'.block g' hv).1
      simp only [ne_eq, Option.some.injEq]; omega
end Go.Proofs.YtaafijifiiiblaaGreat

namespace Go.Proofs.YtaafijifiiiblaaGreat
open Go.RowKit

theorem Tryz.infoU : (Tryz.prog.info? 100).map (fun i => (i.zero, i.size, i.bytes)) = some (some (.int .u32 0), 1, 4) := by kernel_rfl

theorem val_two (u : Nat) : val [u % 4294967296, u / 4294967296] = u := by simp [val]; omega

set_option maxHeartbeats 400000 in
theorem of_any (u : Nat) (w : World) (hu : u < 18446744073709551616) :
    Calls Tryz.prog 113 #[.int .u64 (u : Int)] w fun e w' => ∃ v, e = .returned v ∧ Own w.heap.size 100 w' v (lim u) ∧ Below w.heap.size w w' := by
  have hb : limbs [u % 4294967296, u / 4294967296] := by
    intro x hx
    simp at hx
    omega
  have how := Own.lit (B := w.heap.size) 100 w #[.int .u32 ((u : Int) % 4294967296), .int .u32 ((u : Int) / 4294967296)] [u % 4294967296, u / 4294967296] hb (Nat.le_refl _) (by simp [maxLen]) (by simp [U])
  have hbel : Below w.heap.size w (w.alloc (.cells #[.int .u32 ((u : Int) % 4294967296), .int .u32 ((u : Int) / 4294967296)] 100)) := (Below.refl _ _).alloc (Nat.le_refl _) _
  go_enter Tryz.func113, Tryz.ntmps113
  go_wp2_with fail
  refine (trim_any _ _ _ how.num).mono ?_
  rintro e w' ⟨⟨k, hk, hk2, rfl⟩, rfl⟩
  have how2 := how.cut hk
  rw [hk2, val_two] at how2
  clear how hk2 hb
  go_wp2
  go_ret
  exact ⟨_, rfl, how2, hbel⟩

theorem or_high (x y : Nat) (hx : x < 4294967296) (hy : y < 4294967296) : bits BinOp.or IntKind.u64 (x : Int) ((y : Int) * 4294967296) = ((x + 4294967296 * y : Nat) : Int) := by
  have h := bits_or_u64_nat x (y * 4294967296) (by omega) (by omega)
  rw [show ((y : Int) * 4294967296) = ((y * 4294967296 : Nat) : Int) by omega, h]
  congr 1
  have h2 := Nat.shiftLeft_add_eq_or_of_lt (i := 32) (b := x) (by simpa using hx) y
  rw [Nat.shiftLeft_eq, show (2 ^ 32 : Nat) = 4294967296 from rfl] at h2
  rw [Nat.or_comm, ← h2]; omega

theorem or_halves (V : Nat) (h : V < 18446744073709551616) : bits BinOp.or IntKind.u64 ((V : Int) % 4294967296) ((V : Int) / 4294967296 * 4294967296) = (V : Int) := by
  have hor := or_high (V % 4294967296) (V / 4294967296) (by omega) (by omega)
  rw [Int.natCast_emod, Int.natCast_ediv] at hor
  refine hor.trans ?_
  omega

end Go.Proofs.YtaafijifiiiblaaGreat

/-
  Proved here: what the law's asked stands on.
-/
import Derived.Test.YtfanomoijjjcmaaRadJ
import Derived.Test.YtfanomoijjjcmaaPush
namespace Go.Proofs.Ytfanomoijjjcmaa
open Go.RowKit Go.Shelf

/-- The digits that are told, or none. -/
def dgl (ss : List Int) (a : Int) : List Int := if dgE ss a = 0 then dgs ss a else []
theorem dgl_len (ss : List Int) (a : Int) : (dgl ss a).length ≤ ss.length := by
  unfold dgl; split
  · rw [dgs_len]; exact Nat.le_refl _
  · exact Nat.zero_le _
theorem dgE_ones {ss : List Int} {a : Int} (h : dgE ss a = 0) : ∀ z ∈ ss, 1 ≤ z := by
  unfold dgE at h
  by_cases hE : cntE ss = 0
  · rw [if_neg (by simp [hE])] at h
    by_cases hR : a < 0 ∨ cntN ss ≤ a
    · rw [if_pos hR] at h; omega
    · obtain ⟨hneg, hpr, hcn⟩ := cntE_zero hE
      refine ones hneg ?_
      cases hn : nuls ss with
      | false => rfl
      | true => rw [hcn, pr_zero ss (nuls_yes hn)] at hR; omega
  · rw [if_pos (by simpa using hE)] at h
    exact absurd h hE
theorem dgl_inK {k : IntKind} {ss : List Int} {a : Int} (h : inK k ss) (h0 : k.min ≤ 0) : inK k (dgl ss a) := by
  unfold dgl
  split
  · rename_i he
    intro i hi
    rw [dgs_len] at hi
    have := dig_bd ss a (dgE_ones he) i hi
    have h2 := h i hi
    rw [dgs_get ss a i hi]
    omega
  · intro i hi; simp at hi
theorem inK_i64 {k : IntKind} {zs : List Int} (h : inK k zs) (h1 : IntKind.i64.min ≤ k.min) (h2 : k.max ≤ IntKind.i64.max) : inK .i64 zs := fun i hi => ⟨Int.le_trans h1 (h i hi).1, Int.le_trans (h i hi).2 h2⟩
theorem DgEnd.all {K : IntKind} {et : Nat} {ss : List Int} {a : Int} {w w' : World} {e : Ending} (hl : ss.length ≤ 17592186044416) (h : DgEnd K et ss a w e w') :
    ∃ ao cap, e = .returned (.tuple #[.slice ao (dgl ss a).length cap, .int .i64 (dgE ss a)]) ∧ OwnK K w.heap.size et w' (.slice ao (dgl ss a).length cap) (dgl ss a) ∧ Below w.heap.size w w' := by
  obtain ⟨⟨h1, h2⟩ | ⟨h1, g, h2, h3, h4⟩, hb⟩ := h
  · have e1 : dgl ss a = [] := if_neg h1
    exact ⟨none, 0, by rw [e1]; exact h2, by rw [e1]; exact OwnK.of_nil _ _ _ _, hb⟩
  · have e1 : dgl ss a = dgs ss a := if_pos h1
    refine ⟨some ⟨g, 0, none⟩, ss.length, by rw [e1, dgs_len, h1]; exact h2, ?_, hb⟩
    rw [e1]
    refine ⟨by simp, .inr ⟨g, ss.length, _, rfl, h3, h4, by rw [dgs_len]; exact Nat.le_refl _, by unfold maxLen; omega, by simp [dgs_len], ?_⟩⟩
    exact List.take_of_length_le (by simp)
theorem grown_trans {w w1 w2 : World} {r : Option Nat} (h1 : w.grownBy w1 r) (h2 : w1.grownBy w2 r) : w.grownBy w2 r :=
  ⟨h2.os.trans h1.os, h2.tape.trans h1.tape, h2.output.trans h1.output, Nat.le_trans h1.size h2.size, fun k hk hr => (h2.block k (Nat.lt_of_lt_of_le hk h1.size) hr).trans (h1.block k hk hr)⟩
theorem RK.kept {k : IntKind} {w w' : World} {v : Value} {zs : List Int} {r : Option Nat} (h : RK k w v zs) (hg : w.grownBy w' r) (hr : ∀ g, r = some g → ∀ b, v.ownBlock = some b → b ≠ g) : RK k w' v zs := by
  obtain ⟨ao, cap, rfl, h1, h2, h3, h4, h5⟩ := h
  refine ⟨ao, cap, rfl, h1, h2, h3, h4, fun j hj => ?_⟩
  obtain ⟨b, off, rfl, hc⟩ := h5 j hj
  refine ⟨b, off, rfl, hg.cell hc fun e => ?_⟩
  exact hr b e.symm b rfl rfl
theorem RoomK.kept {k : IntKind} {B e : Nat} {w w' : World} {u : Value} {zs : List Int} {r : Option Nat} (h : RoomK k B e w u zs) (hg : w.grownBy w' r) (hr : ∀ g, r = some g → ∀ b, u.ownBlock = some b → b ≠ g) : RoomK k B e w' u zs := by
  obtain ⟨g, cap, rfl, h2⟩ := h
  exact ⟨g, cap, rfl, World.ownsRow.kept h2 hg (.inr fun e => hr g e.symm g rfl rfl)⟩
theorem RoomK.lt {k : IntKind} {B e : Nat} {w : World} {u : Value} {zs : List Int} (h : RoomK k B e w u zs) : ∀ b, u.ownBlock = some b → b < w.heap.size := by
  obtain ⟨g, cap, rfl, h2⟩ := h
  intro b hb
  simp only [Value.ownBlock, Option.some.injEq] at hb
  subst hb
  exact (World.ownsRow.lt h2 g rfl).2
theorem RK.room {k : IntKind} {w : World} {v : Value} {zs : List Int} (h : RK k w v zs) : 0 < zs.length → ∀ b, v.ownBlock = some b → b < w.heap.size := by
  obtain ⟨ao, cap, rfl, h1, h2, h3, h4, h5⟩ := h
  intro h0 b hb
  obtain ⟨g, o, rfl, hc⟩ := h5 0 h0
  simp only [Value.ownBlock, Option.some.injEq] at hb
  subst hb
  exact block_lt_of_cell hc
theorem RK.kept' {k : IntKind} {w w' : World} {v : Value} {zs : List Int} {r : Option Nat} (h : RK k w v zs) (hg : w.grownBy w' r) (hr : ∀ g, r = some g → 0 < zs.length → ∀ b, v.ownBlock = some b → b ≠ g) : RK k w' v zs := by
  obtain ⟨ao, cap, rfl, h1, h2, h3, h4, h5⟩ := h
  refine ⟨ao, cap, rfl, h1, h2, h3, h4, fun j hj => ?_⟩
  obtain ⟨b, off, rfl, hc⟩ := h5 j hj
  refine ⟨b, off, rfl, hg.cell hc fun e => ?_⟩
  exact hr b e.symm (by omega) b rfl rfl
/-- How memory stands while the told digits are appended to: m of them are told, k are behind. -/
structure LgC (B e : Nat) (W : World) (r : Option Nat) (m k : Nat) (v : Value) (wr : World) : Prop where
  row : ∃ xs, wr.ownsRow B e 1 v (m + k) xs
  grn : W.grownBy wr r
  blk : v.ownBlock = r ∨ ∀ g, v.ownBlock = some g → W.heap.size ≤ g
theorem OwnK.cell {k : IntKind} {B e : Nat} {w : World} {g n cap : Nat} {L : List Int} (h : OwnK k B e w (.slice (some ⟨g, 0, none⟩) n cap) L) {i : Nat} (hi : i < L.length) : (∃ z, w.cell? ⟨g, i, none⟩ = some (.int k z)) ∧ w.frozen? ⟨g, i, none⟩ = false := by
  refine ⟨⟨L.getD i 0, ?_⟩, ?_⟩
  · have hw := h
    rcases h.2 with ⟨h', _⟩ | ⟨g', cap', cur, h', h3, h4, h5, h6, h7, h8⟩
    · simp at h'
    · simp only [Value.slice.injEq, Option.some.injEq, Addr.mk.injEq, and_true] at h'
      obtain ⟨rfl, rfl, rfl⟩ := h'
      have := World.ownsRow.cellAt hw i (by simpa using hi)
      rw [this, List.getElem?_map, List.getD_eq_getElem?_getD, List.getElem?_eq_getElem hi]; rfl
  · rcases h.2 with ⟨h', _⟩ | ⟨g', cap', cur, h', h3, h4, h5, h6, h7, h8⟩
    · simp at h'
    · simp only [Value.slice.injEq, Option.some.injEq, Addr.mk.injEq, and_true] at h'
      obtain ⟨rfl, rfl, rfl⟩ := h'
      exact frozen_of_row w _ _ _ _ h4
theorem OwnK.set {k : IntKind} {B e : Nat} {w : World} {g n cap : Nat} {L : List Int} (h : OwnK k B e w (.slice (some ⟨g, 0, none⟩) n cap) L) (hn : L.length = n) (i : Nat) (z : Int) :
    OwnK k B e (w.setCell ⟨g, i, none⟩ (.int k z)) (.slice (some ⟨g, 0, none⟩) n cap) (L.set i z) ∧ w.grownBy (w.setCell ⟨g, i, none⟩ (.int k z)) (some g) := by
  unfold OwnK at h
  rw [hn] at h
  have := World.ownsRow.stored h i (.int k z)
  refine ⟨?_, this.2⟩
  unfold OwnK
  rw [List.length_set, hn, List.map_set]
  exact this.1
theorem LgC.push {B e m k : Nat} {W wr w' : World} {r : Option Nat} {v v' : Value} {o : Obj} {xs : List Value} (h : LgC B e W r m k v wr) (ho : w'.ownsRow B e 1 v' (m + k + 1) xs) (hg : (wr.alloc o).grownBy w' v.ownBlock)
    (hb : v'.ownBlock = v.ownBlock ∨ ∀ g, v'.ownBlock = some g → (wr.alloc o).heap.size ≤ g) : LgC B e W r m (k + 1) v' w' := by
  have hz := h.grn.size
  have hg0 : W.grownBy (wr.alloc o) r := grown_trans h.grn (World.grownBy_alloc wr o r)
  have hs : (wr.alloc o).heap.size = wr.heap.size + 1 := by simp
  refine ⟨⟨xs, ho⟩, ⟨hg.os.trans hg0.os, hg.tape.trans hg0.tape, hg.output.trans hg0.output, Nat.le_trans hg0.size hg.size, fun q hq hr => ?_⟩, ?_⟩
  · rw [hg.block q (by omega) ?_]
    · exact hg0.block q hq hr
    · intro e1
      rcases h.blk with e2 | e2
      · exact hr (by rw [e1, e2])
      · have := e2 q e1.symm; omega
  · rcases hb with e1 | e1
    · rcases h.blk with e2 | e2
      · exact .inl (e1.trans e2)
      · exact .inr fun g hg' => e2 g (by rw [← e1]; exact hg')
    · exact .inr fun g hg' => by have := e1 g hg'; omega
end Go.Proofs.Ytfanomoijjjcmaa

/-
  Proved here: a set of numbers of the call's own, told as a list; slices.Clone of ints.
-/
import Derived.Test.YtmgbhbdcnciccaaDagMp
import Derived.Lib.SlKeysI
namespace Go.Proofs.Ytmgbhbdcnciccaa
set_option linter.unusedVariables false
open Go.RowKit Go.Maps
theorem zeroU (w : World) : (zeroValue 76).run Try.prog w = .ok (.agg #[]) w := by kernel_rfl
/-- Block b is a set of at most n numbers, just those of a list. -/
def MpU (w : World) (b n : Nat) (Z : List Int) : Prop :=
  ∃ D : DataW Unit, w.ownsMap Try.prog 3 unitElem b n D ∧ ∀ x : Int, has D (.int .i64 x) = decide (x ∈ Z)
theorem MpU.made (w : World) : MpU (w.alloc (.map #[] 0)) w.heap.size 0 [] := ⟨_, World.ownsMap_made w _ _ _, fun x => rfl⟩
theorem MpU.lt {w : World} {b n : Nat} {Z : List Int} (h : MpU w b n Z) : b < w.heap.size := by obtain ⟨D, hD, _⟩ := h; exact hD.lt
theorem MpU.of_block {w w' : World} {b n : Nat} {Z : List Int} (h : MpU w b n Z) (hb : w'.heap[b]? = w.heap[b]?) : MpU w' b n Z := by
  obtain ⟨D, ⟨es, clock, h1, h2⟩, h3⟩ := h
  exact ⟨D, ⟨es, clock, hb.trans h1, h2⟩, h3⟩
theorem MpU.ne {w : World} {b n : Nat} {Z : List Int} (h : MpU w b n Z) {q : Nat} {cs : Array Value} {t : Nat} {fr : Nat × Nat} (hq : w.heap[q]? = some (.cells cs t fr)) : b ≠ q := fun e => by
  obtain ⟨D, ⟨es, clock, h1, _⟩, _⟩ := h
  rw [e, hq] at h1
  simp at h1
open Go.WideShapes in
/-- The keys of such a set, in whatever order. -/
theorem keys_mem {w : World} {b n : Nat} {D : DataW Unit} (h : w.ownsMap Try.prog 3 unitElem b n D) : (intKeys D).Nodup ∧ (∀ x : Int, x ∈ intKeys D ↔ has D (.int .i64 x) = true) ∧ Maps.size D ≤ n := by
  have hsz := h.size_le
  obtain ⟨es, clock, hb, F, hs, rfl⟩ := h
  have hp := ((sorted_perm (es.toList.map (WideElems.rg Try.prog 3 unitElem))).pairwise_iff (fun {a b : Lit × DataW Unit} (hne : a.1 ≠ b.1) => hne.symm)).2 (Maps.fit_apart keyedI F)
  have hk : ∀ p ∈ (es.toList.map (WideElems.rg Try.prog 3 unitElem)).foldr DataW.insert [], ∃ x : Int, p.1 = .int .i64 x := fun p hp => by
    have hp2 := (sorted_perm (es.toList.map (WideElems.rg Try.prog 3 unitElem))).mem_iff.1 hp
    obtain ⟨e, he, rfl⟩ := List.mem_map.1 hp2
    obtain ⟨y, hy⟩ := F.reads e he
    rw [WideElems.rg_of hy]
    obtain ⟨x, _, h2, _⟩ := Maps.keyOf_i64 Try.underlying3 (WideElems.rd_key hy)
    exact ⟨x, h2⟩
  generalize (es.toList.map (WideElems.rg Try.prog 3 unitElem)).foldr DataW.insert [] = E at hp hk hsz ⊢
  refine ⟨?_, fun x => ?_, hsz⟩
  · show (E.map fun p => intOf p.1).Nodup
    refine List.pairwise_map.2 (hp.imp_of_mem fun {p q} hp' hq' hne e => hne ?_)
    obtain ⟨a, ha⟩ := hk p hp'
    obtain ⟨b, hb⟩ := hk q hq'
    rw [ha, hb] at e ⊢
    exact congrArg _ e
  · rw [has_eq, List.any_eq_true]
    show x ∈ E.map (fun p => intOf p.1) ↔ _
    rw [List.mem_map]
    constructor
    · rintro ⟨p, hp', rfl⟩
      obtain ⟨a, ha⟩ := hk p hp'
      exact ⟨p, hp', by rw [ha]; simp [Lit.sameKey, intOf]⟩
    · rintro ⟨p, hp', hs⟩
      obtain ⟨a, ha⟩ := hk p hp'
      rw [ha] at hs
      exact ⟨p, hp', by rw [ha]; simpa [Lit.sameKey, intOf] using hs⟩
section
variable {w : World} {ops : Array Oper} {rest : List Oper} {o : Oper} {a : Act} {Q : Exit → Act → World → Prop}
theorem wpList_muLook (hg : o.guard = none) (m x : Operand) (hop : o.op = Op.lookup 75 m x true) (b n : Nat) (Z : List Int) (hm : a.eval m = .map (some b)) (h : MpU w b n Z)
    (k : Int) (hx : a.eval x = .int .i64 k) (hk : (Lit.int .i64 k).wf = true) (hK : wpList Try.prog ops Q rest (a.put o.dst (.tuple #[.agg #[], .bool (decide (k ∈ Z))])) w) : wpList Try.prog ops Q (o :: rest) a w := by
  obtain ⟨D, hD, h3⟩ := h
  refine wpList_lookup_own_unit w hg m x 75 hop 3 76 keyedI Try.underlying75 (zeroU _) b n D hm hD _ _ hx (keyOf_int_mk Try.underlying3 hk) ?_
  rw [h3 k]; exact hK
theorem wpList_muPut (hg : o.guard = none) (m x v : Operand) (hop : o.op = Op.mapUpdate 75 m x v) (b n : Nat) (Z : List Int) (hm : a.eval m = .map (some b)) (h : MpU w b n Z) (hn : n < maxLen)
    (k : Int) (hx : a.eval x = .int .i64 k) (hv : a.eval v = .agg #[]) (hk : (Lit.int .i64 k).wf = true)
    (hK : ∀ w', MpU w' b (n + 1) (Z ++ [k]) → w.grownBy w' (some b) → wpList Try.prog ops Q rest (a.put o.dst undef) w') : wpList Try.prog ops Q (o :: rest) a w := by
  refine wpList_plain hg fun K' hK' => ?_
  obtain ⟨D, hD, h3⟩ := h
  obtain ⟨w', hrun, r1, r2⟩ := hD.update keyedI Try.underlying75 hn (keyOf_int_mk Try.underlying3 hk) unitElem_mk
  unfold Oper.wp
  simp [execOp, hop, hm, hx, hv, hrun, Result.andThen]
  refine hK' _ _ (hK w' ⟨_, r1, fun y => ?_⟩ r2)
  by_cases e : y = k
  · subst e
    have hkl : WideAt.IsKeyLit (Lit.int .i64 y) := trivial
    rw [has_put_same hD.isMap hkl]
    simp
  · have hne : (Lit.int .i64 y) ≠ Lit.int .i64 k := fun e2 => e (by simpa using e2)
    rw [has_put_other hne, h3 y]
    simp [e]
end
set_option maxRecDepth 100000 in
set_option maxHeartbeats 3200000 in
theorem cloneD (v : Value) (zs : List Int) (w : World) (hv : RG (Value.int .i64) w v zs) (hl : zs.length ≤ 2000000) :
    Calls Try.prog 54 #[v] w fun e w' => ∃ u, e = .returned u ∧ OG (Value.int .i64) w.heap.size 3 w' u zs ∧ Below w.heap.size w w' := by
  obtain ⟨i0, hi, hz0, hz1, hz2⟩ := info_parts Try.infoI
  obtain ⟨ao, cap, rfl⟩ := hv.sl
  obtain ⟨n, hn⟩ : ∃ n, zs.length = n := ⟨_, rfl⟩
  have hroom := hv.room
  rcases ao with _ | ad
  · have hc := hroom.2.2 rfl
    have hz : zs = [] := List.eq_nil_of_length_eq_zero (by have := hroom.1; omega)
    subst hz
    subst hc
    clear hv hroom
    have heq : ∀ w, (binOp .eql 24 (.slice none 0 0) (.slice none 0 0)).run Try.prog w = .ok (.bool true) w := fun _ => by kernel_rfl
    go_enter Try.func54, Try.ntmps54
    go_wp2
    go_ret
    exact ⟨_, rfl, OG.nil _ _ _, Below.refl _ _⟩
  · have HV : Hid (RG (Value.int .i64) w (.slice (some ad) zs.length cap) zs) := hv
    obtain ⟨W1, hW1⟩ : ∃ W1, W1 = w.alloc (.cells #[] 3) := ⟨_, rfl⟩
    obtain ⟨g, hg⟩ : ∃ g, g = w.heap.size := ⟨_, rfl⟩
    have HO : Hid (OG (Value.int .i64) w.heap.size 3 W1 (.slice (some ⟨g, 0, none⟩) 0 0) []) := by show OG _ _ _ _ _ _; rw [hW1, hg]; exact OG.lit0 _ _
    have HB : Hid (Below w.heap.size w W1) := by show Below _ _ _; rw [hW1]; exact belowB _ _
    have HW1 : Hid (W1 = w.alloc (.cells #[] 3)) := hW1
    have HG : Hid (g = w.heap.size) := hg
    have HN : Hid (zs.length = n) := hn
    clear hv hW1 hg hroom
    rw [hn] at HV hl ⊢
    clear hn
    have heq : ∀ w, (binOp .eql 24 (.slice (some ad) n cap) (.slice none 0 0)).run Try.prog w = .ok (.bool false) w := fun _ => by kernel_rfl
    go_enter Try.func54, Try.ntmps54
    go_wp2_with (at_builtin; rw [← HW1.out, ← HG.out]; refine wpList_appG _ (fun _ => rfl) rfl _ _ 24 rfl w.heap.size 3 i0 (.int .i64 0) 8 Try.underlying24 hi hz0 hz1 hz2 rfl _ _ [] zs rfl HO.out rfl (HV.out.below (Nat.le_refl _) HB.out) (by have := HN.out; simp only [List.length_nil]; unfold maxLen; omega) (by have := HN.out; simp only [List.length_nil]; omega) HB.out.size ?_)
    intro v' w' ho hg3
    have HB2 : Hid (Below w.heap.size w w') := by
      show Below _ _ _
      exact HB.out.trans ⟨hg3.os, hg3.tape, hg3.output, hg3.size, fun q hq => hg3.block q (Nat.lt_of_lt_of_le hq HB.out.size) (fun e => by
        have := (HO.out.lt q e.symm).1; omega)⟩
    have HO2 : Hid (OG (Value.int .i64) w.heap.size 3 w' v' zs) := ho
    obtain ⟨vo, vn, vc, rfl⟩ : ∃ o n c, v' = .slice o n c := by obtain ⟨ao, cap, e⟩ := HO2.out.rg.sl; exact ⟨_, _, _, e⟩
    clear ho hg3 HO HB HW1 HG HV
    go_wp2
    go_ret
    exact ⟨_, rfl, HO2.out, HB2.out⟩
end Go.Proofs.Ytmgbhbdcnciccaa

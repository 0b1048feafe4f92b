/-
  Proved here: a set of numbers of the call's own, told as a list; slices.Clone of ints.
  Proved here: contracts of the library (maps.Keys, slices.Sorted, slices.Sort) at this program: laid by the shelf's own tool, in its plain mode.
-/
import Derived.Test.YtmgbhbdcnciccaaDagMp
import Derived.Lib.SlKeysI
import Derived.Shelf.SlIterI.Nil
import Derived.Shelf.SortM.Plain
import Derived.Shelf.SortM.SortNone
import Derived.Test.YtmgbhbdcnciccaaProg
namespace Go.Proofs.Ytmgbhbdcnciccaa
set_option linter.unusedVariables false
open Go.RowKit Go.Maps
theorem zeroU (w : World) : (zeroValue 76).run Try.prog w = .ok (.agg #[]) w := by kernel_rfl
/-- Block b is a set of at most n numbers, just those of a list. -/
def MpU (w : World) (b n : Nat) (Z : List Int) : Prop :=
  ∃ D : DataW Unit, w.ownsMap Try.prog 3 unitElem b n D ∧ ∀ x : Int, has D (.int .i64 x) = decide (x ∈ Z)
theorem MpU.made (w : World) : MpU (w.alloc (.map #[] 0)) w.heap.size 0 [] := ⟨_, World.ownsMap_made w _ _ _, fun x => rfl⟩
theorem MpU.lt {w : World} {b n : Nat} {Z : List Int} (h : MpU w b n Z) : b < w.heap.size := by obtain ⟨D, hD, _⟩ := h; exact hD.lt
theorem MpU.of_block {w w' : World} {b n : Nat} {Z : List Int} (h : MpU w b n Z) (hb : w'.heap[b]? = w.heap[b]?) : MpU w' b n Z := by
  obtain ⟨D, ⟨es, clock, h1, h2⟩, h3⟩ := h
  exact ⟨D, ⟨es, clock, hb.trans h1, h2⟩, h3⟩
theorem MpU.ne {w : World} {b n : Nat} {Z : List Int} (h : MpU w b n Z) {q : Nat} {cs : Array Value} {t : Nat} {fr : Nat × Nat} (hq : w.heap[q]? = some (.cells cs t fr)) : b ≠ q := fun e => by
  obtain ⟨D, ⟨es, clock, h1, _⟩, _⟩ := h
  rw [e, hq] at h1
  simp at h1
open Go.WideShapes in
/-- The keys of such a set, in whatever order. -/
theorem keys_mem {w : World} {b n : Nat} {D : DataW Unit} (h : w.ownsMap Try.prog 3 unitElem b n D) : (intKeys D).Nodup ∧ (∀ x : Int, x ∈ intKeys D ↔ has D (.int .i64 x) = true) ∧ Maps.size D ≤ n := by
  have hsz := h.size_le
  obtain ⟨es, clock, hb, F, hs, rfl⟩ := h
  have hp := ((sorted_perm (es.toList.map (WideElems.rg Try.prog 3 unitElem))).pairwise_iff (fun {a b : Lit × DataW Unit} (hne : a.1 ≠ b.1) => hne.symm)).2 (Maps.fit_apart keyedI F)
  have hk : ∀ p ∈ (es.toList.map (WideElems.rg Try.prog 3 unitElem)).foldr DataW.insert [], ∃ x : Int, p.1 = .int .i64 x := fun p hp => by
    have hp2 := (sorted_perm (es.toList.map (WideElems.rg Try.prog 3 unitElem))).mem_iff.1 hp
    obtain ⟨e, he, rfl⟩ := List.mem_map.1 hp2
    obtain ⟨y, hy⟩ := F.reads e he
    rw [WideElems.rg_of hy]
    obtain ⟨x, _, h2, _⟩ := Maps.keyOf_i64 Try.underlying3 (WideElems.rd_key hy)
    exact ⟨x, h2⟩
  generalize (es.toList.map (WideElems.rg Try.prog 3 unitElem)).foldr DataW.insert [] = E at hp hk hsz ⊢
  refine ⟨?_, fun x => ?_, hsz⟩
  · show (E.map fun p => intOf p.1).Nodup
    refine List.pairwise_map.2 (hp.imp_of_mem fun {p q} hp' hq' hne e => hne ?_)
    obtain ⟨a, ha⟩ := hk p hp'
    obtain ⟨b, hb⟩ := hk q hq'
    rw [ha, hb] at e ⊢
    exact congrArg _ e
  · rw [has_eq, List.any_eq_true]
    show x ∈ E.map (fun p => intOf p.1) ↔ _
    rw [List.mem_map]
    constructor
    · rintro ⟨p, hp', rfl⟩
      obtain ⟨a, ha⟩ := hk p hp'
      exact ⟨p, hp', by rw [ha]; simp [Lit.sameKey, intOf]⟩
    · rintro ⟨p, hp', hs⟩
      obtain ⟨a, ha⟩ := hk p hp'
      rw [ha] at hs
      exact ⟨p, hp', by rw [ha]; simpa [Lit.sameKey, intOf] using hs⟩
section
variable {w : World} {ops : Array Oper} {rest : List Oper} {o : Oper} {a : Act} {Q : Exit → Act → World → Prop}
theorem wpList_muLook (hg : o.guard = none) (m x : Operand) (hop : o.op = Op.lookup 75 m x true) (b n : Nat) (Z : List Int) (hm : a.eval m = .map (some b)) (h : MpU w b n Z)
    (k : Int) (hx : a.eval x = .int .i64 k) (hk : (Lit.int .i64 k).wf = true) (hK : wpList Try.prog ops Q rest (a.put o.dst (.tuple #[.agg #[], .bool (decide (k ∈ Z))])) w) : wpList Try.prog ops Q (o :: rest) a w := by
  obtain ⟨D, hD, h3⟩ := h
  refine wpList_lookup_own_unit w hg m x 75 hop 3 76 keyedI Try.underlying75 (zeroU _) b n D hm hD _ _ hx (keyOf_int_mk Try.underlying3 hk) ?_
  rw [h3 k]; exact hK
theorem wpList_muPut (hg : o.guard = none) (m x v : Operand) (hop : o.op = Op.mapUpdate 75 m x v) (b n : Nat) (Z : List Int) (hm : a.eval m = .map (some b)) (h : MpU w b n Z) (hn : n < maxLen)
    (k : Int) (hx : a.eval x = .int .i64 k) (hv : a.eval v = .agg #[]) (hk : (Lit.int .i64 k).wf = true)
    (hK : ∀ w', MpU w' b (n + 1) (Z ++ [k]) → w.grownBy w' (some b) → wpList Try.prog ops Q rest (a.put o.dst undef) w') : wpList Try.prog ops Q (o :: rest) a w := by
  refine wpList_plain hg fun K' hK' => ?_
  obtain ⟨D, hD, h3⟩ := h
  obtain ⟨w', hrun, r1, r2⟩ := hD.update keyedI Try.underlying75 hn (keyOf_int_mk Try.underlying3 hk) unitElem_mk
  unfold Oper.wp
  simp [execOp, hop, hm, hx, hv, hrun, Result.andThen]
  refine hK' _ _ (hK w' ⟨_, r1, fun y => ?_⟩ r2)
  by_cases e : y = k
  · subst e
    have hkl : WideAt.IsKeyLit (Lit.int .i64 y) := trivial
    rw [has_put_same hD.isMap hkl]
    simp
  · have hne : (Lit.int .i64 y) ≠ Lit.int .i64 k := fun e2 => e (by simpa using e2)
    rw [has_put_other hne, h3 y]
    simp [e]
end
set_option maxRecDepth 100000 in
set_option maxHeartbeats 3200000 in
theorem cloneD (v : Value) (zs : List Int) (w : World) (hv : RG (Value.int .i64) w v zs) (hl : zs.length ≤ 2000000) :
    Calls Try.prog 54 #[v] w fun e w' => ∃ u, e = .returned u ∧ OG (Value.int .i64) w.heap.size 3 w' u zs ∧ Below w.heap.size w w' := by
  obtain ⟨i0, hi, hz0, hz1, hz2⟩ := info_parts Try.infoI
  obtain ⟨ao, cap, rfl⟩ := hv.sl
  obtain ⟨n, hn⟩ : ∃ n, zs.length = n := ⟨_, rfl⟩
  have hroom := hv.room
  rcases ao with _ | ad
  · have hc := hroom.2.2 rfl
    have hz : zs = [] := List.eq_nil_of_length_eq_zero (by have := hroom.1; omega)
    subst hz
    subst hc
    clear hv hroom
    have heq : ∀ w, (binOp .eql 24 (.slice none 0 0) (.slice none 0 0)).run Try.prog w = .ok (.bool true) w := fun _ => by kernel_rfl
    go_enter Try.func54, Try.ntmps54
    go_wp2
    go_ret
    exact ⟨_, rfl, OG.nil _ _ _, Below.refl _ _⟩
  · have HV : Hid (RG (Value.int .i64) w (.slice (some ad) zs.length cap) zs) := hv
    obtain ⟨W1, hW1⟩ : ∃ W1, W1 = w.alloc (.cells #[] 3) := ⟨_, rfl⟩
    obtain ⟨g, hg⟩ : ∃ g, g = w.heap.size := ⟨_, rfl⟩
    have HO : Hid (OG (Value.int .i64) w.heap.size 3 W1 (.slice (some ⟨g, 0, none⟩) 0 0) []) := by show OG _ _ _ _ _ _; rw [hW1, hg]; exact OG.lit0 _ _
    have HB : Hid (Below w.heap.size w W1) := by show Below _ _ _; rw [hW1]; exact belowB _ _
    have HW1 : Hid (W1 = w.alloc (.cells #[] 3)) := hW1
    have HG : Hid (g = w.heap.size) := hg
    have HN : Hid (zs.length = n) := hn
    clear hv hW1 hg hroom
    rw [hn] at HV hl ⊢
    clear hn
    have heq : ∀ w, (binOp .eql 24 (.slice (some ad) n cap) (.slice none 0 0)).run Try.prog w = .ok (.bool false) w := fun _ => by kernel_rfl
    go_enter Try.func54, Try.ntmps54
    go_wp2_with (at_builtin; rw [← HW1.out, ← HG.out]; refine wpList_appG _ (fun _ => rfl) rfl _ _ 24 rfl w.heap.size 3 i0 (.int .i64 0) 8 Try.underlying24 hi hz0 hz1 hz2 rfl _ _ [] zs rfl HO.out rfl (HV.out.below (Nat.le_refl _) HB.out) (by have := HN.out; simp only [List.length_nil]; unfold maxLen; omega) (by have := HN.out; simp only [List.length_nil]; omega) HB.out.size ?_)
    intro v' w' ho hg3
    have HB2 : Hid (Below w.heap.size w w') := by
      show Below _ _ _
      exact HB.out.trans ⟨hg3.os, hg3.tape, hg3.output, hg3.size, fun q hq => hg3.block q (Nat.lt_of_lt_of_le hq HB.out.size) (fun e => by
        have := (HO.out.lt q e.symm).1; omega)⟩
    have HO2 : Hid (OG (Value.int .i64) w.heap.size 3 w' v' zs) := ho
    obtain ⟨vo, vn, vc, rfl⟩ : ∃ o n c, v' = .slice o n c := by obtain ⟨ao, cap, e⟩ := HO2.out.rg.sl; exact ⟨_, _, _, e⟩
    clear ho hg3 HO HB HW1 HG HV
    go_wp2
    go_ret
    exact ⟨_, rfl, HO2.out, HB2.out⟩
end Go.Proofs.Ytmgbhbdcnciccaa

namespace Go.Proofs
open Go.Shelf
def Try.keysA_ren : Go.Shelf.Ren := ⟨fun | 7 => 56 | 10 => 66 | n => n, fun | 23 => 75 | 26 => 3 | 3 => 76 | 28 => 80 | 0 => 0 | 27 => 79 | 33 => 84 | 4 => 4 | n => n, fun | n => n⟩
theorem Try.keysA : Go.Proofs.SlLaysZI.n7 Try.prog Try.keysA_ren := {
  mixed := by kernel_rfl
  f7 := ⟨Try.f56.name, by decide, Try.func56.trans (congrArg some (by kernel_rfl))⟩
  f10 := ⟨Try.f66.name, by decide, Try.func66.trans (congrArg some (by kernel_rfl))⟩
  t0 := Try.underlying0
  a0 := Try.isAgg0
  z0 := Try.sizeOf0
  v0 := Try.zeroValue0
  t4 := Try.underlying4
  a4 := Try.isAgg4
  z4 := Try.sizeOf4
  v4 := Try.zeroValue4
  t23 := Try.underlying75
  a23 := Try.isAgg75
  z23 := Try.sizeOf75
  v23 := Try.zeroValue75
  t26 := Try.underlying3
  a26 := Try.isAgg3
  z26 := Try.sizeOf3
  v26 := Try.zeroValue3
  t27 := Try.underlying79
  a27 := Try.isAgg79
  z27 := Try.sizeOf79
  v27 := Try.zeroValue79
  t28 := Try.underlying80
  a28 := Try.isAgg80
  z28 := Try.sizeOf80
  v28 := Try.zeroValue80
  t33 := Try.underlying84
  a33 := Try.isAgg84
  z33 := Try.sizeOf84
  v33 := Try.zeroValue84 }
def Try.sortedA_ren : Go.Shelf.Ren := ⟨fun | 6 => 55 | 8 => 64 | 9 => 65 | 11 => 70 | 13 => 72 | 12 => 71 | 23 => 82 | 24 => 83 | 14 => 73 | 15 => 74 | 16 => 75 | 17 => 76 | 18 => 77 | 19 => 78 | 20 => 79 | 21 => 80 | 22 => 81 | 25 => 84 | 26 => 85 | 27 => 86 | 28 => 87 | 29 => 88 | 30 => 89 | 31 => 90 | n => n, fun | 26 => 3 | 28 => 80 | 24 => 24 | 0 => 0 | 3 => 3 | 37 => 85 | 48 => 98 | 50 => 101 | 4 => 4 | 40 => 110 | 39 => 109 | 45 => 95 | 5 => 5 | 9 => 9 | 51 => 117 | 55 => 121 | 57 => 123 | 58 => 124 | 33 => 84 | n => n, fun | n => n⟩
theorem Try.sortedA : Go.Proofs.SlLaysZI.n6 Try.prog Try.sortedA_ren := {
  mixed := by kernel_rfl
  f6 := ⟨Try.f55.name, by decide, Try.func55.trans (congrArg some (by kernel_rfl))⟩
  f8 := ⟨Try.f64.name, by decide, Try.func64.trans (congrArg some (by kernel_rfl))⟩
  f11 := ⟨Try.f70.name, by decide, Try.func70.trans (congrArg some (by kernel_rfl))⟩
  t0 := Try.underlying0
  a0 := Try.isAgg0
  z0 := Try.sizeOf0
  v0 := Try.zeroValue0
  t24 := Try.underlying24
  a24 := Try.isAgg24
  z24 := Try.sizeOf24
  v24 := Try.zeroValue24
  t26 := Try.underlying3
  a26 := Try.isAgg3
  z26 := Try.sizeOf3
  v26 := Try.zeroValue3
  t28 := Try.underlying80
  a28 := Try.isAgg80
  z28 := Try.sizeOf80
  v28 := Try.zeroValue80
  i26 := by kernel_rfl }
def Try.sortA_ren : Go.Shelf.Ren := ⟨fun | 5 => 65 | 8 => 72 | 7 => 71 | 19 => 82 | 20 => 83 | 10 => 73 | 11 => 74 | 12 => 75 | 13 => 76 | 14 => 77 | 15 => 78 | 16 => 79 | 17 => 80 | 18 => 81 | 30 => 84 | 31 => 85 | 32 => 86 | 33 => 87 | 34 => 88 | 35 => 89 | 40 => 90 | n => n, fun | 23 => 24 | 25 => 3 | 3 => 3 | 32 => 85 | 22 => 24 | 0 => 0 | 44 => 98 | 46 => 101 | 4 => 4 | 36 => 110 | 35 => 109 | 41 => 95 | 5 => 5 | 9 => 9 | 53 => 117 | 57 => 121 | 63 => 123 | 64 => 124 | n => n, fun | n => n⟩
theorem Try.sortA : Go.Proofs.SlLaysM.n5 Try.prog Try.sortA_ren := {
  mixed := by kernel_rfl
  f5 := ⟨Try.f65.name, by decide, Try.func65.trans (congrArg some (by kernel_rfl))⟩
  f7 := ⟨Try.f71.name, by decide, Try.func71.trans (congrArg some (by kernel_rfl))⟩
  f8 := Try.func72.trans (congrArg some (by kernel_rfl))
  f10 := ⟨Try.f73.name, by decide, Try.func73.trans (congrArg some (by kernel_rfl))⟩
  f11 := ⟨Try.f74.name, by decide, Try.func74.trans (congrArg some (by kernel_rfl))⟩
  f12 := ⟨Try.f75.name, by decide, Try.func75.trans (congrArg some (by kernel_rfl))⟩
  f13 := ⟨Try.f76.name, by decide, Try.func76.trans (congrArg some (by kernel_rfl))⟩
  f14 := ⟨Try.f77.name, by decide, Try.func77.trans (congrArg some (by kernel_rfl))⟩
  f15 := ⟨Try.f78.name, by decide, Try.func78.trans (congrArg some (by kernel_rfl))⟩
  f16 := ⟨Try.f79.name, by decide, Try.func79.trans (congrArg some (by kernel_rfl))⟩
  f17 := ⟨Try.f80.name, by decide, Try.func80.trans (congrArg some (by kernel_rfl))⟩
  f18 := ⟨Try.f81.name, by decide, Try.func81.trans (congrArg some (by kernel_rfl))⟩
  f19 := Try.func82.trans (congrArg some (by kernel_rfl))
  f20 := Try.func83.trans (congrArg some (by kernel_rfl))
  f30 := ⟨Try.f84.name, by decide, Try.func84.trans (congrArg some (by kernel_rfl))⟩
  f31 := Try.func85.trans (congrArg some (by kernel_rfl))
  f32 := Try.func86.trans (congrArg some (by kernel_rfl))
  f33 := ⟨Try.f87.name, by decide, Try.func87.trans (congrArg some (by kernel_rfl))⟩
  f34 := ⟨Try.f88.name, by decide, Try.func88.trans (congrArg some (by kernel_rfl))⟩
  f35 := ⟨Try.f89.name, by decide, Try.func89.trans (congrArg some (by kernel_rfl))⟩
  f40 := ⟨Try.f90.name, by decide, Try.func90.trans (congrArg some (by kernel_rfl))⟩
  t0 := Try.underlying0
  a0 := Try.isAgg0
  z0 := Try.sizeOf0
  v0 := Try.zeroValue0
  t3 := Try.underlying3
  a3 := Try.isAgg3
  z3 := Try.sizeOf3
  v3 := Try.zeroValue3
  t4 := Try.underlying4
  a4 := Try.isAgg4
  z4 := Try.sizeOf4
  v4 := Try.zeroValue4
  t5 := Try.underlying5
  a5 := Try.isAgg5
  z5 := Try.sizeOf5
  v5 := Try.zeroValue5
  t9 := Try.underlying9
  a9 := Try.isAgg9
  z9 := Try.sizeOf9
  v9 := Try.zeroValue9
  t22 := Try.underlying24
  a22 := Try.isAgg24
  z22 := Try.sizeOf24
  v22 := Try.zeroValue24
  t23 := Try.underlying24
  a23 := Try.isAgg24
  z23 := Try.sizeOf24
  v23 := Try.zeroValue24
  t25 := Try.underlying3
  a25 := Try.isAgg3
  z25 := Try.sizeOf3
  v25 := Try.zeroValue3
  t32 := Try.underlying85
  a32 := Try.isAgg85
  z32 := Try.sizeOf85
  v32 := Try.zeroValue85
  t35 := Try.underlying109
  a35 := Try.isAgg109
  z35 := Try.sizeOf109
  v35 := Try.zeroValue109
  t36 := Try.underlying110
  a36 := Try.isAgg110
  z36 := Try.sizeOf110
  v36 := Try.zeroValue110
  t41 := Try.underlying95
  a41 := Try.isAgg95
  z41 := Try.sizeOf95
  v41 := Try.zeroValue95
  t44 := Try.underlying98
  a44 := Try.isAgg98
  z44 := Try.sizeOf98
  v44 := Try.zeroValue98
  t46 := Try.underlying101
  a46 := Try.isAgg101
  z46 := Try.sizeOf101
  v46 := Try.zeroValue101
  t53 := Try.underlying117
  a53 := Try.isAgg117
  z53 := Try.sizeOf117
  v53 := Try.zeroValue117
  t57 := Try.underlying121
  a57 := Try.isAgg121
  z57 := Try.sizeOf121
  v57 := Try.zeroValue121
  t63 := Try.underlying123
  a63 := Try.isAgg123
  z63 := Try.sizeOf123
  v63 := Try.zeroValue123
  t64 := Try.underlying124
  a64 := Try.isAgg124
  z64 := Try.sizeOf124
  v64 := Try.zeroValue124 }
end Go.Proofs

/-
  Proved here: With and Without of sets of ints, by their rising lists; what the document's Some says.
  Proved here: a set of numbers of the call's own, told as a list; slices.Clone of ints.
-/
import Derived.Test.YtcadljpdokhpmaaGreatSetSAll
import Derived.Test.YtcadljpdokhpmaaGreatDagMpAll
import Derived.Lib.SlKeysI
namespace Go.Proofs.YtcadljpdokhpmaaGreat
open Go.Shelf Go.RowKit Go.Lib Go.Sort
theorem with_list {L : List Int} (h : Rise L) {x : Int} {k : Nat} (hP : Pos (ltOf cfI) L x k) : (if hasI L x then L else L.take k ++ x :: L.drop k) = insR x L := by
  have hlo : ∀ z ∈ L.take k, z < x := fun z hz => by
    obtain ⟨i, hi⟩ := List.mem_iff_getElem?.1 hz
    have hi2 : i < k := by have := (List.getElem?_eq_some_iff.1 hi).1; rw [List.length_take] at this; omega
    rw [List.getElem?_take_of_lt hi2] at hi
    have := hP.lo i z hi2 hi
    rw [ltI] at this
    exact of_decide_eq_true this
  have hhi : ∀ z ∈ L.drop k, x ≤ z := fun z hz => by
    obtain ⟨i, hi⟩ := List.mem_iff_getElem?.1 hz
    rw [List.getElem?_drop] at hi
    have := hP.hi (k + i) z (by omega) hi
    rw [ltI] at this
    have := of_decide_eq_false this
    omega
  by_cases hx : x ∈ L
  · rw [if_pos (by rw [hasI_mem]; exact decide_eq_true hx)]
    refine rise_ext h (rise_insR x h) fun z => ?_
    rw [mem_insR]
    exact ⟨Or.inr, fun hz => hz.elim (fun e => e ▸ hx) id⟩
  · rw [if_neg (by rw [hasI_mem]; simpa using hx)]
    refine rise_ext ?_ (rise_insR x h) fun z => ?_
    · refine List.pairwise_append.2 ⟨List.Pairwise.sublist (List.take_sublist _ _) h, List.pairwise_cons.2 ⟨fun z hz => ?_, List.Pairwise.sublist (List.drop_sublist _ _) h⟩, fun a ha b hb => ?_⟩
      · have h1 := hhi z hz
        have h2 : z ≠ x := fun e => hx (e ▸ List.mem_of_mem_drop hz)
        omega
      · have h1 := hlo a ha
        rcases List.mem_cons.1 hb with rfl | hb
        · exact h1
        · have := hhi b hb; omega
    · rw [mem_insR]
      conv => rhs; rw [← List.take_append_drop k L]
      simp only [List.mem_append, List.mem_cons]
      by_cases a : z ∈ L.take k <;> by_cases b : z = x <;> by_cases c : z ∈ L.drop k <;> simp [a, b, c]
theorem without_list {L : List Int} (h : Rise L) {x : Int} {k : Nat} (hP : Pos (ltOf cfI) L x k) : (if hasI L x then L.take k ++ L.drop (k + 1) else L) = L.filter fun z => decide (z ∈ [x]) == false := by
  by_cases hx : x ∈ L
  · have hh : hasI L x = true := by rw [hasI_mem]; exact decide_eq_true hx
    rw [if_pos hh]
    have hk : L[k]? = some x := by
      have h1 := fndI_has (rs_rise.2 h) hP
      rw [hh] at h1
      unfold fndI at h1
      cases e2 : L[k]? with
      | none => rw [e2] at h1; exact absurd h1 (by simp)
      | some y => rw [e2] at h1; rw [smI_eq y x h1]
    have hL : L = L.take k ++ x :: L.drop (k + 1) := by rw [← drop_cons hk, List.take_append_drop]
    have hR := h
    rw [hL] at hR
    have hp := List.pairwise_append.1 hR
    have hc := List.pairwise_cons.1 hp.2.1
    have e1 : (L.take k).filter (fun z => decide (z ∈ [x]) == false) = L.take k := List.filter_eq_self.2 fun z hz => by
      have := hp.2.2 z hz x (List.mem_cons_self ..)
      simp
      omega
    have e2 : (L.drop (k + 1)).filter (fun z => decide (z ∈ [x]) == false) = L.drop (k + 1) := List.filter_eq_self.2 fun z hz => by
      have := hc.1 z hz
      simp
      omega
    conv => rhs; rw [hL]
    rw [List.filter_append, e1, List.filter_cons_of_neg (by simp), e2]
  · rw [if_neg (by rw [hasI_mem]; simpa using hx)]
    exact (List.filter_eq_self.2 fun z hz => by
      have : z ≠ x := fun e => hx (e ▸ hz)
      simp [this]).symm
theorem siWithout {w : World} {v : Value} {L : List Int} {k : Nat} (h1 : SI w v L k) (x : Int) (hk : k ≤ 100000) : Calls Tryz.prog 59 #[.agg #[v], .int .i64 x] w fun e w' => SE w (L.filter fun z => decide (z ∈ [x]) == false) k e w' :=
  (setWithoutI v L x w h1.rg (rs_rise.2 h1.rise) (by have := h1.len; omega)).mono fun _ _ ⟨u, j, h2, hP, hr, hb⟩ => by
    rw [without_list h1.rise hP] at hr
    obtain ⟨ao, cap, rfl⟩ := hr.sl
    exact ⟨ao, _, cap, h2, ⟨hr, List.Pairwise.filter _ h1.rise, Nat.le_trans (List.length_filter_le _ _) h1.len⟩, hb⟩
theorem siHas {w : World} {v : Value} {L : List Int} {k : Nat} (h1 : SI w v L k) (x : Int) (hk : k ≤ 100000) (b : Bool) (hb : decide (x ∈ L) = b) : Calls Tryz.prog 42 #[.agg #[v], .int .i64 x] w fun e w' => e = .returned (.bool b) ∧ Below w.heap.size w w' := by
  have := setHasI v L x w h1.rg (rs_rise.2 h1.rise) (by have := h1.len; omega)
  rw [hasI_mem, hb] at this
  exact this
theorem siList {w : World} {v : Value} {L : List Int} {k : Nat} (h1 : SI w v L k) (hk : k ≤ 100000) : Calls Tryz.prog 34 #[.agg #[v]] w fun e w' => RE w L e w' := setListI v L w h1.rg (by have := h1.len; omega)
theorem some_true (L M : List Int) : (L.filter fun z => decide (z ∈ M) == true) = meetR L M := by unfold meetR; congr 1; funext z; simp
theorem some_false (L M : List Int) : (L.filter fun z => decide (z ∈ M) == false) = minusR L M := by unfold minusR; congr 1; funext z; cases decide (z ∈ M) <;> rfl
theorem len_filt (L : List Int) (p : Int → Bool) {k : Nat} (h : L.length ≤ k) : (L.filter p).length ≤ k := Nat.le_trans (List.length_filter_le _ _) h
theorem siOfO {w : World} {v : Value} {L : List Int} (hv : RG (Value.int .i64) w v L) {k : Nat} (hk : L.length ≤ k) (hk2 : k ≤ 100000) : Calls Tryz.prog 32 #[v] w fun e w' => ∃ ao n cap, e = .returned (.agg #[.slice ao n cap]) ∧ SI w' (.slice ao n cap) (ofR L) k ∧ (∀ b, (Value.slice ao n cap).ownBlock = some b → w.heap.size ≤ b) ∧ Below w.heap.size w w' :=
  (setOfI v L w hv (by omega)).mono fun _ _ ⟨u, h1, h2, h3⟩ => by
    obtain ⟨ao, cap, rfl, -⟩ := h2.sl
    exact ⟨ao, _, cap, h1, ⟨by have := h2.rg; rwa [ofI_eq L] at this ⊢, rise_ofR L, by rw [← ofI_eq]; have := ofI_len L; omega⟩, fun b hb => (h2.lt b hb).1, h3⟩
theorem lgI_take (L : List Int) (i n : Nat) (h : L.length = n) : (lgI L i).take n = L := by subst h; simp [lgI]
/-- rows and sets that lie elsewhere stay -/
theorem RG.stay {w w' : World} {u v : Value} {L : List Int} (h : RG (Value.int .i64) w u L) (hg : w.grownBy w' v.ownBlock) (hne : 0 < L.length → ∀ b g, u.ownBlock = some b → v.ownBlock = some g → b ≠ g) : RG (Value.int .i64) w' u L :=
  h.kept hg fun g e h0 b hb => hne h0 b g hb e
theorem SI.stay {w w' : World} {u v : Value} {L : List Int} {k : Nat} (h : SI w u L k) (hg : w.grownBy w' v.ownBlock) (hne : 0 < L.length → ∀ b g, u.ownBlock = some b → v.ownBlock = some g → b ≠ g) : SI w' u L k := ⟨h.rg.stay hg hne, h.rise, h.len⟩
theorem OG.stay {B e : Nat} {w w' : World} {u v : Value} {L : List Int} (h : OG (Value.int .i64) B e w u L) (hg : w.grownBy w' v.ownBlock) (hne : ∀ b g, u.ownBlock = some b → v.ownBlock = some g → b ≠ g) : OG (Value.int .i64) B e w' u L :=
  h.of_blocks fun b hb => hg.block b (h.lt b hb).2 fun e => hne b b hb e.symm rfl
theorem SCell.stay {T : TypeId} {w w' : World} {b : Nat} {x v : Value} (h : SCell T w b x) (hg : w.grownBy w' v.ownBlock) (hne : ∀ g, v.ownBlock = some g → b ≠ g) : SCell T w' b x := by
  unfold SCell
  rw [hg.block b h.lt fun e => hne b e.symm rfl]
  exact h
theorem below_row {B : Nat} {w0 w w' : World} {v : Value} (hb : Below B w0 w) (hB : B ≤ w.heap.size) (hg : w.grownBy w' v.ownBlock) (hv : ∀ g, v.ownBlock = some g → B ≤ g) : Below B w0 w' := hb.trans ((Below.refl B w).grown hg hB hv)
end Go.Proofs.YtcadljpdokhpmaaGreat

namespace Go.Proofs.YtcadljpdokhpmaaGreat
set_option linter.unusedVariables false
open Go.RowKit Go.Maps
theorem zeroU (w : World) : (zeroValue 96).run Tryz.prog w = .ok (.agg #[]) w := by kernel_rfl
/-- Block b is a set of at most n numbers, just those of a list. -/
def MpU (w : World) (b n : Nat) (Z : List Int) : Prop :=
  ∃ D : DataW Unit, w.ownsMap Tryz.prog 3 unitElem b n D ∧ ∀ x : Int, has D (.int .i64 x) = decide (x ∈ Z)
theorem MpU.made (w : World) : MpU (w.alloc (.map #[] 0)) w.heap.size 0 [] := ⟨_, World.ownsMap_made w _ _ _, fun x => rfl⟩
theorem MpU.lt {w : World} {b n : Nat} {Z : List Int} (h : MpU w b n Z) : b < w.heap.size := by obtain ⟨D, hD, _⟩ := h; exact hD.lt
theorem MpU.of_block {w w' : World} {b n : Nat} {Z : List Int} (h : MpU w b n Z) (hb : w'.heap[b]? = w.heap[b]?) : MpU w' b n Z := by
  obtain ⟨D, ⟨es, clock, h1, h2⟩, h3⟩ := h
  exact ⟨D, ⟨es, clock, hb.trans h1, h2⟩, h3⟩
theorem MpU.ne {w : World} {b n : Nat} {Z : List Int} (h : MpU w b n Z) {q : Nat} {cs : Array Value} {t : Nat} {fr : Nat × Nat} (hq : w.heap[q]? = some (.cells cs t fr)) : b ≠ q := fun e => by
  obtain ⟨D, ⟨es, clock, h1, _⟩, _⟩ := h
  rw [e, hq] at h1
  simp at h1
open Go.WideShapes in
/-- The keys of such a set, in whatever order. -/
theorem keys_mem {w : World} {b n : Nat} {D : DataW Unit} (h : w.ownsMap Tryz.prog 3 unitElem b n D) : (intKeys D).Nodup ∧ (∀ x : Int, x ∈ intKeys D ↔ has D (.int .i64 x) = true) ∧ Maps.size D ≤ n := by
  have hsz := h.size_le
  obtain ⟨es, clock, hb, F, hs, rfl⟩ := h
  have hp := ((sorted_perm (es.toList.map (WideElems.rg Tryz.prog 3 unitElem))).pairwise_iff (fun {a b : Lit × DataW Unit} (hne : a.1 ≠ b.1) => hne.symm)).2 (Maps.fit_apart keyedI F)
  have hk : ∀ p ∈ (es.toList.map (WideElems.rg Tryz.prog 3 unitElem)).foldr DataW.insert [], ∃ x : Int, p.1 = .int .i64 x := fun p hp => by
    have hp2 := (sorted_perm (es.toList.map (WideElems.rg Tryz.prog 3 unitElem))).mem_iff.1 hp
    obtain ⟨e, he, rfl⟩ := List.mem_map.1 hp2
    obtain ⟨y, hy⟩ := F.reads e he
    rw [WideElems.rg_of hy]
    obtain ⟨x, _, h2, _⟩ := Maps.keyOf_i64 Tryz.underlying3 (WideElems.rd_key hy)
    exact ⟨x, h2⟩
  generalize (es.toList.map (WideElems.rg Tryz.prog 3 unitElem)).foldr DataW.insert [] = E at hp hk hsz ⊢
  refine ⟨?_, fun x => ?_, hsz⟩
  · show (E.map fun p => Go.intOf p.1).Nodup
    refine List.pairwise_map.2 (hp.imp_of_mem fun {p q} hp' hq' hne e => hne ?_)
    obtain ⟨a, ha⟩ := hk p hp'
    obtain ⟨b, hb⟩ := hk q hq'
    rw [ha, hb] at e ⊢
    exact congrArg _ e
  · rw [has_eq, List.any_eq_true]
    show x ∈ E.map (fun p => Go.intOf p.1) ↔ _
    rw [List.mem_map]
    constructor
    · rintro ⟨p, hp', rfl⟩
      obtain ⟨a, ha⟩ := hk p hp'
      exact ⟨p, hp', by rw [ha]; simp [Lit.sameKey, Go.intOf]⟩
    · rintro ⟨p, hp', hs⟩
      obtain ⟨a, ha⟩ := hk p hp'
      rw [ha] at hs
      exact ⟨p, hp', by rw [ha]; simpa [Lit.sameKey, Go.intOf] using hs⟩
section
variable {w : World} {ops : Array Oper} {rest : List Oper} {o : Oper} {a : Act} {Q : Exit → Act → World → Prop}
theorem wpList_muLook (hg : o.guard = none) (m x : Operand) (hop : o.op = Op.lookup 95 m x true) (b n : Nat) (Z : List Int) (hm : a.eval m = .map (some b)) (h : MpU w b n Z)
    (k : Int) (hx : a.eval x = .int .i64 k) (hk : (Lit.int .i64 k).wf = true) (hK : wpList Tryz.prog ops Q rest (a.put o.dst (.tuple #[.agg #[], .bool (decide (k ∈ Z))])) w) : wpList Tryz.prog ops Q (o :: rest) a w := by
  obtain ⟨D, hD, h3⟩ := h
  refine wpList_lookup_own_unit w hg m x 95 hop 3 96 keyedI Tryz.underlying95 (zeroU _) b n D hm hD _ _ hx (keyOf_int_mk Tryz.underlying3 hk) ?_
  rw [h3 k]; exact hK
theorem wpList_muPut (hg : o.guard = none) (m x v : Operand) (hop : o.op = Op.mapUpdate 95 m x v) (b n : Nat) (Z : List Int) (hm : a.eval m = .map (some b)) (h : MpU w b n Z) (hn : n < maxLen)
    (k : Int) (hx : a.eval x = .int .i64 k) (hv : a.eval v = .agg #[]) (hk : (Lit.int .i64 k).wf = true)
    (hK : ∀ w', MpU w' b (n + 1) (Z ++ [k]) → w.grownBy w' (some b) → wpList Tryz.prog ops Q rest (a.put o.dst undef) w') : wpList Tryz.prog ops Q (o :: rest) a w := by
  refine wpList_plain hg fun K' hK' => ?_
  obtain ⟨D, hD, h3⟩ := h
  obtain ⟨w', hrun, r1, r2⟩ := hD.update keyedI Tryz.underlying95 hn (keyOf_int_mk Tryz.underlying3 hk) unitElem_mk
  unfold Oper.wp
  simp [execOp, hop, hm, hx, hv, hrun, Result.andThen]
  refine hK' _ _ (hK w' ⟨_, r1, fun y => ?_⟩ r2)
  by_cases e : y = k
  · subst e
    have hkl : WideAt.IsKeyLit (Lit.int .i64 y) := trivial
    rw [has_put_same hD.isMap hkl]
    simp
  · have hne : (Lit.int .i64 y) ≠ Lit.int .i64 k := fun e2 => e (by simpa using e2)
    rw [has_put_other hne, h3 y]
    simp [e]
end
set_option maxRecDepth 100000 in
set_option maxHeartbeats 3200000 in
theorem cloneD (v : Value) (zs : List Int) (w : World) (hv : RG (Value.int .i64) w v zs) (hl : zs.length ≤ 2000000) :
    Calls Tryz.prog 52 #[v] w fun e w' => ∃ u, e = .returned u ∧ OG (Value.int .i64) w.heap.size 3 w' u zs ∧ Below w.heap.size w w' := by
  obtain ⟨i0, hi, hz0, hz1, hz2⟩ := info_parts Tryz.infoI
  obtain ⟨ao, cap, rfl⟩ := hv.sl
  obtain ⟨n, hn⟩ : ∃ n, zs.length = n := ⟨_, rfl⟩
  have hroom := hv.room
  rcases ao with _ | ad
  · have hc := hroom.2.2 rfl
    have hz : zs = [] := List.eq_nil_of_length_eq_zero (by have := hroom.1; omega)
    subst hz
    subst hc
    clear hv hroom
    have heq : ∀ w, (binOp .eql 25 (.slice none 0 0) (.slice none 0 0)).run Tryz.prog w = .ok (.bool true) w := fun _ => by kernel_rfl
    go_enter Tryz.func52, Tryz.ntmps52
    go_wp2
    go_ret
    exact ⟨_, rfl, OG.nil _ _ _, Below.refl _ _⟩
  · have HV : Hid (RG (Value.int .i64) w (.slice (some ad) zs.length cap) zs) := hv
    obtain ⟨W1, hW1⟩ : ∃ W1, W1 = w.alloc (.cells #[] 3) := ⟨_, rfl⟩
    obtain ⟨g, hg⟩ : ∃ g, g = w.heap.size := ⟨_, rfl⟩
    have HO : Hid (OG (Value.int .i64) w.heap.size 3 W1 (.slice (some ⟨g, 0, none⟩) 0 0) []) := by show OG _ _ _ _ _ _; rw [hW1, hg]; exact OG.lit0 _ _
    have HB : Hid (Below w.heap.size w W1) := by show Below _ _ _; rw [hW1]; exact belowB _ _
    have HW1 : Hid (W1 = w.alloc (.cells #[] 3)) := hW1
    have HG : Hid (g = w.heap.size) := hg
    have HN : Hid (zs.length = n) := hn
    clear hv hW1 hg hroom
    rw [hn] at HV hl ⊢
    clear hn
    have heq : ∀ w, (binOp .eql 25 (.slice (some ad) n cap) (.slice none 0 0)).run Tryz.prog w = .ok (.bool false) w := fun _ => by kernel_rfl
    go_enter Tryz.func52, Tryz.ntmps52
    go_wp2_with (at_builtin; rw [← HW1.out, ← HG.out]; refine wpList_appG _ (fun _ => rfl) rfl _ _ 25 rfl w.heap.size 3 i0 (.int .i64 0) 8 Tryz.underlying25 hi hz0 hz1 hz2 rfl _ _ [] zs rfl HO.out rfl (HV.out.below (Nat.le_refl _) HB.out) (by have := HN.out; simp only [List.length_nil]; unfold maxLen; omega) (by have := HN.out; simp only [List.length_nil]; omega) HB.out.size ?_)
    intro v' w' ho hg3
    have HB2 : Hid (Below w.heap.size w w') := by
      show Below _ _ _
      exact HB.out.trans ⟨hg3.os, hg3.tape, hg3.output, hg3.size, fun q hq => hg3.block q (Nat.lt_of_lt_of_le hq HB.out.size) (fun e => by
        have := (HO.out.lt q e.symm).1; omega)⟩
    have HO2 : Hid (OG (Value.int .i64) w.heap.size 3 w' v' zs) := ho
    obtain ⟨vo, vn, vc, rfl⟩ : ∃ o n c, v' = .slice o n c := by obtain ⟨ao, cap, e⟩ := HO2.out.rg.sl; exact ⟨_, _, _, e⟩
    clear ho hg3 HO HB HW1 HG HV
    go_wp2
    go_ret
    exact ⟨_, rfl, HO2.out, HB2.out⟩
end Go.Proofs.YtcadljpdokhpmaaGreat

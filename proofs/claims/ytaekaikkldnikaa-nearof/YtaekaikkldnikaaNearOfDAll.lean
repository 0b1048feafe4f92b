/-
  Proved here: what Of of package near, and the document's, answer of any float; rows that others leave alone.
  Proved here: a list that is appended to leaves two rows beside it alone; plain steps of the law's loops.
-/
import Derived.Test.YtaekaikkldnikaaOverAll
namespace Go.Proofs.Ytaekaikkldnikaa
open Go.RowKit

/-- A fraction in rows of the call's own: the number above, and the list below. -/
def QOwn (B : Nat) (w : World) (v : Value) (z : Int) (ys : List Nat) : Prop := ∃ m d, v = .agg #[.bool (decide (z < 0)), m, d] ∧ Own B 39 w m (lim z.natAbs) ∧ Own B 39 w d ys ∧ (m.ownBlock = none ∨ m.ownBlock ≠ d.ownBlock)
theorem QOwn.below {B : Nat} {w w' : World} {v : Value} {z : Int} {ys : List Nat} (h : QOwn B w v z ys) (hb : Below w.heap.size w w') : QOwn B w' v z ys := by
  obtain ⟨m, d, e, h1, h2, h3⟩ := h
  exact ⟨m, d, e, h1.below hb, h2.below hb, h3⟩
theorem QOwn.see {B : Nat} {w : World} {v : Value} {z : Int} {ys : List Nat} (h : QOwn B w v z ys) : ∃ n ao al ac bo bl bc, v = .agg #[.bool n, .slice ao al ac, .slice bo bl bc] := by
  obtain ⟨m, d, rfl, h1, h2, _⟩ := h
  obtain ⟨ao, al, ac, rfl⟩ := h1.sl
  obtain ⟨bo, bl, bc, rfl⟩ := h2.sl
  exact ⟨_, ao, al, ac, bo, bl, bc, rfl⟩
theorem QOwn.parts {B : Nat} {w : World} {n : Bool} {m d : Value} {z : Int} {ys : List Nat} (h : QOwn B w (.agg #[.bool n, m, d]) z ys) : n = decide (z < 0) ∧ Own B 39 w m (lim z.natAbs) ∧ Own B 39 w d ys ∧ (m.ownBlock = none ∨ m.ownBlock ≠ d.ownBlock) := by
  obtain ⟨m', d', e, h1, h2, h3⟩ := h
  simp only [Value.agg.injEq, Array.mk.injEq, List.cons.injEq, Value.bool.injEq, and_true] at e
  obtain ⟨e1, rfl, rfl⟩ := e
  exact ⟨e1, h1, h2, h3⟩
/-- What Of leaves. -/
def OfEnd (z : Int) (ys : List Nat) (c : Int) (w : World) (e : Ending) (w' : World) : Prop := ∃ v, e = .returned (.tuple #[v, .int .i64 c]) ∧ QOwn w.heap.size w' v z ys ∧ Below w.heap.size w w'
theorem RTEnd.of {w w' : World} {r : Rat} {e : Ending} (h : RTEnd w r e w') : OfEnd r.num (lim r.den) 0 w e w' := by
  obtain ⟨v, rfl, ⟨m, d, e, h1, h2, h3⟩, hb⟩ := h
  exact ⟨v, rfl, ⟨m, d, e, h1, h2, h3⟩, hb⟩
theorem RFl.of {w w' : World} {e : Ending} (h : RFl w e w') : OfEnd 0 [] 13 w e w' := by
  obtain ⟨rfl, hb⟩ := h
  exact ⟨_, rfl, ⟨_, _, rfl, Own.of_nil _ _ _, Own.of_nil _ _ _, Or.inl rfl⟩, hb⟩
/-- What a float's value is above and below the line, and the number of its error. -/
def zF (b : Nat) : Int := if b % 2 ^ 63 < 9218868437227405312 then (fR b).num else 0
def yF (b : Nat) : List Nat := if b % 2 ^ 63 < 9218868437227405312 then lim (fR b).den else []
def cF (b : Nat) : Int := if b % 2 ^ 63 < 9218868437227405312 then 0 else 13
theorem of_any2 {F : Nat} {args : Array Value} {w : World} {b : Nat} (hy : b % 2 ^ 63 < 9218868437227405312 → Calls Try.prog F args w fun e w' => RTEnd w (fR b) e w') (hn : 9218868437227405312 ≤ b % 2 ^ 63 → Calls Try.prog F args w fun e w' => RFl w e w') : Calls Try.prog F args w fun e w' => OfEnd (zF b) (yF b) (cF b) w e w' := by
  unfold zF yF cF
  by_cases h : b % 2 ^ 63 < 9218868437227405312
  · rw [if_pos h, if_pos h, if_pos h]
    exact (hy h).mono fun _ _ h => h.of
  · rw [if_neg h, if_neg h, if_neg h]
    exact (hn (Nat.not_lt.1 h)).mono fun _ _ h => h.of
theorem ofR {b : Nat} (hb : b < 18446744073709551616) (w : World) : Calls Try.prog 4 #[.float .f64 b] w fun e w' => OfEnd (zF b) (yF b) (cF b) w e w' := of_any2 (refOf_yes b w hb) (refOf_no b w hb)
theorem of64 {b : Nat} (hb : b < 18446744073709551616) (w : World) : Calls Try.prog 5 #[.float .f64 b] w fun e w' => OfEnd (zF b) (yF b) (cF b) w e w' := of_any2 (of64_yes b w hb) (of64_no b w hb)
theorem ofM {b : Nat} (hb : b < 18446744073709551616) (w : World) : Calls Try.prog 6 #[.float .f64 b] w fun e w' => OfEnd (zF b) (yF b) (cF b) w e w' := of_any2 (ofM_yes b w hb) (ofM_no b w hb)
theorem of32 {s : Nat} (hn : (Ieee.single.read s).isNaN = false) (hle : cnv s % 2 ^ 63 ≤ 9218868437227405312) (w : World) : Calls Try.prog 7 #[.float .f32 s] w fun e w' => OfEnd (zF (cnv s)) (yF (cnv s)) (cF (cnv s)) w e w' := of_any2 (of32_yes s w hn) (fun h => of32_inf s w hn (by omega))
theorem ofH {s : Nat} (hn : (Ieee.single.read s).isNaN = false) (hle : cnv s % 2 ^ 63 ≤ 9218868437227405312) (w : World) : Calls Try.prog 8 #[.float .f32 s] w fun e w' => OfEnd (zF (cnv s)) (yF (cnv s)) (cF (cnv s)) w e w' := of_any2 (ofH_yes s w hn) (fun h => ofH_inf s w hn (by omega))
theorem cnv_le {s : Nat} (hs : s < 4294967296) (hn : (Ieee.single.read s).isNaN = false) : cnv s % 2 ^ 63 ≤ 9218868437227405312 := by
  rw [snan_word] at hn
  have h := of_decide_eq_false hn
  rcases Nat.lt_or_ge (s % 2 ^ 31) 2139095040 with h1 | h1
  · exact Nat.le_of_lt (cnv_fin hs h1).1
  · exact Nat.le_of_eq (cnv_inf (by rw [snan_word]; exact hn) (by omega))
theorem zF_len (b : Nat) : (lim (zF b).natAbs).length ≤ 200 ∧ (yF b).length ≤ 200 := by
  unfold zF yF
  by_cases h : b % 2 ^ 63 < 9218868437227405312
  · rw [if_pos h, if_pos h]
    have h1 := fR_sz h
    have h2 := h1.num.len
    have h3 := h1.den.len
    rw [Int.natAbs_natCast] at h3
    omega
  · rw [if_neg h, if_neg h]
    exact ⟨by decide, by decide⟩

set_option maxRecDepth 100000 in
set_option maxHeartbeats 3200000 in
theorem sameQ_yes {B B' : Nat} {a b : Value} {z : Int} {ys : List Nat} {w : World} (ha : QOwn B w a z ys) (hb0 : QOwn B' w b z ys) :
    Calls Try.prog 9 #[a, b] w fun e w' => e = .returned (.bool true) ∧ Below w.heap.size w w' := by
  obtain ⟨ma, da, rfl, a1, a2, _⟩ := ha
  obtain ⟨mb, db, rfl, b1, b2, _⟩ := hb0
  obtain ⟨ao, al, ac, rfl⟩ := a1.sl
  obtain ⟨aO, aL, aC, rfl⟩ := a2.sl
  obtain ⟨bo, bl, bc, rfl⟩ := b1.sl
  obtain ⟨bO, bL, bC, rfl⟩ := b2.sl
  have ia : IStd w (.agg #[.bool (decide (z < 0)), .slice ao al ac]) z := ⟨_, rfl, a1.num⟩
  have ib : IStd w (.agg #[.bool (decide (z < 0)), .slice bo bl bc]) z := ⟨_, rfl, b1.num⟩
  have d1 := a2.num
  have d2 := b2.num
  clear a1 a2 b1 b2
  generalize hn : decide (z < 0) = n at *
  obtain ⟨W1, hW1⟩ : ∃ W1, W1 = (w.alloc (.cells #[.bool n, .slice ao al ac, .slice aO aL aC] 29)).alloc (.cells #[.bool n, .slice bo bl bc, .slice bO bL bC] 29) := ⟨_, rfl⟩
  have q0 : QCell W1 (w.heap.size) n (.slice ao al ac) (.slice aO aL aC) := by rw [hW1]; exact qcell_step (qcell_new _ (by simp))
  have q1 : QCell W1 (w.heap.size + 1) n (.slice bo bl bc) (.slice bO bL bC) := by rw [hW1]; exact qcell_new _ (by simp)
  have hB : Below w.heap.size w W1 := by rw [hW1]; exact bstep (belowA w _) (belowA _ _)
  have HW1 : Hid (W1 = (w.alloc (.cells #[.bool n, .slice ao al ac, .slice aO aL aC] 29)).alloc (.cells #[.bool n, .slice bo bl bc, .slice bO bL bC] 29)) := hW1
  clear hW1 hn
  replace d1 := d1.below (Nat.le_refl _) hB
  replace d2 := d2.below (Nat.le_refl _) hB
  have ia : IStd W1 (.agg #[.bool n, .slice ao al ac]) z := by obtain ⟨m, e, h⟩ := ia; exact ⟨m, e, h.below (Nat.le_refl _) hB⟩
  have ib : IStd W1 (.agg #[.bool n, .slice bo bl bc]) z := by obtain ⟨m, e, h⟩ := ib; exact ⟨m, e, h.below (Nat.le_refl _) hB⟩
  go_enter Try.func9, Try.ntmps9
  go_wp2_with fail
  rw [← HW1.out]
  clear HW1
  obtain ⟨g, hg⟩ : ∃ g, g = w.heap.size := ⟨_, rfl⟩
  rw [← hg] at q0 q1 ⊢
  clear hg
  have p0 := q0
  have p1 := q1
  obtain ⟨c0, c1, c2⟩ := q0.cells
  obtain ⟨e0, e1, e2⟩ := q1.cells
  clear q0 q1
  go_wp2_with fail
  clear c0 c1 c2 e0 e1 e2
  refine (same02 _ _ _ _ ia ib).mono ?_
  rintro e w2 ⟨rfl, b2⟩
  replace d1 := d1.below (Nat.le_refl _) b2
  replace d2 := d2.below (Nat.le_refl _) b2
  have hB2 := bstep hB b2
  obtain ⟨c0, c1, c2⟩ := (p0.below b2).cells
  obtain ⟨e0, e1, e2⟩ := (p1.below b2).cells
  clear p0 p1 b2 hB ia ib
  go_wp2_with fail
  clear c0 c1 c2 e0 e1 e2
  refine (same_yes _ _ _ _ d1 d2).mono ?_
  rintro e w3 ⟨rfl, q, hq⟩
  have HE : Hid (Below w.heap.size w w3) := by rw [hq]; exact bstep hB2 (below_drewN (Below.refl _ _) q)
  clear hq d1 d2 hB2
  go_wp2_with fail
  go_ret
  exact ⟨rfl, HE.out⟩

/-- The rows of two slices lie between two marks. -/
def Betw (gs : List Value) (S1 S2 : Nat) : Prop := ∀ j k, j < gs.length → (at_ gs j).ownBlock = some k → S1 ≤ k ∧ k < S2
theorem QOwn.bexHi {B S1 S2 : Nat} {gs : List Value} {w w' : World} {v : Value} {z : Int} {ys : List Nat} (h : QOwn B w v z ys) (hx : Bex gs w w') (hb : Betw gs S1 S2) (hB : S2 ≤ B) : QOwn B w' v z ys := by
  obtain ⟨m, d, e, h1, h2, h3⟩ := h
  have aux : ∀ {u : Value} {xs : List Nat}, Own B 39 w u xs → Own B 39 w' u xs := fun {u xs} ho => ho.bex hx fun j hj => by
    cases hk : (at_ gs j).ownBlock with
    | none => exact Or.inl rfl
    | some k =>
      right
      intro e
      have a1 := hb j k hj hk
      have a2 := (ho.block k e.symm).1
      omega
  exact ⟨m, d, e, aux h1, aux h2, h3⟩
/-- A fraction's rows lie below a mark. -/
def Low (v : Value) (S : Nat) : Prop := ∃ n m d, v = .agg #[.bool n, m, d] ∧ (∀ k, m.ownBlock = some k → k < S) ∧ (∀ k, d.ownBlock = some k → k < S)
theorem QOwn.low {B : Nat} {w : World} {v : Value} {z : Int} {ys : List Nat} (h : QOwn B w v z ys) : Low v w.heap.size := by
  obtain ⟨m, d, e, h1, h2, h3⟩ := h
  exact ⟨_, m, d, e, fun k hk => (h1.block k hk).2, fun k hk => (h2.block k hk).2⟩
theorem QOwn.bexLo {B S1 S2 : Nat} {gs : List Value} {w w' : World} {v : Value} {z : Int} {ys : List Nat} (h : QOwn B w v z ys) (hl : Low v S1) (hx : Bex gs w w') (hb : Betw gs S1 S2) : QOwn B w' v z ys := by
  obtain ⟨m, d, e, h1, h2, h3⟩ := h
  obtain ⟨n, m', d', e', l1, l2⟩ := hl
  rw [e] at e'
  simp only [Value.agg.injEq, Array.mk.injEq, List.cons.injEq, Value.bool.injEq, and_true] at e'
  obtain ⟨_, rfl, rfl⟩ := e'
  have aux : ∀ {u : Value} {xs : List Nat}, Own B 39 w u xs → (∀ k, u.ownBlock = some k → k < S1) → Own B 39 w' u xs := fun {u xs} ho hu => ho.bex hx fun j hj => by
    cases hk : (at_ gs j).ownBlock with
    | none => exact Or.inl rfl
    | some k =>
      right
      intro e
      have a1 := hb j k hj hk
      have a2 := hu k e.symm
      omega
  exact ⟨m, d, e, aux h1 l1, aux h2 l2, h3⟩
theorem QCell.bex {gs : List Value} {S1 S2 g : Nat} {w w' : World} {n : Bool} {m d : Value} (h : QCell w g n m d) (hx : Bex gs w w') (hb : Betw gs S1 S2) (hg : g < S1 ∨ S2 ≤ g) : QCell w' g n m d := by
  unfold QCell
  rw [hx.block g (Array.getElem?_eq_some_iff.1 h).1 fun j hj e => ?_]
  · exact h
  · have := hb j g hj e
    omega
end Go.Proofs.Ytaekaikkldnikaa

namespace Go.Proofs.Ytaekaikkldnikaa
open Go.RowKit

/-- The row that is appended to is the first one's still, or a new one. -/
def NB (W0 : World) (vm nv : Value) : Prop := nv.ownBlock = vm.ownBlock ∨ ∀ g, nv.ownBlock = some g → W0.heap.size ≤ g
theorem Own.nil_len {B e : Nat} {w : World} {v : Value} {xs : List Nat} (h : Own B e w v xs) (hn : v.ownBlock = none) : xs.length = 0 := by
  rcases h.shape with ⟨rfl, rfl⟩ | ⟨g, cap, rfl, h1, h2⟩
  · rfl
  · simp [Value.ownBlock] at hn
theorem push_aside {S1 S2 d n : Nat} {W0 wr w5 : World} {vm vd nv v' : Value} {gs : List Value} {ms ds zs : List Nat} {o : Obj} (hgs : gs = [vm, vd] ∨ gs = [vd, vm]) (hS : S2 ≤ W0.heap.size) (hbt : Betw gs S1 S2) (hap : vm.ownBlock = none ∨ vm.ownBlock ≠ vd.ownBlock) (hd : d < 4294967296)
    (hz : Own S1 39 wr nv zs) (hnb : NB W0 vm nv) (hm : Own S1 39 wr vm ms) (hdd : Own S1 39 wr vd ds) (hbx : Bex gs W0 wr) (hzn : zs.length = n) (hmn : ms.length ≤ n)
    (ho : w5.ownsRow S1 39 1 v' (n + 1) (zs.map U ++ [U d])) (hgr : (wr.alloc o).grownBy w5 nv.ownBlock) (hkp : Keeps (wr.alloc o) w5 nv n) (hnew : v'.ownBlock = nv.ownBlock ∨ ∀ g, v'.ownBlock = some g → wr.heap.size + 1 ≤ g) :
    Own S1 39 w5 v' (zs ++ [d]) ∧ NB W0 vm v' ∧ Own S1 39 w5 vm ms ∧ Own S1 39 w5 vd ds ∧ Bex gs W0 w5 := by
  have jm : ∃ j, j < gs.length ∧ (at_ gs j) = vm := by
    rcases hgs with rfl | rfl
    · exact ⟨0, by simp, rfl⟩
    · exact ⟨1, by simp, rfl⟩
  have jd : ∃ j, j < gs.length ∧ (at_ gs j) = vd := by
    rcases hgs with rfl | rfl
    · exact ⟨1, by simp, rfl⟩
    · exact ⟨0, by simp, rfl⟩
  refine ⟨⟨?_, ?_⟩, ?_, ⟨hm.1, ?_⟩, ⟨hdd.1, ?_⟩, ?_⟩
  · intro x hx
    rcases List.mem_append.1 hx with h | h
    · exact hz.1 x h
    · simp at h; omega
  · rw [List.length_append, hzn, List.map_append]; exact ho
  · rcases hnew with h | h
    · unfold NB; rw [h]; exact hnb
    · refine Or.inr fun g hg => ?_
      have h1 := h g hg
      have h2 := hbx.size
      omega
  · exact hkp _ _ _ _ _ (hm.2.alloc _) (fun _ => hmn)
  · refine hkp _ _ _ _ _ (hdd.2.alloc _) (fun e => ?_)
    cases hk : vd.ownBlock with
    | none => rw [hdd.nil_len hk]; exact Nat.zero_le _
    | some g =>
      exfalso
      rw [hk] at e
      rcases hnb with h | h
      · rw [← e] at h
        rcases hap with h2 | h2
        · rw [h2] at h; cases h
        · exact h2 (by rw [hk, h])
      · have h1 := h g e.symm
        obtain ⟨j, hj, ej⟩ := jd
        have h2 := hbt j g hj (by rw [ej]; exact hk)
        omega
  · refine (hbx.alloc o).grown hgr fun k hk => ?_
    rcases hnb with h | h
    · obtain ⟨j, hj, ej⟩ := jm
      exact Or.inl ⟨j, hj, by rw [ej, ← h]; exact hk⟩
    · exact Or.inr (h k hk)
theorem rep_step {xs : List Nat} {i d : Nat} (hi : i < xs.length) : (List.replicate i d ++ xs.drop i).set i d = List.replicate (i + 1) d ++ xs.drop (i + 1) := by
  have hl : (List.replicate i d).length = i := by simp
  rw [List.set_append_right _ _ (by rw [hl]; exact Nat.le_refl _), hl, Nat.sub_self, List.drop_eq_getElem_cons hi, List.set_cons_zero, List.replicate_succ', List.append_assoc]
  rfl
theorem rep_len {xs : List Nat} {i d : Nat} (hi : i ≤ xs.length) : (List.replicate i d ++ xs.drop i).length = xs.length := by simp; omega
theorem rep_at {n i d : Nat} (hi : i < n) : (List.replicate n d).getD i 0 = d := by simp [List.getD, hi]
/-- One limb is written over. -/
theorem over_one {S1 g n cap i d : Nat} {W0 wr : World} {vd : Value} {gs : List Value} {xs ds : List Nat} (hgs : gs = [.slice (some ⟨g, 0, none⟩) n cap, vd] ∨ gs = [vd, .slice (some ⟨g, 0, none⟩) n cap]) (hap : vd.ownBlock = none ∨ vd.ownBlock ≠ some g) (hd : d < 4294967296) (hn : xs.length = n) (hi : i < n)
    (ho : Own S1 39 wr (.slice (some ⟨g, 0, none⟩) n cap) (List.replicate i d ++ xs.drop i)) (hdd : Own S1 39 wr vd ds) (hbx : Bex gs W0 wr) :
    Own S1 39 (wr.setCell ⟨g, i, none⟩ (U d)) (.slice (some ⟨g, 0, none⟩) n cap) (List.replicate (i + 1) d ++ xs.drop (i + 1)) ∧ Own S1 39 (wr.setCell ⟨g, i, none⟩ (U d)) vd ds ∧ Bex gs W0 (wr.setCell ⟨g, i, none⟩ (U d)) := by
  have h1 := ho.set (by rw [rep_len (by omega)]; exact hn) i d hd
  rw [rep_step (by omega)] at h1
  refine ⟨h1, hdd.other _ hap, hbx.setCell (p := ⟨g, i, none⟩) (Or.inl ?_) _⟩
  rcases hgs with rfl | rfl
  · exact ⟨0, by simp, rfl⟩
  · exact ⟨1, by simp, rfl⟩
end Go.Proofs.Ytaekaikkldnikaa

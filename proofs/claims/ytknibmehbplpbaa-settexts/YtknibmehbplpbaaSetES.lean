/-
  Proved here: package set at string: Len, List, Has, Of, Same, Within.
-/
import Derived.Test.YtknibmehbplpbaaSetCS
import Derived.Test.YtknibmehbplpbaaSetCell
namespace Go.Proofs.Ytknibmehbplpbaa
open Go.Shelf Go.RowKit Go.Lib Go.Sort
theorem smS_lt (y x : ByteArray) : smS y x = (!ltOf cfS y x && !ltOf cfS x y) := by
  unfold smS
  rw [cfS_zero, ltS, ltS]
  by_cases h : y = x
  · subst h; rw [blS_self]; simp
  · cases h2 : Op.bytesLess y.toList x.toList
    · cases h3 : Op.bytesLess x.toList y.toList
      · exact absurd (blS_eq h2 h3) h
      · simp [h]
    · simp [h]
theorem smS_eq (x y : ByteArray) (h : smS x y = true) : x = y := by
  unfold smS at h
  rw [cfS_zero] at h
  exact of_decide_eq_true h
def hasS (L : List ByteArray) (x : ByteArray) : Bool := L.any fun y => smS y x
theorem fndS_has {L : List ByteArray} (hR : Rs (ltOf cfS) L) {x : ByteArray} {k : Nat} (hP : Pos (ltOf cfS) L x k) : fndS L x k = hasS L x := by
  have := has_pos ordS hR hP smS smS_lt
  unfold hasS fndS
  rw [this]
  cases L[k]? <;> rfl
def ofS (l : List ByteArray) : List ByteArray := cpt smS (sortS (leOf (ltOf cfS)) l)
theorem ofS_rs (l : List ByteArray) : Rs (ltOf cfS) (ofS l) := cpt_rs ordS smS_lt (srt_sortS ordS l)
theorem ofS_len (l : List ByteArray) : (ofS l).length ≤ l.length := by have := len_cpt (sm := smS) (sortS (leOf (ltOf cfS)) l); rw [len_sortS] at this; exact this
set_option maxHeartbeats 4000000 in
set_option maxRecDepth 1000000 in
theorem setLenS (v : Value) (L : List ByteArray) (w : World) (hv : RG Value.string w v L) : Calls Try.prog 17 #[.agg #[v]] w fun e w' => e = .returned (.int .i64 L.length) ∧ Below w.heap.size w w' := by
  obtain ⟨ao, cap, rfl, hc, hm, -⟩ := hv
  unfold maxLen at hm
  obtain ⟨n, hn⟩ : ∃ n, n = L.length := ⟨_, rfl⟩
  rw [← hn] at hc ⊢
  clear hn
  go_enter Try.func17, Try.ntmps17
  go_wp2
  go_ret
  exact ⟨rfl, (Below.refl _ _).alloc (Nat.le_refl _) _⟩
set_option maxHeartbeats 4000000 in
set_option maxRecDepth 1000000 in
theorem setListS (v : Value) (L : List ByteArray) (w : World) (hv : RG Value.string w v L) (hz : L.length ≤ 1048576) : Calls Try.prog 16 #[.agg #[v]] w fun e w' => ∃ u, e = .returned u ∧ OG Value.string w.heap.size 9 w' u L ∧ Below w.heap.size w w' := by
  have C : Hid (∀ o, Calls Try.prog 43 #[v] (w.alloc o) fun e w' => ∃ u, e = .returned u ∧ OG Value.string w.heap.size 9 w' u L ∧ Below w.heap.size w w') := fun o => (cloneS v L (w.alloc o) (hv.alloc o) hz).mono fun _ _ ⟨u, h1, h2, h3⟩ => ⟨u, h1, h2.mono (by simp), ((Below.refl w.heap.size w).alloc (Nat.le_refl _) o).trans (h3.mono (by simp))⟩
  clear hv
  go_enter Try.func16, Try.ntmps16
  go_wp2_with (go_at_call 43; refine Calls.mono (C.out _) ?_; rintro e w' ⟨u, rfl, h1, h2⟩)
  go_ret
  exact ⟨_, rfl, h1, h2⟩
set_option maxHeartbeats 4000000 in
set_option maxRecDepth 1000000 in
theorem setHasS (v : Value) (L : List ByteArray) (x : ByteArray) (w : World) (hv : RG Value.string w v L) (hR : Rs (ltOf cfS) L) (hz : L.length ≤ 1048576) : Calls Try.prog 18 #[.agg #[v], Value.string x] w fun e w' => e = .returned (.bool (hasS L x)) ∧ Below w.heap.size w w' := by
  have C : Hid (∀ o, Calls Try.prog 48 #[v, Value.string x] (w.alloc o) fun e w' => ∃ k : Nat, e = .returned (.tuple #[.int .i64 k, .bool (hasS L x)]) ∧ Below w.heap.size w w') := fun o => (searchS v L x (w.alloc o) (hv.alloc o) (hR.srt ordS) (by omega)).mono fun _ _ ⟨k, h1, h2, q, h3⟩ => ⟨k, by rw [h1, fndS_has hR h2], by rw [h3]; exact below_drewN ((Below.refl w.heap.size w).alloc (Nat.le_refl _) o) q⟩
  generalize hasS L x = b at *
  clear hv
  go_enter Try.func18, Try.ntmps18
  go_wp2_with (go_at_call 48; refine Calls.mono (C.out _) ?_; rintro e w' ⟨k, rfl, h2⟩)
  go_ret
  exact ⟨rfl, h2⟩
set_option maxHeartbeats 4000000 in
set_option maxRecDepth 1000000 in
theorem setOfS (v : Value) (L : List ByteArray) (w : World) (hv : RG Value.string w v L) (hz : L.length ≤ 1048576) : Calls Try.prog 15 #[v] w fun e w' => ∃ u, e = .returned (.agg #[u]) ∧ OG Value.string w.heap.size 9 w' u (ofS L) ∧ Below w.heap.size w w' := by
  obtain ⟨W1, hW1⟩ : ∃ W1, W1 = w.alloc (.cells #[.slice none 0 0] 38) := ⟨_, rfl⟩
  have s0 : SCell 38 W1 w.heap.size (.slice none 0 0) := by rw [hW1]; exact SCell.new w rfl
  have b0 : Below w.heap.size w W1 := by rw [hW1]; exact (Below.refl _ _).alloc (Nat.le_refl _) _
  have z0 : W1.heap.size = w.heap.size + 1 := by rw [hW1]; simp
  have C := cloneS v L W1 (hv.below (Nat.le_refl _) b0) hz
  have HW1 : Hid (W1 = w.alloc (.cells #[.slice none 0 0] 38)) := hW1
  obtain ⟨g, hg⟩ : ∃ g, g = w.heap.size := ⟨_, rfl⟩
  rw [← hg] at s0 b0 z0 ⊢
  have HG : Hid (g = w.heap.size) := hg
  clear hW1 hv
  go_enter Try.func15, Try.ntmps15
  go_wp2_with fail
  rw [← HW1.out, ← HG.out]
  clear HW1 hg
  refine C.mono ?_
  rintro e w2 ⟨u, rfl, ho, hb⟩
  have s1 := s0.below hb
  have b1 := b0.trans (hb.mono (by omega))
  have z1 : g + 1 ≤ w2.heap.size := by have := hb.size; omega
  clear C s0 b0 hb
  have C2 := sortedS _ u L w2 ho (by omega)
  go_wp2_with fail
  refine C2.mono ?_
  rintro e w3 ⟨rfl, ho3, hg3⟩
  have hbelow3 : Below (g + 1) w2 w3 := (Below.refl (g + 1) w2).grown hg3 z1 (fun j hj => by have := (ho.lt j hj).1; omega)
  have s2 : SCell 38 w3 g (.slice none 0 0) := by unfold SCell; rw [hbelow3.block g (by omega)]; exact s1
  have b2 := b1.trans (hbelow3.mono (by omega))
  have z2 : g + 1 ≤ w3.heap.size := by have := hbelow3.size; omega
  clear C2 s1 b1 hbelow3 hg3 ho
  have C3 := compactS _ u _ w3 ho3
  go_wp2_with fail
  refine C3.mono ?_
  rintro e w4 ⟨u4, rfl, ho4, hg4⟩
  have hbelow4 : Below (g + 1) w3 w4 := (Below.refl (g + 1) w3).grown hg4 z2 (fun j hj => by have := (ho3.lt j hj).1; omega)
  have s3 : SCell 38 w4 g (.slice none 0 0) := by unfold SCell; rw [hbelow4.block g (by omega)]; exact s2
  have b3 := b2.trans (hbelow4.mono (by omega))
  have hne : ∀ j, u4.ownBlock = some j → j ≠ g := fun j hj => by have := (ho4.lt j hj).1; omega
  have HO : Hid (OG Value.string g 9 (w4.setCell ⟨g, 0, none⟩ u4) u4 (ofS L)) := (OG.of_blocks ho4 fun j hj => Below.heap_setCell _ _ _ _ (hne j hj)).mono (by omega)
  have HB : Hid (Below g w (w4.setCell ⟨g, 0, none⟩ u4)) := b3.setCell (p := ⟨g, 0, none⟩) (Nat.le_refl _) u4
  have HW : Hid (SCell 38 (w4.setCell ⟨g, 0, none⟩ u4) g u4) := s3.write u4
  have c0 := s3.cell
  have f0 := s3.thaw
  obtain ⟨uo, uc, rfl, -⟩ := ho4.sl
  clear C3 s2 b2 hbelow4 hg4 ho3 s3 ho4 b3 hne z0 z1 z2
  go_wp2_with fail
  (try simp only [Exit.inBlock, Exit.then])
  exact bodyPost_ret (results_cell_row rfl _ _ (g) 38 _ (0, 0) _ rfl HW.out Try.underlying38 rfl (by kernel_rfl)) rfl ⟨_, rfl, HO.out, HB.out⟩
set_option maxHeartbeats 4000000 in
set_option maxRecDepth 1000000 in
theorem setSameS (v u : Value) (L M : List ByteArray) (w : World) (hv : RG Value.string w v L) (hu : RG Value.string w u M) : Calls Try.prog 22 #[.agg #[v], .agg #[u]] w fun e w' => e = .returned (.bool (allS smS L M)) ∧ Below w.heap.size w w' := by
  have C : Hid (∀ o o2, Calls Try.prog 51 #[v, u, .func (.func 47) #[] #[]] ((w.alloc o).alloc o2) fun e w' => e = .returned (.bool (allS smS L M)) ∧ Below w.heap.size w w') := fun o o2 => (equalFS v u L M _ ((hv.alloc o).alloc o2) ((hu.alloc o).alloc o2)).mono fun _ _ ⟨h1, q, h3⟩ => ⟨h1, by rw [h3]; exact below_drewN (((Below.refl w.heap.size w).alloc (Nat.le_refl _) o).alloc (by simp) o2) q⟩
  generalize allS smS L M = b at *
  clear hv hu
  go_enter Try.func22, Try.ntmps22
  go_wp2_with (go_at_call 51; refine Calls.mono (C.out _ _) ?_; rintro e w' ⟨rfl, h2⟩)
  go_ret
  exact ⟨rfl, h2⟩
end Go.Proofs.Ytknibmehbplpbaa

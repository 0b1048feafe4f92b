/-
  Proved here: package set at float64: Len, List, Has, Of, Same, Within.
-/
import Derived.Test.YtknibmehbplpbaaSetCF
import Derived.Test.YtknibmehbplpbaaSetCell
namespace Go.Proofs.Ytknibmehbplpbaa
open Go.Shelf Go.RowKit Go.Lib Go.Sort
theorem smF_lt (y x : Nat) : smF y x = (!ltOf cfF y x && !ltOf cfF x y) := by
  unfold smF ltOf cfF
  have := cmpD_opp (FloatKind.f64.format.read y) (FloatKind.f64.format.read x)
  generalize cmpD (FloatKind.f64.format.read y) (FloatKind.f64.format.read x) = a at *
  generalize cmpD (FloatKind.f64.format.read x) (FloatKind.f64.format.read y) = b at *
  by_cases h : a = 0
  · have h1 : ¬ a < 0 := by omega
    have h2 : ¬ b < 0 := by omega
    simp only [h1, h2]
    simp [h]
  · by_cases h1 : a < 0
    · simp [h, h1]
    · have h2 : b < 0 := by omega
      simp [h, h2]
def hasF (L : List Nat) (x : Nat) : Bool := L.any fun y => smF y x
theorem fndF_has {L : List Nat} (hR : Rs (ltOf cfF) L) {x : Nat} {k : Nat} (hP : Pos (ltOf cfF) L x k) : fndF L x k = hasF L x := by
  have := has_pos ordF hR hP smF smF_lt
  unfold hasF fndF
  rw [this]
  cases L[k]? <;> rfl
def ofF (l : List Nat) : List Nat := cpt smF (sortS (leOf (ltOf cfF)) l)
theorem ofF_rs (l : List Nat) : Rs (ltOf cfF) (ofF l) := cpt_rs ordF smF_lt (srt_sortS ordF l)
theorem ofF_len (l : List Nat) : (ofF l).length ≤ l.length := by have := len_cpt (sm := smF) (sortS (leOf (ltOf cfF)) l); rw [len_sortS] at this; exact this
set_option maxHeartbeats 4000000 in
set_option maxRecDepth 1000000 in
theorem setListF (v : Value) (L : List Nat) (w : World) (hv : RG (Value.float .f64) w v L) (hz : L.length ≤ 1048576) : Calls Try.prog 26 #[.agg #[v]] w fun e w' => ∃ u, e = .returned u ∧ OG (Value.float .f64) w.heap.size 48 w' u L ∧ Below w.heap.size w w' := by
  have C : Hid (∀ o, Calls Try.prog 53 #[v] (w.alloc o) fun e w' => ∃ u, e = .returned u ∧ OG (Value.float .f64) w.heap.size 48 w' u L ∧ Below w.heap.size w w') := fun o => (cloneF v L (w.alloc o) (hv.alloc o) hz).mono fun _ _ ⟨u, h1, h2, h3⟩ => ⟨u, h1, h2.mono (by simp), ((Below.refl w.heap.size w).alloc (Nat.le_refl _) o).trans (h3.mono (by simp))⟩
  clear hv
  go_enter Try.func26, Try.ntmps26
  go_wp2_with (go_at_call 53; refine Calls.mono (C.out _) ?_; rintro e w' ⟨u, rfl, h1, h2⟩)
  go_ret
  exact ⟨_, rfl, h1, h2⟩
set_option maxHeartbeats 4000000 in
set_option maxRecDepth 1000000 in
theorem setHasF (v : Value) (L : List Nat) (x : Nat) (w : World) (hv : RG (Value.float .f64) w v L) (hR : Rs (ltOf cfF) L) (hz : L.length ≤ 1048576) : Calls Try.prog 27 #[.agg #[v], (Value.float .f64) x] w fun e w' => e = .returned (.bool (hasF L x)) ∧ Below w.heap.size w w' := by
  have C : Hid (∀ o, Calls Try.prog 59 #[v, (Value.float .f64) x] (w.alloc o) fun e w' => ∃ k : Nat, e = .returned (.tuple #[.int .i64 k, .bool (hasF L x)]) ∧ Below w.heap.size w w') := fun o => (searchF v L x (w.alloc o) (hv.alloc o) (hR.srt ordF) (by omega)).mono fun _ _ ⟨k, h1, h2, q, h3⟩ => ⟨k, by rw [h1, fndF_has hR h2], by rw [h3]; exact below_drewN ((Below.refl w.heap.size w).alloc (Nat.le_refl _) o) q⟩
  generalize hasF L x = b at *
  clear hv
  go_enter Try.func27, Try.ntmps27
  go_wp2_with (go_at_call 59; refine Calls.mono (C.out _) ?_; rintro e w' ⟨k, rfl, h2⟩)
  go_ret
  exact ⟨rfl, h2⟩
set_option maxHeartbeats 4000000 in
set_option maxRecDepth 1000000 in
theorem setOfF (v : Value) (L : List Nat) (w : World) (hv : RG (Value.float .f64) w v L) (hz : L.length ≤ 1048576) : Calls Try.prog 24 #[v] w fun e w' => ∃ u, e = .returned (.agg #[u]) ∧ OG (Value.float .f64) w.heap.size 48 w' u (ofF L) ∧ Below w.heap.size w w' := by
  obtain ⟨W1, hW1⟩ : ∃ W1, W1 = w.alloc (.cells #[.slice none 0 0] 52) := ⟨_, rfl⟩
  have s0 : SCell 52 W1 w.heap.size (.slice none 0 0) := by rw [hW1]; exact SCell.new w rfl
  have b0 : Below w.heap.size w W1 := by rw [hW1]; exact (Below.refl _ _).alloc (Nat.le_refl _) _
  have z0 : W1.heap.size = w.heap.size + 1 := by rw [hW1]; simp
  have C := cloneF v L W1 (hv.below (Nat.le_refl _) b0) hz
  have HW1 : Hid (W1 = w.alloc (.cells #[.slice none 0 0] 52)) := hW1
  obtain ⟨g, hg⟩ : ∃ g, g = w.heap.size := ⟨_, rfl⟩
  rw [← hg] at s0 b0 z0 ⊢
  have HG : Hid (g = w.heap.size) := hg
  clear hW1 hv
  go_enter Try.func24, Try.ntmps24
  go_wp2_with fail
  rw [← HW1.out, ← HG.out]
  clear HW1 hg
  refine C.mono ?_
  rintro e w2 ⟨u, rfl, ho, hb⟩
  have s1 := s0.below hb
  have b1 := b0.trans (hb.mono (by omega))
  have z1 : g + 1 ≤ w2.heap.size := by have := hb.size; omega
  clear C s0 b0 hb
  have C2 := sortedF _ u L w2 ho (by omega)
  go_wp2_with fail
  refine C2.mono ?_
  rintro e w3 ⟨rfl, ho3, hg3⟩
  have hbelow3 : Below (g + 1) w2 w3 := (Below.refl (g + 1) w2).grown hg3 z1 (fun j hj => by have := (ho.lt j hj).1; omega)
  have s2 : SCell 52 w3 g (.slice none 0 0) := by unfold SCell; rw [hbelow3.block g (by omega)]; exact s1
  have b2 := b1.trans (hbelow3.mono (by omega))
  have z2 : g + 1 ≤ w3.heap.size := by have := hbelow3.size; omega
  clear C2 s1 b1 hbelow3 hg3 ho
  have C3 := compactF _ u _ w3 ho3
  go_wp2_with fail
  refine C3.mono ?_
  rintro e w4 ⟨u4, rfl, ho4, hg4⟩
  have hbelow4 : Below (g + 1) w3 w4 := (Below.refl (g + 1) w3).grown hg4 z2 (fun j hj => by have := (ho3.lt j hj).1; omega)
  have s3 : SCell 52 w4 g (.slice none 0 0) := by unfold SCell; rw [hbelow4.block g (by omega)]; exact s2
  have b3 := b2.trans (hbelow4.mono (by omega))
  have hne : ∀ j, u4.ownBlock = some j → j ≠ g := fun j hj => by have := (ho4.lt j hj).1; omega
  have HO : Hid (OG (Value.float .f64) g 48 (w4.setCell ⟨g, 0, none⟩ u4) u4 (ofF L)) := (OG.of_blocks ho4 fun j hj => Below.heap_setCell _ _ _ _ (hne j hj)).mono (by omega)
  have HB : Hid (Below g w (w4.setCell ⟨g, 0, none⟩ u4)) := b3.setCell (p := ⟨g, 0, none⟩) (Nat.le_refl _) u4
  have HW : Hid (SCell 52 (w4.setCell ⟨g, 0, none⟩ u4) g u4) := s3.write u4
  have c0 := s3.cell
  have f0 := s3.thaw
  obtain ⟨uo, uc, rfl, -⟩ := ho4.sl
  clear C3 s2 b2 hbelow4 hg4 ho3 s3 ho4 b3 hne z0 z1 z2
  go_wp2_with fail
  (try simp only [Exit.inBlock, Exit.then])
  exact bodyPost_ret (results_cell_row rfl _ _ (g) 52 _ (0, 0) _ rfl HW.out Try.underlying52 rfl (by kernel_rfl)) rfl ⟨_, rfl, HO.out, HB.out⟩
set_option maxHeartbeats 4000000 in
set_option maxRecDepth 1000000 in
theorem setWithinF (v u : Value) (L M : List Nat) (w : World) (hv : RG (Value.float .f64) w v L) (hu : RG (Value.float .f64) w u M) (hR : Rs (ltOf cfF) M) (hz : M.length ≤ 1048576) : Calls Try.prog 33 #[.agg #[v], .agg #[u]] w fun e w' => e = .returned (.bool (L.all (hasF M))) ∧ Below w.heap.size w w' := by
  obtain ⟨W1, hW1⟩ : ∃ W1, W1 = (w.alloc (.cells #[v] 52)).alloc (.cells #[u] 52) := ⟨_, rfl⟩
  have s0 : SCell 52 W1 w.heap.size v := by rw [hW1]; exact (SCell.new w rfl).step _
  have s1 : SCell 52 W1 (w.heap.size + 1) u := by rw [hW1]; exact SCell.new _ (by simp)
  have b0 : Below w.heap.size w W1 := by rw [hW1]; exact ((Below.refl _ _).alloc (Nat.le_refl _) _).alloc (by simp) _
  have hv1 := hv.below (Nat.le_refl _) b0
  have HU : Hid (RG (Value.float .f64) W1 u M) := hu.below (Nat.le_refl _) b0
  have HH : Hid (∀ W x, Below W1.heap.size W1 W → Calls Try.prog 27 #[.agg #[u], (Value.float .f64) x] W fun e w' => e = .returned (.bool (hasF M x)) ∧ Below W.heap.size W w') := fun W x hb => setHasF u M x W (HU.out.below (Nat.le_refl _) hb) hR hz
  have HW1 : Hid (W1 = (w.alloc (.cells #[v] 52)).alloc (.cells #[u] 52)) := hW1
  have HB : Hid (Below w.heap.size w W1) := b0
  obtain ⟨g, hg⟩ : ∃ g, g = w.heap.size := ⟨_, rfl⟩
  rw [← hg] at s0 s1 ⊢
  have HG : Hid (g = w.heap.size) := hg
  have S0 : Hid (SCell 52 W1 g v) := s0
  have S1 : Hid (SCell 52 W1 (g + 1) u) := s1
  obtain ⟨ao, cap, rfl, hc, hm, -, hcell⟩ := hv1
  unfold maxLen at hm
  obtain ⟨n, hn⟩ : ∃ n, L.length = n := ⟨_, rfl⟩
  rw [hn] at hc s0 S0 HW1 ⊢
  have HN : Hid (L.length = n) := hn
  have HC : Hid (∀ i x, L[i]? = some x → ∃ g o, ao = some ⟨g, o, none⟩ ∧ W1.cell? ⟨g, o + i, none⟩ = some ((Value.float .f64) x)) := hcell
  have HLT : Hid (∀ gg o, ao = some ⟨gg, o, none⟩ → 0 < n → gg < W1.heap.size) := fun gg o e h => by
    have := (hv.below (Nat.le_refl _) b0).lt (by omega) gg (by rw [e]; rfl)
    exact this
  obtain ⟨bb, hbb⟩ : ∃ b, b = L.all (hasF M) := ⟨_, rfl⟩
  rw [← hbb]
  have HBB : Hid (bb = (L.drop 0).all (hasF M)) := hbb
  have c0 := s0.cell
  clear hW1 hv hu hn hcell hbb s0 s1 b0
  go_enter Try.func33, Try.ntmps33
  go_upto_region 1 with fail
  rw [← HW1.out, ← HG.out]
  clear HW1 hg
  go_wp2
  clear c0
  go_loopg [6, 10] n (fun g1 _v6 v10 wr => ∃ i : Nat, v10 = .int .i64 i ∧ i ≤ n ∧ n - i ≤ g1 ∧ Hid (bb = (L.drop i).all (hasF M)) ∧ Hid (Below W1.heap.size W1 wr))
  case atStart => exact ⟨0, rfl, Nat.zero_le _, by omega, HBB, Below.refl _ _⟩
  case round =>
    clear HBB
    obtain ⟨i, rfl, hin, hg1, HBB, HBW⟩ := hrel
    by_cases hlt : i < n
    · have hltz : (i : Int) < (n : Int) := by omega
      obtain ⟨x, hx⟩ : ∃ x, L[i]? = some x := ⟨_, List.getElem?_eq_getElem (by rw [HN.out]; exact hlt)⟩
      obtain ⟨gg, o, rfl, hc0⟩ := HC.out i x hx
      have hc1 : wr.cell? ⟨gg, o + i, none⟩ = some ((Value.float .f64) x) := by rw [World.cell?_of_block (HBW.out.block gg (HLT.out gg o rfl (by omega)))]; exact hc0
      have cu := (S1.out.below HBW.out).cell
      have C := HH.out wr x HBW.out
      have HB2 : Hid (bb = (hasF M x && (L.drop (i + 1)).all (hasF M))) := by have := HBB.out; rw [drop_cons hx, List.all_cons] at this; exact this
      clear hx hc0 HBB
      cases hlv : hasF M x with
      | true =>
        rw [hlv] at C
        have HB3 : Hid (bb = (L.drop (i + 1)).all (hasF M)) := by have := HB2.out; rw [hlv, Bool.true_and] at this; exact this
        clear HB2 hlv
        go_wp2_with (go_at_call 27; refine C.mono ?_; rintro e w' ⟨rfl, h2⟩)
        go_roundg (n - (i + 1))
        case measure => omega
        case rel => exact ⟨i + 1, by go_num, by omega, Nat.le_refl _, HB3, HBW.out.trans (h2.mono HBW.out.size)⟩
      | false =>
        rw [hlv] at C
        have HB3 : Hid (bb = false) := by have := HB2.out; rw [hlv, Bool.false_and] at this; exact this
        clear HB2 hlv
        go_wp2_with (go_at_call 27; refine C.mono ?_; rintro e w' ⟨rfl, h2⟩)
        go_ret
        exact ⟨by rw [HB3.out]; rfl, by rw [HG.out]; exact HB.out.trans ((HBW.out.trans (h2.mono HBW.out.size)).mono HB.out.size)⟩
    · have hltz : ¬ (i : Int) < (n : Int) := by omega
      have HB3 : Hid (bb = true) := by have := HBB.out; rw [List.drop_of_length_le (by rw [HN.out]; omega)] at this; exact this
      clear HBB
      go_wp2
      go_ret
      exact ⟨by rw [HB3.out]; rfl, by rw [HG.out]; exact HB.out.trans (HBW.out.mono HB.out.size)⟩
end Go.Proofs.Ytknibmehbplpbaa

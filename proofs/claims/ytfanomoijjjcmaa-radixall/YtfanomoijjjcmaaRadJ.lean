/-
  Proved here: the document's Digits; the law's narrow and tiny.
-/
import Derived.Test.YtfanomoijjjcmaaRadI
namespace Go.Proofs.Ytfanomoijjjcmaa
open Go.RowKit Go.Shelf

theorem wpList_zeros {P : Program} (w : World) {ops : Array Oper} {rest : List Oper} {o : Oper} {a : Act} {Q : Exit → Act → World → Prop}
    (hg : o.guard = none) (l c : Operand) (t : TypeId) (hop : o.op = Op.makeSlice t l c)
    (e : TypeId) (i : TypeInfo) (k : IntKind) (h1 : P.underlying t = some (.slice e)) (h2 : P.info? e = some i) (h3 : i.zero = some (.int k 0)) (h4 : i.size = 1)
    (kl kc : IntKind) (m : Nat) (hl : a.eval l = .int kl (m : Int)) (hc : a.eval c = .int kc (m : Int)) (b2 : i.bytes * m ≤ 281474976710656) (b3 : m ≤ 9223372036854775807)
    (hK : wpList P ops Q rest (a.put o.dst (.slice (some ⟨w.heap.size, 0, none⟩) m m)) (w.alloc (.cells (Array.replicate m (.int k 0)) e))) :
    wpList P ops Q (o :: rest) a w := by
  refine wpList_plain hg fun K hK' => ?_
  have hb' : (i.bytes : Int) * (m : Int) ≤ 281474976710656 := by
    have h : ((i.bytes * m : Nat) : Int) ≤ 281474976710656 := by omega
    rwa [Int.natCast_mul] at h
  have hrun := run_make (P := P) w t e i (.int k 0) h1 h2 h3 kl kc m m (by omega) (Int.le_refl _) hb' (by omega)
  simp only [Int.toNat_natCast, h4, Nat.mul_one, Value.cells] at hrun
  rw [made_row] at hrun
  unfold Oper.wp
  simp [execOp, hop, hl, hc, hrun, Result.andThen]
  exact hK' _ _ hK
theorem dig_set {ss : List Int} {a : Int} {W : World} {g e k j : Nat} {K : IntKind} (h : W.heap[g]? = some (.cells ((rowK ss a k).map (Value.int K)).toArray e (0, 0))) (hk : k < ss.length) (hj : ss.length - 1 - k = j) :
    (W.setCell ⟨g, j, none⟩ (.int K (a / pr (ss.drop (j + 1)) % ss.getD j 0))).heap[g]? = some (.cells ((rowK ss a (k + 1)).map (Value.int K)).toArray e (0, 0)) := by
  rw [heap_setCell_same W g j _ _ _ h]
  have := rowK_step ss a k j hk hj
  rw [← this, List.setIfInBounds_toArray, List.map_set]; rfl
set_option maxRecDepth 100000 in
set_option maxHeartbeats 3200000 in
theorem refDigits (v : Value) (ss : List Int) (a : Int) (w : World) (hv : RK .i64 w v ss) (hz : ss.length ≤ 17592186044416) (ha1 : -9223372036854775808 ≤ a) (ha2 : a ≤ 9223372036854775807) :
    Calls Try.prog 32 #[v, .int .i64 a] w (DgEnd .i64 3 ss a w) := by
  have h1 := refCount v ss w hv
  have hcb := cnt_bd ss
  by_cases hE : cntE ss = 0
  case neg =>
    obtain ⟨ao, cap, rfl, -⟩ := hv
    have hEb : (cntE ss != 0) = true := by simpa using hE
    have HD : Hid (dgE ss a = cntE ss) := by unfold dgE; exact if_pos hE
    have HE : Hid (cntE ss ≠ 0) := hE
    clear hE hcb
    go_enter Try.func32, Try.ntmps32
    go_wp2_with (go_at_call 29; refine h1.mono ?_; rintro e w' ⟨rfl, q, rfl⟩)
    go_ret2
    exact ⟨.inl ⟨by rw [HD.out]; exact HE.out, by rw [HD.out]; rfl⟩, below_drewR (Below.refl _ _) q⟩
  by_cases hR : a < 0 ∨ cntN ss ≤ a
  · obtain ⟨ao, cap, rfl, -⟩ := hv
    have HD : Hid (dgE ss a = 3) := by unfold dgE; rw [if_neg (by simp [hE])]; exact if_pos hR
    rw [hE] at h1
    clear hE
    by_cases hneg : a < 0
    · clear hR
      go_enter Try.func32, Try.ntmps32
      go_wp2_with (go_at_call 29; refine h1.mono ?_; rintro e w' ⟨rfl, q, rfl⟩)
      go_ret2
      exact ⟨.inl ⟨by rw [HD.out]; decide, by rw [HD.out]; rfl⟩, below_drewR (Below.refl _ _) q⟩
    · have hge : cntN ss ≤ a := by omega
      clear hR
      go_enter Try.func32, Try.ntmps32
      go_wp2_with (go_at_call 29; refine h1.mono ?_; rintro e w' ⟨rfl, q, rfl⟩)
      go_ret2
      exact ⟨.inl ⟨by rw [HD.out]; decide, by rw [HD.out]; rfl⟩, below_drewR (Below.refl _ _) q⟩
  have hR1 : ¬ a < 0 := fun h => hR (.inl h)
  have hR2 : ¬ cntN ss ≤ a := fun h => hR (.inr h)
  obtain ⟨hneg, hpr, hcn⟩ := cntE_zero hE
  have hnul : nuls ss = false := by
    cases h : nuls ss with
    | false => rfl
    | true => rw [hcn, pr_zero ss (nuls_yes h)] at hR2; omega
  have hone := ones hneg hnul
  have HD : Hid (dgE ss a = 0) := by unfold dgE; rw [if_neg (by simp [hE])]; exact if_neg hR
  have hv' := fun w' (h : Below w.heap.size w w') => hv.below (Nat.le_refl _) h
  obtain ⟨ao, cap, rfl, hc, hm, -, hbd, -⟩ := hv
  have HMX : Hid (∀ i, i < ss.length → ss.getD i 0 ≤ 9223372036854775807) := fun i hi => by have := (hbd i hi).2; rw [max_i64] at this; exact this
  have HON : Hid (∀ i, i < ss.length → 1 ≤ ss.getD i 0) := fun i hi => by rw [List.getD_eq_getElem?_getD, List.getElem?_eq_getElem hi]; exact hone _ (List.getElem_mem hi)
  have HST : Hid (∀ i, i < ss.length → a / pr (ss.drop (i + 1)) / ss.getD i 0 = a / pr (ss.drop i)) := fun i hi => div_step ss a hone i hi
  have HAB : Hid (∀ i, 0 ≤ a / pr (ss.drop i) ∧ a / pr (ss.drop i) ≤ 2147483647) := fun i => ⟨Int.ediv_nonneg (by omega) (by have := (pr_drop_le ss hone i).1; omega), Int.le_trans (Int.ediv_le_self _ (by omega)) (by omega)⟩
  have HA0 : Hid (a / pr (ss.drop ss.length) = a) := by show _ = _; rw [List.drop_length]; simp [pr]
  unfold maxLen at hm
  rw [hE, hcn] at h1
  obtain ⟨i0, hi, hz0, hz1, hz2⟩ := info_parts Try.infoI
  obtain ⟨n, hn⟩ : ∃ n, ss.length = n := ⟨_, rfl⟩
  rw [hn] at h1 hc hz hv' HMX HON HST HA0 ⊢
  have HN : Hid (ss.length = n) := hn
  have HR0 : Hid (rowK ss a 0 = List.replicate n 0) := by show _ = _; rw [← hn]; exact rowK_zero ss a
  have HRN : Hid (rowK ss a n = dgs ss a) := by show _ = _; rw [← hn]; exact rowK_full ss a
  clear hn hE hR hnul hneg hbd hone
  rw [hcn] at hR2
  clear hcn hcb
  go_enter Try.func32, Try.ntmps32
  go_wp2_with fail
  refine h1.mono ?_
  rintro e w2 ⟨rfl, q, rfl⟩
  clear h1
  have hb2 := below_drewR (Below.refl w.heap.size w) q
  have hsz2 : (w.drewN q).heap.size = w.heap.size := by rw [heap_drewR]
  generalize w.drewN q = w2 at *
  go_wp2_with (at_make; refine wpList_zeros _ rfl _ _ 25 rfl 3 i0 .i64 Try.underlying25 hi hz0 hz1 _ _ n rfl rfl (by rw [hz2]; omega) (by omega) ?_)
  have hb3 : Below w.heap.size w (w2.alloc (.cells (Array.replicate n (.int .i64 0)) 3)) := hb2.alloc (by omega) _
  have hr3 : (w2.alloc (.cells (Array.replicate n (.int .i64 0)) 3)).heap[w.heap.size]? = some (.cells ((rowK ss a 0).map (Value.int .i64)).toArray 3 (0, 0)) := by
    have := heap_alloc_new w2 (.cells (Array.replicate n (.int .i64 0)) 3)
    rw [hsz2] at this
    rw [this, HR0.out]; simp
  generalize w2.alloc (.cells (Array.replicate n (.int .i64 0)) 3) = w3 at *
  clear hb2 hsz2 hi hz0 hz1 hz2
  go_loopw [1, 9] (fun at_ t wr => ∃ k : Nat, k ≤ n ∧ t = .int .i64 ((n : Int) - 1 - k) ∧ at_ = .int .i64 (a / pr (ss.drop (n - k))) ∧ wr.heap[w.heap.size]? = some (.cells ((rowK ss a k).map (Value.int .i64)).toArray 3 (0, 0)) ∧ Below w.heap.size w wr) (fun _ t _ => (intOf t + 1).toNat)
  case atStart => exact ⟨0, Nat.zero_le _, by simp, by rw [Nat.sub_zero, HA0.out], hr3, hb3⟩
  case round =>
    clear hb3 hr3
    obtain ⟨k, hk, rfl, rfl, hrow, hbel⟩ := hrel
    by_cases hlt : k < n
    · obtain ⟨j, hj⟩ : ∃ j : Nat, n - 1 - k = j := ⟨_, rfl⟩
      have hji : (n : Int) - 1 - k = (j : Int) := by omega
      have hjn : j < n := by omega
      have hjI : (j : Int) < (n : Int) := by omega
      have hge : (0 : Int) ≤ (j : Int) := by omega
      have hnk : n - k = j + 1 := by omega
      have hnk2 : n - (k + 1) = j := by omega
      have HK : Hid ((j : Int) - 1 = (n : Int) - 1 - ((k + 1 : Nat) : Int)) := by show _ = _; omega
      have HNK : Hid (n - (k + 1) = j) := hnk2
      rw [hji, hnk]
      obtain ⟨b, off, rfl, c0⟩ := (hv' wr hbel).at hjn
      have hx1 := HON.out j hjn
      have hx2 := HMX.out j hjn
      obtain ⟨hA0, hA1⟩ := HAB.out (j + 1)
      have HS : Hid (a / pr (ss.drop (j + 1)) / ss.getD j 0 = a / pr (ss.drop j)) := HST.out j hjn
      have HSET : Hid (_ = _) := dig_set (j := j) hrow (by rw [HN.out]; exact hlt) (by rw [HN.out]; exact hj)
      have hfz : wr.frozen? ⟨w.heap.size, j, none⟩ = false := frozen_of_row wr _ _ _ _ hrow
      have hcr : ∃ u, wr.cell? ⟨w.heap.size, j, none⟩ = some (.int .i64 u) := ⟨(rowK ss a k).getD j 0, cell_row hrow (by rw [rowK_len, HN.out]; exact hjn)⟩
      obtain ⟨u, hcr⟩ := hcr
      have hbne : b < w.heap.size := by
        have h0 := hv' w (Below.refl _ _)
        obtain ⟨b', o', e', c'⟩ := h0.at hjn
        simp only [Option.some.injEq, Addr.mk.injEq, and_true] at e'
        obtain ⟨rfl, rfl⟩ := e'
        exact block_lt_of_cell c'
      have c1 : ∀ x, (wr.setCell ⟨w.heap.size, j, none⟩ x).cell? ⟨b, off + j, none⟩ = some (.int .i64 (ss.getD j 0)) := fun x => by
        rw [World.cell?_of_block (Below.heap_setCell _ _ _ _ (show b ≠ w.heap.size by omega))]; exact c0
      have HBL : Hid (∀ x, Below w.heap.size w (wr.setCell ⟨w.heap.size, j, none⟩ x)) := fun x => hbel.setCell (p := ⟨w.heap.size, j, none⟩) (Nat.le_refl _) x
      clear hji hnk hnk2 hj hrow hbel hv'
      generalize a / pr (ss.drop (j + 1)) = A at *
      generalize ss.getD j 0 = x at *
      have hx0 : ¬ x = 0 := by omega
      have hxb : (x == 0) = false := beq_eq_false_iff_ne.2 hx0
      have hd0 : 0 ≤ A % x := Int.emod_nonneg _ (by omega)
      have hd1 : A % x < x := Int.emod_lt_of_pos _ (by omega)
      have he0 : 0 ≤ A / x := Int.ediv_nonneg hA0 (by omega)
      have he1 : A / x ≤ 2147483647 := Int.le_trans (Int.ediv_le_self _ hA0) hA1
      go_wp2
      go_roundw
      case rel => exact ⟨k + 1, by omega, by rw [← HK.out], by rw [HNK.out, ← HS.out], HSET.out, HBL.out _⟩
      case measure => simp [intOf] <;> omega
    · obtain rfl : k = n := by omega
      have hneg : ¬ (0 : Int) ≤ (k : Int) - 1 - k := by omega
      clear hv'
      go_wp2
      go_ret2
      rw [HRN.out] at hrow
      exact ⟨.inr ⟨HD.out, w.heap.size, by rw [HN.out]; rfl, Nat.le_refl _, hrow⟩, hbel⟩

set_option maxRecDepth 100000 in
set_option maxHeartbeats 1600000 in
theorem narrow_any (v : Value) (zs : List Int) (w : World) (hv : RK .i64 w v zs) (hz : zs.length ≤ 17592186043904) :
    Calls Try.prog 15 #[v] w fun e w' => ∃ u, e = .returned u ∧ OwnK .i32 w.heap.size 21 w' u (zs.map IntKind.i32.wrap) ∧ Below w.heap.size w w' := by
  have hv' := fun w' (h : Below w.heap.size w w') => hv.below (Nat.le_refl _) h
  obtain ⟨ao, cap, rfl, hc, hm, -, hbd, -⟩ := hv
  unfold maxLen at hm
  obtain ⟨i0, hi, hz0, hz1, hz2⟩ := info_parts Try.infoJ
  obtain ⟨n, hn⟩ : ∃ n, zs.length = n := ⟨_, rfl⟩
  rw [hn] at hc hz hv' ⊢
  have HN : Hid (zs.length = n) := hn
  clear hn
  go_enter Try.func15, Try.ntmps15
  go_wp2
  go_loopw [3, 4] (fun u t wr => ∃ k : Nat, k ≤ n ∧ t = .int .i64 k ∧ OwnK .i32 w.heap.size 21 wr u ((zs.map IntKind.i32.wrap).take k) ∧ Below w.heap.size w wr ∧ w.heap.size ≤ wr.heap.size) (fun _ t _ => n - (intOf t).toNat)
  case atStart => exact ⟨0, Nat.zero_le _, rfl, OwnK.of_nil _ _ _ _, Below.refl _ _, Nat.le_refl _⟩
  case round =>
    obtain ⟨k, hkn, rfl, how, hbel, hB1⟩ := hrel
    by_cases hlt : k < n
    · have hltI : (k : Int) < (n : Int) := by omega
      obtain ⟨b, off, rfl, c0⟩ := (hv' wr hbel).at hlt
      have hlk : ((zs.map IntKind.i32.wrap).take k).length = k := by rw [List.length_take, List.length_map, HN.out]; omega
      have HT : Hid ((zs.map IntKind.i32.wrap).take (k + 1) = (zs.map IntKind.i32.wrap).take k ++ [IntKind.i32.wrap (zs.getD k 0)]) := by
        show _ = _
        have hkl : k < zs.length := by rw [HN.out]; exact hlt
        rw [List.take_succ_eq_append_getElem (by rw [List.length_map]; exact hkl), List.getElem_map, List.getD_eq_getElem?_getD, List.getElem?_eq_getElem hkl]; rfl
      have HO : Hid (wr.ownsRow w.heap.size 21 1 u3 k (((zs.map IntKind.i32.wrap).take k).map (Value.int .i32))) := by have := how; unfold OwnK at this; rw [hlk] at this; exact this
      have HH : Hid (OwnK .i32 w.heap.size 21 wr u3 ((zs.map IntKind.i32.wrap).take k)) := how
      have HL : Hid (((zs.map IntKind.i32.wrap).take k).length = k) := hlk
      have hB3 : ∀ o, w.heap.size ≤ (wr.alloc o).heap.size := fun o => by simp; omega
      clear how hlk hv' hbd
      generalize zs.getD k 0 = x at *
      generalize (zs.map IntKind.i32.wrap).take k = L at *
      obtain ⟨y, hy⟩ : ∃ y, IntKind.i32.wrap x = y := ⟨_, rfl⟩
      rw [hy] at HT
      go_wp2_with (at_builtin; refine wpList_append_own _ rfl _ _ 32 rfl w.heap.size 21 i0 (.int .i32 0) 1 4 Try.underlying32 hi hz0 hz1 hz2 rfl (by decide) _ k (L.map (Value.int .i32)) rfl (HO.out.alloc _) ⟨wr.heap.size, 0, none⟩ 1 1 [.int .i32 y] rfl rfl (cell_oneR _ _ _) (fun u hu => by simp at hu; subst hu; rfl) (by unfold maxLen; omega) (by omega) (hB3 _) ?_)
      intro v' w2 ho hgr _
      have R := HH.out.push hbel hB1 (z := y) (by rw [HL.out]; exact ho) hgr
      clear ho hgr HH HO
      go_wp2
      go_roundw
      case rel => exact ⟨k + 1, by omega, by go_num, by rw [HT.out]; exact R.1, R.2.1, R.2.2⟩
      case measure => simp [intOf]; omega
    · have hltI : ¬ (k : Int) < (n : Int) := by omega
      have hall : (zs.map IntKind.i32.wrap).take k = zs.map IntKind.i32.wrap := List.take_of_length_le (by have := HN.out; rw [List.length_map]; omega)
      rw [hall] at how
      clear hv' hbd hall
      go_wp2
      go_ret
      exact ⟨_, rfl, how, hbel⟩

set_option maxRecDepth 100000 in
set_option maxHeartbeats 1600000 in
theorem tiny_any (v : Value) (zs : List Int) (w : World) (hv : RK .i64 w v zs) (hz : zs.length ≤ 17592186043904) :
    Calls Try.prog 17 #[v] w fun e w' => ∃ u, e = .returned u ∧ OwnK .u16 w.heap.size 36 w' u (zs.map IntKind.u16.wrap) ∧ Below w.heap.size w w' := by
  have hv' := fun w' (h : Below w.heap.size w w') => hv.below (Nat.le_refl _) h
  obtain ⟨ao, cap, rfl, hc, hm, -, hbd, -⟩ := hv
  unfold maxLen at hm
  obtain ⟨i0, hi, hz0, hz1, hz2⟩ := info_parts Try.infoS
  obtain ⟨n, hn⟩ : ∃ n, zs.length = n := ⟨_, rfl⟩
  rw [hn] at hc hz hv' ⊢
  have HN : Hid (zs.length = n) := hn
  clear hn
  go_enter Try.func17, Try.ntmps17
  go_wp2
  go_loopw [3, 4] (fun u t wr => ∃ k : Nat, k ≤ n ∧ t = .int .i64 k ∧ OwnK .u16 w.heap.size 36 wr u ((zs.map IntKind.u16.wrap).take k) ∧ Below w.heap.size w wr ∧ w.heap.size ≤ wr.heap.size) (fun _ t _ => n - (intOf t).toNat)
  case atStart => exact ⟨0, Nat.zero_le _, rfl, OwnK.of_nil _ _ _ _, Below.refl _ _, Nat.le_refl _⟩
  case round =>
    obtain ⟨k, hkn, rfl, how, hbel, hB1⟩ := hrel
    by_cases hlt : k < n
    · have hltI : (k : Int) < (n : Int) := by omega
      obtain ⟨b, off, rfl, c0⟩ := (hv' wr hbel).at hlt
      have hlk : ((zs.map IntKind.u16.wrap).take k).length = k := by rw [List.length_take, List.length_map, HN.out]; omega
      have HT : Hid ((zs.map IntKind.u16.wrap).take (k + 1) = (zs.map IntKind.u16.wrap).take k ++ [IntKind.u16.wrap (zs.getD k 0)]) := by
        show _ = _
        have hkl : k < zs.length := by rw [HN.out]; exact hlt
        rw [List.take_succ_eq_append_getElem (by rw [List.length_map]; exact hkl), List.getElem_map, List.getD_eq_getElem?_getD, List.getElem?_eq_getElem hkl]; rfl
      have HO : Hid (wr.ownsRow w.heap.size 36 1 u3 k (((zs.map IntKind.u16.wrap).take k).map (Value.int .u16))) := by have := how; unfold OwnK at this; rw [hlk] at this; exact this
      have HH : Hid (OwnK .u16 w.heap.size 36 wr u3 ((zs.map IntKind.u16.wrap).take k)) := how
      have HL : Hid (((zs.map IntKind.u16.wrap).take k).length = k) := hlk
      have hB3 : ∀ o, w.heap.size ≤ (wr.alloc o).heap.size := fun o => by simp; omega
      clear how hlk hv' hbd
      generalize zs.getD k 0 = x at *
      generalize (zs.map IntKind.u16.wrap).take k = L at *
      obtain ⟨y, hy⟩ : ∃ y, IntKind.u16.wrap x = y := ⟨_, rfl⟩
      rw [hy] at HT
      go_wp2_with (at_builtin; refine wpList_append_own _ rfl _ _ 37 rfl w.heap.size 36 i0 (.int .u16 0) 1 2 Try.underlying37 hi hz0 hz1 hz2 rfl (by decide) _ k (L.map (Value.int .u16)) rfl (HO.out.alloc _) ⟨wr.heap.size, 0, none⟩ 1 1 [.int .u16 y] rfl rfl (cell_oneR _ _ _) (fun u hu => by simp at hu; subst hu; rfl) (by unfold maxLen; omega) (by omega) (hB3 _) ?_)
      intro v' w2 ho hgr _
      have R := HH.out.push hbel hB1 (z := y) (by rw [HL.out]; exact ho) hgr
      clear ho hgr HH HO
      go_wp2
      go_roundw
      case rel => exact ⟨k + 1, by omega, by go_num, by rw [HT.out]; exact R.1, R.2.1, R.2.2⟩
      case measure => simp [intOf]; omega
    · have hltI : ¬ (k : Int) < (n : Int) := by omega
      have hall : (zs.map IntKind.u16.wrap).take k = zs.map IntKind.u16.wrap := List.take_of_length_le (by have := HN.out; rw [List.length_map]; omega)
      rw [hall] at how
      clear hv' hbd hall
      go_wp2
      go_ret
      exact ⟨_, rfl, how, hbel⟩
end Go.Proofs.Ytfanomoijjjcmaa

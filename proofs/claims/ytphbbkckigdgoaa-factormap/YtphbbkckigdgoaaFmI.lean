/-
  Proved here: the law's spoilt at texts: a table's lists are written over, and gone on with.
-/
import Derived.Test.YtphbbkckigdgoaaFmG
namespace Go.Proofs.Ytphbbkckigdgoaa
set_option linter.unusedVariables false
open Go.RowKit Go.Shelf Go.Lib Go.Sort
/-- A table in a box, and three rows that are written to. -/
structure SpC (B : Nat) (w W : World) (g : Nat) (b1 b2 b3 v1 v2 v3 : Value) (X Z : List Int) (T : List ByteArray) : Prop where
  bel : Below B w W
  sz : w.heap.size ≤ W.heap.size
  lB : B ≤ w.heap.size
  box : BCell 33 W g b1 b2 b3
  r1 : OG (Value.int .i64) B 3 W v1 X
  r2 : OG (Value.int .i64) B 3 W v2 Z
  r3 : OG Value.string B 9 W v3 T
  d12 : ∀ q, v1.ownBlock = some q → v2.ownBlock ≠ some q
theorem OG.ne2 {α β : Type} {enc : α → Value} {enc' : β → Value} {B B' e e' : Nat} {w : World} {v v' : Value} {L : List α} {L' : List β} (h : OG enc B e w v L) (h' : OG enc' B' e' w v' L') (hne : e ≠ e') {q : Nat} (hq : v.ownBlock = some q) : v'.ownBlock ≠ some q := by
  intro hv
  rcases h'.2 with ⟨rfl, h0⟩ | ⟨g', cap, cur, rfl, h3, h4, h5⟩
  · simp [Value.ownBlock] at hv
  · have e1 : g' = q := by simpa [Value.ownBlock] using hv
    subst e1
    exact h.ne h4 hne hq
section
variable {B : Nat} {w W W' : World} {g : Nat} {b1 b2 b3 v1 v2 v3 : Value} {X Z : List Int} {T : List ByteArray}
theorem SpC.below (h : SpC B w W g b1 b2 b3 v1 v2 v3 X Z T) (b : Below W.heap.size W W') : SpC B w W' g b1 b2 b3 v1 v2 v3 X Z T :=
  ⟨h.bel.trans (b.mono (Nat.le_trans h.lB h.sz)), Nat.le_trans h.sz b.size, h.lB, h.box.below b, h.r1.below b, h.r2.below b, h.r3.below b, h.d12⟩
theorem SpC.move1 (h : SpC B w W g b1 b2 b3 v1 v2 v3 X Z T) {u : Value} {N : List Int} (ho : OG (Value.int .i64) B 3 W' u N) (hg : W.grownBy W' v1.ownBlock) (hgg : ∀ q, u.ownBlock = some q → v1.ownBlock = some q ∨ W.heap.size ≤ q) :
    SpC B w W' g b1 b2 b3 u v2 v3 N Z T :=
  ⟨h.r1.grown h.bel (Nat.le_trans h.lB h.sz) hg, Nat.le_trans h.sz hg.size, h.lB, (hg.block g h.box.lt (fun e => h.r1.ne h.box (by decide) e.symm)).trans h.box, ho, h.r2.of_blocks fun q hq => hg.block q (h.r2.lt q hq).2 (fun e => (fun e => h.d12 q e hq) e.symm), h.r3.of_blocks fun q hq => hg.block q (h.r3.lt q hq).2 (fun e => (fun e => h.r3.ne2 h.r1 (by decide) hq e) e.symm), fun q h1 h2 => by
    rcases hgg q h1 with e | e
    · exact h.d12 q e h2
    · have := (h.r2.lt q h2).2; omega⟩
theorem SpC.move2 (h : SpC B w W g b1 b2 b3 v1 v2 v3 X Z T) {u : Value} {N : List Int} (ho : OG (Value.int .i64) B 3 W' u N) (hg : W.grownBy W' v2.ownBlock) (hgg : ∀ q, u.ownBlock = some q → v2.ownBlock = some q ∨ W.heap.size ≤ q) :
    SpC B w W' g b1 b2 b3 v1 u v3 X N T :=
  ⟨h.r2.grown h.bel (Nat.le_trans h.lB h.sz) hg, Nat.le_trans h.sz hg.size, h.lB, (hg.block g h.box.lt (fun e => h.r2.ne h.box (by decide) e.symm)).trans h.box, h.r1.of_blocks fun q hq => hg.block q (h.r1.lt q hq).2 (fun e => (fun e => h.d12 q hq e) e.symm), ho, h.r3.of_blocks fun q hq => hg.block q (h.r3.lt q hq).2 (fun e => (fun e => h.r3.ne2 h.r2 (by decide) hq e) e.symm), fun q h1 h2 => by
    rcases hgg q h2 with e | e
    · exact h.d12 q h1 e
    · have := (h.r1.lt q h1).2; omega⟩
theorem SpC.move3 (h : SpC B w W g b1 b2 b3 v1 v2 v3 X Z T) {u : Value} {N : List ByteArray} (ho : OG Value.string B 9 W' u N) (hg : W.grownBy W' v3.ownBlock) (hgg : ∀ q, u.ownBlock = some q → v3.ownBlock = some q ∨ W.heap.size ≤ q) :
    SpC B w W' g b1 b2 b3 v1 v2 u X Z N :=
  ⟨h.r3.grown h.bel (Nat.le_trans h.lB h.sz) hg, Nat.le_trans h.sz hg.size, h.lB, (hg.block g h.box.lt (fun e => h.r3.ne h.box (by decide) e.symm)).trans h.box, h.r1.of_blocks fun q hq => hg.block q (h.r1.lt q hq).2 (fun e => (fun e => h.r1.ne2 h.r3 (by decide) hq e) e.symm), h.r2.of_blocks fun q hq => hg.block q (h.r2.lt q hq).2 (fun e => (fun e => h.r2.ne2 h.r3 (by decide) hq e) e.symm), ho, h.d12⟩
end
/-- Written over from the left. -/
def over {α : Type} (z : α) (L : List α) (i : Nat) : List α := List.replicate i z ++ L.drop i
theorem over_zero {α : Type} (z : α) (L : List α) : over z L 0 = L := by simp [over]
theorem over_len {α : Type} (z : α) (L : List α) (i : Nat) (h : i ≤ L.length) : (over z L i).length = L.length := by simp [over]; omega
theorem over_full {α : Type} (z : α) (L : List α) : over z L L.length = List.replicate L.length z := by simp [over]
theorem over_set {α : Type} (z : α) (L : List α) (i : Nat) (h : i < L.length) : (over z L i).set i z = over z L (i + 1) := by
  unfold over
  rw [List.set_append_right _ _ (by simp), List.length_replicate, Nat.sub_self, List.drop_eq_getElem_cons h, List.set_cons_zero, List.replicate_succ', List.append_assoc]
  rfl
theorem over_at {α : Type} (z : α) (L : List α) (i : Nat) (h : i < L.length) : ∃ x, (over z L i)[i]? = some x := ⟨_, List.getElem?_eq_getElem (by rw [over_len z L i (by omega)]; exact h)⟩
set_option maxRecDepth 100000 in
set_option maxHeartbeats 12800000 in
theorem spoiltS (B : Nat) (c1 c2 c3 : Value) (xs zs : List Int) (ts : List ByteArray) (w : World) (mk : ByteArray) (hB : B ≤ w.heap.size) (h1 : OG (Value.int .i64) B 3 w c1 xs) (h2 : OG (Value.int .i64) B 3 w c2 zs) (h3 : OG Value.string B 9 w c3 ts) (hd : ∀ q, c1.ownBlock = some q → c2.ownBlock ≠ some q) (hl : zs.length = xs.length) (bx : xs.length ≤ 17592186043904) (bt : ts.length ≤ 2147483648) :
    Calls Try.prog 15 #[.iface 45 (.agg #[]), .agg #[c1, c2, c3], .string mk] w fun e w' => e = .returned (.bool true) ∧ Below B w w' := by
  obtain ⟨i0, hi, hz0, hz1, hz2⟩ := info_parts Try.infoI
  obtain ⟨i1, hi1, hs0, hs1, hs2⟩ := info_parts Try.infoTx
  obtain ⟨o1, n1, k1, rfl⟩ : ∃ o n k, c1 = .slice o n k := by obtain ⟨ao, cap, e⟩ := h1.rg.sl; exact ⟨_, _, _, e⟩
  obtain ⟨o2, n2, k2, rfl⟩ : ∃ o n k, c2 = .slice o n k := by obtain ⟨ao, cap, e⟩ := h2.rg.sl; exact ⟨_, _, _, e⟩
  obtain ⟨o3, n3, k3, rfl⟩ : ∃ o n k, c3 = .slice o n k := by obtain ⟨ao, cap, e⟩ := h3.rg.sl; exact ⟨_, _, _, e⟩
  have l1 : xs.length = n1 := h1.rg.len
  have l2 : zs.length = n2 := h2.rg.len
  have l3 : ts.length = n3 := h3.rg.len
  have e2 : n2 = n1 := by omega
  subst e2
  have HL1 : Hid (xs.length = n2) := l1
  have HL2 : Hid (zs.length = n2) := l2
  have HL3 : Hid (ts.length = n3) := l3
  have bx' : n2 ≤ 17592186043904 := by omega
  have bt' : n3 ≤ 2147483648 := by omega
  obtain ⟨W1, hW1⟩ : ∃ W1, W1 = w.alloc (.cells #[.slice o1 n2 k1, .slice o2 n2 k2, .slice o3 n3 k3] 33) := ⟨_, rfl⟩
  obtain ⟨g, hg⟩ : ∃ g, g = w.heap.size := ⟨_, rfl⟩
  have b0 : Below w.heap.size w W1 := by rw [hW1]; exact belowB w _
  have HSP : Hid (SpC B w W1 g (.slice o1 n2 k1) (.slice o2 n2 k2) (.slice o3 n3 k3) (.slice o1 n2 k1) (.slice o2 n2 k2) (.slice o3 n3 k3) (over (-5) xs 0) zs ts) := by
    show SpC _ _ _ _ _ _ _ _ _ _ _ _ _
    rw [over_zero]
    exact ⟨b0.mono hB, b0.size, hB, by rw [hW1]; exact BCell.new w hg.symm, h1.below b0, h2.below b0, h3.below b0, hd⟩
  have HG : Hid (g = w.heap.size) := hg
  have HW1 : Hid (W1 = w.alloc (.cells #[.slice o1 n2 k1, .slice o2 n2 k2, .slice o3 n3 k3] 33)) := hW1
  clear hB h1 h2 h3 hd hl bx bt l1 l2 l3 hW1 hg b0
  go_enter Try.func15, Try.ntmps15
  go_upto_region 1 with fail
  rw [← HW1.out, ← HG.out]
  clear HW1 HG
  obtain ⟨cb0, cb1, cb2⟩ := HSP.out.box.cells
  go_wp2
  clear cb0 cb1 cb2
  go_loopg [7] n2 (fun g1 v wr => ∃ i : Nat, v = .int .i64 i ∧ i ≤ n2 ∧ n2 - i ≤ g1 ∧ Hid (SpC B w wr g (.slice o1 n2 k1) (.slice o2 n2 k2) (.slice o3 n3 k3) (.slice o1 n2 k1) (.slice o2 n2 k2) (.slice o3 n3 k3) (over (-5) xs i) zs ts))
  case atStart => exact ⟨0, rfl, Nat.zero_le _, by omega, HSP⟩
  case round =>
    clear HSP
    obtain ⟨i, rfl, him, hg1, HSP⟩ := hrel
    obtain ⟨cb0, cb1, cb2⟩ := HSP.out.box.cells
    by_cases hlt : i < n2
    · have hltz : (i : Int) < (n2 : Int) := by omega
      obtain ⟨p, hp⟩ : ∃ p, o1 = some ⟨p, 0, none⟩ := by
        obtain ⟨ao, cap, e, h3, -⟩ := HSP.out.r1.sl
        obtain ⟨p, -, hp⟩ := h3 (by rw [over_len _ _ _ (by rw [HL1.out]; omega), HL1.out]; omega)
        simp only [Value.slice.injEq] at e
        exact ⟨p, e.1.trans hp⟩
      subst hp
      obtain ⟨x, hx⟩ := over_at (-5) xs i (by rw [HL1.out]; exact hlt)
      obtain ⟨cx, fx⟩ := HSP.out.r1.cell hx
      have hset := HSP.out.r1.set (by rw [over_len _ _ _ (by rw [HL1.out]; omega), HL1.out]) i (-5)
      rw [over_set _ _ _ (by rw [HL1.out]; exact hlt)] at hset
      have HN := HSP.out.move1 hset.1 hset.2 (fun q hq => .inl hq)
      obtain ⟨WN, hWN⟩ : ∃ u, u = wr.setCell ⟨p, i, none⟩ ((Value.int .i64) (-5)) := ⟨_, rfl⟩
      rw [← hWN] at HN
      have HE : Hid (WN = wr.setCell ⟨p, i, none⟩ ((Value.int .i64) (-5))) := hWN
      have HNN : Hid (WN = wr.setCell ⟨p, i, none⟩ ((Value.int .i64) (-5)) ∧ True) := ⟨hWN, trivial⟩
      have HSN : Hid _ := HN
      clear hset HN hWN hx HSP HNN
      go_wp2
      (try rw [← HE.out])
      go_roundg (n2 - (i + 1))
      case measure => omega
      case rel => exact ⟨i + 1, by go_num, by omega, Nat.le_refl _, HSN⟩
    · have hltz : ¬ (i : Int) < (n2 : Int) := by omega
      have hie : i = n2 := by omega
      have HSQ : Hid (SpC B w wr g (.slice o1 n2 k1) (.slice o2 n2 k2) (.slice o3 n3 k3) (.slice o1 n2 k1) (.slice o2 n2 k2) (.slice o3 n3 k3) (over (-5) xs n2) zs ts) := by have h := HSP.out; rw [hie] at h; exact h
      clear HSP cb0 cb1 cb2
      have HSP : Hid (SpC B w wr g (.slice o1 n2 k1) (.slice o2 n2 k2) (.slice o3 n3 k3) (.slice o1 n2 k1) (.slice o2 n2 k2) (.slice o3 n3 k3) (over (-5) xs n2) (over (-6) zs 0) ts) := by show SpC _ _ _ _ _ _ _ _ _ _ _ _ _; rw [over_zero]; exact HSQ.out
      clear HSQ
      obtain ⟨cb0, cb1, cb2⟩ := HSP.out.box.cells
      go_wp2
      clear cb0 cb1 cb2
      go_loopg [8] n2 (fun g1 v wr => ∃ i : Nat, v = .int .i64 i ∧ i ≤ n2 ∧ n2 - i ≤ g1 ∧ Hid (SpC B w wr g (.slice o1 n2 k1) (.slice o2 n2 k2) (.slice o3 n3 k3) (.slice o1 n2 k1) (.slice o2 n2 k2) (.slice o3 n3 k3) (over (-5) xs n2) (over (-6) zs i) ts))
      case atStart => exact ⟨0, rfl, Nat.zero_le _, by omega, HSP⟩
      case round =>
        clear HSP
        obtain ⟨i, rfl, him, hg1, HSP⟩ := hrel
        obtain ⟨cb0, cb1, cb2⟩ := HSP.out.box.cells
        by_cases hlt : i < n2
        · have hltz : (i : Int) < (n2 : Int) := by omega
          obtain ⟨p, hp⟩ : ∃ p, o2 = some ⟨p, 0, none⟩ := by
            obtain ⟨ao, cap, e, h3, -⟩ := HSP.out.r2.sl
            obtain ⟨p, -, hp⟩ := h3 (by rw [over_len _ _ _ (by rw [HL2.out]; omega), HL2.out]; omega)
            simp only [Value.slice.injEq] at e
            exact ⟨p, e.1.trans hp⟩
          subst hp
          obtain ⟨x, hx⟩ := over_at (-6) zs i (by rw [HL2.out]; exact hlt)
          obtain ⟨cx, fx⟩ := HSP.out.r2.cell hx
          have hset := HSP.out.r2.set (by rw [over_len _ _ _ (by rw [HL2.out]; omega), HL2.out]) i (-6)
          rw [over_set _ _ _ (by rw [HL2.out]; exact hlt)] at hset
          have HN := HSP.out.move2 hset.1 hset.2 (fun q hq => .inl hq)
          obtain ⟨WN, hWN⟩ : ∃ u, u = wr.setCell ⟨p, i, none⟩ ((Value.int .i64) (-6)) := ⟨_, rfl⟩
          rw [← hWN] at HN
          have HE : Hid (WN = wr.setCell ⟨p, i, none⟩ ((Value.int .i64) (-6))) := hWN
          have HNN : Hid (WN = wr.setCell ⟨p, i, none⟩ ((Value.int .i64) (-6)) ∧ True) := ⟨hWN, trivial⟩
          have HSN : Hid _ := HN
          clear hset HN hWN hx HSP HNN
          go_wp2
          (try rw [← HE.out])
          go_roundg (n2 - (i + 1))
          case measure => omega
          case rel => exact ⟨i + 1, by go_num, by omega, Nat.le_refl _, HSN⟩
        · have hltz : ¬ (i : Int) < (n2 : Int) := by omega
          have hie : i = n2 := by omega
          have HSQ : Hid (SpC B w wr g (.slice o1 n2 k1) (.slice o2 n2 k2) (.slice o3 n3 k3) (.slice o1 n2 k1) (.slice o2 n2 k2) (.slice o3 n3 k3) (over (-5) xs n2) (over (-6) zs n2) ts) := by have h := HSP.out; rw [hie] at h; exact h
          clear HSP cb0 cb1 cb2
          have HSP : Hid (SpC B w wr g (.slice o1 n2 k1) (.slice o2 n2 k2) (.slice o3 n3 k3) (.slice o1 n2 k1) (.slice o2 n2 k2) (.slice o3 n3 k3) (over (-5) xs n2) (over (-6) zs n2) (over mk ts 0)) := by show SpC _ _ _ _ _ _ _ _ _ _ _ _ _; rw [over_zero]; exact HSQ.out
          clear HSQ
          obtain ⟨cb0, cb1, cb2⟩ := HSP.out.box.cells
          go_wp2
          clear cb0 cb1 cb2
          go_loopg [9] n3 (fun g1 v wr => ∃ i : Nat, v = .int .i64 i ∧ i ≤ n3 ∧ n3 - i ≤ g1 ∧ Hid (SpC B w wr g (.slice o1 n2 k1) (.slice o2 n2 k2) (.slice o3 n3 k3) (.slice o1 n2 k1) (.slice o2 n2 k2) (.slice o3 n3 k3) (over (-5) xs n2) (over (-6) zs n2) (over mk ts i)))
          case atStart => exact ⟨0, rfl, Nat.zero_le _, by omega, HSP⟩
          case round =>
            clear HSP
            obtain ⟨i, rfl, him, hg1, HSP⟩ := hrel
            obtain ⟨cb0, cb1, cb2⟩ := HSP.out.box.cells
            by_cases hlt : i < n3
            · have hltz : (i : Int) < (n3 : Int) := by omega
              obtain ⟨p, hp⟩ : ∃ p, o3 = some ⟨p, 0, none⟩ := by
                obtain ⟨ao, cap, e, h3, -⟩ := HSP.out.r3.sl
                obtain ⟨p, -, hp⟩ := h3 (by rw [over_len _ _ _ (by rw [HL3.out]; omega), HL3.out]; omega)
                simp only [Value.slice.injEq] at e
                exact ⟨p, e.1.trans hp⟩
              subst hp
              obtain ⟨x, hx⟩ := over_at mk ts i (by rw [HL3.out]; exact hlt)
              obtain ⟨cx, fx⟩ := HSP.out.r3.cell hx
              have hset := HSP.out.r3.set (by rw [over_len _ _ _ (by rw [HL3.out]; omega), HL3.out]) i mk
              rw [over_set _ _ _ (by rw [HL3.out]; exact hlt)] at hset
              have HN := HSP.out.move3 hset.1 hset.2 (fun q hq => .inl hq)
              obtain ⟨WN, hWN⟩ : ∃ u, u = wr.setCell ⟨p, i, none⟩ (Value.string mk) := ⟨_, rfl⟩
              rw [← hWN] at HN
              have HE : Hid (WN = wr.setCell ⟨p, i, none⟩ (Value.string mk)) := hWN
              have HNN : Hid (WN = wr.setCell ⟨p, i, none⟩ (Value.string mk) ∧ True) := ⟨hWN, trivial⟩
              have HSN : Hid _ := HN
              clear hset HN hWN hx HSP HNN
              go_wp2
              (try rw [← HE.out])
              go_roundg (n3 - (i + 1))
              case measure => omega
              case rel => exact ⟨i + 1, by go_num, by omega, Nat.le_refl _, HSN⟩
            · have hltz : ¬ (i : Int) < (n3 : Int) := by omega
              have hie : i = n3 := by omega
              have HSQ : Hid (SpC B w wr g (.slice o1 n2 k1) (.slice o2 n2 k2) (.slice o3 n3 k3) (.slice o1 n2 k1) (.slice o2 n2 k2) (.slice o3 n3 k3) (over (-5) xs n2) (over (-6) zs n2) (over mk ts n3)) := by have h := HSP.out; rw [hie] at h; exact h
              clear HSP cb0 cb1 cb2
              obtain ⟨cb0, cb1, cb2⟩ := HSQ.out.box.cells
              obtain ⟨XA, hXA⟩ : ∃ X, X = over (-5) xs n2 := ⟨_, rfl⟩
              obtain ⟨ZA, hZA⟩ : ∃ X, X = over (-6) zs n2 := ⟨_, rfl⟩
              obtain ⟨TA, hTA⟩ : ∃ X, X = over mk ts n3 := ⟨_, rfl⟩
              have HXE : Hid (XA = List.replicate n2 (-5)) := by show _ = _; rw [hXA]; have := over_full (-5) xs; rw [HL1.out] at this; exact this
              have HZE : Hid (ZA = List.replicate n2 (-6)) := by show _ = _; rw [hZA]; have := over_full (-6) zs; rw [HL2.out] at this; exact this
              have HTE : Hid (TA.length = n3) := by show _ = _; rw [hTA, over_len _ _ _ (by rw [HL3.out]; omega), HL3.out]
              have HXL : Hid (XA.length = n2) := by show _ = _; rw [HXE.out, List.length_replicate]
              have HZL : Hid (ZA.length = n2) := by show _ = _; rw [HZE.out, List.length_replicate]
              have h9 := HSQ.out
              rw [← hXA, ← hZA, ← hTA] at h9
              have HSP : Hid (SpC B w wr g (.slice o1 n2 k1) (.slice o2 n2 k2) (.slice o3 n3 k3) (.slice o1 n2 k1) (.slice o2 n2 k2) (.slice o3 n3 k3) XA ZA TA) := h9
              clear h9 HSQ hXA hZA hTA
              go_wp2
              clear cb0 cb1 cb2
              go_loopg [10, 13] 5 (fun g1 v v' wr => ∃ (k : Nat) (p q c : _), v = .slice p q c ∧ v' = .int .i64 k ∧ k ≤ 5 ∧ 5 - k ≤ g1 ∧ Hid (SpC B w wr g (.slice o1 n2 k1) (.slice o2 n2 k2) (.slice o3 n3 k3) (.slice p q c) (.slice o2 n2 k2) (.slice o3 n3 k3) (XA ++ List.replicate k (-7)) ZA TA))
              case atStart => exact ⟨0, _, _, _, rfl, rfl, by omega, by omega, by rw [List.replicate_zero, List.append_nil]; exact HSP⟩
              case round =>
                clear HSP
                obtain ⟨k, p, q, c, rfl, rfl, hk5, hg1, HSP⟩ := hrel
                by_cases hlt : k < 5
                · have hltz : (k : Int) < 5 := by omega
                  have HR1 : Hid (XA ++ List.replicate (k + 1) (-7) = (XA ++ List.replicate k (-7)) ++ [(-7)]) := by show _ = _; rw [List.replicate_succ', List.append_assoc]
                  have HN1 : Hid ((XA ++ List.replicate k (-7)).length ≤ 17592186043909) := by show _ ≤ _; rw [List.length_append, List.length_replicate, HXL.out]; omega
                  generalize XA ++ List.replicate k (-7) = V at *
                  obtain ⟨WA, hWA⟩ : ∃ u, u = wr.alloc (.cells #[.int .i64 (-7)] 3) := ⟨_, rfl⟩
                  have HMA : Hid _ := HSP.out.below (W' := WA) (by rw [hWA]; exact belowB _ _)
                  obtain ⟨gb, hgb⟩ : ∃ u, u = wr.heap.size := ⟨_, rfl⟩
                  have cb : WA.cell? ⟨gb, 0, none⟩ = some (.int .i64 (-7)) := by rw [hWA, hgb, World.cell?_alloc_at _ _ _ _ rfl]; rfl
                  have HCB : Hid (WA.cell? ⟨gb, 0, none⟩ = some (.int .i64 (-7))) := cb
                  have HWA : Hid (WA = wr.alloc (.cells #[.int .i64 (-7)] 3)) := hWA
                  have HGB : Hid (gb = wr.heap.size) := hgb
                  have hszA : B ≤ WA.heap.size := Nat.le_trans HMA.out.lB HMA.out.sz
                  clear hWA hgb cb HSP
                  go_wp2_with (at_builtin; rw [← HWA.out, ← HGB.out]; refine wpList_push1L _ (fun _ => rfl) rfl _ _ 22 rfl B 3 i0 (.int .i64 0) 8 Try.underlying22 hi hz0 hz1 hz2 rfl _ _ rfl HMA.out.r1 gb (-7) rfl HCB.out (by have := HN1.out; unfold maxLen; omega) (by have := HN1.out; omega) hszA ?_)
                  intro ng nk nc WB ho hg hgg hlt9
                  have HN := HMA.out.move1 ho hg (fun q hq => by
                    have e : ng = q := by simpa [Value.ownBlock] using hq
                    subst e
                    rcases hgg with h | h
                    · exact .inl h
                    · exact .inr (by omega))
                  rw [← HR1.out] at HN
                  have HSN : Hid _ := HN
                  clear ho hg hgg hlt9 HN HMA HCB HWA HGB hszA HN1 HR1
                  go_wp2
                  go_roundg (5 - (k + 1))
                  case measure => omega
                  case rel => exact ⟨k + 1, _, _, _, rfl, by go_num, by omega, Nat.le_refl _, HSN⟩
                · have hltz : ¬ (k : Int) < 5 := by omega
                  have hk : k = 5 := by omega
                  have h9 := HSP.out
                  rw [hk] at h9
                  obtain ⟨P0, hP0, hq0⟩ : ∃ P, p = some ⟨P, 0, none⟩ ∧ q = n2 + 5 := by
                    obtain ⟨ao, cap, e, h3, -⟩ := h9.r1.sl
                    rw [List.length_append, List.length_replicate, HXL.out] at e h3
                    obtain ⟨p', -, hp'⟩ := h3 (by omega)
                    simp only [Value.slice.injEq] at e
                    exact ⟨p', e.1.trans hp', e.2.1⟩
                  subst hP0 hq0
                  obtain ⟨K0, hK0⟩ : ∃ k, k = c := ⟨_, rfl⟩
                  rw [← hK0] at h9 ⊢
                  clear hK0
                  have HSQ : Hid (SpC B w wr g (.slice o1 n2 k1) (.slice o2 n2 k2) (.slice o3 n3 k3) (.slice (some ⟨P0, 0, none⟩) (n2 + 5) K0) (.slice o2 n2 k2) (.slice o3 n3 k3) (XA ++ List.replicate 5 (-7)) ZA TA) := h9
                  clear h9 HSP
                  have HSP : Hid (SpC B w wr g (.slice o1 n2 k1) (.slice o2 n2 k2) (.slice o3 n3 k3) (.slice (some ⟨P0, 0, none⟩) (n2 + 5) K0) (.slice o2 n2 k2) (.slice o3 n3 k3) (XA ++ List.replicate 5 (-7)) ZA TA) := HSQ.out
                  clear HSQ
                  go_wp2
                  go_loopg [11, 14] 5 (fun g1 v v' wr => ∃ (k : Nat) (p q c : _), v = .slice p q c ∧ v' = .int .i64 k ∧ k ≤ 5 ∧ 5 - k ≤ g1 ∧ Hid (SpC B w wr g (.slice o1 n2 k1) (.slice o2 n2 k2) (.slice o3 n3 k3) (.slice (some ⟨P0, 0, none⟩) (n2 + 5) K0) (.slice p q c) (.slice o3 n3 k3) (XA ++ List.replicate 5 (-7)) (ZA ++ List.replicate k (-8)) TA))
                  case atStart => exact ⟨0, _, _, _, rfl, rfl, by omega, by omega, by rw [List.replicate_zero, List.append_nil]; exact HSP⟩
                  case round =>
                    clear HSP
                    obtain ⟨k, p, q, c, rfl, rfl, hk5, hg1, HSP⟩ := hrel
                    by_cases hlt : k < 5
                    · have hltz : (k : Int) < 5 := by omega
                      have HR1 : Hid (ZA ++ List.replicate (k + 1) (-8) = (ZA ++ List.replicate k (-8)) ++ [(-8)]) := by show _ = _; rw [List.replicate_succ', List.append_assoc]
                      have HN1 : Hid ((ZA ++ List.replicate k (-8)).length ≤ 17592186043909) := by show _ ≤ _; rw [List.length_append, List.length_replicate, HZL.out]; omega
                      generalize ZA ++ List.replicate k (-8) = V at *
                      obtain ⟨WA, hWA⟩ : ∃ u, u = wr.alloc (.cells #[.int .i64 (-8)] 3) := ⟨_, rfl⟩
                      have HMA : Hid _ := HSP.out.below (W' := WA) (by rw [hWA]; exact belowB _ _)
                      obtain ⟨gb, hgb⟩ : ∃ u, u = wr.heap.size := ⟨_, rfl⟩
                      have cb : WA.cell? ⟨gb, 0, none⟩ = some (.int .i64 (-8)) := by rw [hWA, hgb, World.cell?_alloc_at _ _ _ _ rfl]; rfl
                      have HCB : Hid (WA.cell? ⟨gb, 0, none⟩ = some (.int .i64 (-8))) := cb
                      have HWA : Hid (WA = wr.alloc (.cells #[.int .i64 (-8)] 3)) := hWA
                      have HGB : Hid (gb = wr.heap.size) := hgb
                      have hszA : B ≤ WA.heap.size := Nat.le_trans HMA.out.lB HMA.out.sz
                      clear hWA hgb cb HSP
                      go_wp2_with (at_builtin; rw [← HWA.out, ← HGB.out]; refine wpList_push1L _ (fun _ => rfl) rfl _ _ 22 rfl B 3 i0 (.int .i64 0) 8 Try.underlying22 hi hz0 hz1 hz2 rfl _ _ rfl HMA.out.r2 gb (-8) rfl HCB.out (by have := HN1.out; unfold maxLen; omega) (by have := HN1.out; omega) hszA ?_)
                      intro ng nk nc WB ho hg hgg hlt9
                      have HN := HMA.out.move2 ho hg (fun q hq => by
                        have e : ng = q := by simpa [Value.ownBlock] using hq
                        subst e
                        rcases hgg with h | h
                        · exact .inl h
                        · exact .inr (by omega))
                      rw [← HR1.out] at HN
                      have HSN : Hid _ := HN
                      clear ho hg hgg hlt9 HN HMA HCB HWA HGB hszA HN1 HR1
                      go_wp2
                      go_roundg (5 - (k + 1))
                      case measure => omega
                      case rel => exact ⟨k + 1, _, _, _, rfl, by go_num, by omega, Nat.le_refl _, HSN⟩
                    · have hltz : ¬ (k : Int) < 5 := by omega
                      have hk : k = 5 := by omega
                      have h9 := HSP.out
                      rw [hk] at h9
                      obtain ⟨P1, hP1, hq1⟩ : ∃ P, p = some ⟨P, 0, none⟩ ∧ q = n2 + 5 := by
                        obtain ⟨ao, cap, e, h3, -⟩ := h9.r2.sl
                        rw [List.length_append, List.length_replicate, HZL.out] at e h3
                        obtain ⟨p', -, hp'⟩ := h3 (by omega)
                        simp only [Value.slice.injEq] at e
                        exact ⟨p', e.1.trans hp', e.2.1⟩
                      subst hP1 hq1
                      obtain ⟨K1, hK1⟩ : ∃ k, k = c := ⟨_, rfl⟩
                      rw [← hK1] at h9 ⊢
                      clear hK1
                      have HSQ : Hid (SpC B w wr g (.slice o1 n2 k1) (.slice o2 n2 k2) (.slice o3 n3 k3) (.slice (some ⟨P0, 0, none⟩) (n2 + 5) K0) (.slice (some ⟨P1, 0, none⟩) (n2 + 5) K1) (.slice o3 n3 k3) (XA ++ List.replicate 5 (-7)) (ZA ++ List.replicate 5 (-8)) TA) := h9
                      clear h9 HSP
                      have HSP : Hid (SpC B w wr g (.slice o1 n2 k1) (.slice o2 n2 k2) (.slice o3 n3 k3) (.slice (some ⟨P0, 0, none⟩) (n2 + 5) K0) (.slice (some ⟨P1, 0, none⟩) (n2 + 5) K1) (.slice o3 n3 k3) (XA ++ List.replicate 5 (-7)) (ZA ++ List.replicate 5 (-8)) TA) := HSQ.out
                      clear HSQ
                      go_wp2
                      go_loopg [12, 15] 5 (fun g1 v v' wr => ∃ (k : Nat) (p q c : _), v = .slice p q c ∧ v' = .int .i64 k ∧ k ≤ 5 ∧ 5 - k ≤ g1 ∧ Hid (SpC B w wr g (.slice o1 n2 k1) (.slice o2 n2 k2) (.slice o3 n3 k3) (.slice (some ⟨P0, 0, none⟩) (n2 + 5) K0) (.slice (some ⟨P1, 0, none⟩) (n2 + 5) K1) (.slice p q c) (XA ++ List.replicate 5 (-7)) (ZA ++ List.replicate 5 (-8)) (TA ++ List.replicate k mk)))
                      case atStart => exact ⟨0, _, _, _, rfl, rfl, by omega, by omega, by rw [List.replicate_zero, List.append_nil]; exact HSP⟩
                      case round =>
                        clear HSP
                        obtain ⟨k, p, q, c, rfl, rfl, hk5, hg1, HSP⟩ := hrel
                        by_cases hlt : k < 5
                        · have hltz : (k : Int) < 5 := by omega
                          have HR1 : Hid (TA ++ List.replicate (k + 1) mk = (TA ++ List.replicate k mk) ++ [mk]) := by show _ = _; rw [List.replicate_succ', List.append_assoc]
                          have HN1 : Hid ((TA ++ List.replicate k mk).length ≤ 2147483653) := by show _ ≤ _; rw [List.length_append, List.length_replicate, HTE.out]; omega
                          generalize TA ++ List.replicate k mk = V at *
                          obtain ⟨WA, hWA⟩ : ∃ u, u = wr.alloc (.cells #[.string mk] 9) := ⟨_, rfl⟩
                          have HMA : Hid _ := HSP.out.below (W' := WA) (by rw [hWA]; exact belowB _ _)
                          obtain ⟨gb, hgb⟩ : ∃ u, u = wr.heap.size := ⟨_, rfl⟩
                          have cb : WA.cell? ⟨gb, 0, none⟩ = some (.string mk) := by rw [hWA, hgb, World.cell?_alloc_at _ _ _ _ rfl]; rfl
                          have HCB : Hid (WA.cell? ⟨gb, 0, none⟩ = some (.string mk)) := cb
                          have HWA : Hid (WA = wr.alloc (.cells #[.string mk] 9)) := hWA
                          have HGB : Hid (gb = wr.heap.size) := hgb
                          have hszA : B ≤ WA.heap.size := Nat.le_trans HMA.out.lB HMA.out.sz
                          clear hWA hgb cb HSP
                          go_wp2_with (at_builtin; rw [← HWA.out, ← HGB.out]; refine wpList_push1L _ (fun _ => rfl) rfl _ _ 31 rfl B 9 i1 (.string ⟨#[]⟩) 16 Try.underlying31 hi1 hs0 hs1 hs2 rfl _ _ rfl HMA.out.r3 gb mk rfl HCB.out (by have := HN1.out; unfold maxLen; omega) (by have := HN1.out; omega) hszA ?_)
                          intro ng nk nc WB ho hg hgg hlt9
                          have HN := HMA.out.move3 ho hg (fun q hq => by
                            have e : ng = q := by simpa [Value.ownBlock] using hq
                            subst e
                            rcases hgg with h | h
                            · exact .inl h
                            · exact .inr (by omega))
                          rw [← HR1.out] at HN
                          have HSN : Hid _ := HN
                          clear ho hg hgg hlt9 HN HMA HCB HWA HGB hszA HN1 HR1
                          go_wp2
                          go_roundg (5 - (k + 1))
                          case measure => omega
                          case rel => exact ⟨k + 1, _, _, _, rfl, by go_num, by omega, Nat.le_refl _, HSN⟩
                        · have hltz : ¬ (k : Int) < 5 := by omega
                          have hk : k = 5 := by omega
                          have h9 := HSP.out
                          rw [hk] at h9
                          obtain ⟨P2, hP2, hq2⟩ : ∃ P, p = some ⟨P, 0, none⟩ ∧ q = n3 + 5 := by
                            obtain ⟨ao, cap, e, h3, -⟩ := h9.r3.sl
                            rw [List.length_append, List.length_replicate, HTE.out] at e h3
                            obtain ⟨p', -, hp'⟩ := h3 (by omega)
                            simp only [Value.slice.injEq] at e
                            exact ⟨p', e.1.trans hp', e.2.1⟩
                          subst hP2 hq2
                          obtain ⟨K2, hK2⟩ : ∃ k, k = c := ⟨_, rfl⟩
                          rw [← hK2] at h9 ⊢
                          clear hK2
                          have HSQ : Hid (SpC B w wr g (.slice o1 n2 k1) (.slice o2 n2 k2) (.slice o3 n3 k3) (.slice (some ⟨P0, 0, none⟩) (n2 + 5) K0) (.slice (some ⟨P1, 0, none⟩) (n2 + 5) K1) (.slice (some ⟨P2, 0, none⟩) (n3 + 5) K2) (XA ++ List.replicate 5 (-7)) (ZA ++ List.replicate 5 (-8)) (TA ++ List.replicate 5 mk)) := h9
                          clear h9 HSP
                          have HSP : Hid (SpC B w wr g (.slice o1 n2 k1) (.slice o2 n2 k2) (.slice o3 n3 k3) (.slice (some ⟨P0, 0, none⟩) (n2 + 5) K0) (.slice (some ⟨P1, 0, none⟩) (n2 + 5) K1) (.slice (some ⟨P2, 0, none⟩) (n3 + 5) K2) (XA ++ List.replicate 5 (-7)) (ZA ++ List.replicate 5 (-8)) (TA ++ List.replicate 5 mk)) := HSQ.out
                          clear HSQ
                          go_wp2
                          go_loopg [16] (n2 + 5) (fun g1 v wx => ∃ i : Nat, v = .int .i64 i ∧ i ≤ n2 + 5 ∧ n2 + 5 - i ≤ g1 ∧ wr = wx)
                          case atStart => exact ⟨0, rfl, Nat.zero_le _, by omega, rfl⟩
                          case round =>
                            obtain ⟨i, rfl, him, hg1, rfl⟩ := hrel
                            by_cases hlt : i < n2 + 5
                            · have hltz : (i : Int) < (n2 : Int) + 5 := by omega
                              by_cases hin : i < n2
                              · have cx : wr.cell? ⟨P0, i, none⟩ = some (.int .i64 (-5)) := (HSP.out.r1.cell (by rw [HXE.out, List.getElem?_append_left (by simpa using hin), List.getElem?_replicate, if_pos hin])).1
                                have cy : wr.cell? ⟨P1, i, none⟩ = some (.int .i64 (-6)) := (HSP.out.r2.cell (by rw [HZE.out, List.getElem?_append_left (by simpa using hin), List.getElem?_replicate, if_pos hin])).1
                                clear hin
                                go_wp2
                                go_roundg (n2 + 5 - (i + 1))
                                case measure => omega
                                case rel => exact ⟨i + 1, by go_num, by omega, Nat.le_refl _, rfl⟩
                              · have cx : wr.cell? ⟨P0, i, none⟩ = some (.int .i64 (-7)) := (HSP.out.r1.cell (by rw [HXE.out, List.getElem?_append_right (by simp; omega), List.getElem?_replicate, if_pos (by simp; omega)])).1
                                have cy : wr.cell? ⟨P1, i, none⟩ = some (.int .i64 (-8)) := (HSP.out.r2.cell (by rw [HZE.out, List.getElem?_append_right (by simp; omega), List.getElem?_replicate, if_pos (by simp; omega)])).1
                                clear hin
                                go_wp2
                                go_roundg (n2 + 5 - (i + 1))
                                case measure => omega
                                case rel => exact ⟨i + 1, by go_num, by omega, Nat.le_refl _, rfl⟩
                            · have hltz : ¬ (i : Int) < (n2 : Int) + 5 := by omega
                              obtain ⟨cb0, cb1, cb2⟩ := HSP.out.box.cells
                              have heq : (((n3 : Int) + 5) == ((n3 : Int) + 5)) = true := by simp
                              go_wp2
                              go_ret
                              exact ⟨rfl, HSP.out.bel⟩
end Go.Proofs.Ytphbbkckigdgoaa

/-
  Proved here: what LendAll of a list of fractions answers: new memory, in it the same numbers, marks behind each and behind the list.
  Proved here: KeptAll of a list of fractions that was lent: it answers true.
-/
import Derived.Test.YtnehfkbpbgmbaaaGreatDoorFracRowsAll
namespace Go.Proofs.YtnehfkbpbgmbaaaGreatDoor
open Go.RowKit

theorem cell_three_at {w : World} {g : Nat} (hg : g = w.heap.size) (a b c : Value) (t : TypeId) : ∀ j u, [a, b, c][j]? = some u → (w.alloc (.cells #[a, b, c] t)).cell? ((⟨g, 0, none⟩ : Addr).add j) = some u := by
  subst hg
  exact cell_three_new w a b c t
theorem row_apart {w : World} {B B' s s' n n' : Nat} {e e' : TypeId} {v v' : Value} {xs xs' : List Value} (h : w.ownsRow B e s v n xs) (h' : w.ownsRow B' e' s' v' n' xs') (hne : e ≠ e') : v.ownBlock = none ∨ v.ownBlock ≠ v'.ownBlock := by
  rcases h.2 with ⟨rfl, _⟩ | ⟨g, cap, cur, rfl, _, hg, _⟩
  · exact .inl rfl
  · rcases h'.2 with ⟨rfl, _⟩ | ⟨g', cap', cur', rfl, _, hg', _⟩
    · exact .inr (fun h => by cases h)
    · refine .inr fun h => ?_
      have hgg : g = g' := Option.some.inj h
      rw [hgg, hg'] at hg
      simp only [Option.some.injEq, Obj.cells.injEq] at hg
      exact hne hg.2.1.symm
theorem RoomL.grown {B : Nat} {w w' : World} {v : Value} {xs : List Nat} {row : Option Nat} (h : RoomL B w v xs) (hg : w.grownBy w' row) (hne : v.ownBlock = none ∨ v.ownBlock ≠ row) : RoomL B w' v xs := by
  obtain ⟨u, rfl, ho⟩ := h
  refine ⟨u, rfl, ho.1, ho.2.kept hg ?_⟩
  have e : (cutTo u xs.length).ownBlock = u.ownBlock := by
    obtain ⟨uo, ul, uc, rfl⟩ := ho.sl
    cases uo <;> rfl
  rw [e] at hne
  exact hne
theorem RoomL.apart {B B' n : Nat} {w : World} {v va : Value} {xs : List Nat} {ys : List Value} (h : RoomL B w v xs) (hr : w.ownsRow B' 27 3 va n ys) : v.ownBlock = none ∨ v.ownBlock ≠ va.ownBlock := row_apart h.own.2 hr (by decide)
/-- What is lent at a place: a fraction with marks behind its numbers, or, behind all, a mark. -/
def LAt (S n : Nat) (F : Nat → FV) (w : World) (j : Nat) (f : FV) : Prop :=
  (j < n ∧ f.n = (F j).n ∧ RoomL S w (.slice f.ao f.al f.ac) (F j).xs ∧ RoomL S w (.slice f.bo f.bl f.bc) (F j).ys) ∨
  (n ≤ j ∧ f.n = false ∧ f.ao = none ∧ f.al = 0 ∧ f.ac = 0 ∧ f.bl = 1 ∧ Own S 67 w (.slice f.bo f.bl f.bc) [9000 + (j - n)])
theorem LAt.below {S n j : Nat} {F : Nat → FV} {w w' : World} {f : FV} (h : LAt S n F w j f) (hb : Below w.heap.size w w') : LAt S n F w' j f := by
  rcases h with ⟨h1, h2, h3, h4⟩ | ⟨h1, h2, h3, h4, h5, h6, h7⟩
  · exact .inl ⟨h1, h2, h3.below hb, h4.below hb⟩
  · exact .inr ⟨h1, h2, h3, h4, h5, h6, h7.below hb⟩
theorem LAt.grown {S n j B m : Nat} {F : Nat → FV} {w w' : World} {f : FV} {va : Value} {ys : List Value} (h : LAt S n F w j f) (hr : w.ownsRow B 27 3 va m ys) (hg : w.grownBy w' va.ownBlock) : LAt S n F w' j f := by
  rcases h with ⟨h1, h2, h3, h4⟩ | ⟨h1, h2, h3, h4, h5, h6, h7⟩
  · exact .inl ⟨h1, h2, h3.grown hg (h3.apart hr), h4.grown hg (h4.apart hr)⟩
  · exact .inr ⟨h1, h2, h3, h4, h5, h6, h7.1, h7.2.kept hg (row_apart h7.2 hr (by decide))⟩
/-- One more. -/
def updF (G : Nat → FV) (i : Nat) (f : FV) : Nat → FV := fun j => if j = i then f else G j
theorem updF_same (G : Nat → FV) (i : Nat) (f : FV) : updF G i f i = f := if_pos rfl
theorem updF_old (G : Nat → FV) (i : Nat) (f : FV) {j : Nat} (h : j < i) : updF G i f j = G j := if_neg (by omega)
theorem fl3_updF (G : Nat → FV) (i : Nat) (f : FV) : fl3 (updF G i f) (i + 1) = fl3 G i ++ f.cells := by
  show fl3 (updF G i f) i ++ (updF G i f i).cells = _
  rw [updF_same, fl3_congr i (fun j hj => updF_old G i f hj)]
/-- Between two rounds: so many are lent. -/
structure LC (S n : Nat) (F : Nat → FV) (w : World) (i : Nat) (va : Value) (wr : World) : Prop where
  ex : ∃ G, wr.ownsRow S 27 3 va i (fl3 G i) ∧ ∀ j, j < i → LAt S n F wr j (G j)
  bel : Below S w wr
  size : S ≤ wr.heap.size
theorem LC.start (n : Nat) (F : Nat → FV) (w : World) : LC w.heap.size n F w 0 (.slice none 0 0) w := ⟨⟨fun _ => default, World.ownsRow_nil _ _ _ _, fun _ hj => absurd hj (Nat.not_lt_zero _)⟩, Below.refl _ _, Nat.le_refl _⟩
theorem LC.below {S n i : Nat} {F : Nat → FV} {w wr w' : World} {va : Value} (h : LC S n F w i va wr) (hb : Below wr.heap.size wr w') : LC S n F w i va w' := by
  obtain ⟨G, hG, hL⟩ := h.ex
  exact ⟨⟨G, rowB3 hG hb, fun j hj => (hL j hj).below hb⟩, bstepB h.bel h.size hb, Nat.le_trans h.size hb.size⟩
theorem LC.push {S n i : Nat} {F : Nat → FV} {w wr w' : World} {va v' : Value} {f : FV} {G : Nat → FV} {o : Obj} (hG : wr.ownsRow S 27 3 va i (fl3 G i)) (hL : ∀ j, j < i → LAt S n F wr j (G j)) (hb : Below S w wr) (hS : S ≤ wr.heap.size) (hf : LAt S n F wr i f)
    (ho : w'.ownsRow S 27 3 v' (i + 1) (fl3 G i ++ f.cells)) (hg : (wr.alloc o).grownBy w' va.ownBlock) : LC S n F w (i + 1) v' w' := by
  have hA : Below wr.heap.size wr (wr.alloc o) := belowA _ _
  refine ⟨⟨updF G i f, by rw [fl3_updF]; exact ho, fun j hj => ?_⟩, (hb.alloc hS o).grown hg (by simp; omega) (fun k hk => (hG.lt k hk).1), Nat.le_trans hS (Nat.le_trans hA.size hg.size)⟩
  by_cases e : j = i
  · subst e
    rw [updF_same]
    exact (hf.below hA).grown (rowB3 hG hA) hg
  · rw [updF_old G i f (by omega)]
    exact ((hL j (by omega)).below hA).grown (rowB3 hG hA) hg
/-- A list of fractions that is lent. -/
structure LentAll (S n : Nat) (F : Nat → FV) (w : World) (v : Value) : Prop where
  ex : ∃ g cap G, v = .slice (some ⟨g, 0, none⟩) n cap ∧ n + 5 ≤ cap ∧ cap ≤ maxLen ∧ w.ownsRow S 27 3 (.slice (some ⟨g, 0, none⟩) (n + 5) cap) (n + 5) (fl3 G (n + 5)) ∧ ∀ j, j < n + 5 → LAt S n F w j (G j)
theorem LentAll.below {S n : Nat} {F : Nat → FV} {w w' : World} {v : Value} (h : LentAll S n F w v) (hb : Below w.heap.size w w') : LentAll S n F w' v := by
  obtain ⟨g, cap, G, e, h1, h2, h3, h4⟩ := h.ex
  exact ⟨g, cap, G, e, h1, h2, rowB3 h3 hb, fun j hj => (h4 j hj).below hb⟩

set_option maxRecDepth 100000 in
set_option maxHeartbeats 6400000 in
theorem lendAll3 (lo : Option Addr) (n cap : Nat) (F : Nat → FV) (w : World) (hr : FRow w lo n F) (hn : n ≤ 1000000) (hl : ∀ i, i < n → (F i).xs.length ≤ 1000 ∧ (F i).ys.length ≤ 1000) :
    Calls Tryz.prog 31 #[.slice lo n cap] w fun e w' => ∃ v, e = .returned v ∧ LentAll w.heap.size n F w' v ∧ Below w.heap.size w w' := by
  obtain ⟨iR, hiR, hz0, hz1, hz2⟩ := info_parts Tryz.infoR3
  have L0 := LC.start n F w
  obtain ⟨S, hS⟩ : ∃ S, S = w.heap.size := ⟨_, rfl⟩
  rw [← hS] at L0 ⊢
  have HS : Hid (S = w.heap.size) := hS
  clear hS
  go_enter Tryz.func31, Tryz.ntmps31
  go_wp2_with fail
  go_loopw [3, 4] (fun va t wr => ∃ i : Nat, i ≤ n ∧ t = .int .i64 i ∧ LC S n F w i va wr) (fun _ t _ => n - (intOf t).toNat)
  case atStart => exact ⟨0, Nat.zero_le _, rfl, L0⟩
  case round =>
    clear L0
    obtain ⟨i, hin, rfl, hC⟩ := hrel
    obtain ⟨va, hva⟩ : ∃ v, v = u3 := ⟨_, rfl⟩
    rw [← hva] at hC ⊢
    clear hva
    by_cases hlt : i < n
    · have hge : (i : Int) < (n : Int) := by omega
      obtain ⟨⟨b, off, rfl, c0, c1, c2⟩, hA⟩ := hr i hlt
      have hb1 : Below w.heap.size w wr := by rw [← HS.out]; exact hC.bel
      replace hA := hA.below hb1
      replace c0 := keepB hb1 c0
      replace c1 := keepB hb1 c1
      replace c2 := keepB hb1 c2
      obtain ⟨l1, l2⟩ := hl i hlt
      clear hr hl hb1
      have HF : Hid (∀ w' u v, RoomL S w' u (F i).xs → RoomL S w' v (F i).ys → ∀ uo ul uc vo vl vc, u = .slice uo ul uc → v = .slice vo vl vc → LAt S n F w' i ⟨(F i).n, uo, ul, uc, vo, vl, vc, (F i).xs, (F i).ys⟩) := by
        intro w' u v h1 h2 uo ul uc vo vl vc e1 e2
        subst e1 e2
        exact .inl ⟨hlt, rfl, h1, h2⟩
      generalize hf : F i = f at *
      obtain ⟨nn, ao, al, ac, bo, bl, bc, xs, ys⟩ := f
      obtain ⟨h1, h2⟩ := hA
      simp only at c0 c1 c2 h1 h2 HF l1 l2
      clear hf
      have hq := lend3 nn ao bo al ac bl bc xs ys wr h1 h2 (by omega) (by omega)
      have HC : Hid (LC S n F w i va wr) := hC
      clear hC h1 h2 l1 l2
      go_wp2_with fail
      refine hq.mono ?_
      rintro e w2 ⟨u, v, rfl, ra, rb, _, b2⟩
      obtain ⟨uo, ul, uc, rfl⟩ := ra.own.sl
      obtain ⟨vo, vl, vc, rfl⟩ := rb.own.sl
      clear hq c0 c1 c2
      have hf := HF.out w2 _ _ (ra.mono HC.out.size) (rb.mono HC.out.size) _ _ _ _ _ _ rfl rfl
      have hC2 := HC.out.below b2
      obtain ⟨G, hG, hL⟩ := hC2.ex
      have hb2 := hC2.bel
      have hs2 := hC2.size
      have HP : Hid (∀ v' w' o, w'.ownsRow S 27 3 v' (i + 1) (fl3 G i ++ [.bool nn, .slice uo ul uc, .slice vo vl vc]) → (w2.alloc o).grownBy w' va.ownBlock → LC S n F w (i + 1) v' w') := fun v' w' o ho hg => LC.push hG hL hb2 hs2 hf ho hg
      have HO : Hid (w2.ownsRow S 27 3 va i (fl3 G i)) := hG
      clear HC HF hC2 hG hL hf hb2 ra rb b2
      go_wp2_with (at_builtin; refine wpList_append_own _ rfl _ _ 36 rfl S 27 iR _ 3 56 Tryz.underlying36 hiR hz0 hz1 hz2 rfl (by decide) va i _ rfl (HO.out.alloc _) ⟨w2.heap.size, 0, none⟩ 1 1 [.bool nn, .slice uo ul uc, .slice vo vl vc] rfl rfl (cell_three_new _ _ _ _ _) (by simp [Value.oneCell']) (by unfold maxLen; omega) (by omega) (Nat.le_trans hs2 (by simp)) ?_)
      intro v' w7 ho hgr _
      have HR : Hid (LC S n F w (i + 1) v' w7) := HP.out v' w7 _ ho hgr
      clear ho hgr HO HP hs2
      go_wp2
      go_roundw
      case rel => exact ⟨i + 1, by omega, by go_num, HR.out⟩
      case measure => simp [intOf]; omega
    · have hge : ¬ (i : Int) < (n : Int) := by omega
      obtain rfl : i = n := by omega
      have HC0 : Hid (LC S i F w (i + 0) va wr) := hC
      clear hC hr hl hlt
      go_wp2_with fail
      go_loopw [3, 5] (fun va t wr => ∃ k : Nat, k ≤ 5 ∧ t = .int .i64 k ∧ LC S i F w (i + k) va wr) (fun _ t _ => 5 - (intOf t).toNat)
      case atStart => exact ⟨0, Nat.zero_le _, rfl, HC0.out⟩
      case round =>
        clear HC0
        obtain ⟨k, hk, rfl, hC⟩ := hrel
        obtain ⟨va, hva⟩ : ∃ v, v = u3 := ⟨_, rfl⟩
        rw [← hva] at hC ⊢
        clear hva
        by_cases hk5 : k < 5
        · have hlt : (k : Int) < 5 := by omega
          obtain ⟨w2, hw2⟩ : ∃ w2, w2 = wr.alloc (.cells #[.int .u32 (9000 + (k : Int))] 67) := ⟨_, rfl⟩
          have b2 : Below wr.heap.size wr w2 := by rw [hw2]; exact belowA _ _
          have hM : Own S 67 w2 (.slice (some ⟨wr.heap.size, 0, none⟩) 1 1) [9000 + k] := by
            rw [hw2]
            exact ⟨fun x hx => by simp at hx; omega, rfl, .inr ⟨_, 1, _, rfl, hC.size, heap_alloc_new _ _, by simp, by decide, rfl, by simp [U]⟩⟩
          have hC2 := hC.below b2
          obtain ⟨G, hG, hL⟩ := hC2.ex
          have hb2 := hC2.bel
          have hs2 := hC2.size
          have hf : LAt S i F w2 (i + k) ⟨false, none, 0, 0, some ⟨wr.heap.size, 0, none⟩, 1, 1, [], [9000 + k]⟩ := .inr ⟨by omega, rfl, rfl, rfl, rfl, rfl, by rw [show i + k - i = k by omega]; exact hM⟩
          have HP : Hid (∀ v' w' o, w'.ownsRow S 27 3 v' (i + k + 1) (fl3 G (i + k) ++ [.bool false, .slice none 0 0, .slice (some ⟨wr.heap.size, 0, none⟩) 1 1]) → (w2.alloc o).grownBy w' va.ownBlock → LC S i F w (i + k + 1) v' w') := fun v' w' o ho hg => LC.push hG hL hb2 hs2 hf ho hg
          have HO : Hid (w2.ownsRow S 27 3 va (i + k) (fl3 G (i + k))) := hG
          have HS2 : Hid (wr.heap.size + 1 = w2.heap.size) := by show _ = _; rw [hw2]; simp
          have HW2 : Hid (wr.alloc (.cells #[.int .u32 (9000 + (k : Int))] 67) = w2) := hw2.symm
          clear hw2 hC2 hG hL hf hb2 b2 hM hC
          go_wp2_with (at_builtin; rw [HW2.out]; refine wpList_append_own _ rfl _ _ 36 rfl S 27 iR _ 3 56 Tryz.underlying36 hiR hz0 hz1 hz2 rfl (by decide) va (i + k) _ rfl (HO.out.alloc _) ⟨wr.heap.size + 1, 0, none⟩ 1 1 [.bool false, .slice none 0 0, .slice (some ⟨wr.heap.size, 0, none⟩) 1 1] rfl rfl (cell_three_at HS2.out _ _ _ _) (by simp [Value.oneCell']) (by unfold maxLen; omega) (by omega) (Nat.le_trans hs2 (by simp)) ?_)
          intro v' w7 ho hgr _
          have HR : Hid (LC S i F w (i + k + 1) v' w7) := HP.out v' w7 _ ho hgr
          clear ho hgr HO HP hs2 HW2 HS2
          go_wp2
          go_roundw
          case rel => exact ⟨k + 1, by omega, by go_num, HR.out⟩
          case measure => simp [intOf]; omega
        · have hlt : ¬ (k : Int) < 5 := by omega
          obtain rfl : k = 5 := by omega
          obtain ⟨G, hG, hL⟩ := hC.ex
          obtain ⟨g, cap, hva⟩ := Joins.ownsRow_form hG (by omega)
          subst hva
          have hcap : i + 5 ≤ cap ∧ cap ≤ maxLen := by
            rcases hG.2 with ⟨h, _⟩ | ⟨g', cap', cur, h, _, _, h1, h2, _⟩
            · cases h
            · cases h; exact ⟨h1, h2⟩
          have HE : Hid (LentAll S i F wr (.slice (some ⟨g, 0, none⟩) i cap) ∧ Below S w wr) := ⟨⟨g, cap, G, rfl, hcap.1, hcap.2, hG, hL⟩, hC.bel⟩
          obtain ⟨hc1, hc2⟩ := hcap
          have hc3 : cap ≤ 9223372036854775807 := hc2
          clear hC hG hL hc2
          go_wp2
          go_ret
          exact ⟨_, rfl, HE.out⟩
end Go.Proofs.YtnehfkbpbgmbaaaGreatDoor

namespace Go.Proofs.YtnehfkbpbgmbaaaGreatDoor
open Go.RowKit

set_option maxRecDepth 100000 in
set_option maxHeartbeats 6400000 in
theorem keptAll3 (S n capl : Nat) (lo : Option Addr) (F : Nat → FV) (v : Value) (w : World) (hL : LentAll S n F w v) (hr : FRow w lo n F) (hn : n ≤ 1000000) (hl : ∀ i, i < n → (F i).xs.length ≤ 1000 ∧ (F i).ys.length ≤ 1000) :
    Calls Tryz.prog 36 #[v, .slice lo n capl] w fun e w' => e = .returned (.bool true) ∧ Below w.heap.size w w' := by
  obtain ⟨g, cap, G, rfl, h1, h2, hG, hA⟩ := hL.ex
  have HR : Hid (FRow w lo n F) := hr
  have HL : Hid (∀ i, i < n → (F i).xs.length ≤ 1000 ∧ (F i).ys.length ≤ 1000) := hl
  have HA : Hid (∀ j, j < n + 5 → LAt S n F w j (G j)) := hA
  have HG : Hid (∀ i, i < n + 5 → w.cell? ⟨g, i * 3, none⟩ = some (.bool (G i).n) ∧ w.cell? ⟨g, i * 3 + 1, none⟩ = some (.slice (G i).ao (G i).al (G i).ac) ∧ w.cell? ⟨g, i * 3 + 2, none⟩ = some (.slice (G i).bo (G i).bl (G i).bc)) := by
    intro i hi
    have c : ∀ j u, j < 3 → (G i).cells[j]? = some u → w.cell? ⟨g, i * 3 + j, none⟩ = some u := fun j u hj hu => by
      rw [World.ownsRow.cellAt hG (i * 3 + j) (by omega), fl3_at G (n + 5) i j hi hj, hu]
    exact ⟨c 0 _ (by decide) rfl, c 1 _ (by decide) rfl, c 2 _ (by decide) rfl⟩
  have h3 : cap ≤ 9223372036854775807 := h2
  have hlt0 : ¬ (cap : Int) < (n : Int) + 5 := by omega
  clear hL hr hl hA hG h2
  go_enter Tryz.func36, Tryz.ntmps36
  go_wp2_with fail
  go_loopw [6] (fun t wr => ∃ i : Nat, i ≤ n + 5 ∧ t = .int .i64 i ∧ Below w.heap.size w wr) (fun t _ => n + 5 - (intOf t).toNat)
  case atStart => exact ⟨0, Nat.zero_le _, rfl, Below.refl _ _⟩
  case round =>
    obtain ⟨i, hin, rfl, hb⟩ := hrel
    by_cases hlt : i < n + 5
    · have hge : (i : Int) < (n : Int) + 5 := by omega
      have hge2 : (i : Int) < ((n + 5 : Nat) : Int) := by omega
      obtain ⟨j0, j1, j2⟩ := HG.out i hlt
      replace j0 := keepB hb j0
      replace j1 := keepB hb j1
      replace j2 := keepB hb j2
      have hA := (HA.out i hlt).below hb
      by_cases hin2 : i < n
      · have hlt2 : (i : Int) < (n : Int) := by omega
        rcases hA with ⟨_, hnn, ra, rb⟩ | ⟨h9, _⟩
        · obtain ⟨⟨b0, off, rfl, k0, k1, k2⟩, hF⟩ := (HR.out.below hb) i hin2
          obtain ⟨l1, l2⟩ := HL.out i hin2
          rw [hnn] at j0
          clear hnn
          generalize F i = f at *
          obtain ⟨na, bo, bl, bc, bO, bL, bC, xb, yb⟩ := f
          generalize G i = gg at *
          obtain ⟨_, ao, al, ac, aO, aL, aC, _, _⟩ := gg
          obtain ⟨ub, vb⟩ := hF
          simp only at j0 j1 j2 k0 k1 k2 ra rb ub vb l1 l2
          have HLX : Hid (xb.length ≤ 1099511627776) := Nat.le_trans l1 (by decide)
          have HLY : Hid (yb.length ≤ 1099511627776) := Nat.le_trans l2 (by decide)
          clear l1 l2
          have KEEP : ∀ u, Below wr.heap.size wr u → AllL u [(3, fun w' => w'.cell? ⟨g, i * 3, none⟩ = some (.bool na) ∧ w'.cell? ⟨g, i * 3 + 1, none⟩ = some (.slice ao al ac) ∧ w'.cell? ⟨g, i * 3 + 2, none⟩ = some (.slice aO aL aC)), (7, fun w' => w'.cell? ⟨b0, off + i * 3, none⟩ = some (.bool na) ∧ w'.cell? ⟨b0, off + i * 3 + 1, none⟩ = some (.slice bo bl bc) ∧ w'.cell? ⟨b0, off + i * 3 + 2, none⟩ = some (.slice bO bL bC))] := fun u B => ⟨⟨keepB B j0, keepB B j1, keepB B j2⟩, ⟨keepB B k0, keepB B k1, keepB B k2⟩, trivial⟩
          go_wp2_with fail
          refine region_late [(3, fun w' => w'.cell? ⟨g, i * 3, none⟩ = some (.bool na) ∧ w'.cell? ⟨g, i * 3 + 1, none⟩ = some (.slice ao al ac) ∧ w'.cell? ⟨g, i * 3 + 2, none⟩ = some (.slice aO aL aC)), (7, fun w' => w'.cell? ⟨b0, off + i * 3, none⟩ = some (.bool na) ∧ w'.cell? ⟨b0, off + i * 3 + 1, none⟩ = some (.slice bo bl bc) ∧ w'.cell? ⟨b0, off + i * 3 + 2, none⟩ = some (.slice bO bL bC))] (by kernel_rfl) ?_
          have BZ : Below wr.heap.size wr wr.drew := below_drew' _
          obtain ⟨wz, hwz⟩ : ∃ u, u = wr.drew := ⟨_, rfl⟩
          rw [← hwz] at BZ ⊢
          clear hwz
          have hHeld := KEEP _ BZ
          refine late_free 0 (v := .slice (some ⟨g, 0, none⟩) (n + 5) cap) rfl (by kernel_rfl) (by kernel_rfl) (by kernel_rfl) (by kernel_rfl) (by kernel_rfl) (by kernel_rfl) (fun _ _ _ h => h) (Or.inl ⟨by rfl, ?_⟩) hHeld ?_
          · (intro u _; go_simp)
          (try simp only [Act.put, List.setIfInBounds_toArray, List.set_cons_zero, List.set_cons_succ])
          refine late_free 1 (v := .int .i64 (i : Int)) rfl (by kernel_rfl) (by kernel_rfl) (by kernel_rfl) (by kernel_rfl) (by kernel_rfl) (by kernel_rfl) (fun _ _ _ h => h) (Or.inl ⟨by rfl, ?_⟩) hHeld ?_
          · (intro u _; go_simp)
          (try simp only [Act.put, List.setIfInBounds_toArray, List.set_cons_zero, List.set_cons_succ])
          refine late_free 2 (v := .pointer (some ⟨g, i * 3, none⟩)) rfl (by kernel_rfl) (by kernel_rfl) (by kernel_rfl) (by kernel_rfl) (by kernel_rfl) (by kernel_rfl) (fun _ _ _ h => h) (Or.inl ⟨by rfl, ?_⟩) hHeld ?_
          · (intro u _; go_simp)
          (try simp only [Act.put, List.setIfInBounds_toArray, List.set_cons_zero, List.set_cons_succ])
          refine late_take 3 (v := .agg #[.bool na, .slice ao al ac, .slice aO aL aC]) rfl (by kernel_rfl) (List.Mem.head _) (by kernel_rfl) (by kernel_rfl) (by kernel_rfl) (by kernel_rfl) (fun _ _ _ h => h) (Or.inl ⟨by rfl, ?_⟩) hHeld ?_
          · (intro u hu; (try dsimp only at hu); go_split_ands; go_simp)
          (try simp only [Act.put, List.setIfInBounds_toArray, List.set_cons_zero, List.set_cons_succ])
          refine late_free 4 (v := .slice (some ⟨b0, off, none⟩) n capl) rfl (by kernel_rfl) (by kernel_rfl) (by kernel_rfl) (by kernel_rfl) (by kernel_rfl) (by kernel_rfl) (fun _ _ _ h => h) (Or.inl ⟨by rfl, ?_⟩) hHeld ?_
          · (intro u _; go_simp)
          (try simp only [Act.put, List.setIfInBounds_toArray, List.set_cons_zero, List.set_cons_succ])
          refine late_free 5 (v := .int .i64 (i : Int)) rfl (by kernel_rfl) (by kernel_rfl) (by kernel_rfl) (by kernel_rfl) (by kernel_rfl) (by kernel_rfl) (fun _ _ _ h => h) (Or.inl ⟨by rfl, ?_⟩) hHeld ?_
          · (intro u _; go_simp)
          (try simp only [Act.put, List.setIfInBounds_toArray, List.set_cons_zero, List.set_cons_succ])
          refine late_free 6 (v := .pointer (some ⟨b0, off + i * 3, none⟩)) rfl (by kernel_rfl) (by kernel_rfl) (by kernel_rfl) (by kernel_rfl) (by kernel_rfl) (by kernel_rfl) (fun _ _ _ h => h) (Or.inl ⟨by rfl, ?_⟩) hHeld ?_
          · (intro u _; go_simp)
          (try simp only [Act.put, List.setIfInBounds_toArray, List.set_cons_zero, List.set_cons_succ])
          refine late_take 7 (v := .agg #[.bool na, .slice bo bl bc, .slice bO bL bC]) rfl (by kernel_rfl) (List.Mem.tail _ (List.Mem.head _)) (by kernel_rfl) (by kernel_rfl) (by kernel_rfl) (by kernel_rfl) (fun _ _ _ h => h) (Or.inl ⟨by rfl, ?_⟩) hHeld ?_
          · (intro u hu; (try dsimp only at hu); go_split_ands; go_simp)
          (try simp only [Act.put, List.setIfInBounds_toArray, List.set_cons_zero, List.set_cons_succ])
          refine late_step 8 (by kernel_rfl) rfl (fun K hK => ?_)
          go_simp
          have hq := kept3 S na ao bo aO bO al ac bl bc aL aC bL bC xb yb wz (ra.below BZ) (rb.below BZ) (ub.below (Nat.le_refl _) BZ) (vb.below (Nat.le_refl _) BZ) HLX.out HLY.out
          refine hq.mono ?_
          rintro e w9 ⟨rfl, b9⟩
          clear hq
          have B9 : Below wr.heap.size wr w9 := bstep BZ b9
          replace hHeld := KEEP _ B9
          clear KEEP
          go_wp2_with fail
          refine hK.out _ _ (AllL.kept hHeld) ?_
          clear hK K
          (try simp only [Act.put, List.setIfInBounds_toArray, List.set_cons_zero, List.set_cons_succ])
          refine late_step 9 (by kernel_rfl) rfl (fun K hK => ?_)
          go_simp
          refine hK.out _ _ ⟨Or.inl ⟨8, by kernel_rfl, by kernel_rfl⟩, Or.inl ⟨8, by kernel_rfl, by kernel_rfl⟩, trivial⟩ ?_
          clear hK K
          (try simp only [Act.put, List.setIfInBounds_toArray, List.set_cons_zero, List.set_cons_succ])
          refine late_done (by kernel_rfl) ?_ _
          clear hHeld
          replace hb := bstep hb B9
          have HB : Hid (Below w.heap.size w w9) := hb
          clear hb B9 BZ b9 j0 j1 j2 k0 k1 k2 ra rb ub vb
          go_wp2
          go_roundw
          case rel => exact ⟨i + 1, by omega, by go_num, HB.out⟩
          case measure => simp [intOf]; omega
        · omega
      · have hlt2 : ¬ (i : Int) < (n : Int) := by omega
        rcases hA with ⟨h9, _⟩ | ⟨h9, hnn, ho1, ho2, ho3, ho4, hM⟩
        · omega
        · generalize G i = gg at *
          obtain ⟨_, ao, al, ac, aO, aL, aC, _, _⟩ := gg
          simp only at j0 j1 j2 hnn ho1 ho2 ho3 ho4 hM
          subst hnn ho1 ho2 ho3 ho4
          obtain ⟨z1, ao1, cap1, e1, hc1, hm1, z2, hcell⟩ := hM.num.open_
          obtain ⟨b1, off1, rfl, hc0⟩ := hcell 0 (by simp)
          simp only [Value.slice.injEq] at e1
          obtain ⟨rfl, z3, rfl⟩ := e1
          clear z1 z2 z3
          obtain ⟨M, hMM⟩ : ∃ M : Int, M = 9000 + (i : Int) - (n : Int) := ⟨_, rfl⟩
          have hM0 : wr.cell? ⟨b1, off1, none⟩ = some (.int .u32 M) := by
            have := hc0
            simp only [Nat.add_zero, List.getD_cons_zero] at this
            rw [this, hMM]
            congr 2
            omega
          have e0 : (M != 9000 + (i : Int) - (n : Int)) = false := by rw [hMM]; simp
          have hcap1 : aC ≤ 9223372036854775807 := hm1
          have hcap2 : 1 ≤ aC := hc1
          have HB : Hid (Below w.heap.size w wr) := hb
          clear hMM hM hcell hc0 hb hc1 hm1 h9 hin2
          go_wp2
          go_roundw
          case rel => exact ⟨i + 1, by omega, by go_num, HB.out⟩
          case measure => simp [intOf]; omega
    · have hge : ¬ (i : Int) < (n : Int) + 5 := by omega
      have hge2 : ¬ (i : Int) < ((n + 5 : Nat) : Int) := by omega
      have HB : Hid (Below w.heap.size w wr) := hb
      clear hb
      go_wp2
      go_ret
      exact ⟨rfl, HB.out⟩
end Go.Proofs.YtnehfkbpbgmbaaaGreatDoor

/-
  Proved here: what the document's own functions of floats answer: Long, Short, Value, Scaled.
-/
import Derived.Test.YtjfihcnjhjgdpaaPushAll
import Derived.Test.YtjfihcnjhjgdpaaNearO
import Derived.Test.YtjfihcnjhjgdpaaRefOfAll
namespace Go.Proofs.Ytjfihcnjhjgdpaa
open Go.RowKit

/-- The three cells of the document's kind. -/
def LCell (w : World) (g : Nat) (a b c : Value) : Prop := w.heap[g]? = some (.cells #[a, b, c] 53 (0, 0))
theorem LCell.cells {w : World} {g : Nat} {a b c : Value} (h : LCell w g a b c) : w.cell? ⟨g, 0, none⟩ = some a ∧ w.cell? ⟨g, 1, none⟩ = some b ∧ w.cell? ⟨g, 2, none⟩ = some c := by
  simp only [World.cell?, LCell] at h ⊢
  rw [h]
  simp
theorem LCell.below {w w' : World} {g : Nat} {a b c : Value} (h : LCell w g a b c) (hb : Below w.heap.size w w') : LCell w' g a b c := by
  unfold LCell; rw [hb.block _ (Array.getElem?_eq_some_iff.1 h).1]; exact h
theorem lcell_new (w : World) {a b c : Value} {k : Nat} (hk : w.heap.size = k) : LCell (w.alloc (.cells #[a, b, c] 53)) k a b c := by subst hk; exact heap_alloc_new w _

set_option maxRecDepth 100000 in
set_option maxHeartbeats 1600000 in
theorem kindRD (w : World) :
    Calls Try.prog 22 #[] w fun e w' => e = .returned (.agg #[.int .i64 52, .int .u64 9218868437227405312, .int .i64 (-1074)]) ∧ Below w.heap.size w w' := by
  have HW : Hid (LCell (w.alloc (.cells #[.int .i64 52, .int .u64 9218868437227405312, .int .i64 (-1074)] 53)) w.heap.size (.int .i64 52) (.int .u64 9218868437227405312) (.int .i64 (-1074))) := lcell_new _ rfl
  go_enter Try.func22, Try.ntmps22
  go_wp2
  exact bodyPost_ret (results_cell_row rfl _ _ w.heap.size 53 _ (0, 0) _ rfl HW.out Try.underlying53 rfl (by kernel_rfl)) rfl ⟨rfl, belowA _ _⟩

set_option maxRecDepth 100000 in
set_option maxHeartbeats 1600000 in
theorem valRD (b : Nat) (w : World) (hb : b ≤ 9218868437227405313) :
    Calls Try.prog 25 #[.agg #[.int .i64 52, .int .u64 9218868437227405312, .int .i64 (-1074)], .int .u64 (b : Int)] w fun e w' => Made' w.heap.size w (lim (fval 52 b)) e w' := by
  obtain ⟨q, hq⟩ : ∃ q, q = b / 4503599627370496 := ⟨_, rfl⟩
  obtain ⟨m, hm⟩ : ∃ m, m = b % 4503599627370496 := ⟨_, rfl⟩
  have e1 : (b : Int) / 4503599627370496 = (q : Int) := by omega
  have e2 : (b : Int).tdiv 4503599627370496 = (q : Int) := by rw [Int.tdiv_eq_ediv_of_nonneg (by omega)]; exact e1
  have e3 : (b : Int) % 4503599627370496 = (m : Int) := by omega
  have e4 : (b : Int).tmod 4503599627370496 = (m : Int) := by rw [Int.tmod_eq_emod_of_nonneg (by omega)]; exact e3
  have hq1 : q ≤ 4000 := by omega
  have hm1 : m < 4503599627370496 := by omega
  have HV : Hid (fval 52 b = if q = 0 then m else (m + 4503599627370496) * 2 ^ (q - 1)) := by show _ = _; rw [hq, hm]; rfl
  obtain ⟨W1, hW1⟩ : ∃ W1, W1 = w.alloc (.cells #[.int .i64 52, .int .u64 9218868437227405312, .int .i64 (-1074)] 53) := ⟨_, rfl⟩
  have hb1 : Below w.heap.size w W1 := by rw [hW1]; exact belowA w _
  have HW1 : Hid (W1 = w.alloc (.cells #[.int .i64 52, .int .u64 9218868437227405312, .int .i64 (-1074)] 53)) := hW1
  clear hq hm hW1
  by_cases h0 : q = 0
  · have HF : Hid (fval 52 b = m) := by show _ = _; rw [HV.out, if_pos h0]
    subst h0
    rw [HF.out]
    clear HV HF
    go_enter Try.func25, Try.ntmps25
    go_wp2_with fail
    rw [← HW1.out]
    refine (of_ref m _ (by omega)).mono ?_
    rintro e w2 ⟨v, rfl, ho, b2⟩
    obtain ⟨vo, vl, vc, rfl⟩ := ho.sl
    have HE : Hid (Made' w.heap.size w (lim m) (.returned (.slice vo vl vc)) w2) := ⟨_, rfl, ho.mono hb1.size, bstep hb1 b2⟩
    clear ho b2 hb1 HW1
    go_wp2
    go_ret
    exact HE.out
  · have h0' : ((q : Int) == 0) = false := by simp; omega
    obtain ⟨s, rfl⟩ : ∃ s, q = s + 1 := ⟨q - 1, by omega⟩
    have HF : Hid (fval 52 b = (m + 4503599627370496) * 2 ^ s) := by show _ = _; rw [HV.out, if_neg h0, show s + 1 - 1 = s by omega]
    have e5 : ((s + 1 : Nat) : Int) - 1 = (s : Int) := by omega
    rw [HF.out]
    clear HV HF h0
    go_enter Try.func25, Try.ntmps25
    go_wp2_with fail
    rw [← HW1.out]
    refine (of_ref (m + 4503599627370496) _ (by omega)).mono ?_
    rintro e w2 ⟨v, rfl, ho, b2⟩
    obtain ⟨vo, vl, vc, rfl⟩ := ho.sl
    replace hb1 := bstep hb1 b2
    have hsh := shift_ref _ _ (s : Int) w2 ho.num (Nat.le_trans (lim_len_le (k := 2) (show m + 4503599627370496 < 4294967296 ^ 2 by omega)) (by decide)) (by omega) (by omega)
    rw [val_lim, show shl (m + 4503599627370496) (s : Int) = (m + 4503599627370496) * 2 ^ s by unfold shl; rw [if_pos (by omega), Int.toNat_natCast]] at hsh
    clear ho b2 HW1
    go_wp2_with fail
    refine hsh.mono ?_
    rintro e w3 ⟨v, rfl, ho, b3⟩
    obtain ⟨zo, zl, zc, rfl⟩ := ho.sl
    have HE : Hid (Made' w.heap.size w (lim ((m + 4503599627370496) * 2 ^ s)) (.returned (.slice zo zl zc)) w3) := ⟨_, rfl, ho.mono hb1.size, bstep hb1 b3⟩
    clear ho b3 hb1 hsh
    go_wp2
    go_ret
    exact HE.out

set_option maxRecDepth 100000 in
set_option maxHeartbeats 3200000 in
theorem scaledRD (z : Int) (hz : z = (-1074)) (na : Bool) (po qo : Option Addr) (pl pc ql qc : Nat) (xs ys : List Nat) (w : World) (hu : Num w (.slice po pl pc) xs) (hv : Num w (.slice qo ql qc) ys) (lx : xs.length ≤ 1000) (ly : ys.length ≤ 1000) :
    Calls Try.prog 65 #[.agg #[.int .i64 52, .int .u64 9218868437227405312, .int .i64 (-1074)], .agg #[.bool na, .slice po pl pc, .slice qo ql qc]] w fun e w' => ∃ n d, e = .returned (.tuple #[n, d]) ∧ Num w' n (lim (val xs * 2 ^ (-z).toNat)) ∧ Num w' d (lim (undN (val ys))) ∧ Below w.heap.size w w' := by
  obtain ⟨W1, hW1⟩ : ∃ W1, W1 = (w.alloc (.cells #[.int .i64 52, .int .u64 9218868437227405312, .int .i64 (-1074)] 53)).alloc (.cells #[.bool na, .slice po pl pc, .slice qo ql qc] 29) := ⟨_, rfl⟩
  have hk : LCell W1 w.heap.size (.int .i64 52) (.int .u64 9218868437227405312) (.int .i64 (-1074)) := by rw [hW1]; exact (lcell_new _ rfl).below (belowA _ _)
  have hr : TCell W1 (w.heap.size + 1) (.bool na) (.slice po pl pc) (.slice qo ql qc) := by rw [hW1]; exact tcell_new _ (by simp)
  have hb1 : Below w.heap.size w W1 := by rw [hW1]; exact bstep (belowA w _) (belowA _ _)
  have HW1 : Hid (W1 = (w.alloc (.cells #[.int .i64 52, .int .u64 9218868437227405312, .int .i64 (-1074)] 53)).alloc (.cells #[.bool na, .slice po pl pc, .slice qo ql qc] 29)) := hW1
  have r2 : ((w.alloc (.cells #[.int .i64 52, .int .u64 9218868437227405312, .int .i64 (-1074)] 53)).alloc (.cells #[.bool na, .slice po pl pc, .slice qo ql qc] 29)).cell? ⟨w.heap.size + 1, 2, none⟩ = some (.slice qo ql qc) := by rw [← hW1]; exact hr.cells.2.2
  replace hu := hu.below (Nat.le_refl _) hb1
  replace hv := hv.below (Nat.le_refl _) hb1
  have HSH : Hid (shl (val xs) 1074 = val xs * 2 ^ (-z).toNat) := by
    show _ = _
    unfold shl
    rw [if_pos (by decide)]
    exact congrArg (fun k : Nat => val xs * 2 ^ k) (by rw [hz]; rfl)
  clear hz
  obtain ⟨Y, hY⟩ : ∃ Y, val ys = Y := ⟨_, rfl⟩
  have hno := norm_ref _ ys W1 hv (by omega)
  rw [hY] at hno ⊢
  have hlY : (lim Y).length ≤ 1000 := by rw [← hY]; exact Nat.le_trans (lim_len_le (val_lt hv.1)) ly
  clear hW1 hv hY
  go_enter Try.func65, Try.ntmps65
  go_wp2_with fail
  rw [← HW1.out]
  obtain ⟨g, hg⟩ : ∃ g, g = w.heap.size := ⟨_, rfl⟩
  rw [← hg] at hk hr ⊢
  refine hno.mono ?_
  rintro e w2 ⟨dv, rfl, od, b⟩
  replace hu := hu.below (Nat.le_refl _) b
  replace hk := hk.below b
  replace hr := hr.below b
  replace hb1 := bstep hb1 b
  clear b hno r2 HW1 hg
  obtain ⟨do_, dc, rfl, _, _⟩ := od.num.ao
  by_cases hY0 : Y = 0
  · subst hY0
    rw [show (lim 0).length = 0 from rfl]
    obtain ⟨W2, hW2⟩ : ∃ W, W = w2.alloc (.cells #[.int .u32 1] 39) := ⟨_, rfl⟩
    have n1 : Num W2 (.slice (some ⟨w2.heap.size, 0, none⟩) 1 1) (lim (undN 0)) := by rw [hW2]; exact (Own.lit (B := 0) 39 w2 #[.int .u32 1] [1] (by intro x hx; simp at hx; omega) (Nat.zero_le _) (by simp [maxLen]) (by simp [U])).num
    have b : Below w2.heap.size w2 W2 := by rw [hW2]; exact belowA _ _
    have HW2 : Hid (w2.alloc (.cells #[.int .u32 1] 39) = W2) := hW2.symm
    replace hu := hu.below (Nat.le_refl _) b
    replace hk := hk.below b
    replace hr := hr.below b
    replace hb1 := bstep hb1 b
    clear b hW2 od
    go_wp2_with fail
    rw [HW2.out]
    obtain ⟨dn, hdn⟩ : ∃ z, z = w2.heap.size := ⟨_, rfl⟩
    rw [← hdn] at n1 ⊢
    clear HW2 hdn
    obtain ⟨k0, k1, k2⟩ := hk.cells
    obtain ⟨c0, c1, c2⟩ := hr.cells
    clear hk hr
    go_region_held3 (fun w' => w'.cell? ⟨g, 2, none⟩ = some (.int .i64 (-1074)) ∧ w'.cell? ⟨g + 1, 1, none⟩ = some (.slice po pl pc)) (((try dsimp only); go_split_ands; refine ⟨?_, ?_⟩ <;> first | exact keepB1 (by with_reducible assumption) (by with_reducible assumption) | go_keep)) (first
      | (go_at_call 54; refine (norm_ref _ xs _ (hu.same (w' := W2.drew) rfl) (by omega)).mono ?_; rintro e w4 ⟨nv, rfl, on, hb4⟩; obtain ⟨no, nl, nc, rfl⟩ := on.sl)
      | (go_at_call 56; refine (shift_ref _ _ 1074 _ on.num (Nat.le_trans (lim_len_le (val_lt hu.1)) lx) (by decide) (by decide)).mono ?_; rintro e w5 ⟨sv, rfl, os, hb5⟩; obtain ⟨so, sl, sc, rfl⟩ := os.sl))
    all_goals
      rw [val_lim, HSH.out] at os
      have b0 : Below W2.heap.size W2 w5 := bstep (bstep (Below.refl _ _).drew hb4) hb5
      have HE : Hid (∃ n d, (.returned (.tuple #[.slice so sl sc, .slice (some ⟨dn, 0, none⟩) 1 1]) : Ending) = .returned (.tuple #[n, d]) ∧ Num w5 n (lim (val xs * 2 ^ (-z).toNat)) ∧ Num w5 d (lim (undN 0)) ∧ Below w.heap.size w w5) := ⟨_, _, rfl, os.num, n1.below (Nat.le_refl _) b0, bstep hb1 b0⟩
      clear hb4 hb5 b0 os on hu n1 hb1 k0 k1 k2 c0 c1 c2
      go_wp2_with fail
      go_ret2
      exact HE.out
  · have nd := od.num
    rw [show lim Y = lim (undN Y) by unfold undN; rw [if_neg hY0]] at nd
    obtain ⟨yl, hyl⟩ : ∃ z, z = (lim Y).length := ⟨_, rfl⟩
    have hyl0 : ((yl : Int) == 0) = false := by
      have : yl ≠ 0 := by intro h; apply hY0; exact lim_len_zero (by rw [← hyl]; exact h)
      simp; omega
    obtain ⟨W2, hW2⟩ : ∃ W, W = w2 := ⟨_, rfl⟩
    rw [show (lim (undN Y)).length = yl by rw [hyl]; unfold undN; rw [if_neg hY0]] at nd
    rw [← hyl]
    subst hW2
    clear hyl od hlY hY0
    go_wp2_with fail
    obtain ⟨k0, k1, k2⟩ := hk.cells
    obtain ⟨c0, c1, c2⟩ := hr.cells
    clear hk hr
    go_region_held3 (fun w' => w'.cell? ⟨g, 2, none⟩ = some (.int .i64 (-1074)) ∧ w'.cell? ⟨g + 1, 1, none⟩ = some (.slice po pl pc)) (((try dsimp only); go_split_ands; refine ⟨?_, ?_⟩ <;> first | exact keepB1 (by with_reducible assumption) (by with_reducible assumption) | go_keep)) (first
      | (go_at_call 54; refine (norm_ref _ xs _ (hu.same (w' := W2.drew) rfl) (by omega)).mono ?_; rintro e w4 ⟨nv, rfl, on, hb4⟩; obtain ⟨no, nl, nc, rfl⟩ := on.sl)
      | (go_at_call 56; refine (shift_ref _ _ 1074 _ on.num (Nat.le_trans (lim_len_le (val_lt hu.1)) lx) (by decide) (by decide)).mono ?_; rintro e w5 ⟨sv, rfl, os, hb5⟩; obtain ⟨so, sl, sc, rfl⟩ := os.sl))
    all_goals
      rw [val_lim, HSH.out] at os
      have b0 : Below W2.heap.size W2 w5 := bstep (bstep (Below.refl _ _).drew hb4) hb5
      have HE : Hid (∃ n d, (.returned (.tuple #[.slice so sl sc, .slice do_ yl dc]) : Ending) = .returned (.tuple #[n, d]) ∧ Num w5 n (lim (val xs * 2 ^ (-z).toNat)) ∧ Num w5 d (lim (undN Y)) ∧ Below w.heap.size w w5) := ⟨_, _, rfl, os.num, nd.below (Nat.le_refl _) b0, bstep hb1 b0⟩
      clear hb4 hb5 b0 os on hu nd hb1 k0 k1 k2 c0 c1 c2
      go_wp2_with fail
      go_ret2
      exact HE.out

set_option maxRecDepth 100000 in
set_option maxHeartbeats 1600000 in
theorem kindRS (w : World) :
    Calls Try.prog 51 #[] w fun e w' => e = .returned (.agg #[.int .i64 23, .int .u64 2139095040, .int .i64 (-149)]) ∧ Below w.heap.size w w' := by
  have HW : Hid (LCell (w.alloc (.cells #[.int .i64 23, .int .u64 2139095040, .int .i64 (-149)] 53)) w.heap.size (.int .i64 23) (.int .u64 2139095040) (.int .i64 (-149))) := lcell_new _ rfl
  go_enter Try.func51, Try.ntmps51
  go_wp2
  exact bodyPost_ret (results_cell_row rfl _ _ w.heap.size 53 _ (0, 0) _ rfl HW.out Try.underlying53 rfl (by kernel_rfl)) rfl ⟨rfl, belowA _ _⟩

set_option maxRecDepth 100000 in
set_option maxHeartbeats 1600000 in
theorem valRS (b : Nat) (w : World) (hb : b ≤ 2139095041) :
    Calls Try.prog 25 #[.agg #[.int .i64 23, .int .u64 2139095040, .int .i64 (-149)], .int .u64 (b : Int)] w fun e w' => Made' w.heap.size w (lim (fval 23 b)) e w' := by
  obtain ⟨q, hq⟩ : ∃ q, q = b / 8388608 := ⟨_, rfl⟩
  obtain ⟨m, hm⟩ : ∃ m, m = b % 8388608 := ⟨_, rfl⟩
  have e1 : (b : Int) / 8388608 = (q : Int) := by omega
  have e2 : (b : Int).tdiv 8388608 = (q : Int) := by rw [Int.tdiv_eq_ediv_of_nonneg (by omega)]; exact e1
  have e3 : (b : Int) % 8388608 = (m : Int) := by omega
  have e4 : (b : Int).tmod 8388608 = (m : Int) := by rw [Int.tmod_eq_emod_of_nonneg (by omega)]; exact e3
  have hq1 : q ≤ 4000 := by omega
  have hm1 : m < 8388608 := by omega
  have HV : Hid (fval 23 b = if q = 0 then m else (m + 8388608) * 2 ^ (q - 1)) := by show _ = _; rw [hq, hm]; rfl
  obtain ⟨W1, hW1⟩ : ∃ W1, W1 = w.alloc (.cells #[.int .i64 23, .int .u64 2139095040, .int .i64 (-149)] 53) := ⟨_, rfl⟩
  have hb1 : Below w.heap.size w W1 := by rw [hW1]; exact belowA w _
  have HW1 : Hid (W1 = w.alloc (.cells #[.int .i64 23, .int .u64 2139095040, .int .i64 (-149)] 53)) := hW1
  clear hq hm hW1
  by_cases h0 : q = 0
  · have HF : Hid (fval 23 b = m) := by show _ = _; rw [HV.out, if_pos h0]
    subst h0
    rw [HF.out]
    clear HV HF
    go_enter Try.func25, Try.ntmps25
    go_wp2_with fail
    rw [← HW1.out]
    refine (of_ref m _ (by omega)).mono ?_
    rintro e w2 ⟨v, rfl, ho, b2⟩
    obtain ⟨vo, vl, vc, rfl⟩ := ho.sl
    have HE : Hid (Made' w.heap.size w (lim m) (.returned (.slice vo vl vc)) w2) := ⟨_, rfl, ho.mono hb1.size, bstep hb1 b2⟩
    clear ho b2 hb1 HW1
    go_wp2
    go_ret
    exact HE.out
  · have h0' : ((q : Int) == 0) = false := by simp; omega
    obtain ⟨s, rfl⟩ : ∃ s, q = s + 1 := ⟨q - 1, by omega⟩
    have HF : Hid (fval 23 b = (m + 8388608) * 2 ^ s) := by show _ = _; rw [HV.out, if_neg h0, show s + 1 - 1 = s by omega]
    have e5 : ((s + 1 : Nat) : Int) - 1 = (s : Int) := by omega
    rw [HF.out]
    clear HV HF h0
    go_enter Try.func25, Try.ntmps25
    go_wp2_with fail
    rw [← HW1.out]
    refine (of_ref (m + 8388608) _ (by omega)).mono ?_
    rintro e w2 ⟨v, rfl, ho, b2⟩
    obtain ⟨vo, vl, vc, rfl⟩ := ho.sl
    replace hb1 := bstep hb1 b2
    have hsh := shift_ref _ _ (s : Int) w2 ho.num (Nat.le_trans (lim_len_le (k := 2) (show m + 8388608 < 4294967296 ^ 2 by omega)) (by decide)) (by omega) (by omega)
    rw [val_lim, show shl (m + 8388608) (s : Int) = (m + 8388608) * 2 ^ s by unfold shl; rw [if_pos (by omega), Int.toNat_natCast]] at hsh
    clear ho b2 HW1
    go_wp2_with fail
    refine hsh.mono ?_
    rintro e w3 ⟨v, rfl, ho, b3⟩
    obtain ⟨zo, zl, zc, rfl⟩ := ho.sl
    have HE : Hid (Made' w.heap.size w (lim ((m + 8388608) * 2 ^ s)) (.returned (.slice zo zl zc)) w3) := ⟨_, rfl, ho.mono hb1.size, bstep hb1 b3⟩
    clear ho b3 hb1 hsh
    go_wp2
    go_ret
    exact HE.out

set_option maxRecDepth 100000 in
set_option maxHeartbeats 3200000 in
theorem scaledRS (z : Int) (hz : z = (-149)) (na : Bool) (po qo : Option Addr) (pl pc ql qc : Nat) (xs ys : List Nat) (w : World) (hu : Num w (.slice po pl pc) xs) (hv : Num w (.slice qo ql qc) ys) (lx : xs.length ≤ 1000) (ly : ys.length ≤ 1000) :
    Calls Try.prog 65 #[.agg #[.int .i64 23, .int .u64 2139095040, .int .i64 (-149)], .agg #[.bool na, .slice po pl pc, .slice qo ql qc]] w fun e w' => ∃ n d, e = .returned (.tuple #[n, d]) ∧ Num w' n (lim (val xs * 2 ^ (-z).toNat)) ∧ Num w' d (lim (undN (val ys))) ∧ Below w.heap.size w w' := by
  obtain ⟨W1, hW1⟩ : ∃ W1, W1 = (w.alloc (.cells #[.int .i64 23, .int .u64 2139095040, .int .i64 (-149)] 53)).alloc (.cells #[.bool na, .slice po pl pc, .slice qo ql qc] 29) := ⟨_, rfl⟩
  have hk : LCell W1 w.heap.size (.int .i64 23) (.int .u64 2139095040) (.int .i64 (-149)) := by rw [hW1]; exact (lcell_new _ rfl).below (belowA _ _)
  have hr : TCell W1 (w.heap.size + 1) (.bool na) (.slice po pl pc) (.slice qo ql qc) := by rw [hW1]; exact tcell_new _ (by simp)
  have hb1 : Below w.heap.size w W1 := by rw [hW1]; exact bstep (belowA w _) (belowA _ _)
  have HW1 : Hid (W1 = (w.alloc (.cells #[.int .i64 23, .int .u64 2139095040, .int .i64 (-149)] 53)).alloc (.cells #[.bool na, .slice po pl pc, .slice qo ql qc] 29)) := hW1
  have r2 : ((w.alloc (.cells #[.int .i64 23, .int .u64 2139095040, .int .i64 (-149)] 53)).alloc (.cells #[.bool na, .slice po pl pc, .slice qo ql qc] 29)).cell? ⟨w.heap.size + 1, 2, none⟩ = some (.slice qo ql qc) := by rw [← hW1]; exact hr.cells.2.2
  replace hu := hu.below (Nat.le_refl _) hb1
  replace hv := hv.below (Nat.le_refl _) hb1
  have HSH : Hid (shl (val xs) 149 = val xs * 2 ^ (-z).toNat) := by
    show _ = _
    unfold shl
    rw [if_pos (by decide)]
    exact congrArg (fun k : Nat => val xs * 2 ^ k) (by rw [hz]; rfl)
  clear hz
  obtain ⟨Y, hY⟩ : ∃ Y, val ys = Y := ⟨_, rfl⟩
  have hno := norm_ref _ ys W1 hv (by omega)
  rw [hY] at hno ⊢
  have hlY : (lim Y).length ≤ 1000 := by rw [← hY]; exact Nat.le_trans (lim_len_le (val_lt hv.1)) ly
  clear hW1 hv hY
  go_enter Try.func65, Try.ntmps65
  go_wp2_with fail
  rw [← HW1.out]
  obtain ⟨g, hg⟩ : ∃ g, g = w.heap.size := ⟨_, rfl⟩
  rw [← hg] at hk hr ⊢
  refine hno.mono ?_
  rintro e w2 ⟨dv, rfl, od, b⟩
  replace hu := hu.below (Nat.le_refl _) b
  replace hk := hk.below b
  replace hr := hr.below b
  replace hb1 := bstep hb1 b
  clear b hno r2 HW1 hg
  obtain ⟨do_, dc, rfl, _, _⟩ := od.num.ao
  by_cases hY0 : Y = 0
  · subst hY0
    rw [show (lim 0).length = 0 from rfl]
    obtain ⟨W2, hW2⟩ : ∃ W, W = w2.alloc (.cells #[.int .u32 1] 39) := ⟨_, rfl⟩
    have n1 : Num W2 (.slice (some ⟨w2.heap.size, 0, none⟩) 1 1) (lim (undN 0)) := by rw [hW2]; exact (Own.lit (B := 0) 39 w2 #[.int .u32 1] [1] (by intro x hx; simp at hx; omega) (Nat.zero_le _) (by simp [maxLen]) (by simp [U])).num
    have b : Below w2.heap.size w2 W2 := by rw [hW2]; exact belowA _ _
    have HW2 : Hid (w2.alloc (.cells #[.int .u32 1] 39) = W2) := hW2.symm
    replace hu := hu.below (Nat.le_refl _) b
    replace hk := hk.below b
    replace hr := hr.below b
    replace hb1 := bstep hb1 b
    clear b hW2 od
    go_wp2_with fail
    rw [HW2.out]
    obtain ⟨dn, hdn⟩ : ∃ z, z = w2.heap.size := ⟨_, rfl⟩
    rw [← hdn] at n1 ⊢
    clear HW2 hdn
    obtain ⟨k0, k1, k2⟩ := hk.cells
    obtain ⟨c0, c1, c2⟩ := hr.cells
    clear hk hr
    go_region_held3 (fun w' => w'.cell? ⟨g, 2, none⟩ = some (.int .i64 (-149)) ∧ w'.cell? ⟨g + 1, 1, none⟩ = some (.slice po pl pc)) (((try dsimp only); go_split_ands; refine ⟨?_, ?_⟩ <;> first | exact keepB1 (by with_reducible assumption) (by with_reducible assumption) | go_keep)) (first
      | (go_at_call 54; refine (norm_ref _ xs _ (hu.same (w' := W2.drew) rfl) (by omega)).mono ?_; rintro e w4 ⟨nv, rfl, on, hb4⟩; obtain ⟨no, nl, nc, rfl⟩ := on.sl)
      | (go_at_call 56; refine (shift_ref _ _ 149 _ on.num (Nat.le_trans (lim_len_le (val_lt hu.1)) lx) (by decide) (by decide)).mono ?_; rintro e w5 ⟨sv, rfl, os, hb5⟩; obtain ⟨so, sl, sc, rfl⟩ := os.sl))
    all_goals
      rw [val_lim, HSH.out] at os
      have b0 : Below W2.heap.size W2 w5 := bstep (bstep (Below.refl _ _).drew hb4) hb5
      have HE : Hid (∃ n d, (.returned (.tuple #[.slice so sl sc, .slice (some ⟨dn, 0, none⟩) 1 1]) : Ending) = .returned (.tuple #[n, d]) ∧ Num w5 n (lim (val xs * 2 ^ (-z).toNat)) ∧ Num w5 d (lim (undN 0)) ∧ Below w.heap.size w w5) := ⟨_, _, rfl, os.num, n1.below (Nat.le_refl _) b0, bstep hb1 b0⟩
      clear hb4 hb5 b0 os on hu n1 hb1 k0 k1 k2 c0 c1 c2
      go_wp2_with fail
      go_ret2
      exact HE.out
  · have nd := od.num
    rw [show lim Y = lim (undN Y) by unfold undN; rw [if_neg hY0]] at nd
    obtain ⟨yl, hyl⟩ : ∃ z, z = (lim Y).length := ⟨_, rfl⟩
    have hyl0 : ((yl : Int) == 0) = false := by
      have : yl ≠ 0 := by intro h; apply hY0; exact lim_len_zero (by rw [← hyl]; exact h)
      simp; omega
    obtain ⟨W2, hW2⟩ : ∃ W, W = w2 := ⟨_, rfl⟩
    rw [show (lim (undN Y)).length = yl by rw [hyl]; unfold undN; rw [if_neg hY0]] at nd
    rw [← hyl]
    subst hW2
    clear hyl od hlY hY0
    go_wp2_with fail
    obtain ⟨k0, k1, k2⟩ := hk.cells
    obtain ⟨c0, c1, c2⟩ := hr.cells
    clear hk hr
    go_region_held3 (fun w' => w'.cell? ⟨g, 2, none⟩ = some (.int .i64 (-149)) ∧ w'.cell? ⟨g + 1, 1, none⟩ = some (.slice po pl pc)) (((try dsimp only); go_split_ands; refine ⟨?_, ?_⟩ <;> first | exact keepB1 (by with_reducible assumption) (by with_reducible assumption) | go_keep)) (first
      | (go_at_call 54; refine (norm_ref _ xs _ (hu.same (w' := W2.drew) rfl) (by omega)).mono ?_; rintro e w4 ⟨nv, rfl, on, hb4⟩; obtain ⟨no, nl, nc, rfl⟩ := on.sl)
      | (go_at_call 56; refine (shift_ref _ _ 149 _ on.num (Nat.le_trans (lim_len_le (val_lt hu.1)) lx) (by decide) (by decide)).mono ?_; rintro e w5 ⟨sv, rfl, os, hb5⟩; obtain ⟨so, sl, sc, rfl⟩ := os.sl))
    all_goals
      rw [val_lim, HSH.out] at os
      have b0 : Below W2.heap.size W2 w5 := bstep (bstep (Below.refl _ _).drew hb4) hb5
      have HE : Hid (∃ n d, (.returned (.tuple #[.slice so sl sc, .slice do_ yl dc]) : Ending) = .returned (.tuple #[n, d]) ∧ Num w5 n (lim (val xs * 2 ^ (-z).toNat)) ∧ Num w5 d (lim (undN Y)) ∧ Below w.heap.size w w5) := ⟨_, _, rfl, os.num, nd.below (Nat.le_refl _) b0, bstep hb1 b0⟩
      clear hb4 hb5 b0 os on hu nd hb1 k0 k1 k2 c0 c1 c2
      go_wp2_with fail
      go_ret2
      exact HE.out
end Go.Proofs.Ytjfihcnjhjgdpaa

/-
  Proved here: what the document's Floor, just and Round of floats answer.
-/
import Derived.Test.YtjfihcnjhjgdpaaNearR
import Derived.Test.YtjfihcnjhjgdpaaRefDAll
namespace Go.Proofs.Ytjfihcnjhjgdpaa
open Go.RowKit

theorem fval_len {p b : Nat} (hp : p ≤ 60) (hb : b / 2 ^ p ≤ 4000) : (lim (fval p b)).length ≤ 200 := by
  obtain ⟨k, hk⟩ : ∃ k : Nat, k = 200 := ⟨_, rfl⟩
  rw [← hk]
  refine lim_len_le ?_
  have h1 : b % 2 ^ p < 2 ^ p := Nat.mod_lt _ (Nat.two_pow_pos p)
  have h2 : fval p b ≤ (2 ^ p + 2 ^ p) * 2 ^ (b / 2 ^ p) := by
    unfold fval
    split
    · rename_i h
      rw [h, Nat.pow_zero, Nat.mul_one]
      omega
    · exact Nat.mul_le_mul (by omega) (Nat.pow_le_pow_right (by decide) (Nat.sub_le _ _))
  obtain ⟨q, hq⟩ : ∃ q, q = b / 2 ^ p := ⟨_, rfl⟩
  rw [← hq] at h2 hb
  have h3 : (2 ^ p + 2 ^ p) * 2 ^ q = 2 ^ (p + 1 + q) := by rw [Nat.pow_add, Nat.pow_succ, Nat.mul_two]
  have h4 : (4294967296 : Nat) ^ k = 2 ^ (32 * k) := by rw [Nat.pow_mul]
  rw [h4]
  exact Nat.lt_of_le_of_lt (by rw [← h3]; exact h2) (Nat.pow_lt_pow_right (by decide) (by omega))
theorem mul_lt_pow {a b k l : Nat} (h1 : a < 4294967296 ^ k) (h2 : b < 4294967296 ^ l) : a * b < 4294967296 ^ (k + l) := by
  rw [Nat.pow_add]
  exact Nat.mul_lt_mul'' h1 h2
theorem lim_mul_len {a b k l : Nat} (h1 : (lim a).length ≤ k) (h2 : (lim b).length ≤ l) : (lim (a * b)).length ≤ k + l := lim_len_le (mul_lt_pow (lim_lt_of_len h1) (lim_lt_of_len h2))
theorem lim_add_len {a b k : Nat} (h1 : (lim a).length ≤ k) (h2 : (lim b).length ≤ k) : (lim (a + b)).length ≤ k + 1 := by
  have a1 := lim_lt_of_len h1
  have a2 := lim_lt_of_len h2
  refine lim_len_le ?_
  rw [Nat.pow_succ]
  generalize (4294967296 : Nat) ^ k = P at *
  omega
theorem undN_pos (d : Nat) : 0 < undN d := by unfold undN; split <;> omega
theorem lim_num {w : World} {v : Value} {n : Nat} (_ : Num w v (lim n)) {k : Nat} (h : (lim n).length ≤ k) (hk : k ≤ 500000) : (lim n).length ≤ 549755813888 := by omega
theorem undN_len {ys : List Nat} (h : limbs ys) (hl : ys.length ≤ 1000) : (lim (undN (val ys))).length ≤ 1000 := by
  unfold undN
  split
  · decide
  · exact Nat.le_trans (lim_len_le (val_lt h)) hl
theorem scaled_len {xs : List Nat} {k : Nat} (h : limbs xs) (hl : xs.length ≤ 1000) (hk : k ≤ 3200) : (lim (val xs * 2 ^ k)).length ≤ 1100 := by
  obtain ⟨j, hj⟩ : ∃ j : Nat, j = 100 := ⟨_, rfl⟩
  refine Nat.le_trans (lim_len_le (k := xs.length + j) ?_) (by omega)
  rw [Nat.pow_add]
  have h1 : (2 : Nat) ^ k ≤ 4294967296 ^ j := by
    rw [show (4294967296 : Nat) = 2 ^ 32 from rfl, ← Nat.pow_mul]
    exact Nat.pow_le_pow_right (by decide) (by omega)
  calc val xs * 2 ^ k < 4294967296 ^ xs.length * 2 ^ k := Nat.mul_lt_mul_of_pos_right (val_lt h) (Nat.two_pow_pos _)
    _ ≤ _ := Nat.mul_le_mul_left _ h1

set_option maxRecDepth 100000 in
set_option maxHeartbeats 6400000 in
theorem floorRD (z : Int) (hz : z = (-1074)) (na : Bool) (po qo : Option Addr) (pl pc ql qc : Nat) (xs ys : List Nat) (w : World) (hu : Num w (.slice po pl pc) xs) (hv : Num w (.slice qo ql qc) ys) (lx : xs.length ≤ 1000) (ly : ys.length ≤ 1000) :
    Calls Try.prog 47 #[.agg #[.int .i64 52, .int .u64 9218868437227405312, .int .i64 (-1074)], .agg #[.bool na, .slice po pl pc, .slice qo ql qc]] w fun e w' => ∃ b : Nat, e = .returned (.int .u64 (b : Int)) ∧ FloorOk 52 9218868437227405312 (val xs * 2 ^ (-z).toNat) (undN (val ys)) b ∧ Below w.heap.size w w' := by
  have hln := scaled_len (k := (-z).toNat) hu.1 lx (by omega)
  have hld := undN_len hv.1 ly
  have hDp := undN_pos (val ys)
  have hsc := fun w h1 h2 => scaledRD z hz na po qo pl pc ql qc xs ys w h1 h2 lx ly
  obtain ⟨n, hn⟩ : ∃ n, n = val xs * 2 ^ (-z).toNat := ⟨_, rfl⟩
  obtain ⟨D, hD⟩ : ∃ D, D = undN (val ys) := ⟨_, rfl⟩
  rw [← hn] at hsc hln ⊢
  rw [← hD] at hsc hld hDp ⊢
  obtain ⟨W1, hW1⟩ : ∃ W1, W1 = (w.alloc (.cells #[.int .i64 52, .int .u64 9218868437227405312, .int .i64 (-1074)] 53)).alloc (.cells #[.bool na, .slice po pl pc, .slice qo ql qc] 29) := ⟨_, rfl⟩
  have hk : LCell W1 w.heap.size (.int .i64 52) (.int .u64 9218868437227405312) (.int .i64 (-1074)) := by rw [hW1]; exact (lcell_new _ rfl).below (belowA _ _)
  have hb1 : Below w.heap.size w W1 := by rw [hW1]; exact bstep (belowA w _) (belowA _ _)
  have HW1 : Hid (W1 = (w.alloc (.cells #[.int .i64 52, .int .u64 9218868437227405312, .int .i64 (-1074)] 53)).alloc (.cells #[.bool na, .slice po pl pc, .slice qo ql qc] 29)) := hW1
  have hq := hsc W1 (hu.below (Nat.le_refl _) hb1) (hv.below (Nat.le_refl _) hb1)
  clear hW1 hn hD hz hsc hu hv lx ly
  go_enter Try.func47, Try.ntmps47
  go_wp2_with fail
  rw [← HW1.out]
  obtain ⟨g, hg⟩ : ∃ g, g = w.heap.size := ⟨_, rfl⟩
  rw [← hg] at hk ⊢
  refine hq.mono ?_
  rintro e w2 ⟨nv, dv, rfl, nn, nd, b⟩
  replace hk := hk.below b
  replace hb1 := bstep hb1 b
  obtain ⟨no, nl, nc, rfl⟩ : ∃ o l c, nv = .slice o l c := by obtain ⟨o, c, h, _⟩ := nn.ao; exact ⟨_, _, _, h⟩
  obtain ⟨do_, dl, dc, rfl⟩ : ∃ o l c, dv = .slice o l c := by obtain ⟨o, c, h, _⟩ := nd.ao; exact ⟨_, _, _, h⟩
  clear b hq HW1 hg
  obtain ⟨k0, k1, k2⟩ := hk.cells
  go_wp2
  go_loopw [7, 8] (fun lv hv wr => ∃ lo hi : Nat, lv = .int .u64 lo ∧ hv = .int .u64 hi ∧ lo < hi ∧ hi ≤ 9218868437227405313 ∧ fval 52 lo * D ≤ n ∧ (hi = 9218868437227405313 ∨ n < fval 52 hi * D) ∧ Below w2.heap.size w2 wr) (fun lv hv _ => (intOf hv).toNat - (intOf lv).toNat)
  case atStart => exact ⟨0, 9218868437227405313, rfl, rfl, by decide, Nat.le_refl _, by rw [show fval 52 0 = 0 from rfl, Nat.zero_mul]; exact Nat.zero_le _, Or.inl rfl, Below.refl _ _⟩
  case round =>
    clear k0 k1 k2
    obtain ⟨lo, hi, rfl, rfl, hlh, hhi, h1, h2, hbw⟩ := hrel
    have HI1 : Hid (fval 52 lo * D ≤ n) := h1
    have HI2 : Hid (hi = 9218868437227405313 ∨ n < fval 52 hi * D) := h2
    clear h1 h2
    obtain ⟨k, hkk⟩ : ∃ k : Nat, (hi : Int) - (lo : Int) = (k : Int) := ⟨hi - lo, by omega⟩
    have hk64 : IntKind.u64.wrap (k : Int) = (k : Int) := by rw [IntKind.wrap_u64]; omega
    by_cases hgt : 1 < k
    · have hgt' : (1 : Int) < (k : Int) := by omega
      obtain ⟨h, hh⟩ : ∃ h : Nat, (k : Int) / 2 = (h : Int) := ⟨k / 2, by omega⟩
      have hh2 : (k : Int).tdiv 2 = (h : Int) := by rw [Int.tdiv_eq_ediv_of_nonneg (by omega)]; exact hh
      have hh64 : IntKind.u64.wrap (h : Int) = (h : Int) := by rw [IntKind.wrap_u64]; omega
      obtain ⟨md, hmd⟩ : ∃ m : Nat, (lo : Int) + (h : Int) = (m : Int) := ⟨lo + h, by omega⟩
      have hm64 : IntKind.u64.wrap (md : Int) = (md : Int) := by rw [IntKind.wrap_u64]; omega
      have hm1 : lo < md := by omega
      have hm2 : md < hi := by omega
      have hvl := fval_len (p := 52) (b := md) (by decide) (by omega)
      obtain ⟨k0, k1, k2⟩ := (hk.below hbw).cells
      go_wp2_with fail
      refine (valRD md _ (by omega)).mono ?_
      rintro e w3 ⟨v, rfl, ov_, b3⟩
      obtain ⟨vo, vl, vc, rfl⟩ := ov_.sl
      have nd3 := (nd.below (Nat.le_refl _) hbw).below (Nat.le_refl _) b3
      have nn3 := (nn.below (Nat.le_refl _) hbw).below (Nat.le_refl _) b3
      replace hbw := bstep hbw b3
      clear b3 k0 k1 k2
      go_wp2_with fail
      refine (mul_ref _ _ _ _ _ ov_.num nd3 (by omega) (by omega)).mono ?_
      rw [val_lim, val_lim]
      rintro e w4 ⟨m, rfl, om, b4⟩
      obtain ⟨mo, ml, mc, rfl⟩ := om.sl
      replace nn3 := nn3.below (Nat.le_refl _) b4
      replace hbw := bstep hbw b4
      have hml : (lim (fval 52 md * D)).length ≤ 1200 := lim_mul_len (k := 200) (l := 1000) hvl hld
      clear b4 nd3 ov_
      go_wp2_with fail
      refine (cmp_ref _ _ _ _ _ om.num nn3 (by omega) (by omega)).mono ?_
      rw [val_lim, val_lim]
      rintro e w5 ⟨rfl, rfl⟩
      clear om nn3 hvl hml
      by_cases hc : fval 52 md * D ≤ n
      · have hcm : cmpN (fval 52 md * D) n ≤ 0 := by
          rcases cmpN_cases (fval 52 md * D) n with ⟨h, e⟩ | ⟨h, e⟩ | ⟨h, e⟩ <;> rw [e] <;> omega
        have HC : Hid (fval 52 md * D ≤ n) := hc
        generalize cmpN (fval 52 md * D) n = cm at *
        clear hc
        go_wp2
        go_roundw
        case rel => exact ⟨md, hi, rfl, rfl, hm2, hhi, HC.out, HI2.out, hbw⟩
        case measure => simp [intOf]; omega
      · have hcm : ¬ cmpN (fval 52 md * D) n ≤ 0 := by
          rcases cmpN_cases (fval 52 md * D) n with ⟨h, e⟩ | ⟨h, e⟩ | ⟨h, e⟩ <;> rw [e] <;> omega
        have HC : Hid (n < fval 52 md * D) := by show _ < _; omega
        generalize cmpN (fval 52 md * D) n = cm at *
        clear hc
        go_wp2
        go_roundw
        case rel => exact ⟨lo, md, rfl, rfl, hm1, by omega, HI1.out, Or.inr HC.out, hbw⟩
        case measure => simp [intOf]; omega
    · have hgt' : ¬ (1 : Int) < (k : Int) := by omega
      have HE : Hid (FloorOk 52 9218868437227405312 n D lo ∧ Below w.heap.size w wr) := by
        have hh : hi = lo + 1 := by omega
        refine ⟨⟨by omega, HI1.out, ?_⟩, bstep hb1 hbw⟩
        rcases HI2.out with h | h
        · left; omega
        · right; rw [← hh]; exact h
      clear HI1 HI2 hbw
      go_wp2
      go_ret
      exact ⟨lo, rfl, HE.out⟩

set_option maxRecDepth 100000 in
set_option maxHeartbeats 3200000 in
theorem justRD (z : Int) (hz : z = (-1074)) (na : Bool) (po qo : Option Addr) (pl pc ql qc : Nat) (xs ys : List Nat) (b : Nat) (w : World) (hu : Num w (.slice po pl pc) xs) (hv : Num w (.slice qo ql qc) ys) (lx : xs.length ≤ 1000) (ly : ys.length ≤ 1000) (hb : b ≤ 9218868437227405312) :
    Calls Try.prog 48 #[.agg #[.int .i64 52, .int .u64 9218868437227405312, .int .i64 (-1074)], .agg #[.bool na, .slice po pl pc, .slice qo ql qc], .int .u64 (b : Int)] w fun e w' => e = .returned (.bool (decide (fval 52 b * undN (val ys) = val xs * 2 ^ (-z).toNat))) ∧ Below w.heap.size w w' := by
  have hln := scaled_len (k := (-z).toNat) hu.1 lx (by omega)
  have hld := undN_len hv.1 ly
  have hsc := fun w h1 h2 => scaledRD z hz na po qo pl pc ql qc xs ys w h1 h2 lx ly
  obtain ⟨n, hn⟩ : ∃ n, n = val xs * 2 ^ (-z).toNat := ⟨_, rfl⟩
  obtain ⟨D, hD⟩ : ∃ D, D = undN (val ys) := ⟨_, rfl⟩
  rw [← hn] at hsc hln ⊢
  rw [← hD] at hsc hld ⊢
  obtain ⟨W1, hW1⟩ : ∃ W1, W1 = (w.alloc (.cells #[.int .i64 52, .int .u64 9218868437227405312, .int .i64 (-1074)] 53)).alloc (.cells #[.bool na, .slice po pl pc, .slice qo ql qc] 29) := ⟨_, rfl⟩
  have hk : LCell W1 w.heap.size (.int .i64 52) (.int .u64 9218868437227405312) (.int .i64 (-1074)) := by rw [hW1]; exact (lcell_new _ rfl).below (belowA _ _)
  have hb1 : Below w.heap.size w W1 := by rw [hW1]; exact bstep (belowA w _) (belowA _ _)
  have HW1 : Hid (W1 = (w.alloc (.cells #[.int .i64 52, .int .u64 9218868437227405312, .int .i64 (-1074)] 53)).alloc (.cells #[.bool na, .slice po pl pc, .slice qo ql qc] 29)) := hW1
  have hq := hsc W1 (hu.below (Nat.le_refl _) hb1) (hv.below (Nat.le_refl _) hb1)
  have hvl := fval_len (p := 52) (b := b) (by decide) (by omega)
  obtain ⟨r, hr⟩ : ∃ r, r = decide (fval 52 b * D = n) := ⟨_, rfl⟩
  rw [← hr]
  have hcq : (cmpN (fval 52 b * D) n == 0) = r := by
    rw [hr]
    rcases cmpN_cases (fval 52 b * D) n with ⟨h, e⟩ | ⟨h, e⟩ | ⟨h, e⟩ <;> rw [e]
    · rw [decide_eq_false (by omega)]; rfl
    · rw [decide_eq_true h]; rfl
    · rw [decide_eq_false (by omega)]; rfl
  clear hW1 hn hD hz hsc hu hv lx ly hr
  go_enter Try.func48, Try.ntmps48
  go_wp2_with fail
  rw [← HW1.out]
  obtain ⟨g, hg⟩ : ∃ g, g = w.heap.size := ⟨_, rfl⟩
  rw [← hg] at hk ⊢
  refine hq.mono ?_
  rintro e w2 ⟨nv, dv, rfl, nn, nd, b2⟩
  replace hk := hk.below b2
  replace hb1 := bstep hb1 b2
  obtain ⟨no, nl, nc, rfl⟩ : ∃ o l c, nv = .slice o l c := by obtain ⟨o, c, h, _⟩ := nn.ao; exact ⟨_, _, _, h⟩
  obtain ⟨do_, dl, dc, rfl⟩ : ∃ o l c, dv = .slice o l c := by obtain ⟨o, c, h, _⟩ := nd.ao; exact ⟨_, _, _, h⟩
  clear b2 hq HW1 hg
  obtain ⟨k0, k1, k2⟩ := hk.cells
  clear hk
  go_wp2_with fail
  refine (valRD b _ (by omega)).mono ?_
  rintro e w3 ⟨v, rfl, ov_, b3⟩
  obtain ⟨vo, vl, vc, rfl⟩ := ov_.sl
  replace nd := nd.below (Nat.le_refl _) b3
  replace nn := nn.below (Nat.le_refl _) b3
  replace hb1 := bstep hb1 b3
  clear b3 k0 k1 k2
  go_wp2_with fail
  refine (mul_ref _ _ _ _ _ ov_.num nd (by omega) (by omega)).mono ?_
  rw [val_lim, val_lim]
  rintro e w4 ⟨m, rfl, om, b4⟩
  obtain ⟨mo, ml, mc, rfl⟩ := om.sl
  replace nn := nn.below (Nat.le_refl _) b4
  replace hb1 := bstep hb1 b4
  have hml : (lim (fval 52 b * D)).length ≤ 1200 := lim_mul_len (k := 200) (l := 1000) hvl hld
  clear b4 nd ov_
  go_wp2_with fail
  refine (cmp_ref _ _ _ _ _ om.num nn (by omega) (by omega)).mono ?_
  rw [val_lim, val_lim]
  rintro e w5 ⟨rfl, rfl⟩
  have HE : Hid (Below w.heap.size w w5) := hb1
  generalize cmpN (fval 52 b * D) n = cm at *
  clear om nn hvl hml hb1
  go_wp2
  go_ret
  exact ⟨rfl, HE.out⟩

set_option maxRecDepth 100000 in
set_option maxHeartbeats 6400000 in
theorem floorRS (z : Int) (hz : z = (-149)) (na : Bool) (po qo : Option Addr) (pl pc ql qc : Nat) (xs ys : List Nat) (w : World) (hu : Num w (.slice po pl pc) xs) (hv : Num w (.slice qo ql qc) ys) (lx : xs.length ≤ 1000) (ly : ys.length ≤ 1000) :
    Calls Try.prog 47 #[.agg #[.int .i64 23, .int .u64 2139095040, .int .i64 (-149)], .agg #[.bool na, .slice po pl pc, .slice qo ql qc]] w fun e w' => ∃ b : Nat, e = .returned (.int .u64 (b : Int)) ∧ FloorOk 23 2139095040 (val xs * 2 ^ (-z).toNat) (undN (val ys)) b ∧ Below w.heap.size w w' := by
  have hln := scaled_len (k := (-z).toNat) hu.1 lx (by omega)
  have hld := undN_len hv.1 ly
  have hDp := undN_pos (val ys)
  have hsc := fun w h1 h2 => scaledRS z hz na po qo pl pc ql qc xs ys w h1 h2 lx ly
  obtain ⟨n, hn⟩ : ∃ n, n = val xs * 2 ^ (-z).toNat := ⟨_, rfl⟩
  obtain ⟨D, hD⟩ : ∃ D, D = undN (val ys) := ⟨_, rfl⟩
  rw [← hn] at hsc hln ⊢
  rw [← hD] at hsc hld hDp ⊢
  obtain ⟨W1, hW1⟩ : ∃ W1, W1 = (w.alloc (.cells #[.int .i64 23, .int .u64 2139095040, .int .i64 (-149)] 53)).alloc (.cells #[.bool na, .slice po pl pc, .slice qo ql qc] 29) := ⟨_, rfl⟩
  have hk : LCell W1 w.heap.size (.int .i64 23) (.int .u64 2139095040) (.int .i64 (-149)) := by rw [hW1]; exact (lcell_new _ rfl).below (belowA _ _)
  have hb1 : Below w.heap.size w W1 := by rw [hW1]; exact bstep (belowA w _) (belowA _ _)
  have HW1 : Hid (W1 = (w.alloc (.cells #[.int .i64 23, .int .u64 2139095040, .int .i64 (-149)] 53)).alloc (.cells #[.bool na, .slice po pl pc, .slice qo ql qc] 29)) := hW1
  have hq := hsc W1 (hu.below (Nat.le_refl _) hb1) (hv.below (Nat.le_refl _) hb1)
  clear hW1 hn hD hz hsc hu hv lx ly
  go_enter Try.func47, Try.ntmps47
  go_wp2_with fail
  rw [← HW1.out]
  obtain ⟨g, hg⟩ : ∃ g, g = w.heap.size := ⟨_, rfl⟩
  rw [← hg] at hk ⊢
  refine hq.mono ?_
  rintro e w2 ⟨nv, dv, rfl, nn, nd, b⟩
  replace hk := hk.below b
  replace hb1 := bstep hb1 b
  obtain ⟨no, nl, nc, rfl⟩ : ∃ o l c, nv = .slice o l c := by obtain ⟨o, c, h, _⟩ := nn.ao; exact ⟨_, _, _, h⟩
  obtain ⟨do_, dl, dc, rfl⟩ : ∃ o l c, dv = .slice o l c := by obtain ⟨o, c, h, _⟩ := nd.ao; exact ⟨_, _, _, h⟩
  clear b hq HW1 hg
  obtain ⟨k0, k1, k2⟩ := hk.cells
  go_wp2
  go_loopw [7, 8] (fun lv hv wr => ∃ lo hi : Nat, lv = .int .u64 lo ∧ hv = .int .u64 hi ∧ lo < hi ∧ hi ≤ 2139095041 ∧ fval 23 lo * D ≤ n ∧ (hi = 2139095041 ∨ n < fval 23 hi * D) ∧ Below w2.heap.size w2 wr) (fun lv hv _ => (intOf hv).toNat - (intOf lv).toNat)
  case atStart => exact ⟨0, 2139095041, rfl, rfl, by decide, Nat.le_refl _, by rw [show fval 23 0 = 0 from rfl, Nat.zero_mul]; exact Nat.zero_le _, Or.inl rfl, Below.refl _ _⟩
  case round =>
    clear k0 k1 k2
    obtain ⟨lo, hi, rfl, rfl, hlh, hhi, h1, h2, hbw⟩ := hrel
    have HI1 : Hid (fval 23 lo * D ≤ n) := h1
    have HI2 : Hid (hi = 2139095041 ∨ n < fval 23 hi * D) := h2
    clear h1 h2
    obtain ⟨k, hkk⟩ : ∃ k : Nat, (hi : Int) - (lo : Int) = (k : Int) := ⟨hi - lo, by omega⟩
    have hk64 : IntKind.u64.wrap (k : Int) = (k : Int) := by rw [IntKind.wrap_u64]; omega
    by_cases hgt : 1 < k
    · have hgt' : (1 : Int) < (k : Int) := by omega
      obtain ⟨h, hh⟩ : ∃ h : Nat, (k : Int) / 2 = (h : Int) := ⟨k / 2, by omega⟩
      have hh2 : (k : Int).tdiv 2 = (h : Int) := by rw [Int.tdiv_eq_ediv_of_nonneg (by omega)]; exact hh
      have hh64 : IntKind.u64.wrap (h : Int) = (h : Int) := by rw [IntKind.wrap_u64]; omega
      obtain ⟨md, hmd⟩ : ∃ m : Nat, (lo : Int) + (h : Int) = (m : Int) := ⟨lo + h, by omega⟩
      have hm64 : IntKind.u64.wrap (md : Int) = (md : Int) := by rw [IntKind.wrap_u64]; omega
      have hm1 : lo < md := by omega
      have hm2 : md < hi := by omega
      have hvl := fval_len (p := 23) (b := md) (by decide) (by omega)
      obtain ⟨k0, k1, k2⟩ := (hk.below hbw).cells
      go_wp2_with fail
      refine (valRS md _ (by omega)).mono ?_
      rintro e w3 ⟨v, rfl, ov_, b3⟩
      obtain ⟨vo, vl, vc, rfl⟩ := ov_.sl
      have nd3 := (nd.below (Nat.le_refl _) hbw).below (Nat.le_refl _) b3
      have nn3 := (nn.below (Nat.le_refl _) hbw).below (Nat.le_refl _) b3
      replace hbw := bstep hbw b3
      clear b3 k0 k1 k2
      go_wp2_with fail
      refine (mul_ref _ _ _ _ _ ov_.num nd3 (by omega) (by omega)).mono ?_
      rw [val_lim, val_lim]
      rintro e w4 ⟨m, rfl, om, b4⟩
      obtain ⟨mo, ml, mc, rfl⟩ := om.sl
      replace nn3 := nn3.below (Nat.le_refl _) b4
      replace hbw := bstep hbw b4
      have hml : (lim (fval 23 md * D)).length ≤ 1200 := lim_mul_len (k := 200) (l := 1000) hvl hld
      clear b4 nd3 ov_
      go_wp2_with fail
      refine (cmp_ref _ _ _ _ _ om.num nn3 (by omega) (by omega)).mono ?_
      rw [val_lim, val_lim]
      rintro e w5 ⟨rfl, rfl⟩
      clear om nn3 hvl hml
      by_cases hc : fval 23 md * D ≤ n
      · have hcm : cmpN (fval 23 md * D) n ≤ 0 := by
          rcases cmpN_cases (fval 23 md * D) n with ⟨h, e⟩ | ⟨h, e⟩ | ⟨h, e⟩ <;> rw [e] <;> omega
        have HC : Hid (fval 23 md * D ≤ n) := hc
        generalize cmpN (fval 23 md * D) n = cm at *
        clear hc
        go_wp2
        go_roundw
        case rel => exact ⟨md, hi, rfl, rfl, hm2, hhi, HC.out, HI2.out, hbw⟩
        case measure => simp [intOf]; omega
      · have hcm : ¬ cmpN (fval 23 md * D) n ≤ 0 := by
          rcases cmpN_cases (fval 23 md * D) n with ⟨h, e⟩ | ⟨h, e⟩ | ⟨h, e⟩ <;> rw [e] <;> omega
        have HC : Hid (n < fval 23 md * D) := by show _ < _; omega
        generalize cmpN (fval 23 md * D) n = cm at *
        clear hc
        go_wp2
        go_roundw
        case rel => exact ⟨lo, md, rfl, rfl, hm1, by omega, HI1.out, Or.inr HC.out, hbw⟩
        case measure => simp [intOf]; omega
    · have hgt' : ¬ (1 : Int) < (k : Int) := by omega
      have HE : Hid (FloorOk 23 2139095040 n D lo ∧ Below w.heap.size w wr) := by
        have hh : hi = lo + 1 := by omega
        refine ⟨⟨by omega, HI1.out, ?_⟩, bstep hb1 hbw⟩
        rcases HI2.out with h | h
        · left; omega
        · right; rw [← hh]; exact h
      clear HI1 HI2 hbw
      go_wp2
      go_ret
      exact ⟨lo, rfl, HE.out⟩

set_option maxRecDepth 100000 in
set_option maxHeartbeats 3200000 in
theorem justRS (z : Int) (hz : z = (-149)) (na : Bool) (po qo : Option Addr) (pl pc ql qc : Nat) (xs ys : List Nat) (b : Nat) (w : World) (hu : Num w (.slice po pl pc) xs) (hv : Num w (.slice qo ql qc) ys) (lx : xs.length ≤ 1000) (ly : ys.length ≤ 1000) (hb : b ≤ 2139095040) :
    Calls Try.prog 48 #[.agg #[.int .i64 23, .int .u64 2139095040, .int .i64 (-149)], .agg #[.bool na, .slice po pl pc, .slice qo ql qc], .int .u64 (b : Int)] w fun e w' => e = .returned (.bool (decide (fval 23 b * undN (val ys) = val xs * 2 ^ (-z).toNat))) ∧ Below w.heap.size w w' := by
  have hln := scaled_len (k := (-z).toNat) hu.1 lx (by omega)
  have hld := undN_len hv.1 ly
  have hsc := fun w h1 h2 => scaledRS z hz na po qo pl pc ql qc xs ys w h1 h2 lx ly
  obtain ⟨n, hn⟩ : ∃ n, n = val xs * 2 ^ (-z).toNat := ⟨_, rfl⟩
  obtain ⟨D, hD⟩ : ∃ D, D = undN (val ys) := ⟨_, rfl⟩
  rw [← hn] at hsc hln ⊢
  rw [← hD] at hsc hld ⊢
  obtain ⟨W1, hW1⟩ : ∃ W1, W1 = (w.alloc (.cells #[.int .i64 23, .int .u64 2139095040, .int .i64 (-149)] 53)).alloc (.cells #[.bool na, .slice po pl pc, .slice qo ql qc] 29) := ⟨_, rfl⟩
  have hk : LCell W1 w.heap.size (.int .i64 23) (.int .u64 2139095040) (.int .i64 (-149)) := by rw [hW1]; exact (lcell_new _ rfl).below (belowA _ _)
  have hb1 : Below w.heap.size w W1 := by rw [hW1]; exact bstep (belowA w _) (belowA _ _)
  have HW1 : Hid (W1 = (w.alloc (.cells #[.int .i64 23, .int .u64 2139095040, .int .i64 (-149)] 53)).alloc (.cells #[.bool na, .slice po pl pc, .slice qo ql qc] 29)) := hW1
  have hq := hsc W1 (hu.below (Nat.le_refl _) hb1) (hv.below (Nat.le_refl _) hb1)
  have hvl := fval_len (p := 23) (b := b) (by decide) (by omega)
  obtain ⟨r, hr⟩ : ∃ r, r = decide (fval 23 b * D = n) := ⟨_, rfl⟩
  rw [← hr]
  have hcq : (cmpN (fval 23 b * D) n == 0) = r := by
    rw [hr]
    rcases cmpN_cases (fval 23 b * D) n with ⟨h, e⟩ | ⟨h, e⟩ | ⟨h, e⟩ <;> rw [e]
    · rw [decide_eq_false (by omega)]; rfl
    · rw [decide_eq_true h]; rfl
    · rw [decide_eq_false (by omega)]; rfl
  clear hW1 hn hD hz hsc hu hv lx ly hr
  go_enter Try.func48, Try.ntmps48
  go_wp2_with fail
  rw [← HW1.out]
  obtain ⟨g, hg⟩ : ∃ g, g = w.heap.size := ⟨_, rfl⟩
  rw [← hg] at hk ⊢
  refine hq.mono ?_
  rintro e w2 ⟨nv, dv, rfl, nn, nd, b2⟩
  replace hk := hk.below b2
  replace hb1 := bstep hb1 b2
  obtain ⟨no, nl, nc, rfl⟩ : ∃ o l c, nv = .slice o l c := by obtain ⟨o, c, h, _⟩ := nn.ao; exact ⟨_, _, _, h⟩
  obtain ⟨do_, dl, dc, rfl⟩ : ∃ o l c, dv = .slice o l c := by obtain ⟨o, c, h, _⟩ := nd.ao; exact ⟨_, _, _, h⟩
  clear b2 hq HW1 hg
  obtain ⟨k0, k1, k2⟩ := hk.cells
  clear hk
  go_wp2_with fail
  refine (valRS b _ (by omega)).mono ?_
  rintro e w3 ⟨v, rfl, ov_, b3⟩
  obtain ⟨vo, vl, vc, rfl⟩ := ov_.sl
  replace nd := nd.below (Nat.le_refl _) b3
  replace nn := nn.below (Nat.le_refl _) b3
  replace hb1 := bstep hb1 b3
  clear b3 k0 k1 k2
  go_wp2_with fail
  refine (mul_ref _ _ _ _ _ ov_.num nd (by omega) (by omega)).mono ?_
  rw [val_lim, val_lim]
  rintro e w4 ⟨m, rfl, om, b4⟩
  obtain ⟨mo, ml, mc, rfl⟩ := om.sl
  replace nn := nn.below (Nat.le_refl _) b4
  replace hb1 := bstep hb1 b4
  have hml : (lim (fval 23 b * D)).length ≤ 1200 := lim_mul_len (k := 200) (l := 1000) hvl hld
  clear b4 nd ov_
  go_wp2_with fail
  refine (cmp_ref _ _ _ _ _ om.num nn (by omega) (by omega)).mono ?_
  rw [val_lim, val_lim]
  rintro e w5 ⟨rfl, rfl⟩
  have HE : Hid (Below w.heap.size w w5) := hb1
  generalize cmpN (fval 23 b * D) n = cm at *
  clear om nn hvl hml hb1
  go_wp2
  go_ret
  exact ⟨rfl, HE.out⟩
end Go.Proofs.Ytjfihcnjhjgdpaa

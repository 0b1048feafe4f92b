/-
  Proved here: what Parse of package frac answers of any text (of at most 400 bytes).
-/
import Derived.Test.YtcmclmhfjmmffaaGreatDoorR3BAll
import Derived.Test.YtcmclmhfjmmffaaGreatDoorText3
namespace Go.Proofs.YtcmclmhfjmmffaaGreatDoor
open Go.RowKit

theorem dgs_lt {t : ByteArray} (hd : DigOk t) (m : Nat) (hs : t.size ≤ 8 * m) : bval (dgs t) < 4294967296 ^ m := by
  have h1 := dval_lt (decs_rev hd.decs)
  rw [List.length_reverse, dgs_len] at h1
  have h2 : 10 ^ t.size ≤ 16 ^ t.size := Nat.pow_le_pow_left (by decide) _
  have h3 : 16 ^ t.size ≤ 16 ^ (8 * m) := Nat.pow_le_pow_right (by decide) hs
  have h4 : (16 : Nat) ^ (8 * m) = 4294967296 ^ m := by rw [Nat.pow_mul]
  exact Nat.lt_of_lt_of_le h1 (by rw [← h4]; exact Nat.le_trans h2 h3)
/-- A text, cut at its first stroke, if there is one. -/
def SP (s top bot : ByteArray) : Bool → Prop
  | false => top = s ∧ bot = ⟨#[]⟩ ∧ ∀ i, i < s.size → bt s i ≠ 47
  | true => ∃ k, k < s.size ∧ bt s k = 47 ∧ (∀ i, i < k → bt s i ≠ 47) ∧ top = s.extract 0 k ∧ bot = s.extract (k + 1) s.size
theorem first_cases (s : ByteArray) : (∀ i, i < s.size → bt s i ≠ 47) ∨ ∃ k, k < s.size ∧ bt s k = 47 ∧ ∀ i, i < k → bt s i ≠ 47 := by
  have h : ∀ n, n ≤ s.size → (∀ i, i < n → bt s i ≠ 47) ∨ ∃ k, k < s.size ∧ bt s k = 47 ∧ ∀ i, i < k → bt s i ≠ 47 := by
    intro n
    induction n with
    | zero => exact fun _ => .inl fun i hi => absurd hi (Nat.not_lt_zero _)
    | succ n ih =>
      intro hn
      rcases ih (by omega) with h | h
      · by_cases h47 : bt s n = 47
        · exact .inr ⟨n, by omega, h47, h⟩
        · refine .inl fun i hi => ?_
          rcases Nat.lt_or_ge i n with h1 | h1
          · exact h i h1
          · rw [show i = n by omega]; exact h47
      · exact .inr h
  exact h s.size (Nat.le_refl _)
theorem sp_any (s : ByteArray) : ∃ top bot st, SP s top bot st := by
  rcases first_cases s with h | ⟨k, h1, h2, h3⟩
  · exact ⟨s, ⟨#[]⟩, false, rfl, rfl, h⟩
  · exact ⟨_, _, true, k, h1, h2, h3, rfl, rfl⟩
set_option maxRecDepth 100000 in
set_option maxHeartbeats 3200000 in
theorem slcut1 (w : World) : Calls Tryz.prog 116 #[.string ⟨#[47]⟩, .string ⟨#[47]⟩] w fun e w' => e = .returned (.tuple #[.string ⟨#[]⟩, .string ⟨#[]⟩, .bool true]) ∧ Below w.heap.size w w' := by
  have h1 := ixb ⟨#[47]⟩ w
  rw [show firstIdx ⟨#[47]⟩ 47 = 0 by decide] at h1
  have h2 := b47
  go_enter Tryz.func116, Tryz.ntmps116
  go_wp2
  go_quiet (fail)
  go_wp2
  go_ret3
  exact ⟨rfl, belowDN _ _⟩
theorem one_slash {s : ByteArray} (h : ((([47] : List UInt8) == s.toList)) = true) : s = ⟨#[47]⟩ := by
  rw [ByteArray.toList_eq] at h
  have h1 : s.data.toList = [47] := (beq_iff_eq.1 h).symm
  apply ByteArray.ext
  apply Array.toList_inj.1
  exact h1
set_option maxRecDepth 100000 in
set_option maxHeartbeats 3200000 in
theorem cut47 {s top bot : ByteArray} {st : Bool} (h : SP s top bot st) (hs : s.size ≤ 1000000000) (w : World) : Calls Tryz.prog 82 #[.string s, .string ⟨#[47]⟩] w fun e w' => e = .returned (.tuple #[.string top, .string bot, .bool st]) ∧ Below w.heap.size w w' := by
  have h0 : ∀ w, Calls Tryz.prog 116 #[.string s, .string ⟨#[47]⟩] w fun e w' => e = .returned (.tuple #[.string top, .string bot, .bool st]) ∧ Below w.heap.size w w' := by
    intro w
    cases st with
    | false =>
      obtain ⟨rfl, rfl, hno⟩ := h
      by_cases hne : (([47] : List UInt8) == top.toList) = true
      · have e := one_slash hne
        have h9 := hno 0 (by rw [e]; decide)
        rw [e] at h9
        exact absurd (by decide) h9
      · exact slcut_no top hs (first_none hno) (Bool.eq_false_iff.2 hne) w
    | true =>
      obtain ⟨k, h1, h2, h3, rfl, rfl⟩ := h
      by_cases hne : (([47] : List UInt8) == s.toList) = true
      · have e := one_slash hne
        subst e
        have hk : k = 0 := by have : k < 1 := h1; omega
        subst hk
        exact slcut1 w
      · exact slcut_yes s k h1 hs (first_some h1 h2 h3) (Bool.eq_false_iff.2 hne) w
  clear h
  go_enter Tryz.func82, Tryz.ntmps82
  go_wp2_with fail
  refine (h0 _).mono ?_
  rintro e w2 ⟨rfl, hb⟩
  have HB : Hid (Below w.heap.size w w2) := hb
  clear hb h0
  go_wp2_with fail
  go_ret3
  exact ⟨rfl, HB.out⟩
/-- What stands below the stroke, or 1. -/
def botF (bot : ByteArray) : Bool → ByteArray
  | false => ⟨#[49]⟩
  | true => bot
def okT (t : ByteArray) : Prop := DigOk (tail t) ∧ 0 < (tail t).size
def okB (b : ByteArray) : Prop := DigOk b ∧ 0 < b.size
instance (t : ByteArray) : Decidable (okT t) := inferInstanceAs (Decidable (DigOk (tail t) ∧ 0 < (tail t).size))
instance (b : ByteArray) : Decidable (okB b) := inferInstanceAs (Decidable (DigOk b ∧ 0 < b.size))
def pQ (b : ByteArray) : Int := (bval (dgs b) : Nat)
def prS (t b : ByteArray) : Bool := if okT t ∧ okB b then nS (pz t) (pQ b) else false
def prE (t b : ByteArray) : Int := if okT t ∧ okB b then nE (pQ b) else 10
def prM (t b : ByteArray) : List Nat := if okT t ∧ okB b then nM (pz t) (pQ b) else []
def prD (t b : ByteArray) : List Nat := if okT t ∧ okB b then nD (pz t) (pQ b) else []
def PT (w : World) (t b : ByteArray) (e : Ending) (w' : World) : Prop := TEx w (prS t b) (prE t b) (prM t b) (prD t b) e w'
theorem pt_yes {w w' : World} {t b : ByteArray} {e : Ending} (h : okT t ∧ okB b) (hx : TEx w (nS (pz t) (pQ b)) (nE (pQ b)) (nM (pz t) (pQ b)) (nD (pz t) (pQ b)) e w') : PT w t b e w' := by
  unfold PT prS prE prM prD
  rw [if_pos h, if_pos h, if_pos h, if_pos h]; exact hx
theorem pt_no {w w' : World} {t b : ByteArray} (h : ¬ (okT t ∧ okB b)) (hb : Below w.heap.size w w') : PT w t b (.returned (.tuple #[.agg #[.bool false, .slice none 0 0, .slice none 0 0], .int .i64 10])) w' := by
  unfold PT prS prE prM prD
  rw [if_neg h, if_neg h, if_neg h, if_neg h]
  exact ⟨none, 0, none, 0, rfl, Own.of_nil _ _ _, Own.of_nil _ _ _, .inl rfl, hb⟩
theorem tail_le (s : ByteArray) : (tail s).size ≤ s.size := tail_size s
theorem pr_len {t b : ByteArray} (ht : t.size ≤ 400) (hb : b.size ≤ 400) : (prM t b).length ≤ 50 ∧ (prD t b).length ≤ 50 := by
  by_cases h : okT t ∧ okB b
  · have e1 : prM t b = nM (pz t) (pQ b) := if_pos h
    have e2 : prD t b = nD (pz t) (pQ b) := if_pos h
    rw [e1, e2]
    have e3 : pz t = zv (strk t) (bval (dgs (tail t))) := if_pos h.1
    have e4 : pQ b = zv false (bval (dgs b)) := rfl
    rw [e3, e4]
    exact nM_len (dgs_lt h.1.1 50 (by have := tail_le t; omega)) (dgs_lt h.2.1 50 (by omega))
  · have e1 : prM t b = [] := if_neg h
    have e2 : prD t b = [] := if_neg h
    rw [e1, e2]; exact ⟨Nat.zero_le _, Nat.zero_le _⟩
theorem tex_done {w w3 : World} {g B : Nat} {s : Bool} {er : Int} {xm xd : List Nat} {mo dO : Option Addr} {mc dC : Nat} (hg : w.heap.size ≤ g) (hm : Own B 69 w3 (.slice mo xm.length mc) xm) (hd : Own B 69 w3 (.slice dO xd.length dC) xd)
    (hap : (Value.slice mo xm.length mc).ownBlock = none ∨ (Value.slice mo xm.length mc).ownBlock ≠ (Value.slice dO xd.length dC).ownBlock) (hgB : g < B) (hb : Below w.heap.size w w3) :
    TEx w s er xm xd (.returned (.tuple #[.agg #[.bool s, .slice mo xm.length mc, .slice dO xd.length dC], .int .i64 er])) (((w3.setCell ⟨g, 0, none⟩ (.bool s)).setCell ⟨g, 1, none⟩ (.slice mo xm.length mc)).setCell ⟨g, 2, none⟩ (.slice dO xd.length dC)) :=
  ⟨mo, mc, dO, dC, rfl, (hm.set3 hgB _ _ _).mono (by omega), (hd.set3 hgB _ _ _).mono (by omega), hap, iend3 hb hg⟩
set_option maxRecDepth 100000 in
set_option maxHeartbeats 6400000 in
theorem fparse_f00 {s top bot : ByteArray} (w : World) (h : SP s top bot false) (hs : s.size ≤ 400) (ht : top.size ≤ 400) (hbs : (botF bot false).size ≤ 400) (ha : ¬ okT top) : Calls Tryz.prog 47 #[.string s] w fun e w' => PT w top (botF bot false) e w' := by
  have hcut := fun w => cut47 h (by omega) w
  have hp1 := fun w => c_parse2 top w (by omega)
  have hp2 := fun w => parse_any (botF bot false) w (by omega)
  clear h
  unfold ParseEnd at hp2
  have e1 : pe top = 10 := if_neg ha
  rw [e1] at hp1
  have HNO : Hid (¬ (okT top ∧ okB (botF bot false))) := fun hh => ha hh.1
  clear hp2
  clear e1 ha
  obtain ⟨W1, hW1⟩ : ∃ W1, W1 = w.alloc (.cells #[.bool false, .slice none 0 0, .slice none 0 0] 27) := ⟨_, rfl⟩
  have qR : QCell W1 (w.heap.size) false (.slice none 0 0) (.slice none 0 0) := by rw [hW1]; exact (qcell_new _ (by simp))
  have hb : Below w.heap.size w W1 := by rw [hW1]; exact belowA w _
  have hsz : w.heap.size < W1.heap.size := by rw [hW1]; simp
  have HW1 : Hid (W1 = w.alloc (.cells #[.bool false, .slice none 0 0, .slice none 0 0] 27)) := hW1
  clear hW1
  go_enter Tryz.func47, Tryz.ntmps47
  go_wp2_with fail
  rw [← HW1.out]
  clear HW1
  obtain ⟨g, hg⟩ : ∃ g, g = w.heap.size := ⟨_, rfl⟩
  rw [← hg] at qR hsz ⊢
  have HG : Hid (g = w.heap.size) := hg
  clear hg
  refine (hcut _).mono ?_
  rintro e w2 ⟨rfl, b⟩
  replace qR := qR.below b
  replace hb := bstep hb b
  replace hsz := Nat.lt_of_lt_of_le hsz b.size
  clear b
  clear hcut
  obtain ⟨cqR0, cqR1, cqR2⟩ := qR.cells
  go_wp2_with fail
  clear cqR0 cqR1 cqR2
  refine (hp1 _).mono ?_
  rintro e w3 ⟨v, rfl, hv, b⟩
  clear hp1
  obtain ⟨m, rfl, hm0⟩ := hv
  obtain ⟨ao, al, ac, rfl⟩ := hm0.sl
  clear hm0
  generalize decide (pz top < 0) = na at *
  replace qR := qR.below b
  replace hb := bstep hb b
  replace hsz := Nat.lt_of_lt_of_le hsz b.size
  clear b
  have b : Below w3.heap.size w3 (w3.alloc (.cells #[.bool na, .slice ao al ac] 25)) := belowA _ _
  have qZ := qR.below b
  have hbZ := bstep hb b
  clear b
  have HE : Hid (Below w.heap.size w ((((w3.alloc (.cells #[.bool na, .slice ao al ac] 25)).setCell ⟨g, 0, none⟩ (.bool false)).setCell ⟨g, 1, none⟩ (.slice none 0 0)).setCell ⟨g, 2, none⟩ (.slice none 0 0))) := iend3 hbZ (by rw [HG.out]; omega)
  have HW : Hid (QCell ((((w3.alloc (.cells #[.bool na, .slice ao al ac] 25)).setCell ⟨g, 0, none⟩ (.bool false)).setCell ⟨g, 1, none⟩ (.slice none 0 0)).setCell ⟨g, 2, none⟩ (.slice none 0 0)) (g) false (.slice none 0 0) (.slice none 0 0)) := qZ.write _ _ _
  obtain ⟨y0, y1, y2⟩ := qZ.cells
  have f0 := qZ.thaw 0
  have f1 := qZ.thaw 1
  have f2 := qZ.thaw 2
  have HPH : Hid _ := pt_no HNO.out HE.out
  clear hb hsz hbZ qZ qR
  go_wp2_with fail
  (try simp only [Exit.inBlock, Exit.then])
  exact bodyPost_ret (results_ct (p := 2) (u := 3) rfl _ _ (g) 27 _ (0, 0) _ rfl HW.out Tryz.underlying27 rfl (by kernel_rfl)) rfl HPH.out
set_option maxRecDepth 100000 in
set_option maxHeartbeats 6400000 in
theorem fparse_f10 {s top bot : ByteArray} (w : World) (h : SP s top bot false) (hs : s.size ≤ 400) (ht : top.size ≤ 400) (hbs : (botF bot false).size ≤ 400) (ha : okT top) (hb2 : ¬ okB (botF bot false)) : Calls Tryz.prog 47 #[.string s] w fun e w' => PT w top (botF bot false) e w' := by
  have hcut := fun w => cut47 h (by omega) w
  have hp1 := fun w => c_parse2 top w (by omega)
  have hp2 := fun w => parse_any (botF bot false) w (by omega)
  clear h
  unfold ParseEnd at hp2
  have e1 : pe top = 0 := if_pos ha
  rw [e1] at hp1
  have e2 : (if DigOk (botF bot false) ∧ 0 < (botF bot false).size then (0 : Int) else 10) = 10 := if_neg hb2
  simp only [e2] at hp2
  clear e2
  have HNO : Hid (¬ (okT top ∧ okB (botF bot false))) := fun hh => hb2 hh.2
  clear e1 ha hb2
  obtain ⟨W1, hW1⟩ : ∃ W1, W1 = w.alloc (.cells #[.bool false, .slice none 0 0, .slice none 0 0] 27) := ⟨_, rfl⟩
  have qR : QCell W1 (w.heap.size) false (.slice none 0 0) (.slice none 0 0) := by rw [hW1]; exact (qcell_new _ (by simp))
  have hb : Below w.heap.size w W1 := by rw [hW1]; exact belowA w _
  have hsz : w.heap.size < W1.heap.size := by rw [hW1]; simp
  have HW1 : Hid (W1 = w.alloc (.cells #[.bool false, .slice none 0 0, .slice none 0 0] 27)) := hW1
  clear hW1
  go_enter Tryz.func47, Tryz.ntmps47
  go_wp2_with fail
  rw [← HW1.out]
  clear HW1
  obtain ⟨g, hg⟩ : ∃ g, g = w.heap.size := ⟨_, rfl⟩
  rw [← hg] at qR hsz ⊢
  have HG : Hid (g = w.heap.size) := hg
  clear hg
  refine (hcut _).mono ?_
  rintro e w2 ⟨rfl, b⟩
  replace qR := qR.below b
  replace hb := bstep hb b
  replace hsz := Nat.lt_of_lt_of_le hsz b.size
  clear b
  clear hcut
  obtain ⟨cqR0, cqR1, cqR2⟩ := qR.cells
  go_wp2_with fail
  clear cqR0 cqR1 cqR2
  refine (hp1 _).mono ?_
  rintro e w3 ⟨v, rfl, hv, b⟩
  clear hp1
  obtain ⟨m, rfl, hm0⟩ := hv
  obtain ⟨ao, al, ac, rfl⟩ := hm0.sl
  clear hm0
  generalize decide (pz top < 0) = na at *
  replace qR := qR.below b
  replace hb := bstep hb b
  replace hsz := Nat.lt_of_lt_of_le hsz b.size
  clear b
  obtain ⟨W4, hW4⟩ : ∃ W, W = w3.alloc (.cells #[.bool na, .slice ao al ac] 25) := ⟨_, rfl⟩
  have qA : ICell W4 (w3.heap.size) na (.slice ao al ac) := by rw [hW4]; exact (icell_new _ rfl)
  have b : Below w3.heap.size w3 W4 := by rw [hW4]; exact belowA _ _
  replace qR := qR.below b
  replace hb := bstep hb b
  replace hsz := Nat.lt_of_lt_of_le hsz b.size
  clear b
  have rqR0 : (w3.alloc (.cells #[.bool na, .slice ao al ac] 25)).cell? ⟨g, 0, none⟩ = some (.bool false) := by rw [← hW4]; exact qR.cells.1
  have rqR1 : (w3.alloc (.cells #[.bool na, .slice ao al ac] 25)).cell? ⟨g, 1, none⟩ = some (.slice none 0 0) := by rw [← hW4]; exact qR.cells.2.1
  have rqR2 : (w3.alloc (.cells #[.bool na, .slice ao al ac] 25)).cell? ⟨g, 2, none⟩ = some (.slice none 0 0) := by rw [← hW4]; exact qR.cells.2.2
  have rqA0 : (w3.alloc (.cells #[.bool na, .slice ao al ac] 25)).cell? ⟨w3.heap.size, 0, none⟩ = some (.bool na) := by rw [← hW4]; exact qA.cells.1
  have rqA1 : (w3.alloc (.cells #[.bool na, .slice ao al ac] 25)).cell? ⟨w3.heap.size, 1, none⟩ = some (.slice ao al ac) := by rw [← hW4]; exact qA.cells.2
  obtain ⟨v4, hv4⟩ : ∃ v, v = w3.heap.size := ⟨_, rfl⟩
  rw [← hv4] at qA
  have HW4 : Hid (W4 = w3.alloc (.cells #[.bool na, .slice ao al ac] 25)) := hW4
  have Hv4 : Hid (v4 = w3.heap.size) := hv4
  clear hW4 hv4
  go_wp2_with fail
  rw [← HW4.out, ← Hv4.out]
  clear HW4 Hv4 rqR0 rqR1 rqR2 rqA0 rqA1
  refine (hp2 _).mono ?_
  rintro e w5 ⟨u, rfl, hu, b⟩
  clear hp2
  obtain ⟨bo, bl, bc, rfl⟩ := hu.sl
  clear hu
  replace qR := qR.below b
  replace qA := qA.below b
  replace hb := bstep hb b
  replace hsz := Nat.lt_of_lt_of_le hsz b.size
  clear b
  have HE : Hid (Below w.heap.size w (((w5.setCell ⟨g, 0, none⟩ (.bool false)).setCell ⟨g, 1, none⟩ (.slice none 0 0)).setCell ⟨g, 2, none⟩ (.slice none 0 0))) := iend3 hb (by rw [HG.out]; omega)
  have HW : Hid (QCell (((w5.setCell ⟨g, 0, none⟩ (.bool false)).setCell ⟨g, 1, none⟩ (.slice none 0 0)).setCell ⟨g, 2, none⟩ (.slice none 0 0)) (g) false (.slice none 0 0) (.slice none 0 0)) := qR.write _ _ _
  obtain ⟨y0, y1, y2⟩ := qR.cells
  have f0 := qR.thaw 0
  have f1 := qR.thaw 1
  have f2 := qR.thaw 2
  have HPH : Hid _ := pt_no HNO.out HE.out
  clear hb hsz qR qA
  go_wp2_with fail
  (try simp only [Exit.inBlock, Exit.then])
  exact bodyPost_ret (results_ct (p := 2) (u := 3) rfl _ _ (g) 27 _ (0, 0) _ rfl HW.out Tryz.underlying27 rfl (by kernel_rfl)) rfl HPH.out
set_option maxRecDepth 100000 in
set_option maxHeartbeats 6400000 in
theorem fparse_f11 {s top bot : ByteArray} (w : World) (h : SP s top bot false) (hs : s.size ≤ 400) (ht : top.size ≤ 400) (hbs : (botF bot false).size ≤ 400) (ha : okT top) (hb2 : okB (botF bot false)) : Calls Tryz.prog 47 #[.string s] w fun e w' => PT w top (botF bot false) e w' := by
  have hcut := fun w => cut47 h (by omega) w
  have hp1 := fun w => c_parse2 top w (by omega)
  have hp2 := fun w => parse_any (botF bot false) w (by omega)
  clear h
  unfold ParseEnd at hp2
  have e1 : pe top = 0 := if_pos ha
  rw [e1] at hp1
  have e2 : (if DigOk (botF bot false) ∧ 0 < (botF bot false).size then (0 : Int) else 10) = 0 := if_pos hb2
  simp only [e2] at hp2
  clear e2
  simp only [if_pos (show DigOk (botF bot false) ∧ 0 < (botF bot false).size from hb2)] at hp2
  have HPY : Hid (∀ e w', TEx w (nS (pz top) (pQ (botF bot false))) (nE (pQ (botF bot false))) (nM (pz top) (pQ (botF bot false))) (nD (pz top) (pQ (botF bot false))) e w' → PT w top (botF bot false) e w') := fun e w' => pt_yes ⟨ha, hb2⟩
  have sp : Sz (pz top) 50 := ⟨by rw [show pz top = zv (strk top) (bval (dgs (tail top))) from if_pos ha, zv_abs]; exact dgs_lt ha.1 50 (by have := tail_le top; omega)⟩
  have lq : (lim (bval (dgs (botF bot false)))).length ≤ 50 := lim_len_le (dgs_lt hb2.1 50 (by omega))
  have eq : pQ (botF bot false) = ((bval (dgs (botF bot false)) : Nat) : Int) := rfl
  rw [eq] at HPY
  obtain ⟨p, hp⟩ : ∃ p, p = pz top := ⟨_, rfl⟩
  rw [← hp] at HPY hp1 sp
  clear hp eq
  generalize bval (dgs (botF bot false)) = bq at *
  clear e1 ha hb2
  obtain ⟨W1, hW1⟩ : ∃ W1, W1 = w.alloc (.cells #[.bool false, .slice none 0 0, .slice none 0 0] 27) := ⟨_, rfl⟩
  have qR : QCell W1 (w.heap.size) false (.slice none 0 0) (.slice none 0 0) := by rw [hW1]; exact (qcell_new _ (by simp))
  have hb : Below w.heap.size w W1 := by rw [hW1]; exact belowA w _
  have hsz : w.heap.size < W1.heap.size := by rw [hW1]; simp
  have HW1 : Hid (W1 = w.alloc (.cells #[.bool false, .slice none 0 0, .slice none 0 0] 27)) := hW1
  clear hW1
  go_enter Tryz.func47, Tryz.ntmps47
  go_wp2_with fail
  rw [← HW1.out]
  clear HW1
  obtain ⟨g, hg⟩ : ∃ g, g = w.heap.size := ⟨_, rfl⟩
  rw [← hg] at qR hsz ⊢
  have HG : Hid (g = w.heap.size) := hg
  clear hg
  refine (hcut _).mono ?_
  rintro e w2 ⟨rfl, b⟩
  replace qR := qR.below b
  replace hb := bstep hb b
  replace hsz := Nat.lt_of_lt_of_le hsz b.size
  clear b
  clear hcut
  obtain ⟨cqR0, cqR1, cqR2⟩ := qR.cells
  go_wp2_with fail
  clear cqR0 cqR1 cqR2
  refine (hp1 _).mono ?_
  rintro e w3 ⟨v, rfl, hv, b⟩
  clear hp1
  obtain ⟨na, ao, al, ac, rfl, ia⟩ := hv.see sp (by decide)
  clear hv
  replace qR := qR.below b
  replace hb := bstep hb b
  replace hsz := Nat.lt_of_lt_of_le hsz b.size
  clear b
  obtain ⟨W4, hW4⟩ : ∃ W, W = w3.alloc (.cells #[.bool na, .slice ao al ac] 25) := ⟨_, rfl⟩
  have qA : ICell W4 (w3.heap.size) na (.slice ao al ac) := by rw [hW4]; exact (icell_new _ rfl)
  have b : Below w3.heap.size w3 W4 := by rw [hW4]; exact belowA _ _
  replace ia := ia.below b
  replace qR := qR.below b
  replace hb := bstep hb b
  replace hsz := Nat.lt_of_lt_of_le hsz b.size
  clear b
  have rqR0 : (w3.alloc (.cells #[.bool na, .slice ao al ac] 25)).cell? ⟨g, 0, none⟩ = some (.bool false) := by rw [← hW4]; exact qR.cells.1
  have rqR1 : (w3.alloc (.cells #[.bool na, .slice ao al ac] 25)).cell? ⟨g, 1, none⟩ = some (.slice none 0 0) := by rw [← hW4]; exact qR.cells.2.1
  have rqR2 : (w3.alloc (.cells #[.bool na, .slice ao al ac] 25)).cell? ⟨g, 2, none⟩ = some (.slice none 0 0) := by rw [← hW4]; exact qR.cells.2.2
  have rqA0 : (w3.alloc (.cells #[.bool na, .slice ao al ac] 25)).cell? ⟨w3.heap.size, 0, none⟩ = some (.bool na) := by rw [← hW4]; exact qA.cells.1
  have rqA1 : (w3.alloc (.cells #[.bool na, .slice ao al ac] 25)).cell? ⟨w3.heap.size, 1, none⟩ = some (.slice ao al ac) := by rw [← hW4]; exact qA.cells.2
  obtain ⟨v4, hv4⟩ : ∃ v, v = w3.heap.size := ⟨_, rfl⟩
  rw [← hv4] at qA
  have HW4 : Hid (W4 = w3.alloc (.cells #[.bool na, .slice ao al ac] 25)) := hW4
  have Hv4 : Hid (v4 = w3.heap.size) := hv4
  clear hW4 hv4
  go_wp2_with fail
  rw [← HW4.out, ← Hv4.out]
  clear HW4 Hv4 rqR0 rqR1 rqR2 rqA0 rqA1
  refine (hp2 _).mono ?_
  rintro e w5 ⟨u, rfl, hu, b⟩
  clear hp2
  obtain ⟨bo, bl, bc, rfl⟩ := hu.sl
  have ub := hu.num
  clear hu
  replace ia := ia.below b
  replace qR := qR.below b
  replace qA := qA.below b
  replace hb := bstep hb b
  replace hsz := Nat.lt_of_lt_of_le hsz b.size
  clear b
  obtain ⟨cqR0, cqR1, cqR2⟩ := qR.cells
  obtain ⟨cqA0, cqA1⟩ := qA.cells
  go_wp2_with fail
  clear cqR0 cqR1 cqR2 cqA0 cqA1
  have ib : INum w5 (.agg #[.bool false, .slice bo bl bc]) (bq : Int) := ⟨_, _, _, _, _, rfl, ub, by omega, by rw [val_lim]; rfl⟩
  obtain ⟨q, hqq⟩ : ∃ q : Int, q = (bq : Int) := ⟨_, rfl⟩
  rw [← hqq] at ib HPY
  clear hqq
  have hq := (newF ia ib).mono fun _ _ h => h.x
  clear ib lq sp
  have hszz := hsz
  refine (hq).mono ?_
  rintro e w6 ⟨mo, mc, dO, dC, rfl, hm, hd, hap, b⟩
  clear hq
  replace ia := ia.below b
  replace ub := ub.below (Nat.le_refl _) b
  replace qR := qR.below b
  replace qA := qA.below b
  replace hb := bstep hb b
  replace hsz := Nat.lt_of_lt_of_le hsz b.size
  clear b
  have HE : Hid (TEx w (nS p q) (nE q) (nM p q) (nD p q) (.returned (.tuple #[.agg #[.bool (nS p q), .slice mo (nM p q).length mc, .slice dO (nD p q).length dC], .int .i64 (nE q)])) (((w6.setCell ⟨g, 0, none⟩ (.bool (nS p q))).setCell ⟨g, 1, none⟩ (.slice mo (nM p q).length mc)).setCell ⟨g, 2, none⟩ (.slice dO (nD p q).length dC))) := tex_done (by rw [HG.out]; omega) hm hd hap hszz hb
  have HW : Hid (QCell (((w6.setCell ⟨g, 0, none⟩ (.bool (nS p q))).setCell ⟨g, 1, none⟩ (.slice mo (nM p q).length mc)).setCell ⟨g, 2, none⟩ (.slice dO (nD p q).length dC)) (g) (nS p q) (.slice mo (nM p q).length mc) (.slice dO (nD p q).length dC)) := qR.write _ _ _
  obtain ⟨y0, y1, y2⟩ := qR.cells
  have f0 := qR.thaw 0
  have f1 := qR.thaw 1
  have f2 := qR.thaw 2
  have HPT := HPY.out _ _ HE.out
  have HPH : Hid _ := HPT
  clear HPT HE hap hm hd HPY
  generalize (nM p q).length = lm at *
  generalize (nD p q).length = ld at *
  generalize nS p q = s1 at *
  generalize nE q = e1 at *
  clear hb hsz hszz qR qA ia ub
  go_wp2_with fail
  (try simp only [Exit.inBlock, Exit.then])
  exact bodyPost_ret (results_ct (p := 2) (u := 3) rfl _ _ (g) 27 _ (0, 0) _ rfl HW.out Tryz.underlying27 rfl (by kernel_rfl)) rfl HPH.out
set_option maxRecDepth 100000 in
set_option maxHeartbeats 6400000 in
theorem fparse_t00 {s top bot : ByteArray} (w : World) (h : SP s top bot true) (hs : s.size ≤ 400) (ht : top.size ≤ 400) (hbs : (botF bot true).size ≤ 400) (ha : ¬ okT top) : Calls Tryz.prog 47 #[.string s] w fun e w' => PT w top (botF bot true) e w' := by
  have hcut := fun w => cut47 h (by omega) w
  have hp1 := fun w => c_parse2 top w (by omega)
  have hp2 := fun w => parse_any (botF bot true) w (by omega)
  clear h
  unfold ParseEnd at hp2
  have e1 : pe top = 10 := if_neg ha
  rw [e1] at hp1
  have HNO : Hid (¬ (okT top ∧ okB (botF bot true))) := fun hh => ha hh.1
  clear hp2
  clear e1 ha
  obtain ⟨W1, hW1⟩ : ∃ W1, W1 = w.alloc (.cells #[.bool false, .slice none 0 0, .slice none 0 0] 27) := ⟨_, rfl⟩
  have qR : QCell W1 (w.heap.size) false (.slice none 0 0) (.slice none 0 0) := by rw [hW1]; exact (qcell_new _ (by simp))
  have hb : Below w.heap.size w W1 := by rw [hW1]; exact belowA w _
  have hsz : w.heap.size < W1.heap.size := by rw [hW1]; simp
  have HW1 : Hid (W1 = w.alloc (.cells #[.bool false, .slice none 0 0, .slice none 0 0] 27)) := hW1
  clear hW1
  go_enter Tryz.func47, Tryz.ntmps47
  go_wp2_with fail
  rw [← HW1.out]
  clear HW1
  obtain ⟨g, hg⟩ : ∃ g, g = w.heap.size := ⟨_, rfl⟩
  rw [← hg] at qR hsz ⊢
  have HG : Hid (g = w.heap.size) := hg
  clear hg
  refine (hcut _).mono ?_
  rintro e w2 ⟨rfl, b⟩
  replace qR := qR.below b
  replace hb := bstep hb b
  replace hsz := Nat.lt_of_lt_of_le hsz b.size
  clear b
  clear hcut
  obtain ⟨cqR0, cqR1, cqR2⟩ := qR.cells
  go_wp2_with fail
  clear cqR0 cqR1 cqR2
  refine (hp1 _).mono ?_
  rintro e w3 ⟨v, rfl, hv, b⟩
  clear hp1
  obtain ⟨m, rfl, hm0⟩ := hv
  obtain ⟨ao, al, ac, rfl⟩ := hm0.sl
  clear hm0
  generalize decide (pz top < 0) = na at *
  replace qR := qR.below b
  replace hb := bstep hb b
  replace hsz := Nat.lt_of_lt_of_le hsz b.size
  clear b
  have b : Below w3.heap.size w3 (w3.alloc (.cells #[.bool na, .slice ao al ac] 25)) := belowA _ _
  have qZ := qR.below b
  have hbZ := bstep hb b
  clear b
  have HE : Hid (Below w.heap.size w ((((w3.alloc (.cells #[.bool na, .slice ao al ac] 25)).setCell ⟨g, 0, none⟩ (.bool false)).setCell ⟨g, 1, none⟩ (.slice none 0 0)).setCell ⟨g, 2, none⟩ (.slice none 0 0))) := iend3 hbZ (by rw [HG.out]; omega)
  have HW : Hid (QCell ((((w3.alloc (.cells #[.bool na, .slice ao al ac] 25)).setCell ⟨g, 0, none⟩ (.bool false)).setCell ⟨g, 1, none⟩ (.slice none 0 0)).setCell ⟨g, 2, none⟩ (.slice none 0 0)) (g) false (.slice none 0 0) (.slice none 0 0)) := qZ.write _ _ _
  obtain ⟨y0, y1, y2⟩ := qZ.cells
  have f0 := qZ.thaw 0
  have f1 := qZ.thaw 1
  have f2 := qZ.thaw 2
  have HPH : Hid _ := pt_no HNO.out HE.out
  clear hb hsz hbZ qZ qR
  go_wp2_with fail
  (try simp only [Exit.inBlock, Exit.then])
  exact bodyPost_ret (results_ct (p := 2) (u := 3) rfl _ _ (g) 27 _ (0, 0) _ rfl HW.out Tryz.underlying27 rfl (by kernel_rfl)) rfl HPH.out
set_option maxRecDepth 100000 in
set_option maxHeartbeats 6400000 in
theorem fparse_t10 {s top bot : ByteArray} (w : World) (h : SP s top bot true) (hs : s.size ≤ 400) (ht : top.size ≤ 400) (hbs : (botF bot true).size ≤ 400) (ha : okT top) (hb2 : ¬ okB (botF bot true)) : Calls Tryz.prog 47 #[.string s] w fun e w' => PT w top (botF bot true) e w' := by
  have hcut := fun w => cut47 h (by omega) w
  have hp1 := fun w => c_parse2 top w (by omega)
  have hp2 := fun w => parse_any (botF bot true) w (by omega)
  clear h
  unfold ParseEnd at hp2
  have e1 : pe top = 0 := if_pos ha
  rw [e1] at hp1
  have e2 : (if DigOk (botF bot true) ∧ 0 < (botF bot true).size then (0 : Int) else 10) = 10 := if_neg hb2
  simp only [e2] at hp2
  clear e2
  have HNO : Hid (¬ (okT top ∧ okB (botF bot true))) := fun hh => hb2 hh.2
  clear e1 ha hb2
  obtain ⟨W1, hW1⟩ : ∃ W1, W1 = w.alloc (.cells #[.bool false, .slice none 0 0, .slice none 0 0] 27) := ⟨_, rfl⟩
  have qR : QCell W1 (w.heap.size) false (.slice none 0 0) (.slice none 0 0) := by rw [hW1]; exact (qcell_new _ (by simp))
  have hb : Below w.heap.size w W1 := by rw [hW1]; exact belowA w _
  have hsz : w.heap.size < W1.heap.size := by rw [hW1]; simp
  have HW1 : Hid (W1 = w.alloc (.cells #[.bool false, .slice none 0 0, .slice none 0 0] 27)) := hW1
  clear hW1
  go_enter Tryz.func47, Tryz.ntmps47
  go_wp2_with fail
  rw [← HW1.out]
  clear HW1
  obtain ⟨g, hg⟩ : ∃ g, g = w.heap.size := ⟨_, rfl⟩
  rw [← hg] at qR hsz ⊢
  have HG : Hid (g = w.heap.size) := hg
  clear hg
  refine (hcut _).mono ?_
  rintro e w2 ⟨rfl, b⟩
  replace qR := qR.below b
  replace hb := bstep hb b
  replace hsz := Nat.lt_of_lt_of_le hsz b.size
  clear b
  clear hcut
  obtain ⟨cqR0, cqR1, cqR2⟩ := qR.cells
  go_wp2_with fail
  clear cqR0 cqR1 cqR2
  refine (hp1 _).mono ?_
  rintro e w3 ⟨v, rfl, hv, b⟩
  clear hp1
  obtain ⟨m, rfl, hm0⟩ := hv
  obtain ⟨ao, al, ac, rfl⟩ := hm0.sl
  clear hm0
  generalize decide (pz top < 0) = na at *
  replace qR := qR.below b
  replace hb := bstep hb b
  replace hsz := Nat.lt_of_lt_of_le hsz b.size
  clear b
  obtain ⟨W4, hW4⟩ : ∃ W, W = w3.alloc (.cells #[.bool na, .slice ao al ac] 25) := ⟨_, rfl⟩
  have qA : ICell W4 (w3.heap.size) na (.slice ao al ac) := by rw [hW4]; exact (icell_new _ rfl)
  have b : Below w3.heap.size w3 W4 := by rw [hW4]; exact belowA _ _
  replace qR := qR.below b
  replace hb := bstep hb b
  replace hsz := Nat.lt_of_lt_of_le hsz b.size
  clear b
  have rqR0 : (w3.alloc (.cells #[.bool na, .slice ao al ac] 25)).cell? ⟨g, 0, none⟩ = some (.bool false) := by rw [← hW4]; exact qR.cells.1
  have rqR1 : (w3.alloc (.cells #[.bool na, .slice ao al ac] 25)).cell? ⟨g, 1, none⟩ = some (.slice none 0 0) := by rw [← hW4]; exact qR.cells.2.1
  have rqR2 : (w3.alloc (.cells #[.bool na, .slice ao al ac] 25)).cell? ⟨g, 2, none⟩ = some (.slice none 0 0) := by rw [← hW4]; exact qR.cells.2.2
  have rqA0 : (w3.alloc (.cells #[.bool na, .slice ao al ac] 25)).cell? ⟨w3.heap.size, 0, none⟩ = some (.bool na) := by rw [← hW4]; exact qA.cells.1
  have rqA1 : (w3.alloc (.cells #[.bool na, .slice ao al ac] 25)).cell? ⟨w3.heap.size, 1, none⟩ = some (.slice ao al ac) := by rw [← hW4]; exact qA.cells.2
  obtain ⟨v4, hv4⟩ : ∃ v, v = w3.heap.size := ⟨_, rfl⟩
  rw [← hv4] at qA
  have HW4 : Hid (W4 = w3.alloc (.cells #[.bool na, .slice ao al ac] 25)) := hW4
  have Hv4 : Hid (v4 = w3.heap.size) := hv4
  clear hW4 hv4
  go_wp2_with fail
  rw [← HW4.out, ← Hv4.out]
  clear HW4 Hv4 rqR0 rqR1 rqR2 rqA0 rqA1
  refine (hp2 _).mono ?_
  rintro e w5 ⟨u, rfl, hu, b⟩
  clear hp2
  obtain ⟨bo, bl, bc, rfl⟩ := hu.sl
  clear hu
  replace qR := qR.below b
  replace qA := qA.below b
  replace hb := bstep hb b
  replace hsz := Nat.lt_of_lt_of_le hsz b.size
  clear b
  have HE : Hid (Below w.heap.size w (((w5.setCell ⟨g, 0, none⟩ (.bool false)).setCell ⟨g, 1, none⟩ (.slice none 0 0)).setCell ⟨g, 2, none⟩ (.slice none 0 0))) := iend3 hb (by rw [HG.out]; omega)
  have HW : Hid (QCell (((w5.setCell ⟨g, 0, none⟩ (.bool false)).setCell ⟨g, 1, none⟩ (.slice none 0 0)).setCell ⟨g, 2, none⟩ (.slice none 0 0)) (g) false (.slice none 0 0) (.slice none 0 0)) := qR.write _ _ _
  obtain ⟨y0, y1, y2⟩ := qR.cells
  have f0 := qR.thaw 0
  have f1 := qR.thaw 1
  have f2 := qR.thaw 2
  have HPH : Hid _ := pt_no HNO.out HE.out
  clear hb hsz qR qA
  go_wp2_with fail
  (try simp only [Exit.inBlock, Exit.then])
  exact bodyPost_ret (results_ct (p := 2) (u := 3) rfl _ _ (g) 27 _ (0, 0) _ rfl HW.out Tryz.underlying27 rfl (by kernel_rfl)) rfl HPH.out
set_option maxRecDepth 100000 in
set_option maxHeartbeats 6400000 in
theorem fparse_t11 {s top bot : ByteArray} (w : World) (h : SP s top bot true) (hs : s.size ≤ 400) (ht : top.size ≤ 400) (hbs : (botF bot true).size ≤ 400) (ha : okT top) (hb2 : okB (botF bot true)) : Calls Tryz.prog 47 #[.string s] w fun e w' => PT w top (botF bot true) e w' := by
  have hcut := fun w => cut47 h (by omega) w
  have hp1 := fun w => c_parse2 top w (by omega)
  have hp2 := fun w => parse_any (botF bot true) w (by omega)
  clear h
  unfold ParseEnd at hp2
  have e1 : pe top = 0 := if_pos ha
  rw [e1] at hp1
  have e2 : (if DigOk (botF bot true) ∧ 0 < (botF bot true).size then (0 : Int) else 10) = 0 := if_pos hb2
  simp only [e2] at hp2
  clear e2
  simp only [if_pos (show DigOk (botF bot true) ∧ 0 < (botF bot true).size from hb2)] at hp2
  have HPY : Hid (∀ e w', TEx w (nS (pz top) (pQ (botF bot true))) (nE (pQ (botF bot true))) (nM (pz top) (pQ (botF bot true))) (nD (pz top) (pQ (botF bot true))) e w' → PT w top (botF bot true) e w') := fun e w' => pt_yes ⟨ha, hb2⟩
  have sp : Sz (pz top) 50 := ⟨by rw [show pz top = zv (strk top) (bval (dgs (tail top))) from if_pos ha, zv_abs]; exact dgs_lt ha.1 50 (by have := tail_le top; omega)⟩
  have lq : (lim (bval (dgs (botF bot true)))).length ≤ 50 := lim_len_le (dgs_lt hb2.1 50 (by omega))
  have eq : pQ (botF bot true) = ((bval (dgs (botF bot true)) : Nat) : Int) := rfl
  rw [eq] at HPY
  obtain ⟨p, hp⟩ : ∃ p, p = pz top := ⟨_, rfl⟩
  rw [← hp] at HPY hp1 sp
  clear hp eq
  generalize bval (dgs (botF bot true)) = bq at *
  clear e1 ha hb2
  obtain ⟨W1, hW1⟩ : ∃ W1, W1 = w.alloc (.cells #[.bool false, .slice none 0 0, .slice none 0 0] 27) := ⟨_, rfl⟩
  have qR : QCell W1 (w.heap.size) false (.slice none 0 0) (.slice none 0 0) := by rw [hW1]; exact (qcell_new _ (by simp))
  have hb : Below w.heap.size w W1 := by rw [hW1]; exact belowA w _
  have hsz : w.heap.size < W1.heap.size := by rw [hW1]; simp
  have HW1 : Hid (W1 = w.alloc (.cells #[.bool false, .slice none 0 0, .slice none 0 0] 27)) := hW1
  clear hW1
  go_enter Tryz.func47, Tryz.ntmps47
  go_wp2_with fail
  rw [← HW1.out]
  clear HW1
  obtain ⟨g, hg⟩ : ∃ g, g = w.heap.size := ⟨_, rfl⟩
  rw [← hg] at qR hsz ⊢
  have HG : Hid (g = w.heap.size) := hg
  clear hg
  refine (hcut _).mono ?_
  rintro e w2 ⟨rfl, b⟩
  replace qR := qR.below b
  replace hb := bstep hb b
  replace hsz := Nat.lt_of_lt_of_le hsz b.size
  clear b
  clear hcut
  obtain ⟨cqR0, cqR1, cqR2⟩ := qR.cells
  go_wp2_with fail
  clear cqR0 cqR1 cqR2
  refine (hp1 _).mono ?_
  rintro e w3 ⟨v, rfl, hv, b⟩
  clear hp1
  obtain ⟨na, ao, al, ac, rfl, ia⟩ := hv.see sp (by decide)
  clear hv
  replace qR := qR.below b
  replace hb := bstep hb b
  replace hsz := Nat.lt_of_lt_of_le hsz b.size
  clear b
  obtain ⟨W4, hW4⟩ : ∃ W, W = w3.alloc (.cells #[.bool na, .slice ao al ac] 25) := ⟨_, rfl⟩
  have qA : ICell W4 (w3.heap.size) na (.slice ao al ac) := by rw [hW4]; exact (icell_new _ rfl)
  have b : Below w3.heap.size w3 W4 := by rw [hW4]; exact belowA _ _
  replace ia := ia.below b
  replace qR := qR.below b
  replace hb := bstep hb b
  replace hsz := Nat.lt_of_lt_of_le hsz b.size
  clear b
  have rqR0 : (w3.alloc (.cells #[.bool na, .slice ao al ac] 25)).cell? ⟨g, 0, none⟩ = some (.bool false) := by rw [← hW4]; exact qR.cells.1
  have rqR1 : (w3.alloc (.cells #[.bool na, .slice ao al ac] 25)).cell? ⟨g, 1, none⟩ = some (.slice none 0 0) := by rw [← hW4]; exact qR.cells.2.1
  have rqR2 : (w3.alloc (.cells #[.bool na, .slice ao al ac] 25)).cell? ⟨g, 2, none⟩ = some (.slice none 0 0) := by rw [← hW4]; exact qR.cells.2.2
  have rqA0 : (w3.alloc (.cells #[.bool na, .slice ao al ac] 25)).cell? ⟨w3.heap.size, 0, none⟩ = some (.bool na) := by rw [← hW4]; exact qA.cells.1
  have rqA1 : (w3.alloc (.cells #[.bool na, .slice ao al ac] 25)).cell? ⟨w3.heap.size, 1, none⟩ = some (.slice ao al ac) := by rw [← hW4]; exact qA.cells.2
  obtain ⟨v4, hv4⟩ : ∃ v, v = w3.heap.size := ⟨_, rfl⟩
  rw [← hv4] at qA
  have HW4 : Hid (W4 = w3.alloc (.cells #[.bool na, .slice ao al ac] 25)) := hW4
  have Hv4 : Hid (v4 = w3.heap.size) := hv4
  clear hW4 hv4
  go_wp2_with fail
  rw [← HW4.out, ← Hv4.out]
  clear HW4 Hv4 rqR0 rqR1 rqR2 rqA0 rqA1
  refine (hp2 _).mono ?_
  rintro e w5 ⟨u, rfl, hu, b⟩
  clear hp2
  obtain ⟨bo, bl, bc, rfl⟩ := hu.sl
  have ub := hu.num
  clear hu
  replace ia := ia.below b
  replace qR := qR.below b
  replace qA := qA.below b
  replace hb := bstep hb b
  replace hsz := Nat.lt_of_lt_of_le hsz b.size
  clear b
  obtain ⟨cqR0, cqR1, cqR2⟩ := qR.cells
  obtain ⟨cqA0, cqA1⟩ := qA.cells
  go_wp2_with fail
  clear cqR0 cqR1 cqR2 cqA0 cqA1
  have ib : INum w5 (.agg #[.bool false, .slice bo bl bc]) (bq : Int) := ⟨_, _, _, _, _, rfl, ub, by omega, by rw [val_lim]; rfl⟩
  obtain ⟨q, hqq⟩ : ∃ q : Int, q = (bq : Int) := ⟨_, rfl⟩
  rw [← hqq] at ib HPY
  clear hqq
  have hq := (newF ia ib).mono fun _ _ h => h.x
  clear ib lq sp
  have hszz := hsz
  refine (hq).mono ?_
  rintro e w6 ⟨mo, mc, dO, dC, rfl, hm, hd, hap, b⟩
  clear hq
  replace ia := ia.below b
  replace ub := ub.below (Nat.le_refl _) b
  replace qR := qR.below b
  replace qA := qA.below b
  replace hb := bstep hb b
  replace hsz := Nat.lt_of_lt_of_le hsz b.size
  clear b
  have HE : Hid (TEx w (nS p q) (nE q) (nM p q) (nD p q) (.returned (.tuple #[.agg #[.bool (nS p q), .slice mo (nM p q).length mc, .slice dO (nD p q).length dC], .int .i64 (nE q)])) (((w6.setCell ⟨g, 0, none⟩ (.bool (nS p q))).setCell ⟨g, 1, none⟩ (.slice mo (nM p q).length mc)).setCell ⟨g, 2, none⟩ (.slice dO (nD p q).length dC))) := tex_done (by rw [HG.out]; omega) hm hd hap hszz hb
  have HW : Hid (QCell (((w6.setCell ⟨g, 0, none⟩ (.bool (nS p q))).setCell ⟨g, 1, none⟩ (.slice mo (nM p q).length mc)).setCell ⟨g, 2, none⟩ (.slice dO (nD p q).length dC)) (g) (nS p q) (.slice mo (nM p q).length mc) (.slice dO (nD p q).length dC)) := qR.write _ _ _
  obtain ⟨y0, y1, y2⟩ := qR.cells
  have f0 := qR.thaw 0
  have f1 := qR.thaw 1
  have f2 := qR.thaw 2
  have HPT := HPY.out _ _ HE.out
  have HPH : Hid _ := HPT
  clear HPT HE hap hm hd HPY
  generalize (nM p q).length = lm at *
  generalize (nD p q).length = ld at *
  generalize nS p q = s1 at *
  generalize nE q = e1 at *
  clear hb hsz hszz qR qA ia ub
  go_wp2_with fail
  (try simp only [Exit.inBlock, Exit.then])
  exact bodyPost_ret (results_ct (p := 2) (u := 3) rfl _ _ (g) 27 _ (0, 0) _ rfl HW.out Tryz.underlying27 rfl (by kernel_rfl)) rfl HPH.out
theorem sp_sizes {s top bot : ByteArray} {st : Bool} (h : SP s top bot st) (hs : s.size ≤ 400) : top.size ≤ 400 ∧ (botF bot st).size ≤ 400 := by
  cases st with
  | false => obtain ⟨rfl, rfl, _⟩ := h; exact ⟨hs, by decide⟩
  | true =>
    obtain ⟨k, h1, _, _, rfl, rfl⟩ := h
    exact ⟨by rw [ByteArray.size_extract]; omega, by show (s.extract (k + 1) s.size).size ≤ 400; rw [ByteArray.size_extract]; omega⟩
theorem fparse {s top bot : ByteArray} {st : Bool} (w : World) (h : SP s top bot st) (hs : s.size ≤ 400) : Calls Tryz.prog 47 #[.string s] w fun e w' => PT w top (botF bot st) e w' := by
  obtain ⟨h1, h2⟩ := sp_sizes h hs
  cases st with
  | false =>
    by_cases ha : okT top
    · by_cases hb : okB (botF bot false)
      · exact fparse_f11 w h hs h1 h2 ha hb
      · exact fparse_f10 w h hs h1 h2 ha hb
    · exact fparse_f00 w h hs h1 h2 ha
  | true =>
    by_cases ha : okT top
    · by_cases hb : okB (botF bot true)
      · exact fparse_t11 w h hs h1 h2 ha hb
      · exact fparse_t10 w h hs h1 h2 ha hb
    · exact fparse_t00 w h hs h1 h2 ha
end Go.Proofs.YtcmclmhfjmmffaaGreatDoor

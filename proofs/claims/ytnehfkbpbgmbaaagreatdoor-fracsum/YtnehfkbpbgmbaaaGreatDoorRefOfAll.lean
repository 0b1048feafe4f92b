/-
  Proved here: what Floor of package whole answers. Proved here: what a step of Bezout in package whole answers. Proved here: what onSideOf of package whole answers; plain facts on Euclid's rows. Proved here: what Bezout of package whole answers.
  Proved here: what Parse of package whole answers. Proved here: alive of credencelaw02 answers yes. Proved here: what the small functions of credencelaw02 answer.
  Proved here: plain facts on texts with a stroke ahead, and on noughts ahead of digits. No condition.
  Proved here: what Same answers of two numbers that are one.
  Proved here: what the plain way's Parse answers.
  Proved here: what Make, Same and Parse of the plain way over whole numbers answer.
  Proved here: what Int of package whole answers of a number that is an int.
  Proved here: what the plain way's ten answers.
  Proved here: what the plain way's Text answers.
  Proved here: what the plain way's Of answers.
-/
import Derived.Test.YtnehfkbpbgmbaaaGreatDoorWholeX1
import Derived.Test.YtnehfkbpbgmbaaaGreatDoorLate
import Derived.Test.YtnehfkbpbgmbaaaGreatDoorValAtAll
import Derived.Test.YtnehfkbpbgmbaaaGreatDoorTrimLAll
import Derived.Test.YtnehfkbpbgmbaaaGreatDoorWholeDAll
import Derived.Laws.Strings
import Derived.Test.YtnehfkbpbgmbaaaGreatDoorTrimAll
import Derived.Test.YtnehfkbpbgmbaaaGreatDoorSubAll
import Derived.Test.YtnehfkbpbgmbaaaGreatDoorWholeBAll
import Derived.Test.YtnehfkbpbgmbaaaGreatDoorDivMathAll
import Derived.Test.YtnehfkbpbgmbaaaGreatDoorLiftAll
import Derived.Test.YtnehfkbpbgmbaaaGreatDoorTextAll
namespace Go.Proofs.YtnehfkbpbgmbaaaGreatDoor
open Go.RowKit
attribute [local go_sem ↓] Go.wp_at_zero Go.wp_at_succ

theorem INum.sz {w : World} {v : Value} {z : Int} (h : INum w v z) : Sz z 1000000 := by
  obtain ⟨neg, ao, n, cap, xs, rfl, h1, h2, rfl⟩ := h
  exact Sz.of_num h1 h2
theorem INum.mk' {B : Nat} {w : World} {m : Value} {z : Int} (h : Own B 67 w m (lim z.natAbs)) (hs : Sz z 1000000) : INum w (.agg #[.bool (decide (z < 0)), m]) z := IOwn.num ⟨m, rfl, h⟩ hs (Nat.le_refl _)
/-- Whether rounding towards 0 went up. -/
def fup (x y : Int) : Prop := cmpZ (rz x y) 0 * cmpZ y 0 < 0
instance (x y : Int) : Decidable (fup x y) := inferInstanceAs (Decidable (_ < _))
def fr (x y : Int) : Int := if fup x y then rz x y + y else rz x y
end Go.Proofs.YtnehfkbpbgmbaaaGreatDoor

namespace Go.Proofs.YtnehfkbpbgmbaaaGreatDoor
open Go.RowKit
attribute [local go_sem ↓] Go.wp_at_zero Go.wp_at_succ

section
variable {w w' : World} {g : Nat} {n0 n1 n2 : Bool} {m0 m1 m2 : Value}
end
/-- A number in a row of the call's own that lies elsewhere. -/
def Away (w : World) (g : Nat) (v : Value) (z : Int) : Prop := ∃ neg m xs, v = .agg #[.bool neg, m] ∧ Own (g + 1) 67 w m xs ∧ xs.length ≤ 1000000 ∧ zv neg (val xs) = z
theorem Away.num {w : World} {g : Nat} {v : Value} {z : Int} (h : Away w g v z) : INum w v z := by
  obtain ⟨neg, m, xs, rfl, ho, hl, hz⟩ := h
  obtain ⟨ao, n, cap, rfl⟩ := ho.sl
  exact ⟨_, _, _, _, _, rfl, ho.num, hl, hz⟩
theorem Away.mono {w : World} {g g2 : Nat} {v : Value} {z : Int} (h : Away w g v z) (hg : g2 ≤ g) : Away w g2 v z := by
  obtain ⟨neg, m, xs, e, ho, hl, hz⟩ := h
  exact ⟨neg, m, xs, e, ho.mono (by omega), hl, hz⟩
theorem Away.below {w w' : World} {g : Nat} {v : Value} {z : Int} (h : Away w g v z) (hb : Below w.heap.size w w') : Away w' g v z := by
  obtain ⟨neg, m, xs, e, ho, hl, hz⟩ := h
  exact ⟨neg, m, xs, e, ho.below hb, hl, hz⟩
theorem Away.set {w : World} {g g2 : Nat} {v : Value} {z : Int} (h : Away w g v z) (hg : g2 ≤ g) (k : Nat) (u : Value) : Away (w.setCell ⟨g2, k, none⟩ u) g v z := by
  obtain ⟨neg, m, xs, e, ho, hl, hz⟩ := h
  refine ⟨neg, m, xs, e, ho.other u ?_, hl, hz⟩
  cases hm : m.ownBlock with
  | none => exact Or.inl rfl
  | some j =>
    right
    intro e
    rw [Option.some.injEq] at e
    have := (ho.block j hm).1
    omega
/-- A row of three numbers, each away from a block. -/
def Row3 (w : World) (g : Nat) (n0 : Bool) (m0 : Value) (n1 : Bool) (m1 : Value) (n2 : Bool) (m2 : Value) (r s t : Int) : Prop := Away w g (.agg #[.bool n0, m0]) r ∧ Away w g (.agg #[.bool n1, m1]) s ∧ Away w g (.agg #[.bool n2, m2]) t
theorem Row3.below {w w' : World} {g : Nat} {n0 : Bool} {m0 : Value} {n1 : Bool} {m1 : Value} {n2 : Bool} {m2 : Value} {r s t : Int} (h : Row3 w g n0 m0 n1 m1 n2 m2 r s t) (hb : Below w.heap.size w w') : Row3 w' g n0 m0 n1 m1 n2 m2 r s t := ⟨h.1.below hb, h.2.1.below hb, h.2.2.below hb⟩
theorem Away.sl {w : World} {g : Nat} {n : Bool} {m : Value} {z : Int} (h : Away w g (.agg #[.bool n, m]) z) : ∃ ao k cap, m = .slice ao k cap := by
  obtain ⟨neg, m', xs, e, ho, _, _⟩ := h
  simp only [Value.agg.injEq, Array.mk.injEq, List.cons.injEq, Value.bool.injEq, and_true] at e
  obtain ⟨_, rfl⟩ := e
  exact ho.sl

end Go.Proofs.YtnehfkbpbgmbaaaGreatDoor

namespace Go.Proofs.YtnehfkbpbgmbaaaGreatDoor
open Go.RowKit
attribute [local go_sem ↓] Go.wp_at_zero Go.wp_at_succ

/-- A number's limbs lie in no block ahead of B. -/
def Fr (v : Value) (B : Nat) : Prop := ∀ n b off s l c, v = .agg #[.bool n, .slice (some ⟨b, off, s⟩) l c] → B ≤ b
theorem Fr.of_own {B C : Nat} {w : World} {n : Bool} {m : Value} {xs : List Nat} (h : Own C 67 w m xs) (hB : B ≤ C) : Fr (.agg #[.bool n, m]) B := by
  intro n' b off s l c e
  simp only [Value.agg.injEq, Array.mk.injEq, List.cons.injEq, Value.bool.injEq, and_true] at e
  have hk : m.ownBlock = some b := by rw [e.2]; rfl
  have := (h.block b hk).1
  omega
theorem iend2 {w wr : World} {g : Nat} {v0 v1 : Value} (hb : Below w.heap.size w wr) (hg : w.heap.size ≤ g) : Below w.heap.size w ((wr.setCell ⟨g, 0, none⟩ v0).setCell ⟨g, 1, none⟩ v1) := (hb.setCell (p := ⟨g, 0, none⟩) hg _).setCell (p := ⟨g, 1, none⟩) hg _
/-- A number's limbs lie in neither of two blocks. -/
def OffR (m : Value) (p q : Nat) : Prop := ∀ b off s l c, m = .slice (some ⟨b, off, s⟩) l c → b ≠ p ∧ b ≠ q
theorem OffR.later {B p q : Nat} {w : World} {m : Value} {xs : List Nat} (h : Own B 67 w m xs) (hp : p < B) (hq : q < B) : OffR m p q := by
  intro b off s l c e
  have hk : m.ownBlock = some b := by rw [e]; rfl
  have := (h.block b hk).1
  omega
end Go.Proofs.YtnehfkbpbgmbaaaGreatDoor

namespace Go.Proofs.YtnehfkbpbgmbaaaGreatDoor
open Go.RowKit
attribute [local go_sem ↓] Go.wp_at_zero Go.wp_at_succ

section
variable {w : World} {p q : Nat} {v0 v1 v2 v3 v4 v5 u0 u1 u2 u3 u4 u5 : Value}

end
/-- A number that may lie in a row: it can be read, and lies away. -/
def NumR (w : World) (B p q : Nat) (n : Bool) (m : Value) (z : Int) : Prop := INum w (.agg #[.bool n, m]) z ∧ OffR m p q ∧ Fr (.agg #[.bool n, m]) B
theorem NumR.below {w w' : World} {B p q : Nat} {n : Bool} {m : Value} {z : Int} (h : NumR w B p q n m z) (hb : Below w.heap.size w w') : NumR w' B p q n m z := ⟨h.1.below hb, h.2⟩
end Go.Proofs.YtnehfkbpbgmbaaaGreatDoor

namespace Go.Proofs.YtnehfkbpbgmbaaaGreatDoor
open Go.RowKit

/-- A stroke ahead. -/
def strk (s : ByteArray) : Bool := decide (0 < s.size) && ((s.extract 0 1).toList == [45])

set_option maxRecDepth 100000 in
set_option maxHeartbeats 3200000 in
theorem cut_any' (s : ByteArray) (w : World) (hs : s.size ≤ 1000000) :
    Calls Tryz.prog 99 #[.string s, .string ⟨#[45]⟩] w fun e w' => e = .returned (.tuple #[.string (if strk s then s.extract 1 s.size else s), .bool (strk s)]) ∧ w' = w := by
  by_cases h0 : 0 < s.size
  · cases hb : ((s.extract 0 1).toList == [45])
    · have HK : Hid (strk s = false) := by show _ = _; unfold strk; rw [hb]; simp
      rw [HK.out, if_neg (by decide)]
      have h1 : (1 : Int) ≤ (s.size : Int) := by omega
      go_enter Tryz.func99, Tryz.ntmps99
      go_wp2
      go_ret2
      exact ⟨rfl, rfl⟩
    · have HK : Hid (strk s = true) := by show _ = _; unfold strk; rw [hb, decide_eq_true h0]; rfl
      rw [HK.out, if_pos rfl]
      have h1 : (1 : Int) ≤ (s.size : Int) := by omega
      go_enter Tryz.func99, Tryz.ntmps99
      go_wp2
      go_ret2
      exact ⟨rfl, rfl⟩
  · have HK : Hid (strk s = false) := by show _ = _; unfold strk; rw [decide_eq_false h0]; rfl
    rw [HK.out, if_neg (by decide)]
    have h1 : ¬ (1 : Int) ≤ (s.size : Int) := by omega
    go_enter Tryz.func99, Tryz.ntmps99
    go_wp2
    go_ret2
    exact ⟨rfl, rfl⟩
theorem results_ct {P : Program} {fn : Func} {p u : Tmp} {ty : TypeId} (h : fn.results = #[.cell p ty, .tmp u]) (tmps : Array Value) (w : World) (g : Nat) (t : TypeId) (cs : Array Value) (fr : Nat × Nat) (d : TypeDesc)
    (hp : tmps.getD p undef = .pointer (some ⟨g, 0, none⟩)) (hg : w.heap[g]? = some (.cells cs t fr))
    (hu : P.underlying ty = some d) (hd : (match d with | .struct _ | .array _ _ => true | _ => false) = true) (hi : (P.info? ty).map (·.size) = some cs.size) :
    (results fn tmps).run P w = .ok (.tuple #[.agg cs, tmps.getD u undef]) w := by
  have hp' : tmps[p]?.getD undef = .pointer (some ⟨g, 0, none⟩) := by simpa using hp
  simp [results, h, hp', asAddr, run_loadVar_row w g t ty cs fr d hg hu hd hi]
/-- The digits behind a stroke. -/
def tail (s : ByteArray) : ByteArray := if strk s then s.extract 1 s.size else s
theorem tail_size (s : ByteArray) : (tail s).size ≤ s.size := by
  unfold tail
  split
  · rw [ByteArray.size_extract]; omega
  · exact Nat.le_refl _

set_option maxRecDepth 100000 in
set_option maxHeartbeats 3200000 in
theorem c_parse (s : ByteArray) (w : World) (hs : s.size ≤ 1000000) :
    Calls Tryz.prog 71 #[.string s] w fun e w' => if DigOk (tail s) ∧ 0 < (tail s).size then ∃ v, e = .returned (.tuple #[v, .int .i64 0]) ∧ IOwn w.heap.size w' v (zv (strk s) (bval (dgs (tail s)))) ∧ Below w.heap.size w w'
      else e = .returned (.tuple #[.agg #[.bool false, .slice none 0 0], .int .i64 10]) ∧ Below w.heap.size w w' := by
  have hts := tail_size s
  obtain ⟨W1, hW1⟩ : ∃ W1, W1 = w.alloc (.cells #[.bool false, .slice none 0 0] 25) := ⟨_, rfl⟩
  have q0 : ICell W1 w.heap.size false (.slice none 0 0) := by rw [hW1]; exact icell_new _ rfl
  have hb : Below w.heap.size w W1 := by rw [hW1]; exact belowA _ _
  have hsz : w.heap.size < W1.heap.size := by rw [hW1]; simp
  have HW1 : Hid (W1 = w.alloc (.cells #[.bool false, .slice none 0 0] 25)) := hW1
  clear hW1
  obtain ⟨g, hg⟩ : ∃ g, g = w.heap.size := ⟨_, rfl⟩
  rw [← hg] at q0 hsz
  have HG : Hid (g = w.heap.size) := hg
  have hcut := cut_any' s W1 hs
  rw [show (if strk s = true then s.extract 1 s.size else s) = tail s from rfl] at hcut
  obtain ⟨t, ht⟩ : ∃ t, t = tail s := ⟨_, rfl⟩
  obtain ⟨k, hk⟩ : ∃ k, k = strk s := ⟨_, rfl⟩
  rw [← ht] at hcut hts ⊢
  rw [← hk] at hcut ⊢
  clear ht hk
  by_cases hd : DigOk t ∧ 0 < t.size
  · simp only [hd]
    obtain ⟨z, hz⟩ : ∃ z, z = zv k (bval (dgs t)) := ⟨_, rfl⟩
    have HZ : Hid (z = zv k (bval (dgs t))) := hz
    rw [← hz]
    clear hz
    go_enter Tryz.func71, Tryz.ntmps71
    go_wp2_with fail
    rw [← HW1.out, ← hg]
    clear HW1 hg
    refine hcut.mono ?_
    rintro e w2 ⟨rfl, rfl⟩
    clear hcut
    go_wp2_with fail
    refine (parse_any t _ (by omega)).mono ?_
    rintro e w3 ⟨u, rfl, hu, hb3⟩
    rw [if_pos hd]
    rw [if_pos hd] at hu
    obtain ⟨uo, ul, uc, rfl⟩ := hu.sl
    replace q0 := q0.below hb3
    replace hb := bstep hb hb3
    have HB : Hid (g < w2.heap.size) := hsz
    go_wp2_with fail
    refine (signed_any _ _ _ _ hu.num).mono ?_
    rintro e w4 ⟨rfl, hb4⟩
    rw [sign_eq, ← HZ.out]
    replace q0 := q0.below hb4
    replace hb := bstep hb hb4
    replace hu := hu.below hb4
    have hE := (int_done (w := w) (g := g) (z := z) rfl (by rw [HG.out]; exact Nat.le_refl _) (by rw [HZ.out, zv_abs]; exact hu) HB.out hb).i
    obtain ⟨v9, he9, ho9, hb9⟩ := hE
    cases he9
    have HE : Hid (∃ v, (Ending.returned (.tuple #[.agg #[.bool (decide (z < 0)), .slice uo ul uc], .int .i64 0])) = .returned (.tuple #[v, .int .i64 0]) ∧ IOwn w.heap.size ((w4.setCell ⟨g, 0, none⟩ (.bool (decide (z < 0)))).setCell ⟨g, 1, none⟩ (.slice uo ul uc)) v z ∧ Below w.heap.size w ((w4.setCell ⟨g, 0, none⟩ (.bool (decide (z < 0)))).setCell ⟨g, 1, none⟩ (.slice uo ul uc))) := ⟨_, rfl, ho9, hb9⟩
    have HW : Hid (ICell ((w4.setCell ⟨g, 0, none⟩ (.bool (decide (z < 0)))).setCell ⟨g, 1, none⟩ (.slice uo ul uc)) g (decide (z < 0)) (.slice uo ul uc)) := q0.write _ _
    obtain ⟨y0, y1⟩ := q0.cells
    have f0 := q0.thaw 0
    have f1 := q0.thaw 1
    clear q0 hb hu hb3 hb4 ho9 hb9 hsz hd
    go_wp2_with fail
    (try simp only [Exit.inBlock, Exit.then])
    exact bodyPost_ret (results_ct (p := 2) (u := 3) rfl _ _ g 25 _ (0, 0) _ rfl HW.out Tryz.underlying25 rfl (by kernel_rfl)) rfl HE.out
  · simp only [hd, if_false]
    go_enter Tryz.func71, Tryz.ntmps71
    go_wp2_with fail
    rw [← HW1.out, ← hg]
    clear HW1 hg
    refine hcut.mono ?_
    rintro e w2 ⟨rfl, rfl⟩
    clear hcut
    go_wp2_with fail
    refine (parse_any t _ (by omega)).mono ?_
    rintro e w3 ⟨u, rfl, hu, hb3⟩
    rw [if_neg hd]
    replace q0 := q0.below hb3
    replace hb := bstep hb hb3
    have HE : Hid (Below w.heap.size w ((w3.setCell ⟨g, 0, none⟩ (.bool false)).setCell ⟨g, 1, none⟩ (.slice none 0 0))) := iend2 hb (by rw [HG.out]; exact Nat.le_refl _)
    have HW : Hid (ICell ((w3.setCell ⟨g, 0, none⟩ (.bool false)).setCell ⟨g, 1, none⟩ (.slice none 0 0)) g false (.slice none 0 0)) := q0.write _ _
    obtain ⟨y0, y1⟩ := q0.cells
    have f0 := q0.thaw 0
    have f1 := q0.thaw 1
    clear q0 hb hu hb3 hsz hd
    go_wp2_with fail
    (try simp only [Exit.inBlock, Exit.then])
    exact bodyPost_ret (results_ct (p := 2) (u := 3) rfl _ _ g 25 _ (0, 0) _ rfl HW.out Tryz.underlying25 rfl (by kernel_rfl)) rfl ⟨rfl, HE.out⟩
end Go.Proofs.YtnehfkbpbgmbaaaGreatDoor

namespace Go.Proofs.YtnehfkbpbgmbaaaGreatDoor
open Go.RowKit

theorem IOwn.see {B : Nat} {w : World} {v : Value} {z : Int} (h : IOwn B w v z) {L : Nat} (hs : Sz z L) (hL : L ≤ 1000000) : ∃ n o l c, v = .agg #[.bool n, .slice o l c] ∧ INum w (.agg #[.bool n, .slice o l c]) z := by
  have hi := h.num hs hL
  obtain ⟨m, rfl, ho⟩ := h
  obtain ⟨o, l, c, rfl⟩ := ho.sl
  exact ⟨_, o, l, c, rfl, hi⟩
theorem INum.see {w : World} {v : Value} {z : Int} (h : INum w v z) : ∃ n o l c, v = .agg #[.bool n, .slice o l c] ∧ INum w (.agg #[.bool n, .slice o l c]) z := by
  obtain ⟨n, o, l, c, xs, rfl, h1, h2, h3⟩ := h
  exact ⟨n, o, l, c, rfl, n, o, l, c, xs, rfl, h1, h2, h3⟩
theorem Own.see {B : Nat} {w : World} {m : Value} {z : Int} (h : Own B 67 w m (lim z.natAbs)) {L : Nat} (hs : Sz z L) (hL : L ≤ 1000000) : ∃ n o l c, n = decide (z < 0) ∧ m = .slice o l c ∧ INum w (.agg #[.bool n, .slice o l c]) z := by
  obtain ⟨o, l, c, rfl⟩ := h.sl
  exact ⟨_, o, l, c, rfl, rfl, IOwn.num ⟨_, rfl, h⟩ hs hL⟩
/-- How a whole number is written. -/
def zt (z : Int) : ByteArray := ztxt (decide (z < 0)) z.natAbs
theorem zt_zv (neg : Bool) (n : Nat) : ztxt neg n = zt (zv neg n) := by
  unfold zt ztxt
  rw [zv_abs]
  by_cases h : neg = true ∧ n ≠ 0
  · rw [if_pos h, if_pos ⟨decide_eq_true (by rw [h.1]; unfold zv; simp; omega), h.2⟩]
  · rw [if_neg h, if_neg]
    intro h2
    apply h
    refine ⟨?_, h2.2⟩
    have := of_decide_eq_true h2.1
    cases neg
    · simp [zv] at this; omega
    · rfl
theorem c_text {a : Value} {x : Int} {w : World} (ha : INum w a x) : Calls Tryz.prog 73 #[a] w fun e w' => e = .returned (.string (zt x)) ∧ Below w.heap.size w w' := by
  obtain ⟨na, ao, al, ac, xs, rfl, h1, h2, rfl⟩ := ha
  rw [← zt_zv]
  exact wtext_any _ _ _ _ _ _ h1 h2
theorem Sz.of {z : Int} (h : z.natAbs < 4294967296 ^ 8) : Sz z 8 := ⟨h⟩
end Go.Proofs.YtnehfkbpbgmbaaaGreatDoor

namespace Go.Proofs.YtnehfkbpbgmbaaaGreatDoor
open Go.RowKit

theorem cmpZ_eq (x y : Int) : (cmpZ x y == 0) = decide (x = y) := by
  unfold cmpZ
  by_cases h1 : x < y
  · rw [if_pos h1, decide_eq_false (by omega)]; rfl
  · rw [if_neg h1]
    by_cases h2 : x = y
    · rw [if_pos h2, decide_eq_true h2]; rfl
    · rw [if_neg h2, decide_eq_false h2]; rfl

theorem cmpZ_lt {x y : Int} (h : x < y) : cmpZ x y = -1 := by unfold cmpZ; rw [if_pos h]
theorem cmpZ_gt {x y : Int} (h : y < x) : cmpZ x y = 1 := by unfold cmpZ; rw [if_neg (by omega), if_neg (by omega)]
end Go.Proofs.YtnehfkbpbgmbaaaGreatDoor

namespace Go.Proofs.YtnehfkbpbgmbaaaGreatDoor
open Go.RowKit

theorem s_size (s : ByteArray) : s.size = s.data.toList.length := by rw [Array.length_toList]; rfl
theorem strk_eq (s : ByteArray) : strk s = decide (s.data.toList.take 1 = [45]) := by
  unfold strk
  rw [ByteArray.toList_eq, extract_list, List.drop_zero, s_size]
  cases h : s.data.toList with
  | nil => rfl
  | cons x r =>
    rw [Bool.eq_iff_iff]
    simp
theorem strk_first {s : ByteArray} {x : UInt8} {r : List UInt8} (h : s.data.toList = x :: r) (hx : x ≠ 45) : strk s = false ∧ tail s = s := by
  have h1 : strk s = false := by rw [strk_eq, h]; simpa using hx
  refine ⟨h1, ?_⟩
  unfold tail
  rw [h1]
  rfl
theorem dig_first {s : ByteArray} (h : DigOk s) (h0 : 0 < s.size) : strk s = false ∧ tail s = s := by
  cases hl : s.data.toList with
  | nil => rw [s_size, hl] at h0; exact absurd h0 (by simp)
  | cons x r =>
    refine strk_first hl ?_
    intro hx
    have h1 := h 0 h0
    unfold bt at h1
    rw [hl, hx] at h1
    simp at h1
theorem parse_of {s t : ByteArray} {k : Bool} {z : Int} (hst : strk s = k) (htl : tail s = t) (hd : DigOk t ∧ 0 < t.size) (hz : zv k (bval (dgs t)) = z) (hs : s.size ≤ 1000000) (w : World) :
    Calls Tryz.prog 71 #[.string s] w fun e w' => ∃ v, e = .returned (.tuple #[v, .int .i64 0]) ∧ IOwn w.heap.size w' v z ∧ Below w.heap.size w w' := by
  have h := c_parse s w hs
  rw [htl, hst, hz] at h
  simp only [hd, and_self, if_true] at h
  exact h
end Go.Proofs.YtnehfkbpbgmbaaaGreatDoor

namespace Go.Proofs.YtnehfkbpbgmbaaaGreatDoor
open Go.RowKit

set_option maxHeartbeats 800000 in
theorem same_yes (v u : Value) (xs : List Nat) (w : World) (hv : Num w v xs) (hu : Num w u xs) :
    Calls Tryz.prog 60 #[v, u] w fun e w' => e = .returned (.bool true) ∧ ∃ q, w' = w.drewN q := by
  obtain ⟨hb, ao, cap, rfl, hc, hm, hnil, hcell⟩ := hv.open_
  obtain ⟨_, ao', cap', rfl, hc', hm', hnil', hcell'⟩ := hu.open_
  clear hv hu hnil hnil'
  obtain ⟨n, hn⟩ : ∃ n, xs.length = n := ⟨_, rfl⟩
  rw [hn] at hc hc' ⊢
  have HN : Hid (xs.length = n) := hn
  clear hn
  have hne : (((n : Nat) : Int) != ((n : Nat) : Int)) = false := by simp
  go_enter Tryz.func60, Tryz.ntmps60
  go_wp2
  go_loopw [5] (fun t wr => ∃ k : Nat, k ≤ n ∧ t = .int .i64 k ∧ ∃ q, wr = w.drewN q) (fun t _ => n - (intOf t).toNat)
  case atStart => exact ⟨0, Nat.zero_le _, rfl, 0, rfl⟩
  case round =>
    obtain ⟨k, hk, rfl, q, rfl⟩ := hrel
    by_cases hkn : k < n
    · obtain ⟨b, off, rfl, hc0⟩ := hcell k (by rw [HN.out]; omega)
      obtain ⟨b', off', rfl, hc1⟩ := hcell' k (by rw [HN.out]; omega)
      obtain ⟨x, hx⟩ : ∃ x, x = xs.getD k 0 := ⟨_, rfl⟩
      rw [← hx] at hc0 hc1
      clear hx hcell hcell'
      have hlt : (k : Int) < (n : Int) := by omega
      go_wp2
      go_quiet (fail)
      go_wp2
      go_roundw
      case rel => exact ⟨k + 1, by omega, by go_num, _, rfl⟩
      case measure => simp [intOf]; omega
    · have hge : ¬ (k : Int) < (n : Int) := by omega
      clear hcell hcell'
      go_wp2
      go_ret
      exact ⟨rfl, q, rfl⟩
end Go.Proofs.YtnehfkbpbgmbaaaGreatDoor

namespace Go.Proofs.YtnehfkbpbgmbaaaGreatDoor
open Go.RowKit

end Go.Proofs.YtnehfkbpbgmbaaaGreatDoor

namespace Go.Proofs.YtnehfkbpbgmbaaaGreatDoor
open Go.RowKit

/-- A whole number as it should stand. -/
def IStd (w : World) (v : Value) (z : Int) : Prop := ∃ m, v = .agg #[.bool (decide (z < 0)), m] ∧ Num w m (lim z.natAbs)
theorem IOwn.std {B : Nat} {w : World} {v : Value} {z : Int} (h : IOwn B w v z) : IStd w v z := by
  obtain ⟨m, e, ho⟩ := h
  exact ⟨m, e, ho.num⟩
theorem IStd.below {w w' : World} {v : Value} {z : Int} (h : IStd w v z) (hb : Below w.heap.size w w') : IStd w' v z := by
  obtain ⟨m, e, ho⟩ := h
  exact ⟨m, e, ho.below (Nat.le_refl _) hb⟩

set_option maxRecDepth 100000 in
set_option maxHeartbeats 3200000 in
theorem make_ref (neg : Bool) (m : Value) (xs : List Nat) (w : World) (h : Num w m xs) (hl : xs.length ≤ 1000000000) :
    Calls Tryz.prog 90 #[.bool neg, m] w fun e w' => IEnd w (zv neg (val xs)) e w' := by
  obtain ⟨ao, cap, rfl, _, _⟩ := h.ao
  obtain ⟨al, hal⟩ : ∃ l, l = xs.length := ⟨_, rfl⟩
  rw [← hal] at h ⊢
  clear hal
  obtain ⟨W1, hW1⟩ : ∃ W1, W1 = w.alloc (.cells #[.bool false, .slice none 0 0] 25) := ⟨_, rfl⟩
  have q0 : ICell W1 w.heap.size false (.slice none 0 0) := by rw [hW1]; exact icell_new _ rfl
  have hb : Below w.heap.size w W1 := by rw [hW1]; exact belowA _ _
  have hsz : w.heap.size < W1.heap.size := by rw [hW1]; simp
  have HW1 : Hid (W1 = w.alloc (.cells #[.bool false, .slice none 0 0] 25)) := hW1
  clear hW1
  replace h := h.below (Nat.le_refl _) hb
  obtain ⟨g, hg⟩ : ∃ g, g = w.heap.size := ⟨_, rfl⟩
  rw [← hg] at q0 hsz
  have HG : Hid (g = w.heap.size) := hg
  obtain ⟨z, hz⟩ : ∃ z, z = zv neg (val xs) := ⟨_, rfl⟩
  have HZ : Hid (z = zv neg (val xs)) := hz
  rw [← hz]
  clear hz
  go_enter Tryz.func90, Tryz.ntmps90
  go_wp2_with fail
  rw [← HW1.out, ← hg]
  clear HW1 hg
  refine (norm_ref _ _ _ h (by omega)).mono ?_
  rintro e w2 ⟨u, rfl, hu, hb2⟩
  obtain ⟨uo, uc, rfl, _, _⟩ := hu.num.ao
  obtain ⟨ul, hul⟩ : ∃ l, l = (lim (val xs)).length := ⟨_, rfl⟩
  rw [← hul] at hu ⊢
  have hbz : (neg && decide (0 < ul)) = decide (z < 0) := by rw [hul, HZ.out]; exact sign_eq _ _
  replace q0 := q0.below hb2
  replace hb := bstep hb hb2
  have hu' : Own W1.heap.size 67 w2 (.slice uo ul uc) (lim z.natAbs) := by rw [HZ.out, zv_abs]; exact hu
  cases neg
  · have HE : Hid (IEnd w z (.returned (.agg #[.bool false, .slice uo ul uc])) ((w2.setCell ⟨g, 0, none⟩ (.bool false)).setCell ⟨g, 1, none⟩ (.slice uo ul uc))) := (int_done (by rw [← hbz]; rfl) (by rw [HG.out]; omega) hu' hsz hb).i
    have HW : Hid (ICell ((w2.setCell ⟨g, 0, none⟩ (.bool false)).setCell ⟨g, 1, none⟩ (.slice uo ul uc)) g false (.slice uo ul uc)) := q0.write _ _
    obtain ⟨y0, y1⟩ := q0.cells
    have f0 := q0.thaw 0
    have f1 := q0.thaw 1
    clear q0 hb hu hu' hb2 hsz hbz hul h hl
    go_wp2_with fail
    (try simp only [Exit.inBlock, Exit.then])
    exact bodyPost_ret (results_cell_row rfl _ _ g 25 _ (0, 0) _ rfl HW.out Tryz.underlying25 rfl (by kernel_rfl)) rfl HE.out
  · obtain ⟨b, hbb⟩ : ∃ b, b = decide (0 < ul) := ⟨_, rfl⟩
    have HE : Hid (IEnd w z (.returned (.agg #[.bool b, .slice uo ul uc])) ((w2.setCell ⟨g, 0, none⟩ (.bool b)).setCell ⟨g, 1, none⟩ (.slice uo ul uc))) := (int_done (by rw [← hbz, hbb]; rfl) (by rw [HG.out]; omega) hu' hsz hb).i
    have HW : Hid (ICell ((w2.setCell ⟨g, 0, none⟩ (.bool b)).setCell ⟨g, 1, none⟩ (.slice uo ul uc)) g b (.slice uo ul uc)) := q0.write _ _
    obtain ⟨y0, y1⟩ := q0.cells
    have f0 := q0.thaw 0
    have f1 := q0.thaw 1
    have hb1 : decide (0 < ul) = b := hbb.symm
    clear q0 hb hu hu' hb2 hsz hbz hul h hl hbb
    go_wp2_with fail
    (try simp only [Exit.inBlock, Exit.then])
    exact bodyPost_ret (results_cell_row rfl _ _ g 25 _ (0, 0) _ rfl HW.out Tryz.underlying25 rfl (by kernel_rfl)) rfl HE.out

theorem IOwn.nil (B : Nat) (w : World) : IOwn B w (.agg #[.bool false, .slice none 0 0]) 0 := ⟨_, rfl, Own.of_nil _ _ _⟩
end Go.Proofs.YtnehfkbpbgmbaaaGreatDoor

namespace Go.Proofs.YtnehfkbpbgmbaaaGreatDoor
open Go.RowKit

end Go.Proofs.YtnehfkbpbgmbaaaGreatDoor

namespace Go.Proofs.YtnehfkbpbgmbaaaGreatDoor
open Go.RowKit

end Go.Proofs.YtnehfkbpbgmbaaaGreatDoor

namespace Go.Proofs.YtnehfkbpbgmbaaaGreatDoor
open Go.RowKit

end Go.Proofs.YtnehfkbpbgmbaaaGreatDoor

namespace Go.Proofs.YtnehfkbpbgmbaaaGreatDoor
open Go.RowKit

set_option maxHeartbeats 400000 in
theorem of_ref (u : Nat) (w : World) (hu : u < 18446744073709551616) :
    Calls Tryz.prog 123 #[.int .u64 (u : Int)] w fun e w' => Made w.heap.size 67 w (lim u) e w' := by
  have hb : limbs [u % 4294967296, u / 4294967296] := by
    intro x hx
    simp at hx
    omega
  have how := Own.lit (B := w.heap.size) 67 w #[.int .u32 ((u : Int) % 4294967296), .int .u32 ((u : Int) / 4294967296)] [u % 4294967296, u / 4294967296] hb (Nat.le_refl _) (by simp [maxLen]) (by simp [U])
  have hbel : Below w.heap.size w (w.alloc (.cells #[.int .u32 ((u : Int) % 4294967296), .int .u32 ((u : Int) / 4294967296)] 67)) := (Below.refl _ _).alloc (Nat.le_refl _) _
  go_enter Tryz.func123, Tryz.ntmps123
  go_wp2_with fail
  refine (norm_ref _ _ _ how.num (by simp)).mono ?_
  rintro e w' ⟨v, rfl, how2, hbel2⟩
  rw [val_two] at how2
  have hw : w.heap.size ≤ (w.alloc (.cells #[.int .u32 ((u : Int) % 4294967296), .int .u32 ((u : Int) / 4294967296)] 67)).heap.size := by simp
  have hm := how2.mono hw
  have hbb := hbel.trans (hbel2.mono hw)
  clear how hb how2 hbel hbel2 hw
  go_wp2
  go_ret
  exact ⟨_, rfl, hm, hbb⟩

end Go.Proofs.YtnehfkbpbgmbaaaGreatDoor

/-
  Proved here: what Parse of package whole answers. Proved here: alive of credencelaw02 answers yes. Proved here: what the small functions of credencelaw02 answer.
  Proved here: plain facts on fractions: how the numbers above and below the line make a fraction, and which is greater. No condition.
  Proved here: what window answers.
-/
import Derived.Test.YtdfmmaehmngkhaaDoorWholeX2
import Derived.Test.YtdfmmaehmngkhaaDoorTrimLAll
import Derived.Test.YtdfmmaehmngkhaaDoorMul
import Derived.Test.YtdfmmaehmngkhaaDoorDivByAll
import Derived.Test.YtdfmmaehmngkhaaDoorLift
import Derived.Laws.BitsAllLaws
namespace Go.Proofs.YtdfmmaehmngkhaaDoor
open Go.RowKit

/-- A stroke ahead. -/
def strk (s : ByteArray) : Bool := decide (0 < s.size) && ((s.extract 0 1).toList == [45])

set_option maxRecDepth 100000 in
set_option maxHeartbeats 3200000 in
theorem cut_any' (s : ByteArray) (w : World) (hs : s.size ≤ 1000000) :
    Calls Tryd.prog 65 #[.string s, .string ⟨#[45]⟩] w fun e w' => e = .returned (.tuple #[.string (if strk s then s.extract 1 s.size else s), .bool (strk s)]) ∧ w' = w := by
  by_cases h0 : 0 < s.size
  · cases hb : ((s.extract 0 1).toList == [45])
    · have HK : Hid (strk s = false) := by show _ = _; unfold strk; rw [hb]; simp
      rw [HK.out, if_neg (by decide)]
      have h1 : (1 : Int) ≤ (s.size : Int) := by omega
      go_enter Tryd.func65, Tryd.ntmps65
      go_wp2
      go_ret2
      exact ⟨rfl, rfl⟩
    · have HK : Hid (strk s = true) := by show _ = _; unfold strk; rw [hb, decide_eq_true h0]; rfl
      rw [HK.out, if_pos rfl]
      have h1 : (1 : Int) ≤ (s.size : Int) := by omega
      go_enter Tryd.func65, Tryd.ntmps65
      go_wp2
      go_ret2
      exact ⟨rfl, rfl⟩
  · have HK : Hid (strk s = false) := by show _ = _; unfold strk; rw [decide_eq_false h0]; rfl
    rw [HK.out, if_neg (by decide)]
    have h1 : ¬ (1 : Int) ≤ (s.size : Int) := by omega
    go_enter Tryd.func65, Tryd.ntmps65
    go_wp2
    go_ret2
    exact ⟨rfl, rfl⟩
theorem results_ct {P : Program} {fn : Func} {p u : Tmp} {ty : TypeId} (h : fn.results = #[.cell p ty, .tmp u]) (tmps : Array Value) (w : World) (g : Nat) (t : TypeId) (cs : Array Value) (fr : Nat × Nat) (d : TypeDesc)
    (hp : tmps.getD p undef = .pointer (some ⟨g, 0, none⟩)) (hg : w.heap[g]? = some (.cells cs t fr))
    (hu : P.underlying ty = some d) (hd : (match d with | .struct _ | .array _ _ => true | _ => false) = true) (hi : (P.info? ty).map (·.size) = some cs.size) :
    (results fn tmps).run P w = .ok (.tuple #[.agg cs, tmps.getD u undef]) w := by
  have hp' : tmps[p]?.getD undef = .pointer (some ⟨g, 0, none⟩) := by simpa using hp
  simp [results, h, hp', asAddr, run_loadVar_row w g t ty cs fr d hg hu hd hi]
/-- The digits behind a stroke. -/
def tail (s : ByteArray) : ByteArray := if strk s then s.extract 1 s.size else s
theorem tail_size (s : ByteArray) : (tail s).size ≤ s.size := by
  unfold tail
  split
  · rw [ByteArray.size_extract]; omega
  · exact Nat.le_refl _

set_option maxRecDepth 100000 in
set_option maxHeartbeats 3200000 in
theorem c_parse (s : ByteArray) (w : World) (hs : s.size ≤ 1000000) :
    Calls Tryd.prog 48 #[.string s] w fun e w' => if DigOk (tail s) ∧ 0 < (tail s).size then ∃ v, e = .returned (.tuple #[v, .int .i64 0]) ∧ IOwn w.heap.size w' v (zv (strk s) (bval (dgs (tail s)))) ∧ Below w.heap.size w w'
      else e = .returned (.tuple #[.agg #[.bool false, .slice none 0 0], .int .i64 10]) ∧ Below w.heap.size w w' := by
  have hts := tail_size s
  obtain ⟨W1, hW1⟩ : ∃ W1, W1 = w.alloc (.cells #[.bool false, .slice none 0 0] 25) := ⟨_, rfl⟩
  have q0 : ICell W1 w.heap.size false (.slice none 0 0) := by rw [hW1]; exact icell_new _ rfl
  have hb : Below w.heap.size w W1 := by rw [hW1]; exact belowA _ _
  have hsz : w.heap.size < W1.heap.size := by rw [hW1]; simp
  have HW1 : Hid (W1 = w.alloc (.cells #[.bool false, .slice none 0 0] 25)) := hW1
  clear hW1
  obtain ⟨g, hg⟩ : ∃ g, g = w.heap.size := ⟨_, rfl⟩
  rw [← hg] at q0 hsz
  have HG : Hid (g = w.heap.size) := hg
  have hcut := cut_any' s W1 hs
  rw [show (if strk s = true then s.extract 1 s.size else s) = tail s from rfl] at hcut
  obtain ⟨t, ht⟩ : ∃ t, t = tail s := ⟨_, rfl⟩
  obtain ⟨k, hk⟩ : ∃ k, k = strk s := ⟨_, rfl⟩
  rw [← ht] at hcut hts ⊢
  rw [← hk] at hcut ⊢
  clear ht hk
  by_cases hd : DigOk t ∧ 0 < t.size
  · simp only [hd]
    obtain ⟨z, hz⟩ : ∃ z, z = zv k (bval (dgs t)) := ⟨_, rfl⟩
    have HZ : Hid (z = zv k (bval (dgs t))) := hz
    rw [← hz]
    clear hz
    go_enter Tryd.func48, Tryd.ntmps48
    go_wp2_with fail
    rw [← HW1.out, ← hg]
    clear HW1 hg
    refine hcut.mono ?_
    rintro e w2 ⟨rfl, rfl⟩
    clear hcut
    go_wp2_with fail
    refine (parse_any t _ (by omega)).mono ?_
    rintro e w3 ⟨u, rfl, hu, hb3⟩
    rw [if_pos hd]
    rw [if_pos hd] at hu
    obtain ⟨uo, ul, uc, rfl⟩ := hu.sl
    replace q0 := q0.below hb3
    replace hb := bstep hb hb3
    have HB : Hid (g < w2.heap.size) := hsz
    go_wp2_with fail
    refine (signed_any _ _ _ _ hu.num).mono ?_
    rintro e w4 ⟨rfl, hb4⟩
    rw [sign_eq, ← HZ.out]
    replace q0 := q0.below hb4
    replace hb := bstep hb hb4
    replace hu := hu.below hb4
    have hE := (int_done (w := w) (g := g) (z := z) rfl (by rw [HG.out]; exact Nat.le_refl _) (by rw [HZ.out, zv_abs]; exact hu) HB.out hb).i
    obtain ⟨v9, he9, ho9, hb9⟩ := hE
    cases he9
    have HE : Hid (∃ v, (Ending.returned (.tuple #[.agg #[.bool (decide (z < 0)), .slice uo ul uc], .int .i64 0])) = .returned (.tuple #[v, .int .i64 0]) ∧ IOwn w.heap.size ((w4.setCell ⟨g, 0, none⟩ (.bool (decide (z < 0)))).setCell ⟨g, 1, none⟩ (.slice uo ul uc)) v z ∧ Below w.heap.size w ((w4.setCell ⟨g, 0, none⟩ (.bool (decide (z < 0)))).setCell ⟨g, 1, none⟩ (.slice uo ul uc))) := ⟨_, rfl, ho9, hb9⟩
    have HW : Hid (ICell ((w4.setCell ⟨g, 0, none⟩ (.bool (decide (z < 0)))).setCell ⟨g, 1, none⟩ (.slice uo ul uc)) g (decide (z < 0)) (.slice uo ul uc)) := q0.write _ _
    obtain ⟨y0, y1⟩ := q0.cells
    have f0 := q0.thaw 0
    have f1 := q0.thaw 1
    clear q0 hb hu hb3 hb4 ho9 hb9 hsz hd
    go_wp2_with fail
    (try simp only [Exit.inBlock, Exit.then])
    exact bodyPost_ret (results_ct (p := 2) (u := 3) rfl _ _ g 25 _ (0, 0) _ rfl HW.out Tryd.underlying25 rfl (by kernel_rfl)) rfl HE.out
  · simp only [hd, if_false]
    go_enter Tryd.func48, Tryd.ntmps48
    go_wp2_with fail
    rw [← HW1.out, ← hg]
    clear HW1 hg
    refine hcut.mono ?_
    rintro e w2 ⟨rfl, rfl⟩
    clear hcut
    go_wp2_with fail
    refine (parse_any t _ (by omega)).mono ?_
    rintro e w3 ⟨u, rfl, hu, hb3⟩
    rw [if_neg hd]
    replace q0 := q0.below hb3
    replace hb := bstep hb hb3
    have HE : Hid (Below w.heap.size w ((w3.setCell ⟨g, 0, none⟩ (.bool false)).setCell ⟨g, 1, none⟩ (.slice none 0 0))) := iend2 hb (by rw [HG.out]; exact Nat.le_refl _)
    have HW : Hid (ICell ((w3.setCell ⟨g, 0, none⟩ (.bool false)).setCell ⟨g, 1, none⟩ (.slice none 0 0)) g false (.slice none 0 0)) := q0.write _ _
    obtain ⟨y0, y1⟩ := q0.cells
    have f0 := q0.thaw 0
    have f1 := q0.thaw 1
    clear q0 hb hu hb3 hsz hd
    go_wp2_with fail
    (try simp only [Exit.inBlock, Exit.then])
    exact bodyPost_ret (results_ct (p := 2) (u := 3) rfl _ _ g 25 _ (0, 0) _ rfl HW.out Tryd.underlying25 rfl (by kernel_rfl)) rfl ⟨rfl, HE.out⟩
end Go.Proofs.YtdfmmaehmngkhaaDoor

namespace Go.Proofs.YtdfmmaehmngkhaaDoor
open Go.RowKit

theorem IOwn.see {B : Nat} {w : World} {v : Value} {z : Int} (h : IOwn B w v z) {L : Nat} (hs : Sz z L) (hL : L ≤ 1000000) : ∃ n o l c, v = .agg #[.bool n, .slice o l c] ∧ INum w (.agg #[.bool n, .slice o l c]) z := by
  have hi := h.num hs hL
  obtain ⟨m, rfl, ho⟩ := h
  obtain ⟨o, l, c, rfl⟩ := ho.sl
  exact ⟨_, o, l, c, rfl, hi⟩
theorem INum.see {w : World} {v : Value} {z : Int} (h : INum w v z) : ∃ n o l c, v = .agg #[.bool n, .slice o l c] ∧ INum w (.agg #[.bool n, .slice o l c]) z := by
  obtain ⟨n, o, l, c, xs, rfl, h1, h2, h3⟩ := h
  exact ⟨n, o, l, c, rfl, n, o, l, c, xs, rfl, h1, h2, h3⟩
/-- How a whole number is written. -/
def zt (z : Int) : ByteArray := ztxt (decide (z < 0)) z.natAbs
theorem zt_zv (neg : Bool) (n : Nat) : ztxt neg n = zt (zv neg n) := by
  unfold zt ztxt
  rw [zv_abs]
  by_cases h : neg = true ∧ n ≠ 0
  · rw [if_pos h, if_pos ⟨decide_eq_true (by rw [h.1]; unfold zv; simp; omega), h.2⟩]
  · rw [if_neg h, if_neg]
    intro h2
    apply h
    refine ⟨?_, h2.2⟩
    have := of_decide_eq_true h2.1
    cases neg
    · simp [zv] at this; omega
    · rfl
theorem c_text {a : Value} {x : Int} {w : World} (ha : INum w a x) : Calls Tryd.prog 50 #[a] w fun e w' => e = .returned (.string (zt x)) ∧ Below w.heap.size w w' := by
  obtain ⟨na, ao, al, ac, xs, rfl, h1, h2, rfl⟩ := ha
  rw [← zt_zv]
  exact wtext_any _ _ _ _ _ _ h1 h2
theorem Sz.of {z : Int} (h : z.natAbs < 4294967296 ^ 8) : Sz z 8 := ⟨h⟩
end Go.Proofs.YtdfmmaehmngkhaaDoor

namespace Go.Proofs.YtdfmmaehmngkhaaDoor
open Go.RowKit

theorem cmpZ_eq (x y : Int) : (cmpZ x y == 0) = decide (x = y) := by
  unfold cmpZ
  by_cases h1 : x < y
  · rw [if_pos h1, decide_eq_false (by omega)]; rfl
  · rw [if_neg h1]
    by_cases h2 : x = y
    · rw [if_pos h2, decide_eq_true h2]; rfl
    · rw [if_neg h2, decide_eq_false h2]; rfl

end Go.Proofs.YtdfmmaehmngkhaaDoor

namespace Go.Proofs.YtdfmmaehmngkhaaDoor

/-- A denominator as it counts. -/
def und (q : Nat) : Int := if q = 0 then 1 else q
theorem und_pos (q : Nat) : 0 < und q := by unfold und; split <;> omega
theorem und_ne (q : Nat) : und q ≠ 0 := by have := und_pos q; omega
/-- What a fraction that stands so says. -/
def rq (p : Int) (q : Nat) : Rat := Rat.divInt p (und q)
theorem rq_std (r : Rat) : rq r.num r.den = r := by
  unfold rq und
  rw [if_neg r.den_nz]
  exact Rat.num_divInt_den r
theorem rq_add (p p' : Int) (q q' : Nat) : Rat.divInt (p * und q' + p' * und q) (und q * und q') = rq p q + rq p' q' := (Rat.divInt_add_divInt _ _ (und_ne q) (und_ne q')).symm
theorem rq_sub (p p' : Int) (q q' : Nat) : Rat.divInt (p * und q' - p' * und q) (und q * und q') = rq p q - rq p' q' := (Rat.divInt_sub_divInt _ _ (und_ne q) (und_ne q')).symm
theorem rq_mul (p p' : Int) (q q' : Nat) : Rat.divInt (p * p') (und q * und q') = rq p q * rq p' q' := (Rat.divInt_mul_divInt _ _).symm
theorem rq_neg (p : Int) (q : Nat) : Rat.divInt (-p) (und q) = -rq p q := (Rat.neg_divInt _ _).symm
/-- The numbers above and below the line, and what was taken out of both. -/
theorem div_parts {p q : Int} (hq : 0 < q) : ∃ k : Int, 0 < k ∧ p = (Rat.divInt p q).num * k ∧ q = (Rat.divInt p q).den * k := by
  refine ⟨(q.gcd p : Int), ?_, ?_, ?_⟩
  · have h : 0 < q.gcd p := Int.gcd_pos_of_ne_zero_left _ (by omega)
    omega
  · rw [Rat.num_divInt, Int.sign_eq_one_of_pos hq, Int.one_mul, Int.ediv_mul_cancel (Int.gcd_dvd_right ..)]
  · rw [Rat.den_divInt, if_neg (by omega)]
    have h : q.gcd p ∣ q.natAbs := Int.natAbs_dvd_natAbs.2 (Int.gcd_dvd_left ..) |> fun h => by simpa using h
    have h2 := Nat.div_mul_cancel h
    have h3 : ((q.natAbs / q.gcd p * q.gcd p : Nat) : Int) = (q.natAbs : Int) := by rw [h2]
    rw [Int.natCast_mul] at h3
    omega
theorem rq_parts (p : Int) (q : Nat) : ∃ k : Int, 0 < k ∧ p = (rq p q).num * k ∧ und q = (rq p q).den * k := div_parts (und_pos q)

/-- Which of two fractions is greater. -/
def cmpQ (x y : Rat) : Int := cmpZ (x.num * y.den) (y.num * x.den)
def sgnQ (x : Rat) : Int := cmpZ x.num 0
theorem cmpZ_scale {x y k : Int} (hk : 0 < k) : cmpZ (x * k) (y * k) = cmpZ x y := by
  unfold cmpZ
  have h1 : x * k < y * k ↔ x < y := ⟨fun h => Int.lt_of_mul_lt_mul_right h (Int.le_of_lt hk), fun h => Int.mul_lt_mul_of_pos_right h hk⟩
  have h2 : x * k = y * k ↔ x = y := ⟨fun h => Int.eq_of_mul_eq_mul_right (by omega) h, fun h => by rw [h]⟩
  simp only [h1, h2]
theorem mul4 (a b c d : Int) : a * b * (c * d) = a * c * (b * d) := by rw [Int.mul_assoc, Int.mul_assoc, Int.mul_left_comm b]
theorem cmp_rq (p p' : Int) (q q' : Nat) : cmpZ (p * und q') (p' * und q) = cmpQ (rq p q) (rq p' q') := by
  obtain ⟨k, hk, e1, e2⟩ := rq_parts p q
  obtain ⟨k', hk', e3, e4⟩ := rq_parts p' q'
  unfold cmpQ
  have h1 : p * und q' = (rq p q).num * (rq p' q').den * (k * k') := by
    rw [e4]
    conv => lhs; rw [e1]
    rw [mul4]
  have h2 : p' * und q = (rq p' q').num * (rq p q).den * (k * k') := by
    rw [e2]
    conv => lhs; rw [e3]
    rw [mul4, Int.mul_comm k' k]
  rw [h1, h2]
  exact cmpZ_scale (Int.mul_pos hk hk')
theorem sgn_rq (p : Int) (q : Nat) : cmpZ p 0 = sgnQ (rq p q) := by
  obtain ⟨k, hk, e1, e2⟩ := rq_parts p q
  unfold sgnQ
  have h := cmpZ_scale (x := (rq p q).num) (y := 0) hk
  rw [← e1, Int.zero_mul] at h
  exact h
theorem cmpZ_anti (x y : Int) : cmpZ x y = -cmpZ y x := by unfold cmpZ; repeat' split; all_goals omega
theorem cmpQ_anti (x y : Rat) : cmpQ x y = -cmpQ y x := cmpZ_anti _ _
theorem low_num {p q : Int} (hq : q ≠ 0) : p.tdiv (zv (decide (q < 0)) (Nat.gcd p.natAbs q.natAbs)) = (Rat.divInt p q).num := by
  rw [Rat.num_divInt]
  have hg : q.gcd p = Nat.gcd p.natAbs q.natAbs := by rw [Int.gcd_comm]; rfl
  rw [hg]
  have hpos : 0 < Nat.gcd p.natAbs q.natAbs := Nat.gcd_pos_of_pos_right _ (by omega)
  have hd : ((Nat.gcd p.natAbs q.natAbs : Nat) : Int) ∣ p := Int.natCast_dvd_natCast.2 (Nat.gcd_dvd_left ..) |> fun h => Int.dvd_natAbs.1 h
  obtain ⟨k, hk⟩ := hd
  obtain ⟨g, hgg⟩ : ∃ g, g = Nat.gcd p.natAbs q.natAbs := ⟨_, rfl⟩
  rw [← hgg] at hk hpos ⊢
  clear hgg hg
  have hg0 : (g : Int) ≠ 0 := by omega
  rw [hk]
  unfold zv
  rcases Int.lt_or_gt_of_ne hq with h | h
  · rw [if_pos (decide_eq_true h), Int.sign_eq_neg_one_of_neg h, Int.tdiv_neg, Int.mul_tdiv_cancel_left _ hg0, Int.neg_mul, Int.one_mul, ← Int.mul_neg, Int.mul_ediv_cancel_left _ hg0]
  · rw [if_neg (by simp; omega), Int.sign_eq_one_of_pos h, Int.mul_tdiv_cancel_left _ hg0, Int.one_mul, Int.mul_ediv_cancel_left _ hg0]
theorem low_den {p q : Int} (hq : q ≠ 0) : q.tdiv (zv (decide (q < 0)) (Nat.gcd p.natAbs q.natAbs)) = ((Rat.divInt p q).den : Int) := by
  rw [Rat.den_divInt, if_neg hq]
  have hg : q.gcd p = Nat.gcd p.natAbs q.natAbs := by rw [Int.gcd_comm]; rfl
  rw [hg]
  have hpos : 0 < Nat.gcd p.natAbs q.natAbs := Nat.gcd_pos_of_pos_right _ (by omega)
  obtain ⟨k, hk⟩ := Nat.gcd_dvd_right p.natAbs q.natAbs
  obtain ⟨g, hgg⟩ : ∃ g, g = Nat.gcd p.natAbs q.natAbs := ⟨_, rfl⟩
  rw [← hgg] at hk hpos ⊢
  clear hgg hg
  have hg0 : (g : Int) ≠ 0 := by omega
  rw [hk, Nat.mul_div_cancel_left _ hpos]
  unfold zv
  rcases Int.lt_or_gt_of_ne hq with h | h
  · have e : q = -((g : Int) * k) := by rw [← Int.natCast_mul]; omega
    rw [if_pos (decide_eq_true h), e, Int.neg_tdiv, Int.tdiv_neg, Int.mul_tdiv_cancel_left _ hg0]; omega
  · have e : q = (g : Int) * k := by rw [← Int.natCast_mul]; omega
    rw [if_neg (by simp; omega), e, Int.mul_tdiv_cancel_left _ hg0]
theorem num_le {p q : Int} (hq : q ≠ 0) : (Rat.divInt p q).num.natAbs ≤ p.natAbs := by
  rw [← low_num hq, Int.natAbs_tdiv]
  exact Nat.div_le_self ..
theorem den_le {p q : Int} (hq : q ≠ 0) : (Rat.divInt p q).den ≤ q.natAbs := by
  rw [Rat.den_divInt, if_neg hq]
  exact Nat.div_le_self ..
/-- So many limbs hold what stands above and below the line. -/
structure RSz (r : Rat) (L : Nat) : Prop where
  num : Sz r.num L
  den : Sz (r.den : Int) L
theorem RSz.mono {r : Rat} {L M : Nat} (h : RSz r L) (hm : L ≤ M) : RSz r M := ⟨h.num.mono hm, h.den.mono hm⟩
theorem RSz.of {p q : Int} {L : Nat} (hq : q ≠ 0) (hp : Sz p L) (hd : Sz q L) : RSz (Rat.divInt p q) L :=
  ⟨hp.le (num_le hq), hd.le (by rw [Int.natAbs_natCast]; exact den_le hq)⟩
theorem rsz_add {p p' : Int} {q q' : Nat} {L M : Nat} (h1 : Sz p L) (h2 : Sz (und q) L) (h3 : Sz p' M) (h4 : Sz (und q') M) : RSz (rq p q + rq p' q') (L + M + 1) := by
  rw [← rq_add]
  refine RSz.of (Int.mul_ne_zero (und_ne _) (und_ne _)) ((h1.mul h4).add ?_) ((h2.mul h4).mono (Nat.le_succ _))
  rw [Nat.add_comm]
  exact h3.mul h2
theorem rsz_sub {p p' : Int} {q q' : Nat} {L M : Nat} (h1 : Sz p L) (h2 : Sz (und q) L) (h3 : Sz p' M) (h4 : Sz (und q') M) : RSz (rq p q - rq p' q') (L + M + 1) := by
  rw [← rq_sub]
  refine RSz.of (Int.mul_ne_zero (und_ne _) (und_ne _)) ((h1.mul h4).sub ?_) ((h2.mul h4).mono (Nat.le_succ _))
  rw [Nat.add_comm]
  exact h3.mul h2
theorem rsz_mul {p p' : Int} {q q' : Nat} {L M : Nat} (h1 : Sz p L) (h2 : Sz (und q) L) (h3 : Sz p' M) (h4 : Sz (und q') M) : RSz (rq p q * rq p' q') (L + M) := by
  rw [← rq_mul]
  exact RSz.of (Int.mul_ne_zero (und_ne _) (und_ne _)) (h1.mul h3) (h2.mul h4)
theorem rsz_neg {p : Int} {q : Nat} {L : Nat} (h1 : Sz p L) (h2 : Sz (und q) L) : RSz (-rq p q) L := by
  rw [← rq_neg]
  exact RSz.of (und_ne _) h1.neg h2
theorem zv_dec {n : Bool} {k : Nat} (h : zv n k ≠ 0) : n = decide (zv n k < 0) := by
  cases n
  · simp [zv]
  · simp [zv] at h ⊢
    omega
end Go.Proofs.YtdfmmaehmngkhaaDoor

namespace Go.Proofs.YtdfmmaehmngkhaaDoor
open Go.RowKit

theorem window_math {x y z t P Q V B : Nat} (hB : B = P * Q) (hP : 0 < P) (hx : x < B) (hy : y < B) (hV : V = x + B * y + B * B * z + B * B * B * t) :
    V / P % (B * B) = x / P + Q * y + Q * B * (z % P) := by
  have e1 : V / P = x / P + (Q * y + Q * B * z + Q * B * B * t) := by
    have h1 : V = x + P * (Q * y + Q * B * z + Q * B * B * t) := by
      rw [hV]
      have k1 : P * (Q * y) = B * y := by rw [← Nat.mul_assoc, ← hB]
      have k2 : P * (Q * B * z) = B * B * z := by rw [show P * (Q * B * z) = (P * Q) * (B * z) by simp only [Nat.mul_assoc], ← hB, Nat.mul_assoc]
      have k3 : P * (Q * B * B * t) = B * B * B * t := by rw [show P * (Q * B * B * t) = (P * Q) * (B * B * t) by simp only [Nat.mul_assoc], ← hB]; simp only [Nat.mul_assoc]
      rw [Nat.mul_add, Nat.mul_add, k1, k2, k3]; omega
    rw [h1, Nat.add_mul_div_left _ _ hP]
  have e2 : Q * B * z = Q * B * (z % P) + B * B * (z / P) := by
    conv => lhs; rw [← Nat.mod_add_div z P, Nat.mul_add]
    congr 1
    rw [← Nat.mul_assoc]; congr 1
    rw [Nat.mul_right_comm, Nat.mul_comm Q P, ← hB]
  have e3 : Q * B * B * t = B * B * (Q * t) := by rw [Nat.mul_assoc Q B B, Nat.mul_assoc, Nat.mul_left_comm]
  have hX : x / P < Q := Nat.div_lt_of_lt_mul (by rw [← hB]; exact hx)
  have hZ : Q * B * (z % P) + Q * B ≤ B * B := by
    have h1 : Q * B * (z % P + 1) ≤ Q * B * P := Nat.mul_le_mul_left _ (Nat.mod_lt _ hP)
    rw [Nat.mul_add, Nat.mul_one] at h1
    have h2 : Q * B * P = B * B := by rw [Nat.mul_right_comm, Nat.mul_comm Q P, ← hB]
    omega
  have hY : Q * y + Q ≤ Q * B := by
    have h1 : Q * (y + 1) ≤ Q * B := Nat.mul_le_mul_left _ hy
    rw [Nat.mul_add, Nat.mul_one] at h1; exact h1
  rw [e1, e2, e3, show x / P + (Q * y + (Q * B * (z % P) + B * B * (z / P)) + B * B * (Q * t)) = (x / P + Q * y + Q * B * (z % P)) + B * B * (z / P + Q * t) by rw [Nat.mul_add]; omega, Nat.add_mul_mod_self_left]
  exact Nat.mod_eq_of_lt (by omega)
theorem three_limbs {X : List Nat} (hX : limbs X) (k : Nat) : ∃ R, val X / 4294967296 ^ k = X.getD k 0 + 4294967296 * X.getD (k + 1) 0 + 4294967296 * 4294967296 * X.getD (k + 2) 0 + 4294967296 * 4294967296 * 4294967296 * R := by
  obtain ⟨R, h⟩ := two_limbs hX k
  obtain ⟨R2, h2⟩ := two_limbs hX (k + 2)
  have h3 : val X / 4294967296 ^ (k + 2) = R := by
    rw [Nat.pow_add, ← Nat.div_div_eq_div_mul, h, show (4294967296 : Nat) ^ 2 = 4294967296 * 4294967296 from rfl]
    have a := limb_lt hX k
    have b := limb_lt hX (k + 1)
    rw [Nat.add_mul_div_left _ _ (by decide), Nat.div_eq_of_lt (by omega), Nat.zero_add]
  rw [h3] at h2
  refine ⟨X.getD (k + 3) 0 + 4294967296 * R2, ?_⟩
  rw [h, h2, show k + 2 + 1 = k + 3 by omega]
  simp only [Nat.mul_add, Nat.mul_assoc]
  omega
end Go.Proofs.YtdfmmaehmngkhaaDoor

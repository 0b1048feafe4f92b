/-
  Proved here: what cutAll of a list of fractions answers: new memory, in it the first thirty, each of at most forty limbs.
  Proved here: what Sum of the document's layer 3 answers.
  Proved here: the document's answers of layer 3 over fractions of at most 40 limbs, by their values alone.
  Proved here: plain facts on the document's way to the simplest fraction: what its comparisons say.
-/
import Derived.Test.YtfnafgjnimfmjaaGreatDoorR3C
import Derived.Test.YtfnafgjnimfmjaaGreatDoorFracGAll
import Derived.Test.YtfnafgjnimfmjaaGreatDoorFracHAll
import Derived.Test.YtfnafgjnimfmjaaGreatDoorAdd3
import Derived.Test.YtfnafgjnimfmjaaGreatDoorSub3All
import Derived.Test.YtfnafgjnimfmjaaGreatDoorSimpRAll
import Derived.Test.YtfnafgjnimfmjaaGreatDoorLate2All
import Derived.Test.YtfnafgjnimfmjaaGreatDoorSimp3
namespace Go.Proofs.YtfnafgjnimfmjaaGreatDoor
open Go.RowKit

instance : Inhabited FV := ⟨⟨false, none, 0, 0, none, 0, 0, [], []⟩⟩
end Go.Proofs.YtfnafgjnimfmjaaGreatDoor

namespace Go.Proofs.YtfnafgjnimfmjaaGreatDoor
open Go.RowKit

set_option maxRecDepth 100000 in
set_option maxHeartbeats 6400000 in
theorem small3 (w : World) : Calls Tryz.prog 29 #[.int .i64 0, .int .i64 1] w fun e w' => REnd w 0 e w' := by
  obtain ⟨W1, hW1⟩ : ∃ W1, W1 = w.alloc (.cells #[.bool false, .slice none 0 0, .slice none 0 0] 27) := ⟨_, rfl⟩
  have qR : QCell W1 (w.heap.size) false (.slice none 0 0) (.slice none 0 0) := by rw [hW1]; exact (qcell_new _ (by simp))
  have hb : Below w.heap.size w W1 := by rw [hW1]; exact belowA w _
  have hsz : w.heap.size < W1.heap.size := by rw [hW1]; simp
  have HW1 : Hid (W1 = w.alloc (.cells #[.bool false, .slice none 0 0, .slice none 0 0] 27)) := hW1
  clear hW1
  go_enter Tryz.func29, Tryz.ntmps29
  go_wp2_with fail
  rw [← HW1.out]
  clear HW1
  obtain ⟨g, hg⟩ : ∃ g, g = w.heap.size := ⟨_, rfl⟩
  rw [← hg] at qR hsz ⊢
  have HG : Hid (g = w.heap.size) := hg
  clear hg
  have hq := of3_yes (n := 0) (d := 1) (w := W1) (by decide) (by decide) (by decide) (by decide) (by decide)
  rw [show Rat.divInt 0 1 = 0 by decide] at hq
  have hszz := hsz
  refine (hq).mono ?_
  rintro e w2 ⟨v, rfl, hv, b⟩
  clear hq
  obtain ⟨m, d, rfl, hm, hd, hap⟩ := hv
  obtain ⟨mo, ml, mc, rfl⟩ := hm.sl
  obtain ⟨mO, mL, mC, rfl⟩ := hd.sl
  generalize hbb : decide ((0 : Rat).num < 0) = bb
  have hown : ROwn (g + 1) w2 (.agg #[.bool bb, .slice mo ml mc, .slice mO mL mC]) 0 := ⟨_, _, by rw [← hbb], hm.mono hszz, hd.mono hszz, hap⟩
  clear hbb hm hd hap hszz
  replace qR := qR.below b
  replace hb := bstep hb b
  replace hsz := Nat.lt_of_lt_of_le hsz b.size
  clear b
  obtain ⟨W3, hW3⟩ : ∃ W, W = w2.alloc (.cells #[.bool bb, .slice mo ml mc, .slice mO mL mC] 27) := ⟨_, rfl⟩
  have qA : QCell W3 (w2.heap.size) bb (.slice mo ml mc) (.slice mO mL mC) := by rw [hW3]; exact (qcell_new _ rfl)
  have b : Below w2.heap.size w2 W3 := by rw [hW3]; exact belowA _ _
  replace hown := hown.below b
  replace qR := qR.below b
  replace hb := bstep hb b
  replace hsz := Nat.lt_of_lt_of_le hsz b.size
  clear b
  have rqR0 : (w2.alloc (.cells #[.bool bb, .slice mo ml mc, .slice mO mL mC] 27)).cell? ⟨g, 0, none⟩ = some (.bool false) := by rw [← hW3]; exact qR.cells.1
  have rqR1 : (w2.alloc (.cells #[.bool bb, .slice mo ml mc, .slice mO mL mC] 27)).cell? ⟨g, 1, none⟩ = some (.slice none 0 0) := by rw [← hW3]; exact qR.cells.2.1
  have rqR2 : (w2.alloc (.cells #[.bool bb, .slice mo ml mc, .slice mO mL mC] 27)).cell? ⟨g, 2, none⟩ = some (.slice none 0 0) := by rw [← hW3]; exact qR.cells.2.2
  have rqA0 : (w2.alloc (.cells #[.bool bb, .slice mo ml mc, .slice mO mL mC] 27)).cell? ⟨w2.heap.size, 0, none⟩ = some (.bool bb) := by rw [← hW3]; exact qA.cells.1
  have rqA1 : (w2.alloc (.cells #[.bool bb, .slice mo ml mc, .slice mO mL mC] 27)).cell? ⟨w2.heap.size, 1, none⟩ = some (.slice mo ml mc) := by rw [← hW3]; exact qA.cells.2.1
  have rqA2 : (w2.alloc (.cells #[.bool bb, .slice mo ml mc, .slice mO mL mC] 27)).cell? ⟨w2.heap.size, 2, none⟩ = some (.slice mO mL mC) := by rw [← hW3]; exact qA.cells.2.2
  obtain ⟨v3, hv3⟩ : ∃ v, v = w2.heap.size := ⟨_, rfl⟩
  rw [← hv3] at qA
  have HW3 : Hid (W3 = w2.alloc (.cells #[.bool bb, .slice mo ml mc, .slice mO mL mC] 27)) := hW3
  have Hv3 : Hid (v3 = w2.heap.size) := hv3
  clear hW3 hv3
  obtain ⟨m, d, he, hm, hd, hap⟩ := hown
  simp only [Value.agg.injEq, Array.mk.injEq, List.cons.injEq, Value.bool.injEq, and_true] at he
  obtain ⟨hbb, rfl, rfl⟩ := he
  have HE : Hid (REnd w 0 (.returned (.agg #[.bool bb, .slice mo ml mc, .slice mO mL mC])) (((W3.setCell ⟨g, 0, none⟩ (.bool bb)).setCell ⟨g, 1, none⟩ (.slice mo ml mc)).setCell ⟨g, 2, none⟩ (.slice mO mL mC))) := rat_done hbb (by rw [HG.out]; exact Nat.le_refl _) hm hd hap (Nat.lt_succ_self g) hb
  have HW : Hid (QCell (((W3.setCell ⟨g, 0, none⟩ (.bool bb)).setCell ⟨g, 1, none⟩ (.slice mo ml mc)).setCell ⟨g, 2, none⟩ (.slice mO mL mC)) g bb (.slice mo ml mc) (.slice mO mL mC)) := qR.write _ _ _
  have f0 := qR.thaw 0
  have f1 := qR.thaw 1
  have f2 := qR.thaw 2
  rw [HW3.out] at f0 f1 f2
  clear hbb hm hd hap hb hsz qR qA
  go_wp2_with fail
  rw [← HW3.out, ← Hv3.out]
  clear HW3 Hv3 rqR0 rqR1 rqR2 rqA0 rqA1 rqA2
  (try simp only [Exit.inBlock, Exit.then])
  exact bodyPost_ret (results_cell_row rfl _ _ (g) 27 _ (0, 0) _ rfl HW.out Tryz.underlying27 rfl (by kernel_rfl)) rfl HE.out
end Go.Proofs.YtfnafgjnimfmjaaGreatDoor

namespace Go.Proofs.YtfnafgjnimfmjaaGreatDoor
open Go.RowKit

/-- A fraction that can be read, of at most 40 limbs, by its value. -/
def RQ (w : World) (v : Value) (a : Rat) : Prop := ∃ p q, RV w v p q ∧ a = rq p q
theorem RQ.below {w w' : World} {v : Value} {a : Rat} (h : RQ w v a) (hb : Below w.heap.size w w') : RQ w' v a := by
  obtain ⟨p, q, h1, h2⟩ := h
  exact ⟨p, q, h1.below hb, h2⟩
theorem RQ.sz {w : World} {v : Value} {a : Rat} (h : RQ w v a) : RSz a 40 := by
  obtain ⟨p, q, h1, rfl⟩ := h
  exact RSz.of (und_ne q) h1.sz.1 h1.sz.2
theorem RQ.see {w : World} {v : Value} {a : Rat} (h : RQ w v a) : ∃ n ao al ac bo bl bc, v = .agg #[.bool n, .slice ao al ac, .slice bo bl bc] := by
  obtain ⟨p, q, ⟨n, ao, al, ac, bo, bl, bc, e, _⟩, _⟩ := h
  exact ⟨n, ao, al, ac, bo, bl, bc, e⟩
theorem ROwn.rq {B : Nat} {w : World} {v : Value} {a : Rat} (h : ROwn B w v a) (hs : RSz a 40) : RQ w v a := by
  obtain ⟨n, ao, al, ac, bo, bl, bc, rfl, h1, h2⟩ := h.seeB hs
  exact ⟨a.num, a.den, ⟨n, ao, al, ac, bo, bl, bc, rfl, h1, h2⟩, (rq_std a).symm⟩
/-- The greatest whole number that is not above. -/
def flo (a : Rat) : Int := a.num / (a.den : Int)
theorem fq_pos {x y : Int} (hy : 0 < y) : fq x y = x / y := by
  have h1 := Int.emod_nonneg x (Int.ne_of_gt hy)
  have h2 := Int.emod_lt_of_pos x hy
  have h3 := Int.mul_ediv_add_emod x y
  have h4 := Int.mul_tdiv_add_tmod x y
  have hz : rz x y = x.tmod y := by unfold rz; rw [if_neg (by omega)]
  have hc : cmpZ y 0 = 1 := by unfold cmpZ; rw [if_neg (by omega), if_neg (by omega)]
  have h5 : x.tmod y < y := Int.tmod_lt_of_pos x hy
  have h6 : -y < x.tmod y := Int.lt_tmod_of_pos x hy
  have hf : fup x y ↔ x.tmod y < 0 := by
    unfold fup
    rw [hz, hc, Int.mul_one]
    unfold cmpZ
    split
    · rename_i h; simp [h]
    · rename_i h; split <;> simp <;> omega
  unfold fq
  by_cases hn : x.tmod y < 0
  · rw [if_pos (hf.2 hn)]
    generalize x.tmod y = t at *
    have := Int.ediv_emod_unique hy |>.2 ⟨show (y + t) + y * (x.tdiv y - 1) = x by rw [Int.mul_sub, Int.mul_one]; omega, by omega, by omega⟩
    exact this.1.symm
  · rw [if_neg (fun h => hn (hf.1 h))]
    generalize x.tmod y = t at *
    have := Int.ediv_emod_unique hy |>.2 ⟨show t + y * (x.tdiv y) = x by omega, by omega, by omega⟩
    exact this.1.symm
theorem flo_rq (p : Int) (q : Nat) : fq p (und q) = flo (rq p q) := by
  rw [fq_pos (und_pos q)]
  obtain ⟨k, hk, e1, e2⟩ := rq_parts p q
  unfold flo
  rw [e2]
  conv => lhs; lhs; rw [e1]
  exact Int.mul_ediv_mul_of_pos_left _ _ hk
theorem qCmp {w : World} {v u : Value} {a b : Rat} (h : RQ w v a) (h' : RQ w u b) : Calls Tryz.prog 41 #[v, u] w fun e w' => e = .returned (.int .i64 (cmpQ a b)) ∧ Below w.heap.size w w' := by
  obtain ⟨p, q, h1, rfl⟩ := h
  obtain ⟨p', q', h1', rfl⟩ := h'
  exact aCmpR h1 h1'
theorem qSign {w : World} {v : Value} {a : Rat} (h : RQ w v a) : Calls Tryz.prog 27 #[v] w fun e w' => e = .returned (.int .i64 (sgnQ a)) ∧ Below w.heap.size w w' := by
  obtain ⟨p, q, h1, rfl⟩ := h
  exact aSignR h1
theorem qFloor {w : World} {v : Value} {a : Rat} (h : RQ w v a) : Calls Tryz.prog 24 #[v] w fun e w' => IEnd w (flo a) e w' := by
  obtain ⟨p, q, ⟨n, ao, al, ac, bo, bl, bc, rfl, h1, h2⟩, rfl⟩ := h
  rw [← flo_rq]
  exact floor3 n ao bo al ac bl bc h1 h2 (by decide) (by decide)
theorem qNeg {w : World} {v : Value} {a : Rat} (h : RQ w v a) : Calls Tryz.prog 42 #[v] w fun e w' => REnd w (-a) e w' := by
  obtain ⟨p, q, ⟨n, ao, al, ac, bo, bl, bc, rfl, h1, h2⟩, rfl⟩ := h
  exact neg3 n ao bo al ac bl bc h1 h2 (by decide) (by decide)
theorem qAdd {w : World} {v u : Value} {a b : Rat} (h : RQ w v a) (h' : RQ w u b) : Calls Tryz.prog 62 #[v, u] w fun e w' => REnd w (a + b) e w' := by
  obtain ⟨p, q, ⟨n, ao, al, ac, bo, bl, bc, rfl, h1, h2⟩, rfl⟩ := h
  obtain ⟨p', q', ⟨n', ao', al', ac', bo', bl', bc', rfl, h1', h2'⟩, rfl⟩ := h'
  exact add3 n ao bo al ac bl bc n' ao' bo' al' ac' bl' bc' h1 h2 (by decide) h1' h2' (by decide) (by decide)
theorem qSub {w : World} {v u : Value} {a b : Rat} (h : RQ w v a) (h' : RQ w u b) : Calls Tryz.prog 25 #[v, u] w fun e w' => REnd w (a - b) e w' := by
  obtain ⟨p, q, ⟨n, ao, al, ac, bo, bl, bc, rfl, h1, h2⟩, rfl⟩ := h
  obtain ⟨p', q', ⟨n', ao', al', ac', bo', bl', bc', rfl, h1', h2'⟩, rfl⟩ := h'
  exact sub3 n ao bo al ac bl bc n' ao' bo' al' ac' bl' bc' h1 h2 (by decide) h1' h2' (by decide) (by decide)
theorem qDiv {w : World} {v u : Value} {a b : Rat} (h : RQ w v a) (h' : RQ w u b) (hb : b.num ≠ 0) : Calls Tryz.prog 28 #[v, u] w fun e w' => RTEnd w (a / b) e w' := by
  obtain ⟨p, q, ⟨n, ao, al, ac, bo, bl, bc, rfl, h1, h2⟩, rfl⟩ := h
  obtain ⟨p', q', ⟨n', ao', al', ac', bo', bl', bc', rfl, h1', h2'⟩, rfl⟩ := h'
  refine div3_yes n ao bo al ac bl bc n' ao' bo' al' ac' bl' bc' h1 h2 (by decide) h1' h2' (by decide) (by decide) ?_
  intro h0
  refine hb ?_
  rw [h0]
  unfold rq
  rw [Rat.zero_divInt]
  rfl
end Go.Proofs.YtfnafgjnimfmjaaGreatDoor

namespace Go.Proofs.YtfnafgjnimfmjaaGreatDoor

/-- The floor of a fraction above 0, and it as a fraction. -/
def nF (a : Rat) : Nat := a.num.natAbs / a.den
def NF (a : Rat) : Rat := Rat.divInt (nF a : Int) 1
theorem NF_parts (n : Nat) : (Rat.divInt (n : Int) 1).num = n ∧ (Rat.divInt (n : Int) 1).den = 1 := divInt_co (d := 1) (by decide) (Nat.gcd_one_right _)
theorem flo_nF {a : Rat} (ha : 0 < a.num) : flo a = (nF a : Int) := by
  unfold flo nF
  have e : a.num = (a.num.natAbs : Int) := by omega
  rw [e]
  rw [Int.natAbs_natCast]
  rfl
theorem cmp_NF {a : Rat} (ha : 0 < a.num) : cmpQ a (NF a) = 0 ↔ a.num.natAbs % a.den = 0 := by
  obtain ⟨h1, h2⟩ := NF_parts (nF a)
  unfold cmpQ NF
  rw [h1, h2]
  have e0 := Nat.div_add_mod a.num.natAbs a.den
  have e1 : ((nF a : Nat) : Int) * (a.den : Int) = ((a.den * (a.num.natAbs / a.den) : Nat) : Int) := by unfold nF; rw [Int.natCast_mul, Int.mul_comm]
  rw [e1]
  generalize a.den * (a.num.natAbs / a.den) = M at *
  unfold cmpZ
  split
  · constructor <;> intro h
    · exact absurd h (by decide)
    · omega
  · split
    · constructor <;> intro h <;> omega
    · constructor <;> intro h
      · exact absurd h (by decide)
      · omega
theorem NF_one (a : Rat) : NF a + 1 = Rat.divInt ((nF a + 1 : Nat) : Int) 1 := by
  unfold NF
  rw [show (1 : Rat) = Rat.divInt 1 1 by decide, Rat.divInt_add_divInt _ _ (by decide) (by decide)]
  simp
theorem cmp_next {a b : Rat} (hb : 0 < b.num) : cmpQ (NF a + 1) b ≤ 0 ↔ nF a < b.num.natAbs / b.den := by
  obtain ⟨h1, h2⟩ := NF_parts (nF a + 1)
  rw [NF_one]
  unfold cmpQ
  rw [h1, h2]
  have e1 : ((nF a + 1 : Nat) : Int) * (b.den : Int) = (((nF a + 1) * b.den : Nat) : Int) := by rw [Int.natCast_mul]
  rw [e1]
  have k : (nF a + 1) * b.den ≤ b.num.natAbs ↔ nF a + 1 ≤ b.num.natAbs / b.den := (Nat.le_div_iff_mul_le b.den_pos).symm
  generalize (nF a + 1) * b.den = M at *
  unfold cmpZ
  split
  · constructor <;> intro h
    · have := k.1 (by omega); omega
    · decide
  · split
    · constructor <;> intro h
      · have := k.1 (by omega); omega
      · decide
    · constructor <;> intro h
      · exact absurd h (by decide)
      · have := k.2 (by omega); omega
theorem sub_floor {b : Rat} {n : Nat} (hb : 0 < b.num) (hn : n = b.num.natAbs / b.den) : b - Rat.divInt (n : Int) 1 = Rat.divInt ((b.num.natAbs % b.den : Nat) : Int) (b.den : Int) := by
  have hd := b.den_pos
  have e0 := Nat.div_add_mod b.num.natAbs b.den
  conv => lhs; lhs; rw [← Rat.num_divInt_den b]
  rw [Rat.divInt_sub_divInt _ _ (by omega) (by decide), Int.mul_one, Int.mul_one]
  congr 1
  rw [← hn] at e0
  have e2 : (n : Int) * (b.den : Int) = ((b.den * n : Nat) : Int) := by rw [Int.natCast_mul, Int.mul_comm]
  rw [e2]
  generalize b.num.natAbs % b.den = M at *
  generalize b.den * n = N at *
  omega
theorem sz_le_nat {a b L : Nat} (h : a ≤ b) (hs : Sz (b : Int) L) : Sz (a : Int) L := ⟨Nat.lt_of_le_of_lt (by rw [Int.natAbs_natCast, Int.natAbs_natCast]; exact h) hs.lt⟩
theorem sz_abs {x : Int} {L : Nat} (h : Sz x L) : Sz ((x.natAbs : Nat) : Int) L := ⟨by rw [Int.natAbs_natCast]; exact h.lt⟩
theorem RSz.NF' {a : Rat} (h : RSz a 40) : RSz (NF a) 40 := RSz.of (by decide) (sz_le_nat (Nat.div_le_self _ _) (sz_abs h.num)) (Sz.one.mono (by decide))
theorem RSz.NF1 {a : Rat} (h : RSz a 40) (h0 : a.num.natAbs % a.den ≠ 0) : RSz (NF a + 1) 40 := by
  rw [NF_one]
  refine RSz.of (by decide) (sz_le_nat ?_ (sz_abs h.num)) (Sz.one.mono (by decide))
  have e0 := Nat.div_add_mod a.num.natAbs a.den
  have e1 : a.num.natAbs / a.den ≤ a.den * (a.num.natAbs / a.den) := Nat.le_mul_of_pos_left _ a.den_pos
  unfold nF
  omega
theorem inv_ne {t : Rat} (h : (1 / t).num ≠ 0) : t.num ≠ 0 := by
  intro h0
  have : t = 0 := Rat.num_eq_zero.1 h0
  rw [this] at h
  exact h (by rw [Rat.div_def, Rat.inv_zero, Rat.mul_zero]; rfl)
theorem RSz.sub_fl {b : Rat} {n : Nat} (hb : 0 < b.num) (hn : n = b.num.natAbs / b.den) (h : RSz b 40) : RSz (b - Rat.divInt (n : Int) 1) 40 := by
  rw [sub_floor hb hn]
  exact RSz.of (by have := b.den_pos; omega) (sz_le_nat (Nat.le_of_lt (Nat.mod_lt _ b.den_pos)) h.den) h.den
theorem RSz.inv_fl {b x : Rat} (h : RSz b 40) (h1 : x.num = b.den) (h2 : x.den = b.num.natAbs % b.den) : RSz x 40 := ⟨by rw [h1]; exact h.den, by rw [h2]; exact sz_le_nat (Nat.le_of_lt (Nat.mod_lt _ b.den_pos)) h.den⟩
theorem RSz.inv' {x : Rat} (h : RSz x 40) (h0 : 0 < x.num) : RSz (1 / x) 40 := by
  conv => arg 1; arg 2; rw [← Rat.num_divInt_den x]
  rw [one_over]
  exact RSz.of (by omega) h.den h.num
theorem UpTo.spos9 {a b : Rat} (h : UpTo a b) : 0 < (sQ a b).num := by
  obtain ⟨p1, _⟩ := h.parts
  rw [p1]
  have := h.simp.xpos h.nat.1
  omega
theorem sQ_next9 {a b : Rat} (h0 : a.num.natAbs % a.den ≠ 0) (h6 : nF a < b.num.natAbs / b.den) : sQ a b = NF a + 1 := by
  rw [show (1 : Rat) = Rat.divInt 1 1 by decide]
  exact sQ_next h0 h6
theorem sQ_int9 {a b : Rat} (h0 : a.num.natAbs % a.den = 0) : sQ a b = NF a := sQ_int h0
end Go.Proofs.YtfnafgjnimfmjaaGreatDoor

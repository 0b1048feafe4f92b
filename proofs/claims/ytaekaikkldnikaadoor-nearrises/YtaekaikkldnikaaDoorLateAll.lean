/-
  Proved here: a limb is put behind a row of the call's own; small facts on such rows.
  Proved here: what Shift answers, and what the plain way's Bit answers.
  Proved here: small steps from world to world.
  Proved here: what the small functions of package near's kinds of floats answer.
  Proved here: plain facts on a region that leaves its order open: what is read may be read first, though later operations of the region write there. No condition.
-/
import Derived.Test.YtaekaikkldnikaaDoorFamAll
import Derived.Test.YtaekaikkldnikaaDoorCmpAll
import Derived.Test.YtaekaikkldnikaaDoorMulMathAll
import Derived.Test.YtaekaikkldnikaaDoorLiftAll
import Derived.Test.YtaekaikkldnikaaDoorTrimAll
import Derived.Test.YtaekaikkldnikaaDoorNearMathAll
import Derived.Deep.RegionHeld3
namespace Go.Proofs.YtaekaikkldnikaaDoor
open Go.RowKit

theorem lim_short {w : World} {v : Value} {xs : List Nat} (h : Num w v xs) : (lim (val xs)).length ≤ xs.length := by
  have h1 := lim_len_le (val_lt h.1)
  exact h1
theorem val_snoc (zs : List Nat) (d : Nat) : val (zs ++ [d]) = val zs + 4294967296 ^ zs.length * d := by
  rw [val_append]; simp [val]
theorem limbs_snoc {zs : List Nat} (h : limbs zs) {d : Nat} (hd : d < 4294967296) : limbs (zs ++ [d]) := fun x hx => by
  rcases List.mem_append.1 hx with h1 | h1
  · exact h x h1
  · simp at h1; omega
theorem push_own {B : Nat} {w w' wr : World} {v v' : Value} {zs : List Nat} {d : Nat} {o : Obj} (hv : Own B 70 wr v zs) (hbel : Below B w wr) (hB : B ≤ wr.heap.size) (hd : d < 4294967296)
    (ho : w'.ownsRow B 70 1 v' (zs.length + 1) (zs.map U ++ [U d])) (hg : (wr.alloc o).grownBy w' v.ownBlock) :
    Own B 70 w' v' (zs ++ [d]) ∧ Below B w w' ∧ B ≤ w'.heap.size := by
  have hsz : (wr.alloc o).heap.size = wr.heap.size + 1 := by simp
  have hbel2 : Below B (wr.alloc o) w' := below_of_grown hg (by omega) (fun g e => (hv.block g e).1)
  refine ⟨⟨limbs_snoc hv.1 hd, ?_⟩, (hbel.alloc hB o).trans hbel2, by have := hbel2.size; omega⟩
  rw [List.length_append, List.map_append]
  exact ho
theorem Own.sl {B e : Nat} {w : World} {v : Value} {xs : List Nat} (h : Own B e w v xs) : ∃ ao k cap, v = .slice ao k cap := by
  obtain ⟨ao, cap, h, _⟩ := h.ao
  exact ⟨ao, _, cap, h⟩
end Go.Proofs.YtaekaikkldnikaaDoor

namespace Go.Proofs.YtaekaikkldnikaaDoor
open Go.RowKit

/-- What a maker that may refuse leaves. -/
def MadeOk (B : Nat) (w : World) (xs : List Nat) (en : Ending) (w' : World) : Prop := ∃ v, en = .returned (.tuple #[v, .int .i64 0]) ∧ Own B 70 w' v xs ∧ Below B w w'

set_option maxRecDepth 100000 in
theorem shift_bad (v : Value) (n : Int) (w : World) (hn : n < -262144 ∨ 262144 < n) :
    Calls Tryd.prog 49 #[v, .int .i64 n] w fun e w' => e = .returned (.tuple #[.slice none 0 0, .int .i64 3]) ∧ w' = w := by
  rcases hn with hn | hn
  · have d1 : decide (n < -262144) = true := decide_eq_true hn
    go_enter Tryd.func49, Tryd.ntmps49
    go_wp2
    go_ret2
    exact ⟨rfl, rfl⟩
  · have h1 : ¬ n < -262144 := by omega
    have d1 : decide (n < -262144) = false := decide_eq_false h1
    go_enter Tryd.func49, Tryd.ntmps49
    go_wp2
    go_ret2
    exact ⟨rfl, rfl⟩

set_option maxRecDepth 100000 in
set_option maxHeartbeats 800000 in
theorem shift_ok (v : Value) (xs : List Nat) (n : Int) (w : World) (h : Num w v xs) (hlen : xs.length ≤ 549755813888) (hn1 : -262144 ≤ n) (hn2 : n ≤ 262144) :
    Calls Tryd.prog 49 #[v, .int .i64 n] w fun e w' => MadeOk w.heap.size w (lim (shl (val xs) n)) e w' := by
  have h1 : ¬ n < -262144 := by omega
  have h2 : ¬ 262144 < n := by omega
  have hls := lim_short h
  obtain ⟨ao, cap, rfl, hl1, hm1⟩ := h.ao
  by_cases h0 : 0 ≤ n
  · obtain ⟨m, rfl⟩ := Int.eq_ofNat_of_zero_le h0
    have h3 : ¬ (m : Int) < 0 := by omega
    have HS : Hid (shl (val xs) (m : Int) = val (lim (val xs)) * 2 ^ m) := by show _ = _; unfold shl; rw [if_pos h0, Int.toNat_natCast, val_lim]
    go_enter Tryd.func49, Tryd.ntmps49
    go_wp2_with fail
    refine (trim_any _ _ _ h).mono ?_
    rintro e w1 ⟨⟨k, hk, hk2, rfl⟩, rfl⟩
    have nu := h.cut hk
    rw [hk2] at nu
    clear h
    go_wp2_with fail
    refine (lift_any _ _ _ _ nu (by omega) (by omega)).mono ?_
    rintro e w2 ⟨zs, rfl, hzl, hcs, hval, hb⟩
    have how : Own w1.heap.size 70 w2 (.slice (some ⟨w1.heap.size, 0, none⟩) zs.length zs.length) zs := hcs.own (Nat.le_refl _) (by rw [hzl]; omega)
    rw [hzl] at how
    have HV : Hid (val zs = shl (val xs) (m : Int)) := by show _ = _; rw [HS.out]; exact hval
    clear hzl hcs hval nu hk2
    go_wp2_with fail
    refine (trim_any _ _ _ how.num).mono ?_
    rintro e w3 ⟨⟨k3, hk3, hk4, rfl⟩, rfl⟩
    have how2 := how.cut hk3
    rw [hk4, HV.out] at how2
    clear how hk4
    go_wp2
    go_ret2
    exact ⟨_, rfl, how2, hb⟩
  · obtain ⟨m, hm⟩ : ∃ m : Nat, n = -(m : Int) := ⟨(-n).toNat, by omega⟩
    have HS : Hid (shl (val xs) n = val (lim (val xs)) / 2 ^ m) := by show _ = _; unfold shl; rw [if_neg h0, val_lim, hm]; simp
    subst hm
    have h3 : -(m : Int) < 0 := by omega
    go_enter Tryd.func49, Tryd.ntmps49
    go_wp2_with fail
    refine (trim_any _ _ _ h).mono ?_
    rintro e w1 ⟨⟨k, hk, hk2, rfl⟩, rfl⟩
    have nu := h.cut hk
    rw [hk2] at nu
    clear h
    go_wp2_with fail
    refine (drop_any _ _ _ _ nu (by omega) (by omega)).mono ?_
    rintro e w2 ⟨v2, rfl, ho, hb⟩
    rw [← HS.out] at ho
    clear nu hk2
    go_wp2
    go_ret2
    exact ⟨_, rfl, ho, hb⟩

end Go.Proofs.YtaekaikkldnikaaDoor

namespace Go.Proofs.YtaekaikkldnikaaDoor
open Go.RowKit

theorem belowA (w : World) (o : Obj) : Below w.heap.size w (w.alloc o) := (Below.refl _ _).alloc (Nat.le_refl _) o
theorem belowDN (w : World) (q : Nat) : Below w.heap.size w (w.drewN q) := below_drewN (Below.refl _ _) q
theorem belowK {w w' : World} {k : Nat} (h : w' = w.drewN k) : Below w.heap.size w w' := by rw [h]; exact belowDN _ _
/-- One step on. -/
theorem bstep {w wr w' : World} (h : Below w.heap.size w wr) (hb : Below wr.heap.size wr w') : Below w.heap.size w w' := h.trans (hb.mono h.size)
end Go.Proofs.YtaekaikkldnikaaDoor

namespace Go.Proofs.YtaekaikkldnikaaDoor
open Go.RowKit

/-- A kind of floats. -/
def KV (d l t : Int) : Value := .agg #[.int .i64 d, .int .i64 l, .int .i64 t]

set_option maxRecDepth 100000 in
set_option maxHeartbeats 1600000 in
theorem number_any (d n u : Nat) (l t : Int) (w : World) (hd : 2 ≤ d) (hd2 : d ≤ 63) (_hl : -2000 ≤ l) (_hl2 : l ≤ 0) (hn : n ≤ 4000) (hu : u + n * 2 ^ (d - 1) < 18446744073709551616) :
    Calls Tryd.prog 77 #[.agg #[.int .i64 (d : Int), .int .i64 l, .int .i64 t], .int .u64 (u : Int), .int .i64 (l + (n : Int))] w fun e w' => e = .returned (.int .u64 ((u + n * 2 ^ (d - 1) : Nat) : Int)) ∧ Below w.heap.size w w' := by
  obtain ⟨k, rfl⟩ : ∃ k, d = k + 1 := ⟨d - 1, by omega⟩
  rw [show k + 1 - 1 = k by omega] at hu ⊢
  have e0 : l + (n : Int) - l = (n : Int) := by omega
  have e1 : ((k + 1 : Nat) : Int) - 1 = (k : Int) := by omega
  go_enter Tryd.func77, Tryd.ntmps77
  obtain ⟨m, hm⟩ : ∃ m, m = n * 2 ^ k := ⟨_, rfl⟩
  have hm2 : ((n : Int) * 2 ^ k) = (m : Int) := by rw [hm]; simp
  rw [← hm] at hu ⊢
  have e2 : IntKind.u64.wrap (m : Int) = (m : Int) := by rw [IntKind.wrap_u64]; omega
  have e3 : IntKind.u64.wrap ((u : Int) + (m : Int)) = ((u + m : Nat) : Int) := by rw [IntKind.wrap_u64]; omega
  clear hm
  go_wp2
  go_ret
  exact ⟨rfl, belowA _ _⟩

/-- What raised leaves. -/
def UpEnd (w : World) (x : Nat) (L : Nat) (e : Ending) (w' : World) : Prop := ∃ o l c zs, e = .returned (.slice o l c) ∧ Num w' (.slice o l c) zs ∧ val zs = x ∧ zs.length ≤ L ∧ Below w.heap.size w w'

theorem up_len {x : Nat} {xs : List Nat} {n : Int} (h : limbs xs) (hv : val xs = x) (hn : n ≤ 262144) : (lim (up x n)).length ≤ xs.length + 8192 := by
  refine lim_len_le ?_
  unfold up
  obtain ⟨p, hp⟩ : ∃ p : Nat, p = 8192 := ⟨_, rfl⟩
  rw [← hp, Nat.pow_add, ← hv]
  have h1 : (2 : Nat) ^ n.toNat ≤ 4294967296 ^ p := by
    rw [show (4294967296 : Nat) = 2 ^ 32 from rfl, ← Nat.pow_mul]
    exact Nat.pow_le_pow_right (by decide) (by omega)
  calc val xs * 2 ^ n.toNat < 4294967296 ^ xs.length * 2 ^ n.toNat := Nat.mul_lt_mul_of_pos_right (val_lt h) (Nat.two_pow_pos _)
    _ ≤ _ := Nat.mul_le_mul_left _ h1

set_option maxRecDepth 100000 in
set_option maxHeartbeats 1600000 in
theorem raised_any (v : Value) (xs : List Nat) (n : Int) (w : World) (h : Num w v xs) (hl : xs.length ≤ 100000) (hn : n ≤ 262144) (hn2 : -262144 ≤ n) :
    Calls Tryd.prog 25 #[v, .int .i64 n] w fun e w' => UpEnd w (up (val xs) n) (xs.length + 8192) e w' := by
  have hln := up_len h.1 rfl hn
  obtain ⟨ao, ac, rfl, hac, ham⟩ := h.ao
  by_cases h0 : n ≤ 0
  · have HE : Hid (UpEnd w (up (val xs) n) (xs.length + 8192) (.returned (.slice ao xs.length ac)) w) := by
      refine ⟨_, _, _, xs, rfl, h, ?_, by omega, Below.refl _ _⟩
      unfold up
      rw [show n.toNat = 0 by omega, Nat.pow_zero, Nat.mul_one]
    clear hln h
    go_enter Tryd.func25, Tryd.ntmps25
    go_wp2
    go_ret
    exact HE.out
  · have hsh : shl (val xs) n = up (val xs) n := by unfold shl up; rw [if_pos (by omega)]
    have hq := shift_ok _ xs n w h (by omega) hn2 hn
    rw [hsh] at hq
    clear hsh h
    go_enter Tryd.func25, Tryd.ntmps25
    go_wp2_with fail
    refine hq.mono ?_
    rintro e w1 ⟨o, rfl, ho, b⟩
    obtain ⟨zo, zl, zc, rfl⟩ := ho.sl
    have HE : Hid (UpEnd w (up (val xs) n) (xs.length + 8192) (.returned (.slice zo zl zc)) w1) := ⟨_, _, _, _, rfl, ho.num, val_lim _, hln, b⟩
    clear hq ho b hln
    go_wp2
    go_ret
    exact HE.out
end Go.Proofs.YtaekaikkldnikaaDoor

namespace Go.Proofs.YtaekaikkldnikaaDoor
open Go.RowKit

section
variable {P : Program} {ops : Array Oper} {Q : Exit → Act → World → Prop} {md : Region.Mode} {S : World → Prop} {L : List (Nat × (World → Prop))}

/-- Number j waits for number i. -/
def waitsB (md : Region.Mode) (ops : Array Oper) (j i : Nat) : Bool := match ops[j]? with | some o => o.after.any (fun e => Region.binds md e && e.on == i) | none => false
/-- Each condition holds, but where one that waits for its reader is done. -/
def Kept (md : Region.Mode) (ops : Array Oper) (done : Array Bool) (u : World) : List (Nat × (World → Prop)) → Prop
  | [] => True
  | p :: r => ((∃ k, done.getD k false = true ∧ waitsB md ops k p.1 = true) ∨ p.2 u) ∧ Kept md ops done u r
/-- All conditions hold. -/
def AllL (u : World) : List (Nat × (World → Prop)) → Prop
  | [] => True
  | p :: r => p.2 u ∧ AllL u r
theorem Kept.get {done : Array Bool} {u : World} : ∀ {L : List (Nat × (World → Prop))}, Kept md ops done u L → ∀ p ∈ L, (∃ k, done.getD k false = true ∧ waitsB md ops k p.1 = true) ∨ p.2 u
  | [], _, _, h => by cases h
  | q :: r, hk, p, h => by
    rcases List.mem_cons.1 h with h | h
    · rw [h]; exact hk.1
    · exact Kept.get hk.2 p h
theorem Kept.mk' {done : Array Bool} {u : World} : ∀ {L : List (Nat × (World → Prop))}, (∀ p ∈ L, (∃ k, done.getD k false = true ∧ waitsB md ops k p.1 = true) ∨ p.2 u) → Kept md ops done u L
  | [], _ => trivial
  | q :: r, h => ⟨h q (by simp), Kept.mk' fun p hp => h p (by simp [hp])⟩
theorem AllL.get {u : World} : ∀ {L : List (Nat × (World → Prop))}, AllL u L → ∀ p ∈ L, p.2 u
  | [], _, _, h => by cases h
  | q :: r, hk, p, h => by
    rcases List.mem_cons.1 h with h | h
    · rw [h]; exact hk.1
    · exact AllL.get hk.2 p h
theorem AllL.kept {done : Array Bool} {u : World} (h : AllL u L) : Kept md ops done u L := Kept.mk' fun p hp => Or.inr (h.get p hp)
/-- In whatever order: behind each operation what is still to be read stands. -/
def wpLate (P : Program) (md : Region.Mode) (ops : Array Oper) (Q : Exit → Act → World → Prop) (L : List (Nat × (World → Prop))) : Nat → Array Bool → Act → World → Prop
  | 0, done, a, w => Region.ready md ops done = [] ∧ Q .normal a w
  | n + 1, done, a, w => (Region.ready md ops done = [] → Q .normal a w) ∧
      ∀ j ∈ Region.ready md ops done, wpOp P ops Q j (fun b u => Kept md ops (done.setIfInBounds j true) u L ∧ wpLate P md ops Q L n (done.setIfInBounds j true) b u) a w
theorem wpLate.any : ∀ (n : Nat) (done : Array Bool) (a : Act) (w : World), wpLate P md ops Q L n done a w → wpAny P md ops Q n done a w
  | 0, _, _, _, h => h
  | n + 1, _, _, _, h => ⟨h.1, fun j hj => wpOp_mono (fun _ _ k => wpLate.any n _ _ _ k.2) (h.2 j hj)⟩
theorem region_late (L : List (Nat × (World → Prop))) {id : Nat} {a : Act} {w : World} (hm : P.follows .mixedOrders = true) (h : wpLate P .any ops Q L ops.size (Array.replicate ops.size false) a w.drew) : (Code.region id ops true).wp P Q a w :=
  wp_region_any hm (wpLate.any _ _ _ _ h)
theorem waits_no {i j : Nat} {o : Oper} (hj : ops[j]? = some o) (hno : ∀ e ∈ o.after, Region.binds md e = true → e.on ≠ i) : waitsB md ops j i = false := by
  unfold waitsB
  rw [hj]
  cases hc : o.after.any (fun e => Region.binds md e && e.on == i) with
  | false => exact hc
  | true =>
    simp only [Array.any_eq_true', Bool.and_eq_true, beq_iff_eq] at hc
    obtain ⟨e, he, hb, heq⟩ := hc
    exact absurd heq (hno e he hb)
theorem waits_yes {i j : Nat} (h : waitsB md ops j i = true) : ∃ o, ops[j]? = some o ∧ ∃ e ∈ o.after, Region.binds md e = true ∧ e.on = i := by
  unfold waitsB at h
  cases ho : ops[j]? with
  | none => rw [ho] at h; cases h
  | some o =>
    rw [ho] at h
    simp only [Array.any_eq_true', Bool.and_eq_true, beq_iff_eq] at h
    exact ⟨o, rfl, h⟩
/-- What is done waits for nothing that is not. -/
def Shut' (md : Region.Mode) (ops : Array Oper) (done : Array Bool) : Prop := ∀ k i, done.getD k false = true → waitsB md ops k i = true → done.getD i false = true
def shutB (md : Region.Mode) (ops : Array Oper) (done : Array Bool) : Bool := (List.range ops.size).all fun k => !done.getD k false || (match ops[k]? with | some o => o.after.all (fun e => !Region.binds md e || done.getD e.on false) | none => true)
theorem shut_of {done : Array Bool} (h : shutB md ops done = true) : Shut' md ops done := by
  intro k i hk hw
  obtain ⟨o, ho, e, he, hb, rfl⟩ := waits_yes hw
  unfold shutB at h
  rw [List.all_eq_true] at h
  have h1 := h k (List.mem_range.2 (Array.getElem?_eq_some_iff.1 ho).1)
  rw [ho, hk] at h1
  simp only [Bool.not_true, Bool.false_or, Array.all_eq_true_iff_forall_mem, Bool.or_eq_true, Bool.not_eq_true'] at h1
  rcases h1 e he with h2 | h2
  · rw [hb] at h2; cases h2
  · exact h2
theorem set_get {done : Array Bool} {i k : Nat} (h : (done.setIfInBounds i true).getD k false = true) : k = i ∨ done.getD k false = true := by
  rcases Nat.decEq i k with hne | he
  · rw [getD_set_ne false hne] at h; exact Or.inr h
  · exact Or.inl he.symm
theorem Shut'.set {done : Array Bool} {j : Nat} (h : Shut' md ops done) (hj : j ∈ Region.ready md ops done) : Shut' md ops (done.setIfInBounds j true) := by
  intro k i hk hw
  apply getD_set_true
  rcases set_get hk with he | hk
  · rw [he] at hw
    obtain ⟨o, ho, e, hem, hb, rfl⟩ := waits_yes hw
    obtain ⟨_, o', ho', hall⟩ := mem_ready.1 hj
    rw [ho] at ho'
    cases ho'
    exact hall e hem hb
  · exact h k i hk hw

theorem late_first {i : Nat} {oi : Oper} {v : Value} (hi : ops[i]? = some oi) (hs : Region.noSelect ops = true) (hL : (i, S) ∈ L ∨ ∀ u, S u) (hn : ∀ p ∈ L, waitsB md ops i p.1 = false) (hii : waitsB md ops i i = false)
    (hQ : ∀ c a w, Q (.panic c) (a.put oi.dst v) w → Q (.panic c) a w) (n : Nat) :
    ∀ (done : Array Bool) (a : Act) (w : World), (∀ j oj, ops[j]? = some oj → j ≠ i → done.getD j true = false → (∀ e ∈ oj.after, Region.binds md e = true → e.on ≠ i) → oi.apart ops oj = true) →
      i ∈ Region.ready md ops done → Shut' md ops done → YieldsIf P ops S oi v a → S w → Kept md ops (done.setIfInBounds i true) w L → wpLate P md ops Q L n (done.setIfInBounds i true) (a.put oi.dst v) w → wpLate P md ops Q L (n + 1) done a w := by
  have hsel := Region.noSelect_spec hs
  induction n with
  | zero =>
    intro done a w _ hr _ hy hS hK H
    constructor
    · intro h; rw [h] at hr; cases hr
    · intro j hj
      rcases Nat.decEq j i with hne | he
      · exact absurd (ready_mono hj hne) (by rw [H.1]; simp)
      · rw [he]; exact hy.wpOp hi hS ⟨hK, H⟩
  | succ n ih =>
    intro done a w hf hr hsh hy hS hK H
    constructor
    · intro h; rw [h] at hr; cases hr
    · intro j hj
      rcases Nat.decEq j i with hne | he
      · obtain ⟨hun, oj, hoj, hall⟩ := mem_ready.1 hj
        have hi0 : done.getD i false = false := by
          have h0 := (mem_ready.1 hr).1
          rw [Array.getD_eq_getD_getElem?] at h0 ⊢
          cases hc : done[i]? with
          | none => rfl
          | some c => rw [hc] at h0; exact h0
        have hno : ∀ e ∈ oj.after, Region.binds md e = true → e.on ≠ i := by
          intro e he hb heq
          have h1 := hall e he hb
          rw [heq, hi0] at h1
          cases h1
        have hjw := waits_no hoj hno
        have k := wpOp_putIf hoj (hf j oj hoj hne hun hno) (fun cs b => hsel i oi cs b hi) (fun cs b => hsel j oj cs b hoj) hQ hy (H.2 j (ready_mono hj hne))
        refine wpOp_mono (fun b u m => ?_) k
        obtain ⟨m1, m2, m3⟩ := m
        have hSu : S u := by
          rcases hL with hL | hL
          case inr => exact hL u
          rcases m2.get (i, S) hL with ⟨p, hp, hpw⟩ | h
          · exfalso
            rcases set_get hp with e1 | hp
            · rw [e1] at hpw
              have h9 : waitsB md ops j i = true := hpw
              rw [hjw] at h9; cases h9
            · rcases set_get hp with e1 | hp
              · rw [e1] at hpw; have h9 : waitsB md ops i i = true := hpw; rw [hii] at h9; cases h9
              · have h9 := hsh p i hp hpw
                rw [hi0] at h9; cases h9
          · exact h
        refine ⟨Kept.mk' fun p hp => ?_, ih _ b u ?_ (ready_mono hr (Ne.symm hne)) (hsh.set hj) m1 hSu ?_ ?_⟩
        · rcases m2.get p hp with ⟨q, hq, hqw⟩ | h
          · left
            refine ⟨q, ?_, hqw⟩
            rw [Array.setIfInBounds_comm _ _ (Ne.symm hne)] at hq
            rcases set_get hq with e1 | hq
            · rw [e1, hn p hp] at hqw; cases hqw
            · exact hq
          · exact Or.inr h
        · intro p op hp hpi hpu hpn
          refine hf p op hp hpi ?_ hpn
          rcases Nat.decEq j p with hjp | hjp
          · rw [getD_set_ne true hjp] at hpu; exact hpu
          · rw [← hjp]; exact hun
        · rw [Array.setIfInBounds_comm _ _ hne]; exact m2
        · rw [Array.setIfInBounds_comm _ _ hne]; exact m3
      · rw [he]; exact hy.wpOp hi hS ⟨hK, H⟩
end

section
variable {P : Program} {l : List Oper} {Q : Exit → Act → World → Prop} {md : Region.Mode} {S : World → Prop} {L : List (Nat × (World → Prop))}
/-- Number i waits for none of the readers. -/
def noneB (md : Region.Mode) (ops : Array Oper) (i : Nat) (rs : List Nat) : Bool := rs.all fun r => !waitsB md ops i r
theorem none_spec {ops : Array Oper} {i : Nat} (hn : noneB md ops i (L.map Prod.fst) = true) (p : Nat × (World → Prop)) (hp : p ∈ L) : waitsB md ops i p.1 = false := by
  unfold noneB at hn
  rw [List.all_eq_true] at hn
  have := hn p.1 (List.mem_map.2 ⟨p, hp, rfl⟩)
  simpa using this
/-- Number i, which hangs on no world, is taken first. -/
theorem late_free (i : Nat) {oi : Oper} {v : Value} {n : Nat} {done : Array Bool} {a : Act} {w : World} (hi : l[i]? = some oi) (hs : Region.noSelect l.toArray = true) (hn : noneB md l.toArray i (L.map Prod.fst) = true) (hii : waitsB md l.toArray i i = false) (hf : Region.free md l.toArray done i = true) (hr : (Region.ready md l.toArray done).contains i = true) (hsh : shutB md l.toArray done = true)
    (hQ : ∀ c a w, Q (.panic c) (a.put oi.dst v) w → Q (.panic c) a w) (hy : YieldsIf P l.toArray (fun _ => True) oi v a) (hA : AllL w L) (h : wpLate P md l.toArray Q L n (done.setIfInBounds i true) (a.put oi.dst v) w) : wpLate P md l.toArray Q L (n + 1) done a w :=
  have hi' : l.toArray[i]? = some oi := by rw [List.getElem?_toArray]; exact hi
  late_first hi' hs (Or.inr fun _ => trivial) (none_spec hn) hii hQ n done a w (Region.free_spec hi' hf) (by simpa using hr) (shut_of hsh) hy trivial hA.kept h
/-- Number i is taken first. -/
theorem late_take (i : Nat) {oi : Oper} {v : Value} {n : Nat} {done : Array Bool} {a : Act} {w : World} (hi : l[i]? = some oi) (hs : Region.noSelect l.toArray = true) (hL : (i, S) ∈ L) (hn : noneB md l.toArray i (L.map Prod.fst) = true) (hf : Region.free md l.toArray done i = true) (hr : (Region.ready md l.toArray done).contains i = true) (hsh : shutB md l.toArray done = true)
    (hQ : ∀ c a w, Q (.panic c) (a.put oi.dst v) w → Q (.panic c) a w) (hy : YieldsIf P l.toArray S oi v a) (hA : AllL w L) (h : wpLate P md l.toArray Q L n (done.setIfInBounds i true) (a.put oi.dst v) w) : wpLate P md l.toArray Q L (n + 1) done a w :=
  have hi' : l.toArray[i]? = some oi := by rw [List.getElem?_toArray]; exact hi
  late_first hi' hs (Or.inl hL) (none_spec hn) (none_spec hn (i, S) hL) hQ n done a w (Region.free_spec hi' hf) (by simpa using hr) (shut_of hsh) hy (hA.get _ hL) hA.kept h
/-- Number j alone may come up. -/
theorem late_step (j : Nat) {o : Oper} {n : Nat} {done : Array Bool} {a : Act} {w : World} (hr : Region.ready md l.toArray done = [j]) (ho : l[j]? = some o)
    (h : ∀ K' : Act → World → Prop, Shut (∀ b u, Kept md l.toArray (done.setIfInBounds j true) u L → wpLate P md l.toArray Q L n (done.setIfInBounds j true) b u → K' b u) → if Region.wanted o (yielded l.toArray a.tmps) = true then Oper.wp P o a w K' Q else K' (a.put o.dst undef) w) :
    wpLate P md l.toArray Q L (n + 1) done a w := by
  constructor
  · intro h0; rw [h0] at hr; cases hr
  · intro k hk
    rw [hr, List.mem_singleton] at hk
    subst hk
    exact wpOp_step (by rw [List.getElem?_toArray]; exact ho) (fun K' hK => h K' (fun b u h1 h2 => hK b u ⟨h1, h2⟩))
theorem late_done {done : Array Bool} {a : Act} {w : World} (hr : Region.ready md l.toArray done = []) (h : Q .normal a w) : ∀ n, wpLate P md l.toArray Q L n done a w
  | 0 => ⟨hr, h⟩
  | _ + 1 => ⟨fun _ => h, by rw [hr]; intro j hj; cases hj⟩
end
end Go.Proofs.YtaekaikkldnikaaDoor

/-
  Proved here: the law's call and told.
-/
import Derived.Test.YtmgbhbdcnciccaaDagAnAll
namespace Go.Proofs.Ytmgbhbdcnciccaa
set_option linter.unusedVariables false
open Go.RowKit
/-- The program's Children leaves rows of its own. -/
theorem ChE.own {w w' : World} {P : List (List Int)} {n : Nat} {v : Value} (h : ChE w P n v w') : ∃ (lo : Option Addr) (ln lc : Nat) (rvs : List Value), v = .slice lo ln lc ∧ OwR w.heap.size w' (.slice lo ln lc) rvs (if ckE P = 0 then chL P n else []) ∧ SepR rvs := by
  rcases h with ⟨h0, W, g, cvs, hb, rfl, ht⟩ | ⟨h0, rfl⟩
  · rw [if_pos h0]
    refine ⟨_, _, _, cvs, rfl, ⟨ht.row.mono hb.size, by rw [ht.len, chL_len], fun j u hu => ?_⟩, ht.apt⟩
    have hj : j < n := by have := (List.getElem?_eq_some_iff.1 hu).1; rw [ht.len] at this; exact this
    rw [chL_get hj]
    exact (ht.inn j u hu).mono hb.size
  · rw [if_neg h0]
    exact ⟨none, 0, 0, [], rfl, OwR.nil _ _, SepR.nil⟩
/-- The document's too. -/
theorem RcE.own {B : Nat} {P : List (List Int)} {n : Nat} {v : Value} {w' : World} (h : RcE B P n v w') : ∃ rvs, OwR B w' v rvs (if ckE P = 0 then chL P n else []) := by
  rcases h with ⟨h0, rvs, h1, h2, h3⟩ | ⟨h0, rfl⟩
  · rw [if_pos h0]
    refine ⟨rvs, h1, by rw [h2, chL_len], fun i x hx => ?_⟩
    have hi : i < n := by have := (List.getElem?_eq_some_iff.1 hx).1; omega
    rw [chL_get hi]; exact h3 i x hx
  · rw [if_neg h0]
    exact ⟨[], OwR.nil _ _⟩
/-- What the document's answer leaves. -/
def CtE (B d : Nat) (P : List (List Int)) (n : Nat) (pts : List Int) (w' : World) (e : Ending) : Prop := ∃ (ao : Option Addr) (k cap : Nat) (c : Int) (rvs : List Value) (L : List (List Int)), e = .returned (.tuple #[.slice ao k cap, .int .i64 c]) ∧ AnS d P n pts c L ∧ OwR B w' (.slice ao k cap) rvs L
theorem CtE.one {B d : Nat} {P : List (List Int)} {n : Nat} {pts : List Int} {w : World} {ao : Option Addr} {k cap : Nat} {R : List Int} {c : Int} (h : OG (Value.int .i64) B 3 w (.slice ao k cap) R) (hB : B ≤ w.heap.size) (ha : AnS d P n pts c [R]) : CtE B d P n pts (w.alloc (.cells #[.slice ao k cap] 24)) (.returned (.tuple #[.slice (some ⟨w.heap.size, 0, none⟩) 1 1, .int .i64 c])) :=
  ⟨_, _, _, c, [.slice ao k cap], [R], rfl, ha, OwR.one h hB⟩
set_option maxRecDepth 100000 in
set_option maxHeartbeats 6400000 in
theorem callD (d : Nat) (hd : d ≤ 4) (pv qv : Value) (pvs : List Value) (P : List (List Int)) (pts : List Int) (w : World) (h : RRD w pv pvs P) (n : Nat) (hn : P.length = n) (hb : n ≤ 100000) (hbl : ∀ i, (P.getD i []).length ≤ 100000) (hq : RG (Value.int .i64) w qv pts) (hql : pts.length ≤ 1100000) :
    Calls Try.prog 28 #[.int .i64 (d : Int), pv, qv] w fun e w' => CaE w.heap.size d P n pts w' e ∧ Below w.heap.size w w' := by
  have h5 : d = 0 ∨ d = 1 ∨ d = 2 ∨ d = 3 ∨ d = 4 := by omega
  clear hd
  obtain ⟨po, pn, pc, rfl⟩ : ∃ o n c, pv = .slice o n c := by obtain ⟨ao, cap, e⟩ := h.out.sl; exact ⟨_, _, _, e⟩
  obtain ⟨qo, qn, qc, rfl⟩ : ∃ o n c, qv = .slice o n c := by obtain ⟨ao, cap, e⟩ := hq.sl; exact ⟨_, _, _, e⟩
  rcases h5 with rfl | rfl | rfl | rfl | rfl
  · have CC : Hid _ := cycleD _ pvs P w h n hn hb hbl
    clear h hn hbl hq
    go_enter Try.func28, Try.ntmps28
    go_wp2_with fail
    refine Calls.mono CC.out ?_
    clear CC
    rintro e y ⟨tv, rfl, hl, hy⟩
    obtain ⟨lo, ln, lc, rfl⟩ : ∃ o n c, tv = .slice o n c := by obtain ⟨ao, cap, e⟩ := hl.rg.sl; exact ⟨_, _, _, e⟩
    obtain ⟨c, hc⟩ : ∃ c : Int, c = 0 := ⟨_, rfl⟩
    have HA : Hid (CaE w.heap.size _ P n pts (y.alloc (.cells #[.slice lo ln lc] 24)) (.returned (.tuple #[.slice (some ⟨y.heap.size, 0, none⟩) 1 1, .int .i64 c]))) := CaE.one hl hy.size (show AnS 0 P n pts c [cyL P] from ⟨hc, rfl⟩)
    subst hc
    have HB : Hid (Below w.heap.size w (y.alloc (.cells #[.slice lo ln lc] 24))) := hy.trans ((belowB _ _).mono hy.size)
    clear hl hy
    go_wp2
    go_ret2
    exact ⟨HA.out, HB.out⟩
  · have CC : Hid _ := orderD _ pvs P w h n hn hb hbl
    clear h hn hbl hq
    go_enter Try.func28, Try.ntmps28
    go_wp2_with fail
    refine Calls.mono CC.out ?_
    clear CC
    rintro e y ⟨tv, rfl, hl, hy⟩
    obtain ⟨lo, ln, lc, rfl⟩ : ∃ o n c, tv = .slice o n c := by obtain ⟨ao, cap, e⟩ := hl.rg.sl; exact ⟨_, _, _, e⟩
    obtain ⟨c, hc⟩ : ∃ c : Int, c = ckE P := ⟨_, rfl⟩
    rw [← hc]
    have HA : Hid (CaE w.heap.size _ P n pts (y.alloc (.cells #[.slice lo ln lc] 24)) (.returned (.tuple #[.slice (some ⟨y.heap.size, 0, none⟩) 1 1, .int .i64 c]))) := CaE.one hl hy.size (show AnS 1 P n pts c [ordL P] from ⟨hc, rfl⟩)
    clear hc
    have HB : Hid (Below w.heap.size w (y.alloc (.cells #[.slice lo ln lc] 24))) := hy.trans ((belowB _ _).mono hy.size)
    clear hl hy
    go_wp2
    go_ret2
    exact ⟨HA.out, HB.out⟩
  · have CC : Hid _ := aboveD _ _ pvs P pts w h n hn hb hbl hq hql
    clear h hn hbl hq
    go_enter Try.func28, Try.ntmps28
    go_wp2_with fail
    refine Calls.mono CC.out ?_
    clear CC
    rintro e y ⟨hE, hy⟩
    obtain ⟨lo, ln, lc, c, R, rfl, hl, ha⟩ := hE.abs
    clear hE
    have HA : Hid (CaE w.heap.size _ P n pts (y.alloc (.cells #[.slice lo ln lc] 24)) (.returned (.tuple #[.slice (some ⟨y.heap.size, 0, none⟩) 1 1, .int .i64 c]))) := CaE.one hl hy.size (show AnS 2 P n pts c [R] from ha)
    clear ha
    have HB : Hid (Below w.heap.size w (y.alloc (.cells #[.slice lo ln lc] 24))) := hy.trans ((belowB _ _).mono hy.size)
    clear hl hy
    go_wp2
    go_ret2
    exact ⟨HA.out, HB.out⟩
  · have CC : Hid _ := belowD _ _ pvs P pts w h n hn hb hbl hq hql
    clear h hn hbl hq
    go_enter Try.func28, Try.ntmps28
    go_wp2_with fail
    refine Calls.mono CC.out ?_
    clear CC
    rintro e y ⟨hE, hy⟩
    obtain ⟨lo, ln, lc, c, R, rfl, hl, ha⟩ := hE.abs
    clear hE
    have HA : Hid (CaE w.heap.size _ P n pts (y.alloc (.cells #[.slice lo ln lc] 24)) (.returned (.tuple #[.slice (some ⟨y.heap.size, 0, none⟩) 1 1, .int .i64 c]))) := CaE.one hl hy.size (show AnS 3 P n pts c [R] from ha)
    clear ha
    have HB : Hid (Below w.heap.size w (y.alloc (.cells #[.slice lo ln lc] 24))) := hy.trans ((belowB _ _).mono hy.size)
    clear hl hy
    go_wp2
    go_ret2
    exact ⟨HA.out, HB.out⟩
  · have CC : Hid _ := childrenD _ pvs P w h n hn hb hbl
    clear h hn hbl hq
    go_enter Try.func28, Try.ntmps28
    go_wp2_with fail
    refine Calls.mono CC.out ?_
    clear CC
    rintro e y ⟨tv, rfl, hE, hy⟩
    have hq2 := hE.own
    obtain ⟨lo, ln, lc, rvs, rfl, ho, hs⟩ := hq2
    have HA : Hid (CaE w.heap.size 4 P n pts y (.returned (.tuple #[.slice lo ln lc, .int .i64 (ckE P)]))) := ⟨lo, ln, lc, _, rvs, _, rfl, (show AnS 4 P n pts (ckE P) _ from ⟨rfl, rfl⟩), ho, hs⟩
    have HB : Hid (Below w.heap.size w y) := hy
    clear hE ho hy hs
    go_wp2
    go_ret2
    exact ⟨HA.out, HB.out⟩
set_option maxRecDepth 100000 in
set_option maxHeartbeats 6400000 in
theorem toldD (d : Nat) (hd : d ≤ 4) (pv qv : Value) (pvs : List Value) (P : List (List Int)) (pts : List Int) (w : World) (h : RRD w pv pvs P) (n : Nat) (hn : P.length = n) (hb : n ≤ 100000) (hbl : ∀ i, (P.getD i []).length ≤ 100000) (hq : RG (Value.int .i64) w qv pts) (hql : pts.length ≤ 1100000) :
    Calls Try.prog 26 #[.int .i64 (d : Int), pv, qv] w fun e w' => CtE w.heap.size d P n pts w' e ∧ Below w.heap.size w w' := by
  have h5 : d = 0 ∨ d = 1 ∨ d = 2 ∨ d = 3 ∨ d = 4 := by omega
  clear hd
  obtain ⟨po, pn, pc, rfl⟩ : ∃ o n c, pv = .slice o n c := by obtain ⟨ao, cap, e⟩ := h.out.sl; exact ⟨_, _, _, e⟩
  obtain ⟨qo, qn, qc, rfl⟩ : ∃ o n c, qv = .slice o n c := by obtain ⟨ao, cap, e⟩ := hq.sl; exact ⟨_, _, _, e⟩
  rcases h5 with rfl | rfl | rfl | rfl | rfl
  · have CC : Hid _ := refCycleD _ pvs P w h n hn hb hbl
    clear h hn hbl hq
    go_enter Try.func26, Try.ntmps26
    go_wp2_with fail
    refine Calls.mono CC.out ?_
    clear CC
    rintro e y ⟨tv, rfl, hl, hy⟩
    obtain ⟨lo, ln, lc, rfl⟩ : ∃ o n c, tv = .slice o n c := by obtain ⟨ao, cap, e⟩ := hl.rg.sl; exact ⟨_, _, _, e⟩
    obtain ⟨c, hc⟩ : ∃ c : Int, c = 0 := ⟨_, rfl⟩
    have HA : Hid (CtE w.heap.size _ P n pts (y.alloc (.cells #[.slice lo ln lc] 24)) (.returned (.tuple #[.slice (some ⟨y.heap.size, 0, none⟩) 1 1, .int .i64 c]))) := CtE.one hl hy.size (show AnS 0 P n pts c [cyL P] from ⟨hc, rfl⟩)
    subst hc
    have HB : Hid (Below w.heap.size w (y.alloc (.cells #[.slice lo ln lc] 24))) := hy.trans ((belowB _ _).mono hy.size)
    clear hl hy
    go_wp2
    go_ret2
    exact ⟨HA.out, HB.out⟩
  · have CC : Hid _ := refOrderD _ pvs P w h n hn hb
    clear h hn hbl hq
    go_enter Try.func26, Try.ntmps26
    go_wp2_with fail
    refine Calls.mono CC.out ?_
    clear CC
    rintro e y ⟨tv, rfl, hl, hy⟩
    obtain ⟨lo, ln, lc, rfl⟩ : ∃ o n c, tv = .slice o n c := by obtain ⟨ao, cap, e⟩ := hl.rg.sl; exact ⟨_, _, _, e⟩
    obtain ⟨c, hc⟩ : ∃ c : Int, c = ckE P := ⟨_, rfl⟩
    rw [← hc]
    have HA : Hid (CtE w.heap.size _ P n pts (y.alloc (.cells #[.slice lo ln lc] 24)) (.returned (.tuple #[.slice (some ⟨y.heap.size, 0, none⟩) 1 1, .int .i64 c]))) := CtE.one hl hy.size (show AnS 1 P n pts c [ordL P] from ⟨hc, rfl⟩)
    clear hc
    have HB : Hid (Below w.heap.size w (y.alloc (.cells #[.slice lo ln lc] 24))) := hy.trans ((belowB _ _).mono hy.size)
    clear hl hy
    go_wp2
    go_ret2
    exact ⟨HA.out, HB.out⟩
  · have CC : Hid _ := refAboveD _ _ pvs P pts w h n hn hb hbl hq hql
    clear h hn hbl hq
    go_enter Try.func26, Try.ntmps26
    go_wp2_with fail
    refine Calls.mono CC.out ?_
    clear CC
    rintro e y ⟨hE, hy⟩
    obtain ⟨lo, ln, lc, c, R, rfl, hl, ha⟩ := hE.abs
    clear hE
    have HA : Hid (CtE w.heap.size _ P n pts (y.alloc (.cells #[.slice lo ln lc] 24)) (.returned (.tuple #[.slice (some ⟨y.heap.size, 0, none⟩) 1 1, .int .i64 c]))) := CtE.one hl hy.size (show AnS 2 P n pts c [R] from ha)
    clear ha
    have HB : Hid (Below w.heap.size w (y.alloc (.cells #[.slice lo ln lc] 24))) := hy.trans ((belowB _ _).mono hy.size)
    clear hl hy
    go_wp2
    go_ret2
    exact ⟨HA.out, HB.out⟩
  · have CC : Hid _ := refBelowD _ _ pvs P pts w h n hn hb hbl hq hql
    clear h hn hbl hq
    go_enter Try.func26, Try.ntmps26
    go_wp2_with fail
    refine Calls.mono CC.out ?_
    clear CC
    rintro e y ⟨hE, hy⟩
    obtain ⟨lo, ln, lc, c, R, rfl, hl, ha⟩ := hE.abs
    clear hE
    have HA : Hid (CtE w.heap.size _ P n pts (y.alloc (.cells #[.slice lo ln lc] 24)) (.returned (.tuple #[.slice (some ⟨y.heap.size, 0, none⟩) 1 1, .int .i64 c]))) := CtE.one hl hy.size (show AnS 3 P n pts c [R] from ha)
    clear ha
    have HB : Hid (Below w.heap.size w (y.alloc (.cells #[.slice lo ln lc] 24))) := hy.trans ((belowB _ _).mono hy.size)
    clear hl hy
    go_wp2
    go_ret2
    exact ⟨HA.out, HB.out⟩
  · have CC : Hid _ := refChildrenD _ pvs P w h n hn hb
    clear h hn hbl hq
    go_enter Try.func26, Try.ntmps26
    go_wp2_with fail
    refine Calls.mono CC.out ?_
    clear CC
    rintro e y ⟨lo, ln, lc, rfl, hE, hy⟩
    obtain ⟨rvs, ho⟩ := hE.own
    have HA : Hid (CtE w.heap.size 4 P n pts y (.returned (.tuple #[.slice lo ln lc, .int .i64 (ckE P)]))) := ⟨lo, ln, lc, _, rvs, _, rfl, (show AnS 4 P n pts (ckE P) _ from ⟨rfl, rfl⟩), ho⟩
    have HB : Hid (Below w.heap.size w y) := hy
    clear hE ho hy
    go_wp2
    go_ret2
    exact ⟨HA.out, HB.out⟩
end Go.Proofs.Ytmgbhbdcnciccaa

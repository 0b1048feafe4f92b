/-
  Proved here: package set at int: With, Without.
  Proved here: layer 11's law.go: ints; alive.
  Proved here: a list of ints that was handed in is a row that can be read; the set of a list, told by what is in it.
  Proved here: mathematics (no program): two rising lists put together.
  Proved here: package set at int: kept, Meet, Minus.
  Proved here: package set at int: Join.
  Proved here: sets of ints by their rising lists: what each call of package set makes of them.
-/
import Derived.Test.YthdpomgpcblpeaaGreatSetDIAll
import Derived.Test.YthdpomgpcblpeaaGreatSetEIAll
import Derived.Test.YthdpomgpcblpeaaGreatLate3
import Derived.Test.YthdpomgpcblpeaaGreatHeapMathAll
import Derived.OpenShut
import Derived.Laws.MakeOwn
import Derived.Deep.CutRange
namespace Go.Proofs.YthdpomgpcblpeaaGreat
open Go.Shelf Go.RowKit Go.Lib Go.Sort
set_option maxRecDepth 100000 in
theorem cutI (ao : Option Addr) (n cap m : Nat) (hmn : m ≤ n) (hnc : n ≤ cap) (hm : cap ≤ 9223372036854775807) (hnil : ao = none → cap = 0) (w : World) :
    (Instr.slice 23 (.slice ao n cap) none (some (.int .i64 (m : Int))) none).run Tryz.prog w = .ok (.slice ao m cap) w := by
  have hb : (m : Int) ≤ (cap : Int) := by omega
  have h0 : (0 : Int) ≤ (m : Int) := by omega
  rcases ao with _ | ad
  · have := hnil rfl
    subst this
    have : m = 0 := by omega
    subst this
    go_simp
  · go_simp
set_option maxRecDepth 100000 in
theorem fromI (ao : Option Addr) (n cap m : Nat) (L : List Int) (hmn : m ≤ n) (hnc : n ≤ cap) (hm : cap ≤ 9223372036854775807) (hnil : ao = none → cap = 0) :
    ∃ bo c2, (∀ w, (Instr.slice 23 (.slice ao n cap) (some (.int .i64 (m : Int))) none none).run Tryz.prog w = .ok (.slice bo (n - m) c2) w) ∧ ∀ W, RG (Value.int .i64) W (.slice ao n cap) L → RG (Value.int .i64) W (.slice bo (n - m) c2) (L.drop m) := by
  have hb : (m : Int) ≤ (n : Int) := by omega
  have h0 : (0 : Int) ≤ (m : Int) := by omega
  have hc : (n : Int) ≤ (cap : Int) := by omega
  rcases ao with _ | ad
  · have := hnil rfl
    subst this
    have : n = 0 := by omega
    subst this
    have : m = 0 := by omega
    subst this
    exact ⟨none, 0, fun w => by go_simp, fun W h => h⟩
  · obtain ⟨g, o, sp⟩ := ad
    by_cases hcm : cap = m
    · subst hcm
      have hn : n = cap := by omega
      subst hn
      refine ⟨some ⟨g, o, sp⟩, 0, fun w => ?_, fun W h => ?_⟩
      · have e1 : n - n = 0 := Nat.sub_self n
        go_simp
      · have hl := h.len
        rw [List.drop_of_length_le (by omega), Nat.sub_self]
        exact ⟨some ⟨g, o, sp⟩, 0, rfl, Nat.le_refl _, Nat.zero_le _, fun h => by simp at h, fun i x hx => by simp at hx⟩
    refine ⟨some ((⟨g, o, sp⟩ : Addr).add m), cap - m, fun w => ?_, fun W h => ?_⟩
    · have e1 : ((n : Int) - (m : Int)).toNat = n - m := by omega
      have e2 : ((cap : Int) - (m : Int)).toNat = cap - m := by omega
      go_simp
    · have hl := h.len
      by_cases h0 : 0 < n
      · obtain ⟨x, g', o', hx, e, -⟩ := h.at (i := 0) h0
        simp only [Option.some.injEq, Addr.mk.injEq] at e
        obtain ⟨rfl, rfl, rfl⟩ := e
        rw [Addr.add_lit]
        exact h.from hmn
      · have hL : L = [] := List.eq_nil_of_length_eq_zero (by omega)
        subst hL
        have : n = 0 := by omega
        subst this
        have : m = 0 := by omega
        subst this
        obtain ⟨ao, c, e, h1, h2, h3, -⟩ := h
        cases e
        exact ⟨_, _, rfl, by simp, by simp; exact h2, fun h => by simp at h, fun i x hx => by simp at hx⟩
/-- a row that is built of rows that can be read -/
theorem rr_litI (e : Nat) (w : World) (vs : List Value) (Ls : List (List Int)) (hl : vs.length = Ls.length) (hm : vs.length ≤ 1000) (h : ∀ (i : Nat) (u : Value) (L : List Int), vs[i]? = some u → Ls[i]? = some L → RG (Value.int .i64) w u L) :
    RR (Value.int .i64) (w.alloc (.cells vs.toArray e)) (.slice (some ⟨w.heap.size, 0, none⟩) vs.length vs.length) Ls := by
  refine ⟨vs, ?_, hl, fun i u L h1 h2 => (h i u L h1 h2).alloc _⟩
  have := (OG.lit (enc := (id : Value → Value)) e w vs (by unfold maxLen; omega)).rg
  rwa [List.map_id] at this
/-- what With leaves -/
def WithEI (w : World) (L : List Int) (x : Int) (e : Ending) (w' : World) : Prop := ∃ u k, e = .returned (.agg #[u]) ∧ Pos (ltOf cfI) L x k ∧ RG (Value.int .i64) w' u (if hasI L x then L else L.take k ++ x :: L.drop k) ∧ Below w.heap.size w w'
/-- what Without leaves -/
def WithoutEI (w : World) (L : List Int) (x : Int) (e : Ending) (w' : World) : Prop := ∃ u k, e = .returned (.agg #[u]) ∧ Pos (ltOf cfI) L x k ∧ RG (Value.int .i64) w' u (if hasI L x then L.take k ++ L.drop (k + 1) else L) ∧ Below w.heap.size w w'
end Go.Proofs.YthdpomgpcblpeaaGreat

namespace Go.Proofs.YthdpomgpcblpeaaGreat
open Go.Shelf Go.RowKit Go.Lib Go.Sort

theorem posI_eq {L : List Int} {x : Int} {k j : Nat} (h : Pos (ltOf cfI) L x k) (hj : Pos (ltOf cfI) L x j) : k = j := h.uniq hj
theorem rg_lit (w : World) (zs : List Int) (hm : zs.length ≤ 1000) : RG (Value.int .i64) (w.alloc (.cells (zs.map (Value.int .i64)).toArray 3)) (.slice (some ⟨w.heap.size, 0, none⟩) zs.length zs.length) zs := (OG.lit (enc := Value.int .i64) 3 w zs (by unfold maxLen; omega)).rg
theorem of_four : ofI [3, 1, 3, 2] = [1, 2, 3] := by decide
theorem alive_rs : Rs (ltOf cfI) [1, 2, 3] := by rw [← of_four]; exact ofI_rs _
end Go.Proofs.YthdpomgpcblpeaaGreat

namespace Go.Proofs.YthdpomgpcblpeaaGreat
open Go.Shelf Go.RowKit Go.Lib Go.Sort
theorem cell_ltG {w : World} {a : Addr} {v : Value} (h : w.cell? a = some v) : a.block < w.heap.size := by
  rcases Nat.lt_or_ge a.block w.heap.size with h1 | h1
  · exact h1
  · simp [World.cell?, Array.getElem?_eq_none h1] at h
theorem rg_of_ints {W : World} {x : Addr} {len cap : Nat} {zs : List Int} (hl : len ≤ cap) (hm : cap ≤ maxLen) (hz : zs.length = cap)
    (hcell : ∀ i, i < zs.length → W.cell? (x.add i) = some (.int .i64 (zs.getD i 0))) : ∃ ys, ys.length = len ∧ RG (Value.int .i64) W (.slice (some x) len cap) ys := by
  have hlen : (zs.take len).length = len := by simp; omega
  refine ⟨zs.take len, hlen, some x, cap, by rw [hlen], by rw [hlen]; exact hl, hm, fun h => by simp at h, fun i y hy => ?_⟩
  have hi : i < len := by have := (List.getElem?_eq_some_iff.1 hy).1; omega
  have hc := hcell i (by omega)
  obtain ⟨b, off, spot⟩ := x
  have hspot : spot = none := by
    have := World.cell?_spot (hcell 0 (by omega))
    simpa [Addr.add] using this
  subst hspot
  refine ⟨b, off, rfl, ?_⟩
  rw [Addr.add_lit] at hc
  rw [List.getElem?_take_of_lt hi] at hy
  rw [hc, List.getD_eq_getElem?_getD, hy]
  rfl
theorem rs_rise {L : List Int} : Rs (ltOf cfI) L ↔ Rise L := by
  unfold Rs Rise
  constructor
  · intro h; exact h.imp fun hxy => by rw [ltI] at hxy; exact of_decide_eq_true hxy
  · intro h; exact h.imp fun hxy => by rw [ltI]; exact decide_eq_true hxy
theorem mem_ofI (L : List Int) (z : Int) : z ∈ ofI L ↔ z ∈ L := by
  unfold ofI
  constructor
  · intro h; exact (perm_sortS (le := leOf (ltOf cfI)) L).mem_iff.1 (mem_cpt h)
  · intro h; exact cpt_mem smI_eq ((perm_sortS (le := leOf (ltOf cfI)) L).mem_iff.2 h)
theorem ofI_eq (L : List Int) : ofI L = ofR L := rise_ext (rs_rise.1 (ofI_rs L)) (rise_ofR L) fun z => by rw [mem_ofI, mem_ofR]
theorem ofI_ext {L M : List Int} (h : ∀ z, z ∈ L ↔ z ∈ M) : ofI L = ofI M := rise_ext (rs_rise.1 (ofI_rs L)) (rs_rise.1 (ofI_rs M)) fun z => by rw [mem_ofI, mem_ofI, h]
theorem smI_iff (x y : Int) : smI x y = decide (x = y) := cfI_zero x y
theorem hasI_mem (L : List Int) (x : Int) : hasI L x = decide (x ∈ L) := by
  unfold hasI
  rw [Bool.eq_iff_iff]
  simp only [List.any_eq_true, smI_iff, decide_eq_true_eq]
  constructor
  · rintro ⟨y, hy, rfl⟩; exact hy
  · intro h; exact ⟨x, h, rfl⟩
def bk (M : List Int) : List Int := M.reverse.flatMap fun x => [x, x]
theorem bk_cons (x : Int) (M : List Int) : bk (x :: M) = bk M ++ [x, x] := by simp [bk]
theorem mem_bk (M : List Int) (z : Int) : z ∈ bk M ↔ z ∈ M := by simp [bk]
theorem len_bk (M : List Int) : (bk M).length = 2 * M.length := by
  induction M with
  | nil => rfl
  | cons x M ih => rw [bk_cons, List.length_append, ih]; simp; omega
end Go.Proofs.YthdpomgpcblpeaaGreat

namespace Go.Proofs.YthdpomgpcblpeaaGreat
open Go.Shelf Go.RowKit Go.Lib Go.Sort
section
variable {α : Type}
/-- how many are below -/
def pF (lt : α → α → Bool) (L : List α) (x : α) : Nat := (L.takeWhile fun y => lt y x).length
theorem pF_pos {lt : α → α → Bool} {x : α} : ∀ {L : List α} {k : Nat}, Pos lt L x k → k = pF lt L x
  | [], k, h => by have := h.le; simp at this; subst this; rfl
  | y :: L, 0, h => by
    have := h.hi 0 y (Nat.le_refl _) rfl
    unfold pF
    rw [List.takeWhile_cons, if_neg (by rw [this]; simp)]
    rfl
  | y :: L, k + 1, h => by
    have h0 := h.lo 0 y (by omega) rfl
    have ih := pF_pos (L := L) (k := k) ⟨by have := h.le; simpa using this, fun t z ht hz => h.lo (t + 1) z (by omega) (by simpa using hz), fun t z ht hz => h.hi (t + 1) z (by omega) (by simpa using hz)⟩
    unfold pF at ih ⊢
    rw [List.takeWhile_cons, if_pos h0, List.length_cons, ← ih]
/-- s and r put together: of the same thing s's -/
def jn (lt : α → α → Bool) (fd : List α → α → Nat → Bool) : List α → List α → List α
  | [], r => r
  | x :: s, r => r.take (pF lt r x) ++ x :: jn lt fd s (if fd r x (pF lt r x) then r.drop (pF lt r x + 1) else r.drop (pF lt r x))
theorem jn_len {lt : α → α → Bool} {fd : List α → α → Nat → Bool} : ∀ (s r : List α), (jn lt fd s r).length ≤ s.length + r.length
  | [], r => by simp [jn]
  | x :: s, r => by
    cases e : fd r x (pF lt r x) with
    | true =>
      have := jn_len (lt := lt) (fd := fd) s (r.drop (pF lt r x + 1))
      simp only [jn, e, if_true, List.length_append, List.length_cons, List.length_take]
      simp only [List.length_drop] at this
      omega
    | false =>
      have := jn_len (lt := lt) (fd := fd) s (r.drop (pF lt r x))
      simp only [jn, e, List.length_append, List.length_cons, List.length_take]
      simp only [List.length_drop] at this
      simp only [Bool.false_eq_true, if_false]
      omega
theorem srt_drops {le : α → α → Bool} {l : List α} (h : Srt le l) (s : Nat) : Srt le (l.drop s) := List.Pairwise.sublist (List.drop_sublist s l) h
theorem filter_snoc (p : α → Bool) {L : List α} {i : Nat} {x : α} (h : L[i]? = some x) : (L.take (i + 1)).filter p = (L.take i).filter p ++ if p x then [x] else [] := by
  rw [take_snoc h, List.filter_append]
  cases e : p x <;> simp [e]
end
end Go.Proofs.YthdpomgpcblpeaaGreat

namespace Go.Proofs.YthdpomgpcblpeaaGreat
open Go.Shelf Go.RowKit Go.Lib Go.Sort
/-- what a maker leaves -/
def MkEI (w : World) (M : List Int) (e : Ending) (w' : World) : Prop := ∃ u, e = .returned (.agg #[u]) ∧ OG (Value.int .i64) w.heap.size 3 w' u M ∧ Below w.heap.size w w'
set_option maxHeartbeats 4000000 in
set_option maxRecDepth 1000000 in
theorem minus1I (ob : Nat) (u : Value) (M : List Int) (x : Int) (w : World) (hs : SCell 56 w ob u) (hu : RG (Value.int .i64) w u M) (hR : Rs (ltOf cfI) M) (hz : M.length ≤ 1048576) :
    Calls Tryz.prog 79 #[(Value.int .i64) x, .pointer (some ⟨ob, 0, none⟩)] w fun e w' => e = .returned (.bool (!hasI M x)) ∧ Below w.heap.size w w' := by
  have C := setHasI u M x w hu hR hz
  have c0 := hs.cell
  obtain ⟨uo, uc, rfl⟩ := hu.sl
  generalize hasI M x = b at *
  clear hs hu
  go_enter Tryz.func79, Tryz.ntmps79
  go_wp2_with (go_at_call 69; refine C.mono ?_; rintro e w' ⟨rfl, h2⟩)
  go_ret
  exact ⟨rfl, h2⟩
set_option maxHeartbeats 4000000 in
set_option maxRecDepth 1000000 in
theorem keptMI (u : Value) (v : Value) (L : List Int) (p : Int → Bool) (w : World) (hv : RG (Value.int .i64) w v L) (hz : L.length ≤ 1048576)
    (hp : ∀ W x, Below w.heap.size w W → Calls Tryz.prog 69 #[.agg #[u], (Value.int .i64) x] W fun e w' => e = .returned (.bool (p x)) ∧ Below W.heap.size W w') :
    Calls Tryz.prog 78 #[.agg #[v], .func (.func 69) #[.agg #[u]] #[]] w fun e w' => MkEI w (L.filter p) e w' := by
  obtain ⟨W1, hW1⟩ : ∃ W1, W1 = (w.alloc (.cells #[v] 56)).alloc (.cells #[.slice none 0 0] 56) := ⟨_, rfl⟩
  have s0 : SCell 56 W1 w.heap.size v := by rw [hW1]; exact (SCell.new w rfl).step _
  have s1 : SCell 56 W1 (w.heap.size + 1) (.slice none 0 0) := by rw [hW1]; exact SCell.new _ (by simp)
  have b0 : Below w.heap.size w W1 := by rw [hW1]; exact ((Below.refl _ _).alloc (Nat.le_refl _) _).alloc (by simp) _
  have z0 : W1.heap.size = w.heap.size + 2 := by rw [hW1]; simp
  have hv1 := hv.below (Nat.le_refl _) b0
  have HP : Hid (∀ W x, Below W1.heap.size W1 W → Calls Tryz.prog 69 #[.agg #[u], (Value.int .i64) x] W fun e w' => e = .returned (.bool (p x)) ∧ Below W.heap.size W w') := fun W x h => hp W x (b0.trans (h.mono b0.size))
  obtain ⟨i0, hi, hz0, hz1, hz2⟩ := info_parts infoI
  have HW1 : Hid (W1 = (w.alloc (.cells #[v] 56)).alloc (.cells #[.slice none 0 0] 56)) := hW1
  obtain ⟨g, hg⟩ : ∃ g, g = w.heap.size := ⟨_, rfl⟩
  rw [← hg] at s0 s1 b0 z0
  have HG : Hid (g = w.heap.size) := hg
  have S1 : Hid (SCell 56 W1 (g + 1) (.slice none 0 0)) := s1
  have HB : Hid (Below g w W1) := b0
  have HZ : Hid (W1.heap.size = g + 2) := z0
  obtain ⟨ao, cap, rfl, hc, hm, -, -⟩ := id hv1
  unfold maxLen at hm
  obtain ⟨n, hn⟩ : ∃ n, L.length = n := ⟨_, rfl⟩
  rw [hn] at hc s0 HW1 hv1 hz
  have hnv : (Value.slice ao L.length cap) = .slice ao n cap := by rw [hn]
  rw [hnv]
  have HN : Hid (L.length = n) := hn
  have HC : Hid (∀ W, Below W1.heap.size W1 W → ∀ i, i < n → ∃ x gg o, L[i]? = some x ∧ ao = some ⟨gg, o, none⟩ ∧ W.cell? ⟨gg, o + i, none⟩ = some ((Value.int .i64) x)) := fun W h i hi => (hv1.below (Nat.le_refl _) h).at hi
  have hent : ∀ args w, (callFunc 69 args).run Tryz.prog w = .ok (.enter 69 args) w := enters_of Tryz.func69 (by kernel_rfl) rfl
  have c0 := s0.cell
  clear hW1 hv hn hnv s0 s1 b0 hp z0 hv1
  go_enter Tryz.func78, Tryz.ntmps78
  go_upto_region 1 with fail
  rw [← HW1.out, ← HG.out]
  clear HW1 hg
  go_wp2
  clear c0
  go_loopg [5, 7, 11] n (fun g1 v5 _v7 v11 wr => ∃ (i : Nat) (vt : Value), vt = v5 ∧ v11 = .int .i64 i ∧ i ≤ n ∧ n - i ≤ g1 ∧ Hid (OG (Value.int .i64) W1.heap.size 3 wr vt ((L.take i).filter p)) ∧ Hid (Below W1.heap.size W1 wr))
  case atStart => exact ⟨0, _, rfl, rfl, Nat.zero_le _, by omega, OG.nil _ _ _, Below.refl _ _⟩
  case round =>
    obtain ⟨i, vt, rfl, rfl, hin, hg1, HO, HBW⟩ := hrel
    by_cases hlt : i < n
    · have hltz : (i : Int) < (n : Int) := by omega
      obtain ⟨x, gg, o, hx, e1, hc0⟩ := HC.out _ HBW.out i hlt
      subst e1
      have C := HP.out wr x HBW.out
      have hfs := filter_snoc p hx
      have HLN : Hid (((L.take i).filter p).length ≤ 1048576) := Nat.le_trans (List.length_filter_le _ _) (by rw [List.length_take]; omega)
      clear hx
      cases hb : p x with
      | true =>
        rw [hb] at C
        have HFS : Hid ((L.take (i + 1)).filter p = (L.take i).filter p ++ [x]) := by rw [hb] at hfs; exact hfs
        clear hfs hb
        go_wp2_with fail
        refine C.mono ?_
        rintro e w2 ⟨rfl, h2⟩
        clear C hc0
        have O2 := HO.out.below h2
        have B2 := HBW.out.trans (h2.mono HBW.out.size)
        have O3 : Hid (OG (Value.int .i64) W1.heap.size 3 (w2.alloc (.cells #[(Value.int .i64) x] 3)) vt ((L.take i).filter p)) := O2.below ((Below.refl _ _).alloc (Nat.le_refl _) _)
        have R3 : Hid (RG (Value.int .i64) (w2.alloc (.cells #[(Value.int .i64) x] 3)) (.slice (some ⟨w2.heap.size, 0, none⟩) 1 1) [x]) := (OG.lit (enc := (Value.int .i64)) 3 w2 [x] (by unfold maxLen; simp)).rg
        have Z3 : Hid (W1.heap.size ≤ (w2.alloc (.cells #[(Value.int .i64) x] 3)).heap.size) := Nat.le_trans B2.size (by simp)
        have B3 : Hid (Below W1.heap.size W1 (w2.alloc (.cells #[(Value.int .i64) x] 3))) := B2.alloc B2.size _
        clear HO HBW O2 B2 h2
        go_wp2_with (at_builtin; refine wpList_appG _ oneI rfl _ _ 23 rfl W1.heap.size 3 i0 (.int .i64 0) 8 Tryz.underlying23 hi hz0 hz1 hz2 rfl _ _ ((L.take i).filter p) [x] rfl O3.out rfl R3.out (by have := HLN.out; unfold maxLen; simp only [List.length_cons, List.length_nil]; omega) (by have := HLN.out; simp only [List.length_cons, List.length_nil]; omega) Z3.out ?_)
        intro v1 w3 ho1 hg3
        have O4 : Hid (OG (Value.int .i64) W1.heap.size 3 w3 v1 ((L.take (i + 1)).filter p)) := by rw [HFS.out]; exact ho1
        have B4 : Hid (Below W1.heap.size W1 w3) := O3.out.grown B3.out Z3.out hg3
        clear ho1 hg3
        go_wp2
        go_roundg (n - (i + 1))
        case measure => omega
        case rel => exact ⟨i + 1, _, rfl, by go_num, by omega, Nat.le_refl _, O4, B4⟩
      | false =>
        rw [hb] at C
        have HFS : Hid ((L.take (i + 1)).filter p = (L.take i).filter p) := by rw [hb] at hfs; simpa [Hid] using hfs
        clear hfs hb
        go_wp2_with fail
        refine C.mono ?_
        rintro e w2 ⟨rfl, h2⟩
        clear C hc0
        have O2 : Hid (OG (Value.int .i64) W1.heap.size 3 w2 vt ((L.take (i + 1)).filter p)) := by rw [HFS.out]; exact HO.out.below h2
        have B2 : Hid (Below W1.heap.size W1 w2) := HBW.out.trans (h2.mono HBW.out.size)
        clear HO HBW h2
        go_wp2
        go_roundg (n - (i + 1))
        case measure => omega
        case rel => exact ⟨i + 1, _, rfl, by go_num, by omega, Nat.le_refl _, O2, B2⟩
    · have hltz : ¬ (i : Int) < (n : Int) := by omega
      have hin2 : i = n := by omega
      subst hin2
      have ho := HO.out
      rw [List.take_of_length_le (by rw [HN.out]; exact Nat.le_refl _)] at ho
      obtain ⟨uo, uc, hu, -⟩ := ho.sl
      obtain ⟨ul, hul⟩ : ∃ l, l = (L.filter p).length := ⟨_, rfl⟩
      rw [← hul] at hu
      subst hu
      have s6 := S1.out.below HBW.out
      have c6 := s6.cell
      have f6 := s6.thaw
      have HW : Hid (SCell 56 (wr.setCell ⟨g + 1, 0, none⟩ (.slice uo ul uc)) (g + 1) (.slice uo ul uc)) := s6.write _
      have HBE : Hid (Below g w (wr.setCell ⟨g + 1, 0, none⟩ (.slice uo ul uc))) := (HB.out.trans (HBW.out.mono (by rw [HZ.out]; omega))).setCell (p := ⟨g + 1, 0, none⟩) (Nat.le_succ _) _
      have HR : Hid (OG (Value.int .i64) g 3 (wr.setCell ⟨g + 1, 0, none⟩ (.slice uo ul uc)) (.slice uo ul uc) (L.filter p)) := OG.of_blocks (ho.mono (by rw [HZ.out]; omega)) fun j hj => Below.heap_setCell _ _ _ _ (by have h1 := (ho.lt j hj).1; rw [HZ.out] at h1; show j ≠ g + 1; omega)
      clear s6 ho hul HO HBW hltz
      go_wp2_with fail
      (try simp only [Exit.inBlock, Exit.then])
      exact bodyPost_ret (results_cell_row rfl _ _ (g + 1) 56 _ (0, 0) _ rfl HW.out Tryz.underlying56 rfl (by kernel_rfl)) rfl ⟨_, rfl, by rw [← HG.out]; exact HR.out, by rw [← HG.out]; exact HBE.out⟩
set_option maxHeartbeats 4000000 in
set_option maxRecDepth 1000000 in
theorem keptNI (ob : Nat) (v : Value) (L : List Int) (p : Int → Bool) (w : World) (hv : RG (Value.int .i64) w v L) (hz : L.length ≤ 1048576)
    (hp : ∀ W x, Below w.heap.size w W → Calls Tryz.prog 79 #[(Value.int .i64) x, .pointer (some ⟨ob, 0, none⟩)] W fun e w' => e = .returned (.bool (p x)) ∧ Below W.heap.size W w') :
    Calls Tryz.prog 78 #[.agg #[v], .func (.func 79) #[] #[.pointer (some ⟨ob, 0, none⟩)]] w fun e w' => MkEI w (L.filter p) e w' := by
  obtain ⟨W1, hW1⟩ : ∃ W1, W1 = (w.alloc (.cells #[v] 56)).alloc (.cells #[.slice none 0 0] 56) := ⟨_, rfl⟩
  have s0 : SCell 56 W1 w.heap.size v := by rw [hW1]; exact (SCell.new w rfl).step _
  have s1 : SCell 56 W1 (w.heap.size + 1) (.slice none 0 0) := by rw [hW1]; exact SCell.new _ (by simp)
  have b0 : Below w.heap.size w W1 := by rw [hW1]; exact ((Below.refl _ _).alloc (Nat.le_refl _) _).alloc (by simp) _
  have z0 : W1.heap.size = w.heap.size + 2 := by rw [hW1]; simp
  have hv1 := hv.below (Nat.le_refl _) b0
  have HP : Hid (∀ W x, Below W1.heap.size W1 W → Calls Tryz.prog 79 #[(Value.int .i64) x, .pointer (some ⟨ob, 0, none⟩)] W fun e w' => e = .returned (.bool (p x)) ∧ Below W.heap.size W w') := fun W x h => hp W x (b0.trans (h.mono b0.size))
  obtain ⟨i0, hi, hz0, hz1, hz2⟩ := info_parts infoI
  have HW1 : Hid (W1 = (w.alloc (.cells #[v] 56)).alloc (.cells #[.slice none 0 0] 56)) := hW1
  obtain ⟨g, hg⟩ : ∃ g, g = w.heap.size := ⟨_, rfl⟩
  rw [← hg] at s0 s1 b0 z0
  have HG : Hid (g = w.heap.size) := hg
  have S1 : Hid (SCell 56 W1 (g + 1) (.slice none 0 0)) := s1
  have HB : Hid (Below g w W1) := b0
  have HZ : Hid (W1.heap.size = g + 2) := z0
  obtain ⟨ao, cap, rfl, hc, hm, -, -⟩ := id hv1
  unfold maxLen at hm
  obtain ⟨n, hn⟩ : ∃ n, L.length = n := ⟨_, rfl⟩
  rw [hn] at hc s0 HW1 hv1 hz
  have hnv : (Value.slice ao L.length cap) = .slice ao n cap := by rw [hn]
  rw [hnv]
  have HN : Hid (L.length = n) := hn
  have HC : Hid (∀ W, Below W1.heap.size W1 W → ∀ i, i < n → ∃ x gg o, L[i]? = some x ∧ ao = some ⟨gg, o, none⟩ ∧ W.cell? ⟨gg, o + i, none⟩ = some ((Value.int .i64) x)) := fun W h i hi => (hv1.below (Nat.le_refl _) h).at hi
  have hent : ∀ args w, (callFunc 79 args).run Tryz.prog w = .ok (.enter 79 args) w := enters_of Tryz.func79 (by kernel_rfl) rfl
  have c0 := s0.cell
  clear hW1 hv hn hnv s0 s1 b0 hp z0 hv1
  go_enter Tryz.func78, Tryz.ntmps78
  go_upto_region 1 with fail
  rw [← HW1.out, ← HG.out]
  clear HW1 hg
  go_wp2
  clear c0
  go_loopg [5, 7, 11] n (fun g1 v5 _v7 v11 wr => ∃ (i : Nat) (vt : Value), vt = v5 ∧ v11 = .int .i64 i ∧ i ≤ n ∧ n - i ≤ g1 ∧ Hid (OG (Value.int .i64) W1.heap.size 3 wr vt ((L.take i).filter p)) ∧ Hid (Below W1.heap.size W1 wr))
  case atStart => exact ⟨0, _, rfl, rfl, Nat.zero_le _, by omega, OG.nil _ _ _, Below.refl _ _⟩
  case round =>
    obtain ⟨i, vt, rfl, rfl, hin, hg1, HO, HBW⟩ := hrel
    by_cases hlt : i < n
    · have hltz : (i : Int) < (n : Int) := by omega
      obtain ⟨x, gg, o, hx, e1, hc0⟩ := HC.out _ HBW.out i hlt
      subst e1
      have C := HP.out wr x HBW.out
      have hfs := filter_snoc p hx
      have HLN : Hid (((L.take i).filter p).length ≤ 1048576) := Nat.le_trans (List.length_filter_le _ _) (by rw [List.length_take]; omega)
      clear hx
      cases hb : p x with
      | true =>
        rw [hb] at C
        have HFS : Hid ((L.take (i + 1)).filter p = (L.take i).filter p ++ [x]) := by rw [hb] at hfs; exact hfs
        clear hfs hb
        go_wp2_with fail
        refine C.mono ?_
        rintro e w2 ⟨rfl, h2⟩
        clear C hc0
        have O2 := HO.out.below h2
        have B2 := HBW.out.trans (h2.mono HBW.out.size)
        have O3 : Hid (OG (Value.int .i64) W1.heap.size 3 (w2.alloc (.cells #[(Value.int .i64) x] 3)) vt ((L.take i).filter p)) := O2.below ((Below.refl _ _).alloc (Nat.le_refl _) _)
        have R3 : Hid (RG (Value.int .i64) (w2.alloc (.cells #[(Value.int .i64) x] 3)) (.slice (some ⟨w2.heap.size, 0, none⟩) 1 1) [x]) := (OG.lit (enc := (Value.int .i64)) 3 w2 [x] (by unfold maxLen; simp)).rg
        have Z3 : Hid (W1.heap.size ≤ (w2.alloc (.cells #[(Value.int .i64) x] 3)).heap.size) := Nat.le_trans B2.size (by simp)
        have B3 : Hid (Below W1.heap.size W1 (w2.alloc (.cells #[(Value.int .i64) x] 3))) := B2.alloc B2.size _
        clear HO HBW O2 B2 h2
        go_wp2_with (at_builtin; refine wpList_appG _ oneI rfl _ _ 23 rfl W1.heap.size 3 i0 (.int .i64 0) 8 Tryz.underlying23 hi hz0 hz1 hz2 rfl _ _ ((L.take i).filter p) [x] rfl O3.out rfl R3.out (by have := HLN.out; unfold maxLen; simp only [List.length_cons, List.length_nil]; omega) (by have := HLN.out; simp only [List.length_cons, List.length_nil]; omega) Z3.out ?_)
        intro v1 w3 ho1 hg3
        have O4 : Hid (OG (Value.int .i64) W1.heap.size 3 w3 v1 ((L.take (i + 1)).filter p)) := by rw [HFS.out]; exact ho1
        have B4 : Hid (Below W1.heap.size W1 w3) := O3.out.grown B3.out Z3.out hg3
        clear ho1 hg3
        go_wp2
        go_roundg (n - (i + 1))
        case measure => omega
        case rel => exact ⟨i + 1, _, rfl, by go_num, by omega, Nat.le_refl _, O4, B4⟩
      | false =>
        rw [hb] at C
        have HFS : Hid ((L.take (i + 1)).filter p = (L.take i).filter p) := by rw [hb] at hfs; simpa [Hid] using hfs
        clear hfs hb
        go_wp2_with fail
        refine C.mono ?_
        rintro e w2 ⟨rfl, h2⟩
        clear C hc0
        have O2 : Hid (OG (Value.int .i64) W1.heap.size 3 w2 vt ((L.take (i + 1)).filter p)) := by rw [HFS.out]; exact HO.out.below h2
        have B2 : Hid (Below W1.heap.size W1 w2) := HBW.out.trans (h2.mono HBW.out.size)
        clear HO HBW h2
        go_wp2
        go_roundg (n - (i + 1))
        case measure => omega
        case rel => exact ⟨i + 1, _, rfl, by go_num, by omega, Nat.le_refl _, O2, B2⟩
    · have hltz : ¬ (i : Int) < (n : Int) := by omega
      have hin2 : i = n := by omega
      subst hin2
      have ho := HO.out
      rw [List.take_of_length_le (by rw [HN.out]; exact Nat.le_refl _)] at ho
      obtain ⟨uo, uc, hu, -⟩ := ho.sl
      obtain ⟨ul, hul⟩ : ∃ l, l = (L.filter p).length := ⟨_, rfl⟩
      rw [← hul] at hu
      subst hu
      have s6 := S1.out.below HBW.out
      have c6 := s6.cell
      have f6 := s6.thaw
      have HW : Hid (SCell 56 (wr.setCell ⟨g + 1, 0, none⟩ (.slice uo ul uc)) (g + 1) (.slice uo ul uc)) := s6.write _
      have HBE : Hid (Below g w (wr.setCell ⟨g + 1, 0, none⟩ (.slice uo ul uc))) := (HB.out.trans (HBW.out.mono (by rw [HZ.out]; omega))).setCell (p := ⟨g + 1, 0, none⟩) (Nat.le_succ _) _
      have HR : Hid (OG (Value.int .i64) g 3 (wr.setCell ⟨g + 1, 0, none⟩ (.slice uo ul uc)) (.slice uo ul uc) (L.filter p)) := OG.of_blocks (ho.mono (by rw [HZ.out]; omega)) fun j hj => Below.heap_setCell _ _ _ _ (by have h1 := (ho.lt j hj).1; rw [HZ.out] at h1; show j ≠ g + 1; omega)
      clear s6 ho hul HO HBW hltz
      go_wp2_with fail
      (try simp only [Exit.inBlock, Exit.then])
      exact bodyPost_ret (results_cell_row rfl _ _ (g + 1) 56 _ (0, 0) _ rfl HW.out Tryz.underlying56 rfl (by kernel_rfl)) rfl ⟨_, rfl, by rw [← HG.out]; exact HR.out, by rw [← HG.out]; exact HBE.out⟩
set_option maxHeartbeats 4000000 in
set_option maxRecDepth 1000000 in
theorem setMinusI (v u : Value) (L M : List Int) (w : World) (hv : RG (Value.int .i64) w v L) (hu : RG (Value.int .i64) w u M) (hR : Rs (ltOf cfI) M) (hz : L.length ≤ 1048576) (hz2 : M.length ≤ 1048576) :
    Calls Tryz.prog 57 #[.agg #[v], .agg #[u]] w fun e w' => MkEI w (L.filter (fun x => !hasI M x)) e w' := by
  obtain ⟨W1, hW1⟩ : ∃ W1, W1 = ((w.alloc (.cells #[v] 56)).alloc (.cells #[u] 56)).alloc (.cells #[.slice none 0 0] 56) := ⟨_, rfl⟩
  have s0 : SCell 56 W1 w.heap.size v := by rw [hW1]; exact ((SCell.new w rfl).step _).step _
  have s1 : SCell 56 W1 (w.heap.size + 1) u := by rw [hW1]; exact (SCell.new _ (by simp)).step _
  have s2 : SCell 56 W1 (w.heap.size + 2) (.slice none 0 0) := by rw [hW1]; exact SCell.new _ (by simp)
  have b0 : Below w.heap.size w W1 := by rw [hW1]; exact (((Below.refl _ _).alloc (Nat.le_refl _) _).alloc (by simp) _).alloc (by simp; omega) _
  have z0 : W1.heap.size = w.heap.size + 3 := by rw [hW1]; simp
  have HW1 : Hid (W1 = ((w.alloc (.cells #[v] 56)).alloc (.cells #[u] 56)).alloc (.cells #[.slice none 0 0] 56)) := hW1
  have HU : Hid (RG (Value.int .i64) W1 u M) := hu.below (Nat.le_refl _) b0
  obtain ⟨g, hg⟩ : ∃ g, g = w.heap.size := ⟨_, rfl⟩
  have HG : Hid (g = w.heap.size) := hg
  rw [← hg] at s0 s1 s2 z0
  have C := keptNI (g + 1) v L (fun x => !hasI M x) W1 (hv.below (Nat.le_refl _) b0) hz (fun W x hb => minus1I (g + 1) u M x W (s1.below hb) (HU.out.below (Nat.le_refl _) hb) hR hz2)
  obtain ⟨uo, uc, rfl⟩ := hu.sl
  obtain ⟨ao, ac, rfl⟩ := hv.sl
  have c0 := s0.cell
  have c1 := s1.cell
  clear hW1 hv hu
  rw [← hg] at b0
  go_enter Tryz.func57, Tryz.ntmps57
  go_upto_region 1 with fail
  rw [← HW1.out, ← HG.out]
  clear HW1 hg
  go_wp2_with fail
  refine C.mono ?_
  rintro e w2 ⟨r, rfl, hr, b2⟩
  have s6 := s2.below b2
  have c6 := s6.cell
  have f6 := s6.thaw
  obtain ⟨ro, rc, hrr, -⟩ := hr.sl
  obtain ⟨rl, hrl⟩ : ∃ l, l = (L.filter (fun x => !hasI M x)).length := ⟨_, rfl⟩
  rw [← hrl] at hrr
  subst hrr
  have HW : Hid (SCell 56 (w2.setCell ⟨g + 2, 0, none⟩ (.slice ro rl rc)) (g + 2) (.slice ro rl rc)) := s6.write _
  have HBE : Hid (Below g w (w2.setCell ⟨g + 2, 0, none⟩ (.slice ro rl rc))) := (b0.trans (b2.mono (by omega))).setCell (p := ⟨g + 2, 0, none⟩) (by show g ≤ g + 2; omega) _
  have HR : Hid (OG (Value.int .i64) g 3 (w2.setCell ⟨g + 2, 0, none⟩ (.slice ro rl rc)) (.slice ro rl rc) (L.filter (fun x => !hasI M x))) := OG.of_blocks (hr.mono (by omega)) fun j hj => Below.heap_setCell _ _ _ _ (by have h1 := (hr.lt j hj).1; show j ≠ g + 2; omega)
  clear C c0 c1 s0 s1 s2 s6 b0 b2 hr hrl z0
  go_wp2_with fail
  (try simp only [Exit.inBlock, Exit.then])
  exact bodyPost_ret (results_cell_row rfl _ _ (g + 2) 56 _ (0, 0) _ rfl HW.out Tryz.underlying56 rfl (by kernel_rfl)) rfl ⟨_, rfl, by rw [← HG.out]; exact HR.out, by rw [← HG.out]; exact HBE.out⟩
end Go.Proofs.YthdpomgpcblpeaaGreat

namespace Go.Proofs.YthdpomgpcblpeaaGreat
open Go.Shelf Go.RowKit Go.Lib Go.Sort
/-- what two rising lists make -/
def joinI (L M : List Int) : List Int := jn (ltOf cfI) fndI L M
theorem joinI_len (L M : List Int) : (joinI L M).length ≤ L.length + M.length := jn_len L M
theorem rs_dropI {L : List Int} (h : Rs (ltOf cfI) L) (k : Nat) : Rs (ltOf cfI) (L.drop k) := List.Pairwise.sublist (List.drop_sublist k L) h
end Go.Proofs.YthdpomgpcblpeaaGreat

namespace Go.Proofs.YthdpomgpcblpeaaGreat
open Go.Shelf Go.RowKit Go.Lib Go.Sort
/-- a set of ints: a rising list that can be read, of at most k things -/
structure SI (w : World) (v : Value) (T : List Int) (k : Nat) : Prop where
  rg : RG (Value.int .i64) w v T
  rise : Rise T
  len : T.length ≤ k
theorem SI.below {w w' : World} {v : Value} {T : List Int} {k : Nat} (h : SI w v T k) (hb : Below w.heap.size w w') : SI w' v T k := ⟨h.rg.below (Nat.le_refl _) hb, h.rise, h.len⟩
theorem SI.alloc {w : World} {v : Value} {T : List Int} {k : Nat} (h : SI w v T k) (o : Obj) : SI (w.alloc o) v T k := ⟨h.rg.alloc o, h.rise, h.len⟩
theorem SI.sl {w : World} {v : Value} {T : List Int} {k : Nat} (h : SI w v T k) : ∃ ao n cap, v = .slice ao n cap := by obtain ⟨ao, cap, e⟩ := h.rg.sl; exact ⟨ao, _, cap, e⟩
theorem SI.none (w : World) (k : Nat) : SI w (.slice none 0 0) [] k := ⟨RG.nil w, rise_nil, Nat.zero_le _⟩
/-- a set that was made -/
def SE (w : World) (T : List Int) (k : Nat) (e : Ending) (w' : World) : Prop := ∃ ao n cap, e = .returned (.agg #[.slice ao n cap]) ∧ SI w' (.slice ao n cap) T k ∧ Below w.heap.size w w'
theorem jn_mem : ∀ (s r : List Int), Rise r → ∀ z, z ∈ joinI s r ↔ z ∈ s ∨ z ∈ r
  | [], r, _, z => by simp [joinI, jn]
  | x :: s, r, h, z => by
    have hP : ∃ k, Pos (ltOf cfI) r x k := pos_ex r x h
    obtain ⟨k, hP⟩ := hP
    have hk := pF_pos hP
    have h1 : joinI (x :: s) r = r.take k ++ x :: joinI s (if fndI r x k then r.drop (k + 1) else r.drop k) := by unfold joinI; rw [jn, ← hk]
    rw [h1]
    cases e : fndI r x k with
    | true =>
      have ih := jn_mem s (r.drop (k + 1)) (List.Pairwise.sublist (List.drop_sublist _ _) h) z
      have hx : r[k]? = some x := by
        unfold fndI at e
        cases e2 : r[k]? with
        | none => rw [e2] at e; exact absurd e (by simp)
        | some y => rw [e2] at e; rw [smI_eq y x e]
      have hr : r = r.take k ++ x :: r.drop (k + 1) := by rw [← drop_cons hx, List.take_append_drop]
      simp only [if_true, List.mem_append, List.mem_cons, ih]
      conv => rhs; rw [hr]
      simp only [List.mem_append, List.mem_cons]
      by_cases a : z ∈ r.take k <;> by_cases b : z = x <;> by_cases c : z ∈ s <;> by_cases d : z ∈ r.drop (k + 1) <;> simp [a, b, c, d]
    | false =>
      have ih := jn_mem s (r.drop k) (List.Pairwise.sublist (List.drop_sublist _ _) h) z
      have hr : r = r.take k ++ r.drop k := (List.take_append_drop k r).symm
      simp only [Bool.false_eq_true, if_false, List.mem_append, List.mem_cons, ih]
      conv => rhs; rw [hr]
      simp only [List.mem_append]
      by_cases a : z ∈ r.take k <;> by_cases b : z = x <;> by_cases c : z ∈ s <;> by_cases d : z ∈ r.drop k <;> simp [a, b, c, d]
where
  pos_ex (r : List Int) (x : Int) (h : Rise r) : ∃ k, Pos (ltOf cfI) r x k := by
    induction r with
    | nil => exact ⟨0, Nat.le_refl _, fun t y ht => absurd ht (Nat.not_lt_zero _), fun t y _ hy => by simp at hy⟩
    | cons y r ih =>
      by_cases hyx : y < x
      · obtain ⟨k, hk⟩ := ih h.tail
        refine ⟨k + 1, by have := hk.le; simpa using this, fun t z ht hz => ?_, fun t z ht hz => ?_⟩
        · cases t with
          | zero => cases hz; rw [ltI]; exact decide_eq_true hyx
          | succ t => exact hk.lo t z (by omega) (by simpa using hz)
        · cases t with
          | zero => omega
          | succ t => exact hk.hi t z (by omega) (by simpa using hz)
      · refine ⟨0, Nat.zero_le _, fun t z ht => absurd ht (Nat.not_lt_zero _), fun t z _ hz => ?_⟩
        rw [ltI]
        refine decide_eq_false ?_
        cases t with
        | zero => cases hz; exact hyx
        | succ t =>
          have := h.head z (List.mem_of_getElem? (by simpa using hz))
          omega
theorem jn_rise : ∀ (s r : List Int), Rise s → Rise r → Rise (joinI s r)
  | [], r, _, h => by simpa [joinI, jn] using h
  | x :: s, r, hs, h => by
    obtain ⟨k, hP⟩ := jn_mem.pos_ex r x h
    have hk := pF_pos hP
    have h1 : joinI (x :: s) r = r.take k ++ x :: joinI s (if fndI r x k then r.drop (k + 1) else r.drop k) := by unfold joinI; rw [jn, ← hk]
    rw [h1]
    have hlo : ∀ z ∈ r.take k, z < x := fun z hz => by
      obtain ⟨i, hi⟩ := List.mem_iff_getElem?.1 hz
      have hi2 : i < k := by have := (List.getElem?_eq_some_iff.1 hi).1; rw [List.length_take] at this; omega
      rw [List.getElem?_take_of_lt hi2] at hi
      have := hP.lo i z hi2 hi
      rw [ltI] at this
      exact of_decide_eq_true this
    have hhi : ∀ z ∈ (if fndI r x k then r.drop (k + 1) else r.drop k), x < z := fun z hz => by
      cases e : fndI r x k with
      | true =>
        rw [e] at hz
        simp only [if_true] at hz
        obtain ⟨i, hi⟩ := List.mem_iff_getElem?.1 hz
        rw [List.getElem?_drop] at hi
        have hx : r[k]? = some x := by
          unfold fndI at e
          cases e2 : r[k]? with
          | none => rw [e2] at e; exact absurd e (by simp)
          | some y => rw [e2] at e; rw [smI_eq y x e]
        obtain ⟨h1, e1⟩ := List.getElem?_eq_some_iff.1 hx
        obtain ⟨h2, e2⟩ := List.getElem?_eq_some_iff.1 hi
        have := (List.pairwise_iff_getElem.1 h) k (k + 1 + i) h1 h2 (by omega)
        rw [e1, e2] at this
        exact this
      | false =>
        rw [e] at hz
        simp only [Bool.false_eq_true, if_false] at hz
        obtain ⟨i, hi⟩ := List.mem_iff_getElem?.1 hz
        rw [List.getElem?_drop] at hi
        have h3 := hP.hi (k + i) z (by omega) hi
        rw [ltI] at h3
        have h3 := of_decide_eq_false h3
        have hne : z ≠ x := by
          rintro rfl
          by_cases hi0 : i = 0
          · subst hi0
            have hz2 : r[k]? = some z := by simpa using hi
            rw [fndI_at hz2] at e
            unfold smI at e
            rw [cfI_zero] at e
            simp at e
          · obtain ⟨h2, e2⟩ := List.getElem?_eq_some_iff.1 hi
            have hkl : k < r.length := by omega
            have h4 := hP.hi k r[k] (Nat.le_refl _) (List.getElem?_eq_getElem hkl)
            rw [ltI] at h4
            have h4 := of_decide_eq_false h4
            have := (List.pairwise_iff_getElem.1 h) k (k + i) hkl h2 (by omega)
            rw [e2] at this
            omega
        omega
    have hR : Rise (if fndI r x k then r.drop (k + 1) else r.drop k) := by
      split
      · exact List.Pairwise.sublist (List.drop_sublist _ _) h
      · exact List.Pairwise.sublist (List.drop_sublist _ _) h
    have ih := jn_rise s _ hs.tail hR
    have hmem := jn_mem s _ hR
    refine List.pairwise_append.2 ⟨List.Pairwise.sublist (List.take_sublist _ _) h, List.pairwise_cons.2 ⟨fun z hz => ?_, ih⟩, fun a ha b hb => ?_⟩
    · rcases (hmem z).1 hz with hz | hz
      · exact hs.head z hz
      · exact hhi z hz
    · have hax := hlo a ha
      rcases List.mem_cons.1 hb with rfl | hb
      · exact hax
      · rcases (hmem b).1 hb with hb | hb
        · have := hs.head b hb; omega
        · have := hhi b hb; omega
theorem joinI_eq {s r : List Int} (hs : Rise s) (hr : Rise r) : joinI s r = joinR s r := rise_ext (jn_rise s r hs hr) (rise_joinR r hs) fun z => by rw [jn_mem s r hr, mem_joinR]
theorem meetI_eq (L M : List Int) : L.filter (hasI M) = meetR L M := by
  unfold meetR
  apply List.filter_congr
  intro z _
  rw [hasI_mem]
theorem minusI_eq (L M : List Int) : (L.filter fun x => !hasI M x) = minusR L M := by
  unfold minusR
  apply List.filter_congr
  intro z _
  rw [hasI_mem]
theorem withinI_eq (L M : List Int) : L.all (hasI M) = withinR L M := by
  unfold withinR
  rw [Bool.eq_iff_iff]
  simp only [List.all_eq_true, hasI_mem]
theorem sameI_eq : ∀ (L M : List Int), allS smI L M = decide (L = M)
  | [], [] => rfl
  | [], y :: M => rfl
  | x :: L, [] => rfl
  | x :: L, y :: M => by
    rw [allS, sameI_eq L M, smI_iff]
    by_cases h1 : x = y <;> by_cases h2 : L = M <;> simp [h1, h2]
theorem siOf {w : World} {v : Value} {L : List Int} (hv : RG (Value.int .i64) w v L) {k : Nat} (hk : L.length ≤ k) (hk2 : k ≤ 100000) : Calls Tryz.prog 55 #[v] w fun e w' => SE w (ofR L) k e w' :=
  (setOfI v L w hv (by omega)).mono fun _ _ ⟨u, h1, h2, h3⟩ => by
    obtain ⟨ao, cap, rfl, -⟩ := h2.sl
    exact ⟨ao, _, cap, h1, ⟨by have := h2.rg; rwa [ofI_eq L] at this ⊢, rise_ofR L, by rw [← ofI_eq]; have := ofI_len L; omega⟩, h3⟩
theorem siMade {w w' : World} {T : List Int} {k : Nat} {e : Ending} (hr : Rise T) (hk : T.length ≤ k) (h : MkEI w T e w') : SE w T k e w' := by
  obtain ⟨u, rfl, ho, hb⟩ := h
  obtain ⟨ao, cap, rfl, -⟩ := ho.sl
  exact ⟨ao, _, cap, rfl, ⟨ho.rg, hr, hk⟩, hb⟩
theorem siMinus {w : World} {v u : Value} {L M : List Int} {k j : Nat} (h1 : SI w v L k) (h2 : SI w u M j) (hk : k ≤ 100000) (hj : j ≤ 100000) : Calls Tryz.prog 57 #[.agg #[v], .agg #[u]] w fun e w' => SE w (minusR L M) k e w' :=
  (setMinusI v u L M w h1.rg h2.rg (rs_rise.2 h2.rise) (by have := h1.len; omega) (by have := h2.len; omega)).mono fun _ _ h => by
    rw [minusI_eq] at h
    exact siMade (rise_minusR h1.rise M) (Nat.le_trans (List.length_filter_le _ _) h1.len) h
theorem siLen {w : World} {v : Value} {L : List Int} {k : Nat} (h1 : SI w v L k) (n : Nat) (hn : L.length = n) : Calls Tryz.prog 146 #[.agg #[v]] w fun e w' => e = .returned (.int .i64 (n : Int)) ∧ Below w.heap.size w w' := by
  have := setLenI v L w h1.rg
  rw [hn] at this
  exact this
end Go.Proofs.YthdpomgpcblpeaaGreat

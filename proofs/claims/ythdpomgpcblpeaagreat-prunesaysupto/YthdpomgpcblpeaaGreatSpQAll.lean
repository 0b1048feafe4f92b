/-
  Proved here: a row of the call's own, sorted by the shelf's words on worlds, is such a row still, and all else stands.
  Proved here: slices.SortStableFunc at int: what it leaves is the stable sort of what was there (below 2^60 things; the order is told by a function that hands back a number and turns nothing).
  Proved here: package cmp's words at int; set's same; slices.Clone and slices.SortStableFunc over rows.
  Proved here: package sep's withSteps, and how steps are held against each other.
-/
import Derived.Test.YthdpomgpcblpeaaGreatRadMathAll
import Derived.Test.YthdpomgpcblpeaaGreatSortMath3All
import Derived.Shelf.SlSortCmp.Kit1
import Derived.Shelf.SlSortCmp.Insertion1
import Derived.Sort.WalkA
import Derived.Sort.WalkB2
import Derived.Sort.WalkB12
import Derived.Deep.LoopGhost
import Derived.Test.YthdpomgpcblpeaaGreatSortCI
import Derived.Test.YthdpomgpcblpeaaGreatRows
import Derived.OwnWalk
import Derived.OwnWalkIn
import Derived.ArgAppend
import Derived.Laws.AppendOwnNone
import Derived.Laws.MakeOwn
import Derived.Laws.OwnMore
import Derived.WalkKit
import Derived.WalkSpells
import Derived.WalkLawsBesides
import Derived.Below
import Derived.BigQuiet
import Derived.Test.YthdpomgpcblpeaaGreatSpP
namespace Go.Proofs.YthdpomgpcblpeaaGreat
open Go.Shelf Go.RowKit Go.Lib Go.Sort
variable {α : Type} [Inhabited α] {enc : α → Value}

omit [Inhabited α] in
theorem OG.lt' {B e g n cap : Nat} {w : World} {zs : List α} (h : OG enc B e w (.slice (some ⟨g, 0, none⟩) n cap) zs) : g < w.heap.size := (h.lt g rfl).2
theorem OG.row1 {B e g n cap : Nat} {w : World} {zs : List α} (hO : OneCell enc) (h : OG enc B e w (.slice (some ⟨g, 0, none⟩) n cap) zs) : Row1 enc w g 0 zs.toArray :=
  ⟨hO, fun j hj => by
    have hj' : j < zs.length := by simpa using hj
    have := h.cell (i := j) (x := zs.toArray[j]!) (by rw [arr_get? _ _ hj', List.getElem?_eq_getElem hj'])
    rw [Nat.zero_add]; exact this, h.lt'⟩
theorem OG.sw {B e g n cap : Nat} {w w' : World} {zs zs' : List α} (h : OG enc B e w (.slice (some ⟨g, 0, none⟩) n cap) zs) (hl : zs'.length = zs.length) (hS : SW enc w g 0 zs'.toArray w') :
    OG enc B e w' (.slice (some ⟨g, 0, none⟩) n cap) zs' ∧ w.grownBy w' (some g) := by
  obtain ⟨m, os, rfl⟩ := hS
  have hg := h.lt'
  have hp : (putRow enc (Sort.ahead w m) g 0 zs'.toArray).heap.size = w.heap.size := size_putRow _ _ _ _ _
  have hother : ∀ j, j < w.heap.size → j ≠ g → (sortWorld enc w g 0 m zs'.toArray os).heap[j]? = w.heap[j]? := by
    intro j hj hne
    show ((putRow enc (Sort.ahead w m) g 0 zs'.toArray).heap ++ os)[j]? = _
    rw [Array.getElem?_append_left (by rw [hp]; exact hj)]
    show (w.heap.modify g _)[j]? = _
    rw [Array.getElem?_modify, if_neg (Ne.symm hne)]
  refine ⟨?_, rfl, rfl, rfl, ?_, ?_⟩
  · obtain ⟨h1, h2⟩ := h
    refine ⟨by simp, ?_⟩
    rcases h2 with ⟨e1, _⟩ | ⟨g', cap', cur, e1, h3, h4, h5, h6, h7, h8⟩
    · simp at e1
    · simp only [Value.slice.injEq, Option.some.injEq, Addr.mk.injEq, and_true] at e1
      obtain ⟨rfl, rfl, rfl⟩ := e1
      refine .inr ⟨g, cap, putCells enc 0 zs'.toArray cur, by rw [hl], h3, ?_, by rw [hl]; exact h5, h6, by simp only [putCells, Array.size_mapIdx]; exact h7, ?_⟩
      · show ((putRow enc (Sort.ahead w m) g 0 zs'.toArray).heap ++ os)[g]? = _
        rw [Array.getElem?_append_left (by rw [hp]; exact hg)]
        show (w.heap.modify g _)[g]? = _
        rw [Array.getElem?_modify, if_pos rfl, h4]
        rfl
      · apply List.ext_getElem?
        intro i
        rw [Nat.mul_one] at h7 ⊢
        by_cases hi : i < zs'.length
        · rw [List.getElem?_take_of_lt hi, Array.getElem?_toList, List.getElem?_map, List.getElem?_eq_getElem hi]
          simp only [putCells, Array.getElem?_mapIdx]
          rw [Array.getElem?_eq_getElem (by omega)]
          simp only [Option.map_some, Nat.zero_le, true_and, Nat.zero_add, List.size_toArray, Nat.sub_zero]
          rw [if_pos hi, arr_get? _ _ hi]
        · rw [List.getElem?_eq_none (by rw [List.length_take]; omega), List.getElem?_eq_none (by rw [List.length_map]; omega)]
  · show w.heap.size ≤ ((putRow enc (Sort.ahead w m) g 0 zs'.toArray).heap ++ os).size
    rw [Array.size_append, hp]
    omega
  · intro j hj hne
    exact hother j hj (fun e => hne (by rw [e]))
end Go.Proofs.YthdpomgpcblpeaaGreat

namespace Go.Proofs.YthdpomgpcblpeaaGreat
open Go.Shelf Go.RowKit Go.Lib Go.Sort
variable {α : Type} [Inhabited α] {enc : α → Value}

def layFI_ren : Go.Shelf.Ren := ⟨fun | 20 => 113 | n => n, fun | 3 => 3 | 4 => 4 | 22 => 23 | 24 => 3 | 25 => 95 | n => n, fun | n => n⟩
theorem layFI : Go.Proofs.SlLaysF.n20 Tryz.prog layFI_ren := {
  mixed := by kernel_rfl
  f20 := ⟨Tryz.f113.name, by decide, Tryz.func113.trans (congrArg some (by kernel_rfl))⟩
  t0 := Tryz.underlying0
  a0 := Tryz.isAgg0
  z0 := Tryz.sizeOf0
  v0 := Tryz.zeroValue0
  t3 := Tryz.underlying3
  a3 := Tryz.isAgg3
  z3 := Tryz.sizeOf3
  v3 := Tryz.zeroValue3
  t4 := Tryz.underlying4
  a4 := Tryz.isAgg4
  z4 := Tryz.sizeOf4
  v4 := Tryz.zeroValue4
  t22 := Tryz.underlying23
  a22 := Tryz.isAgg23
  z22 := Tryz.sizeOf23
  v22 := Tryz.zeroValue23
  a24 := Tryz.isAgg3
  z24 := Tryz.sizeOf3
  t25 := Tryz.underlying95
  a25 := Tryz.isAgg95
  z25 := Tryz.sizeOf95
  v25 := Tryz.zeroValue95 }
theorem insAI (cf : α → α → Int) (O : Ord (leOf (ltOf cf))) (g : Nat) (cb : Array Value) (eg : ∀ args w, (callFunc g args).run Tryz.prog w = .ok (.enter g args) w) (blk off cap n : Nat) (d0 : Array α) (w0 : World)
    (hcmp : CmpLays1 Tryz.prog g cb enc cf blk off d0.size w0) (R : Row1 enc w0 blk off d0) (hs0 : d0.size = n) (hsz : n < 4611686018427387904) (a b : Nat) (P A Q : List α) (w : World) (hP : P.length = a) (hA : a + A.length = b) (hn : (P ++ A ++ Q).length = n) (S : SW enc w0 blk off (P ++ A ++ Q).toArray w) :
    Calls Tryz.prog 113 #[.slice (some ⟨blk, off, none⟩) n cap, .int .i64 a, .int .i64 b, .func (.func g) #[] cb] w fun e w' => e = .returned (.tuple #[]) ∧ SW enc w0 blk off (P ++ sortS (leOf (ltOf cf)) A ++ Q).toArray w' := by
  have hsn : (P ++ A ++ Q).toArray.size = n := by simpa using hn
  have h := Any.insertionSortCmpFunc_s layFI enc cf g cb blk off cap a b d0 (P ++ A ++ Q).toArray w0 w eg hcmp R (by omega) S (by omega) (by rw [hsn, ← hn]; simp only [List.length_append]; omega) (by omega)
  rw [hsn] at h
  rw [insertionSort_list O P A Q a b hP hA] at h
  exact h
/-- blocks of bs sorted up to place a, by twos -/
def StP (le : α → α → Bool) (enc : α → Value) (w0 : World) (blk off b2 : Nat) (L : List α) (f : List α → List α) (a : Nat) (W : World) : Prop :=
  ∃ D L1 R : List α, L = L1 ++ R ∧ D.length = a ∧ L1.length = a ∧ (∀ R', cs le b2 (L1 ++ R') = D ++ cs le b2 R') ∧ SW enc w0 blk off (D ++ f R).toArray W

set_option maxHeartbeats 8000000 in
set_option maxRecDepth 1000000 in
theorem stabI (cf : α → α → Int) (O : Ord (leOf (ltOf cf))) (g : Nat) (cb : Array Value) (eg : ∀ args w, (callFunc g args).run Tryz.prog w = .ok (.enter g args) w) (blk off cap n : Nat) (d0 : Array α) (w0 : World)
    (hcmp : CmpLays1 Tryz.prog g cb enc cf blk off d0.size w0) (R : Row1 enc w0 blk off d0) (hs0 : d0.size = n) (hsz : n < 1152921504606846976) (L : List α) (w : World) (hn : L.length = n) (S : SW enc w0 blk off L.toArray w) :
    Calls Tryz.prog 91 #[.slice (some ⟨blk, off, none⟩) n cap, .int .i64 n, .func (.func g) #[] cb] w fun e w' => e = .returned (.tuple #[]) ∧ SW enc w0 blk off (sortS (leOf (ltOf cf)) L).toArray w' := by
  have hsz2 : n < 4611686018427387904 := by omega
  have RW := R
  obtain ⟨dE, hdE⟩ : ∃ d, d = (sortS (leOf (ltOf cf)) L).toArray := ⟨_, rfl⟩
  rw [← hdE]
  have S0 : Aside (StP (leOf (ltOf cf)) enc w0 blk off 20 L id 0 w) := ⟨[], [], L, rfl, rfl, rfl, fun _ => rfl, S⟩
  have HI : Aside (∀ a W, a + 20 ≤ n → StP (leOf (ltOf cf)) enc w0 blk off 20 L id a W → Calls Tryz.prog 113 #[.slice (some ⟨blk, off, none⟩) n cap, .int .i64 a, .int .i64 ((a + 20 : Nat) : Int), .func (.func g) #[] cb] W fun e w' => e = .returned (.tuple #[]) ∧ StP (leOf (ltOf cf)) enc w0 blk off 20 L id (a + 20) w') := by
    rintro a W ha ⟨D, L1, R, hL, hD, hL1, hc, hS⟩
    have hRl : L1.length + R.length = n := by rw [← hn, hL, List.length_append]
    have hR : R = R.take 20 ++ R.drop 20 := (List.take_append_drop 20 R).symm
    have h1 : (R.take 20).length = 20 := by rw [List.length_take]; omega
    refine (insAI cf O g cb eg blk off cap n d0 w0 hcmp RW hs0 hsz2 a (a + 20) D (R.take 20) (R.drop 20) W hD (by omega) (by rw [List.append_assoc, ← hR, List.length_append]; omega) (by rw [List.append_assoc, ← hR]; exact hS)).mono fun _ _ ⟨h3, h4⟩ => ⟨h3, D ++ sortS (leOf (ltOf cf)) (R.take 20), L1 ++ R.take 20, R.drop 20, by rw [List.append_assoc, ← hR]; exact hL, by rw [List.length_append, len_sortS]; omega, by rw [List.length_append]; omega, fun R' => ?_, h4⟩
    rw [List.append_assoc, hc, cs_app 20 (by omega) _ _ h1, List.append_assoc]
  have HJ : Aside (∀ a W, a ≤ n → n < a + 20 → StP (leOf (ltOf cf)) enc w0 blk off 20 L id a W → Calls Tryz.prog 113 #[.slice (some ⟨blk, off, none⟩) n cap, .int .i64 a, .int .i64 n, .func (.func g) #[] cb] W fun e w' => e = .returned (.tuple #[]) ∧ SW enc w0 blk off (cs (leOf (ltOf cf)) 20 L).toArray w') := by
    rintro a W ha1 ha2 ⟨D, L1, R, hL, hD, hL1, hc, hS⟩
    have hRl : L1.length + R.length = n := by rw [← hn, hL, List.length_append]
    refine (insAI cf O g cb eg blk off cap n d0 w0 hcmp RW hs0 hsz2 a n D R [] W hD (by omega) (by rw [List.append_nil, List.length_append]; omega) (by rw [List.append_nil]; exact hS)).mono fun _ _ ⟨h3, h4⟩ => ⟨h3, ?_⟩
    rw [List.append_nil] at h4
    rw [hL, hc, cs_small 20 R (by omega)]
    exact h4
  have HK : Aside (∀ bs a W, 0 < bs → a + 2 * bs ≤ n → StP (leOf (ltOf cf)) enc w0 blk off (2 * bs) L (cs (leOf (ltOf cf)) bs) a W → Calls Tryz.prog 114 #[.slice (some ⟨blk, off, none⟩) n cap, .int .i64 a, .int .i64 ((a + bs : Nat) : Int), .int .i64 ((a + 2 * bs : Nat) : Int), .func (.func g) #[] cb] W fun e w' => e = .returned (.tuple #[]) ∧ StP (leOf (ltOf cf)) enc w0 blk off (2 * bs) L (cs (leOf (ltOf cf)) bs) (a + 2 * bs) w') := by
    rintro bs a W hb ha ⟨D, L1, R, hL, hD, hL1, hc, hS⟩
    have hRl : L1.length + R.length = n := by rw [← hn, hL, List.length_append]
    obtain ⟨R1, R2, R3, hR, h1, h2⟩ : ∃ R1 R2 R3, R = R1 ++ (R2 ++ R3) ∧ R1.length = bs ∧ R2.length = bs := ⟨R.take bs, (R.drop bs).take bs, (R.drop bs).drop bs, by rw [List.take_append_drop, List.take_append_drop], by rw [List.length_take]; omega, by rw [List.length_take, List.length_drop]; omega⟩
    have h3 : R.length = bs + (bs + R3.length) := by rw [hR]; simp only [List.length_append]; omega
    rw [hR, cs_app bs hb _ _ h1, cs_app bs hb _ _ h2] at hS
    refine (symI cf O g cb eg blk off cap n d0 w0 hcmp RW hs0 hsz2 (2 * bs + 1) a (a + bs) (a + 2 * bs) D (sortS (leOf (ltOf cf)) R1) (sortS (leOf (ltOf cf)) R2) (cs (leOf (ltOf cf)) bs R3) W (by omega) hD (by rw [len_sortS]; omega) (by rw [len_sortS]; omega) (by simp only [List.length_append, len_sortS, len_cs]; omega) (by rw [len_sortS]; omega) (by rw [len_sortS]; omega) (srt_sortS O _) (srt_sortS O _) (by simpa using hS)).mono fun _ _ ⟨h4, h5⟩ => ⟨h4, D ++ sortS (leOf (ltOf cf)) (R1 ++ R2), L1 ++ (R1 ++ R2), R3, by rw [hL, hR]; simp, by rw [List.length_append, len_sortS, List.length_append]; omega, by simp only [List.length_append]; omega, fun R' => ?_, ?_⟩
    · rw [List.append_assoc, hc, cs_app (2 * bs) (by omega) _ _ (by rw [List.length_append]; omega), List.append_assoc]
    · rw [mrg_sortS O] at h5; exact h5
  have HL : Aside (∀ bs a W, 0 < bs → a + bs < n → n < a + 2 * bs → StP (leOf (ltOf cf)) enc w0 blk off (2 * bs) L (cs (leOf (ltOf cf)) bs) a W → Calls Tryz.prog 114 #[.slice (some ⟨blk, off, none⟩) n cap, .int .i64 a, .int .i64 ((a + bs : Nat) : Int), .int .i64 n, .func (.func g) #[] cb] W fun e w' => e = .returned (.tuple #[]) ∧ SW enc w0 blk off (cs (leOf (ltOf cf)) (2 * bs) L).toArray w') := by
    rintro bs a W hb ha1 ha2 ⟨D, L1, R, hL, hD, hL1, hc, hS⟩
    have hRl : L1.length + R.length = n := by rw [← hn, hL, List.length_append]
    obtain ⟨R1, R2, hR, h1⟩ : ∃ R1 R2, R = R1 ++ R2 ∧ R1.length = bs := ⟨R.take bs, R.drop bs, (List.take_append_drop _ _).symm, by rw [List.length_take]; omega⟩
    have h3 : R.length = bs + R2.length := by rw [hR]; simp only [List.length_append]; omega
    have hc2 := hc R
    rw [hR, cs_app bs hb _ _ h1, cs_small bs R2 (by omega)] at hS
    refine (symI cf O g cb eg blk off cap n d0 w0 hcmp RW hs0 hsz2 (2 * bs + 1) a (a + bs) n D (sortS (leOf (ltOf cf)) R1) (sortS (leOf (ltOf cf)) R2) [] W (by omega) hD (by rw [len_sortS]; omega) (by rw [len_sortS]; omega) (by simp only [List.length_append, len_sortS, List.length_nil]; omega) (by rw [len_sortS]; omega) (by rw [len_sortS]; omega) (srt_sortS O _) (srt_sortS O _) (by simpa using hS)).mono fun _ _ ⟨h4, h5⟩ => ⟨h4, ?_⟩
    rw [mrg_sortS O, List.append_nil, ← hR] at h5
    rw [hL, hc2, cs_small (2 * bs) R (by omega)]
    exact h5
  have HLn : Aside (∀ bs a W, 0 < bs → n ≤ a + bs → a ≤ n → StP (leOf (ltOf cf)) enc w0 blk off (2 * bs) L (cs (leOf (ltOf cf)) bs) a W → SW enc w0 blk off (cs (leOf (ltOf cf)) (2 * bs) L).toArray W) := by
    rintro bs a W hb ha1 ha2 ⟨D, L1, R, hL, hD, hL1, hc, hS⟩
    have hRl : L1.length + R.length = n := by rw [← hn, hL, List.length_append]
    rw [cs_small bs R (by omega)] at hS
    rw [hL, hc, cs_small (2 * bs) R (by omega)]
    exact hS
  have HS0 : Aside (∀ bs W, SW enc w0 blk off (cs (leOf (ltOf cf)) bs L).toArray W → StP (leOf (ltOf cf)) enc w0 blk off (2 * bs) L (cs (leOf (ltOf cf)) bs) 0 W) := fun bs W h => ⟨[], [], L, rfl, rfl, rfl, fun _ => rfl, h⟩
  have HE : Aside (∀ bs W, n ≤ bs → SW enc w0 blk off (cs (leOf (ltOf cf)) bs L).toArray W → SW enc w0 blk off dE W) := fun bs W h1 h2 => by rw [hdE]; rwa [cs_small bs L (by omega)] at h2
  generalize leOf (ltOf cf) = le at *
  clear S hdE hn hcmp O
  have mixed : Tryz.prog.follows .mixedOrders = true := by kernel_rfl
  go_enter Tryz.func91, Tryz.ntmps91
  go_wp2
  go_loopg [7, 8] n (fun g1 va vb wr => ∃ a b : Nat, va = .int .i64 a ∧ vb = .int .i64 b ∧ Hid (b = a + 20) ∧ a ≤ n ∧ b ≤ n + 20 ∧ n - a ≤ g1 ∧ Aside (StP le enc w0 blk off 20 L id a wr))
  case atStart => exact ⟨0, 20, rfl, rfl, rfl, Nat.zero_le _, by omega, by omega, S0⟩
  case round =>
    clear S0
    obtain ⟨a, b, rfl, rfl, HB, han, hbn, hg1, S1⟩ := hrel
    have hB := HB.out
    by_cases hle : b ≤ n
    · have hlez : (b : Int) ≤ (n : Int) := by omega
      have C1 : Aside _ := HI.out a _ (by omega) S1.out
      rw [← hB] at C1
      clear hB
      go_wp2_with (go_at_call 113; refine Calls.mono C1.out ?_; rintro e wq ⟨rfl, TQ⟩)
      go_roundg (n - b)
      case measure => have := HB.out; omega
      case rel => exact ⟨b, b + 20, rfl, by go_num, rfl, hle, by omega, Nat.le_refl _, TQ⟩
    · have hlez : ¬ (b : Int) ≤ (n : Int) := by omega
      have C1 : Aside _ := HJ.out a _ han (by omega) S1.out
      clear hB S1 HI HJ
      go_wp2_with (go_at_call 113; refine Calls.mono C1.out ?_; rintro e wq ⟨rfl, TQ⟩)
      have S2 : Aside _ := TQ
      clear TQ C1
      go_loopg [6, 7, 8, 9] n (fun g2 vs _va _vb _vm wr2 => ∃ bs : Nat, vs = .int .i64 bs ∧ 20 ≤ bs ∧ bs ≤ 2 * n + 20 ∧ n - bs ≤ g2 ∧ Aside (SW enc w0 blk off (cs le bs L).toArray wr2))
      case atStart => exact ⟨20, rfl, Nat.le_refl _, by omega, by omega, S2⟩
      case round =>
        clear S2
        obtain ⟨bs, rfl, hb20, hbs2, hg2, S3⟩ := hrel
        by_cases hlt : bs < n
        · have hltz : (bs : Int) < (n : Int) := by omega
          obtain ⟨b2, hb2⟩ : ∃ q, q = 2 * bs := ⟨_, rfl⟩
          have eb2 : 2 * (bs : Int) = (b2 : Int) := by omega
          have eb2' : (bs : Int) * 2 = (b2 : Int) := by omega
          have wb2 : IntKind.i64.wrap (b2 : Int) = (b2 : Int) := by rw [IntKind.wrap_i64]; omega
          have S4 : Aside (StP le enc w0 blk off b2 L (cs le bs) 0 _) := hb2 ▸ HS0.out bs _ S3.out
          have HK2 : Aside (∀ a m b W, m = a + bs → b = a + b2 → b ≤ n → StP le enc w0 blk off b2 L (cs le bs) a W → Calls Tryz.prog 114 #[.slice (some ⟨blk, off, none⟩) n cap, .int .i64 ((a : Nat) : Int), .int .i64 ((m : Nat) : Int), .int .i64 ((b : Nat) : Int), .func (.func g) #[] cb] W fun e w' => e = .returned (.tuple #[]) ∧ StP le enc w0 blk off b2 L (cs le bs) b w') := by
            intro a m b W hm hb hbn h
            subst hm hb hb2
            exact HK.out bs a W (by omega) hbn h
          have HL2 : Aside (∀ a m W, m = a + bs → m < n → n < a + b2 → StP le enc w0 blk off b2 L (cs le bs) a W → Calls Tryz.prog 114 #[.slice (some ⟨blk, off, none⟩) n cap, .int .i64 ((a : Nat) : Int), .int .i64 ((m : Nat) : Int), .int .i64 n, .func (.func g) #[] cb] W fun e w' => e = .returned (.tuple #[]) ∧ SW enc w0 blk off (cs le b2 L).toArray w') := by
            intro a m W hm h1 h2 h
            subst hm hb2
            exact HL.out bs a W (by omega) h1 h2 h
          have HN2 : Aside (∀ a m W, m = a + bs → n ≤ m → a ≤ n → StP le enc w0 blk off b2 L (cs le bs) a W → SW enc w0 blk off (cs le b2 L).toArray W) := by
            intro a m W hm h1 h2 h
            subst hm hb2
            exact HLn.out bs a W (by omega) h1 h2 h
          have HB2 : Hid (b2 = 2 * bs) := hb2
          have hb2a : bs < b2 := by omega
          have hb2b : b2 ≤ 2 * n := by omega
          clear hb2 S3
          go_wp2
          go_loopg [7, 8] n (fun g3 va vb wr3 => ∃ a b : Nat, va = .int .i64 a ∧ vb = .int .i64 b ∧ Hid (b = a + b2) ∧ a ≤ n ∧ b ≤ 3 * n ∧ n - a ≤ g3 ∧ Aside (StP le enc w0 blk off b2 L (cs le bs) a wr3))
          case atStart => exact ⟨0, b2, rfl, rfl, by show _ = _; omega, Nat.zero_le _, by omega, by omega, S4⟩
          case round =>
            clear S4
            obtain ⟨a3, b3, rfl, rfl, HB3, han3, hbn3, hg3, S5⟩ := hrel
            obtain ⟨m3, hm3⟩ : ∃ q, q = a3 + bs := ⟨_, rfl⟩
            have em3 : (a3 : Int) + (bs : Int) = (m3 : Int) := by omega
            have wm3 : IntKind.i64.wrap (m3 : Int) = (m3 : Int) := by rw [IntKind.wrap_i64]; omega
            have HM3 : Hid (m3 = a3 + bs) := hm3
            clear hm3
            by_cases hle3 : b3 ≤ n
            · have hle3z : (b3 : Int) ≤ (n : Int) := by omega
              have C2 : Aside _ := HK2.out a3 m3 b3 _ HM3.out HB3.out hle3 S5.out
              have wb3 : IntKind.i64.wrap ((b3 : Int) + (b2 : Int)) = (b3 : Int) + (b2 : Int) := by rw [IntKind.wrap_i64]; omega
              go_wp2_with (go_at_call 114; refine Calls.mono C2.out ?_; rintro e wq ⟨rfl, TQ⟩)
              go_roundg (n - b3)
              case measure => have := HB3.out; omega
              case rel => exact ⟨b3, b3 + b2, rfl, by go_num, rfl, hle3, by omega, Nat.le_refl _, TQ⟩
            · have hle3z : ¬ (b3 : Int) ≤ (n : Int) := by omega
              by_cases hm : m3 < n
              · have hmz : (m3 : Int) < (n : Int) := by omega
                have C2 : Aside _ := HL2.out a3 m3 _ HM3.out hm (by have := HB3.out; omega) S5.out
                clear S5
                go_wp2_with (go_at_call 114; refine Calls.mono C2.out ?_; rintro e wq ⟨rfl, TQ⟩)
                go_roundg (n - b2)
                case measure => omega
                case rel => exact ⟨b2, rfl, by omega, by omega, Nat.le_refl _, TQ⟩
              · have hmz : ¬ (m3 : Int) < (n : Int) := by omega
                have TQ : Aside _ := HN2.out a3 m3 _ HM3.out (by omega) han3 S5.out
                clear S5
                go_wp2
                go_roundg (n - b2)
                case measure => omega
                case rel => exact ⟨b2, rfl, by omega, by omega, Nat.le_refl _, TQ⟩
        · have hltz : ¬ (bs : Int) < (n : Int) := by omega
          go_wp2
          go_end0
          exact ⟨rfl, HE.out bs _ (by omega) S3.out⟩
theorem sortStI (cf : α → α → Int) (O : Ord (leOf (ltOf cf))) (g : Nat) (cb : Array Value) (eg : ∀ args w, (callFunc g args).run Tryz.prog w = .ok (.enter g args) w) (blk off cap n : Nat) (d0 : Array α) (w0 : World)
    (hcmp : CmpLays1 Tryz.prog g cb enc cf blk off d0.size w0) (R : Row1 enc w0 blk off d0) (hs0 : d0.size = n) (hsz : n < 1152921504606846976) (L : List α) (w : World) (hn : L.length = n) (S : SW enc w0 blk off L.toArray w) :
    Calls Tryz.prog 75 #[.slice (some ⟨blk, off, none⟩) n cap, .func (.func g) #[] cb] w fun e w' => e = .returned (.tuple #[]) ∧ SW enc w0 blk off (sortS (leOf (ltOf cf)) L).toArray w' := by
  have C1 : Aside _ := stabI cf O g cb eg blk off cap n d0 w0 hcmp R hs0 hsz L w hn S
  generalize (sortS (leOf (ltOf cf)) L).toArray = dE at *
  clear S hcmp O
  go_enter Tryz.func75, Tryz.ntmps75
  go_wp2_with (go_at_call 91; refine Calls.mono C1.out ?_; rintro e wq ⟨rfl, TQ⟩)
  go_end0
  exact ⟨rfl, TQ⟩
set_option maxHeartbeats 1000000 in
theorem insNoneI (ao : Option Addr) (cap : Nat) (fv : Value) (w : World) : Calls Tryz.prog 113 #[.slice ao 0 cap, .int .i64 0, .int .i64 0, fv] w fun e w' => e = .returned (.tuple #[]) ∧ w' = w := by
  go_enter Tryz.func113, Tryz.ntmps113
  go_wp2
  go_loopg [8] 0 (fun _g1 vi wr => vi = .int .i64 1 ∧ wr = w)
  case atStart => exact ⟨rfl, rfl⟩
  case round =>
    obtain ⟨rfl, rfl⟩ := hrel
    go_wp2
    go_end0
    exact ⟨rfl, rfl⟩
set_option maxHeartbeats 1000000 in
set_option maxRecDepth 100000 in
theorem stabNoneI (ao : Option Addr) (cap : Nat) (fv : Value) (w : World) : Calls Tryz.prog 91 #[.slice ao 0 cap, .int .i64 0, fv] w fun e w' => e = .returned (.tuple #[]) ∧ w' = w := by
  have C1 : Aside _ := insNoneI ao cap fv w
  go_enter Tryz.func91, Tryz.ntmps91
  go_wp2
  go_loopg [7, 8] 0 (fun _g1 va vb wr => va = .int .i64 0 ∧ vb = .int .i64 20 ∧ wr = w)
  case atStart => exact ⟨rfl, rfl, rfl⟩
  case round =>
    obtain ⟨rfl, rfl, rfl⟩ := hrel
    go_wp2_with (go_at_call 113; refine Calls.mono C1.out ?_; rintro e wq ⟨rfl, rfl⟩)
    go_loopg [6, 7, 8, 9] 0 (fun _g1 vs _ _ _ wr2 => vs = .int .i64 20 ∧ wr2 = wq)
    case atStart => exact ⟨rfl, rfl⟩
    case round =>
      obtain ⟨rfl, rfl⟩ := hrel
      go_wp2
      go_end0
      exact ⟨rfl, rfl⟩
theorem sortNoneI (ao : Option Addr) (cap : Nat) (fv : Value) (w : World) : Calls Tryz.prog 75 #[.slice ao 0 cap, fv] w fun e w' => e = .returned (.tuple #[]) ∧ w' = w := by
  have C1 : Aside _ := stabNoneI ao cap fv w
  go_enter Tryz.func75, Tryz.ntmps75
  go_wp2_with (go_at_call 91; refine Calls.mono C1.out ?_; rintro e wq ⟨rfl, rfl⟩)
  go_end0
  exact ⟨rfl, rfl⟩
end Go.Proofs.YthdpomgpcblpeaaGreat

namespace Go.Proofs.YthdpomgpcblpeaaGreat
open Go.Shelf Go.RowKit Go.Lib Go.Sort
theorem infoI : (Tryz.prog.info? 3).map (fun i => (i.zero, i.size, i.bytes)) = some (some (.int .i64 0), 1, 8) := by kernel_rfl
/-- what cmp.Compare says -/
def cfI (x y : Int) : Int := if x < y then -1 else if y < x then 1 else 0
theorem ltI (x y : Int) : ltOf cfI x y = decide (x < y) := by
  unfold ltOf cfI
  by_cases h : x < y
  · simp [h]
  · by_cases h2 : y < x <;> simp [h, h2]
theorem ordI : Ord (leOf (ltOf cfI)) := by
  constructor
  · intro x y
    simp only [leOf, ltI, Bool.not_eq_true', decide_eq_false_iff_not]
    omega
  · intro x y z
    simp only [leOf, ltI, Bool.not_eq_true', decide_eq_false_iff_not]
    omega
theorem cfI_zero (x y : Int) : decide (cfI x y = 0) = decide (x = y) := by
  unfold cfI
  by_cases h : x < y
  · simp [h]; omega
  · by_cases h2 : y < x
    · simp [h, h2]; omega
    · simp [h, h2]; omega
theorem nanI (x : Int) (w : World) : Calls Tryz.prog 66 #[(Value.int .i64) x] w fun e w' => e = .returned (.bool false) ∧ w' = w := by
  go_enter Tryz.func66, Tryz.ntmps66
  go_wp2
  go_ret
  exact ⟨by simp, rfl⟩
theorem snanI (x : Int) (w : World) : Calls Tryz.prog 52 #[(Value.int .i64) x] w fun e w' => e = .returned (.bool false) ∧ w' = w := by
  go_enter Tryz.func52, Tryz.ntmps52
  go_wp2
  go_ret
  exact ⟨by simp, rfl⟩
set_option maxRecDepth 100000 in
set_option maxHeartbeats 1000000 in
theorem cmpI (x y : Int) (w : World) : Calls Tryz.prog 73 #[(Value.int .i64) x, (Value.int .i64) y] w fun e w' => e = .returned (.int .i64 (cfI x y)) ∧ w' = w := by
  by_cases h : x < y
  · have H1 : Hid (cfI x y = -1) := by show _ = _; unfold cfI; rw [if_pos h]
    go_enter Tryz.func73, Tryz.ntmps73
    go_wp2_with (go_at_call 66; refine (nanI _ _).mono ?_; rintro e w' ⟨rfl, rfl⟩)
    go_ret
    exact ⟨by rw [H1.out]; rfl, rfl⟩
  · by_cases h2 : y < x
    · have h3 : decide (x > y) = true := decide_eq_true h2
      have H1 : Hid (cfI x y = 1) := by show _ = _; unfold cfI; rw [if_neg h, if_pos h2]
      go_enter Tryz.func73, Tryz.ntmps73
      go_wp2_with (go_at_call 66; refine (nanI _ _).mono ?_; rintro e w' ⟨rfl, rfl⟩)
      go_ret
      exact ⟨by rw [H1.out]; rfl, rfl⟩
    · have h3 : decide (x > y) = false := decide_eq_false h2
      have H1 : Hid (cfI x y = 0) := by show _ = _; unfold cfI; rw [if_neg h, if_neg h2]
      go_enter Tryz.func73, Tryz.ntmps73
      go_wp2_with (go_at_call 66; refine (nanI _ _).mono ?_; rintro e w' ⟨rfl, rfl⟩)
      go_ret
      exact ⟨by rw [H1.out]; rfl, rfl⟩
set_option maxRecDepth 100000 in
set_option maxHeartbeats 1000000 in
theorem lessI (x y : Int) (w : World) : Calls Tryz.prog 51 #[(Value.int .i64) x, (Value.int .i64) y] w fun e w' => e = .returned (.bool (ltOf cfI x y)) ∧ w' = w := by
  rw [ltI]
  go_enter Tryz.func51, Tryz.ntmps51
  go_wp2_with (go_at_call 66; refine (nanI _ _).mono ?_; rintro e w' ⟨rfl, rfl⟩)
  go_ret
  exact ⟨rfl, rfl⟩
set_option maxRecDepth 100000 in
set_option maxHeartbeats 1000000 in
theorem sameI (x y : Int) (w : World) : Calls Tryz.prog 77 #[(Value.int .i64) x, (Value.int .i64) y] w fun e w' => e = .returned (.bool (decide (cfI x y = 0))) ∧ w' = w := by
  have C := cmpI x y
  generalize cfI x y = c at *
  go_enter Tryz.func77, Tryz.ntmps77
  go_wp2_with (go_at_call 73; refine (C _).mono ?_; rintro e w' ⟨rfl, rfl⟩)
  go_ret
  exact ⟨by first | rfl | simp, rfl⟩
theorem oneI : OneCell (Value.int .i64) := fun _ => rfl
theorem entCI : ∀ args w, (callFunc 73 args).run Tryz.prog w = .ok (.enter 73 args) w := enters_of Tryz.func73 (by kernel_rfl) rfl
theorem laysI (blk off size : Nat) (w : World) : CmpLays1 Tryz.prog 73 #[] (Value.int .i64) cfI blk off size w := fun m os dk _ x y => by
  refine (cmpI x y _).mono ?_
  rintro e w' ⟨rfl, rfl⟩
  exact ⟨rfl, 0, #[], by rw [grow_empty]; rfl⟩
/-- slices.SortStableFunc over a row of the call's own -/
theorem sortedI (B : Nat) (v : Value) (zs : List Int) (w : World) (h : OG (Value.int .i64) B 3 w v zs) (hz : zs.length < 1152921504606846976) :
    Calls Tryz.prog 75 #[v, .func (.func 73) #[] #[]] w fun e w' => e = .returned (.tuple #[]) ∧ OG (Value.int .i64) B 3 w' v (sortS (leOf (ltOf cfI)) zs) ∧ w.grownBy w' v.ownBlock := by
  have h0 := h
  obtain ⟨h1, h2⟩ := h
  rcases h2 with ⟨rfl, h3⟩ | ⟨g, cap, cur, rfl, h3⟩
  · have : zs = [] := List.eq_nil_of_length_eq_zero h3
    subst this
    refine (sortNoneI none 0 _ w).mono ?_
    rintro e w' ⟨rfl, rfl⟩
    exact ⟨rfl, h0, grownG_refl _ _⟩
  · have R := h0.row1 oneI
    refine (sortStI cfI ordI 73 #[] entCI g 0 cap zs.length zs.toArray w (laysI _ _ _ _) R (by simp) hz zs w rfl (SW.start R.hH)).mono ?_
    rintro e w' ⟨rfl, hS⟩
    have := h0.sw (zs' := sortS (leOf (ltOf cfI)) zs) (len_sortS zs) hS
    exact ⟨rfl, this.1, this.2⟩
set_option maxHeartbeats 4000000 in
set_option maxRecDepth 1000000 in
theorem cloneI (v : Value) (zs : List Int) (w : World) (hv : RG (Value.int .i64) w v zs) (hz : zs.length ≤ 1048576) :
    Calls Tryz.prog 47 #[v] w fun e w' => ∃ u, e = .returned u ∧ OG (Value.int .i64) w.heap.size 3 w' u zs ∧ Below w.heap.size w w' := by
  have hv0 := hv
  obtain ⟨ao, cap, rfl, hc, hm, hnil, -⟩ := hv
  obtain ⟨i0, hi, hz0, hz1, hz2⟩ := info_parts infoI
  unfold maxLen at hm
  rcases ao with _ | ad
  · have := hnil rfl
    subst this
    have hz : zs = [] := List.eq_nil_of_length_eq_zero (by omega)
    subst hz
    clear hv0 hnil
    have heq : ∀ w, (binOp .eql 23 (.slice none 0 0) (.slice none 0 0)).run Tryz.prog w = .ok (.bool true) w := fun _ => by kernel_rfl
    go_enter Tryz.func47, Tryz.ntmps47
    go_wp2
    go_ret
    exact ⟨_, rfl, OG.nil _ _ _, Below.refl _ _⟩
  · clear hnil
    obtain ⟨n, hn⟩ : ∃ n, zs.length = n := ⟨_, rfl⟩
    rw [hn] at hc hz hv0 ⊢
    have HN : Hid (zs.length = n) := hn
    clear hn
    have H0 : Hid (OG (Value.int .i64) w.heap.size 3 (w.alloc (.cells #[] 3)) (.slice (some ⟨w.heap.size, 0, none⟩) 0 0) []) := OG.lit0 _ _
    have hR : RG (Value.int .i64) (w.alloc (.cells #[] 3)) (.slice (some ad) n cap) zs := hv0.alloc _
    have hB3 : ∀ o, w.heap.size ≤ (w.alloc o).heap.size := fun o => by simp
    clear hv0
    have heq : ∀ w, (binOp .eql 23 (.slice (some ad) n cap) (.slice none 0 0)).run Tryz.prog w = .ok (.bool false) w := fun _ => by kernel_rfl
    go_enter Tryz.func47, Tryz.ntmps47
    go_wp2_with (at_builtin; refine wpList_appG _ oneI rfl _ _ 23 rfl w.heap.size 3 i0 (.int .i64 0) 8 Tryz.underlying23 hi hz0 hz1 hz2 rfl _ _ [] zs rfl H0.out rfl hR (by unfold maxLen; rw [HN.out]; simp; omega) (by rw [HN.out]; simp; omega) (hB3 _) ?_)
    intro v1 w1 ho1 hg1
    have HB : Hid (Below w.heap.size w w1) := H0.out.grown ((Below.refl _ _).alloc (Nat.le_refl _) _) (hB3 _) hg1
    have HO : Hid (OG (Value.int .i64) w.heap.size 3 w1 v1 zs) := by have := ho1; simpa [Hid] using this
    clear ho1 hg1 hR
    go_wp2
    go_ret
    exact ⟨_, rfl, HO.out, HB.out⟩
end Go.Proofs.YthdpomgpcblpeaaGreat

namespace Go.Proofs.YthdpomgpcblpeaaGreat
set_option linter.unusedVariables false
open Go.RowKit
def stepsTo (pts : List Int) (d : Bool) : List Stp := pts.map fun x => (x, d)
theorem stepsTo_snoc {pts : List Int} {k : Nat} {x : Int} (d : Bool) (h : pts[k]? = some x) : stepsTo (pts.take (k + 1)) d = stepsTo (pts.take k) d ++ [(x, d)] := by
  unfold stepsTo
  rw [List.take_add_one, h, List.map_append]; rfl
theorem stepsTo_len (pts : List Int) (d : Bool) : (stepsTo pts d).length = pts.length := by simp [stepsTo]
set_option maxRecDepth 1000000 in
set_option maxHeartbeats 6400000 in
theorem withStepsS (B : Nat) (w : World) (sv pv : Value) (ss : List Stp) (pts : List Int) (d : Bool) (hs : OS B w sv ss) (hB : B ≤ w.heap.size) (hp : ∀ W, Below B w W → RG (Value.int .i64) W pv pts) (hl : ss.length ≤ 400000) (hl2 : pts.length ≤ 400000) :
    Calls Tryz.prog 70 #[sv, pv, .bool d] w fun e w' => ∃ u, e = .returned u ∧ OS B w' u (ss ++ stepsTo pts d) ∧ Below B w w' := by
  obtain ⟨i1, hi1, ha0, ha1, ha2⟩ := info_parts Tryz.infoST
  have hp0 := hp w (Below.refl _ _)
  obtain ⟨po, pn, pc, rfl⟩ : ∃ o n c, pv = .slice o n c := by obtain ⟨ao, cap, e⟩ := hp0.sl; exact ⟨_, _, _, e⟩
  obtain ⟨so, sc, rfl, -⟩ := hs.sl
  have hpn : pts.length = pn := hp0.len
  have HPL : Hid (pts.length = pn) := hpn
  have HP : Hid (∀ W, Below B w W → RG (Value.int .i64) W (.slice po pn pc) pts) := hp
  have HS : Hid (OS B w (.slice so ss.length sc) (ss ++ stepsTo (pts.take 0) d)) := by show OS _ _ _ _; simp [stepsTo]; exact hs
  have hpm : pn ≤ 400000 := by rw [← hpn]; exact hl2
  have HL : Hid (ss.length ≤ 400000) := hl
  obtain ⟨sn, hsn⟩ : ∃ n, n = ss.length := ⟨_, rfl⟩
  rw [← hsn] at HS ⊢
  clear hp hs hpn hl2 hl hp0 hsn
  go_enter Tryz.func70, Tryz.ntmps70
  go_wp2
  go_loopg [0, 8, 11] pn (fun g1 v0 _v8 v11 wr => ∃ (k : Nat) (lo : Option Addr) (ln lc : Nat), v0 = .slice lo ln lc ∧ v11 = .int .i64 k ∧ k ≤ pn ∧ pn - k ≤ g1 ∧ Hid (OS B wr (.slice lo ln lc) (ss ++ stepsTo (pts.take k) d)) ∧ Hid (Below B w wr))
  case atStart => exact ⟨0, so, sn, sc, rfl, rfl, Nat.zero_le _, by omega, HS, Below.refl _ _⟩
  case round =>
    clear HS
    obtain ⟨k, lo, ln, lc, rfl, rfl, hkn, hg1, HO, HB⟩ := hrel
    by_cases hlt : k < pn
    · have hltz : (k : Int) < (pn : Int) := by omega
      obtain ⟨x, gx, ox, hx1, rfl, hx2⟩ := (HP.out wr HB.out).at hlt
      have HST : Hid (ss ++ stepsTo (pts.take (k + 1)) d = (ss ++ stepsTo (pts.take k) d) ++ [(x, d)]) := by show _ = _; rw [stepsTo_snoc d hx1, List.append_assoc]
      have HLN : Hid ((ss ++ stepsTo (pts.take k) d).length ≤ 1000000) := by
        show _ ≤ _
        rw [List.length_append, stepsTo_len, List.length_take]
        have := HL.out
        omega
      obtain ⟨WA, hWA⟩ : ∃ W, W = wr.alloc (.cells #[.int .i64 x, .bool d] 84) := ⟨_, rfl⟩
      obtain ⟨gb, hgb⟩ : ∃ g, g = wr.heap.size := ⟨_, rfl⟩
      have HBA : Hid (Below wr.heap.size wr WA) := by show Below _ _ _; rw [hWA]; exact belowB _ _
      have HC0 : Hid (WA.cell? ⟨gb, 0, none⟩ = some (.int .i64 x) ∧ WA.cell? ⟨gb, 1, none⟩ = some (.bool d)) := ⟨by rw [hWA, hgb, World.cell?_alloc_at _ _ _ _ rfl]; rfl, by rw [hWA, hgb, World.cell?_alloc_at _ _ _ _ rfl]; rfl⟩
      have HWA : Hid (WA = wr.alloc (.cells #[.int .i64 x, .bool d] 84)) := hWA
      have HGB : Hid (gb = wr.heap.size) := hgb
      have HBW : Hid (B ≤ wr.heap.size) := Nat.le_trans hB HB.out.size
      clear hWA hgb hx1
      go_wp2_with (at_builtin; rw [← HWA.out, ← HGB.out]; refine wpList_pushS _ rfl _ _ 80 rfl B i1 Tryz.underlying80 hi1 ha0 ha1 ha2 _ (ss ++ stepsTo (pts.take k) d) rfl (HO.out.below HBA.out) gb (x, d) rfl HC0.out.1 HC0.out.2 HLN.out (Nat.le_trans HBW.out HBA.out.size) ?_)
      intro ng tm ncap W2 ho hg3 hng _
      have HO2 : Hid (OS B W2 (.slice (some ⟨ng, 0, none⟩) tm ncap) (ss ++ stepsTo (pts.take (k + 1)) d)) := by show OS _ _ _ _; rw [HST.out, List.append_assoc]; exact ho
      have HB2 : Hid (Below B w W2) := (HO.out.below HBA.out).grown (HB.out.trans (HBA.out.mono HBW.out)) (Nat.le_trans HBW.out HBA.out.size) hg3
      clear ho hg3 hng HO HB HBA HC0 HWA HGB HBW HST HLN hx2
      go_wp2
      go_roundg (pn - (k + 1))
      case measure => omega
      case rel => exact ⟨k + 1, _, _, _, rfl, by first | rfl | go_num, by omega, Nat.le_refl _, HO2, HB2⟩
    · have hltz : ¬ (k : Int) < (pn : Int) := by omega
      have HO2 : Hid (OS B wr (.slice lo ln lc) (ss ++ stepsTo pts d)) := by
        have h := HO.out
        rw [List.take_of_length_le (by rw [HPL.out]; omega)] at h
        exact h
      clear HO
      go_wp2
      go_ret
      exact ⟨_, rfl, HO2.out, HB.out⟩
set_option maxRecDepth 1000000 in
set_option maxHeartbeats 1600000 in
theorem cmpStep (s t : Stp) (w : World) : Calls Tryz.prog 72 #[.agg #[.int .i64 s.1, .bool s.2], .agg #[.int .i64 t.1, .bool t.2]] w fun e w' => e = .returned (.int .i64 (cfI s.1 t.1)) ∧ ∃ o1 o2, w' = (w.alloc o1).alloc o2 := by
  have hcon := fun W => cmpI s.1 t.1 W
  have HC : Hid (∀ W, Calls Tryz.prog 73 #[.int .i64 s.1, .int .i64 t.1] W fun e w' => e = .returned (.int .i64 (cfI s.1 t.1)) ∧ w' = W) := hcon
  generalize cfI s.1 t.1 = r at HC ⊢
  clear hcon
  go_enter Tryz.func72, Tryz.ntmps72
  go_wp2_with fail
  refine Calls.mono (HC.out _) ?_
  rintro e y ⟨rfl, rfl⟩
  go_wp2
  go_ret
  exact ⟨rfl, _, _, rfl⟩
end Go.Proofs.YthdpomgpcblpeaaGreat

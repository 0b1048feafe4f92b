/-
  Proved here: mathematics (no program): where a thing stands in a sorted list; two lists held against each other; rows of rows.
  Proved here: slices.Grow of nothing and slices.Concat at int.
-/
import Derived.Test.YtcadljpdokhpmaaSetCptAll
import Derived.Shelf.Spec.SlicesGrow
import Derived.Test.YtcadljpdokhpmaaSetBI
namespace Go.Proofs.Ytcadljpdokhpmaa
open Go.Shelf Go.RowKit Go.Lib Go.Sort
section
variable {α : Type}
def allS (eq : α → α → Bool) : List α → List α → Bool
  | [], [] => true
  | x :: a, y :: b => eq x y && allS eq a b
  | _, _ => false
theorem allS_len {eq : α → α → Bool} : ∀ (a b : List α), a.length ≠ b.length → allS eq a b = false
  | [], [], h => absurd rfl h
  | x :: a, y :: b, h => by rw [allS, allS_len a b (by simpa using h), Bool.and_false]
  | [], y :: b, _ => rfl
  | x :: a, [], _ => rfl
theorem allS_step {eq : α → α → Bool} {a b : List α} {i : Nat} {x y : α} (hx : a[i]? = some x) (hy : b[i]? = some y) : allS eq (a.drop i) (b.drop i) = (eq x y && allS eq (a.drop (i + 1)) (b.drop (i + 1))) := by
  rw [drop_cons hx, drop_cons hy, allS]
theorem allS_end {eq : α → α → Bool} {a b : List α} {i : Nat} (h1 : a.length ≤ i) (h2 : b.length ≤ i) : allS eq (a.drop i) (b.drop i) = true := by
  rw [List.drop_of_length_le h1, List.drop_of_length_le h2]; rfl
/-- k things are below, the others are not -/
structure Pos (lt : α → α → Bool) (L : List α) (x : α) (k : Nat) : Prop where
  le : k ≤ L.length
  lo : ∀ t y, t < k → L[t]? = some y → lt y x = true
  hi : ∀ t y, k ≤ t → L[t]? = some y → lt y x = false
theorem srt_mono {lt : α → α → Bool} (O : Ord (leOf lt)) {L : List α} (h : Srt (leOf lt) L) {s t : Nat} {x y z : α} (hst : s ≤ t) (hs : L[s]? = some y) (ht : L[t]? = some z) (hz : lt z x = true) : lt y x = true := by
  cases e : lt y x with
  | true => rfl
  | false =>
    obtain ⟨h1, rfl⟩ := List.getElem?_eq_some_iff.1 hs
    obtain ⟨h2, rfl⟩ := List.getElem?_eq_some_iff.1 ht
    have hle : leOf lt L[s] L[t] = true := by
      by_cases e2 : s = t
      · subst e2; exact O.refl _
      · exact (List.pairwise_iff_getElem.1 h) s t h1 h2 (by omega)
    have := O.trans _ _ _ (le_yes e) hle
    exact (le_off hz this).elim
end
section
variable {α : Type} {enc : α → Value}
/-- a row of rows that can be read -/
def RR (enc : α → Value) (w : World) (v : Value) (Ls : List (List α)) : Prop :=
  ∃ vs : List Value, RG id w v vs ∧ vs.length = Ls.length ∧ ∀ (i : Nat) (u : Value) (L : List α), vs[i]? = some u → Ls[i]? = some L → RG enc w u L
theorem flat_step {Ls : List (List α)} {i : Nat} {L : List α} (h : Ls[i]? = some L) : (Ls.take (i + 1)).flatten = (Ls.take i).flatten ++ L := by
  rw [take_snoc h, List.flatten_append]; simp
theorem flat_le (Ls : List (List α)) (i : Nat) : (Ls.take i).flatten.length ≤ Ls.flatten.length := by
  conv => rhs; rw [← List.take_append_drop i Ls]
  rw [List.flatten_append, List.length_append]
  omega
theorem OG.zeros (B e g : Nat) (w : World) (cap : Nat) (cur : Array Value) (hB : B ≤ g) (hg : w.heap[g]? = some (.cells cur e)) (hc : cur.size = cap) (hm : cap ≤ maxLen) : OG enc B e w (.slice (some ⟨g, 0, none⟩) 0 cap) [] :=
  ⟨rfl, .inr ⟨g, cap, cur, rfl, hB, hg, Nat.zero_le _, hm, by omega, by simp⟩⟩
end
end Go.Proofs.Ytcadljpdokhpmaa

namespace Go.Proofs.Ytcadljpdokhpmaa
open Go.Shelf Go.RowKit Go.Lib Go.Sort
def layGI_ren : Go.Shelf.Ren := ⟨fun | 4 => 25 | n => n, fun | 3 => 3 | 4 => 4 | 9 => 9 | 20 => 20 | 22 => 24 | 25 => 3 | n => n, fun | n => n⟩
theorem layGI : Go.Proofs.Lays8.n4 Try.prog layGI_ren := {
  mixed := by kernel_rfl
  f4 := ⟨Try.f25.name, by decide, Try.func25.trans (congrArg some (by kernel_rfl))⟩
  t0 := Try.underlying0
  a0 := Try.isAgg0
  z0 := Try.sizeOf0
  v0 := Try.zeroValue0
  t3 := Try.underlying3
  a3 := Try.isAgg3
  z3 := Try.sizeOf3
  v3 := Try.zeroValue3
  t4 := Try.underlying4
  a4 := Try.isAgg4
  z4 := Try.sizeOf4
  v4 := Try.zeroValue4
  t9 := Try.underlying9
  a9 := Try.isAgg9
  z9 := Try.sizeOf9
  v9 := Try.zeroValue9
  t20 := Try.underlying20
  a20 := Try.isAgg20
  z20 := Try.sizeOf20
  v20 := Try.zeroValue20
  t22 := Try.underlying24
  a22 := Try.isAgg24
  z22 := Try.sizeOf24
  v22 := Try.zeroValue24 }
theorem growNilI (n : Nat) (w : World) (hn : n ≤ 1048576000) : Calls Try.prog 25 #[.slice none 0 0, .int .i64 n] w fun e w' => ∃ u, e = .returned u ∧ OG (Value.int .i64) w.heap.size 3 w' u [] ∧ Below w.heap.size w w' := by
  by_cases h0 : n = 0
  · subst h0
    refine (Any8.slices_Grow_room layGI none 0 0 0 w (Nat.le_refl _) (by omega) (by omega) (Nat.le_refl _)).mono ?_
    rintro e w' ⟨rfl, rfl⟩
    exact ⟨_, rfl, OG.nil _ _ _, Below.refl _ _⟩
  · obtain ⟨i0, hi, hz0, hz1, hz2⟩ := info_parts infoI
    refine (Any8.slices_Grow_grow layGI i0 (.int .i64 0) hi hz0 (by omega) none 0 0 n [] w (Nat.le_refl _) (by omega) (by rw [hz2]; omega) (by omega) (by simp) (fun _ => rfl) (fun a h => by simp at h)).mono ?_
    rintro e w' ⟨rfl, rfl⟩
    have hge : n ≤ grownCap w (0 + n) 0 (layGI_ren.t 25) := by have := grownCap_ge w (0 + n) 0 (layGI_ren.t 25); omega
    have hle := grownCap_le_maxLen w (0 + n) 0 (layGI_ren.t 25) (by unfold maxLen; omega)
    generalize grownCap w (0 + n) 0 (layGI_ren.t 25) = G at *
    refine ⟨_, rfl, OG.zeros _ _ w.heap.size _ G _ (Nat.le_refl _) (by have := heap_alloc_new w.drew (.cells (([] : List Value).toArray ++ Builtin.zeroCells (Value.cells (.int .i64 0)) (0 + n - 0) ++ Builtin.zeroCells (Value.cells (.int .i64 0)) (G - (0 + n))) 3); exact this) ?_ hle, (Below.refl _ _).trans ?_⟩
    · simp [Builtin.zeroCells, Value.cells]; omega
    · exact ((Below.refl w.heap.size w).drew).alloc (Nat.le_refl _) _
set_option maxHeartbeats 4000000 in
set_option maxRecDepth 1000000 in
theorem concatI (v : Value) (Ls : List (List Int)) (w : World) (hv : RR (Value.int .i64) w v Ls) (hz : Ls.flatten.length ≤ 1048576) (hz2 : Ls.length ≤ 1048576) :
    Calls Try.prog 14 #[v] w fun e w' => ∃ u, e = .returned u ∧ OG (Value.int .i64) w.heap.size 3 w' u Ls.flatten ∧ Below w.heap.size w w' := by
  obtain ⟨vs, hrow, hlen, hall⟩ := hv
  have hrow0 := hrow
  obtain ⟨ao, cap, rfl, hc, hm, hnil, hcell⟩ := hrow
  unfold maxLen at hm
  obtain ⟨i0, hi, hz0, hz1, hz2'⟩ := info_parts infoI
  obtain ⟨n, hn⟩ : ∃ n, vs.length = n := ⟨_, rfl⟩
  rw [hn] at hc ⊢
  have HN : Hid (vs.length = n) := hn
  have HNL : Hid (Ls.length = n) := hlen.symm.trans hn
  have hn2 : n ≤ 1048576 := by omega
  have HC : Hid (∀ i x, vs[i]? = some x → ∃ g o, ao = some ⟨g, o, none⟩ ∧ w.cell? ⟨g, o + i, none⟩ = some x) := hcell
  have HA : Hid (∀ (i : Nat) (u : Value) (L : List Int), vs[i]? = some u → Ls[i]? = some L → RG (Value.int .i64) w u L) := hall
  have HF : Hid (∀ i, (Ls.take i).flatten.length ≤ 1048576) := fun i => Nat.le_trans (flat_le Ls i) hz
  have HE : Hid ((Ls.take n).flatten = Ls.flatten) := by show _ = _; rw [List.take_of_length_le (by rw [HNL.out]; exact Nat.le_refl _)]
  have HLT : Hid (∀ g o, ao = some ⟨g, o, none⟩ → 0 < n → g < w.heap.size) := fun g o e h => hrow0.lt (by rw [HN.out]; exact h) g (by rw [e]; rfl)
  clear hn hcell hall hlen hnil hrow0 hz hz2
  go_enter Try.func14, Try.ntmps14
  go_wp2
  go_loopg [3, 5, 11] n (fun g1 v3 _v5 v11 wr => ∃ i s : Nat, v3 = .int .i64 s ∧ v11 = .int .i64 i ∧ i ≤ n ∧ n - i ≤ g1 ∧ s ≤ 1048576 ∧ Hid ((Ls.take i).flatten.length = s) ∧ w = wr)
  case atStart => exact ⟨0, 0, rfl, rfl, Nat.zero_le _, by omega, by omega, rfl, rfl⟩
  case round =>
    obtain ⟨i, s, rfl, rfl, hin, hg1, hs, HS, rfl⟩ := hrel
    by_cases hlt : i < n
    · have hltz : (i : Int) < (n : Int) := by omega
      obtain ⟨u, hu⟩ : ∃ u, vs[i]? = some u := ⟨_, List.getElem?_eq_getElem (by rw [HN.out]; exact hlt)⟩
      obtain ⟨L, hL⟩ : ∃ u, Ls[i]? = some u := ⟨_, List.getElem?_eq_getElem (by rw [HNL.out]; exact hlt)⟩
      obtain ⟨g, o, rfl, hc0⟩ := HC.out i u hu
      obtain ⟨uo, uc, rfl⟩ := (HA.out i u L hu hL).sl
      have hfl := flat_step hL
      obtain ⟨l, hl⟩ : ∃ l, l = L.length := ⟨_, rfl⟩
      have hsl : (Ls.take (i + 1)).flatten.length = s + l := by rw [hfl, List.length_append, HS.out, hl]
      have hs2 : s + l ≤ 1048576 := by rw [← hsl]; exact HF.out (i + 1)
      have HSL : Hid ((Ls.take (i + 1)).flatten.length = s + l) := hsl
      rw [← hl] at hc0
      clear hu hL hl hfl hsl
      have hpos : ¬ ((s : Int) + (l : Int)) < 0 := by omega
      go_wp2
      go_roundg (n - (i + 1))
      case measure => omega
      case rel => exact ⟨i + 1, s + l, by go_num, by go_num, by omega, Nat.le_refl _, hs2, HSL, rfl⟩
    · have hltz : ¬ (i : Int) < (n : Int) := by omega
      clear HS hltz
      go_wp2_with (go_at_call 25; refine (growNilI s _ (by omega)).mono ?_; rintro e w1 ⟨v6, rfl, ho, hb⟩)
      have O0 : Hid (OG (Value.int .i64) w.heap.size 3 w1 v6 [] ∧ Below w.heap.size w w1) := ⟨ho, hb⟩
      clear ho hb
      go_loopg [6, 8, 27] n (fun g2 v6 _v8 v27 wr2 => ∃ j : Nat, v27 = .int .i64 j ∧ j ≤ n ∧ n - j ≤ g2 ∧ Hid (OG (Value.int .i64) w.heap.size 3 wr2 v6 (Ls.take j).flatten ∧ Below w.heap.size w wr2))
      case atStart => exact ⟨0, rfl, Nat.zero_le _, by omega, O0⟩
      case round =>
        clear O0
        obtain ⟨j, rfl, hjn, hg2, O1⟩ := hrel
        by_cases hlt2 : j < n
        · have hlt2z : (j : Int) < (n : Int) := by omega
          obtain ⟨u, hu⟩ : ∃ u, vs[j]? = some u := ⟨_, List.getElem?_eq_getElem (by rw [HN.out]; exact hlt2)⟩
          obtain ⟨L, hL⟩ : ∃ u, Ls[j]? = some u := ⟨_, List.getElem?_eq_getElem (by rw [HNL.out]; exact hlt2)⟩
          obtain ⟨g, o, rfl, hc0⟩ := HC.out j u hu
          have hglt := HLT.out g o rfl (by omega)
          have hc1 : wr.cell? ⟨g, o + j, none⟩ = some u := by rw [World.cell?_of_block (O1.out.2.block g hglt)]; exact hc0
          have HRU : Hid (RG (Value.int .i64) wr u L) := (HA.out j u L hu hL).below (Nat.le_refl _) O1.out.2
          obtain ⟨uo, uc, rfl⟩ := HRU.out.sl
          have hfl := flat_step hL
          have HFL : Hid ((Ls.take (j + 1)).flatten = (Ls.take j).flatten ++ L) := hfl
          have hsz : (Ls.take j).flatten.length + L.length ≤ 1048576 := by have := HF.out (j + 1); rw [hfl, List.length_append] at this; exact this
          have HSZ : Hid ((Ls.take j).flatten.length + L.length ≤ 1048576) := hsz
          have HBS : Hid (w.heap.size ≤ wr.heap.size) := O1.out.2.size
          clear hu hL hfl hsz hc0 hglt
          go_wp2_with (at_builtin; refine wpList_appG _ oneI rfl _ _ 24 rfl w.heap.size 3 i0 (.int .i64 0) 8 Try.underlying24 hi hz0 hz1 hz2' rfl _ _ (Ls.take j).flatten L rfl O1.out.1 rfl HRU.out (by have := HSZ.out; unfold maxLen; omega) (by have := HSZ.out; omega) HBS.out ?_)
          intro v1 w3 ho1 hg3
          have O2 : Hid (OG (Value.int .i64) w.heap.size 3 w3 v1 (Ls.take (j + 1)).flatten ∧ Below w.heap.size w w3) := ⟨by rw [HFL.out]; exact ho1, O1.out.1.grown O1.out.2 HBS.out hg3⟩
          clear ho1 hg3
          go_wp2
          go_roundg (n - (j + 1))
          case measure => omega
          case rel => exact ⟨j + 1, by go_num, by omega, Nat.le_refl _, O2⟩
        · have hlt2z : ¬ (j : Int) < (n : Int) := by omega
          have hj : j = n := by omega
          subst hj
          have O2 : Hid (OG (Value.int .i64) w.heap.size 3 _ _ Ls.flatten ∧ Below w.heap.size w _) := ⟨by rw [← HE.out]; exact O1.out.1, O1.out.2⟩
          clear O1
          go_wp2
          go_ret
          exact ⟨_, rfl, O2.out.1, O2.out.2⟩
end Go.Proofs.Ytcadljpdokhpmaa

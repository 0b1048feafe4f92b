/-
  Proved here: package radix's Count, and what it asks of package slices, at the three types.
-/
import Derived.Test.YtphbbkckigdgoaaRows
import Derived.Test.YtphbbkckigdgoaaRadMath
import Derived.WalkKit
import Derived.WalkSpells
import Derived.WalkLawsBesides
import Derived.Below
import Derived.BigQuiet
namespace Go.Proofs.Ytphbbkckigdgoaa
open Go.RowKit

/-- A row of numbers of a kind that can be read. -/
def RK (k : IntKind) (w : World) (v : Value) (zs : List Int) : Prop :=
  ∃ ao cap, v = .slice ao zs.length cap ∧ zs.length ≤ cap ∧ cap ≤ maxLen ∧ (ao = none → cap = 0) ∧ (∀ i, i < zs.length → k.min ≤ zs.getD i 0 ∧ zs.getD i 0 ≤ k.max) ∧
    ∀ i, i < zs.length → ∃ g o, ao = some ⟨g, o, none⟩ ∧ w.cell? ⟨g, o + i, none⟩ = some (.int k (zs.getD i 0))
theorem RK.nil (k : IntKind) (w : World) : RK k w (.slice none 0 0) [] := ⟨none, 0, rfl, Nat.le_refl _, Nat.zero_le _, fun _ => rfl, fun _ h => absurd h (Nat.not_lt_zero _), fun _ h => absurd h (Nat.not_lt_zero _)⟩
theorem heap_drewR (w : World) (n : Nat) : (w.drewN n).heap = w.heap := by
  induction n generalizing w with
  | zero => rfl
  | succ n ih => exact ih w.drew
theorem RK.below {k : IntKind} {B : Nat} {w w' : World} {v : Value} {zs : List Int} (h : RK k w v zs) (hB : w.heap.size ≤ B) (hb : Below B w w') : RK k w' v zs := by
  obtain ⟨ao, cap, rfl, h1, h2, h3, h4, h5⟩ := h
  refine ⟨ao, cap, rfl, h1, h2, h3, h4, fun j hj => ?_⟩
  obtain ⟨b, off, e, hc⟩ := h5 j hj
  exact ⟨b, off, e, by rw [hb.cell (p := ⟨b, off + j, none⟩) (Nat.lt_of_lt_of_le (block_lt_of_cell hc) hB), hc]⟩
theorem RK.same {k : IntKind} {w w' : World} {v : Value} {zs : List Int} (h : RK k w v zs) (e : w'.heap = w.heap) : RK k w' v zs := by
  obtain ⟨ao, cap, rfl, h1, h2, h3, h4, h5⟩ := h
  refine ⟨ao, cap, rfl, h1, h2, h3, h4, fun j hj => ?_⟩
  obtain ⟨b, off, e', hc⟩ := h5 j hj
  exact ⟨b, off, e', by rw [← hc]; exact World.cell?_of_block (by rw [e])⟩
theorem RK.drewN {k : IntKind} {w : World} {v : Value} {zs : List Int} (h : RK k w v zs) (n : Nat) : RK k (w.drewN n) v zs := h.same (heap_drewR w n)
theorem min_i64 : IntKind.i64.min = -9223372036854775808 := by decide
theorem max_i64 : IntKind.i64.max = 9223372036854775807 := by decide
/-- What lies at a place. -/
theorem any_take {p : Int → Bool} {zs : List Int} {k : Nat} (hk : k < zs.length) : (zs.take (k + 1)).any p = ((zs.take k).any p || p (zs.getD k 0)) := by
  rw [List.take_succ_eq_append_getElem hk, List.any_append, List.getD_eq_getElem?_getD, List.getElem?_eq_getElem hk]
  simp
theorem any_at {p : Int → Bool} {zs : List Int} {k : Nat} (hk : k < zs.length) (h : p (zs.getD k 0) = true) : zs.any p = true := by
  rw [List.getD_eq_getElem?_getD, List.getElem?_eq_getElem hk] at h
  exact List.any_eq_true.2 ⟨_, List.getElem_mem hk, h⟩
/-- What a search answers. -/
def Found (r : Int) (b : Bool) : Prop := (b = true → 0 ≤ r ∧ r ≤ 9223372036854775807) ∧ (b = false → r = -1)
theorem Found.dec {r : Int} {b : Bool} (h : Found r b) : decide (0 ≤ r) = b := by
  cases b with
  | true => simpa using (h.1 rfl).1
  | false => rw [h.2 rfl]; rfl

set_option maxHeartbeats 400000 in
theorem below0I (z : Int) (w : World) : Calls Try.prog 23 #[.int .i64 z] w fun e w' => e = .returned (.bool (isNeg z)) ∧ w' = w := by
  go_enter Try.func23, Try.ntmps23
  go_wp2
  go_ret
  exact ⟨rfl, rfl⟩
set_option maxRecDepth 100000 in
set_option maxHeartbeats 1600000 in
theorem indexFI (v : Value) (zs : List Int) (w : World) (hv : RK .i64 w v zs) :
    Calls Try.prog 25 #[v, .func (.func 23) #[] #[]] w fun e w' => ∃ r, e = .returned (.int .i64 r) ∧ Found r (negs zs) ∧ ∃ q, w' = w.drewN q := by
  obtain ⟨ao, cap, rfl, hc, hm, hnil, hbd, hcell⟩ := hv
  clear hnil
  unfold maxLen at hm
  obtain ⟨n, hn⟩ : ∃ n, zs.length = n := ⟨_, rfl⟩
  rw [hn] at hc ⊢
  have HN : Hid (zs.length = n) := hn
  clear hn
  go_enter Try.func25, Try.ntmps25
  go_wp2
  go_loopw [8] (fun t wr => ∃ k : Nat, k ≤ n ∧ t = .int .i64 k ∧ negs (zs.take k) = false ∧ ∃ q, wr = w.drewN q) (fun t _ => n - (intOf t).toNat)
  case atStart => exact ⟨0, Nat.zero_le _, rfl, rfl, 0, rfl⟩
  case round =>
    obtain ⟨k, hk, rfl, hno, q, rfl⟩ := hrel
    by_cases hkn : k < n
    · obtain ⟨b, off, rfl, hc0⟩ := hcell k (by rw [HN.out]; omega)
      have hlt : (k : Int) < (n : Int) := by omega
      have hst : negs (zs.take (k + 1)) = (negs (zs.take k) || isNeg (zs.getD k 0)) := any_take (by rw [HN.out]; exact hkn)
      have hyes : isNeg (zs.getD k 0) = true → negs zs = true := any_at (by rw [HN.out]; exact hkn)
      rw [hno, Bool.false_or] at hst
      have HS : Hid (negs (zs.take (k + 1)) = isNeg (zs.getD k 0)) := hst
      have HY : Hid (isNeg (zs.getD k 0) = true → negs zs = true) := hyes
      clear hst hyes hcell hbd
      generalize zs.getD k 0 = x at *
      have hb0 := below0I x
      have HB : Hid _ := hb0
      clear hb0
      by_cases hx : isNeg x = true
      · go_wp2_with (go_at_call 23; refine (HB.out _).mono ?_; rintro e w' ⟨rfl, rfl⟩)
        go_ret
        exact ⟨_, rfl, ⟨fun _ => ⟨by omega, by omega⟩, fun h => absurd (HY.out hx) (by rw [h]; exact Bool.false_ne_true)⟩, _, rfl⟩
      · have hx : isNeg x = false := by simpa using hx
        go_wp2_with (go_at_call 23; refine (HB.out _).mono ?_; rintro e w' ⟨rfl, rfl⟩)
        go_roundw
        case rel => exact ⟨k + 1, by omega, by go_num, by rw [HS.out]; exact hx, _, rfl⟩
        case measure => simp [intOf]; omega
    · have hge : ¬ (k : Int) < (n : Int) := by omega
      clear hcell hbd
      go_wp2
      go_ret
      have hkn' : k = zs.length := by rw [HN.out]; omega
      rw [hkn', List.take_length] at hno
      exact ⟨-1, rfl, ⟨fun h => absurd h (by rw [hno]; exact Bool.false_ne_true), fun _ => rfl⟩, q, rfl⟩
set_option maxHeartbeats 400000 in
theorem containsFI (v : Value) (zs : List Int) (w : World) (hv : RK .i64 w v zs) :
    Calls Try.prog 22 #[v, .func (.func 23) #[] #[]] w fun e w' => e = .returned (.bool (negs zs)) ∧ ∃ q, w' = w.drewN q := by
  have h1 := indexFI v zs w hv
  obtain ⟨ao, cap, rfl, -⟩ := hv
  go_enter Try.func22, Try.ntmps22
  go_wp2_with (go_at_call 25; refine h1.mono ?_; rintro e w' ⟨r, rfl, hf, q, rfl⟩)
  go_ret
  exact ⟨by rw [← hf.dec]; rfl, q, rfl⟩
set_option maxRecDepth 100000 in
set_option maxHeartbeats 1600000 in
theorem indexI (v : Value) (zs : List Int) (w : World) (hv : RK .i64 w v zs) :
    Calls Try.prog 26 #[v, .int .i64 0] w fun e w' => ∃ r, e = .returned (.int .i64 r) ∧ Found r (nuls zs) ∧ ∃ q, w' = w.drewN q := by
  obtain ⟨ao, cap, rfl, hc, hm, hnil, hbd, hcell⟩ := hv
  clear hnil
  unfold maxLen at hm
  obtain ⟨n, hn⟩ : ∃ n, zs.length = n := ⟨_, rfl⟩
  rw [hn] at hc ⊢
  have HN : Hid (zs.length = n) := hn
  clear hn
  go_enter Try.func26, Try.ntmps26
  go_wp2
  go_loopw [8] (fun t wr => ∃ k : Nat, k ≤ n ∧ t = .int .i64 k ∧ nuls (zs.take k) = false ∧ ∃ q, wr = w.drewN q) (fun t _ => n - (intOf t).toNat)
  case atStart => exact ⟨0, Nat.zero_le _, rfl, rfl, 0, rfl⟩
  case round =>
    obtain ⟨k, hk, rfl, hno, q, rfl⟩ := hrel
    by_cases hkn : k < n
    · obtain ⟨b, off, rfl, hc0⟩ := hcell k (by rw [HN.out]; omega)
      have hlt : (k : Int) < (n : Int) := by omega
      have hst : nuls (zs.take (k + 1)) = (nuls (zs.take k) || (zs.getD k 0 == 0)) := any_take (p := fun z => z == 0) (by rw [HN.out]; exact hkn)
      have hyes : (zs.getD k 0 == 0) = true → nuls zs = true := any_at (p := fun z => z == 0) (by rw [HN.out]; exact hkn)
      rw [hno, Bool.false_or] at hst
      have HS : Hid (nuls (zs.take (k + 1)) = (zs.getD k 0 == 0)) := hst
      have HY : Hid ((zs.getD k 0 == 0) = true → nuls zs = true) := hyes
      clear hst hyes hcell hbd
      generalize zs.getD k 0 = x at *
      by_cases hx : x = 0
      · subst hx
        go_wp2
        go_ret
        exact ⟨_, rfl, ⟨fun _ => ⟨by omega, by omega⟩, fun h => absurd (HY.out rfl) (by rw [h]; exact Bool.false_ne_true)⟩, _, rfl⟩
      · have hx0 : ((0 : Int) == x) = false := by rw [beq_eq_false_iff_ne]; exact fun h => hx h.symm
        have HX : Hid (x ≠ 0) := hx
        clear hx
        go_wp2
        go_roundw
        case rel => exact ⟨k + 1, by omega, by go_num, by rw [HS.out]; exact beq_eq_false_iff_ne.2 HX.out, _, rfl⟩
        case measure => simp [intOf]; omega
    · have hge : ¬ (k : Int) < (n : Int) := by omega
      clear hcell hbd
      go_wp2
      go_ret
      have hkn' : k = zs.length := by rw [HN.out]; omega
      rw [hkn', List.take_length] at hno
      exact ⟨-1, rfl, ⟨fun h => absurd h (by rw [hno]; exact Bool.false_ne_true), fun _ => rfl⟩, q, rfl⟩
set_option maxHeartbeats 400000 in
theorem containsI (v : Value) (zs : List Int) (w : World) (hv : RK .i64 w v zs) :
    Calls Try.prog 24 #[v, .int .i64 0] w fun e w' => e = .returned (.bool (nuls zs)) ∧ ∃ q, w' = w.drewN q := by
  have h1 := indexI v zs w hv
  obtain ⟨ao, cap, rfl, -⟩ := hv
  go_enter Try.func24, Try.ntmps24
  go_wp2_with (go_at_call 26; refine h1.mono ?_; rintro e w' ⟨r, rfl, hf, q, rfl⟩)
  go_ret
  exact ⟨by rw [← hf.dec]; rfl, q, rfl⟩

set_option maxRecDepth 100000 in
set_option maxHeartbeats 1600000 in
theorem countI (v : Value) (zs : List Int) (w : World) (hv : RK .i64 w v zs) :
    Calls Try.prog 21 #[v] w fun e w' => e = .returned (.tuple #[.int .i64 (cntN zs), .int .i64 (cntE zs)]) ∧ ∃ q, w' = w.drewN q := by
  have h1 := fun w h => containsFI v zs w h
  have h2 := fun w h => containsI v zs w h
  have hv' := fun q => hv.drewN q
  obtain ⟨ao, cap, rfl, hc, hm, hnil, hbd, hcell⟩ := hv
  clear hnil
  unfold maxLen at hm
  by_cases hneg : negs zs = true
  · obtain ⟨e1, e2⟩ := cnt_neg hneg
    rw [e1, e2]
    clear e1 e2 hcell hbd
    go_enter Try.func21, Try.ntmps21
    go_wp2_with (go_at_call 22; refine (h1 _ (hv' 0)).mono ?_; rintro e w' ⟨rfl, q, rfl⟩)
    go_ret2
    exact ⟨rfl, q, rfl⟩
  have hneg : negs zs = false := by simpa using hneg
  by_cases hnul : nuls zs = true
  · obtain ⟨e1, e2⟩ := cnt_nul hneg hnul
    rw [e1, e2]
    clear e1 e2 hcell hbd
    go_enter Try.func21, Try.ntmps21
    go_wp2_with (first | (go_at_call 22; refine (h1 _ (hv' 0)).mono ?_; rintro e w' ⟨rfl, q, rfl⟩) | (go_at_call 24; refine (h2 _ (hv' _)).mono ?_; rintro e w' ⟨rfl, q2, rfl⟩))
    go_ret2
    exact ⟨rfl, _, rfl⟩
  have hnul : nuls zs = false := by simpa using hnul
  have hone := ones hneg hnul
  have hpl := pr_take_le zs hone
  have hpos := fun k => pr_pos (zs.take k) fun z hz => hone z (List.mem_of_mem_take hz)
  have hpt := fun k hk => pr_take zs k hk
  have hge := fun k (hk : k < zs.length) => hone _ (List.getElem_mem hk)
  have hmany := fun h => @cnt_many zs hneg h
  have hok := fun h => @cnt_ok zs hneg h
  have HM : Hid (2147483647 < pr zs → cntE zs = 4 ∧ cntN zs = 0) := hmany
  have HO : Hid (pr zs ≤ 2147483647 → cntE zs = 0 ∧ cntN zs = pr zs) := hok
  have HP : Hid (∀ k, pr (zs.take k) ≤ pr zs) := hpl
  have HQ : Hid (∀ k, 1 ≤ pr (zs.take k)) := hpos
  have HT : Hid (∀ k, k < zs.length → pr (zs.take (k + 1)) = pr (zs.take k) * zs.getD k 0) := hpt
  have HG : Hid (∀ k, k < zs.length → 1 ≤ zs.getD k 0) := fun k hk => by rw [List.getD_eq_getElem?_getD, List.getElem?_eq_getElem hk]; exact hge k hk
  clear hone hpl hpos hpt hge hmany hok
  obtain ⟨n, hn⟩ : ∃ n, zs.length = n := ⟨_, rfl⟩
  rw [hn] at hc hv' h1 h2 ⊢
  have HN : Hid (zs.length = n) := hn
  clear hn
  go_enter Try.func21, Try.ntmps21
  go_wp2_with (first | (go_at_call 22; refine (h1 _ (hv' 0)).mono ?_; rintro e w' ⟨rfl, q, rfl⟩) | (go_at_call 24; refine (h2 _ (hv' _)).mono ?_; rintro e w' ⟨rfl, q2, rfl⟩))
  clear h1 h2 hv'
  go_loopw [4, 13] (fun c t wr => ∃ k : Nat, k ≤ n ∧ t = .int .i64 k ∧ c = .int .i64 (pr (zs.take k)) ∧ pr (zs.take k) ≤ 2147483647 ∧ ∃ q, wr = w.drewN q) (fun _ t _ => n - (intOf t).toNat)
  case atStart => exact ⟨0, Nat.zero_le _, rfl, rfl, by simp [pr], _, rfl⟩
  case round =>
    obtain ⟨k, hk, rfl, rfl, hle, q, rfl⟩ := hrel
    have hp1 := HQ.out k
    by_cases hkn : k < n
    · obtain ⟨b, off, rfl, hc0⟩ := hcell k (by rw [HN.out]; omega)
      have hlt : (k : Int) < (n : Int) := by omega
      have hkz : k < zs.length := by rw [HN.out]; exact hkn
      have hx1 := HG.out k hkz
      obtain ⟨hx2, hx3⟩ := hbd k hkz
      rw [max_i64] at hx3
      clear hx2
      have HT' : Hid (pr (zs.take (k + 1)) = pr (zs.take k) * zs.getD k 0) := HT.out k hkz
      have HP' : Hid (pr (zs.take (k + 1)) ≤ pr zs) := HP.out (k + 1)
      clear hcell hbd HT HG HQ HP hkz
      generalize zs.getD k 0 = x at *
      generalize pr (zs.take k) = c at *
      have hdiv : 2147483647 / c < x ↔ 2147483647 < c * x := by
        rw [Int.mul_comm]; exact Int.ediv_lt_iff_lt_mul (by omega)
      have hq0 : 0 ≤ 2147483647 / c := Int.ediv_nonneg (by omega) (by omega)
      have hq1 : 2147483647 / c ≤ 2147483647 := Int.ediv_le_self _ (by omega)
      have HD : Hid (2147483647 / c < x ↔ 2147483647 < c * x) := hdiv
      clear hdiv
      by_cases hb : 2147483647 / c < x
      · have hbig := HD.out.1 hb
        have e12 := HM.out (Int.lt_of_lt_of_le (by rw [← HT'.out] at hbig; exact hbig) HP'.out)
        have HB : Hid (2147483647 < c * x) := hbig
        clear hbig
        go_wp2
        go_ret2
        exact ⟨by rw [e12.1, e12.2]; rfl, q, rfl⟩
      · have hsm : c * x ≤ 2147483647 := by
          exact Int.not_lt.1 fun h => hb (HD.out.2 h)
        have hnn : 0 ≤ c * x := Int.mul_nonneg (by omega) (by omega)
        have hbb : decide (2147483647 / c < x) = false := by simpa using hb
        go_wp2
        go_roundw
        case rel => exact ⟨k + 1, by omega, by go_num, by rw [HT'.out], by rw [HT'.out]; exact hsm, _, rfl⟩
        case measure => simp [intOf]; omega
    · have hge : ¬ (k : Int) < (n : Int) := by omega
      clear hcell hbd
      go_wp2
      go_ret2
      have hkn' : k = zs.length := by rw [HN.out]; omega
      rw [hkn', List.take_length] at hle ⊢
      obtain ⟨e1, e2⟩ := HO.out hle
      rw [e1, e2]
      exact ⟨rfl, q, rfl⟩

end Go.Proofs.Ytphbbkckigdgoaa

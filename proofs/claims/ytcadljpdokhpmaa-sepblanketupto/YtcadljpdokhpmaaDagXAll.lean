/-
  Proved here: package dag's arePoints: are all of a list among the first numbers?
  Proved here: what is wrong with parents, as plain mathematics.
  Proved here: the law's many, long; the document's Same.
-/
import Derived.Test.YtcadljpdokhpmaaDagI
namespace Go.Proofs.Ytcadljpdokhpmaa
set_option linter.unusedVariables false
open Go.RowKit
theorem cell_drewD {w : World} {p : Addr} {v : Value} (h : w.cell? p = some v) (q : Nat) : (w.drewN q).cell? p = some v := by
  unfold World.cell? at h ⊢
  rw [heap_drewG]
  exact h
/-- No point. -/
def noPt (n x : Int) : Bool := decide (x < 0) || decide (n ≤ x)
def noPts (n : Int) (zs : List Int) : Bool := zs.any (noPt n)
set_option maxRecDepth 100000 in
set_option maxHeartbeats 800000 in
theorem noPtD (cb : Nat) (n x : Int) (w : World) (hc : w.cell? ⟨cb, 0, none⟩ = some (.int .i64 n)) : Calls Try.prog 53 #[.int .i64 x, .pointer (some ⟨cb, 0, none⟩)] w fun e w' => e = .returned (.bool (noPt n x)) ∧ w' = w := by
  by_cases h : x < 0
  · have hr : noPt n x = true := by simp [noPt, h]
    rw [hr]
    clear hr
    go_enter Try.func53, Try.ntmps53
    go_wp2
    go_ret
    exact ⟨rfl, rfl⟩
  · have hr : noPt n x = decide (n ≤ x) := by simp [noPt, h]
    rw [hr]
    clear hr
    go_enter Try.func53, Try.ntmps53
    go_wp2
    go_ret
    exact ⟨rfl, rfl⟩
set_option maxRecDepth 100000 in
set_option maxHeartbeats 1600000 in
theorem indexFD (cb : Nat) (m : Int) (v : Value) (zs : List Int) (w : World) (hv : RG (Value.int .i64) w v zs) (hcb : w.cell? ⟨cb, 0, none⟩ = some (.int .i64 m)) :
    Calls Try.prog 36 #[v, .func (.func 53) #[] #[.pointer (some ⟨cb, 0, none⟩)]] w fun e w' => ∃ r, e = .returned (.int .i64 r) ∧ Found r (noPts m zs) ∧ ∃ q, w' = w.drewN q := by
  obtain ⟨ao, cap, rfl, hc, hm, hnil, hcell⟩ := hv
  clear hnil
  unfold maxLen at hm
  obtain ⟨n, hn⟩ : ∃ n, zs.length = n := ⟨_, rfl⟩
  rw [hn] at hc ⊢
  have HN : Hid (zs.length = n) := hn
  have HC : Hid (∀ i x, zs[i]? = some x → ∃ g o, ao = some ⟨g, o, none⟩ ∧ w.cell? ⟨g, o + i, none⟩ = some (Value.int .i64 x)) := hcell
  clear hn hcell
  go_enter Try.func36, Try.ntmps36
  go_wp2
  go_loopw [8] (fun t wr => ∃ k : Nat, k ≤ n ∧ t = .int .i64 k ∧ noPts m (zs.take k) = false ∧ ∃ q, wr = w.drewN q) (fun t _ => n - (intOf t).toNat)
  case atStart => exact ⟨0, Nat.zero_le _, rfl, rfl, 0, rfl⟩
  case round =>
    obtain ⟨k, hk, rfl, hno, q, rfl⟩ := hrel
    by_cases hkn : k < n
    · obtain ⟨x, hx0⟩ : ∃ x, zs[k]? = some x := ⟨_, List.getElem?_eq_getElem (by rw [HN.out]; exact hkn)⟩
      obtain ⟨b, off, rfl, hc0⟩ := HC.out k x hx0
      have hlt : (k : Int) < (n : Int) := by omega
      have hst : noPts m (zs.take (k + 1)) = (noPts m (zs.take k) || noPt m (zs.getD k 0)) := any_take (by rw [HN.out]; exact hkn)
      have hyes : noPt m (zs.getD k 0) = true → noPts m zs = true := any_at (by rw [HN.out]; exact hkn)
      have e0 : zs.getD k 0 = x := by rw [List.getD_eq_getElem?_getD, hx0]; rfl
      rw [e0] at hst hyes
      rw [hno, Bool.false_or] at hst
      have HS : Hid (noPts m (zs.take (k + 1)) = noPt m x) := hst
      have HY : Hid (noPt m x = true → noPts m zs = true) := hyes
      have cq : ∀ q, (w.drewN q).cell? ⟨cb, 0, none⟩ = some (.int .i64 m) := fun q => cell_drewD hcb q
      have HB : Hid (∀ q, Calls Try.prog 53 #[.int .i64 x, .pointer (some ⟨cb, 0, none⟩)] (w.drewN q) fun e w' => e = .returned (.bool (noPt m x)) ∧ w' = w.drewN q) := fun q => noPtD cb m x (w.drewN q) (cq q)
      clear hst hyes e0 hx0 cq
      by_cases hx : noPt m x = true
      · go_wp2_with (go_at_call 53; refine (HB.out _).mono ?_; rintro e w' ⟨rfl, rfl⟩)
        go_ret
        exact ⟨_, rfl, ⟨fun _ => ⟨by omega, by omega⟩, fun h => absurd (HY.out hx) (by rw [h]; exact Bool.false_ne_true)⟩, _, rfl⟩
      · have hx : noPt m x = false := by simpa using hx
        go_wp2_with (go_at_call 53; refine (HB.out _).mono ?_; rintro e w' ⟨rfl, rfl⟩)
        go_roundw
        case rel => exact ⟨k + 1, by omega, by go_num, by rw [HS.out]; exact hx, _, rfl⟩
        case measure => simp [intOf]; omega
    · have hge : ¬ (k : Int) < (n : Int) := by omega
      go_wp2
      go_ret
      have hkn' : k = zs.length := by rw [HN.out]; omega
      rw [hkn', List.take_length] at hno
      exact ⟨-1, rfl, ⟨fun h => absurd h (by rw [hno]; exact Bool.false_ne_true), fun _ => rfl⟩, q, rfl⟩
set_option maxHeartbeats 400000 in
theorem containsFD (cb : Nat) (m : Int) (v : Value) (zs : List Int) (w : World) (hv : RG (Value.int .i64) w v zs) (hcb : w.cell? ⟨cb, 0, none⟩ = some (.int .i64 m)) :
    Calls Try.prog 23 #[v, .func (.func 53) #[] #[.pointer (some ⟨cb, 0, none⟩)]] w fun e w' => e = .returned (.bool (noPts m zs)) ∧ ∃ q, w' = w.drewN q := by
  have h1 := indexFD cb m v zs w hv hcb
  obtain ⟨ao, cap, rfl, -⟩ := hv
  go_enter Try.func23, Try.ntmps23
  go_wp2_with (go_at_call 36; refine h1.mono ?_; rintro e w' ⟨r, rfl, hf, q, rfl⟩)
  go_ret
  exact ⟨by rw [← hf.dec]; rfl, q, rfl⟩
set_option maxRecDepth 100000 in
set_option maxHeartbeats 800000 in
theorem arePointsD (m : Int) (v : Value) (zs : List Int) (w : World) (hv : RG (Value.int .i64) w v zs) :
    Calls Try.prog 46 #[.int .i64 m, v] w fun e w' => e = .returned (.bool (!noPts m zs)) ∧ Below w.heap.size w w' := by
  obtain ⟨W1, hW1⟩ : ∃ W1, W1 = w.alloc (.cells #[.int .i64 m] 3) := ⟨_, rfl⟩
  obtain ⟨g, hg⟩ : ∃ g, g = w.heap.size := ⟨_, rfl⟩
  have b0 : Below w.heap.size w W1 := by rw [hW1]; exact belowB w _
  have hcb : W1.cell? ⟨g, 0, none⟩ = some (.int .i64 m) := by rw [hW1, hg, World.cell?_alloc_at _ _ _ _ rfl]; rfl
  have C : Hid _ := containsFD g m v zs W1 (hv.below (Nat.le_refl _) b0) hcb
  have HB : Hid (Below w.heap.size w W1) := b0
  obtain ⟨ao, cap, rfl, -⟩ := hv
  have HW1 : Hid (W1 = w.alloc (.cells #[.int .i64 m] 3)) := hW1
  have HG : Hid (g = w.heap.size) := hg
  clear hW1 hg b0 hcb
  go_enter Try.func46, Try.ntmps46
  go_upto_region 1 with fail
  rw [← HW1.out, ← HG.out]
  clear HW1
  go_wp2_with fail
  refine Calls.mono C.out ?_
  rintro e y ⟨rfl, q, rfl⟩
  go_wp2
  go_ret
  exact ⟨rfl, below_drewN HB.out q⟩
end Go.Proofs.Ytcadljpdokhpmaa

namespace Go.Proofs.Ytcadljpdokhpmaa
set_option linter.unusedVariables false
/-- Is some parent no point? -/
def outsB (P : List (List Int)) : Bool := P.any (noPts (P.length : Int))
/-- Comes a number again? -/
def twiceB (zs : List Int) : Bool := decide ¬ zs.Nodup
def twicesB (P : List (List Int)) : Bool := P.any twiceB
/-- What checkLists answers. -/
def clE (P : List (List Int)) : Int := if outsB P then 3 else if twicesB P then 40 else 0
theorem outs_no {P : List (List Int)} (h : outsB P = false) (i : Nat) (x : Int) (hx : x ∈ P.getD i []) : ∃ p : Nat, x = (p : Int) ∧ p < P.length := by
  by_cases hi : i < P.length
  · have h1 : noPts (P.length : Int) (P.getD i []) = false := by
      have := List.any_eq_false.1 h (P.getD i []) (by rw [List.getD_eq_getElem?_getD, List.getElem?_eq_getElem hi]; exact List.getElem_mem hi)
      simpa using this
    have h2 := List.any_eq_false.1 h1 x hx
    have h3 : ¬ x < 0 ∧ ¬ (P.length : Int) ≤ x := by simpa [noPt] using h2
    exact ⟨x.toNat, by omega, by omega⟩
  · rw [List.getD_eq_getElem?_getD, List.getElem?_eq_none (by omega)] at hx
    simp at hx
theorem twices_no {P : List (List Int)} (h : twicesB P = false) (i : Nat) : (P.getD i []).Nodup := by
  by_cases hi : i < P.length
  · have := List.any_eq_false.1 h (P.getD i []) (by rw [List.getD_eq_getElem?_getD, List.getElem?_eq_getElem hi]; exact List.getElem_mem hi)
    simpa [twiceB] using this
  · rw [List.getD_eq_getElem?_getD, List.getElem?_eq_none (by omega)]
    exact List.nodup_nil
theorem anyP_take {p : List Int → Bool} {P : List (List Int)} {k : Nat} (hk : k < P.length) : (P.take (k + 1)).any p = ((P.take k).any p || p (P.getD k [])) := by
  rw [List.take_add_one, List.any_append, List.getD_eq_getElem?_getD, List.getElem?_eq_getElem hk]
  simp
theorem anyP_at {p : List Int → Bool} {P : List (List Int)} {k : Nat} (hk : k < P.length) (h : p (P.getD k []) = true) : P.any p = true := by
  rw [List.getD_eq_getElem?_getD, List.getElem?_eq_getElem hk] at h
  exact List.any_eq_true.2 ⟨_, List.getElem_mem hk, h⟩
/-- What the list of last points holds: by it one sees whether a parent came already for this point. -/
def LaI (P : List (List Int)) (i k : Nat) (La : List Int) : Prop := La.length = P.length ∧ ∀ p : Nat, p < P.length → (La.getD p 0 < (i : Int) + 1) ∧ (La.getD p 0 = (i : Int) ↔ (p : Int) ∈ (P.getD i []).take k)
theorem LaI.next {P : List (List Int)} {i k : Nat} {La : List Int} (h : LaI P i k La) : LaI P (i + 1) 0 La := ⟨h.1, fun p hp => ⟨by have := (h.2 p hp).1; omega, ⟨fun e => by have := (h.2 p hp).1; omega, fun e => by simp at e⟩⟩⟩
theorem LaI.step {P : List (List Int)} {i k p : Nat} {La : List Int} (h : LaI P i k La) (hp : p < P.length) (hk : (P.getD i [])[k]? = some (p : Int)) : LaI P i (k + 1) (La.set p (i : Int)) := by
  refine ⟨by rw [List.length_set]; exact h.1, fun q hq => ?_⟩
  rw [getD_set (by rw [h.1]; exact hp)]
  have e1 : (P.getD i []).take (k + 1) = (P.getD i []).take k ++ [(p : Int)] := by rw [List.take_add_one, hk]; rfl
  rw [e1, List.mem_append, List.mem_singleton]
  by_cases e : q = p
  · subst e; rw [if_pos rfl]; exact ⟨by omega, ⟨fun _ => Or.inr rfl, fun _ => rfl⟩⟩
  · rw [if_neg e]
    refine ⟨(h.2 q hq).1, (h.2 q hq).2.trans ⟨Or.inl, fun h2 => h2.resolve_right (by omega)⟩⟩
theorem LaI.start {P : List (List Int)} {n : Nat} (hn : P.length = n) : LaI P 0 0 (List.replicate n (-1)) := ⟨by simp [hn], fun p hp => by
  rw [List.getD_eq_getElem?_getD, List.getElem?_replicate, if_pos (by omega)]
  simp⟩
theorem nodup_take {zs : List Int} {k : Nat} {x : Int} (h : (zs.take k).Nodup) (hk : zs[k]? = some x) (hn : x ∉ zs.take k) : (zs.take (k + 1)).Nodup := by
  rw [List.take_add_one, hk, List.nodup_append]
  refine ⟨h, by simp, fun a ha b hb e => ?_⟩
  have : b = x := by simpa using hb
  subst this; subst e; exact hn ha
theorem twice_at {zs : List Int} {k : Nat} {x : Int} (hk : zs[k]? = some x) (hn : x ∈ zs.take k) : twiceB zs = true := by
  unfold twiceB
  refine decide_eq_true fun h => ?_
  have h2 : (zs.take (k + 1)).Nodup := h.sublist (List.take_sublist _ _)
  rw [List.take_add_one, hk, List.nodup_append] at h2
  exact h2.2.2 x hn x (by simp) rfl
end Go.Proofs.Ytcadljpdokhpmaa

namespace Go.Proofs.Ytcadljpdokhpmaa
set_option linter.unusedVariables false
open Go.RowKit
/-- How many parents the first points have. -/
def smL (P : List (List Int)) : Nat → Nat
  | 0 => 0
  | i + 1 => smL P i + (P.getD i []).length
theorem smL_le {P : List (List Int)} (h : ∀ i, (P.getD i []).length ≤ 1048576) (i : Nat) : smL P i ≤ i * 1048576 := by
  induction i with
  | zero => simp [smL]
  | succ i ih => simp only [smL]; have := h i; omega
theorem smL_mono {P : List (List Int)} {i j : Nat} (h : i ≤ j) : smL P i ≤ smL P j := by
  induction j with
  | zero => rw [Nat.le_zero.1 h]; exact Nat.le_refl _
  | succ j ih =>
    by_cases e : i = j + 1
    · rw [e]; exact Nat.le_refl _
    · have := ih (by omega); simp only [smL]; omega
/-- What many answers. -/
def manyB (P : List (List Int)) : Bool := decide (200 < P.length) || decide (2000 < smL P P.length)
/-- The marks behind a list that is lent. -/
def mrks : List Int := [-90, -91, -92, -93, -94, -95]
set_option maxRecDepth 100000 in
set_option maxHeartbeats 1600000 in
theorem sameD (u v : Value) (xs ys : List Int) (w : World) (hu : RG (Value.int .i64) w u xs) (hv : RG (Value.int .i64) w v ys) :
    Calls Try.prog 18 #[u, v] w fun e w' => e = .returned (.bool (decide (xs = ys))) ∧ ∃ q, w' = w.drewN q := by
  obtain ⟨uo, un, uc, rfl⟩ : ∃ o n c, u = .slice o n c := by obtain ⟨ao, cap, e⟩ := hu.sl; exact ⟨_, _, _, e⟩
  obtain ⟨vo, vn, vc, rfl⟩ : ∃ o n c, v = .slice o n c := by obtain ⟨ao, cap, e⟩ := hv.sl; exact ⟨_, _, _, e⟩
  have hum : un ≤ 9223372036854775807 := by have := hu.room.2.1; have := hu.room.1; unfold maxLen at *; omega
  have HU : Hid (RG (Value.int .i64) w (.slice uo un uc) xs) := hu
  have HV : Hid (RG (Value.int .i64) w (.slice vo vn vc) ys) := hv
  have HUL : Hid (xs.length = un) := hu.len
  have HVL : Hid (ys.length = vn) := hv.len
  clear hu hv
  by_cases hne : un = vn
  · subst hne
    go_enter Try.func18, Try.ntmps18
    go_wp2
    go_loopg [5] un (fun g1 v5 wr => ∃ k q : Nat, v5 = .int .i64 k ∧ k ≤ un ∧ un - k ≤ g1 ∧ Hid (xs.take k = ys.take k) ∧ Hid (wr = w.drewN q))
    case atStart => exact ⟨0, 0, rfl, by omega, by omega, rfl, rfl⟩
    case round =>
      obtain ⟨k, q0, rfl, hkn, hg1, HA, HQ⟩ := hrel
      have HU2 : Hid (RG (Value.int .i64) wr (.slice uo un uc) xs) := by rw [HQ.out]; exact HU.out.drewN q0
      have HV2 : Hid (RG (Value.int .i64) wr (.slice vo un vc) ys) := by rw [HQ.out]; exact HV.out.drewN q0
      by_cases hlt : k < un
      · have hltz : (k : Int) < (un : Int) := by omega
        obtain ⟨x, gx, ox, hx1, rfl, hx2⟩ := HU2.out.at hlt
        obtain ⟨y, gy, oy, hy1, rfl, hy2⟩ := HV2.out.at hlt
        by_cases he : x = y
        · have HA2 : Hid (xs.take (k + 1) = ys.take (k + 1)) := by show _ = _; rw [List.take_add_one, List.take_add_one, hx1, hy1, HA.out, he]
          have hez : (x != y) = false := by simpa using he
          clear he hx1 hy1 HA
          go_wp2
          go_quiet (fail)
          clear hx2 hy2
          go_wp2
          go_roundg (un - (k + 1))
          case measure => omega
          case rel => exact ⟨k + 1, _, by first | rfl | go_num, by omega, Nat.le_refl _, HA2, by show _ = _; rw [HQ.out]; exact drewR_add _ _ _⟩
        · have HE : Hid (decide (xs = ys) = false) := decide_eq_false fun e => he (by rw [e, hy1] at hx1; exact (Option.some.inj hx1).symm)
          have hez : (x != y) = true := by simpa using he
          clear he hx1 hy1 HA
          go_wp2
          go_quiet (fail)
          clear hx2 hy2
          go_wp2
          go_ret
          exact ⟨by rw [HE.out]; rfl, _, by rw [HQ.out]; exact drewR_add _ _ _⟩
      · have hltz : ¬ (k : Int) < (un : Int) := by omega
        have HE : Hid (decide (xs = ys) = true) := decide_eq_true (by
          have := HA.out
          rw [List.take_of_length_le (by rw [HUL.out]; omega), List.take_of_length_le (by rw [HVL.out]; omega)] at this
          exact this)
        clear HA
        go_wp2
        go_ret
        exact ⟨by rw [HE.out]; rfl, _, HQ.out⟩
  · have HE : Hid (decide (xs = ys) = false) := decide_eq_false fun e => hne (by rw [← HUL.out, ← HVL.out, e])
    have hnz : ((un : Int) != (vn : Int)) = true := by simp; omega
    clear hne
    go_enter Try.func18, Try.ntmps18
    go_wp2
    go_ret
    exact ⟨by rw [HE.out]; rfl, 0, rfl⟩
end Go.Proofs.Ytcadljpdokhpmaa

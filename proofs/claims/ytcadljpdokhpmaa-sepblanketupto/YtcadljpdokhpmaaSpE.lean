/-
  Proved here: the document's Bad and Blanket of layer 16.
-/
import Derived.Test.YtcadljpdokhpmaaSpD
import Derived.Test.YtcadljpdokhpmaaDagV
namespace Go.Proofs.Ytcadljpdokhpmaa
set_option linter.unusedVariables false
open Go.RowKit
/-- What is wrong with parents, and with the points that are named. -/
def bdE (P : List (List Int)) (n : Nat) (zs : List Int) : Int := if ckE P ≠ 0 then ckE P else if noPts (n : Int) zs = true then 3 else 0
theorem blE_bd (P : List (List Int)) (n : Nat) (a : Int) : blE P n a = bdE P n [a] := by
  unfold blE bdE
  have : noPts (n : Int) [a] = noPt (n : Int) a := by simp [noPts]
  rw [this]
theorem noPts_step {m : Int} {zs : List Int} {k : Nat} {x : Int} (h : zs[k]? = some x) : noPts m (zs.take (k + 1)) = (noPts m (zs.take k) || noPt m x) := by
  unfold noPts
  rw [List.take_add_one, h]
  simp
theorem noPts_hit {m : Int} {zs : List Int} {k : Nat} {x : Int} (h : zs[k]? = some x) (hx : noPt m x = true) : noPts m zs = true := List.any_eq_true.2 ⟨x, List.mem_of_getElem? h, hx⟩
set_option maxRecDepth 1000000 in
set_option maxHeartbeats 3200000 in
theorem refBad (pv : Value) (pvs : List Value) (P : List (List Int)) (w : World) (h : RRD w pv pvs P) (n : Nat) (hn : P.length = n) (hb : n ≤ 100000) (v : Value) (zs : List Int) (hv : RG (Value.int .i64) w v zs) :
    Calls Try.prog 10 #[pv, v] w fun e w' => e = .returned (.int .i64 (bdE P n zs)) ∧ Below w.heap.size w w' := by
  have CC : Hid _ := refCheckD pv pvs P w h n hn hb
  obtain ⟨po, pn, pc, rfl⟩ : ∃ o n c, pv = .slice o n c := by obtain ⟨ao, cap, e⟩ := h.out.sl; exact ⟨_, _, _, e⟩
  obtain rfl : pn = n := by rw [← hn, ← h.len, h.out.len]
  obtain ⟨vo, vn, vc, rfl⟩ : ∃ o n c, v = .slice o n c := by obtain ⟨ao, cap, e⟩ := hv.sl; exact ⟨_, _, _, e⟩
  have hvm : vn ≤ 9223372036854775807 := by have := hv.room.2.1; have := hv.room.1; unfold maxLen at *; omega
  have HV : Hid (RG (Value.int .i64) w (.slice vo vn vc) zs) := hv
  have HVL : Hid (zs.length = vn) := hv.len
  clear h hn hv
  go_enter Try.func10, Try.ntmps10
  go_wp2_with fail
  refine Calls.mono CC.out ?_
  rintro e y ⟨rfl, hy⟩
  have HB : Hid (Below w.heap.size w y) := hy
  clear CC hy
  by_cases h0 : ckE P = 0
  · have HE : Hid (bdE P pn zs = if noPts (pn : Int) zs = true then 3 else 0) := by show _ = _; unfold bdE; rw [if_neg (by rw [h0]; decide)]
    rw [h0]
    clear h0
    go_wp2
    go_loopg [6] vn (fun g1 v6 wr => ∃ i : Nat, v6 = .int .i64 i ∧ i ≤ vn ∧ vn - i ≤ g1 ∧ Hid (noPts (pn : Int) (zs.take i) = false) ∧ Hid (Below w.heap.size w wr))
    case atStart => exact ⟨0, rfl, Nat.zero_le _, by omega, rfl, HB⟩
    case round =>
      clear HB
      obtain ⟨i, rfl, hin, hg1, HA, HB⟩ := hrel
      by_cases hlt : i < vn
      · have hltz : (i : Int) < (vn : Int) := by omega
        obtain ⟨x, gx, ox, hx1, rfl, hx0⟩ := HV.out.at hlt
        have hx2 : wr.cell? ⟨gx, ox + i, none⟩ = some (.int .i64 x) := keepR HB.out hx0
        have HS : Hid (noPts (pn : Int) (zs.take (i + 1)) = noPt (pn : Int) x) := by show _ = _; rw [noPts_step hx1, HA.out, Bool.false_or]
        have HH : Hid (noPt (pn : Int) x = true → bdE P pn zs = 3) := fun hx => by rw [HE.out, if_pos (noPts_hit hx1 hx)]
        clear hx0 hx1 HA
        by_cases hx : x < 0
        · have hE := HH.out (by simp [noPt, hx])
          have HE2 : Hid (bdE P pn zs = 3) := hE
          clear hE
          go_wp2
          go_ret
          exact ⟨by rw [HE2.out]; rfl, HB.out⟩
        · by_cases hx3 : (pn : Int) ≤ x
          · have hE := HH.out (by simp [noPt, hx3])
            have HE2 : Hid (bdE P pn zs = 3) := hE
            clear hE
            go_wp2
            go_ret
            exact ⟨by rw [HE2.out]; rfl, HB.out⟩
          · have HN : Hid (noPts (pn : Int) (zs.take (i + 1)) = false) := by show _ = _; rw [HS.out]; simp [noPt, hx]; omega
            clear HS HH
            go_wp2
            go_roundg (vn - (i + 1))
            case measure => omega
            case rel => exact ⟨i + 1, by go_num, by omega, Nat.le_refl _, HN, HB⟩
      · have hltz : ¬ (i : Int) < (vn : Int) := by omega
        have HE2 : Hid (bdE P pn zs = 0) := by
          show _ = _
          have h := HA.out
          rw [List.take_of_length_le (by rw [HVL.out]; omega)] at h
          rw [HE.out, h]; rfl
        clear HA
        go_wp2
        go_ret
        exact ⟨by rw [HE2.out]; rfl, HB.out⟩
  · have HE : Hid (bdE P pn zs = ckE P) := by show _ = _; unfold bdE; rw [if_pos h0]
    obtain ⟨c, hc⟩ : ∃ c, c = ckE P := ⟨_, rfl⟩
    rw [← hc] at h0 ⊢
    have HC : Hid (c = ckE P) := hc
    have hcz : (c != (0 : Int)) = true := by simpa using h0
    clear hc h0
    go_wp2
    go_ret
    exact ⟨by rw [HE.out, ← HC.out]; rfl, HB.out⟩
/-- Is a point near another one: by the document's words, points that both are parents of being gone through up to c. -/
def nrB (P : List (List Int)) (a p c : Nat) : Bool := (decide ((p : Int) ∈ P.getD a []) || decide ((a : Int) ∈ P.getD p [])) || (List.range c).any fun c => decide ((a : Int) ∈ P.getD c []) && decide ((p : Int) ∈ P.getD c [])
theorem nrB_zero (P : List (List Int)) (a p : Nat) : nrB P a p 0 = (decide ((p : Int) ∈ P.getD a []) || decide ((a : Int) ∈ P.getD p [])) := by simp [nrB]
theorem nrB_succ (P : List (List Int)) (a p c : Nat) : nrB P a p (c + 1) = (nrB P a p c || (decide ((a : Int) ∈ P.getD c []) && decide ((p : Int) ∈ P.getD c []))) := by
  unfold nrB
  rw [List.range_succ, List.any_append, ← Bool.or_assoc]
  congr 1
  rw [List.any_cons, List.any_nil, Bool.or_false]
def nrL (P : List (List Int)) (a n p : Nat) : List Int := ((List.range p).filter fun q => nrB P a q n && !(q == a)).map Int.ofNat
theorem nrL_succ (P : List (List Int)) (a n p : Nat) : nrL P a n (p + 1) = nrL P a n p ++ if (nrB P a p n && !(p == a)) = true then [(p : Int)] else [] := by
  unfold nrL
  rw [List.range_succ, List.filter_append, List.map_append]
  congr 1
  cases h : (nrB P a p n && !(p == a)) with
  | true => rw [List.filter_cons, if_pos h]; rfl
  | false => rw [List.filter_cons, if_neg (by rw [h]; decide)]; rfl
theorem nrL_len (P : List (List Int)) (a n p : Nat) : (nrL P a n p).length ≤ p := by
  unfold nrL
  rw [List.length_map]
  exact Nat.le_trans (List.length_filter_le _ _) (by simp)
theorem rise_rangeF (f : Nat → Bool) (p : Nat) : Rise (((List.range p).filter f).map Int.ofNat) := by
  induction p with
  | zero => exact rise_nil
  | succ p ih =>
    rw [List.range_succ, List.filter_append, List.map_append]
    refine List.pairwise_append.2 ⟨ih, ?_, fun x hx y hy => ?_⟩
    · cases h : f p <;> simp [h]
    · obtain ⟨q, hq, rfl⟩ := List.mem_map.1 hx
      obtain ⟨r, hr, rfl⟩ := List.mem_map.1 hy
      have h1 := List.mem_range.1 (List.mem_filter.1 hq).1
      have h2 : r = p := by simpa using (List.mem_filter.1 hr).1
      show (q : Int) < (r : Int)
      omega
/-- The two ways tell the same points. -/
theorem nrL_near {P : List (List Int)} {n a : Nat} (hn : P.length = n) (ha : a < n) (hout : ∀ (i : Nat) (x : Int), x ∈ P.getD i [] → ∃ p : Nat, x = (p : Int) ∧ p < n) : nrL P a n n = (ofR (nearK P n a n)).filter fun z => decide (z ∈ [(a : Int)]) == false := by
  refine rise_ext (rise_rangeF _ n) (List.Pairwise.sublist List.filter_sublist (rise_ofR _)) fun z => ?_
  have hmem : ∀ q : Nat, (q : Int) ∈ nearK P n a n ↔ (nrB P a q n = true ∧ q < n) := fun q => by
    unfold nearK nrB
    rw [List.take_of_length_le (chF_len P a n)]
    simp only [List.mem_append, List.mem_flatten, List.mem_map, Bool.or_eq_true, List.any_eq_true, Bool.and_eq_true, decide_eq_true_eq, List.mem_range]
    constructor
    · rintro ((h | h) | ⟨l, ⟨c, hc, rfl⟩, h⟩)
      · obtain ⟨p, e, hp⟩ := hout a _ h
        exact ⟨Or.inl (Or.inl h), by omega⟩
      · obtain ⟨i, e, hi, h2⟩ := chF_memS h
        have e2 : i = q := by omega
        subst e2
        exact ⟨Or.inl (Or.inr h2), hi⟩
      · obtain ⟨i, rfl, hi, h2⟩ := chF_memS hc
        obtain ⟨p, e, hp⟩ := hout _ _ h
        exact ⟨Or.inr ⟨i, hi, h2, h⟩, by omega⟩
    · rintro ⟨(h | h) | ⟨i, hi, h2, h⟩, hq⟩
      · exact Or.inl (Or.inl h)
      · exact Or.inl (Or.inr (chF_mem.2 ⟨q, hq, rfl, h⟩))
      · exact Or.inr ⟨_, ⟨(i : Int), chF_mem.2 ⟨i, hi, rfl, h2⟩, rfl⟩, h⟩
  have hin : ∀ z, z ∈ nearK P n a n → ∃ q : Nat, z = (q : Int) := fun z hz => by
    unfold nearK at hz
    simp only [List.mem_append, List.mem_flatten, List.mem_map] at hz
    rcases hz with (h | h) | ⟨l, ⟨c, hc, rfl⟩, h⟩
    · obtain ⟨p, e, _⟩ := hout a _ h; exact ⟨p, e⟩
    · obtain ⟨i, e, _⟩ := chF_memS h; exact ⟨i, e⟩
    · obtain ⟨p, e, _⟩ := hout _ _ h; exact ⟨p, e⟩
  rw [List.mem_filter, mem_ofR]
  constructor
  · intro hz
    unfold nrL at hz
    obtain ⟨q, hq, rfl⟩ := List.mem_map.1 hz
    rw [List.mem_filter, List.mem_range, Bool.and_eq_true, Bool.not_eq_true', beq_eq_false_iff_ne] at hq
    refine ⟨(hmem q).2 ⟨hq.2.1, hq.1⟩, ?_⟩
    have : ¬ ((q : Int) = (a : Int)) := by omega
    show (decide ((q : Int) ∈ [(a : Int)]) == false) = true
    simp [this]
  · rintro ⟨hz, hna⟩
    obtain ⟨q, rfl⟩ := hin z hz
    have h1 := (hmem q).1 hz
    have hne : q ≠ a := fun e => by subst e; simp at hna
    unfold nrL
    exact List.mem_map.2 ⟨q, List.mem_filter.2 ⟨List.mem_range.2 h1.2, by rw [Bool.and_eq_true, Bool.not_eq_true', beq_eq_false_iff_ne]; exact ⟨h1.1, hne⟩⟩, rfl⟩
end Go.Proofs.Ytcadljpdokhpmaa

/-
  Proved here: the document's Bad and Blanket of layer 16.
  Proved here: package sep's Trail; the steps that may follow on one have each a point of its own.
-/
import Derived.Test.YtcoiapgfaibkgaaGreatSpDAll
import Derived.Test.YtcoiapgfaibkgaaGreatDagVAll
import Derived.Test.YtcoiapgfaibkgaaGreatSpY
namespace Go.Proofs.YtcoiapgfaibkgaaGreat
set_option linter.unusedVariables false
open Go.RowKit
/-- What is wrong with parents, and with the points that are named. -/
def bdE (P : List (List Int)) (n : Nat) (zs : List Int) : Int := if ckE P ≠ 0 then ckE P else if noPts (n : Int) zs = true then 3 else 0
theorem blE_bd (P : List (List Int)) (n : Nat) (a : Int) : blE P n a = bdE P n [a] := by
  unfold blE bdE
  have : noPts (n : Int) [a] = noPt (n : Int) a := by simp [noPts]
  rw [this]
theorem noPts_step {m : Int} {zs : List Int} {k : Nat} {x : Int} (h : zs[k]? = some x) : noPts m (zs.take (k + 1)) = (noPts m (zs.take k) || noPt m x) := by
  unfold noPts
  rw [List.take_add_one, h]
  simp
theorem noPts_hit {m : Int} {zs : List Int} {k : Nat} {x : Int} (h : zs[k]? = some x) (hx : noPt m x = true) : noPts m zs = true := List.any_eq_true.2 ⟨x, List.mem_of_getElem? h, hx⟩
set_option maxRecDepth 1000000 in
set_option maxHeartbeats 3200000 in
theorem refBad (pv : Value) (pvs : List Value) (P : List (List Int)) (w : World) (h : RRD w pv pvs P) (n : Nat) (hn : P.length = n) (hb : n ≤ 100000) (v : Value) (zs : List Int) (hv : RG (Value.int .i64) w v zs) :
    Calls Tryz.prog 30 #[pv, v] w fun e w' => e = .returned (.int .i64 (bdE P n zs)) ∧ Below w.heap.size w w' := by
  have CC : Hid _ := refCheckD pv pvs P w h n hn hb
  obtain ⟨po, pn, pc, rfl⟩ : ∃ o n c, pv = .slice o n c := by obtain ⟨ao, cap, e⟩ := h.out.sl; exact ⟨_, _, _, e⟩
  obtain rfl : pn = n := by rw [← hn, ← h.len, h.out.len]
  obtain ⟨vo, vn, vc, rfl⟩ : ∃ o n c, v = .slice o n c := by obtain ⟨ao, cap, e⟩ := hv.sl; exact ⟨_, _, _, e⟩
  have hvm : vn ≤ 9223372036854775807 := by have := hv.room.2.1; have := hv.room.1; unfold maxLen at *; omega
  have HV : Hid (RG (Value.int .i64) w (.slice vo vn vc) zs) := hv
  have HVL : Hid (zs.length = vn) := hv.len
  clear h hn hv
  go_enter Tryz.func30, Tryz.ntmps30
  go_wp2_with fail
  refine Calls.mono CC.out ?_
  rintro e y ⟨rfl, hy⟩
  have HB : Hid (Below w.heap.size w y) := hy
  clear CC hy
  by_cases h0 : ckE P = 0
  · have HE : Hid (bdE P pn zs = if noPts (pn : Int) zs = true then 3 else 0) := by show _ = _; unfold bdE; rw [if_neg (by rw [h0]; decide)]
    rw [h0]
    clear h0
    go_wp2
    go_loopg [6] vn (fun g1 v6 wr => ∃ i : Nat, v6 = .int .i64 i ∧ i ≤ vn ∧ vn - i ≤ g1 ∧ Hid (noPts (pn : Int) (zs.take i) = false) ∧ Hid (Below w.heap.size w wr))
    case atStart => exact ⟨0, rfl, Nat.zero_le _, by omega, rfl, HB⟩
    case round =>
      clear HB
      obtain ⟨i, rfl, hin, hg1, HA, HB⟩ := hrel
      by_cases hlt : i < vn
      · have hltz : (i : Int) < (vn : Int) := by omega
        obtain ⟨x, gx, ox, hx1, rfl, hx0⟩ := HV.out.at hlt
        have hx2 : wr.cell? ⟨gx, ox + i, none⟩ = some (.int .i64 x) := keepR HB.out hx0
        have HS : Hid (noPts (pn : Int) (zs.take (i + 1)) = noPt (pn : Int) x) := by show _ = _; rw [noPts_step hx1, HA.out, Bool.false_or]
        have HH : Hid (noPt (pn : Int) x = true → bdE P pn zs = 3) := fun hx => by rw [HE.out, if_pos (noPts_hit hx1 hx)]
        clear hx0 hx1 HA
        by_cases hx : x < 0
        · have hE := HH.out (by simp [noPt, hx])
          have HE2 : Hid (bdE P pn zs = 3) := hE
          clear hE
          go_wp2
          go_ret
          exact ⟨by rw [HE2.out]; rfl, HB.out⟩
        · by_cases hx3 : (pn : Int) ≤ x
          · have hE := HH.out (by simp [noPt, hx3])
            have HE2 : Hid (bdE P pn zs = 3) := hE
            clear hE
            go_wp2
            go_ret
            exact ⟨by rw [HE2.out]; rfl, HB.out⟩
          · have HN : Hid (noPts (pn : Int) (zs.take (i + 1)) = false) := by show _ = _; rw [HS.out]; simp [noPt, hx]; omega
            clear HS HH
            go_wp2
            go_roundg (vn - (i + 1))
            case measure => omega
            case rel => exact ⟨i + 1, by go_num, by omega, Nat.le_refl _, HN, HB⟩
      · have hltz : ¬ (i : Int) < (vn : Int) := by omega
        have HE2 : Hid (bdE P pn zs = 0) := by
          show _ = _
          have h := HA.out
          rw [List.take_of_length_le (by rw [HVL.out]; omega)] at h
          rw [HE.out, h]; rfl
        clear HA
        go_wp2
        go_ret
        exact ⟨by rw [HE2.out]; rfl, HB.out⟩
  · have HE : Hid (bdE P pn zs = ckE P) := by show _ = _; unfold bdE; rw [if_pos h0]
    obtain ⟨c, hc⟩ : ∃ c, c = ckE P := ⟨_, rfl⟩
    rw [← hc] at h0 ⊢
    have HC : Hid (c = ckE P) := hc
    have hcz : (c != (0 : Int)) = true := by simpa using h0
    clear hc h0
    go_wp2
    go_ret
    exact ⟨by rw [HE.out, ← HC.out]; rfl, HB.out⟩
/-- Is a point near another one: by the document's words, points that both are parents of being gone through up to c. -/
def nrB (P : List (List Int)) (a p c : Nat) : Bool := (decide ((p : Int) ∈ P.getD a []) || decide ((a : Int) ∈ P.getD p [])) || (List.range c).any fun c => decide ((a : Int) ∈ P.getD c []) && decide ((p : Int) ∈ P.getD c [])
theorem nrB_zero (P : List (List Int)) (a p : Nat) : nrB P a p 0 = (decide ((p : Int) ∈ P.getD a []) || decide ((a : Int) ∈ P.getD p [])) := by simp [nrB]
theorem nrB_succ (P : List (List Int)) (a p c : Nat) : nrB P a p (c + 1) = (nrB P a p c || (decide ((a : Int) ∈ P.getD c []) && decide ((p : Int) ∈ P.getD c []))) := by
  unfold nrB
  rw [List.range_succ, List.any_append, ← Bool.or_assoc]
  congr 1
  rw [List.any_cons, List.any_nil, Bool.or_false]
def nrL (P : List (List Int)) (a n p : Nat) : List Int := ((List.range p).filter fun q => nrB P a q n && !(q == a)).map Int.ofNat
theorem nrL_succ (P : List (List Int)) (a n p : Nat) : nrL P a n (p + 1) = nrL P a n p ++ if (nrB P a p n && !(p == a)) = true then [(p : Int)] else [] := by
  unfold nrL
  rw [List.range_succ, List.filter_append, List.map_append]
  congr 1
  cases h : (nrB P a p n && !(p == a)) with
  | true => rw [List.filter_cons, if_pos h]; rfl
  | false => rw [List.filter_cons, if_neg (by rw [h]; decide)]; rfl
theorem nrL_len (P : List (List Int)) (a n p : Nat) : (nrL P a n p).length ≤ p := by
  unfold nrL
  rw [List.length_map]
  exact Nat.le_trans (List.length_filter_le _ _) (by simp)
theorem rise_rangeF (f : Nat → Bool) (p : Nat) : Rise (((List.range p).filter f).map Int.ofNat) := by
  induction p with
  | zero => exact rise_nil
  | succ p ih =>
    rw [List.range_succ, List.filter_append, List.map_append]
    refine List.pairwise_append.2 ⟨ih, ?_, fun x hx y hy => ?_⟩
    · cases h : f p <;> simp [h]
    · obtain ⟨q, hq, rfl⟩ := List.mem_map.1 hx
      obtain ⟨r, hr, rfl⟩ := List.mem_map.1 hy
      have h1 := List.mem_range.1 (List.mem_filter.1 hq).1
      have h2 : r = p := by simpa using (List.mem_filter.1 hr).1
      show (q : Int) < (r : Int)
      omega
/-- The two ways tell the same points. -/
theorem nrL_near {P : List (List Int)} {n a : Nat} (hn : P.length = n) (ha : a < n) (hout : ∀ (i : Nat) (x : Int), x ∈ P.getD i [] → ∃ p : Nat, x = (p : Int) ∧ p < n) : nrL P a n n = (ofR (nearK P n a n)).filter fun z => decide (z ∈ [(a : Int)]) == false := by
  refine rise_ext (rise_rangeF _ n) (List.Pairwise.sublist List.filter_sublist (rise_ofR _)) fun z => ?_
  have hmem : ∀ q : Nat, (q : Int) ∈ nearK P n a n ↔ (nrB P a q n = true ∧ q < n) := fun q => by
    unfold nearK nrB
    rw [List.take_of_length_le (chF_len P a n)]
    simp only [List.mem_append, List.mem_flatten, List.mem_map, Bool.or_eq_true, List.any_eq_true, Bool.and_eq_true, decide_eq_true_eq, List.mem_range]
    constructor
    · rintro ((h | h) | ⟨l, ⟨c, hc, rfl⟩, h⟩)
      · obtain ⟨p, e, hp⟩ := hout a _ h
        exact ⟨Or.inl (Or.inl h), by omega⟩
      · obtain ⟨i, e, hi, h2⟩ := chF_memS h
        have e2 : i = q := by omega
        subst e2
        exact ⟨Or.inl (Or.inr h2), hi⟩
      · obtain ⟨i, rfl, hi, h2⟩ := chF_memS hc
        obtain ⟨p, e, hp⟩ := hout _ _ h
        exact ⟨Or.inr ⟨i, hi, h2, h⟩, by omega⟩
    · rintro ⟨(h | h) | ⟨i, hi, h2, h⟩, hq⟩
      · exact Or.inl (Or.inl h)
      · exact Or.inl (Or.inr (chF_mem.2 ⟨q, hq, rfl, h⟩))
      · exact Or.inr ⟨_, ⟨(i : Int), chF_mem.2 ⟨i, hi, rfl, h2⟩, rfl⟩, h⟩
  have hin : ∀ z, z ∈ nearK P n a n → ∃ q : Nat, z = (q : Int) := fun z hz => by
    unfold nearK at hz
    simp only [List.mem_append, List.mem_flatten, List.mem_map] at hz
    rcases hz with (h | h) | ⟨l, ⟨c, hc, rfl⟩, h⟩
    · obtain ⟨p, e, _⟩ := hout a _ h; exact ⟨p, e⟩
    · obtain ⟨i, e, _⟩ := chF_memS h; exact ⟨i, e⟩
    · obtain ⟨p, e, _⟩ := hout _ _ h; exact ⟨p, e⟩
  rw [List.mem_filter, mem_ofR]
  constructor
  · intro hz
    unfold nrL at hz
    obtain ⟨q, hq, rfl⟩ := List.mem_map.1 hz
    rw [List.mem_filter, List.mem_range, Bool.and_eq_true, Bool.not_eq_true', beq_eq_false_iff_ne] at hq
    refine ⟨(hmem q).2 ⟨hq.2.1, hq.1⟩, ?_⟩
    have : ¬ ((q : Int) = (a : Int)) := by omega
    show (decide ((q : Int) ∈ [(a : Int)]) == false) = true
    simp [this]
  · rintro ⟨hz, hna⟩
    obtain ⟨q, rfl⟩ := hin z hz
    have h1 := (hmem q).1 hz
    have hne : q ≠ a := fun e => by subst e; simp at hna
    unfold nrL
    exact List.mem_map.2 ⟨q, List.mem_filter.2 ⟨List.mem_range.2 h1.2, by rw [Bool.and_eq_true, Bool.not_eq_true', beq_eq_false_iff_ne]; exact ⟨h1.1, hne⟩⟩, rfl⟩
end Go.Proofs.YtcoiapgfaibkgaaGreat

namespace Go.Proofs.YtcoiapgfaibkgaaGreat
set_option linter.unusedVariables false
open Go.RowKit Go.Shelf Go.Sort Go.Lib
/-- No point hangs on one that hangs on it. -/
theorem no_two {P : List (List Int)} (h : ckE P = 0) {i j : Nat} (hi : i < P.length) (hj : j < P.length) (h1 : (i : Int) ∈ P.getD j []) (h2 : (j : Int) ∈ P.getD i []) : False := by
  have hl : (outL P).length = P.length := by
    have hc := ck_zero h
    unfold ckE at h
    rw [if_pos hc] at h
    by_cases h3 : (outL P).length < P.length
    · rw [if_pos h3] at h; simp at h
    · have hpn : Pts P.length ([] : List Int) := ⟨List.nodup_nil, by simp⟩
      have hP : Pts P.length (outL P) := (out_all (P := P) P.length [] hpn).2.1
      have h4 := hP.len
      omega
  obtain ⟨k, hk, hp⟩ := out_place hl hi
  obtain ⟨m, hm, hq⟩ := out_place hl hj
  have a1 := hp _ h2
  have a2 := hq _ h1
  rw [hk] at a2
  rw [hm] at a1
  omega
theorem raw_apart {P : List (List Int)} {n : Nat} (h : ckE P = 0) (hn : P.length = n) (G A : List Int) (s : Stp) : (rawS P n G A s).Pairwise (fun a b => a.1 ≠ b.1) := by
  have hz := cl_zero (ck_zero h)
  have hnd := twices_no hz.2 s.1.toNat
  have hch : (chF P s.1.toNat n).Nodup := (rise_rangeF _ n).imp (fun h e => by omega)
  have steps : ∀ (L : List Int) (d : Bool), L.Nodup → (stepsTo L d).Pairwise (fun a b => a.1 ≠ b.1) := fun L d hL => List.pairwise_map.2 hL
  unfold rawS
  refine List.pairwise_append.2 ⟨?_, ?_, fun a ha b hb e => ?_⟩
  · split
    · exact List.Pairwise.nil
    · exact steps _ _ hch
  · split
    · exact steps _ _ hnd
    · exact List.Pairwise.nil
  · split at ha
    · simp at ha
    · split at hb
      · obtain ⟨x, hx, rfl⟩ := List.mem_map.1 ha
        obtain ⟨y, hy, rfl⟩ := List.mem_map.1 hb
        have e2 : x = y := e
        subst e2
        obtain ⟨i, hi, rfl, h1⟩ := chF_mem.1 hx
        obtain ⟨q, hq, hqn⟩ := outs_no hz.1 _ _ hy
        have hs : s.1.toNat < P.length := by
          by_cases hl : s.1.toNat < P.length
          · exact hl
          · rw [List.getD_eq_getElem?_getD, List.getElem?_eq_none (by omega)] at hy
            simp at hy
        exact no_two h (by omega) hs hy h1
      · simp at hb
theorem hdis_any {P : List (List Int)} {n : Nat} {G : List Int} (hn : P.length = n) (h : nsE P n G = 0) (A : List Int) (s : Stp) : (rawS P n G A s).Pairwise (fun a b => a.1 ≠ b.1) := by
  refine raw_apart ?_ hn G A s
  unfold nsE at h
  by_cases h1 : ckE P = 0
  · exact h1
  · rw [if_pos h1] at h; exact h
theorem ends_mem {L : List (Stp × Stp)} {G : List Int} {x : Int} (h : x ∈ endsL L G) : ∃ s ∈ L.map (·.1), s.1 = x := by
  unfold endsL minusR at h
  have h1 := (List.mem_filter.1 h).1
  rw [mem_ofR] at h1
  obtain ⟨e, he, rfl⟩ := List.mem_map.1 h1
  exact ⟨e.1, List.mem_map.2 ⟨e, he, rfl⟩, rfl⟩
def trR (L : List (Stp × Stp)) (b : Int) (G : List Int) : List Int := if b ∈ endsL L G then trlP L b else []
set_option maxRecDepth 1000000 in
set_option maxHeartbeats 6400000 in
theorem trailP (pv qv : Value) (pvs : List Value) (P : List (List Int)) (a b : Int) (G : List Int) (w : World) (h : RRD w pv pvs P) (n : Nat) (hn : P.length = n) (hb : n ≤ 50000) (hq : RG (Value.int .i64) w qv G) (hql : G.length ≤ 1048576) :
    Calls Tryz.prog 20 #[pv, .int .i64 a, .int .i64 b, qv] w fun e w' => ∃ v, e = .returned (.tuple #[v, .int .i64 (apE P n [a] [b] G)]) ∧ (apE P n [a] [b] G ≠ 0 → v = .slice none 0 0) ∧ (apE P n [a] [b] G = 0 → ∃ A, AbvP P G A ∧ OG (Value.int .i64) w.heap.size 3 w' v (trR (wkL P n [a] G A) b G)) ∧ Below w.heap.size w w' := by
  obtain ⟨po, pn, pc, rfl⟩ : ∃ o n c, pv = .slice o n c := by obtain ⟨ao, cap, e⟩ := h.out.sl; exact ⟨_, _, _, e⟩
  obtain rfl : pn = n := by rw [← hn, ← h.len, h.out.len]
  obtain ⟨qo, qn, qc, rfl⟩ : ∃ o n c, qv = .slice o n c := by obtain ⟨ao, cap, e⟩ := hq.sl; exact ⟨_, _, _, e⟩
  obtain ⟨wz, hwz⟩ : ∃ W, W = w.alloc (.cells #[.int .i64 a] 3) := ⟨_, rfl⟩
  obtain ⟨ga, hga⟩ : ∃ g, g = w.heap.size := ⟨_, rfl⟩
  have bz : Below w.heap.size w wz := by rw [hwz]; exact belowB _ _
  have hla : OG (Value.int .i64) w.heap.size 3 wz (.slice (some ⟨ga, 0, none⟩) 1 1) [a] := by rw [hwz, hga]; exact OG.lit 3 w [a] (by unfold maxLen; simp)
  have CW : Hid _ := walkFromS (.slice po pn pc) (.slice (some ⟨ga, 0, none⟩) 1 1) (.slice qo qn qc) pvs P [a] G wz (h.below (Nat.le_refl _) bz) pn hn (by omega) hla.rg (by simp) (hq.below (Nat.le_refl _) bz) hql (fun h0 A s => hdis_any hn h0 A s)
  have HB0 : Hid (Below w.heap.size w wz) := bz
  have HN : Hid (P.length = pn) := hn
  have HWZ : Hid (wz = w.alloc (.cells #[.int .i64 a] 3)) := hwz
  have HGA : Hid (ga = w.heap.size) := hga
  clear h hq hn bz hla hwz hga
  go_enter Tryz.func20, Tryz.ntmps20
  go_wp2_with fail
  rw [← HWZ.out, ← HGA.out]
  refine Calls.mono CW.out ?_
  rintro e y ⟨wv, rfl, hwk, hy⟩
  have HY : Hid (Below w.heap.size w y) := bstepB HB0.out hy
  clear CW hy HWZ HGA HB0
  by_cases h0 : wkE P pn [a] G = 0
  · obtain ⟨rb, gm, gv, ov, A, rfl, hw, hs, hab⟩ := hwk h0
    have hky := wkL_key A HN.out h0
    obtain ⟨wb, hwb⟩ : ∃ W, W = y.alloc (.cells #[.int .i64 b] 3) := ⟨_, rfl⟩
    obtain ⟨gb, hgb⟩ : ∃ g, g = y.heap.size := ⟨_, rfl⟩
    have bb : Below y.heap.size y wb := by rw [hwb]; exact belowB _ _
    have hlb : OG (Value.int .i64) y.heap.size 3 wb (.slice (some ⟨gb, 0, none⟩) 1 1) [b] := by rw [hwb, hgb]; exact OG.lit 3 y [b] (by unfold maxLen; simp)
    have CA : Hid _ := arePointsS po pn pc (.slice (some ⟨gb, 0, none⟩) 1 1) [b] wb hlb.rg
    obtain ⟨B1, hB1⟩ : ∃ B, B = wz.heap.size := ⟨_, rfl⟩
    rw [← hB1] at hw
    have hyB : B1 ≤ y.heap.size := by have := hw.hrb; have := hw.box.lt; omega
    have HEN : Hid (∀ W, Below y.heap.size y W → Calls Tryz.prog 33 #[.pointer (some ⟨rb, 0, none⟩)] W fun e w' => SE W (endsL (wkL P pn [a] G A) G) 100000 e w') := fun W hW => endsS _ _ W rb gm gv ov _ G (hw.below hyB hW) (hs.below hW) (Nat.le_trans hky.len (by omega))
    have HTR : Hid (∀ W, Below y.heap.size y W → b ∈ endsL (wkL P pn [a] G A) G → Calls Tryz.prog 43 #[.pointer (some ⟨rb, 0, none⟩), .int .i64 b] W fun e w' => ∃ u, e = .returned u ∧ OG (Value.int .i64) W.heap.size 3 w' u (trlP (wkL P pn [a] G A) b) ∧ Below W.heap.size W w') := fun W hW hm => trailToS _ _ W rb gm gv ov pn _ (hw.below hyB hW) hky (wkL_wel _ _ _ _ _) (Nat.le_trans hky.len (by omega)) b (ends_mem hm)
    have HAB : Hid (AbvP P G A) := hab
    have HE : Hid (wkE P pn [a] G = 0) := h0
    have HBB : Hid (Below y.heap.size y wb) := bb
    have HWB : Hid (wb = y.alloc (.cells #[.int .i64 b] 3)) := hwb
    have HGB : Hid (gb = y.heap.size) := hgb
    rw [h0]
    clear hwk hw hs hab hky h0 hwb hgb bb hlb hB1 hyB
    go_wp2_with fail
    rw [← HWB.out, ← HGB.out]
    refine Calls.mono CA.out ?_
    rintro e y1 ⟨rfl, by1⟩
    have HY1 : Hid (Below y.heap.size y y1) := bstepB HBB.out by1
    clear CA by1 HWB HGB HBB
    cases hnb : noPts (pn : Int) [b] with
    | true =>
      have HAE : Hid (apE P pn [a] [b] G = 3) := by show _ = _; unfold apE; rw [if_neg (by rw [HE.out]; decide), if_pos hnb]
      clear hnb
      go_wp2
      go_ret2
      exact ⟨_, by rw [HAE.out]; rfl, fun _ => rfl, fun h => by rw [HAE.out] at h; simp at h, bstepB HY.out HY1.out⟩
    | false =>
      have HAE : Hid (apE P pn [a] [b] G = 0) := by show _ = _; unfold apE; rw [if_neg (by rw [HE.out]; decide), if_neg (by rw [hnb]; decide)]
      have CE : Hid _ := HEN.out y1 HY1.out
      clear hnb
      go_wp2_with fail
      refine Calls.mono CE.out ?_
      rintro e y2 ⟨mo, mn, mc, rfl, hm, by2⟩
      have HY2 : Hid (Below y.heap.size y y2) := bstepB HY1.out by2
      obtain ⟨r, hr⟩ : ∃ r, decide (b ∈ endsL (wkL P pn [a] G A) G) = r := ⟨_, rfl⟩
      have CH : Hid _ := siHas hm b (Nat.le_refl _) r hr
      have HR : Hid (decide (b ∈ endsL (wkL P pn [a] G A) G) = r) := hr
      clear CE hm by2 hr
      go_wp2_with fail
      refine Calls.mono CH.out ?_
      rintro e y3 ⟨rfl, by3⟩
      have HY3 : Hid (Below y.heap.size y y3) := bstepB HY2.out by3
      clear CH by3
      cases r with
      | false =>
        have HT : Hid (trR (wkL P pn [a] G A) b G = []) := by show _ = _; unfold trR; rw [if_neg (of_decide_eq_false HR.out)]
        go_wp2
        go_ret2
        exact ⟨_, by rw [HAE.out]; rfl, fun _ => rfl, fun _ => ⟨A, HAB.out, by rw [HT.out]; exact OG.nil _ _ _⟩, bstepB HY.out HY3.out⟩
      | true =>
        have hin : b ∈ endsL (wkL P pn [a] G A) G := of_decide_eq_true HR.out
        have HT : Hid (trR (wkL P pn [a] G A) b G = trlP (wkL P pn [a] G A) b) := by show _ = _; unfold trR; rw [if_pos hin]
        have CT : Hid _ := HTR.out y3 HY3.out hin
        clear hin
        go_wp2_with fail
        refine Calls.mono CT.out ?_
        rintro e y4 ⟨u, rfl, hu, by4⟩
        have HU : Hid (OG (Value.int .i64) w.heap.size 3 y4 u (trR (wkL P pn [a] G A) b G)) := by show OG _ _ _ _ _ _; rw [HT.out]; exact hu.mono (bstepB HY.out HY3.out).size
        have HY4 : Hid (Below w.heap.size w y4) := bstepB (bstepB HY.out HY3.out) by4
        clear CT hu by4
        go_wp2
        go_ret2
        exact ⟨_, by rw [HAE.out]; rfl, fun h => absurd HAE.out h, fun _ => ⟨A, HAB.out, HU.out⟩, HY4.out⟩
  · have HAE : Hid (apE P pn [a] [b] G = wkE P pn [a] G) := by show _ = _; unfold apE; rw [if_pos h0]
    obtain ⟨c, hc⟩ : ∃ c, c = wkE P pn [a] G := ⟨_, rfl⟩
    rw [← hc] at h0 ⊢
    have HC : Hid (c = wkE P pn [a] G) := hc
    have H0 : Hid (c ≠ 0) := h0
    have hcz : (c != (0 : Int)) = true := by simpa using h0
    clear hc hwk h0
    go_wp2
    go_ret2
    exact ⟨_, by rw [HAE.out, ← HC.out]; rfl, fun _ => rfl, fun h => absurd (by rw [HC.out, ← HAE.out]; exact h) H0.out, HY.out⟩
end Go.Proofs.YtcoiapgfaibkgaaGreat

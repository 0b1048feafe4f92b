/-
  Proved here: WholeParse of any text returns true, and writes nothing that was there.
-/
import Derived.Test.YtcbfhakolfcmgaaR2A
import Derived.Test.YtcbfhakolfcmgaaFam
import Derived.Test.YtcbfhakolfcmgaaPushOwn
namespace Go.Proofs.Ytcbfhakolfcmgaa
open Go.RowKit

theorem ICell.bex {gs : List Value} {w w' : World} {g : Nat} {neg : Bool} {m : Value} (h : ICell w g neg m) (hb : Bex gs w w') (hd : ∀ j, j < gs.length → (at_ gs j).ownBlock ≠ some g) : ICell w' g neg m := by
  unfold ICell
  rw [hb.block g (Array.getElem?_eq_some_iff.1 h).1 hd]
  exact h
theorem one_at {v : Value} {g : Nat} (h : v.ownBlock ≠ some g) : ∀ j, j < [v].length → (at_ [v] j).ownBlock ≠ some g := by
  intro j hj
  have h0 : j = 0 := by simp at hj; omega
  subst h0
  exact h
theorem one_or {v u : Value} (h : v.ownBlock = none ∨ v.ownBlock ≠ u.ownBlock) : ∀ j, j < [v].length → (at_ [v] j).ownBlock = none ∨ (at_ [v] j).ownBlock ≠ u.ownBlock := by
  intro j hj
  have h0 : j = 0 := by simp at hj; omega
  subst h0
  exact h
theorem one_get {v : Value} {j k : Nat} (hj : j < [v].length) (e : (at_ [v] j).ownBlock = some k) : v.ownBlock = some k := by
  have h0 : j = 0 := by simp at hj; omega
  subst h0
  exact e

set_option maxRecDepth 100000 in
set_option maxHeartbeats 6400000 in
theorem wholeParse_top (s : ByteArray) (w1 : World) (_hs : s.size ≤ maxLen) :
    Calls Try.prog 3 #[.string s] w1 fun e w' => e = .returned (.bool true) ∧ Below w1.heap.size w1 w' := by
  by_cases hbig : 1000 < s.size
  · have hbig' : (1000 : Int) < (s.size : Int) := by omega
    go_enter Try.func3, Try.ntmps3
    go_wp2_with fail
    go_ret
    exact ⟨rfl, Below.refl _ _⟩
  · have hbig' : ¬ (1000 : Int) < (s.size : Int) := by omega
    have hR := fun w => parse_ref2 s w (by omega)
    have hP := fun w => c_parse2 s w (by omega)
    obtain ⟨z, hz⟩ : ∃ z, pz s = z := ⟨_, rfl⟩
    obtain ⟨er, her⟩ : ∃ z, pe s = z := ⟨_, rfl⟩
    rw [hz, her] at hR hP
    clear hz her
    have hne : (er != er) = false := by simp
    obtain ⟨bb, hbb⟩ : ∃ b, b = decide (z < 0) := ⟨_, rfl⟩
    have HBB : Hid (bb = decide (z < 0)) := hbb
    clear hbb hbig
    go_enter Try.func3, Try.ntmps3
    go_wp2_with fail
    refine (hR _).mono ?_
    rintro e w2 ⟨v, rfl, ⟨m, rfl, ow⟩, b⟩
    obtain ⟨wo, wl, wc, rfl⟩ := ow.sl
    rw [← HBB.out]
    have hb := b
    clear b
    obtain ⟨W3, hW3⟩ : ∃ W, W = w2.alloc (.cells #[.bool bb, .slice wo wl wc] 25) := ⟨_, rfl⟩
    have q3 : ICell W3 w2.heap.size bb (.slice wo wl wc) := by rw [hW3]; exact icell_new _ rfl
    have b : Below w2.heap.size w2 W3 := by rw [hW3]; exact belowA _ _
    obtain ⟨v3, hv3⟩ : ∃ v, v = w2.heap.size := ⟨_, rfl⟩
    rw [← hv3] at q3
    have HW3 : Hid (W3 = w2.alloc (.cells #[.bool bb, .slice wo wl wc] 25)) := hW3
    have Hv3 : Hid (v3 = w2.heap.size) := hv3
    clear hW3 hv3
    replace ow := ow.below b
    replace hb := bstep hb b
    clear b
    go_wp2_with fail
    rw [← HW3.out, ← Hv3.out]
    clear HW3 Hv3
    have q3W := q3
    refine (hP _).mono ?_
    rintro e w4 ⟨v, rfl, ⟨m, rfl, oa⟩, b⟩
    obtain ⟨ao, ac, rfl, hao, hac1, hac2⟩ := oa.ao
    obtain ⟨al, hal⟩ : ∃ l, l = (lim z.natAbs).length := ⟨_, rfl⟩
    rw [← hal] at oa hao hac1 ⊢
    have HAL : Hid (al = (lim z.natAbs).length) := hal
    rw [← HBB.out]
    have hwa := apart_later ow oa (Nat.le_refl _)
    have HW3S : Hid (w1.heap.size ≤ W3.heap.size) := hb.size
    clear hal
    replace ow := ow.below b
    replace q3 := q3.below b
    replace hb := bstep hb b
    clear b
    obtain ⟨W5, hW5⟩ : ∃ W, W = w4.alloc (.cells #[.bool bb, .slice ao al ac] 25) := ⟨_, rfl⟩
    have q5 : ICell W5 w4.heap.size bb (.slice ao al ac) := by rw [hW5]; exact icell_new _ rfl
    have b : Below w4.heap.size w4 W5 := by rw [hW5]; exact belowA _ _
    obtain ⟨v5, hv5⟩ : ∃ v, v = w4.heap.size := ⟨_, rfl⟩
    rw [← hv5] at q5
    have HW5 : Hid (W5 = w4.alloc (.cells #[.bool bb, .slice ao al ac] 25)) := hW5
    have Hv5 : Hid (v5 = w4.heap.size) := hv5
    clear hW5 hv5
    have HV3 : Hid (∀ k, W3.heap.size ≤ k → v3 < k) := fun k hk => Nat.lt_of_lt_of_le (Array.getElem?_eq_some_iff.1 (show W3.heap[v3]? = _ from q3W)).1 hk
    clear q3W
    have HA5 : Hid (∀ k, (Value.slice ao al ac).ownBlock = some k → W3.heap.size ≤ k ∧ k < v5) := fun k hk => by rw [Hv5.out]; exact oa.block k hk
    replace ow := ow.below b
    replace q3 := q3.below b
    replace oa := oa.below b
    replace hb := bstep hb b
    clear b
    go_wp2_with fail
    rw [← HW5.out, ← Hv5.out]
    clear HW5
    refine (hP _).mono ?_
    rintro e w6 ⟨v, rfl, ⟨m, rfl, ob⟩, b⟩
    obtain ⟨bo, bl, bc, rfl⟩ := ob.sl
    rw [← HBB.out]
    have hab := apart_later oa ob (Nat.le_refl _)
    replace ow := ow.below b
    replace q3 := q3.below b
    replace oa := oa.below b
    replace q5 := q5.below b
    replace hb := bstep hb b
    clear b
    obtain ⟨W7, hW7⟩ : ∃ W, W = w6.alloc (.cells #[.bool bb, .slice bo bl bc] 25) := ⟨_, rfl⟩
    have q7 : ICell W7 w6.heap.size bb (.slice bo bl bc) := by rw [hW7]; exact icell_new _ rfl
    have b : Below w6.heap.size w6 W7 := by rw [hW7]; exact belowA _ _
    obtain ⟨v7, hv7⟩ : ∃ v, v = w6.heap.size := ⟨_, rfl⟩
    rw [← hv7] at q7
    have HW7 : Hid (W7 = w6.alloc (.cells #[.bool bb, .slice bo bl bc] 25)) := hW7
    have Hv7 : Hid (v7 = w6.heap.size) := hv7
    clear hW7 hv7
    have H57 : Hid (v5 < v7) := by show _ < _; rw [Hv7.out]; exact (Array.getElem?_eq_some_iff.1 (show w6.heap[v5]? = _ from q5)).1
    replace ow := ow.below b
    replace q3 := q3.below b
    replace oa := oa.below b
    replace q5 := q5.below b
    replace ob := ob.below b
    replace hb := bstep hb b
    clear b
    have rcq3 : (w6.alloc (.cells #[.bool bb, .slice bo bl bc] 25)).cell? ⟨v3, 0, none⟩ = some (.bool bb) := by rw [← HW7.out]; exact q3.cells.1
    have rdq3 : (w6.alloc (.cells #[.bool bb, .slice bo bl bc] 25)).cell? ⟨v3, 1, none⟩ = some (.slice wo wl wc) := by rw [← HW7.out]; exact q3.cells.2
    have rcq5 : (w6.alloc (.cells #[.bool bb, .slice bo bl bc] 25)).cell? ⟨v5, 0, none⟩ = some (.bool bb) := by rw [← HW7.out]; exact q5.cells.1
    have rdq5 : (w6.alloc (.cells #[.bool bb, .slice bo bl bc] 25)).cell? ⟨v5, 1, none⟩ = some (.slice ao al ac) := by rw [← HW7.out]; exact q5.cells.2
    have rcq7 : (w6.alloc (.cells #[.bool bb, .slice bo bl bc] 25)).cell? ⟨w6.heap.size, 0, none⟩ = some (.bool bb) := by rw [← HW7.out]; exact (by rw [← Hv7.out]; exact q7 : ICell W7 w6.heap.size bb (.slice bo bl bc)).cells.1
    have rdq7 : (w6.alloc (.cells #[.bool bb, .slice bo bl bc] 25)).cell? ⟨w6.heap.size, 1, none⟩ = some (.slice bo bl bc) := by rw [← HW7.out]; exact (by rw [← Hv7.out]; exact q7 : ICell W7 w6.heap.size bb (.slice bo bl bc)).cells.2
    go_wp2_with fail
    rw [← HW7.out, ← Hv7.out]
    clear HW7
    clear rcq3 rdq3 rcq5 rdq5 rcq7 rdq7
    refine (same02 _ _ z _ ⟨_, by rw [HBB.out], oa.num⟩ ⟨_, by rw [HBB.out], ow.num⟩).mono ?_
    rintro e w8 ⟨rfl, b⟩
    replace ow := ow.below b
    replace q3 := q3.below b
    replace oa := oa.below b
    replace q5 := q5.below b
    replace ob := ob.below b
    replace q7 := q7.below b
    replace hb := bstep hb b
    clear b
    obtain ⟨cq3, dq3⟩ := q3.cells
    obtain ⟨cq7, dq7⟩ := q7.cells
    go_wp2_with fail
    clear cq3 dq3 cq7 dq7
    refine (same02 _ _ z _ ⟨_, by rw [HBB.out], ob.num⟩ ⟨_, by rw [HBB.out], ow.num⟩).mono ?_
    rintro e w9 ⟨rfl, b⟩
    replace ow := ow.below b
    replace q3 := q3.below b
    replace oa := oa.below b
    replace q5 := q5.below b
    replace ob := ob.below b
    replace q7 := q7.below b
    replace hb := bstep hb b
    clear b
    go_wp2_with fail
    go_loopw [9] (fun iv wr => ∃ k : Nat, k ≤ al ∧ iv = .int .i64 k ∧ ∃ zs, zs.length = al ∧ Own W3.heap.size 30 wr (.slice ao al ac) zs ∧ Bex [.slice ao al ac] w9 wr) (fun iv _ => al - (intOf iv).toNat)
    case atStart => exact ⟨0, Nat.zero_le _, rfl, _, HAL.out.symm, oa, Bex.same (Below.refl _ _)⟩
    case round =>
      obtain ⟨k, hk, rfl, zs, hzl, hzo, hbx⟩ := hrel
      have hn5 : ∀ j, j < [Value.slice ao al ac].length → (at_ [.slice ao al ac] j).ownBlock ≠ some v5 := one_at (fun e => by have := HA5.out _ e; omega)
      have q5r := q5.bex hbx hn5
      obtain ⟨c5, d5⟩ := q5r.cells
      by_cases hkn : k < al
      · obtain ⟨ga, rfl⟩ := hao (by omega)
        obtain ⟨hx, hfz⟩ := hzo.cell (k := k) (by omega)
        have hs2 := hzo.set hzl k 77 (by decide)
        have hbx2 := hbx.setCell (p := ⟨ga, k, none⟩) (Or.inl ⟨0, by simp, rfl⟩) (U 77)
        have hkn2 : (k : Int) < (al : Int) := by omega
        have HS2 : Hid (Own W3.heap.size 30 (wr.setCell ⟨ga, k, none⟩ (U 77)) (.slice (some ⟨ga, 0, none⟩) al ac) (zs.set k 77)) := hs2
        have HX2 : Hid (Bex [.slice (some ⟨ga, 0, none⟩) al ac] w9 (wr.setCell ⟨ga, k, none⟩ (U 77))) := hbx2
        have HZL : Hid (zs.length = al) := hzl
        clear hs2 hbx2 hzo hbx q5r hn5 hzl q3 q5 q7 ow oa ob
        go_wp2
        go_roundw
        case rel => exact ⟨k + 1, by omega, by go_num, zs.set k 77, by rw [List.length_set]; exact HZL.out, HS2.out, HX2.out⟩
        case measure => simp [intOf]; omega
      · have hkn2 : ¬ (k : Int) < (al : Int) := by omega
        replace ow := ow.bex hbx (one_or (apart_symm hwa))
        replace ob := ob.bex hbx (one_or hab)
        have hn3 : ∀ j, j < [Value.slice ao al ac].length → (at_ [.slice ao al ac] j).ownBlock ≠ some v3 := one_at (fun e => by have h1 := HA5.out _ e; have h2 := HV3.out _ h1.1; omega)
        have hn7 : ∀ j, j < [Value.slice ao al ac].length → (at_ [.slice ao al ac] j).ownBlock ≠ some v7 := one_at (fun e => by have h1 := HA5.out _ e; have h2 := H57.out; omega)
        replace q3 := q3.bex hbx hn3
        replace q7 := q7.bex hbx hn7
        have hbb2 := hbx.below (B := w1.heap.size) hb.size (fun j k hj e => by have h1 := one_get hj e; have h2 := HA5.out _ h1; have h3 := HW3S.out; omega)
        replace hb := hb.trans hbb2
        clear hbb2 hn3 hn7 hn5 hbx hzo hzl oa q5 q5r hwa hab hao hac1 hac2
        go_wp2_with fail
        clear c5 d5
        refine (hP _).mono ?_
        rintro e w10 ⟨v, rfl, ⟨m, rfl, oc⟩, b⟩
        obtain ⟨co, cl, cc, rfl⟩ := oc.sl
        rw [← HBB.out]
        replace ow := ow.below b
        replace ob := ob.below b
        replace q3 := q3.below b
        replace q7 := q7.below b
        replace hb := bstep hb b
        clear b
        obtain ⟨W11, hW11⟩ : ∃ W, W = w10.alloc (.cells #[.bool bb, .slice co cl cc] 25) := ⟨_, rfl⟩
        have q11 : ICell W11 w10.heap.size bb (.slice co cl cc) := by rw [hW11]; exact icell_new _ rfl
        have b : Below w10.heap.size w10 W11 := by rw [hW11]; exact belowA _ _
        obtain ⟨v11, hv11⟩ : ∃ v, v = w10.heap.size := ⟨_, rfl⟩
        rw [← hv11] at q11
        have HW11 : Hid (W11 = w10.alloc (.cells #[.bool bb, .slice co cl cc] 25)) := hW11
        have Hv11 : Hid (v11 = w10.heap.size) := hv11
        clear hW11 hv11
        replace ow := ow.below b
        replace ob := ob.below b
        replace q3 := q3.below b
        replace q7 := q7.below b
        replace oc := oc.below b
        replace hb := bstep hb b
        clear b
        have rcq3 : (w10.alloc (.cells #[.bool bb, .slice co cl cc] 25)).cell? ⟨v3, 0, none⟩ = some (.bool bb) := by rw [← HW11.out]; exact q3.cells.1
        have rdq3 : (w10.alloc (.cells #[.bool bb, .slice co cl cc] 25)).cell? ⟨v3, 1, none⟩ = some (.slice wo wl wc) := by rw [← HW11.out]; exact q3.cells.2
        have rcq7 : (w10.alloc (.cells #[.bool bb, .slice co cl cc] 25)).cell? ⟨v7, 0, none⟩ = some (.bool bb) := by rw [← HW11.out]; exact q7.cells.1
        have rdq7 : (w10.alloc (.cells #[.bool bb, .slice co cl cc] 25)).cell? ⟨v7, 1, none⟩ = some (.slice bo bl bc) := by rw [← HW11.out]; exact q7.cells.2
        go_wp2_with fail
        rw [← HW11.out, ← Hv11.out]
        clear HW11 Hv11 rcq3 rdq3 rcq7 rdq7
        refine (same02 _ _ z _ ⟨_, by rw [HBB.out], ob.num⟩ ⟨_, by rw [HBB.out], ow.num⟩).mono ?_
        rintro e w12 ⟨rfl, b⟩
        replace ow := ow.below b
        replace ob := ob.below b
        replace q3 := q3.below b
        replace q7 := q7.below b
        replace oc := oc.below b
        replace q11 := q11.below b
        replace hb := bstep hb b
        clear b
        obtain ⟨cq3, dq3⟩ := q3.cells
        obtain ⟨cq11, dq11⟩ := q11.cells
        go_wp2_with fail
        clear cq3 dq3 cq11 dq11
        refine (same02 _ _ z _ ⟨_, by rw [HBB.out], oc.num⟩ ⟨_, by rw [HBB.out], ow.num⟩).mono ?_
        rintro e w13 ⟨rfl, b⟩
        have HE : Hid (Below w1.heap.size w1 w13) := bstep hb b
        clear hb b ow ob oc q3 q7 q11
        go_wp2_with fail
        go_ret
        exact ⟨rfl, HE.out⟩
end Go.Proofs.Ytcbfhakolfcmgaa

/-
  Proved here: what blend answers.
  Proved here: what fresh and Norm answer.
-/
import Derived.Test.YtcmclmhfjmmffaaGreatDoorMulMathAll
import Derived.Laws.CopyOwn
namespace Go.Proofs.YtcmclmhfjmmffaaGreatDoor
open Go.RowKit

set_option maxRecDepth 100000 in
set_option maxHeartbeats 1600000 in
theorem blend_any (a b : Value) (xs ys : List Nat) (uI vI : Int) (w : World) (ha : Num w a xs) (hb : Num w b ys) (hu0 : 0 ≤ uI) (hu1 : uI < 4294967296) (hv0 : 0 ≤ vI) (hv1 : vI < 4294967296)
    (hbx : xs.length ≤ 1099511627776) (hby : ys.length ≤ 1099511627776) (h1 : val ys * vI.toNat ≤ val xs * uI.toNat) (h2 : val xs * uI.toNat - val ys * vI.toNat < 4294967296 ^ (max xs.length ys.length)) :
    Calls Tryz.prog 128 #[a, .int .u64 uI, b, .int .u64 vI] w fun e w' => Made' w.heap.size w (lim (val xs * uI.toNat - val ys * vI.toNat)) e w' := by
  obtain ⟨u, rfl⟩ := Int.eq_ofNat_of_zero_le hu0
  obtain ⟨v, rfl⟩ := Int.eq_ofNat_of_zero_le hv0
  rw [Int.toNat_natCast, Int.toNat_natCast] at h1 h2 ⊢
  obtain ⟨ao, cap, rfl, hl1, hm1⟩ := ha.ao
  obtain ⟨bo, dap, rfl, hl2, hm2⟩ := hb.ao
  obtain ⟨i0, hi, hz0, hz1, hz2⟩ := info_parts Tryz.infoU
  obtain ⟨k, hk⟩ : ∃ k, k = xs.length := ⟨_, rfl⟩
  obtain ⟨m, hm⟩ : ∃ m, m = ys.length := ⟨_, rfl⟩
  have pre : ∃ n : Nat, n = max xs.length ys.length ∧ k ≤ n ∧ m ≤ n ∧ n ≤ 1099511627776 ∧ ((k < m ∧ n = m) ∨ (¬ k < m ∧ n = k)) := by
    by_cases h : k < m
    · exact ⟨m, by omega, by omega, by omega, by omega, Or.inl ⟨h, rfl⟩⟩
    · exact ⟨k, by omega, by omega, by omega, by omega, Or.inr ⟨h, rfl⟩⟩
  obtain ⟨n, hnm, hn1, hn2, hn3, hcase⟩ := pre
  rw [← hnm] at h2
  rw [← hk] at ha hl1 hbx ⊢
  rw [← hm] at hb hl2 hby ⊢
  have HKL : Hid (k = xs.length) := hk
  have HML : Hid (m = ys.length) := hm
  have H1 : Hid (val ys * v ≤ val xs * u) := h1
  have H2 : Hid (val xs * u - val ys * v < 4294967296 ^ n) := h2
  clear hk hm h1 h2 hnm hu0 hv0
  rcases hcase with ⟨hkm, hn⟩ | ⟨hkm, hn⟩
  all_goals
    have HNN : Hid (n = _) := hn
    clear hn
    go_enter Tryz.func128, Tryz.ntmps128
    go_wp2_with (at_make; refine wpList_make_full _ rfl _ _ 23 rfl w.heap.size 69 i0 (.int .u32 0) 1 Tryz.underlying23 hi hz0 hz1 _ _ _ _ n rfl rfl (by have := HNN.out; omega) (by have := HNN.out; omega) (by rw [hz2]; omega) (by unfold maxLen; omega) (Nat.le_refl _) ?_)
    intro w2 ho2 hg2
    have how := own_made ho2
    have hbel : Below w.heap.size w w2 := (Below.refl w.heap.size w).grown hg2 (Nat.le_refl _) (by intro k hk; simp at hk)
    clear ho2 hg2 HNN
    obtain ⟨g, hg⟩ : ∃ g, g = w.heap.size := ⟨_, rfl⟩
    have HB : Hid (Below w.heap.size w w2 ∧ Own w.heap.size 69 w2 (.slice (some ⟨g, 0, none⟩) n n) (List.replicate n 0)) := by rw [hg]; exact ⟨hbel, how⟩
    rw [← hg]
    clear hg hbel how
    go_wp2
    go_loopw [10, 11, 12, 23] (fun pv mv bv t wr => ∃ (i p m b : Nat) (zs : List Nat), i ≤ n ∧ t = .int .i64 i ∧ pv = .int .u64 p ∧ mv = .int .u64 m ∧ bv = .int .u64 b ∧ p < 4294967296 ∧ m < 4294967296 ∧ b ≤ 1 ∧ zs.length = n ∧ Own w.heap.size 69 wr (.slice (some ⟨g, 0, none⟩) n n) zs ∧ low xs i * u + 4294967296 ^ i * (m + b) = low ys i * v + low zs i + 4294967296 ^ i * p ∧ Below w.heap.size w wr) (fun _ _ _ t _ => n - (intOf t).toNat)
    case atStart => exact ⟨0, 0, 0, 0, List.replicate n 0, Nat.zero_le _, rfl, rfl, rfl, rfl, by omega, by omega, by omega, by simp, HB.out.2, by simp [low_zero], HB.out.1⟩
    case round =>
      obtain ⟨i, p, mm, bb, zs, hin, rfl, rfl, rfl, rfl, hp, hmm, hbb, hzl, how, hinv, hbel⟩ := hrel
      have HZ : Hid (zs.length = n) := hzl
      have HI : Hid (low xs i * u + 4294967296 ^ i * (mm + bb) = low ys i * v + low zs i + 4294967296 ^ i * p) := hinv
      clear hzl hinv HB
      have nu2 := ha.below (Nat.le_refl _) hbel
      have nv2 := hb.below (Nat.le_refl _) hbel
      by_cases hlt : i < n
      · have hlt' : (i : Int) < (n : Int) := by omega
        have hx0 := limb_lt ha.1 i
        have hy0 := limb_lt hb.1 i
        obtain ⟨x, hx⟩ : ∃ x, x = xs.getD i 0 := ⟨_, rfl⟩
        obtain ⟨y, hy⟩ : ∃ y, y = ys.getD i 0 := ⟨_, rfl⟩
        have HX : Hid (x = xs.getD i 0) := hx
        have HY : Hid (y = ys.getD i 0) := hy
        rw [← hx] at hx0
        rw [← hy] at hy0
        have tb := mul_bound hx0 (show u < 4294967296 by omega)
        have sb := mul_bound hy0 (show v < 4294967296 by omega)
        obtain ⟨t, ht⟩ : ∃ t, t = x * u := ⟨_, rfl⟩
        obtain ⟨s, hs⟩ : ∃ s, s = y * v := ⟨_, rfl⟩
        rw [← ht] at tb
        rw [← hs] at sb
        have et : (x : Int) * (u : Int) = (t : Int) := by rw [ht]; exact (Int.natCast_mul x u).symm
        have es : (y : Int) * (v : Int) = (s : Int) := by rw [hs]; exact (Int.natCast_mul y v).symm
        have HT : Hid (t = x * u) := ht
        have HS : Hid (s = y * v) := hs
        have ep := and_mask (p + t) (by omega)
        have em := and_mask (mm + s) (by omega)
        obtain ⟨PP, hPP⟩ : ∃ PP, PP = (p + t) % 4294967296 := ⟨_, rfl⟩
        obtain ⟨MM, hMM⟩ : ∃ MM, MM = (mm + s) % 4294967296 := ⟨_, rfl⟩
        rw [← hPP, Int.natCast_add] at ep
        rw [← hMM, Int.natCast_add] at em
        obtain ⟨D1, D, b', dl, e1, e2, hD, e3, e4, hb', hdl, heq⟩ := sub_wrap PP MM bb (by omega) (by omega) hbb
        have HPP : Hid (PP = (p + t) % 4294967296) := hPP
        have HMM : Hid (MM = (mm + s) % 4294967296) := hMM
        have HEQ : Hid (PP + 4294967296 * b' = MM + bb + dl) := heq
        obtain ⟨hcz, hfz⟩ := how.cell (k := i) (by rw [HZ.out]; exact hlt)
        obtain ⟨z, hz⟩ : ∃ z, z = zs.getD i 0 := ⟨_, rfl⟩
        rw [← hz] at hcz
        have hset := how.set HZ.out i dl hdl
        have hbel2 : Below w.heap.size w (wr.setCell ⟨g, i, none⟩ (U dl)) := hbel.setCell (by exact how.heap.1) _
        rw [show U dl = .int .u32 (dl : Int) from rfl] at hset hbel2
        clear hx hy hz how hbel ht hs hPP hMM heq
        go_wp2_with fail
        refine (limb_any _ _ _ _ nu2 (by omega)).mono ?_
        rintro e w3 ⟨rfl, rfl⟩
        rw [Int.toNat_natCast, ← HX.out]
        go_wp2_with fail
        refine (limb_any _ _ _ _ nv2 (by omega)).mono ?_
        rintro e w4 ⟨rfl, rfl⟩
        rw [Int.toNat_natCast, ← HY.out]
        clear nu2 nv2
        go_wp2
        go_roundw
        case rel => exact ⟨i + 1, (p + t) / 4294967296, (mm + s) / 4294967296, b', _, by omega, by go_num, by go_num, by go_num, by go_num, by omega, by omega, hb', by rw [List.length_set]; exact HZ.out, hset, by rw [HT.out, HS.out, HX.out, HY.out]; exact blend_step (by rw [HZ.out]; exact hlt) HI.out b' (by rw [← HX.out, ← HY.out, ← HT.out, ← HS.out, ← HPP.out, ← HMM.out]; exact HEQ.out), hbel2⟩
        case measure => simp [intOf]; omega
      · have hlt' : ¬ (i : Int) < (n : Int) := by omega
        have hin' : i = n := by omega
        have HV : Hid (val zs = val xs * u - val ys * v) := blend_done how.1 HZ.out (by rw [← HKL.out]; omega) (by rw [← HML.out]; omega) H1.out H2.out (by rw [← hin']; exact HI.out)
        clear hin' nu2 nv2
        go_wp2_with fail
        refine (trim_any _ _ _ how.num).mono ?_
        rintro e w3 ⟨⟨k3, hk3, hk4, rfl⟩, rfl⟩
        have how2 := how.cut hk3
        rw [hk4, HV.out] at how2
        clear how hk4
        go_wp2
        go_ret
        exact ⟨_, rfl, how2, hbel⟩
end Go.Proofs.YtcmclmhfjmmffaaGreatDoor

namespace Go.Proofs.YtcmclmhfjmmffaaGreatDoor
open Go.RowKit

theorem lim_len_of_lt {a b : Nat} (h : a ≤ b) : (lim a).length ≤ (lim b).length := lim_len_le (Nat.lt_of_le_of_lt h (lim_lt_of_len (Nat.le_refl _)))
theorem Tryz.sizeU : (Tryz.prog.info? 69).map (·.size) = some 1 := by kernel_rfl
theorem splice_all {L cs : List Value} (h : cs.length = L.length) : splice L 0 cs = cs := by
  simp only [splice, List.take_zero, List.nil_append, Nat.zero_add]
  rw [List.drop_of_length_le (by omega), List.append_nil]

set_option maxRecDepth 100000 in
set_option maxHeartbeats 800000 in
theorem fresh_any (v : Value) (xs : List Nat) (w : World) (h : Num w v xs) (hlen : xs.length ≤ 1099511627776) :
    Calls Tryz.prog 135 #[v] w fun e w' => Made' w.heap.size w xs e w' := by
  obtain ⟨hb, ao, cap, rfl, hc, hm, hnil, hcell⟩ := h.open_
  obtain ⟨n, hn⟩ : ∃ n, xs.length = n := ⟨_, rfl⟩
  rw [hn] at hc hlen h ⊢
  have HN : Hid (xs.length = n) := hn
  obtain ⟨i0, hi, hz0, hz1, hz2⟩ := info_parts Tryz.infoU
  have HC : Hid (∀ w2, Below w.heap.size w w2 → 0 < (xs.map U).length → ∃ ad, ao = some ad ∧ ∀ j u, (xs.map U)[j]? = some u → w2.cell? (ad.add j) = some u) := by
    intro w2 hb2 hp
    obtain ⟨b, off, rfl, _⟩ := hcell 0 (by simpa using hp)
    refine ⟨⟨b, off, none⟩, rfl, fun j u hj => ?_⟩
    rw [List.getElem?_map] at hj
    obtain ⟨y, hy, rfl⟩ := Option.map_eq_some_iff.1 hj
    obtain ⟨hjk, hy⟩ := List.getElem?_eq_some_iff.1 hy
    obtain ⟨b', off', he, hc'⟩ := hcell j (by omega)
    simp only [Option.some.injEq, Addr.mk.injEq] at he
    obtain ⟨rfl, rfl, _⟩ := he
    subst hy
    rw [Addr.add_lit, hb2.cell (p := ⟨b, off + j, none⟩) (block_lt_of_cell hc'), hc', List.getD_eq_getElem?_getD, List.getElem?_eq_getElem (by omega)]
    rfl
  have HL : Hid ((xs.map U).length = Nat.min n n) := by show _ = _; rw [List.length_map, HN.out]; simp
  have H1 : Hid (∀ u ∈ xs.map U, u.oneCell' = true) := by intro u hu; obtain ⟨y, _, rfl⟩ := List.mem_map.1 hu; rfl
  clear hcell hnil hn h
  go_enter Tryz.func135, Tryz.ntmps135
  go_wp2_with (at_make; refine wpList_make_full _ rfl _ _ 23 rfl w.heap.size 69 i0 (.int .u32 0) 1 Tryz.underlying23 hi hz0 hz1 _ _ _ _ n rfl rfl (by omega) (by omega) (by rw [hz2]; omega) (by unfold maxLen; omega) (Nat.le_refl _) ?_)
  intro w2 ho2 hg2
  have how := own_made ho2
  have hbel : Below w.heap.size w w2 := (Below.refl w.heap.size w).grown hg2 (Nat.le_refl _) (by intro k hk; simp at hk)
  obtain ⟨hq1, hq2, cur, hcur, hq3, hcs, hct⟩ := how.heap
  clear hq1 hq2 hq3 hct
  obtain ⟨L, hL⟩ : ∃ L : List Value, cur = L.toArray := ⟨cur.toList, by simp⟩
  subst hL
  have hLl : L.length = n := by simpa using hcs
  have HLL : Hid (L.length = n) := hLl
  have HCUR : Hid (w2.heap[w.heap.size]? = some (.cells L.toArray 69 (0, 0))) := hcur
  clear ho2 hg2 how hcur hcs hLl
  go_wp2_with (refine wpList_copy_splice rfl _ _ 23 23 rfl 69 Tryz.underlying23 Tryz.sizeU _ _ _ _ _ _ rfl rfl w.heap.size 0 L 69 HCUR.out (xs.map U) HL.out (fun hp => ⟨rfl, HC.out w2 hbel hp⟩) (by rw [HLL.out, List.length_map, HN.out]; omega) H1.out w.heap.size w hbel (Nat.le_refl _) ?_)
  intro w3 hh3 hb3
  have HO : Hid (Own w.heap.size 69 w3 (.slice (some ⟨w.heap.size, 0, none⟩) n n) xs) := by
    have h3 := hh3.out
    rw [splice_all (by rw [HLL.out, List.length_map, HN.out])] at h3
    refine ⟨hb, by rw [List.length_map]; omega, Or.inr ⟨w.heap.size, n, _, by rw [HN.out], Nat.le_refl _, h3, by rw [HN.out]; omega, by unfold maxLen; omega, by simp [HN.out], ?_⟩⟩
    rw [HN.out]
    exact List.take_of_length_le (by simp [HN.out])
  clear hh3 HCUR HC H1 HL hbel
  go_wp2
  go_ret
  exact ⟨_, rfl, HO.out, hb3⟩

theorem norm_any (v : Value) (xs : List Nat) (w : World) (h : Num w v xs) (hlen : xs.length ≤ 1099511627776) :
    Calls Tryz.prog 112 #[v] w fun e w' => Made' w.heap.size w (lim (val xs)) e w' := by
  go_enter Tryz.func112, Tryz.ntmps112
  go_wp2_with fail
  refine (trim_any _ _ _ h).mono ?_
  rintro e w1 ⟨⟨k, hk, hk2, rfl⟩, rfl⟩
  have nu := h.cut hk
  rw [hk2] at nu
  have hlx : (lim (val xs)).length ≤ 1099511627776 := by rw [← hk2, List.length_take]; omega
  clear h hk2
  go_wp2_with fail
  refine (fresh_any _ _ _ nu hlx).mono ?_
  rintro e w2 ⟨v2, rfl, ho, hb⟩
  clear nu hlx
  go_wp2
  go_ret
  exact ⟨_, rfl, ho, hb⟩
end Go.Proofs.YtcmclmhfjmmffaaGreatDoor

/-
  Proved here: what the plain way's Norm answers.
  Proved here: what blend answers.
  Proved here: what fresh and Norm answer.
  Proved here: what Sub, fresh and Norm answer.
-/
import Derived.Test.YtaafijifiiiblaaGreatSmallAll
import Derived.Laws.AppendOwnNone
import Derived.Test.YtaafijifiiiblaaGreatMulMathAll
import Derived.Laws.CopyOwn
namespace Go.Proofs.YtaafijifiiiblaaGreat
open Go.RowKit

/-- What a maker of a number leaves. -/
def Made (B e : Nat) (w : World) (xs : List Nat) (en : Ending) (w' : World) : Prop := ∃ v, en = .returned v ∧ Own B e w' v xs ∧ Below B w w'

theorem own_copied {B e : Nat} {w' : World} {v : Value} {xs ys : List Nat} {n : Nat} (hy : xs.take n = ys) (hn : n ≤ xs.length) (hb : limbs xs) (h : w'.ownsRow B e 1 v n ((xs.map U).take n)) : Own B e w' v ys := by
  have hl : ys.length = n := by rw [← hy, List.length_take, Nat.min_eq_left hn]
  refine ⟨by rw [← hy]; exact limbs_take hb n, ?_⟩
  rw [hl, ← hy, List.map_take]
  exact h

set_option maxRecDepth 100000 in
set_option maxHeartbeats 800000 in
theorem norm_ref (v : Value) (xs : List Nat) (w : World) (h : Num w v xs) (hlen : xs.length ≤ 1099511627776) :
    Calls Tryz.prog 100 #[v] w fun e w' => Made w.heap.size 100 w (lim (val xs)) e w' := by
  obtain ⟨hb, ao, cap, rfl, hc, hm, hnil, hcell⟩ := h.open_
  clear h
  obtain ⟨n, hn⟩ : ∃ n, xs.length = n := ⟨_, rfl⟩
  rw [hn] at hc hlen ⊢
  have HN : Hid (xs.length = n) := hn
  clear hn
  obtain ⟨i0, hi, hz0, hz1, hz2⟩ := info_parts Tryz.infoU
  go_enter Tryz.func100, Tryz.ntmps100
  go_wp2
  go_loop [3] (fun t => ∃ k : Nat, k ≤ n ∧ t = .int .i64 k ∧ (∀ j, k ≤ j → j < n → xs.getD j 0 = 0)) (fun t => (intOf t).toNat)
  case atStart => exact ⟨n, Nat.le_refl _, rfl, fun j h1 h2 => by omega⟩
  case round =>
    obtain ⟨k, hk, rfl, hz⟩ := hrel
    have HZ : Hid (∀ j, k ≤ j → j < n → xs.getD j 0 = 0) := hz
    clear hz
    by_cases hk0 : 0 < k
    · obtain ⟨b, off, rfl, hc0⟩ := hcell (k - 1) (by rw [HN.out]; omega)
      obtain ⟨x, hx⟩ : ∃ x, x = xs.getD (k - 1) 0 := ⟨_, rfl⟩
      rw [← hx] at hc0
      have HX : Hid (x = xs.getD (k - 1) 0) := hx
      clear hx hnil
      by_cases hx0 : x = 0
      · have ht : ((x : Int) == 0) = true := by simp [hx0]
        have HX0 : Hid (x = 0) := hx0
        clear hx0 hcell
        go_wp2
        go_round
        case rel =>
          refine ⟨k - 1, by omega, by congr 1; omega, fun j h1 h2 => ?_⟩
          by_cases hj : j = k - 1
          · rw [hj, ← HX.out, HX0.out]
          · exact HZ.out j (by omega) h2
        case measure => simp [intOf]; omega
      · have ht : ((x : Int) == 0) = false := by simp [hx0]
        have HX0 : Hid (x ≠ 0) := hx0
        clear hx0
        have HF : Hid (xs.take k = lim (val xs)) := take_trim hb (by rw [HN.out]; omega) (by rw [HN.out]; exact HZ.out) (fun _ => by rw [← HX.out]; exact HX0.out)
        have HC : Hid (∀ j u, ((xs.take k).map U)[j]? = some u → w.cell? ((⟨b, off, none⟩ : Addr).add j) = some u) := by
          intro j u hj
          rw [List.getElem?_map] at hj
          obtain ⟨y, hy, rfl⟩ := Option.map_eq_some_iff.1 hj
          obtain ⟨hjk, hy⟩ := List.getElem?_eq_some_iff.1 hy
          simp only [List.length_take] at hjk
          obtain ⟨b', off', he, hc'⟩ := hcell j (by omega)
          simp only [Option.some.injEq, Addr.mk.injEq] at he
          obtain ⟨rfl, rfl, _⟩ := he
          rw [List.getElem_take] at hy
          subst hy
          rw [Addr.add_lit]
          rw [hc', List.getD_eq_getElem?_getD, List.getElem?_eq_getElem (by omega)]
          rfl
        have HL : Hid (((xs.take k).map U).length = k * 1) := by show _ = _; rw [List.length_map, List.length_take, HN.out]; omega
        have H1 : Hid (∀ u ∈ (xs.take k).map U, u.oneCell' = true) := by intro u hu; obtain ⟨y, _, rfl⟩ := List.mem_map.1 hu; rfl
        clear hcell
        go_wp2_with (at_builtin; refine wpList_append_own _ rfl _ _ 23 rfl w.heap.size 100 i0 (.int .u32 0) 1 4 Tryz.underlying23 hi hz0 hz1 hz2 rfl (by decide) _ _ _ rfl (World.ownsRow_nil _ _ _ _) ⟨b, off, none⟩ k cap ((xs.take k).map U) rfl HL.out HC.out H1.out (by unfold maxLen; omega) (by omega) (Nat.le_refl _) ?_)
        intro v' w1 hown hgr _
        have how := own_copied (by exact HF.out) (by rw [HN.out]; exact hk) hb hown
        have hbel := (Below.refl w.heap.size w).grown hgr (Nat.le_refl _) (by intro k hk; simp [Value.ownBlock] at hk)
        clear hown hgr HC
        go_wp2
        go_ret
        exact ⟨_, rfl, how, hbel⟩
    · have hk1 : k = 0 := by omega
      subst hk1
      have hgt : ¬ (0 : Int) < ((0 : Nat) : Int) := by omega
      have HF : Hid (xs.take 0 = lim (val xs)) := take_trim hb (by omega) (by rw [HN.out]; exact HZ.out) (fun h => by omega)
      have HO : Hid (Made w.heap.size 100 w (lim (val xs)) (.returned (.slice none 0 0)) w) := ⟨_, rfl, by rw [← HF.out]; exact Own.of_nil _ _ _, Below.refl _ _⟩
      clear hcell
      rcases ao with _ | a
      · have := hnil rfl
        subst this
        have hn0 : n = 0 := by omega
        subst hn0
        go_wp2
        go_ret
        exact HO.out
      · clear hnil
        obtain ⟨b, off, spot⟩ := a
        go_wp2
        go_ret
        exact HO.out

end Go.Proofs.YtaafijifiiiblaaGreat

namespace Go.Proofs.YtaafijifiiiblaaGreat
open Go.RowKit

set_option maxRecDepth 100000 in
set_option maxHeartbeats 1600000 in
theorem blend_any (a b : Value) (xs ys : List Nat) (uI vI : Int) (w : World) (ha : Num w a xs) (hb : Num w b ys) (hu0 : 0 ≤ uI) (hu1 : uI < 4294967296) (hv0 : 0 ≤ vI) (hv1 : vI < 4294967296)
    (hbx : xs.length ≤ 1099511627776) (hby : ys.length ≤ 1099511627776) (h1 : val ys * vI.toNat ≤ val xs * uI.toNat) (h2 : val xs * uI.toNat - val ys * vI.toNat < 4294967296 ^ (max xs.length ys.length)) :
    Calls Tryz.prog 140 #[a, .int .u64 uI, b, .int .u64 vI] w fun e w' => Made' w.heap.size w (lim (val xs * uI.toNat - val ys * vI.toNat)) e w' := by
  obtain ⟨u, rfl⟩ := Int.eq_ofNat_of_zero_le hu0
  obtain ⟨v, rfl⟩ := Int.eq_ofNat_of_zero_le hv0
  rw [Int.toNat_natCast, Int.toNat_natCast] at h1 h2 ⊢
  obtain ⟨ao, cap, rfl, hl1, hm1⟩ := ha.ao
  obtain ⟨bo, dap, rfl, hl2, hm2⟩ := hb.ao
  obtain ⟨i0, hi, hz0, hz1, hz2⟩ := info_parts Tryz.infoU
  obtain ⟨k, hk⟩ : ∃ k, k = xs.length := ⟨_, rfl⟩
  obtain ⟨m, hm⟩ : ∃ m, m = ys.length := ⟨_, rfl⟩
  have pre : ∃ n : Nat, n = max xs.length ys.length ∧ k ≤ n ∧ m ≤ n ∧ n ≤ 1099511627776 ∧ ((k < m ∧ n = m) ∨ (¬ k < m ∧ n = k)) := by
    by_cases h : k < m
    · exact ⟨m, by omega, by omega, by omega, by omega, Or.inl ⟨h, rfl⟩⟩
    · exact ⟨k, by omega, by omega, by omega, by omega, Or.inr ⟨h, rfl⟩⟩
  obtain ⟨n, hnm, hn1, hn2, hn3, hcase⟩ := pre
  rw [← hnm] at h2
  rw [← hk] at ha hl1 hbx ⊢
  rw [← hm] at hb hl2 hby ⊢
  have HKL : Hid (k = xs.length) := hk
  have HML : Hid (m = ys.length) := hm
  have H1 : Hid (val ys * v ≤ val xs * u) := h1
  have H2 : Hid (val xs * u - val ys * v < 4294967296 ^ n) := h2
  clear hk hm h1 h2 hnm hu0 hv0
  rcases hcase with ⟨hkm, hn⟩ | ⟨hkm, hn⟩
  all_goals
    have HNN : Hid (n = _) := hn
    clear hn
    go_enter Tryz.func140, Tryz.ntmps140
    go_wp2_with (at_make; refine wpList_make_full _ rfl _ _ 23 rfl w.heap.size 100 i0 (.int .u32 0) 1 Tryz.underlying23 hi hz0 hz1 _ _ _ _ n rfl rfl (by have := HNN.out; omega) (by have := HNN.out; omega) (by rw [hz2]; omega) (by unfold maxLen; omega) (Nat.le_refl _) ?_)
    intro w2 ho2 hg2
    have how := own_made ho2
    have hbel : Below w.heap.size w w2 := (Below.refl w.heap.size w).grown hg2 (Nat.le_refl _) (by intro k hk; simp at hk)
    clear ho2 hg2 HNN
    obtain ⟨g, hg⟩ : ∃ g, g = w.heap.size := ⟨_, rfl⟩
    have HB : Hid (Below w.heap.size w w2 ∧ Own w.heap.size 100 w2 (.slice (some ⟨g, 0, none⟩) n n) (List.replicate n 0)) := by rw [hg]; exact ⟨hbel, how⟩
    rw [← hg]
    clear hg hbel how
    go_wp2
    go_loopw [10, 11, 12, 23] (fun pv mv bv t wr => ∃ (i p m b : Nat) (zs : List Nat), i ≤ n ∧ t = .int .i64 i ∧ pv = .int .u64 p ∧ mv = .int .u64 m ∧ bv = .int .u64 b ∧ p < 4294967296 ∧ m < 4294967296 ∧ b ≤ 1 ∧ zs.length = n ∧ Own w.heap.size 100 wr (.slice (some ⟨g, 0, none⟩) n n) zs ∧ low xs i * u + 4294967296 ^ i * (m + b) = low ys i * v + low zs i + 4294967296 ^ i * p ∧ Below w.heap.size w wr) (fun _ _ _ t _ => n - (intOf t).toNat)
    case atStart => exact ⟨0, 0, 0, 0, List.replicate n 0, Nat.zero_le _, rfl, rfl, rfl, rfl, by omega, by omega, by omega, by simp, HB.out.2, by simp [low_zero], HB.out.1⟩
    case round =>
      obtain ⟨i, p, mm, bb, zs, hin, rfl, rfl, rfl, rfl, hp, hmm, hbb, hzl, how, hinv, hbel⟩ := hrel
      have HZ : Hid (zs.length = n) := hzl
      have HI : Hid (low xs i * u + 4294967296 ^ i * (mm + bb) = low ys i * v + low zs i + 4294967296 ^ i * p) := hinv
      clear hzl hinv HB
      have nu2 := ha.below (Nat.le_refl _) hbel
      have nv2 := hb.below (Nat.le_refl _) hbel
      by_cases hlt : i < n
      · have hlt' : (i : Int) < (n : Int) := by omega
        have hx0 := limb_lt ha.1 i
        have hy0 := limb_lt hb.1 i
        obtain ⟨x, hx⟩ : ∃ x, x = xs.getD i 0 := ⟨_, rfl⟩
        obtain ⟨y, hy⟩ : ∃ y, y = ys.getD i 0 := ⟨_, rfl⟩
        have HX : Hid (x = xs.getD i 0) := hx
        have HY : Hid (y = ys.getD i 0) := hy
        rw [← hx] at hx0
        rw [← hy] at hy0
        have tb := mul_bound hx0 (show u < 4294967296 by omega)
        have sb := mul_bound hy0 (show v < 4294967296 by omega)
        obtain ⟨t, ht⟩ : ∃ t, t = x * u := ⟨_, rfl⟩
        obtain ⟨s, hs⟩ : ∃ s, s = y * v := ⟨_, rfl⟩
        rw [← ht] at tb
        rw [← hs] at sb
        have et : (x : Int) * (u : Int) = (t : Int) := by rw [ht]; exact (Int.natCast_mul x u).symm
        have es : (y : Int) * (v : Int) = (s : Int) := by rw [hs]; exact (Int.natCast_mul y v).symm
        have HT : Hid (t = x * u) := ht
        have HS : Hid (s = y * v) := hs
        have ep := and_mask (p + t) (by omega)
        have em := and_mask (mm + s) (by omega)
        obtain ⟨PP, hPP⟩ : ∃ PP, PP = (p + t) % 4294967296 := ⟨_, rfl⟩
        obtain ⟨MM, hMM⟩ : ∃ MM, MM = (mm + s) % 4294967296 := ⟨_, rfl⟩
        rw [← hPP, Int.natCast_add] at ep
        rw [← hMM, Int.natCast_add] at em
        obtain ⟨D1, D, b', dl, e1, e2, hD, e3, e4, hb', hdl, heq⟩ := sub_wrap PP MM bb (by omega) (by omega) hbb
        have HPP : Hid (PP = (p + t) % 4294967296) := hPP
        have HMM : Hid (MM = (mm + s) % 4294967296) := hMM
        have HEQ : Hid (PP + 4294967296 * b' = MM + bb + dl) := heq
        obtain ⟨hcz, hfz⟩ := how.cell (k := i) (by rw [HZ.out]; exact hlt)
        obtain ⟨z, hz⟩ : ∃ z, z = zs.getD i 0 := ⟨_, rfl⟩
        rw [← hz] at hcz
        have hset := how.set HZ.out i dl hdl
        have hbel2 : Below w.heap.size w (wr.setCell ⟨g, i, none⟩ (U dl)) := hbel.setCell (by exact how.heap.1) _
        rw [show U dl = .int .u32 (dl : Int) from rfl] at hset hbel2
        clear hx hy hz how hbel ht hs hPP hMM heq
        go_wp2_with fail
        refine (limb_any _ _ _ _ nu2 (by omega)).mono ?_
        rintro e w3 ⟨rfl, rfl⟩
        rw [Int.toNat_natCast, ← HX.out]
        go_wp2_with fail
        refine (limb_any _ _ _ _ nv2 (by omega)).mono ?_
        rintro e w4 ⟨rfl, rfl⟩
        rw [Int.toNat_natCast, ← HY.out]
        clear nu2 nv2
        go_wp2
        go_roundw
        case rel => exact ⟨i + 1, (p + t) / 4294967296, (mm + s) / 4294967296, b', _, by omega, by go_num, by go_num, by go_num, by go_num, by omega, by omega, hb', by rw [List.length_set]; exact HZ.out, hset, by rw [HT.out, HS.out, HX.out, HY.out]; exact blend_step (by rw [HZ.out]; exact hlt) HI.out b' (by rw [← HX.out, ← HY.out, ← HT.out, ← HS.out, ← HPP.out, ← HMM.out]; exact HEQ.out), hbel2⟩
        case measure => simp [intOf]; omega
      · have hlt' : ¬ (i : Int) < (n : Int) := by omega
        have hin' : i = n := by omega
        have HV : Hid (val zs = val xs * u - val ys * v) := blend_done how.1 HZ.out (by rw [← HKL.out]; omega) (by rw [← HML.out]; omega) H1.out H2.out (by rw [← hin']; exact HI.out)
        clear hin' nu2 nv2
        go_wp2_with fail
        refine (trim_any _ _ _ how.num).mono ?_
        rintro e w3 ⟨⟨k3, hk3, hk4, rfl⟩, rfl⟩
        have how2 := how.cut hk3
        rw [hk4, HV.out] at how2
        clear how hk4
        go_wp2
        go_ret
        exact ⟨_, rfl, how2, hbel⟩
end Go.Proofs.YtaafijifiiiblaaGreat

namespace Go.Proofs.YtaafijifiiiblaaGreat
open Go.RowKit

theorem lim_len_of_lt {a b : Nat} (h : a ≤ b) : (lim a).length ≤ (lim b).length := lim_len_le (Nat.lt_of_le_of_lt h (lim_lt_of_len (Nat.le_refl _)))
theorem Tryz.sizeU : (Tryz.prog.info? 100).map (·.size) = some 1 := by kernel_rfl
theorem splice_all {L cs : List Value} (h : cs.length = L.length) : splice L 0 cs = cs := by
  simp only [splice, List.take_zero, List.nil_append, Nat.zero_add]
  rw [List.drop_of_length_le (by omega), List.append_nil]

set_option maxRecDepth 100000 in
set_option maxHeartbeats 800000 in
theorem fresh_any (v : Value) (xs : List Nat) (w : World) (h : Num w v xs) (hlen : xs.length ≤ 1099511627776) :
    Calls Tryz.prog 145 #[v] w fun e w' => Made' w.heap.size w xs e w' := by
  obtain ⟨hb, ao, cap, rfl, hc, hm, hnil, hcell⟩ := h.open_
  obtain ⟨n, hn⟩ : ∃ n, xs.length = n := ⟨_, rfl⟩
  rw [hn] at hc hlen h ⊢
  have HN : Hid (xs.length = n) := hn
  obtain ⟨i0, hi, hz0, hz1, hz2⟩ := info_parts Tryz.infoU
  have HC : Hid (∀ w2, Below w.heap.size w w2 → 0 < (xs.map U).length → ∃ ad, ao = some ad ∧ ∀ j u, (xs.map U)[j]? = some u → w2.cell? (ad.add j) = some u) := by
    intro w2 hb2 hp
    obtain ⟨b, off, rfl, _⟩ := hcell 0 (by simpa using hp)
    refine ⟨⟨b, off, none⟩, rfl, fun j u hj => ?_⟩
    rw [List.getElem?_map] at hj
    obtain ⟨y, hy, rfl⟩ := Option.map_eq_some_iff.1 hj
    obtain ⟨hjk, hy⟩ := List.getElem?_eq_some_iff.1 hy
    obtain ⟨b', off', he, hc'⟩ := hcell j (by omega)
    simp only [Option.some.injEq, Addr.mk.injEq] at he
    obtain ⟨rfl, rfl, _⟩ := he
    subst hy
    rw [Addr.add_lit, hb2.cell (p := ⟨b, off + j, none⟩) (block_lt_of_cell hc'), hc', List.getD_eq_getElem?_getD, List.getElem?_eq_getElem (by omega)]
    rfl
  have HL : Hid ((xs.map U).length = Nat.min n n) := by show _ = _; rw [List.length_map, HN.out]; simp
  have H1 : Hid (∀ u ∈ xs.map U, u.oneCell' = true) := by intro u hu; obtain ⟨y, _, rfl⟩ := List.mem_map.1 hu; rfl
  clear hcell hnil hn h
  go_enter Tryz.func145, Tryz.ntmps145
  go_wp2_with (at_make; refine wpList_make_full _ rfl _ _ 23 rfl w.heap.size 100 i0 (.int .u32 0) 1 Tryz.underlying23 hi hz0 hz1 _ _ _ _ n rfl rfl (by omega) (by omega) (by rw [hz2]; omega) (by unfold maxLen; omega) (Nat.le_refl _) ?_)
  intro w2 ho2 hg2
  have how := own_made ho2
  have hbel : Below w.heap.size w w2 := (Below.refl w.heap.size w).grown hg2 (Nat.le_refl _) (by intro k hk; simp at hk)
  obtain ⟨hq1, hq2, cur, hcur, hq3, hcs, hct⟩ := how.heap
  clear hq1 hq2 hq3 hct
  obtain ⟨L, hL⟩ : ∃ L : List Value, cur = L.toArray := ⟨cur.toList, by simp⟩
  subst hL
  have hLl : L.length = n := by simpa using hcs
  have HLL : Hid (L.length = n) := hLl
  have HCUR : Hid (w2.heap[w.heap.size]? = some (.cells L.toArray 100 (0, 0))) := hcur
  clear ho2 hg2 how hcur hcs hLl
  go_wp2_with (refine wpList_copy_splice rfl _ _ 23 23 rfl 100 Tryz.underlying23 Tryz.sizeU _ _ _ _ _ _ rfl rfl w.heap.size 0 L 100 HCUR.out (xs.map U) HL.out (fun hp => ⟨rfl, HC.out w2 hbel hp⟩) (by rw [HLL.out, List.length_map, HN.out]; omega) H1.out w.heap.size w hbel (Nat.le_refl _) ?_)
  intro w3 hh3 hb3
  have HO : Hid (Own w.heap.size 100 w3 (.slice (some ⟨w.heap.size, 0, none⟩) n n) xs) := by
    have h3 := hh3.out
    rw [splice_all (by rw [HLL.out, List.length_map, HN.out])] at h3
    refine ⟨hb, by rw [List.length_map]; omega, Or.inr ⟨w.heap.size, n, _, by rw [HN.out], Nat.le_refl _, h3, by rw [HN.out]; omega, by unfold maxLen; omega, by simp [HN.out], ?_⟩⟩
    rw [HN.out]
    exact List.take_of_length_le (by simp [HN.out])
  clear hh3 HCUR HC H1 HL hbel
  go_wp2
  go_ret
  exact ⟨_, rfl, HO.out, hb3⟩

theorem norm_any (v : Value) (xs : List Nat) (w : World) (h : Num w v xs) (hlen : xs.length ≤ 1099511627776) :
    Calls Tryz.prog 132 #[v] w fun e w' => Made' w.heap.size w (lim (val xs)) e w' := by
  go_enter Tryz.func132, Tryz.ntmps132
  go_wp2_with fail
  refine (trim_any _ _ _ h).mono ?_
  rintro e w1 ⟨⟨k, hk, hk2, rfl⟩, rfl⟩
  have nu := h.cut hk
  rw [hk2] at nu
  have hlx : (lim (val xs)).length ≤ 1099511627776 := by rw [← hk2, List.length_take]; omega
  clear h hk2
  go_wp2_with fail
  refine (fresh_any _ _ _ nu hlx).mono ?_
  rintro e w2 ⟨v2, rfl, ho, hb⟩
  clear nu hlx
  go_wp2
  go_ret
  exact ⟨_, rfl, ho, hb⟩
end Go.Proofs.YtaafijifiiiblaaGreat

namespace Go.Proofs.YtaafijifiiiblaaGreat
open Go.RowKit


/-- What Sub leaves. -/
def SubEnd (B : Nat) (w : World) (xs : List Nat) (en : Ending) (w' : World) : Prop := ∃ v, en = .returned (.tuple #[v, .bool true]) ∧ Own B 100 w' v xs ∧ Below B w w'

set_option maxRecDepth 100000 in
set_option maxHeartbeats 1600000 in
theorem sub_yes (u v : Value) (xs ys : List Nat) (w : World) (hu : Num w u xs) (hv : Num w v ys) (hbx : xs.length ≤ 1099511627776) (hby : ys.length ≤ 1099511627776) (hle : val ys ≤ val xs) :
    Calls Tryz.prog 117 #[u, v] w fun e w' => SubEnd w.heap.size w (lim (val xs - val ys)) e w' := by
  obtain ⟨ao, cap, rfl, hl1, hm1⟩ := hu.ao
  obtain ⟨bo, dap, rfl, hl2, hm2⟩ := hv.ao
  go_enter Tryz.func117, Tryz.ntmps117
  go_wp2_with fail
  refine (trim_any _ _ _ hu).mono ?_
  rintro e w1 ⟨⟨k, hk, hk2, rfl⟩, rfl⟩
  go_wp2_with fail
  refine (trim_any _ _ _ hv).mono ?_
  rintro e w1 ⟨⟨m, hm, hm3, rfl⟩, rfl⟩
  simp only [cutTo]
  have nu := hu.cut hk
  have nv := hv.cut hm
  rw [hk2] at nu
  rw [hm3] at nv
  simp only [cutTo] at nu nv
  have hlx : (lim (val xs)).length ≤ 1099511627776 := by rw [← hk2, List.length_take]; omega
  have hly : (lim (val ys)).length ≤ 1099511627776 := by rw [← hm3, List.length_take]; omega
  clear hu hv hk2 hm3 hk hm
  go_wp2_with fail
  refine (cmp_any _ _ _ _ _ nu nv).mono ?_
  rintro e w2 ⟨rfl, q, hq⟩
  have hnl : ¬ cmpN (val (lim (val xs))) (val (lim (val ys))) < 0 := by
    rw [val_lim, val_lim]
    rcases cmpN_cases (val xs) (val ys) with h | h | h <;> omega
  obtain ⟨c, hc⟩ : ∃ c, c = cmpN (val (lim (val xs))) (val (lim (val ys))) := ⟨_, rfl⟩
  rw [← hc] at hnl ⊢
  have hb2 : Below w1.heap.size w1 w2 := by rw [hq]; exact below_drewN (Below.refl _ _) q
  have hs2 : w2.heap.size = w1.heap.size := by rw [hq, heap_drewN]
  have nu2 := nu.below (Nat.le_refl _) hb2
  have nv2 := nv.below (Nat.le_refl _) hb2
  have HS : Hid (w2.heap.size = w1.heap.size) := hs2
  clear hc nu nv hq hs2
  go_wp2_with fail
  refine (blend_any _ _ _ _ 1 1 _ nu2 nv2 (by omega) (by omega) (by omega) (by omega) hlx hly ?_ ?_).mono ?_
  · rw [val_lim, val_lim]; simpa using hle
  · rw [val_lim, val_lim]
    simp only [Int.toNat_one, Nat.mul_one]
    refine Nat.lt_of_le_of_lt (Nat.sub_le _ _) (lim_lt_of_len (Nat.le_max_left _ _))
  rintro e w3 ⟨v3, rfl, ho3, hb3⟩
  rw [val_lim, val_lim] at ho3
  simp only [Int.toNat_one, Nat.mul_one] at ho3
  rw [HS.out] at ho3 hb3
  have hb4 := hb2.trans hb3
  clear hb2 hb3 nu2 nv2
  go_wp2
  go_ret2
  exact ⟨_, rfl, ho3, hb4⟩

set_option maxRecDepth 100000 in
set_option maxHeartbeats 1600000 in
theorem sub_no (u v : Value) (xs ys : List Nat) (w : World) (hu : Num w u xs) (hv : Num w v ys) (hle : val xs < val ys) :
    Calls Tryz.prog 117 #[u, v] w fun e w' => e = .returned (.tuple #[.slice none 0 0, .bool false]) ∧ ∃ q, w' = w.drewN q := by
  obtain ⟨ao, cap, rfl, hl1, hm1⟩ := hu.ao
  obtain ⟨bo, dap, rfl, hl2, hm2⟩ := hv.ao
  go_enter Tryz.func117, Tryz.ntmps117
  go_wp2_with fail
  refine (trim_any _ _ _ hu).mono ?_
  rintro e w1 ⟨⟨k, hk, hk2, rfl⟩, rfl⟩
  go_wp2_with fail
  refine (trim_any _ _ _ hv).mono ?_
  rintro e w1 ⟨⟨m, hm, hm3, rfl⟩, rfl⟩
  simp only [cutTo]
  have nu := hu.cut hk
  have nv := hv.cut hm
  rw [hk2] at nu
  rw [hm3] at nv
  simp only [cutTo] at nu nv
  clear hu hv hk2 hm3 hk hm
  go_wp2_with fail
  refine (cmp_any _ _ _ _ _ nu nv).mono ?_
  rintro e w2 ⟨rfl, q, hq⟩
  have HQ : Hid (w2 = w1.drewN q) := hq
  have hc : cmpN (val (lim (val xs))) (val (lim (val ys))) = -1 := by rw [val_lim, val_lim]; exact cmpN_lt hle
  rw [hc]
  clear hc nu nv hq
  go_wp2
  go_ret2
  exact ⟨rfl, q, HQ.out⟩

end Go.Proofs.YtaafijifiiiblaaGreat

/-
  Proved here: 'apart' of numbers that are what they must be, each in a row of its own, answers true.
-/
import Derived.Test.YtnlajeinegampaaLong
import Derived.Test.YtnlajeinegampaaSame
import Derived.Test.YtnlajeinegampaaNormAll
import Derived.WalkSmall
namespace Go.Proofs.Ytnlajeinegampaa
open Go.RowKit

theorem Try.infoN : (Try.prog.info? 23).map (fun i => (i.zero, i.size, i.bytes)) = some (some (.slice none 0 0), 1, 24) := by kernel_rfl

set_option maxRecDepth 100000 in
set_option maxHeartbeats 2000000 in
theorem apart_yes (B gb wb m : Nat) (gs ws : List Value) (xs : Nat → List Nat) (w : World) (hB : B ≤ w.heap.size) (hgb : B ≤ gb)
    (hgl : gs.length = m) (hwl : ws.length = m) (hm : m ≤ 1000)
    (hgot : w.heap[gb]? = some (.cells gs.toArray 23 (0, 0))) (hwant : w.heap[wb]? = some (.cells ws.toArray 23 (0, 0)))
    (hfam : Fam B w gs xs) (hd : Dist gs) (hws : ∀ j, j < m → Num w (at_ ws j) (xs j)) (hlen : ∀ j, j < m → (xs j).length ≤ 1099511627776) :
    Calls Try.prog 14 #[.slice (some ⟨gb, 0, none⟩) m m, .slice (some ⟨wb, 0, none⟩) m m] w fun e w' => e = .returned (.bool true) ∧ Bex gs w w' := by
  have HG : Hid (gs.length = m) := hgl
  have HW : Hid (ws.length = m) := hwl
  clear hgl hwl
  go_enter Try.func14, Try.ntmps14
  go_wp2
  go_loopw [5] (fun t wr => ∃ k : Nat, k ≤ m ∧ t = .int .i64 k ∧ ∃ q, wr = w.drewN q) (fun t _ => m - (intOf t).toNat)
  case atStart => exact ⟨0, Nat.zero_le _, rfl, 0, rfl⟩
  case round =>
    obtain ⟨k, hk, rfl, q, hq⟩ := hrel
    have HQ : Hid (wr = w.drewN q) := hq
    have hhp : wr.heap = w.heap := by rw [hq, heap_drewN]
    rw [← hhp] at hgot hwant
    clear hq
    by_cases hkm : k < m
    · have c0 := cell_gs hgot (i := k) (by rw [HG.out]; omega)
      have c1 := cell_gs hwant (i := k) (by rw [HW.out]; omega)
      have hn0 := (hfam k (by rw [HG.out]; omega)).num.same hhp
      have hn1 := (hws k hkm).same hhp
      obtain ⟨v0, hv0⟩ : ∃ v, v = at_ gs k := ⟨_, rfl⟩
      obtain ⟨v1, hv1⟩ : ∃ v, v = at_ ws k := ⟨_, rfl⟩
      rw [← hv0] at c0 hn0
      rw [← hv1] at c1 hn1
      clear hv0 hv1 hfam hd hws hlen hgot hwant hhp
      have hlt : (k : Int) < (m : Int) := by omega
      go_wp2
      go_quiet ((go_at_call 42; exact Calls.quiet_of (same_yes _ _ _ _ (hn0.drewN _) (hn1.drewN _))))
      go_wp2
      go_roundw
      case rel => exact ⟨k + 1, by omega, by go_num, _, by rw [HQ.out, World.drewN_drewN]⟩
      case measure => simp [intOf]; omega
    · have hge : ¬ (k : Int) < (m : Int) := by omega
      have S0 : St3 B gb gs (fun j => (xs j).length) w 0 0 wr := ⟨xs, fun j hj => (hfam j hj).same hhp, fun _ _ => rfl, fun j hj => by omega, fun q hq => by omega, hgot, by rw [HQ.out]; exact Bex.same (below_drewN (Below.refl _ _) q)⟩
      obtain ⟨len, hlenE⟩ : ∃ len : Nat → Nat, len = fun j => (xs j).length := ⟨_, rfl⟩
      rw [← hlenE] at S0
      have hlen2 : Hid (∀ j, j < m → len j ≤ 1099511627776) := by intro j hj; rw [hlenE]; exact hlen j hj
      clear hlenE hws hfam hwant hgot hhp hlen
      go_wp2
      go_loopw [7] (fun t wr => ∃ i : Nat, i ≤ m ∧ t = .int .i64 i ∧ St3 B gb gs len w i 0 wr) (fun t _ => m - (intOf t).toNat)
      case atStart => exact ⟨0, Nat.zero_le _, rfl, S0⟩
      case round =>
        clear S0 HQ hge hk hkm
        obtain ⟨i, hi, rfl, hst⟩ := hrel
        by_cases him : i < m
        · have hig : i < gs.length := by rw [HG.out]; exact him
          obtain ⟨ao, cap, hv, hao, hnc, hcm⟩ := hst.value hig
          obtain ⟨n, hn⟩ : ∃ n, n = len i := ⟨_, rfl⟩
          rw [← hn] at hv hao hnc
          have HN : Hid (n = len i) := hn
          have HV : Hid (at_ gs i = .slice ao n cap) := hv
          have HI : Hid (i < gs.length) := hig
          clear hn hv hig
          have hlt : (i : Int) < (m : Int) := by omega
          go_wp2
          go_loopw [8] (fun t wr => ∃ k : Nat, k ≤ n ∧ t = .int .i64 k ∧ St3 B gb gs len w i k wr) (fun t _ => n - (intOf t).toNat)
          case atStart => exact ⟨0, Nat.zero_le _, rfl, hst⟩
          case round =>
            clear hst
            obtain ⟨k, hk, rfl, hst⟩ := hrel
            have c0 := hst.got HI.out
            rw [HV.out] at c0
            by_cases hkn : k < n
            · obtain ⟨g, rfl⟩ := hao (by omega)
              have hv' : at_ gs i = .slice (some ⟨g, 0, none⟩) (len i) cap := by rw [← HN.out]; exact HV.out
              obtain ⟨⟨x, hx⟩, hfz⟩ := hst.cell HI.out hv' (by rw [← HN.out]; exact hkn)
              have hs2 := hst.step hd HI.out hv' (by rw [← HN.out]; exact hkn) (by omega)
              clear hst hv' hao
              have hkn' : (k : Int) < (n : Int) := by omega
              go_wp2
              go_roundw
              case rel => exact ⟨k + 1, by omega, by go_num, hs2⟩
              case measure => simp [intOf]; omega
            · have hkn' : ¬ (k : Int) < (n : Int) := by omega
              have hkk : k = len i := by rw [← HN.out]; omega
              rw [hkk] at hst
              have hs2 := hst.done HI.out
              have HK : Hid (k = len i) := hkk
              clear hst hkk
              go_wp2
              go_roundw
              case rel => exact ⟨i + 1, by omega, by go_num, hs2⟩
              case measure => simp [intOf]; omega
        · have hge : ¬ (i : Int) < (m : Int) := by omega
          have him' : i = m := by omega
          rw [him'] at hst
          have hC := cst_start hst HG.out hgb hm
          have HI : Hid (i = m) := him'
          have hB2 : B ≤ wr.heap.size := Nat.le_trans hB hC.bel.size
          clear hst him'
          obtain ⟨iN, hiN, hzN0, hzN1, hzN2⟩ := info_parts Try.infoN
          obtain ⟨iU, hiU, hzU0, hzU1, hzU2⟩ := info_parts Try.infoU
          go_wp2
          go_loopw [9, 10] (fun lo t wr => ∃ (i : Nat) (ls : List Value), i ≤ m ∧ t = .int .i64 i ∧ Cst B gb m gs len w i ls lo wr ∧ B ≤ wr.heap.size) (fun _ t _ => m - (intOf t).toNat)
          case atStart => exact ⟨0, [], Nat.zero_le _, rfl, hC, hB2⟩
          case round =>
            clear hC hB2 HI hge him hi
            obtain ⟨i, ls, hi, rfl, hC, hB2⟩ := hrel
            by_cases him : i < m
            · have hig : i < gs.length := by rw [HG.out]; exact him
              have c0 := hC.gotCell HG.out him
              have hV := vst_start hC hd hig
              obtain ⟨v0, hv0⟩ : ∃ v, v = at_ gs i := ⟨_, rfl⟩
              rw [← hv0] at c0 hV
              have HV0 : Hid (v0 = at_ gs i) := hv0
              have HI : Hid (i < gs.length) := hig
              clear hv0 hig
              have hlt : (i : Int) < (m : Int) := by omega
              have hlb := hlen2.out i him
              go_wp2
              go_loopw [11, 12] (fun l t wr => ∃ k : Nat, k ≤ 9 ∧ t = .int .i64 k ∧ Cst B gb m gs len w i ls u9 wr ∧ Vst B gs len w i k ls l wr ∧ B ≤ wr.heap.size) (fun _ t _ => 9 - (intOf t).toNat)
              case atStart => exact ⟨0, Nat.zero_le _, rfl, hC, hV, hB2⟩
              case round =>
                clear hC hV hB2 c0
                obtain ⟨k, hk, rfl, hC, hV, hB2⟩ := hrel
                by_cases hk9 : k < 9
                · have hlt9 : (k : Int) < 9 := by omega
                  have hvo : wr.ownsRow B 40 1 u11 (len i + k) ((tailed len i k).map U) := by have := hV.vo.2; rw [tailed_len] at this; exact this
                  have hB3 : B ≤ (wr.alloc (.cells #[.int .u32 (2000 + (i : Int))] 40)).heap.size := by simp; omega
                  go_wp2_with (at_builtin; refine wpList_push _ rfl _ _ 23 rfl B 40 iU (.int .u32 0) 4 Try.underlying23 hiU hzU0 hzU1 hzU2 rfl _ (len i + k) ((tailed len i k).map U) rfl (hvo.alloc _) ⟨wr.heap.size, 0, none⟩ 1 1 [.int .u32 (2000 + (i : Int))] rfl rfl (cell_one_new _ _ _) (fun u hu => by simp at hu; subst hu; rfl) (by decide) (by unfold maxLen; omega) (by omega) hB3 ?_)
                  intro v' w1 ho hgr hkp hbk
                  obtain ⟨hC1, hV1, hB4⟩ := push_step hC hV hB2 (by omega) ho hgr hkp hbk
                  clear ho hgr hkp hbk hC hV hB2 hB3 hvo
                  go_wp2
                  go_roundw
                  case rel => exact ⟨k + 1, by omega, by go_num, hC1, hV1, hB4⟩
                  case measure => simp [intOf]; omega
                · have hlt9 : ¬ (k : Int) < 9 := by omega
                  have hk9' : k = 9 := by omega
                  rw [hk9'] at hV
                  have HK : Hid (k = 9) := hk9'
                  clear hk9'
                  obtain ⟨ao, cap, hv11, _⟩ := hV.vo.ao
                  obtain ⟨n11, hn11⟩ : ∃ n, n = (tailed len i 9).length := ⟨_, rfl⟩
                  rw [← hn11] at hv11
                  clear hn11
                  subst hv11
                  have hB3 : B ≤ (wr.alloc (.cells #[.slice ao n11 cap] 23)).heap.size := by simp; omega
                  go_wp2_with (at_builtin; refine wpList_push _ rfl _ _ 30 rfl B 23 iN (.slice none 0 0) 24 Try.underlying30 hiN hzN0 hzN1 hzN2 rfl _ i ls rfl (hC.lo.alloc _) ⟨wr.heap.size, 0, none⟩ 1 1 [.slice ao n11 cap] rfl rfl (cell_one_new _ _ _) (fun u hu => by simp at hu; subst hu; rfl) (by decide) (by unfold maxLen; omega) (by omega) hB3 ?_)
                  intro v' w1 ho hgr hkp hbk
                  obtain ⟨hC1, hB4⟩ := long_step hC hV hB2 ho hgr hkp hbk
                  clear ho hgr hkp hbk hC hV hB2 hB3
                  go_wp2
                  go_roundw
                  case rel => exact ⟨i + 1, ls ++ [.slice ao n11 cap], by omega, by go_num, hC1, hB4⟩
                  case measure => simp [intOf]; omega
            · have hge2 : ¬ (i : Int) < (m : Int) := by omega
              have him' : i = m := by omega
              rw [him'] at hC
              have HI2 : Hid (i = m) := him'
              clear him' hB2
              obtain ⟨aoL, capL, hL, hL1, hL2, hLc⟩ := hC.longShape
              subst hL
              have HB : Hid (Bex gs w wr) := hC.bel
              go_wp2
              go_loop [13] (fun t => ∃ i : Nat, i ≤ m ∧ t = .int .i64 i) (fun t => m - (intOf t).toNat)
              case atStart => exact ⟨0, Nat.zero_le _, rfl⟩
              case round =>
                clear hge2 HI2 him hi
                obtain ⟨i, hi, rfl⟩ := hrel
                by_cases him : i < m
                · have hig : i < gs.length := by rw [HG.out]; exact him
                  have c0 := hC.gotCell HG.out him
                  obtain ⟨lb, rfl, c1⟩ := hLc i him
                  have ho0 := hC.fam i hig
                  have ho1 := hC.lso i him
                  obtain ⟨ao0, cap0, e0, hp0, hn0, hm0⟩ := ho0.ao
                  obtain ⟨ao1, cap1, e1, hp1, hn1, hm1⟩ := ho1.ao
                  rw [e0] at c0 ho0
                  rw [e1] at c1 ho1
                  rw [tailed_len] at c1 ho1 hp1 hn1
                  rw [marks_len] at c0 ho0 hp0 hn0
                  have hlb := hlen2.out i him
                  obtain ⟨n, hn⟩ : ∃ n, n = len i := ⟨_, rfl⟩
                  rw [← hn] at c0 c1 ho0 ho1 hp0 hp1 hn0 hn1 hlb
                  have HN : Hid (n = len i) := hn
                  obtain ⟨g1, rfl⟩ := hp1 (by omega)
                  clear hn e0 e1 hLc hC hp1 hd hig
                  have hlt : (i : Int) < (m : Int) := by omega
                  go_wp2
                  go_loop [14] (fun t => ∃ k : Nat, k ≤ n + 9 ∧ t = .int .i64 k) (fun t => n + 9 - (intOf t).toNat)
                  case atStart => exact ⟨0, Nat.zero_le _, rfl⟩
                  case round =>
                    obtain ⟨k, hk, rfl⟩ := hrel
                    by_cases hk1 : k < n + 9
                    · have hk1' : (k : Int) < ((n + 9 : Nat) : Int) := by omega
                      by_cases hk2 : k < n
                      · have hk2' : (k : Int) < (n : Int) := by omega
                        obtain ⟨g0, rfl⟩ := hp0 (by omega)
                        have d0 := (ho0.cell (k := k) (by rw [marks_len, ← HN.out]; exact hk2)).1
                        have d1 := (ho1.cell (k := k) (by rw [tailed_len, ← HN.out]; exact hk1)).1
                        rw [marks_at len i k (by rw [← HN.out]; exact hk2)] at d0
                        rw [tailed_lo len i 9 k (by rw [← HN.out]; exact hk2)] at d1
                        clear ho0 ho1 hp0
                        have e0 : (((1000 + i : Nat) : Int) != (1000 + (i : Int))) = false := by simp
                        go_wp2
                        go_round
                        case rel => exact ⟨k + 1, by omega, by go_num⟩
                        case measure => simp [intOf]; omega
                      · have hk2' : ¬ (k : Int) < (n : Int) := by omega
                        have d1 := (ho1.cell (k := k) (by rw [tailed_len, ← HN.out]; exact hk1)).1
                        rw [tailed_hi len i 9 k (by rw [← HN.out]; omega) (by rw [← HN.out]; exact hk1)] at d1
                        clear ho0 ho1 hp0
                        have e0 : (((2000 + i : Nat) : Int) != (2000 + (i : Int))) = false := by simp
                        go_wp2
                        go_round
                        case rel => exact ⟨k + 1, by omega, by go_num⟩
                        case measure => simp [intOf]; omega
                    · have hk1' : ¬ (k : Int) < ((n + 9 : Nat) : Int) := by omega
                      clear ho0 ho1 hp0
                      go_wp2
                      go_round
                      case rel => exact ⟨i + 1, by omega, by go_num⟩
                      case measure => simp [intOf]; omega
                · have hge3 : ¬ (i : Int) < (m : Int) := by omega
                  clear hLc hC hd
                  go_wp2
                  go_ret
                  exact ⟨rfl, HB.out⟩
#print axioms apart_yes
end Go.Proofs.Ytnlajeinegampaa

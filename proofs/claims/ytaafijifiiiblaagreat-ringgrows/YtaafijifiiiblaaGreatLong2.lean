/-
  Proved here: what divideLong answers.
-/
import Derived.Test.YtaafijifiiiblaaGreatLongMemAll
namespace Go.Proofs.YtaafijifiiiblaaGreat
open Go.RowKit

/-- What divideLong leaves. -/
def LongEnd (w : World) (a b : Nat) (e : Ending) (w' : World) : Prop :=
  ∃ q r, e = .returned (.tuple #[q, r]) ∧ Own w.heap.size 100 w' q (lim (a / b)) ∧ Own w.heap.size 100 w' r (lim (a % b)) ∧ (q.ownBlock = none ∨ q.ownBlock ≠ r.ownBlock) ∧ Below w.heap.size w w'

set_option maxRecDepth 100000 in
set_option maxHeartbeats 4000000 in
theorem divideLong_any (ao bo : Option Addr) (acap bcap n la : Nat) (A Bl : List Nat) (w : World) (ha : Num w (.slice ao la acap) A) (hb : Num w (.slice bo (n + 2) bcap) Bl) (hal : A.length = la) (hbl : Bl.length = n + 2) (hla : la ≤ 274877906944) (hge : n + 2 ≤ la)
    (htop : Bl.getD (n + 1) 0 ≠ 0) :
    Calls Tryz.prog 149 #[.slice ao la acap, .slice bo (n + 2) bcap] w fun e w' => LongEnd w (val A) (val Bl) e w' := by
  obtain ⟨i0, hi, hz0, hz1, hz2⟩ := info_parts Tryz.infoU
  have ht32 := limb_lt hb.1 (n + 1)
  have hbt := bl_le32 ht32
  have hvb0 : val Bl ≠ 0 := by
    have e := low_succ Bl (n + 1)
    rw [low_all (by omega)] at e
    have : 0 < 4294967296 ^ (n + 1) * Bl.getD (n + 1) 0 := Nat.mul_pos (Nat.pow_pos (by decide)) (by omega)
    omega
  have HB1 : Hid (4294967296 ^ (n + 1) ≤ val Bl) := by
    show _ ≤ _
    have e := low_succ Bl (n + 1)
    rw [low_all (by omega)] at e
    have : 4294967296 ^ (n + 1) * 1 ≤ 4294967296 ^ (n + 1) * Bl.getD (n + 1) 0 := Nat.mul_le_mul_left _ (by omega)
    omega
  have hblv : bl (val Bl) = 32 * (n + 1) + bl (Bl.getD (n + 1) 0) := by
    have e := low_succ Bl (n + 1)
    rw [low_all (by omega)] at e
    rw [e]
    exact bl_top (low_lt hb.1 (n + 1)) htop
  have hnb := norm_big hvb0 hblv hbt htop
  obtain ⟨_, bo', bc', eb, hbc, hbm, _, cb⟩ := hb.open_
  simp only [Value.slice.injEq] at eb
  obtain ⟨rfl, q2, rfl⟩ := eb
  obtain ⟨bb, bof, rfl, c1⟩ := cb (n + 1) (by omega)
  obtain ⟨t, ht⟩ : ∃ t, t = Bl.getD (n + 1) 0 := ⟨_, rfl⟩
  rw [← ht] at c1 hnb ht32 hbt htop
  obtain ⟨up, hup⟩ : ∃ up, up = 32 - bl t := ⟨_, rfl⟩
  rw [← hup] at hnb
  have hup31 : up ≤ 31 := by
    have : bl t ≠ 0 := by
      obtain ⟨m, e, _⟩ := bl_bounds htop
      omega
    omega
  have HUP : Hid (up = 32 - bl t) := hup
  have HNB1 : Hid (2 ^ (32 * (n + 1) + 31) ≤ val Bl * 2 ^ up) := hnb.1
  have HNB2 : Hid (val Bl * 2 ^ up < 4294967296 ^ (n + 1 + 1)) := hnb.2
  rw [hbl] at hbc
  clear cb q2 ht hup hblv hnb
  go_enter Tryz.func149, Tryz.ntmps149
  go_wp2_with fail
  refine (lz_any _ _ (by omega) (by omega)).mono ?_
  rintro e w ⟨rfl, rfl⟩
  rw [Int.toNat_natCast, ← HUP.out]
  go_wp2_with fail
  refine (lift_any _ _ _ _ ha (by omega) (by omega)).mono ?_
  rintro e w1 ⟨zs, rfl, hzl, hcz, hvz, hb1⟩
  rw [hal, show up / 32 = 0 by omega, Nat.add_zero] at hzl ⊢
  go_wp2_with fail
  refine (lift_any _ _ _ _ (hb.below (Nat.le_refl _) hb1) (by omega) (by omega)).mono ?_
  rintro e w2 ⟨ys, rfl, hyl, hcy, hvy, hb2⟩
  rw [hbl, show up / 32 = 0 by omega, Nat.add_zero] at hyl ⊢
  obtain ⟨L, hL⟩ : ∃ L, L = la - (n + 2) + 1 := ⟨_, rfl⟩
  have HL : Hid (L = la - (n + 2) + 1) := hL
  have hL0 : 0 < L := by omega
  have hL2 : L ≤ 549755813889 := by omega
  have hLn : L + (n + 2) = la + 1 := by omega
  have HLN : Hid (L + (n + 2) = la + 1) := hLn
  clear hL hLn
  have S1 := hb1.size
  have hgl1 : w.heap.size < w1.heap.size := (Array.getElem?_eq_some_iff.1 hcz.2).1
  have hgb1 : w1.heap.size < w2.heap.size := (Array.getElem?_eq_some_iff.1 hcy.2).1
  have hB2 : Below w.heap.size w w2 := hb1.trans (hb2.mono S1)
  go_wp2_with (at_make; refine wpList_make_full _ rfl _ _ 23 rfl w.heap.size 100 i0 (.int .u32 0) 1 Tryz.underlying23 hi hz0 hz1 _ _ _ _ L rfl rfl (by have := HL.out; omega) (by have := HL.out; omega) (by rw [hz2]; omega) (by unfold maxLen; omega) hB2.size ?_)
  intro w3 ho3 hg3
  have how := own_made ho3
  have hbel3 : Below w2.heap.size w2 w3 := (Below.refl w2.heap.size w2).grown hg3 (Nat.le_refl _) (by intro k hk; simp at hk)
  have hcz3 : Cells w3 w.heap.size zs := ⟨hcz.1, by rw [hbel3.block _ (by omega), hb2.block _ (by omega)]; exact hcz.2⟩
  have hcy3 : Cells w3 w1.heap.size ys := ⟨hcy.1, by rw [hbel3.block _ (by omega)]; exact hcy.2⟩
  have hcq3 : Cells w3 w2.heap.size (List.replicate L 0) := how.cells
  have hB3 : Below w.heap.size w w3 := hB2.trans (hbel3.mono (by omega))
  have hnb3 : Num w3 (.slice (some ⟨w1.heap.size, 0, none⟩) (n + 2) (n + 3)) (ys.take (n + 2)) := by
    have := ((hcy3.own (B := 0) (Nat.zero_le _) (by rw [hyl]; omega)).num).cut (k := n + 2) (by omega)
    rw [hyl] at this
    exact this
  have hvb : val (ys.take (n + 2)) = val Bl * 2 ^ up := by
    have := low_small hcy.1 (n := n + 2) (by rw [hvy]; exact HNB2.out)
    rw [← hvy]; exact this
  have hbs : (ys.take (n + 2)).length = n + 2 := by simp; omega
  have htp : 2147483648 ≤ (ys.take (n + 2)).getD (n + 1) 0 := norm_top hnb3.1 hbs hvb HNB1.out
  generalize ys.take (n + 2) = bs at *
  obtain ⟨b', hb'⟩ : ∃ b', b' = val bs := ⟨_, rfl⟩
  have hb'1 : b' < 4294967296 ^ (n + 2) := by rw [hb']; have := val_lt hnb3.1; rw [hbs] at this; exact this
  obtain ⟨A', hA'⟩ : ∃ A', A' = val zs := ⟨_, rfl⟩
  have HST : Hid (val (zs.drop L) < b') := by
    show _ < _
    rw [val_drop zs hcz.1 L (by have := HLN.out; omega), hvz, hb', hvb]
    apply Nat.div_lt_of_lt_mul
    have h1 := val_lt ha.1
    rw [hal] at h1
    have h2 := Nat.mul_le_mul_left (4294967296 ^ L) HB1.out
    rw [← Nat.pow_add, show L + (n + 1) = la by have := HLN.out; omega] at h2
    rw [← Nat.mul_assoc]
    exact Nat.mul_lt_mul_of_pos_right (Nat.lt_of_lt_of_le h1 h2) (Nat.two_pow_pos _)
  have HA : Hid (val A * 2 ^ up = A') := by show _ = _; rw [hA', hvz]
  have HB : Hid (val Bl * 2 ^ up = b') := by show _ = _; rw [hb', hvb]
  have HBV : Hid (b' = val bs) := hb'
  have HB'1 : Hid (b' < 4294967296 ^ (n + 2)) := hb'1
  have HZ0 : Hid (val zs = A') := hA'.symm
  have hzl0 : zs.length = la + 1 := hzl
  obtain ⟨gl, hgl⟩ : ∃ g, g = w.heap.size := ⟨_, rfl⟩
  obtain ⟨gb, hgb⟩ : ∃ g, g = w1.heap.size := ⟨_, rfl⟩
  obtain ⟨gq, hgq⟩ : ∃ g, g = w2.heap.size := ⟨_, rfl⟩
  rw [← hgl] at hcz3
  rw [← hgb] at hnb3
  rw [← hgq] at hcq3
  rw [← hgl, ← hgb, ← hgq]
  have hlb : gl ≠ gb := by omega
  have hlq : gl ≠ gq := by omega
  have hbq : gb ≠ gq := by omega
  have HGL : Hid (gl = w.heap.size) := hgl
  have hglq : gl < gq := by omega
  have HC0 : Hid (Cells w3 gl zs ∧ Cells w3 gq (List.replicate L 0) ∧ Num w3 (.slice (some ⟨gb, 0, none⟩) (n + 2) (n + 3)) bs ∧ Below w.heap.size w w3) := ⟨hcz3, hcq3, hnb3, hB3⟩
  have HZL0 : Hid (zs.length = la + 1) := hzl0
  clear hb' hb'1 hA' hvb hvz hvy hcz hcy hcy3 hcz3 hcq3 hnb3 hB3 hzl hzl0 how hbel3 ho3 hg3 hb1 hb2 hB2 S1 hgl1 hgb1 hgl hgb hgq hyl hvb0
  go_wp2
  go_loopw [10] (fun t wr => ∃ (i : Nat) (zs qs : List Nat), i ≤ L ∧ t = .int .i64 ((i : Int) - 1) ∧ zs.length = la + 1 ∧ qs.length = L ∧ Cells wr gl zs ∧ Cells wr gq qs ∧ Num wr (.slice (some ⟨gb, 0, none⟩) (n + 2) (n + 3)) bs ∧ Below w.heap.size w wr ∧ A' = val (qs.drop i) * 4294967296 ^ i * b' + val zs ∧ val (zs.drop i) < b') (fun t _ => (intOf t + 1).toNat)
  case atStart =>
    refine ⟨L, zs, List.replicate L 0, Nat.le_refl _, rfl, HZL0.out, by simp, HC0.out.1, HC0.out.2.1, HC0.out.2.2.1, HC0.out.2.2.2, ?_, HST.out⟩
    rw [List.drop_of_length_le (by simp), HZ0.out]
    simp [val]
  case round =>
    clear HC0 HST HZ0 HZL0
    obtain ⟨i, ys, qs, hiL, rfl, hyl, hql, hcz, hcq, hnb, hbel, hinv, hlt⟩ := hrel
    have HYL : Hid (ys.length = la + 1) := hyl
    have HQL : Hid (qs.length = L) := hql
    have HI : Hid (A' = val (qs.drop i) * 4294967296 ^ i * b' + val ys) := hinv
    have HLT : Hid (val (ys.drop i) < b') := hlt
    clear hyl hql hinv hlt
    by_cases hi0 : 0 < i
    · obtain ⟨j, rfl⟩ : ∃ j, i = j + 1 := ⟨i - 1, by omega⟩
      rw [show ((j + 1 : Nat) : Int) - 1 = (j : Int) by omega]
      have hge : (0 : Int) ≤ (j : Int) := by omega
      have hjL : (j : Int) < (L : Int) := by omega
      have hjs : j + (n + 3) ≤ la + 1 := by have := HLN.out; omega
      have HVJ : Hid (val (ys.drop j) < 4294967296 * b') := by
        show _ < _
        have h1 := val_drop_step ys j
        have h2 := limb_lt hcz.1 j
        have h3 := HLT.out
        omega
      have HSM : Hid (low (ys.drop j) (n + 3) = val (ys.drop j)) := by
        apply low_small (limbs_drop hcz.1 j)
        have h1 := HVJ.out
        have h2 := HB'1.out
        rw [Nat.pow_succ]
        have h3 := Nat.mul_le_mul_left 4294967296 h2
        omega
      have hseg := hcz.seg (off := j) (m := n + 3) (cap := la + 1 - j) (by rw [HYL.out]; exact hjs) (by omega) (by omega)
      have hsl : ((ys.drop j).take (n + 3)).length = n + 3 := by simp; rw [HYL.out]; omega
      have HSG : Hid (∀ zs' : List Nat, zs'.length = ys.length → (∀ k, k < j ∨ j + (n + 3) ≤ k → zs'.getD k 0 = ys.getD k 0) → low (zs'.drop j) (n + 3) = val (zs'.drop j)) := fun zs' h1 h2 => by
        refine (seg_high (zs := ys) hcz.1 (by rw [HYL.out]; exact hjs) h1 h2 ?_).symm
        have h1 := HVJ.out
        have h2 := HB'1.out
        rw [Nat.pow_succ]
        have h3 := Nat.mul_le_mul_left 4294967296 h2
        omega
      have hgu := guess_any (some ⟨gl, j, none⟩) (some ⟨gb, 0, none⟩) n (la + 1 - j) (n + 3) _ _ wr hseg hnb hsl hbs (by omega) htp (by rw [seg_val, HSM.out, ← HBV.out]; exact HVJ.out)
      rw [seg_val, HSM.out, ← HBV.out] at hgu
      have HGU : Hid (Calls Tryz.prog 152 #[.slice (some ⟨gl, j, none⟩) (n + 3) (la + 1 - j), .slice (some ⟨gb, 0, none⟩) (n + 2) (n + 3)] wr fun e w' => (∃ q : Nat, e = .returned (.int .u32 (q : Int)) ∧ GuessOk (val (ys.drop j)) b' q) ∧ ∃ k, w' = wr.drewN k) := hgu
      clear hgu hseg hsl
      have hnez : ∀ a : Addr, some ⟨gb, 0, none⟩ = some a → a.block ≠ gl := fun a h => by
        rw [Option.some.injEq] at h; subst h; exact fun h => hlb h.symm
      have hBw : w.heap.size ≤ wr.heap.size := hbel.size
      go_wp2_with fail
      rw [show j + (n + 2) + 1 - j = n + 3 by omega]
      refine HGU.out.mono ?_
      rintro e wg ⟨⟨q, rfl, hgok⟩, kg, hwg⟩
      have hczg : Cells wg gl ys := ⟨hcz.1, by rw [hwg, heap_drewN]; exact hcz.2⟩
      have hcqg : Cells wg gq qs := ⟨hcq.1, by rw [hwg, heap_drewN]; exact hcq.2⟩
      have hnbg : Num wg (.slice (some ⟨gb, 0, none⟩) (n + 2) (n + 3)) bs := hnb.same (by rw [hwg, heap_drewN])
      have hbelg : Below w.heap.size w wg := by rw [hwg]; exact below_drewN hbel kg
      clear hcz hcq hnb hbel HGU hwg hBw
      have hq32 := hgok.1
      have HGO : Hid (GuessOk (val (ys.drop j)) b' q) := hgok
      clear hgok
      go_wp2_with fail
      refine (takeTimes_any (some ⟨gb, 0, none⟩) (n + 2) (n + 3) bs ys gl j (n + 3) (la + 1 - j) (q : Int) wg wg hnbg hnez (World.grownBy.refl _ _) hczg (by omega) (by rw [HYL.out]; exact hjs) (by omega) (by omega) (by omega) (by omega)).mono ?_
      rintro e wt ⟨zs', t, rfl, ht1, hzl', hcz', hgr, hout, heq⟩
      rw [Int.toNat_natCast] at heq
      have hcq' : Cells wt gq qs := hcqg.grown hgr (fun h => hlq h.symm)
      have hnb' := hnbg.grown hnez hgr
      have hbel' : Below w.heap.size w wt := hbelg.grown hgr hbelg.size (by intro k hk; rw [Option.some.injEq] at hk; rw [← hk, HGL.out]; exact Nat.le_refl _)
      have HZ' : Hid (zs'.length = ys.length) := hzl'
      have HOUT : Hid (∀ k, k < j ∨ j + (n + 3) ≤ k → zs'.getD k 0 = ys.getD k 0) := hout
      rw [HSG.out zs' hzl' hout, HSM.out, ← HBV.out] at heq
      have HEQ : Hid (val (zs'.drop j) + b' * q = val (ys.drop j) + 4294967296 ^ (n + 3) * t) := heq
      clear hzl' hout heq hczg hcqg hnbg hbelg hgr
      rcases (show t = 0 ∨ t = 1 by omega) with rfl | rfl
      · have HNX : Hid (val (zs'.drop j) < b' ∧ val (zs'.drop j) + q * b' = val (ys.drop j)) := take_right HEQ.out HGO.out.2.2
        obtain ⟨cq, hfq⟩ := hcq'.cell (k := j) (by rw [HQL.out]; omega)
        have hset := hcq'.set j q hq32
        have hgs := grownBy_one wt gq j (U q)
        have hcz2 := hcz'.grown hgs hlq
        have hnb2 := hnb'.grown (fun a h => by rw [Option.some.injEq] at h; subst h; exact hbq) hgs
        have hbel2 := hbel'.setCell (p := ⟨gq, j, none⟩) (by show _ ≤ gq; rw [← HGL.out]; omega) (U q)
        rw [show U q = .int .u32 (q : Int) from rfl] at hset hcz2 hnb2 hbel2
        obtain ⟨x, hx⟩ : ∃ x, x = qs.getD j 0 := ⟨_, rfl⟩
        rw [← hx] at cq
        clear hcq' hcz' hnb' hbel' hx hgs
        go_wp2_with fail
        go_roundw
        case rel =>
          refine ⟨j, zs', qs.set j q, by omega, by go_num, by rw [HZ'.out]; exact HYL.out, by rw [List.length_set]; exact HQL.out, hcz2, hset, hnb2, hbel2, ?_, HNX.out.1⟩
          rw [long_quo (by rw [HQL.out]; omega)]
          have hI := HI.out
          rw [Nat.pow_succ] at hI
          exact long_inv hI (long_val (by rw [HYL.out]; omega) HZ'.out (fun k hk => HOUT.out k (Or.inl hk))) HNX.out.2
        case measure => simp [intOf]
      · have hlm : val (zs'.drop j) < 4294967296 ^ (n + 3) := by
          rw [← HSG.out zs' HZ'.out HOUT.out]; exact low_lt (limbs_drop hcz'.1 j) _
        have hq1 : 1 ≤ q := by
          rcases Nat.eq_zero_or_pos q with h0 | h0
          · have h1 := HEQ.out
            rw [h0, Nat.mul_zero] at h1
            omega
          · exact h0
        have HLM : Hid (val (zs'.drop j) < 4294967296 ^ (n + 3)) := hlm
        clear hlm
        have hq1' : (1 : Int) ≤ (q : Int) := by omega
        go_wp2_with fail
        refine (putBack_any (some ⟨gb, 0, none⟩) (n + 2) (n + 3) bs zs' gl j (n + 3) (la + 1 - j) wt wt hnb' hnez (World.grownBy.refl _ _) hcz' (by omega) (by rw [HZ'.out, HYL.out]; exact hjs) (by omega) (by omega)).mono ?_
        rintro e wp ⟨z2, c, rfl, hz2, hczp, hgr, hout, heq⟩
        have hcqp : Cells wp gq qs := hcq'.grown hgr (fun h => hlq h.symm)
        have hnbp := hnb'.grown hnez hgr
        have hbelp : Below w.heap.size w wp := hbel'.grown hgr hbel'.size (by intro k hk; rw [Option.some.injEq] at hk; rw [← hk, HGL.out]; exact Nat.le_refl _)
        have hout2 : ∀ k, k < j ∨ j + (n + 3) ≤ k → z2.getD k 0 = ys.getD k 0 := fun k hk => by rw [hout k hk, HOUT.out k hk]
        have hz3 : z2.length = ys.length := by rw [hz2, HZ'.out]
        rw [HSG.out z2 hz3 hout2, HSG.out zs' HZ'.out HOUT.out, ← HBV.out] at heq
        have hl2 : val (z2.drop j) < 4294967296 ^ (n + 3) := by
          rw [← HSG.out z2 hz3 hout2]; exact low_lt (limbs_drop hczp.1 j) _
        have HNX : Hid (1 ≤ q ∧ val (z2.drop j) < b' ∧ val (z2.drop j) + (q - 1) * b' = val (ys.drop j)) := by
          refine take_back HEQ.out HLM.out heq hl2 HGO.out.2.1 ?_
          have h2 := HB'1.out
          exact Nat.lt_of_lt_of_le h2 (Nat.pow_le_pow_right (by decide) (by omega))
        have HZ2 : Hid (z2.length = ys.length) := hz3
        have HO2 : Hid (∀ k, k < j ∨ j + (n + 3) ≤ k → z2.getD k 0 = ys.getD k 0) := hout2
        obtain ⟨cq, hfq⟩ := hcqp.cell (k := j) (by rw [HQL.out]; omega)
        have hset := hcqp.set j (q - 1) (by omega)
        have hgs := grownBy_one wp gq j (U (q - 1))
        have hcz2 := hczp.grown hgs hlq
        have hnb2 := hnbp.grown (fun a h => by rw [Option.some.injEq] at h; subst h; exact hbq) hgs
        have hbel2 := hbelp.setCell (p := ⟨gq, j, none⟩) (by show _ ≤ gq; rw [← HGL.out]; omega) (U (q - 1))
        rw [show U (q - 1) = .int .u32 ((q : Int) - 1) by unfold U; congr 1; omega] at hset hcz2 hnb2 hbel2
        obtain ⟨x, hx⟩ : ∃ x, x = qs.getD j 0 := ⟨_, rfl⟩
        rw [← hx] at cq
        clear hcqp hczp hnbp hbelp hx hgs hcq' hcz' hnb' hbel' hz2 hgr hout heq hout2 hz3 hl2 HLM HEQ HOUT HZ'
        go_wp2_with fail
        go_roundw
        case rel =>
          refine ⟨j, z2, qs.set j (q - 1), by omega, by go_num, by rw [HZ2.out]; exact HYL.out, by rw [List.length_set]; exact HQL.out, hcz2, hset, hnb2, hbel2, ?_, HNX.out.2.1⟩
          rw [long_quo (by rw [HQL.out]; omega)]
          have hI := HI.out
          rw [Nat.pow_succ] at hI
          exact long_inv hI (long_val (by rw [HYL.out]; omega) HZ2.out (fun k hk => HO2.out k (Or.inl hk))) HNX.out.2.2
        case measure => simp [intOf]
    · have hi1 : i = 0 := by omega
      subst hi1
      have hge : ¬ (0 : Int) ≤ ((0 : Nat) : Int) - 1 := by omega
      have hI := HI.out
      have hL := HLT.out
      rw [List.drop_zero, Nat.pow_zero, Nat.mul_one] at hI
      rw [List.drop_zero] at hL
      have hend := long_end hI hL
      have hup0 : 0 < 2 ^ up := Nat.two_pow_pos _
      rw [← HA.out, ← HB.out, Nat.mul_div_mul_right _ _ hup0, Nat.mul_mod_mul_right] at hend
      have HQ : Hid (val qs = val A / val Bl) := hend.1
      have HR : Hid (val ys = val A % val Bl * 2 ^ up) := hend.2
      clear hend hI hL hnb
      have nq : Num wr (.slice (some ⟨gq, 0, none⟩) L L) qs := by
        have := (hcq.own (B := 0) (Nat.zero_le _) (by rw [HQL.out]; omega)).num
        rw [HQL.out] at this; exact this
      have nz : Num wr (.slice (some ⟨gl, 0, none⟩) (la + 1) (la + 1)) ys := by
        have := (hcz.own (B := 0) (Nat.zero_le _) (by rw [HYL.out]; omega)).num
        rw [HYL.out] at this; exact this
      go_wp2_with fail
      refine (trim_any _ _ _ nq).mono ?_
      rintro e w5 ⟨⟨k, hk, hkt, rfl⟩, rfl⟩
      go_wp2_with fail
      refine (trim_any _ _ _ nz).mono ?_
      rintro e w6 ⟨⟨k2, hk2, hkt2, rfl⟩, rfl⟩
      have nz2 := nz.cut hk2
      rw [hkt2] at nz2
      have hlen : (lim (val ys)).length ≤ la + 1 := lim_len_le (by have := val_lt hcz.1; rw [HYL.out] at this; exact this)
      rw [HR.out] at nz2 hlen
      have oq : Own w.heap.size 100 w6 (cutTo (.slice (some ⟨gq, 0, none⟩) L L) k) (lim (val A / val Bl)) := by
        have h1 := hcq.own (B := w.heap.size) (by rw [← HGL.out]; omega) (by rw [HQL.out]; omega)
        rw [HQL.out] at h1
        have h2 := h1.cut hk
        rw [hkt, HQ.out] at h2
        exact h2
      go_wp2_with fail
      refine (drop_any _ _ up _ nz2 (by omega) (by omega)).mono ?_
      rintro e w7 ⟨r, rfl, hor, hb7⟩
      rw [val_lim, Nat.mul_div_cancel _ hup0] at hor
      have HE : Hid (LongEnd w (val A) (val Bl) (.returned (.tuple #[cutTo (.slice (some ⟨gq, 0, none⟩) L L) k, r])) w7) :=
        ⟨_, _, rfl, oq.below hb7, hor.mono hbel.size, apart_later oq hor (Nat.le_refl _), hbel.trans (hb7.mono hbel.size)⟩
      clear oq hor hb7 nz nq nz2 hbel hcz hcq hk hkt hk2 hkt2 hlen
      go_wp2_with fail
      go_ret2
      exact HE.out
end Go.Proofs.YtaafijifiiiblaaGreat

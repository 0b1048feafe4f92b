/-
  Proved here: SetFloats's own walk.
-/
import Derived.Test.YtknibmehbplpbaaSetYF
import Derived.Deep.CutRange
namespace Go.Proofs.Ytknibmehbplpbaa
open Go.Shelf Go.RowKit Go.Lib Go.Sort
theorem rHasB (v : Value) (L : List Nat) (x : Nat) (w : World) (hv : RG (Value.float .f64) w v L) : Calls Try.prog 28 #[v, .float .f64 x] w fun e w' => e = .returned (.bool (hasF L x)) ∧ Below w.heap.size w w' :=
  (rHasF v L x w hv).mono fun _ _ ⟨h1, h2⟩ => ⟨h1, by rw [h2]; exact Below.refl _ _⟩
set_option maxHeartbeats 32000000 in
set_option maxRecDepth 1000000 in
theorem setFloats_top (v0 : Value) (L0 : List Nat) (v1 : Value) (L1 : List Nat) (x : Nat) (w : World) (hv0 : RG (Value.float .f64) w v0 L0) (hv1 : RG (Value.float .f64) w v1 L1) :
    Calls Try.prog 5 #[v0, v1, .float .f64 x] w fun e w' => e = .returned (.bool true) ∧ Below w.heap.size w w' := by
  obtain ⟨g, hg⟩ : ∃ g, g = w.heap.size := ⟨_, rfl⟩
  obtain ⟨i0, hi, hz0, hz1, hz2⟩ := info_parts infoF
  have bw : Below g w w := Below.refl _ _
  have zw : g ≤ w.heap.size := Nat.le_of_eq hg
  rw [← hg]
  obtain ⟨a0, p0, rfl, hc0, hm0, -⟩ := id hv0
  obtain ⟨a1, p1, rfl, hc1, hm1, -⟩ := id hv1
  unfold maxLen at hm0 hm1
  obtain ⟨n0, hn0⟩ : ∃ n, L0.length = n := ⟨_, rfl⟩
  obtain ⟨n1, hn1⟩ : ∃ n, L1.length = n := ⟨_, rfl⟩
  rw [hn0] at hc0 hv0 ⊢
  rw [hn1] at hc1 hv1 ⊢
  have HN0 : Hid (L0.length = n0) := hn0
  have HN1 : Hid (L1.length = n1) := hn1
  clear hn0 hn1 hg
  go_enter Try.func5, Try.ntmps5
  by_cases h300 : 300 < n0
  · have hz : (n0 : Int) > 300 := by omega
    have HE : Hid (Below g w w) := bw
    clear bw zw hv0 hv1
    go_wp2
    go_ret
    exact ⟨rfl, HE.out⟩
  by_cases h301 : 300 < n1
  · have hz : ¬ (n0 : Int) > 300 := by omega
    have hzb : (n1 : Int) > 300 := by omega
    have HE : Hid (Below g w w) := bw
    clear bw zw hv0 hv1
    go_wp2
    go_ret
    exact ⟨rfl, HE.out⟩
  have hz : ¬ (n0 : Int) > 300 := by omega
  have hzb : ¬ (n1 : Int) > 300 := by omega
  have CC : Hid _ := rOfF _ L0 _ hv0 (by rw [HN0.out]; omega)
  have H_hv0 : Hid (RG (Value.float .f64) w (.slice a0 n0 p0) L0) := hv0
  have H_hv1 : Hid (RG (Value.float .f64) w (.slice a1 n1 p1) L1) := hv1
  have H_bw : Hid (Below g w w) := bw
  have H_zw : Hid (g ≤ w.heap.size) := zw
  clear hv0 hv1 bw zw
  go_wp2_with fail
  refine Calls.mono CC.out ?_
  rintro e x1 ⟨pv, rfl, op, b1⟩
  clear CC
  have hv0 := H_hv0.out
  have hv1 := H_hv1.out
  have bw := H_bw.out
  have zw := H_zw.out
  clear H_hv0 H_hv1 H_bw H_zw
  have rp := op.rg
  clear op
  obtain ⟨po, pc, rfl, hpc, hpm, -⟩ := id rp
  unfold maxLen at hpm
  replace hv0 := hv0.below (Nat.le_refl _) b1
  replace hv1 := hv1.below (Nat.le_refl _) b1
  replace bw := bw.trans (b1.mono zw)
  replace zw : g ≤ x1.heap.size := Nat.le_trans zw b1.size
  clear b1
  obtain ⟨T, hT⟩ : ∃ T, T = ofD (ltOf cfF) L0 := ⟨_, rfl⟩
  rw [← hT] at rp hpc ⊢
  have HT : Hid (T = ofD (ltOf cfF) L0) := hT
  clear hT
  obtain ⟨n, hn⟩ : ∃ n, T.length = n := ⟨_, rfl⟩
  rw [hn] at rp hpc ⊢
  have HN : Hid (T.length = n) := hn
  clear hn
  have hn3 : n ≤ 300 := by have := ofD_len (lt := ltOf cfF) L0; rw [← HT.out, HN.out, HN0.out] at this; omega
  have CC : Hid _ := sxOfF hv0 (k := 300) (by rw [HN0.out]; omega) (by omega)
  have H_hv0 : Hid (RG (Value.float .f64) x1 (.slice a0 n0 p0) L0) := hv0
  have H_hv1 : Hid (RG (Value.float .f64) x1 (.slice a1 n1 p1) L1) := hv1
  have H_rp : Hid (RG (Value.float .f64) x1 (.slice po n pc) T) := rp
  have H_bw : Hid (Below g w x1) := bw
  have H_zw : Hid (g ≤ x1.heap.size) := zw
  clear hv0 hv1 rp bw zw
  go_wp2_with fail
  refine Calls.mono CC.out ?_
  rintro e x2 ⟨so, sl, sc, rfl, hs, b2⟩
  clear CC
  have hv0 := H_hv0.out
  have hv1 := H_hv1.out
  have rp := H_rp.out
  have bw := H_bw.out
  have zw := H_zw.out
  clear H_hv0 H_hv1 H_rp H_bw H_zw
  replace hv0 := hv0.below (Nat.le_refl _) b2
  replace hv1 := hv1.below (Nat.le_refl _) b2
  replace rp := rp.below (Nat.le_refl _) b2
  replace bw := bw.trans (b2.mono zw)
  replace zw : g ≤ x2.heap.size := Nat.le_trans zw b2.size
  clear b2
  obtain ⟨W3, hW3⟩ : ∃ u, u = x2.alloc (.cells #[.slice so sl sc] 52) := ⟨_, rfl⟩
  obtain ⟨bs, hbs⟩ : ∃ s, s = x2.heap.size := ⟨_, rfl⟩
  have sbs : SCell 52 W3 bs (.slice so sl sc) := by rw [hW3, hbs]; exact SCell.new x2 rfl
  have bq : Below x2.heap.size x2 W3 := by rw [hW3]; exact (Below.refl _ _).alloc (Nat.le_refl _) _
  have HW3 : Hid (W3 = x2.alloc (.cells #[.slice so sl sc] 52)) := hW3
  have Hbs : Hid (bs = x2.heap.size) := hbs
  clear hW3 hbs
  replace hv0 := hv0.below (Nat.le_refl _) bq
  replace hv1 := hv1.below (Nat.le_refl _) bq
  replace rp := rp.below (Nat.le_refl _) bq
  replace hs := hs.below bq
  replace bw := bw.trans (bq.mono zw)
  replace zw : g ≤ W3.heap.size := Nat.le_trans zw bq.size
  clear bq
  have H_hv0 : Hid (RG (Value.float .f64) W3 (.slice a0 n0 p0) L0) := hv0
  have H_hv1 : Hid (RG (Value.float .f64) W3 (.slice a1 n1 p1) L1) := hv1
  have H_rp : Hid (RG (Value.float .f64) W3 (.slice po n pc) T) := rp
  have H_hs : Hid (SXF W3 (.slice so sl sc) (ofD (ltOf cfF) L0) 300) := hs
  have H_sbs : Hid (SCell 52 W3 bs (.slice so sl sc)) := sbs
  have H_bw : Hid (Below g w W3) := bw
  have H_zw : Hid (g ≤ W3.heap.size) := zw
  clear hv0 hv1 rp hs sbs bw zw
  go_upto_region 5 with fail
  rw [← HW3.out, ← Hbs.out]
  clear HW3 Hbs
  have hv0 := H_hv0.out
  have hv1 := H_hv1.out
  have rp := H_rp.out
  have hs := H_hs.out
  have sbs := H_sbs.out
  have bw := H_bw.out
  have zw := H_zw.out
  clear H_hv0 H_hv1 H_rp H_hs H_sbs H_bw H_zw
  have CC : Hid _ := sxOfF hv1 (k := 300) (by rw [HN1.out]; omega) (by omega)
  have H_hv0 : Hid (RG (Value.float .f64) W3 (.slice a0 n0 p0) L0) := hv0
  have H_hv1 : Hid (RG (Value.float .f64) W3 (.slice a1 n1 p1) L1) := hv1
  have H_rp : Hid (RG (Value.float .f64) W3 (.slice po n pc) T) := rp
  have H_hs : Hid (SXF W3 (.slice so sl sc) (ofD (ltOf cfF) L0) 300) := hs
  have H_sbs : Hid (SCell 52 W3 bs (.slice so sl sc)) := sbs
  have H_bw : Hid (Below g w W3) := bw
  have H_zw : Hid (g ≤ W3.heap.size) := zw
  clear hv0 hv1 rp hs sbs bw zw
  go_wp2_with fail
  refine Calls.mono CC.out ?_
  rintro e x4 ⟨tto, ttl, ttc, rfl, htt, b4⟩
  clear CC
  have hv0 := H_hv0.out
  have hv1 := H_hv1.out
  have rp := H_rp.out
  have hs := H_hs.out
  have sbs := H_sbs.out
  have bw := H_bw.out
  have zw := H_zw.out
  clear H_hv0 H_hv1 H_rp H_hs H_sbs H_bw H_zw
  replace hv0 := hv0.below (Nat.le_refl _) b4
  replace hv1 := hv1.below (Nat.le_refl _) b4
  replace rp := rp.below (Nat.le_refl _) b4
  replace hs := hs.below b4
  replace sbs := sbs.below b4
  replace bw := bw.trans (b4.mono zw)
  replace zw : g ≤ x4.heap.size := Nat.le_trans zw b4.size
  clear b4
  obtain ⟨W5, hW5⟩ : ∃ u, u = x4.alloc (.cells #[.slice tto ttl ttc] 52) := ⟨_, rfl⟩
  obtain ⟨bt, hbt⟩ : ∃ s, s = x4.heap.size := ⟨_, rfl⟩
  have sbt : SCell 52 W5 bt (.slice tto ttl ttc) := by rw [hW5, hbt]; exact SCell.new x4 rfl
  have bq : Below x4.heap.size x4 W5 := by rw [hW5]; exact (Below.refl _ _).alloc (Nat.le_refl _) _
  have HW5 : Hid (W5 = x4.alloc (.cells #[.slice tto ttl ttc] 52)) := hW5
  have Hbt : Hid (bt = x4.heap.size) := hbt
  clear hW5 hbt
  replace hv0 := hv0.below (Nat.le_refl _) bq
  replace hv1 := hv1.below (Nat.le_refl _) bq
  replace rp := rp.below (Nat.le_refl _) bq
  replace hs := hs.below bq
  replace sbs := sbs.below bq
  replace htt := htt.below bq
  replace bw := bw.trans (bq.mono zw)
  replace zw : g ≤ W5.heap.size := Nat.le_trans zw bq.size
  clear bq
  have H_hv0 : Hid (RG (Value.float .f64) W5 (.slice a0 n0 p0) L0) := hv0
  have H_hv1 : Hid (RG (Value.float .f64) W5 (.slice a1 n1 p1) L1) := hv1
  have H_rp : Hid (RG (Value.float .f64) W5 (.slice po n pc) T) := rp
  have H_hs : Hid (SXF W5 (.slice so sl sc) (ofD (ltOf cfF) L0) 300) := hs
  have H_sbs : Hid (SCell 52 W5 bs (.slice so sl sc)) := sbs
  have H_htt : Hid (SXF W5 (.slice tto ttl ttc) (ofD (ltOf cfF) L1) 300) := htt
  have H_sbt : Hid (SCell 52 W5 bt (.slice tto ttl ttc)) := sbt
  have H_bw : Hid (Below g w W5) := bw
  have H_zw : Hid (g ≤ W5.heap.size) := zw
  clear hv0 hv1 rp hs sbs htt sbt bw zw
  go_upto_region 6 with fail
  rw [← HW5.out, ← Hbt.out]
  clear HW5 Hbt
  have hv0 := H_hv0.out
  have hv1 := H_hv1.out
  have rp := H_rp.out
  have hs := H_hs.out
  have sbs := H_sbs.out
  have htt := H_htt.out
  have sbt := H_sbt.out
  have bw := H_bw.out
  have zw := H_zw.out
  clear H_hv0 H_hv1 H_rp H_hs H_sbs H_htt H_sbt H_bw H_zw
  rw [← HT.out] at hs
  have W0E : True := trivial
  have P0 : Hid (OG (Value.float .f64) W5.heap.size 48 W5 (.slice none 0 0) []) := OG.nil _ _ _
  have Q0 : Hid (Below W5.heap.size W5 W5) := Below.refl _ _
  have R6 : Hid (RG (Value.float .f64) W5 (.slice a0 n0 p0) L0) := hv0.below (Nat.le_refl _) Q0.out
  have Z6 : Hid (W5.heap.size ≤ W5.heap.size) := Q0.out.size
  have LL6 : Hid (([] : List Nat).length + (L0 : List Nat).length ≤ 1000) := by show _ ≤ _; have := HN0.out; have := HN1.out; simp; omega
  have H_hv0 : Hid (RG (Value.float .f64) W5 (.slice a0 n0 p0) L0) := hv0
  have H_hv1 : Hid (RG (Value.float .f64) W5 (.slice a1 n1 p1) L1) := hv1
  have H_rp : Hid (RG (Value.float .f64) W5 (.slice po n pc) T) := rp
  have H_hs : Hid (SXF W5 (.slice so sl sc) T 300) := hs
  have H_sbs : Hid (SCell 52 W5 bs (.slice so sl sc)) := sbs
  have H_htt : Hid (SXF W5 (.slice tto ttl ttc) (ofD (ltOf cfF) L1) 300) := htt
  have H_sbt : Hid (SCell 52 W5 bt (.slice tto ttl ttc)) := sbt
  have H_bw : Hid (Below g w W5) := bw
  have H_zw : Hid (g ≤ W5.heap.size) := zw
  clear hv0 hv1 rp hs sbs htt sbt bw zw
  go_wp2_with (at_builtin; refine wpList_appG _ oneF rfl _ _ 47 rfl W5.heap.size 48 i0 (.float .f64 0) 8 Try.underlying47 hi hz0 hz1 hz2 rfl _ _ ([]) (L0) rfl P0.out rfl R6.out (by have := LL6.out; unfold maxLen; omega) (by have := LL6.out; omega) Z6.out ?_)
  intro v6 y6 ho6 hg6
  have P6 : Hid (OG (Value.float .f64) W5.heap.size 48 y6 v6 ([] ++ L0)) := ho6
  have Q6 : Hid (Below W5.heap.size W5 y6) := P0.out.grown Q0.out Z6.out hg6
  clear ho6 hg6 Z6 R6 LL6
  have hv0 := H_hv0.out
  have hv1 := H_hv1.out
  have rp := H_rp.out
  have hs := H_hs.out
  have sbs := H_sbs.out
  have htt := H_htt.out
  have sbt := H_sbt.out
  have bw := H_bw.out
  have zw := H_zw.out
  clear H_hv0 H_hv1 H_rp H_hs H_sbs H_htt H_sbt H_bw H_zw
  have R7 : Hid (RG (Value.float .f64) y6 (.slice a1 n1 p1) L1) := hv1.below (Nat.le_refl _) Q6.out
  have Z7 : Hid (W5.heap.size ≤ y6.heap.size) := Q6.out.size
  have LL7 : Hid (([] ++ L0 : List Nat).length + (L1 : List Nat).length ≤ 1000) := by show _ ≤ _; have := HN0.out; have := HN1.out; simp; omega
  have H_hv0 : Hid (RG (Value.float .f64) W5 (.slice a0 n0 p0) L0) := hv0
  have H_hv1 : Hid (RG (Value.float .f64) W5 (.slice a1 n1 p1) L1) := hv1
  have H_rp : Hid (RG (Value.float .f64) W5 (.slice po n pc) T) := rp
  have H_hs : Hid (SXF W5 (.slice so sl sc) T 300) := hs
  have H_sbs : Hid (SCell 52 W5 bs (.slice so sl sc)) := sbs
  have H_htt : Hid (SXF W5 (.slice tto ttl ttc) (ofD (ltOf cfF) L1) 300) := htt
  have H_sbt : Hid (SCell 52 W5 bt (.slice tto ttl ttc)) := sbt
  have H_bw : Hid (Below g w W5) := bw
  have H_zw : Hid (g ≤ W5.heap.size) := zw
  clear hv0 hv1 rp hs sbs htt sbt bw zw
  go_wp2_with (at_builtin; refine wpList_appG _ oneF rfl _ _ 47 rfl W5.heap.size 48 i0 (.float .f64 0) 8 Try.underlying47 hi hz0 hz1 hz2 rfl _ _ ([] ++ L0) (L1) rfl P6.out rfl R7.out (by have := LL7.out; unfold maxLen; omega) (by have := LL7.out; omega) Z7.out ?_)
  intro v7 y7 ho7 hg7
  have P7 : Hid (OG (Value.float .f64) W5.heap.size 48 y7 v7 ([] ++ L0 ++ L1)) := ho7
  have Q7 : Hid (Below W5.heap.size W5 y7) := P6.out.grown Q6.out Z7.out hg7
  clear ho7 hg7 Z7 R7 LL7
  have hv0 := H_hv0.out
  have hv1 := H_hv1.out
  have rp := H_rp.out
  have hs := H_hs.out
  have sbs := H_sbs.out
  have htt := H_htt.out
  have sbt := H_sbt.out
  have bw := H_bw.out
  have zw := H_zw.out
  clear H_hv0 H_hv1 H_rp H_hs H_sbs H_htt H_sbt H_bw H_zw
  have rb : RG (Value.float .f64) y7 v7 (L0 ++ L1) := by have h := P7.out.rg; rw [List.nil_append] at h; exact h
  have bq := Q7.out
  clear P0 Q0
  obtain ⟨rbo, rbc, rbe⟩ := rb.sl
  obtain ⟨rbn, rbh⟩ : ∃ m, m = (L0 ++ L1).length := ⟨_, rfl⟩
  rw [← rbh] at rbe
  subst rbe
  clear rbh
  replace hv0 := hv0.below (Nat.le_refl _) bq
  replace hv1 := hv1.below (Nat.le_refl _) bq
  replace rp := rp.below (Nat.le_refl _) bq
  replace hs := hs.below bq
  replace sbs := sbs.below bq
  replace htt := htt.below bq
  replace sbt := sbt.below bq
  replace bw := bw.trans (bq.mono zw)
  replace zw : g ≤ y7.heap.size := Nat.le_trans zw bq.size
  clear bq
  have P0 : Hid (OG (Value.float .f64) y7.heap.size 48 y7 (.slice none 0 0) []) := OG.nil _ _ _
  have Q0 : Hid (Below y7.heap.size y7 y7) := Below.refl _ _
  have R8 : Hid (RG (Value.float .f64) y7 (.slice a0 n0 p0) L0) := hv0.below (Nat.le_refl _) Q0.out
  have Z8 : Hid (y7.heap.size ≤ y7.heap.size) := Q0.out.size
  have LL8 : Hid (([] : List Nat).length + (L0 : List Nat).length ≤ 1000) := by show _ ≤ _; have := HN0.out; have := HN1.out; simp; omega
  have H_hv0 : Hid (RG (Value.float .f64) y7 (.slice a0 n0 p0) L0) := hv0
  have H_hv1 : Hid (RG (Value.float .f64) y7 (.slice a1 n1 p1) L1) := hv1
  have H_rp : Hid (RG (Value.float .f64) y7 (.slice po n pc) T) := rp
  have H_hs : Hid (SXF y7 (.slice so sl sc) T 300) := hs
  have H_sbs : Hid (SCell 52 y7 bs (.slice so sl sc)) := sbs
  have H_htt : Hid (SXF y7 (.slice tto ttl ttc) (ofD (ltOf cfF) L1) 300) := htt
  have H_sbt : Hid (SCell 52 y7 bt (.slice tto ttl ttc)) := sbt
  have H_rb : Hid (RG (Value.float .f64) y7 (.slice rbo rbn rbc) (L0 ++ L1)) := rb
  have H_bw : Hid (Below g w y7) := bw
  have H_zw : Hid (g ≤ y7.heap.size) := zw
  clear hv0 hv1 rp hs sbs htt sbt rb bw zw
  go_wp2_with (at_builtin; refine wpList_appG _ oneF rfl _ _ 47 rfl y7.heap.size 48 i0 (.float .f64 0) 8 Try.underlying47 hi hz0 hz1 hz2 rfl _ _ ([]) (L0) rfl P0.out rfl R8.out (by have := LL8.out; unfold maxLen; omega) (by have := LL8.out; omega) Z8.out ?_)
  intro v8 y8 ho8 hg8
  have P8 : Hid (OG (Value.float .f64) y7.heap.size 48 y8 v8 ([] ++ L0)) := ho8
  have Q8 : Hid (Below y7.heap.size y7 y8) := P0.out.grown Q0.out Z8.out hg8
  clear ho8 hg8 Z8 R8 LL8
  have hv0 := H_hv0.out
  have hv1 := H_hv1.out
  have rp := H_rp.out
  have hs := H_hs.out
  have sbs := H_sbs.out
  have htt := H_htt.out
  have sbt := H_sbt.out
  have rb := H_rb.out
  have bw := H_bw.out
  have zw := H_zw.out
  clear H_hv0 H_hv1 H_rp H_hs H_sbs H_htt H_sbt H_rb H_bw H_zw
  have O9 : Hid (OG (Value.float .f64) y7.heap.size 48 (y8.alloc (.cells #[.float .f64 x] 48)) v8 ([] ++ L0)) := P8.out.below ((Below.refl _ _).alloc (Nat.le_refl _) _)
  have R9 : Hid (RG (Value.float .f64) (y8.alloc (.cells #[.float .f64 x] 48)) (.slice (some ⟨y8.heap.size, 0, none⟩) 1 1) [x]) := (OG.lit (enc := (Value.float .f64)) 48 y8 [x] (by unfold maxLen; simp)).rg
  have B9 : Hid (Below y7.heap.size y7 (y8.alloc (.cells #[.float .f64 x] 48))) := Q8.out.alloc Q8.out.size _
  have Z9 : Hid (y7.heap.size ≤ (y8.alloc (.cells #[.float .f64 x] 48)).heap.size) := B9.out.size
  have LL9 : Hid (([] ++ L0 : List Nat).length + ([x] : List Nat).length ≤ 1000) := by show _ ≤ _; have := HN0.out; have := HN1.out; simp; omega
  have H_hv0 : Hid (RG (Value.float .f64) y7 (.slice a0 n0 p0) L0) := hv0
  have H_hv1 : Hid (RG (Value.float .f64) y7 (.slice a1 n1 p1) L1) := hv1
  have H_rp : Hid (RG (Value.float .f64) y7 (.slice po n pc) T) := rp
  have H_hs : Hid (SXF y7 (.slice so sl sc) T 300) := hs
  have H_sbs : Hid (SCell 52 y7 bs (.slice so sl sc)) := sbs
  have H_htt : Hid (SXF y7 (.slice tto ttl ttc) (ofD (ltOf cfF) L1) 300) := htt
  have H_sbt : Hid (SCell 52 y7 bt (.slice tto ttl ttc)) := sbt
  have H_rb : Hid (RG (Value.float .f64) y7 (.slice rbo rbn rbc) (L0 ++ L1)) := rb
  have H_bw : Hid (Below g w y7) := bw
  have H_zw : Hid (g ≤ y7.heap.size) := zw
  clear hv0 hv1 rp hs sbs htt sbt rb bw zw
  go_wp2_with (at_builtin; refine wpList_appG _ oneF rfl _ _ 47 rfl y7.heap.size 48 i0 (.float .f64 0) 8 Try.underlying47 hi hz0 hz1 hz2 rfl _ _ ([] ++ L0) ([x]) rfl O9.out rfl R9.out (by have := LL9.out; unfold maxLen; omega) (by have := LL9.out; omega) Z9.out ?_)
  intro v9 y9 ho9 hg9
  have P9 : Hid (OG (Value.float .f64) y7.heap.size 48 y9 v9 ([] ++ L0 ++ [x])) := ho9
  have Q9 : Hid (Below y7.heap.size y7 y9) := O9.out.grown B9.out Z9.out hg9
  clear ho9 hg9 Z9 R9 LL9
  have hv0 := H_hv0.out
  have hv1 := H_hv1.out
  have rp := H_rp.out
  have hs := H_hs.out
  have sbs := H_sbs.out
  have htt := H_htt.out
  have sbt := H_sbt.out
  have rb := H_rb.out
  have bw := H_bw.out
  have zw := H_zw.out
  clear H_hv0 H_hv1 H_rp H_hs H_sbs H_htt H_sbt H_rb H_bw H_zw
  have rm : RG (Value.float .f64) y9 v9 (L0 ++ [x]) := by have h := P9.out.rg; rw [List.nil_append] at h; exact h
  have bq := Q9.out
  clear P0 Q0
  obtain ⟨rmo, rmc, rme⟩ := rm.sl
  obtain ⟨rmn, rmh⟩ : ∃ m, m = (L0 ++ [x]).length := ⟨_, rfl⟩
  rw [← rmh] at rme
  subst rme
  clear rmh
  replace hv0 := hv0.below (Nat.le_refl _) bq
  replace hv1 := hv1.below (Nat.le_refl _) bq
  replace rp := rp.below (Nat.le_refl _) bq
  replace hs := hs.below bq
  replace sbs := sbs.below bq
  replace htt := htt.below bq
  replace sbt := sbt.below bq
  replace rb := rb.below (Nat.le_refl _) bq
  replace bw := bw.trans (bq.mono zw)
  replace zw : g ≤ y9.heap.size := Nat.le_trans zw bq.size
  clear bq
  have cc0 := sbs.cell
  have CC : Hid _ := sxListF hs (by omega)
  have H_hv0 : Hid (RG (Value.float .f64) y9 (.slice a0 n0 p0) L0) := hv0
  have H_hv1 : Hid (RG (Value.float .f64) y9 (.slice a1 n1 p1) L1) := hv1
  have H_rp : Hid (RG (Value.float .f64) y9 (.slice po n pc) T) := rp
  have H_hs : Hid (SXF y9 (.slice so sl sc) T 300) := hs
  have H_sbs : Hid (SCell 52 y9 bs (.slice so sl sc)) := sbs
  have H_htt : Hid (SXF y9 (.slice tto ttl ttc) (ofD (ltOf cfF) L1) 300) := htt
  have H_sbt : Hid (SCell 52 y9 bt (.slice tto ttl ttc)) := sbt
  have H_rb : Hid (RG (Value.float .f64) y9 (.slice rbo rbn rbc) (L0 ++ L1)) := rb
  have H_rm : Hid (RG (Value.float .f64) y9 (.slice rmo rmn rmc) (L0 ++ [x])) := rm
  have H_bw : Hid (Below g w y9) := bw
  have H_zw : Hid (g ≤ y9.heap.size) := zw
  clear hv0 hv1 rp hs sbs htt sbt rb rm bw zw
  go_wp2_with fail
  refine Calls.mono CC.out ?_
  rintro e x10 ⟨l1, rfl, ol, b10⟩
  clear CC cc0
  have hv0 := H_hv0.out
  have hv1 := H_hv1.out
  have rp := H_rp.out
  have hs := H_hs.out
  have sbs := H_sbs.out
  have htt := H_htt.out
  have sbt := H_sbt.out
  have rb := H_rb.out
  have rm := H_rm.out
  have bw := H_bw.out
  have zw := H_zw.out
  clear H_hv0 H_hv1 H_rp H_hs H_sbs H_htt H_sbt H_rb H_rm H_bw H_zw
  have r1 := ol.rg
  clear ol
  replace hv0 := hv0.below (Nat.le_refl _) b10
  replace hv1 := hv1.below (Nat.le_refl _) b10
  replace rp := rp.below (Nat.le_refl _) b10
  replace hs := hs.below b10
  replace sbs := sbs.below b10
  replace htt := htt.below b10
  replace sbt := sbt.below b10
  replace rb := rb.below (Nat.le_refl _) b10
  replace rm := rm.below (Nat.le_refl _) b10
  replace bw := bw.trans (b10.mono zw)
  replace zw : g ≤ x10.heap.size := Nat.le_trans zw b10.size
  clear b10
  have CC : Hid _ := floatsF _ _ _ _ r1 rp
  have H_hv0 : Hid (RG (Value.float .f64) x10 (.slice a0 n0 p0) L0) := hv0
  have H_hv1 : Hid (RG (Value.float .f64) x10 (.slice a1 n1 p1) L1) := hv1
  have H_rp : Hid (RG (Value.float .f64) x10 (.slice po n pc) T) := rp
  have H_hs : Hid (SXF x10 (.slice so sl sc) T 300) := hs
  have H_sbs : Hid (SCell 52 x10 bs (.slice so sl sc)) := sbs
  have H_htt : Hid (SXF x10 (.slice tto ttl ttc) (ofD (ltOf cfF) L1) 300) := htt
  have H_sbt : Hid (SCell 52 x10 bt (.slice tto ttl ttc)) := sbt
  have H_rb : Hid (RG (Value.float .f64) x10 (.slice rbo rbn rbc) (L0 ++ L1)) := rb
  have H_rm : Hid (RG (Value.float .f64) x10 (.slice rmo rmn rmc) (L0 ++ [x])) := rm
  have H_r1 : Hid (RG (Value.float .f64) x10 l1 T) := r1
  have H_bw : Hid (Below g w x10) := bw
  have H_zw : Hid (g ≤ x10.heap.size) := zw
  clear hv0 hv1 rp hs sbs htt sbt rb rm r1 bw zw
  go_wp2_with fail
  refine Calls.mono CC.out ?_
  rintro e x11 ⟨rfl, b11⟩
  clear CC
  have hv0 := H_hv0.out
  have hv1 := H_hv1.out
  have rp := H_rp.out
  have hs := H_hs.out
  have sbs := H_sbs.out
  have htt := H_htt.out
  have sbt := H_sbt.out
  have rb := H_rb.out
  have rm := H_rm.out
  have r1 := H_r1.out
  have bw := H_bw.out
  have zw := H_zw.out
  clear H_hv0 H_hv1 H_rp H_hs H_sbs H_htt H_sbt H_rb H_rm H_r1 H_bw H_zw
  replace hv0 := hv0.below (Nat.le_refl _) b11
  replace hv1 := hv1.below (Nat.le_refl _) b11
  replace rp := rp.below (Nat.le_refl _) b11
  replace hs := hs.below b11
  replace sbs := sbs.below b11
  replace htt := htt.below b11
  replace sbt := sbt.below b11
  replace rb := rb.below (Nat.le_refl _) b11
  replace rm := rm.below (Nat.le_refl _) b11
  replace r1 := r1.below (Nat.le_refl _) b11
  replace bw := bw.trans (b11.mono zw)
  replace zw : g ≤ x11.heap.size := Nat.le_trans zw b11.size
  clear b11
  clear r1
  obtain ⟨bh, hbh⟩ : ∃ b, b = hasF T x := ⟨_, rfl⟩
  have HBH : Hid (hasF T x = bh) := hbh.symm
  clear hbh
  have cc0 := sbs.cell
  have CC : Hid _ := (by have h := sxHasF hs (by omega) x; rw [HBH.out] at h; exact h)
  have H_hv0 : Hid (RG (Value.float .f64) x11 (.slice a0 n0 p0) L0) := hv0
  have H_hv1 : Hid (RG (Value.float .f64) x11 (.slice a1 n1 p1) L1) := hv1
  have H_rp : Hid (RG (Value.float .f64) x11 (.slice po n pc) T) := rp
  have H_hs : Hid (SXF x11 (.slice so sl sc) T 300) := hs
  have H_sbs : Hid (SCell 52 x11 bs (.slice so sl sc)) := sbs
  have H_htt : Hid (SXF x11 (.slice tto ttl ttc) (ofD (ltOf cfF) L1) 300) := htt
  have H_sbt : Hid (SCell 52 x11 bt (.slice tto ttl ttc)) := sbt
  have H_rb : Hid (RG (Value.float .f64) x11 (.slice rbo rbn rbc) (L0 ++ L1)) := rb
  have H_rm : Hid (RG (Value.float .f64) x11 (.slice rmo rmn rmc) (L0 ++ [x])) := rm
  have H_bw : Hid (Below g w x11) := bw
  have H_zw : Hid (g ≤ x11.heap.size) := zw
  clear hv0 hv1 rp hs sbs htt sbt rb rm bw zw
  go_wp2_with fail
  refine Calls.mono CC.out ?_
  rintro e x12 ⟨rfl, b12⟩
  clear CC cc0
  have hv0 := H_hv0.out
  have hv1 := H_hv1.out
  have rp := H_rp.out
  have hs := H_hs.out
  have sbs := H_sbs.out
  have htt := H_htt.out
  have sbt := H_sbt.out
  have rb := H_rb.out
  have rm := H_rm.out
  have bw := H_bw.out
  have zw := H_zw.out
  clear H_hv0 H_hv1 H_rp H_hs H_sbs H_htt H_sbt H_rb H_rm H_bw H_zw
  replace hv0 := hv0.below (Nat.le_refl _) b12
  replace hv1 := hv1.below (Nat.le_refl _) b12
  replace rp := rp.below (Nat.le_refl _) b12
  replace hs := hs.below b12
  replace sbs := sbs.below b12
  replace htt := htt.below b12
  replace sbt := sbt.below b12
  replace rb := rb.below (Nat.le_refl _) b12
  replace rm := rm.below (Nat.le_refl _) b12
  replace bw := bw.trans (b12.mono zw)
  replace zw : g ≤ x12.heap.size := Nat.le_trans zw b12.size
  clear b12
  have CC : Hid _ := (by have h := rHasB _ T x _ rp; rw [HBH.out] at h; exact h)
  have H_hv0 : Hid (RG (Value.float .f64) x12 (.slice a0 n0 p0) L0) := hv0
  have H_hv1 : Hid (RG (Value.float .f64) x12 (.slice a1 n1 p1) L1) := hv1
  have H_rp : Hid (RG (Value.float .f64) x12 (.slice po n pc) T) := rp
  have H_hs : Hid (SXF x12 (.slice so sl sc) T 300) := hs
  have H_sbs : Hid (SCell 52 x12 bs (.slice so sl sc)) := sbs
  have H_htt : Hid (SXF x12 (.slice tto ttl ttc) (ofD (ltOf cfF) L1) 300) := htt
  have H_sbt : Hid (SCell 52 x12 bt (.slice tto ttl ttc)) := sbt
  have H_rb : Hid (RG (Value.float .f64) x12 (.slice rbo rbn rbc) (L0 ++ L1)) := rb
  have H_rm : Hid (RG (Value.float .f64) x12 (.slice rmo rmn rmc) (L0 ++ [x])) := rm
  have H_bw : Hid (Below g w x12) := bw
  have H_zw : Hid (g ≤ x12.heap.size) := zw
  clear hv0 hv1 rp hs sbs htt sbt rb rm bw zw
  go_wp2_with fail
  refine Calls.mono CC.out ?_
  rintro e x13 ⟨rfl, b13⟩
  clear CC
  have hv0 := H_hv0.out
  have hv1 := H_hv1.out
  have rp := H_rp.out
  have hs := H_hs.out
  have sbs := H_sbs.out
  have htt := H_htt.out
  have sbt := H_sbt.out
  have rb := H_rb.out
  have rm := H_rm.out
  have bw := H_bw.out
  have zw := H_zw.out
  clear H_hv0 H_hv1 H_rp H_hs H_sbs H_htt H_sbt H_rb H_rm H_bw H_zw
  replace hv0 := hv0.below (Nat.le_refl _) b13
  replace hv1 := hv1.below (Nat.le_refl _) b13
  replace rp := rp.below (Nat.le_refl _) b13
  replace hs := hs.below b13
  replace sbs := sbs.below b13
  replace htt := htt.below b13
  replace sbt := sbt.below b13
  replace rb := rb.below (Nat.le_refl _) b13
  replace rm := rm.below (Nat.le_refl _) b13
  replace bw := bw.trans (b13.mono zw)
  replace zw : g ≤ x13.heap.size := Nat.le_trans zw b13.size
  clear b13
  have cc0 := sbs.cell
  have cc1 := sbt.cell
  have CC : Hid _ := sxJoinF (by have h := hs; rw [HT.out] at h; exact h) htt (by omega) (by omega)
  have H_hv0 : Hid (RG (Value.float .f64) x13 (.slice a0 n0 p0) L0) := hv0
  have H_hv1 : Hid (RG (Value.float .f64) x13 (.slice a1 n1 p1) L1) := hv1
  have H_rp : Hid (RG (Value.float .f64) x13 (.slice po n pc) T) := rp
  have H_hs : Hid (SXF x13 (.slice so sl sc) T 300) := hs
  have H_sbs : Hid (SCell 52 x13 bs (.slice so sl sc)) := sbs
  have H_htt : Hid (SXF x13 (.slice tto ttl ttc) (ofD (ltOf cfF) L1) 300) := htt
  have H_sbt : Hid (SCell 52 x13 bt (.slice tto ttl ttc)) := sbt
  have H_rb : Hid (RG (Value.float .f64) x13 (.slice rbo rbn rbc) (L0 ++ L1)) := rb
  have H_rm : Hid (RG (Value.float .f64) x13 (.slice rmo rmn rmc) (L0 ++ [x])) := rm
  have H_bw : Hid (Below g w x13) := bw
  have H_zw : Hid (g ≤ x13.heap.size) := zw
  clear hv0 hv1 rp hs sbs htt sbt rb rm bw zw
  go_wp2_with fail
  refine Calls.mono CC.out ?_
  rintro e x14 ⟨jo, jl, jc, rfl, hj, b14⟩
  clear CC cc0 cc1
  have hv0 := H_hv0.out
  have hv1 := H_hv1.out
  have rp := H_rp.out
  have hs := H_hs.out
  have sbs := H_sbs.out
  have htt := H_htt.out
  have sbt := H_sbt.out
  have rb := H_rb.out
  have rm := H_rm.out
  have bw := H_bw.out
  have zw := H_zw.out
  clear H_hv0 H_hv1 H_rp H_hs H_sbs H_htt H_sbt H_rb H_rm H_bw H_zw
  replace hv0 := hv0.below (Nat.le_refl _) b14
  replace hv1 := hv1.below (Nat.le_refl _) b14
  replace rp := rp.below (Nat.le_refl _) b14
  replace hs := hs.below b14
  replace sbs := sbs.below b14
  replace htt := htt.below b14
  replace sbt := sbt.below b14
  replace rb := rb.below (Nat.le_refl _) b14
  replace rm := rm.below (Nat.le_refl _) b14
  replace bw := bw.trans (b14.mono zw)
  replace zw : g ≤ x14.heap.size := Nat.le_trans zw b14.size
  clear b14
  have CC : Hid _ := sxListF hj (by omega)
  have H_hv0 : Hid (RG (Value.float .f64) x14 (.slice a0 n0 p0) L0) := hv0
  have H_hv1 : Hid (RG (Value.float .f64) x14 (.slice a1 n1 p1) L1) := hv1
  have H_rp : Hid (RG (Value.float .f64) x14 (.slice po n pc) T) := rp
  have H_hs : Hid (SXF x14 (.slice so sl sc) T 300) := hs
  have H_sbs : Hid (SCell 52 x14 bs (.slice so sl sc)) := sbs
  have H_htt : Hid (SXF x14 (.slice tto ttl ttc) (ofD (ltOf cfF) L1) 300) := htt
  have H_sbt : Hid (SCell 52 x14 bt (.slice tto ttl ttc)) := sbt
  have H_rb : Hid (RG (Value.float .f64) x14 (.slice rbo rbn rbc) (L0 ++ L1)) := rb
  have H_rm : Hid (RG (Value.float .f64) x14 (.slice rmo rmn rmc) (L0 ++ [x])) := rm
  have H_hj : Hid (SXF x14 (.slice jo jl jc) (ofD (ltOf cfF) (L0 ++ L1)) (300 + 300)) := hj
  have H_bw : Hid (Below g w x14) := bw
  have H_zw : Hid (g ≤ x14.heap.size) := zw
  clear hv0 hv1 rp hs sbs htt sbt rb rm hj bw zw
  go_wp2_with fail
  refine Calls.mono CC.out ?_
  rintro e x15 ⟨l2, rfl, ol, b15⟩
  clear CC
  have hv0 := H_hv0.out
  have hv1 := H_hv1.out
  have rp := H_rp.out
  have hs := H_hs.out
  have sbs := H_sbs.out
  have htt := H_htt.out
  have sbt := H_sbt.out
  have rb := H_rb.out
  have rm := H_rm.out
  have hj := H_hj.out
  have bw := H_bw.out
  have zw := H_zw.out
  clear H_hv0 H_hv1 H_rp H_hs H_sbs H_htt H_sbt H_rb H_rm H_hj H_bw H_zw
  have r1 := ol.rg
  clear ol
  replace hv0 := hv0.below (Nat.le_refl _) b15
  replace hv1 := hv1.below (Nat.le_refl _) b15
  replace rp := rp.below (Nat.le_refl _) b15
  replace hs := hs.below b15
  replace sbs := sbs.below b15
  replace htt := htt.below b15
  replace sbt := sbt.below b15
  replace rb := rb.below (Nat.le_refl _) b15
  replace rm := rm.below (Nat.le_refl _) b15
  replace hj := hj.below b15
  replace bw := bw.trans (b15.mono zw)
  replace zw : g ≤ x15.heap.size := Nat.le_trans zw b15.size
  clear b15
  clear hj
  have CC : Hid _ := rOfF _ (L0 ++ L1) _ rb (by rw [List.length_append, HN0.out, HN1.out]; omega)
  have H_hv0 : Hid (RG (Value.float .f64) x15 (.slice a0 n0 p0) L0) := hv0
  have H_hv1 : Hid (RG (Value.float .f64) x15 (.slice a1 n1 p1) L1) := hv1
  have H_rp : Hid (RG (Value.float .f64) x15 (.slice po n pc) T) := rp
  have H_hs : Hid (SXF x15 (.slice so sl sc) T 300) := hs
  have H_sbs : Hid (SCell 52 x15 bs (.slice so sl sc)) := sbs
  have H_htt : Hid (SXF x15 (.slice tto ttl ttc) (ofD (ltOf cfF) L1) 300) := htt
  have H_sbt : Hid (SCell 52 x15 bt (.slice tto ttl ttc)) := sbt
  have H_rb : Hid (RG (Value.float .f64) x15 (.slice rbo rbn rbc) (L0 ++ L1)) := rb
  have H_rm : Hid (RG (Value.float .f64) x15 (.slice rmo rmn rmc) (L0 ++ [x])) := rm
  have H_r1 : Hid (RG (Value.float .f64) x15 l2 (ofD (ltOf cfF) (L0 ++ L1))) := r1
  have H_bw : Hid (Below g w x15) := bw
  have H_zw : Hid (g ≤ x15.heap.size) := zw
  clear hv0 hv1 rp hs sbs htt sbt rb rm r1 bw zw
  go_wp2_with fail
  refine Calls.mono CC.out ?_
  rintro e x16 ⟨u2, rfl, ou, b16⟩
  clear CC
  have hv0 := H_hv0.out
  have hv1 := H_hv1.out
  have rp := H_rp.out
  have hs := H_hs.out
  have sbs := H_sbs.out
  have htt := H_htt.out
  have sbt := H_sbt.out
  have rb := H_rb.out
  have rm := H_rm.out
  have r1 := H_r1.out
  have bw := H_bw.out
  have zw := H_zw.out
  clear H_hv0 H_hv1 H_rp H_hs H_sbs H_htt H_sbt H_rb H_rm H_r1 H_bw H_zw
  have r2 := ou.rg
  clear ou
  replace hv0 := hv0.below (Nat.le_refl _) b16
  replace hv1 := hv1.below (Nat.le_refl _) b16
  replace rp := rp.below (Nat.le_refl _) b16
  replace hs := hs.below b16
  replace sbs := sbs.below b16
  replace htt := htt.below b16
  replace sbt := sbt.below b16
  replace rb := rb.below (Nat.le_refl _) b16
  replace rm := rm.below (Nat.le_refl _) b16
  replace r1 := r1.below (Nat.le_refl _) b16
  replace bw := bw.trans (b16.mono zw)
  replace zw : g ≤ x16.heap.size := Nat.le_trans zw b16.size
  clear b16
  have CC : Hid _ := floatsF _ _ _ _ r1 r2
  have H_hv0 : Hid (RG (Value.float .f64) x16 (.slice a0 n0 p0) L0) := hv0
  have H_hv1 : Hid (RG (Value.float .f64) x16 (.slice a1 n1 p1) L1) := hv1
  have H_rp : Hid (RG (Value.float .f64) x16 (.slice po n pc) T) := rp
  have H_hs : Hid (SXF x16 (.slice so sl sc) T 300) := hs
  have H_sbs : Hid (SCell 52 x16 bs (.slice so sl sc)) := sbs
  have H_htt : Hid (SXF x16 (.slice tto ttl ttc) (ofD (ltOf cfF) L1) 300) := htt
  have H_sbt : Hid (SCell 52 x16 bt (.slice tto ttl ttc)) := sbt
  have H_rb : Hid (RG (Value.float .f64) x16 (.slice rbo rbn rbc) (L0 ++ L1)) := rb
  have H_rm : Hid (RG (Value.float .f64) x16 (.slice rmo rmn rmc) (L0 ++ [x])) := rm
  have H_r1 : Hid (RG (Value.float .f64) x16 l2 (ofD (ltOf cfF) (L0 ++ L1))) := r1
  have H_r2 : Hid (RG (Value.float .f64) x16 u2 (ofD (ltOf cfF) (L0 ++ L1))) := r2
  have H_bw : Hid (Below g w x16) := bw
  have H_zw : Hid (g ≤ x16.heap.size) := zw
  clear hv0 hv1 rp hs sbs htt sbt rb rm r1 r2 bw zw
  go_wp2_with fail
  refine Calls.mono CC.out ?_
  rintro e x17 ⟨rfl, b17⟩
  clear CC
  have hv0 := H_hv0.out
  have hv1 := H_hv1.out
  have rp := H_rp.out
  have hs := H_hs.out
  have sbs := H_sbs.out
  have htt := H_htt.out
  have sbt := H_sbt.out
  have rb := H_rb.out
  have rm := H_rm.out
  have r1 := H_r1.out
  have r2 := H_r2.out
  have bw := H_bw.out
  have zw := H_zw.out
  clear H_hv0 H_hv1 H_rp H_hs H_sbs H_htt H_sbt H_rb H_rm H_r1 H_r2 H_bw H_zw
  replace hv0 := hv0.below (Nat.le_refl _) b17
  replace hv1 := hv1.below (Nat.le_refl _) b17
  replace rp := rp.below (Nat.le_refl _) b17
  replace hs := hs.below b17
  replace sbs := sbs.below b17
  replace htt := htt.below b17
  replace sbt := sbt.below b17
  replace rb := rb.below (Nat.le_refl _) b17
  replace rm := rm.below (Nat.le_refl _) b17
  replace r1 := r1.below (Nat.le_refl _) b17
  replace r2 := r2.below (Nat.le_refl _) b17
  replace bw := bw.trans (b17.mono zw)
  replace zw : g ≤ x17.heap.size := Nat.le_trans zw b17.size
  clear b17
  clear r1 r2 rb
  have cc0 := sbs.cell
  have CC : Hid _ := sxWithF hs (by omega) x
  have H_hv0 : Hid (RG (Value.float .f64) x17 (.slice a0 n0 p0) L0) := hv0
  have H_hv1 : Hid (RG (Value.float .f64) x17 (.slice a1 n1 p1) L1) := hv1
  have H_rp : Hid (RG (Value.float .f64) x17 (.slice po n pc) T) := rp
  have H_hs : Hid (SXF x17 (.slice so sl sc) T 300) := hs
  have H_sbs : Hid (SCell 52 x17 bs (.slice so sl sc)) := sbs
  have H_htt : Hid (SXF x17 (.slice tto ttl ttc) (ofD (ltOf cfF) L1) 300) := htt
  have H_sbt : Hid (SCell 52 x17 bt (.slice tto ttl ttc)) := sbt
  have H_rm : Hid (RG (Value.float .f64) x17 (.slice rmo rmn rmc) (L0 ++ [x])) := rm
  have H_bw : Hid (Below g w x17) := bw
  have H_zw : Hid (g ≤ x17.heap.size) := zw
  clear hv0 hv1 rp hs sbs htt sbt rm bw zw
  go_wp2_with fail
  refine Calls.mono CC.out ?_
  rintro e x18 ⟨qo, ql, qc, rfl, hq, b18⟩
  clear CC cc0
  have hv0 := H_hv0.out
  have hv1 := H_hv1.out
  have rp := H_rp.out
  have hs := H_hs.out
  have sbs := H_sbs.out
  have htt := H_htt.out
  have sbt := H_sbt.out
  have rm := H_rm.out
  have bw := H_bw.out
  have zw := H_zw.out
  clear H_hv0 H_hv1 H_rp H_hs H_sbs H_htt H_sbt H_rm H_bw H_zw
  replace hv0 := hv0.below (Nat.le_refl _) b18
  replace hv1 := hv1.below (Nat.le_refl _) b18
  replace rp := rp.below (Nat.le_refl _) b18
  replace hs := hs.below b18
  replace sbs := sbs.below b18
  replace htt := htt.below b18
  replace sbt := sbt.below b18
  replace rm := rm.below (Nat.le_refl _) b18
  replace bw := bw.trans (b18.mono zw)
  replace zw : g ≤ x18.heap.size := Nat.le_trans zw b18.size
  clear b18
  have CC : Hid _ := sxListF hq (by omega)
  have H_hv0 : Hid (RG (Value.float .f64) x18 (.slice a0 n0 p0) L0) := hv0
  have H_hv1 : Hid (RG (Value.float .f64) x18 (.slice a1 n1 p1) L1) := hv1
  have H_rp : Hid (RG (Value.float .f64) x18 (.slice po n pc) T) := rp
  have H_hs : Hid (SXF x18 (.slice so sl sc) T 300) := hs
  have H_sbs : Hid (SCell 52 x18 bs (.slice so sl sc)) := sbs
  have H_htt : Hid (SXF x18 (.slice tto ttl ttc) (ofD (ltOf cfF) L1) 300) := htt
  have H_sbt : Hid (SCell 52 x18 bt (.slice tto ttl ttc)) := sbt
  have H_rm : Hid (RG (Value.float .f64) x18 (.slice rmo rmn rmc) (L0 ++ [x])) := rm
  have H_hq : Hid (SXF x18 (.slice qo ql qc) (insD (ltOf cfF) x T) (300 + 1)) := hq
  have H_bw : Hid (Below g w x18) := bw
  have H_zw : Hid (g ≤ x18.heap.size) := zw
  clear hv0 hv1 rp hs sbs htt sbt rm hq bw zw
  go_wp2_with fail
  refine Calls.mono CC.out ?_
  rintro e x19 ⟨l3, rfl, ol, b19⟩
  clear CC
  have hv0 := H_hv0.out
  have hv1 := H_hv1.out
  have rp := H_rp.out
  have hs := H_hs.out
  have sbs := H_sbs.out
  have htt := H_htt.out
  have sbt := H_sbt.out
  have rm := H_rm.out
  have hq := H_hq.out
  have bw := H_bw.out
  have zw := H_zw.out
  clear H_hv0 H_hv1 H_rp H_hs H_sbs H_htt H_sbt H_rm H_hq H_bw H_zw
  have r1 := ol.rg
  clear ol
  replace hv0 := hv0.below (Nat.le_refl _) b19
  replace hv1 := hv1.below (Nat.le_refl _) b19
  replace rp := rp.below (Nat.le_refl _) b19
  replace hs := hs.below b19
  replace sbs := sbs.below b19
  replace htt := htt.below b19
  replace sbt := sbt.below b19
  replace rm := rm.below (Nat.le_refl _) b19
  replace hq := hq.below b19
  replace bw := bw.trans (b19.mono zw)
  replace zw : g ≤ x19.heap.size := Nat.le_trans zw b19.size
  clear b19
  clear hq
  have CC : Hid _ := rOfF _ (L0 ++ [x]) _ rm (by rw [List.length_append, HN0.out]; simp only [List.length_cons, List.length_nil]; omega)
  have H_hv0 : Hid (RG (Value.float .f64) x19 (.slice a0 n0 p0) L0) := hv0
  have H_hv1 : Hid (RG (Value.float .f64) x19 (.slice a1 n1 p1) L1) := hv1
  have H_rp : Hid (RG (Value.float .f64) x19 (.slice po n pc) T) := rp
  have H_hs : Hid (SXF x19 (.slice so sl sc) T 300) := hs
  have H_sbs : Hid (SCell 52 x19 bs (.slice so sl sc)) := sbs
  have H_htt : Hid (SXF x19 (.slice tto ttl ttc) (ofD (ltOf cfF) L1) 300) := htt
  have H_sbt : Hid (SCell 52 x19 bt (.slice tto ttl ttc)) := sbt
  have H_rm : Hid (RG (Value.float .f64) x19 (.slice rmo rmn rmc) (L0 ++ [x])) := rm
  have H_r1 : Hid (RG (Value.float .f64) x19 l3 (insD (ltOf cfF) x T)) := r1
  have H_bw : Hid (Below g w x19) := bw
  have H_zw : Hid (g ≤ x19.heap.size) := zw
  clear hv0 hv1 rp hs sbs htt sbt rm r1 bw zw
  go_wp2_with fail
  refine Calls.mono CC.out ?_
  rintro e x20 ⟨u3, rfl, ou, b20⟩
  clear CC
  have hv0 := H_hv0.out
  have hv1 := H_hv1.out
  have rp := H_rp.out
  have hs := H_hs.out
  have sbs := H_sbs.out
  have htt := H_htt.out
  have sbt := H_sbt.out
  have rm := H_rm.out
  have r1 := H_r1.out
  have bw := H_bw.out
  have zw := H_zw.out
  clear H_hv0 H_hv1 H_rp H_hs H_sbs H_htt H_sbt H_rm H_r1 H_bw H_zw
  have r2 := ou.rg
  rw [ofD_snoc, ← HT.out] at r2
  clear ou
  replace hv0 := hv0.below (Nat.le_refl _) b20
  replace hv1 := hv1.below (Nat.le_refl _) b20
  replace rp := rp.below (Nat.le_refl _) b20
  replace hs := hs.below b20
  replace sbs := sbs.below b20
  replace htt := htt.below b20
  replace sbt := sbt.below b20
  replace rm := rm.below (Nat.le_refl _) b20
  replace r1 := r1.below (Nat.le_refl _) b20
  replace bw := bw.trans (b20.mono zw)
  replace zw : g ≤ x20.heap.size := Nat.le_trans zw b20.size
  clear b20
  have CC : Hid _ := floatsF _ _ _ _ r1 r2
  have H_hv0 : Hid (RG (Value.float .f64) x20 (.slice a0 n0 p0) L0) := hv0
  have H_hv1 : Hid (RG (Value.float .f64) x20 (.slice a1 n1 p1) L1) := hv1
  have H_rp : Hid (RG (Value.float .f64) x20 (.slice po n pc) T) := rp
  have H_hs : Hid (SXF x20 (.slice so sl sc) T 300) := hs
  have H_sbs : Hid (SCell 52 x20 bs (.slice so sl sc)) := sbs
  have H_htt : Hid (SXF x20 (.slice tto ttl ttc) (ofD (ltOf cfF) L1) 300) := htt
  have H_sbt : Hid (SCell 52 x20 bt (.slice tto ttl ttc)) := sbt
  have H_rm : Hid (RG (Value.float .f64) x20 (.slice rmo rmn rmc) (L0 ++ [x])) := rm
  have H_r1 : Hid (RG (Value.float .f64) x20 l3 (insD (ltOf cfF) x T)) := r1
  have H_r2 : Hid (RG (Value.float .f64) x20 u3 (insD (ltOf cfF) x T)) := r2
  have H_bw : Hid (Below g w x20) := bw
  have H_zw : Hid (g ≤ x20.heap.size) := zw
  clear hv0 hv1 rp hs sbs htt sbt rm r1 r2 bw zw
  go_wp2_with fail
  refine Calls.mono CC.out ?_
  rintro e x21 ⟨rfl, b21⟩
  clear CC
  have hv0 := H_hv0.out
  have hv1 := H_hv1.out
  have rp := H_rp.out
  have hs := H_hs.out
  have sbs := H_sbs.out
  have htt := H_htt.out
  have sbt := H_sbt.out
  have rm := H_rm.out
  have r1 := H_r1.out
  have r2 := H_r2.out
  have bw := H_bw.out
  have zw := H_zw.out
  clear H_hv0 H_hv1 H_rp H_hs H_sbs H_htt H_sbt H_rm H_r1 H_r2 H_bw H_zw
  replace hv0 := hv0.below (Nat.le_refl _) b21
  replace hv1 := hv1.below (Nat.le_refl _) b21
  replace rp := rp.below (Nat.le_refl _) b21
  replace hs := hs.below b21
  replace sbs := sbs.below b21
  replace htt := htt.below b21
  replace sbt := sbt.below b21
  replace rm := rm.below (Nat.le_refl _) b21
  replace r1 := r1.below (Nat.le_refl _) b21
  replace r2 := r2.below (Nat.le_refl _) b21
  replace bw := bw.trans (b21.mono zw)
  replace zw : g ≤ x21.heap.size := Nat.le_trans zw b21.size
  clear b21
  clear r1 r2 rm
  have CC : Hid _ := rOfF _ L1 _ hv1 (by rw [HN1.out]; omega)
  have H_hv0 : Hid (RG (Value.float .f64) x21 (.slice a0 n0 p0) L0) := hv0
  have H_hv1 : Hid (RG (Value.float .f64) x21 (.slice a1 n1 p1) L1) := hv1
  have H_rp : Hid (RG (Value.float .f64) x21 (.slice po n pc) T) := rp
  have H_hs : Hid (SXF x21 (.slice so sl sc) T 300) := hs
  have H_sbs : Hid (SCell 52 x21 bs (.slice so sl sc)) := sbs
  have H_htt : Hid (SXF x21 (.slice tto ttl ttc) (ofD (ltOf cfF) L1) 300) := htt
  have H_sbt : Hid (SCell 52 x21 bt (.slice tto ttl ttc)) := sbt
  have H_bw : Hid (Below g w x21) := bw
  have H_zw : Hid (g ≤ x21.heap.size) := zw
  clear hv0 hv1 rp hs sbs htt sbt bw zw
  go_wp2_with fail
  refine Calls.mono CC.out ?_
  rintro e x22 ⟨qv, rfl, oq, b22⟩
  clear CC
  have hv0 := H_hv0.out
  have hv1 := H_hv1.out
  have rp := H_rp.out
  have hs := H_hs.out
  have sbs := H_sbs.out
  have htt := H_htt.out
  have sbt := H_sbt.out
  have bw := H_bw.out
  have zw := H_zw.out
  clear H_hv0 H_hv1 H_rp H_hs H_sbs H_htt H_sbt H_bw H_zw
  have rq := oq.rg
  clear oq
  replace hv0 := hv0.below (Nat.le_refl _) b22
  replace hv1 := hv1.below (Nat.le_refl _) b22
  replace rp := rp.below (Nat.le_refl _) b22
  replace hs := hs.below b22
  replace sbs := sbs.below b22
  replace htt := htt.below b22
  replace sbt := sbt.below b22
  replace bw := bw.trans (b22.mono zw)
  replace zw : g ≤ x22.heap.size := Nat.le_trans zw b22.size
  clear b22
  obtain ⟨U, hU⟩ : ∃ U, U = ofD (ltOf cfF) L1 := ⟨_, rfl⟩
  rw [← hU] at rq htt
  clear hU
  obtain ⟨qo2, qc2, eqv⟩ := rq.sl
  obtain ⟨qn, hqn⟩ : ∃ m, m = U.length := ⟨_, rfl⟩
  rw [← hqn] at eqv
  subst eqv
  clear hqn hv0 hv1
  have CP : Hid (∀ W, Below x22.heap.size x22 W → ∀ i, i < n → ∃ y gg o, T[i]? = some y ∧ po = some ⟨gg, o, none⟩ ∧ W.cell? ⟨gg, o + i, none⟩ = some (.float .f64 y)) := fun W h i hi => (rp.below (Nat.le_refl _) h).at hi
  have H_rp : Hid (RG (Value.float .f64) x22 (.slice po n pc) T) := rp
  have H_hs : Hid (SXF x22 (.slice so sl sc) T 300) := hs
  have H_sbs : Hid (SCell 52 x22 bs (.slice so sl sc)) := sbs
  have H_htt : Hid (SXF x22 (.slice tto ttl ttc) U 300) := htt
  have H_sbt : Hid (SCell 52 x22 bt (.slice tto ttl ttc)) := sbt
  have H_rq : Hid (RG (Value.float .f64) x22 (.slice qo2 qn qc2) U) := rq
  have H_bw : Hid (Below g w x22) := bw
  have H_zw : Hid (g ≤ x22.heap.size) := zw
  clear rp hs sbs htt sbt rq bw zw
  go_wp2
  go_loopg [13, 14, 15] n (fun g1 v13 v14 v15 wr => ∃ (i : Nat) (mv nv : Value), mv = v13 ∧ nv = v14 ∧ v15 = .int .i64 i ∧ i ≤ n ∧ n - i ≤ g1 ∧ Hid (OG (Value.float .f64) x22.heap.size 48 wr mv ((T.take i).filter (hasF U))) ∧ Hid (OG (Value.float .f64) x22.heap.size 48 wr nv ((T.take i).filter (fun z => !hasF U z))) ∧ Hid (∀ j, mv.ownBlock = some j → nv.ownBlock ≠ some j) ∧ Hid (Below x22.heap.size x22 wr))
  case atStart => exact ⟨0, _, _, rfl, rfl, rfl, Nat.zero_le _, by omega, OG.nil _ _ _, OG.nil _ _ _, fun j h => by simp [Value.ownBlock] at h, Below.refl _ _⟩
  case round =>
    obtain ⟨i, mv, nv, rfl, rfl, rfl, hin, hg1, HM, HV, HAP, HBW⟩ := hrel
    have HLM : Hid (((T.take i).filter (hasF U)).length ≤ 300 ∧ ((T.take i).filter (fun z => !hasF U z)).length ≤ 300) := by have h1 := List.length_filter_le (hasF U) (T.take i); have h2 := List.length_filter_le (fun z => !hasF U z) (T.take i); rw [List.length_take] at h1 h2; exact ⟨by omega, by omega⟩
    by_cases hlt : i < n
    · have hltz : (i : Int) < (n : Int) := by omega
      obtain ⟨y, gg, o, hy, e1, c1⟩ := CP.out _ HBW.out i hlt
      subst e1
      have hf := filter_snoc (hasF U) hy
      have hf2 := filter_snoc (fun z => !hasF U z) hy
      have CH := rHasB _ U y wr (H_rq.out.below (Nat.le_refl _) HBW.out)
      have HY : Hid (T[i]? = some y) := hy
      clear hy
      cases hb : hasF U y with
      | true =>
        rw [hb] at CH
        simp only [hb, Bool.not_true, if_true, Bool.false_eq_true, if_false, List.append_nil] at hf hf2
        have HF1 : Hid ((T.take (i + 1)).filter (hasF U) = _) := hf
        have HF2 : Hid ((T.take (i + 1)).filter (fun z => !hasF U z) = _) := hf2
        clear hf hf2
        go_wp2_with fail
        refine CH.mono ?_
        rintro e wx ⟨rfl, bx⟩
        clear CH c1
        have B2 : Hid (Below x22.heap.size x22 wx) := HBW.out.trans (bx.mono HBW.out.size)
        have HM2 : Hid (OG (Value.float .f64) x22.heap.size 48 wx mv ((T.take i).filter (hasF U))) := HM.out.below bx
        have HV2 : Hid (OG (Value.float .f64) x22.heap.size 48 wx nv ((T.take i).filter (fun z => !hasF U z))) := HV.out.below bx
        clear bx HM HV HBW
        obtain ⟨y', gg', o', hy', e1', c1⟩ := CP.out _ B2.out i hlt
        cases e1'
        have hyy : y = y' := by have := HY.out; rw [this] at hy'; exact Option.some.inj hy'
        subst hyy
        clear hy'
        have O3 : Hid (OG (Value.float .f64) x22.heap.size 48 (wx.alloc (.cells #[.float .f64 y] 48)) mv ((T.take i).filter (hasF U))) := HM2.out.below ((Below.refl _ _).alloc (Nat.le_refl _) _)
        have Q3 : Hid (OG (Value.float .f64) x22.heap.size 48 (wx.alloc (.cells #[.float .f64 y] 48)) nv ((T.take i).filter (fun z => !hasF U z))) := HV2.out.below ((Below.refl _ _).alloc (Nat.le_refl _) _)
        have B3 : Hid (Below x22.heap.size x22 (wx.alloc (.cells #[.float .f64 y] 48))) := B2.out.alloc B2.out.size _
        have C3 : Hid ((wx.alloc (.cells #[.float .f64 y] 48)).cell? ⟨wx.heap.size, 0, none⟩ = some (.float .f64 y)) := by have h := (OG.lit (enc := (Value.float .f64)) 48 wx [y] (by unfold maxLen; simp)).cell (i := 0) (x := y) rfl; exact h.1
        have Z3 : Hid (x22.heap.size ≤ (wx.alloc (.cells #[.float .f64 y] 48)).heap.size) := B3.out.size
        have N3 : Hid (∀ j, nv.ownBlock = some j → j < wx.heap.size) := fun j hj => (HV2.out.lt j hj).2
        clear HM2 HV2 B2
        go_wp2_with (at_builtin; refine wpList_pushG _ oneF rfl _ _ 47 rfl x22.heap.size 48 i0 (.float .f64 0) 8 Try.underlying47 hi hz0 hz1 hz2 rfl _ wx.heap.size ((T.take i).filter (hasF U)) y rfl O3.out rfl C3.out (by have := HLM.out.1; unfold maxLen; omega) (by have := HLM.out.1; omega) Z3.out ?_)
        intro v' w' ho hgr hd
        have P4 : Hid (OG (Value.float .f64) x22.heap.size 48 w' v' ((T.take i).filter (hasF U) ++ [y])) := ho
        have Q4 : Hid (OG (Value.float .f64) x22.heap.size 48 w' nv ((T.take i).filter (fun z => !hasF U z))) := Q3.out.of_blocks fun j hj => hgr.block j (by have := N3.out j hj; simp; omega) (fun e => HAP.out j e.symm hj)
        have A4 : Hid (∀ j, v'.ownBlock = some j → nv.ownBlock ≠ some j) := fun j hj ho => by
          rcases hd with hd | hd
          · rw [hd] at hj; exact HAP.out j hj ho
          · have h1 := hd j hj; have h2 := N3.out j ho; have h3 : wx.heap.size ≤ (wx.alloc (.cells #[.float .f64 y] 48)).heap.size := by simp
            omega
        have B4 : Hid (Below x22.heap.size x22 w') := O3.out.grown B3.out Z3.out hgr
        clear ho hgr hd O3 Q3 B3 C3 Z3 N3 c1
        go_wp2
        go_roundg (n - (i + 1))
        case measure => omega
        case rel => exact ⟨i + 1, _, _, rfl, rfl, by go_num, by omega, Nat.le_refl _, by rw [HF1.out]; exact P4, by rw [HF2.out]; exact Q4, A4, B4⟩
      | false =>
        rw [hb] at CH
        simp only [hb, Bool.not_false, if_true, Bool.false_eq_true, if_false, List.append_nil] at hf hf2
        have HF1 : Hid ((T.take (i + 1)).filter (hasF U) = _) := hf
        have HF2 : Hid ((T.take (i + 1)).filter (fun z => !hasF U z) = _) := hf2
        clear hf hf2
        go_wp2_with fail
        refine CH.mono ?_
        rintro e wx ⟨rfl, bx⟩
        clear CH c1
        have B2 : Hid (Below x22.heap.size x22 wx) := HBW.out.trans (bx.mono HBW.out.size)
        have HM2 : Hid (OG (Value.float .f64) x22.heap.size 48 wx mv ((T.take i).filter (hasF U))) := HM.out.below bx
        have HV2 : Hid (OG (Value.float .f64) x22.heap.size 48 wx nv ((T.take i).filter (fun z => !hasF U z))) := HV.out.below bx
        clear bx HM HV HBW
        obtain ⟨y', gg', o', hy', e1', c1⟩ := CP.out _ B2.out i hlt
        cases e1'
        have hyy : y = y' := by have := HY.out; rw [this] at hy'; exact Option.some.inj hy'
        subst hyy
        clear hy'
        have O3 : Hid (OG (Value.float .f64) x22.heap.size 48 (wx.alloc (.cells #[.float .f64 y] 48)) nv ((T.take i).filter (fun z => !hasF U z))) := HV2.out.below ((Below.refl _ _).alloc (Nat.le_refl _) _)
        have Q3 : Hid (OG (Value.float .f64) x22.heap.size 48 (wx.alloc (.cells #[.float .f64 y] 48)) mv ((T.take i).filter (hasF U))) := HM2.out.below ((Below.refl _ _).alloc (Nat.le_refl _) _)
        have B3 : Hid (Below x22.heap.size x22 (wx.alloc (.cells #[.float .f64 y] 48))) := B2.out.alloc B2.out.size _
        have C3 : Hid ((wx.alloc (.cells #[.float .f64 y] 48)).cell? ⟨wx.heap.size, 0, none⟩ = some (.float .f64 y)) := by have h := (OG.lit (enc := (Value.float .f64)) 48 wx [y] (by unfold maxLen; simp)).cell (i := 0) (x := y) rfl; exact h.1
        have Z3 : Hid (x22.heap.size ≤ (wx.alloc (.cells #[.float .f64 y] 48)).heap.size) := B3.out.size
        have N3 : Hid (∀ j, mv.ownBlock = some j → j < wx.heap.size) := fun j hj => (HM2.out.lt j hj).2
        clear HM2 HV2 B2
        go_wp2_with (at_builtin; refine wpList_pushG _ oneF rfl _ _ 47 rfl x22.heap.size 48 i0 (.float .f64 0) 8 Try.underlying47 hi hz0 hz1 hz2 rfl _ wx.heap.size ((T.take i).filter (fun z => !hasF U z)) y rfl O3.out rfl C3.out (by have := HLM.out.2; unfold maxLen; omega) (by have := HLM.out.2; omega) Z3.out ?_)
        intro v' w' ho hgr hd
        have P4 : Hid (OG (Value.float .f64) x22.heap.size 48 w' v' ((T.take i).filter (fun z => !hasF U z) ++ [y])) := ho
        have Q4 : Hid (OG (Value.float .f64) x22.heap.size 48 w' mv ((T.take i).filter (hasF U))) := Q3.out.of_blocks fun j hj => hgr.block j (by have := N3.out j hj; simp; omega) (fun e => HAP.out j hj e.symm)
        have A4 : Hid (∀ j, v'.ownBlock = some j → mv.ownBlock ≠ some j) := fun j hj ho => by
          rcases hd with hd | hd
          · rw [hd] at hj; exact HAP.out j ho hj
          · have h1 := hd j hj; have h2 := N3.out j ho; have h3 : wx.heap.size ≤ (wx.alloc (.cells #[.float .f64 y] 48)).heap.size := by simp
            omega
        have B4 : Hid (Below x22.heap.size x22 w') := O3.out.grown B3.out Z3.out hgr
        clear ho hgr hd O3 Q3 B3 C3 Z3 N3 c1
        go_wp2
        go_roundg (n - (i + 1))
        case measure => omega
        case rel => exact ⟨i + 1, _, _, rfl, rfl, by go_num, by omega, Nat.le_refl _, by rw [HF1.out]; exact Q4, by rw [HF2.out]; exact P4, fun j h1 h2 => A4.out j h2 h1, B4⟩
    · have hltz : ¬ (i : Int) < (n : Int) := by omega
      have hti : T.take i = T := List.take_of_length_le (by rw [HN.out]; omega)
      have om := HM.out
      have on_ := HV.out
      rw [hti] at om on_
      have rmt := om.rg
      have rmn := on_.rg
      have bl := HBW.out
      clear om on_ hti HM HV HBW HAP HLM
      have rp := H_rp.out
      have hs := H_hs.out
      have sbs := H_sbs.out
      have htt := H_htt.out
      have sbt := H_sbt.out
      have rq := H_rq.out
      have bw := H_bw.out
      have zw := H_zw.out
      clear H_rp H_hs H_sbs H_htt H_sbt H_rq H_bw H_zw
      replace rp := rp.below (Nat.le_refl _) bl
      replace hs := hs.below bl
      replace sbs := sbs.below bl
      replace htt := htt.below bl
      replace sbt := sbt.below bl
      replace rq := rq.below (Nat.le_refl _) bl
      replace bw := bw.trans (bl.mono zw)
      replace zw : g ≤ wr.heap.size := Nat.le_trans zw bl.size
      clear bl
      obtain ⟨mo, mc, emv⟩ := rmt.sl
      obtain ⟨mn, hmn⟩ : ∃ m, m = (T.filter (hasF U)).length := ⟨_, rfl⟩
      rw [← hmn] at emv
      subst emv
      clear hmn
      obtain ⟨no, nc, env⟩ := rmn.sl
      obtain ⟨nn, hnn⟩ : ∃ m, m = (T.filter (fun z => !hasF U z)).length := ⟨_, rfl⟩
      rw [← hnn] at env
      subst env
      have hbe : decide (nn = 0) = T.all (hasF U) := by rw [all_none, hnn]
      clear hnn
      obtain ⟨be, hbe2⟩ : ∃ b, b = T.all (hasF U) := ⟨_, rfl⟩
      rw [← hbe2] at hbe
      have HBE : Hid (T.all (hasF U) = be) := hbe2.symm
      clear hbe2
      have hbe1 : decide ((nn : Int) = 0) = be := by rw [← hbe]; exact decide_eq_decide.2 (by omega)
      have hbe3 : ((nn : Int) == 0) = be := by rw [← hbe1]; rfl
      clear hbe
      have cc0 := sbs.cell
      have cc1 := sbt.cell
      have CC : Hid _ := sxMeetF hs htt (by omega) (by omega)
      have H_rp : Hid (RG (Value.float .f64) wr (.slice po n pc) T) := rp
      have H_hs : Hid (SXF wr (.slice so sl sc) T 300) := hs
      have H_sbs : Hid (SCell 52 wr bs (.slice so sl sc)) := sbs
      have H_htt : Hid (SXF wr (.slice tto ttl ttc) U 300) := htt
      have H_sbt : Hid (SCell 52 wr bt (.slice tto ttl ttc)) := sbt
      have H_rq : Hid (RG (Value.float .f64) wr (.slice qo2 qn qc2) U) := rq
      have H_rmt : Hid (RG (Value.float .f64) wr (.slice mo mn mc) (T.filter (hasF U))) := rmt
      have H_rmn : Hid (RG (Value.float .f64) wr (.slice no nn nc) (T.filter (fun z => !hasF U z))) := rmn
      have H_bw : Hid (Below g w wr) := bw
      have H_zw : Hid (g ≤ wr.heap.size) := zw
      clear rp hs sbs htt sbt rq rmt rmn bw zw
      go_wp2_with fail
      refine Calls.mono CC.out ?_
      rintro e x23 ⟨eo, el, ec, rfl, he, b23⟩
      clear CC cc0 cc1
      have rp := H_rp.out
      have hs := H_hs.out
      have sbs := H_sbs.out
      have htt := H_htt.out
      have sbt := H_sbt.out
      have rq := H_rq.out
      have rmt := H_rmt.out
      have rmn := H_rmn.out
      have bw := H_bw.out
      have zw := H_zw.out
      clear H_rp H_hs H_sbs H_htt H_sbt H_rq H_rmt H_rmn H_bw H_zw
      replace rp := rp.below (Nat.le_refl _) b23
      replace hs := hs.below b23
      replace sbs := sbs.below b23
      replace htt := htt.below b23
      replace sbt := sbt.below b23
      replace rq := rq.below (Nat.le_refl _) b23
      replace rmt := rmt.below (Nat.le_refl _) b23
      replace rmn := rmn.below (Nat.le_refl _) b23
      replace bw := bw.trans (b23.mono zw)
      replace zw : g ≤ x23.heap.size := Nat.le_trans zw b23.size
      clear b23
      have CC : Hid _ := sxListF he (by omega)
      have H_rp : Hid (RG (Value.float .f64) x23 (.slice po n pc) T) := rp
      have H_hs : Hid (SXF x23 (.slice so sl sc) T 300) := hs
      have H_sbs : Hid (SCell 52 x23 bs (.slice so sl sc)) := sbs
      have H_htt : Hid (SXF x23 (.slice tto ttl ttc) U 300) := htt
      have H_sbt : Hid (SCell 52 x23 bt (.slice tto ttl ttc)) := sbt
      have H_rq : Hid (RG (Value.float .f64) x23 (.slice qo2 qn qc2) U) := rq
      have H_rmt : Hid (RG (Value.float .f64) x23 (.slice mo mn mc) (T.filter (hasF U))) := rmt
      have H_rmn : Hid (RG (Value.float .f64) x23 (.slice no nn nc) (T.filter (fun z => !hasF U z))) := rmn
      have H_he : Hid (SXF x23 (.slice eo el ec) (T.filter (hasF U)) 300) := he
      have H_bw : Hid (Below g w x23) := bw
      have H_zw : Hid (g ≤ x23.heap.size) := zw
      clear rp hs sbs htt sbt rq rmt rmn he bw zw
      go_wp2_with fail
      refine Calls.mono CC.out ?_
      rintro e x24 ⟨l4, rfl, ol, b24⟩
      clear CC
      have rp := H_rp.out
      have hs := H_hs.out
      have sbs := H_sbs.out
      have htt := H_htt.out
      have sbt := H_sbt.out
      have rq := H_rq.out
      have rmt := H_rmt.out
      have rmn := H_rmn.out
      have he := H_he.out
      have bw := H_bw.out
      have zw := H_zw.out
      clear H_rp H_hs H_sbs H_htt H_sbt H_rq H_rmt H_rmn H_he H_bw H_zw
      have r1 := ol.rg
      clear ol
      replace rp := rp.below (Nat.le_refl _) b24
      replace hs := hs.below b24
      replace sbs := sbs.below b24
      replace htt := htt.below b24
      replace sbt := sbt.below b24
      replace rq := rq.below (Nat.le_refl _) b24
      replace rmt := rmt.below (Nat.le_refl _) b24
      replace rmn := rmn.below (Nat.le_refl _) b24
      replace he := he.below b24
      replace bw := bw.trans (b24.mono zw)
      replace zw : g ≤ x24.heap.size := Nat.le_trans zw b24.size
      clear b24
      clear he
      have CC : Hid _ := floatsF _ _ _ _ r1 rmt
      have H_rp : Hid (RG (Value.float .f64) x24 (.slice po n pc) T) := rp
      have H_hs : Hid (SXF x24 (.slice so sl sc) T 300) := hs
      have H_sbs : Hid (SCell 52 x24 bs (.slice so sl sc)) := sbs
      have H_htt : Hid (SXF x24 (.slice tto ttl ttc) U 300) := htt
      have H_sbt : Hid (SCell 52 x24 bt (.slice tto ttl ttc)) := sbt
      have H_rq : Hid (RG (Value.float .f64) x24 (.slice qo2 qn qc2) U) := rq
      have H_rmt : Hid (RG (Value.float .f64) x24 (.slice mo mn mc) (T.filter (hasF U))) := rmt
      have H_rmn : Hid (RG (Value.float .f64) x24 (.slice no nn nc) (T.filter (fun z => !hasF U z))) := rmn
      have H_r1 : Hid (RG (Value.float .f64) x24 l4 (T.filter (hasF U))) := r1
      have H_bw : Hid (Below g w x24) := bw
      have H_zw : Hid (g ≤ x24.heap.size) := zw
      clear rp hs sbs htt sbt rq rmt rmn r1 bw zw
      go_wp2_with fail
      refine Calls.mono CC.out ?_
      rintro e x25 ⟨rfl, b25⟩
      clear CC
      have rp := H_rp.out
      have hs := H_hs.out
      have sbs := H_sbs.out
      have htt := H_htt.out
      have sbt := H_sbt.out
      have rq := H_rq.out
      have rmt := H_rmt.out
      have rmn := H_rmn.out
      have r1 := H_r1.out
      have bw := H_bw.out
      have zw := H_zw.out
      clear H_rp H_hs H_sbs H_htt H_sbt H_rq H_rmt H_rmn H_r1 H_bw H_zw
      replace rp := rp.below (Nat.le_refl _) b25
      replace hs := hs.below b25
      replace sbs := sbs.below b25
      replace htt := htt.below b25
      replace sbt := sbt.below b25
      replace rq := rq.below (Nat.le_refl _) b25
      replace rmt := rmt.below (Nat.le_refl _) b25
      replace rmn := rmn.below (Nat.le_refl _) b25
      replace r1 := r1.below (Nat.le_refl _) b25
      replace bw := bw.trans (b25.mono zw)
      replace zw : g ≤ x25.heap.size := Nat.le_trans zw b25.size
      clear b25
      clear r1 rmt
      have cc0 := sbs.cell
      have cc1 := sbt.cell
      have CC : Hid _ := sxMinusF hs htt (by omega) (by omega)
      have H_rp : Hid (RG (Value.float .f64) x25 (.slice po n pc) T) := rp
      have H_hs : Hid (SXF x25 (.slice so sl sc) T 300) := hs
      have H_sbs : Hid (SCell 52 x25 bs (.slice so sl sc)) := sbs
      have H_htt : Hid (SXF x25 (.slice tto ttl ttc) U 300) := htt
      have H_sbt : Hid (SCell 52 x25 bt (.slice tto ttl ttc)) := sbt
      have H_rq : Hid (RG (Value.float .f64) x25 (.slice qo2 qn qc2) U) := rq
      have H_rmn : Hid (RG (Value.float .f64) x25 (.slice no nn nc) (T.filter (fun z => !hasF U z))) := rmn
      have H_bw : Hid (Below g w x25) := bw
      have H_zw : Hid (g ≤ x25.heap.size) := zw
      clear rp hs sbs htt sbt rq rmn bw zw
      go_wp2_with fail
      refine Calls.mono CC.out ?_
      rintro e x26 ⟨fo, fl, fc, rfl, hf, b26⟩
      clear CC cc0 cc1
      have rp := H_rp.out
      have hs := H_hs.out
      have sbs := H_sbs.out
      have htt := H_htt.out
      have sbt := H_sbt.out
      have rq := H_rq.out
      have rmn := H_rmn.out
      have bw := H_bw.out
      have zw := H_zw.out
      clear H_rp H_hs H_sbs H_htt H_sbt H_rq H_rmn H_bw H_zw
      replace rp := rp.below (Nat.le_refl _) b26
      replace hs := hs.below b26
      replace sbs := sbs.below b26
      replace htt := htt.below b26
      replace sbt := sbt.below b26
      replace rq := rq.below (Nat.le_refl _) b26
      replace rmn := rmn.below (Nat.le_refl _) b26
      replace bw := bw.trans (b26.mono zw)
      replace zw : g ≤ x26.heap.size := Nat.le_trans zw b26.size
      clear b26
      have CC : Hid _ := sxListF hf (by omega)
      have H_rp : Hid (RG (Value.float .f64) x26 (.slice po n pc) T) := rp
      have H_hs : Hid (SXF x26 (.slice so sl sc) T 300) := hs
      have H_sbs : Hid (SCell 52 x26 bs (.slice so sl sc)) := sbs
      have H_htt : Hid (SXF x26 (.slice tto ttl ttc) U 300) := htt
      have H_sbt : Hid (SCell 52 x26 bt (.slice tto ttl ttc)) := sbt
      have H_rq : Hid (RG (Value.float .f64) x26 (.slice qo2 qn qc2) U) := rq
      have H_rmn : Hid (RG (Value.float .f64) x26 (.slice no nn nc) (T.filter (fun z => !hasF U z))) := rmn
      have H_hf : Hid (SXF x26 (.slice fo fl fc) (T.filter (fun z => !hasF U z)) 300) := hf
      have H_bw : Hid (Below g w x26) := bw
      have H_zw : Hid (g ≤ x26.heap.size) := zw
      clear rp hs sbs htt sbt rq rmn hf bw zw
      go_wp2_with fail
      refine Calls.mono CC.out ?_
      rintro e x27 ⟨l5, rfl, ol, b27⟩
      clear CC
      have rp := H_rp.out
      have hs := H_hs.out
      have sbs := H_sbs.out
      have htt := H_htt.out
      have sbt := H_sbt.out
      have rq := H_rq.out
      have rmn := H_rmn.out
      have hf := H_hf.out
      have bw := H_bw.out
      have zw := H_zw.out
      clear H_rp H_hs H_sbs H_htt H_sbt H_rq H_rmn H_hf H_bw H_zw
      have r1 := ol.rg
      clear ol
      replace rp := rp.below (Nat.le_refl _) b27
      replace hs := hs.below b27
      replace sbs := sbs.below b27
      replace htt := htt.below b27
      replace sbt := sbt.below b27
      replace rq := rq.below (Nat.le_refl _) b27
      replace rmn := rmn.below (Nat.le_refl _) b27
      replace hf := hf.below b27
      replace bw := bw.trans (b27.mono zw)
      replace zw : g ≤ x27.heap.size := Nat.le_trans zw b27.size
      clear b27
      clear hf
      have CC : Hid _ := floatsF _ _ _ _ r1 rmn
      have H_rp : Hid (RG (Value.float .f64) x27 (.slice po n pc) T) := rp
      have H_hs : Hid (SXF x27 (.slice so sl sc) T 300) := hs
      have H_sbs : Hid (SCell 52 x27 bs (.slice so sl sc)) := sbs
      have H_htt : Hid (SXF x27 (.slice tto ttl ttc) U 300) := htt
      have H_sbt : Hid (SCell 52 x27 bt (.slice tto ttl ttc)) := sbt
      have H_rq : Hid (RG (Value.float .f64) x27 (.slice qo2 qn qc2) U) := rq
      have H_rmn : Hid (RG (Value.float .f64) x27 (.slice no nn nc) (T.filter (fun z => !hasF U z))) := rmn
      have H_r1 : Hid (RG (Value.float .f64) x27 l5 (T.filter (fun z => !hasF U z))) := r1
      have H_bw : Hid (Below g w x27) := bw
      have H_zw : Hid (g ≤ x27.heap.size) := zw
      clear rp hs sbs htt sbt rq rmn r1 bw zw
      go_wp2_with fail
      refine Calls.mono CC.out ?_
      rintro e x28 ⟨rfl, b28⟩
      clear CC
      have rp := H_rp.out
      have hs := H_hs.out
      have sbs := H_sbs.out
      have htt := H_htt.out
      have sbt := H_sbt.out
      have rq := H_rq.out
      have rmn := H_rmn.out
      have r1 := H_r1.out
      have bw := H_bw.out
      have zw := H_zw.out
      clear H_rp H_hs H_sbs H_htt H_sbt H_rq H_rmn H_r1 H_bw H_zw
      replace rp := rp.below (Nat.le_refl _) b28
      replace hs := hs.below b28
      replace sbs := sbs.below b28
      replace htt := htt.below b28
      replace sbt := sbt.below b28
      replace rq := rq.below (Nat.le_refl _) b28
      replace rmn := rmn.below (Nat.le_refl _) b28
      replace r1 := r1.below (Nat.le_refl _) b28
      replace bw := bw.trans (b28.mono zw)
      replace zw : g ≤ x28.heap.size := Nat.le_trans zw b28.size
      clear b28
      clear r1 rmn
      have cc0 := sbs.cell
      have cc1 := sbt.cell
      have CC : Hid _ := (by have h := sxWithinF hs htt (by omega); rw [HBE.out] at h; exact h)
      have H_rp : Hid (RG (Value.float .f64) x28 (.slice po n pc) T) := rp
      have H_hs : Hid (SXF x28 (.slice so sl sc) T 300) := hs
      have H_sbs : Hid (SCell 52 x28 bs (.slice so sl sc)) := sbs
      have H_htt : Hid (SXF x28 (.slice tto ttl ttc) U 300) := htt
      have H_sbt : Hid (SCell 52 x28 bt (.slice tto ttl ttc)) := sbt
      have H_rq : Hid (RG (Value.float .f64) x28 (.slice qo2 qn qc2) U) := rq
      have H_bw : Hid (Below g w x28) := bw
      have H_zw : Hid (g ≤ x28.heap.size) := zw
      clear rp hs sbs htt sbt rq bw zw
      go_wp2_with fail
      refine Calls.mono CC.out ?_
      rintro e x29 ⟨rfl, b29⟩
      clear CC cc0 cc1
      have rp := H_rp.out
      have hs := H_hs.out
      have sbs := H_sbs.out
      have htt := H_htt.out
      have sbt := H_sbt.out
      have rq := H_rq.out
      have bw := H_bw.out
      have zw := H_zw.out
      clear H_rp H_hs H_sbs H_htt H_sbt H_rq H_bw H_zw
      replace rp := rp.below (Nat.le_refl _) b29
      replace hs := hs.below b29
      replace sbs := sbs.below b29
      replace htt := htt.below b29
      replace sbt := sbt.below b29
      replace rq := rq.below (Nat.le_refl _) b29
      replace bw := bw.trans (b29.mono zw)
      replace zw : g ≤ x29.heap.size := Nat.le_trans zw b29.size
      clear b29
      have cc0 := sbs.cell
      have CC : Hid _ := sxWithoutF hs (by omega) x
      have H_rp : Hid (RG (Value.float .f64) x29 (.slice po n pc) T) := rp
      have H_hs : Hid (SXF x29 (.slice so sl sc) T 300) := hs
      have H_sbs : Hid (SCell 52 x29 bs (.slice so sl sc)) := sbs
      have H_htt : Hid (SXF x29 (.slice tto ttl ttc) U 300) := htt
      have H_sbt : Hid (SCell 52 x29 bt (.slice tto ttl ttc)) := sbt
      have H_rq : Hid (RG (Value.float .f64) x29 (.slice qo2 qn qc2) U) := rq
      have H_bw : Hid (Below g w x29) := bw
      have H_zw : Hid (g ≤ x29.heap.size) := zw
      clear rp hs sbs htt sbt rq bw zw
      go_wp2_with fail
      refine Calls.mono CC.out ?_
      rintro e x30 ⟨go, gl, gc, rfl, hw, b30⟩
      clear CC cc0
      have rp := H_rp.out
      have hs := H_hs.out
      have sbs := H_sbs.out
      have htt := H_htt.out
      have sbt := H_sbt.out
      have rq := H_rq.out
      have bw := H_bw.out
      have zw := H_zw.out
      clear H_rp H_hs H_sbs H_htt H_sbt H_rq H_bw H_zw
      replace rp := rp.below (Nat.le_refl _) b30
      replace hs := hs.below b30
      replace sbs := sbs.below b30
      replace htt := htt.below b30
      replace sbt := sbt.below b30
      replace rq := rq.below (Nat.le_refl _) b30
      replace bw := bw.trans (b30.mono zw)
      replace zw : g ≤ x30.heap.size := Nat.le_trans zw b30.size
      clear b30
      have CC : Hid _ := (by have h := sxHasF hw (by omega) x; rw [has_withoutF] at h; exact h)
      have H_rp : Hid (RG (Value.float .f64) x30 (.slice po n pc) T) := rp
      have H_hs : Hid (SXF x30 (.slice so sl sc) T 300) := hs
      have H_sbs : Hid (SCell 52 x30 bs (.slice so sl sc)) := sbs
      have H_htt : Hid (SXF x30 (.slice tto ttl ttc) U 300) := htt
      have H_sbt : Hid (SCell 52 x30 bt (.slice tto ttl ttc)) := sbt
      have H_rq : Hid (RG (Value.float .f64) x30 (.slice qo2 qn qc2) U) := rq
      have H_hw : Hid (SXF x30 (.slice go gl gc) (wout smF T x) 300) := hw
      have H_bw : Hid (Below g w x30) := bw
      have H_zw : Hid (g ≤ x30.heap.size) := zw
      clear rp hs sbs htt sbt rq hw bw zw
      go_wp2_with fail
      refine Calls.mono CC.out ?_
      rintro e x31 ⟨rfl, b31⟩
      clear CC
      have rp := H_rp.out
      have hs := H_hs.out
      have sbs := H_sbs.out
      have htt := H_htt.out
      have sbt := H_sbt.out
      have rq := H_rq.out
      have hw := H_hw.out
      have bw := H_bw.out
      have zw := H_zw.out
      clear H_rp H_hs H_sbs H_htt H_sbt H_rq H_hw H_bw H_zw
      replace rp := rp.below (Nat.le_refl _) b31
      replace hs := hs.below b31
      replace sbs := sbs.below b31
      replace htt := htt.below b31
      replace sbt := sbt.below b31
      replace rq := rq.below (Nat.le_refl _) b31
      replace hw := hw.below b31
      replace bw := bw.trans (b31.mono zw)
      replace zw : g ≤ x31.heap.size := Nat.le_trans zw b31.size
      clear b31
      have HE : Hid (Below g w x31) := bw
      clear bw zw rp hs sbs htt sbt rq hw
      go_wp2
      go_ret
      exact ⟨rfl, HE.out⟩
end Go.Proofs.Ytknibmehbplpbaa

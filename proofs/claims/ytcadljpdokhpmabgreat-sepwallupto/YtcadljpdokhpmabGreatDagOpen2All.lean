/-
  Proved here: the law on Apart either way round and point by point, walked.
  Proved here: rows of rows of numbers that are handed in can be read; and the bound on what they hold.
  Proved here: a row of numbers that is handed in can be read; and the bound on what it holds.
-/
import Derived.Test.YtcadljpdokhpmabGreatSpAnAll
import Derived.Test.YtcadljpdokhpmabGreatDagHAll
import Derived.Test.YtcadljpdokhpmabGreatRows
import Derived.Deep.Matrix
namespace Go.Proofs.YtcadljpdokhpmabGreat
set_option linter.unusedVariables false
open Go.RowKit Go.Shelf Go.Sort Go.Lib
/-- One place of a row. -/
theorem RG.one {w : World} {g o n cap : Nat} {zs : List Int} (h : RG (Value.int .i64) w (.slice (some ⟨g, o, none⟩) n cap) zs) {i : Nat} {x : Int} (hx : zs[i]? = some x) : RG (Value.int .i64) w (.slice (some ⟨g, o + i, none⟩) 1 (cap - i)) [x] := by
  have hi : i < n := by
    have h1 := (List.getElem?_eq_some_iff.1 hx).1
    have h2 := h.len
    omega
  have h1 := (h.cut (m := i + 1) (by omega)).from (j := i) (by omega)
  have e1 : i + 1 - i = 1 := by omega
  rw [e1] at h1
  have e2 : (zs.take (i + 1)).drop i = [x] := by
    rw [List.take_add_one, hx, Option.toList_some, List.drop_append_of_le_length (by rw [List.length_take]; have := h.len; omega)]
    rw [List.drop_eq_nil_of_le (by rw [List.length_take]; omega)]
    rfl
  rwa [e2] at h1
set_option maxRecDepth 1000000 in
set_option maxHeartbeats 12800000 in
theorem sepEven_top (lv : Value) (lvs : List Value) (P0 : List (List Int)) (xv : Value) (X : List Int) (yv : Value) (Y : List Int) (zv : Value) (Z : List Int) (w : World) (hl : RRD w lv lvs P0) (hlb : ∀ i, (P0.getD i []).length ≤ 1048576) (hx : RG (Value.int .i64) w xv X) (hxb : X.length ≤ 1048576) (hy : RG (Value.int .i64) w yv Y) (hyb : Y.length ≤ 1048576) (hz : RG (Value.int .i64) w zv Z) (hzb : Z.length ≤ 1048576) :
    Calls Tryz.prog 3 #[lv, xv, yv, zv] w fun e w' => e = .returned (.bool true) ∧ Below w.heap.size w w' := by
  have CA : Hid _ := alive16 w
  have CM : Hid (∀ W, Below w.heap.size w W → Calls Tryz.prog 7 #[lv] W fun e w' => ∃ v vs P, e = .returned v ∧ P.length ≤ 30 ∧ MnI W.heap.size W w' P v vs) := fun W hW => mended16 lv lvs P0 W (hl.below (Nat.le_refl _) hW) hlb
  have CX : Hid (∀ W (n : Nat), Below w.heap.size w W → n ≤ 30 → Calls Tryz.prog 8 #[xv, .int .i64 (n : Int)] W fun e w' => ∃ u M, e = .returned u ∧ OG (Value.int .i64) W.heap.size 3 w' u M ∧ PtsI n M ∧ M.length ≤ X.length ∧ Below W.heap.size W w') := fun W n hW hn => points16 xv X n W (hx.below (Nat.le_refl _) hW) hxb (by omega)
  have CY : Hid (∀ W (n : Nat), Below w.heap.size w W → n ≤ 30 → Calls Tryz.prog 8 #[yv, .int .i64 (n : Int)] W fun e w' => ∃ u M, e = .returned u ∧ OG (Value.int .i64) W.heap.size 3 w' u M ∧ PtsI n M ∧ M.length ≤ Y.length ∧ Below W.heap.size W w') := fun W n hW hn => points16 yv Y n W (hy.below (Nat.le_refl _) hW) hyb (by omega)
  have CZ : Hid (∀ W (n : Nat), Below w.heap.size w W → n ≤ 30 → Calls Tryz.prog 8 #[zv, .int .i64 (n : Int)] W fun e w' => ∃ u M, e = .returned u ∧ OG (Value.int .i64) W.heap.size 3 w' u M ∧ PtsI n M ∧ M.length ≤ Z.length ∧ Below W.heap.size W w') := fun W n hW hn => points16 zv Z n W (hz.below (Nat.le_refl _) hW) hzb (by omega)
  have HXB : Hid (X.length ≤ 1048576) := hxb
  have HYB : Hid (Y.length ≤ 1048576) := hyb
  have HZB : Hid (Z.length ≤ 1048576) := hzb
  clear hl hlb hx hxb hy hyb hz hzb
  go_enter Tryz.func3, Tryz.ntmps3
  go_wp2_with fail
  refine Calls.mono CA.out ?_
  rintro e y1 ⟨rfl, b1⟩
  have B1 : Hid (Below w.heap.size w y1) := b1
  have CM1 : Hid _ := CM.out y1 b1
  clear CA CM b1
  go_wp2_with fail
  refine Calls.mono CM1.out ?_
  rintro e y2 ⟨pv, pvs, P, rfl, hP30, hM⟩
  obtain ⟨po, pn, pc, rfl⟩ : ∃ o n c, pv = .slice o n c := by obtain ⟨ao, cap, e⟩ := hM.row.rg.sl; exact ⟨_, _, _, e⟩
  have hpn : P.length = pn := by rw [← hM.len]; exact hM.row.rg.len
  have hp30 : pn ≤ 30 := by omega
  have B2 : Hid (Below w.heap.size w y2) := bstepB B1.out hM.frm
  have HR2 : Hid (RRD y2 (.slice po pn pc) pvs P) := hM.rrd
  have HMN : Hid (∀ j, MnL j (P.getD j [])) := hM.mnd
  have HPN : Hid (P.length = pn) := hpn
  have CX1 : Hid _ := CX.out y2 pn B2.out hp30
  clear CM1 hM B1 hpn hP30 CX
  go_wp2_with fail
  refine Calls.mono CX1.out ?_
  rintro e y3 ⟨av, a, rfl, hoa, pa, hal, b3⟩
  obtain ⟨ao, an, ac, rfl⟩ : ∃ o n c, av = .slice o n c := by obtain ⟨ao, cap, e⟩ := hoa.rg.sl; exact ⟨_, _, _, e⟩
  have B3 : Hid (Below w.heap.size w y3) := bstepB B2.out b3
  have HA3 : Hid (RG (Value.int .i64) y3 (.slice ao an ac) a) := hoa.rg
  have HPA : Hid (PtsI P.length a) := by show PtsI _ _; rw [HPN.out]; exact pa
  have HAL : Hid (a.length ≤ 1048576) := Nat.le_trans hal HXB.out
  have HR3 : Hid (RRD y3 (.slice po pn pc) pvs P) := HR2.out.below (Nat.le_refl _) b3
  have CY1 : Hid _ := CY.out y3 pn B3.out hp30
  clear CX1 hoa pa hal b3 B2 HR2 HXB CY
  go_wp2_with fail
  refine Calls.mono CY1.out ?_
  rintro e y4 ⟨bv, b, rfl, hob, pb, hbl, b4⟩
  obtain ⟨bo, bn, bc, rfl⟩ : ∃ o n c, bv = .slice o n c := by obtain ⟨ao, cap, e⟩ := hob.rg.sl; exact ⟨_, _, _, e⟩
  have B4 : Hid (Below w.heap.size w y4) := bstepB B3.out b4
  have HB4 : Hid (RG (Value.int .i64) y4 (.slice bo bn bc) b) := hob.rg
  have HPB : Hid (PtsI P.length b) := by show PtsI _ _; rw [HPN.out]; exact pb
  have HBL : Hid (b.length ≤ 1048576) := Nat.le_trans hbl HYB.out
  have HR4 : Hid (RRD y4 (.slice po pn pc) pvs P) := HR3.out.below (Nat.le_refl _) b4
  have HA4 : Hid (RG (Value.int .i64) y4 (.slice ao an ac) a) := HA3.out.below (Nat.le_refl _) b4
  have CZ1 : Hid _ := CZ.out y4 pn B4.out hp30
  clear CY1 hob pb hbl b4 B3 HR3 HA3 HYB CZ
  go_wp2_with fail
  refine Calls.mono CZ1.out ?_
  rintro e y5 ⟨qv, G, rfl, hoq, pq, hql, b5⟩
  obtain ⟨qo, qn, qc, rfl⟩ : ∃ o n c, qv = .slice o n c := by obtain ⟨ao, cap, e⟩ := hoq.rg.sl; exact ⟨_, _, _, e⟩
  have B5 : Hid (Below w.heap.size w y5) := bstepB B4.out b5
  have HQ5 : Hid (RG (Value.int .i64) y5 (.slice qo qn qc) G) := hoq.rg
  have HPG : Hid (PtsI P.length G) := by show PtsI _ _; rw [HPN.out]; exact pq
  have HQL : Hid (G.length ≤ 1048576) := Nat.le_trans hql HZB.out
  have HR5 : Hid (RRD y5 (.slice po pn pc) pvs P) := HR4.out.below (Nat.le_refl _) b5
  have HA5 : Hid (RG (Value.int .i64) y5 (.slice ao an ac) a) := HA4.out.below (Nat.le_refl _) b5
  have HB5 : Hid (RG (Value.int .i64) y5 (.slice bo bn bc) b) := HB4.out.below (Nat.le_refl _) b5
  clear CZ1 hoq pq hql b5 B4 HR4 HA4 HB4 HZB
  have hP30 : P.length ≤ 30 := by rw [HPN.out]; exact hp30
  have C1 : Hid _ := apartM P HMN.out hP30 (.slice po pn pc) (.slice ao an ac) (.slice bo bn bc) (.slice qo qn qc) pvs a b G y5 HR5.out HA5.out HAL.out HB5.out HBL.out HQ5.out HQL.out HPA.out HPB.out HPG.out
  have HP30 : Hid (P.length ≤ 30) := hP30
  clear hP30 hp30
  go_wp2_with fail
  refine Calls.mono C1.out ?_
  rintro e y6 ⟨r1, rfl, hr1, b6⟩
  have D6 : Hid (Below y5.heap.size y5 y6) := b6
  have HR1 : Hid (r1 = true ↔ ¬ ∃ x ∈ a, ∃ y ∈ b, TelM P G x y) := hr1
  have C2 : Hid _ := apartM P HMN.out HP30.out (.slice po pn pc) (.slice bo bn bc) (.slice ao an ac) (.slice qo qn qc) pvs b a G y6 (HR5.out.below (Nat.le_refl _) b6) (HB5.out.below (Nat.le_refl _) b6) HBL.out (HA5.out.below (Nat.le_refl _) b6) HAL.out (HQ5.out.below (Nat.le_refl _) b6) HQL.out HPB.out HPA.out HPG.out
  clear C1 hr1 b6
  go_wp2_with fail
  refine Calls.mono C2.out ?_
  rintro e y7 ⟨r2, rfl, hr2, b7⟩
  have D7 : Hid (Below y5.heap.size y5 y7) := bstepB D6.out b7
  obtain rfl : r2 = r1 := by
    have h1 := HR1.out
    have hs : (∃ x ∈ b, ∃ y ∈ a, TelM P G x y) ↔ (∃ x ∈ a, ∃ y ∈ b, TelM P G x y) :=
      ⟨fun ⟨x, hx, y, hy, ht⟩ => ⟨y, hy, x, hx, tel_swap HMN.out (HPB.out x hx) ht⟩, fun ⟨x, hx, y, hy, ht⟩ => ⟨y, hy, x, hx, tel_swap HMN.out (HPA.out x hx) ht⟩⟩
    rw [hs] at hr2
    exact Bool.eq_iff_iff.2 (hr2.trans h1.symm)
  have hrr : (r2 != r2) = false := by simp
  have HAN : Hid (a.length = an) := HA5.out.len
  have HBN : Hid (b.length = bn) := HB5.out.len
  have hanm : an ≤ 9223372036854775807 := by have := HAL.out; have := HAN.out; omega
  have hbnm : bn ≤ 9223372036854775807 := by have := HBL.out; have := HBN.out; omega
  clear C2 D6 hr2 b7
  go_wp2_with fail
  clear hrr
  go_loopg [19, 20, 21, 22, 23, 24, 25] 6 (fun g1 v19 v20 _v21 _v22 _v23 _v24 _v25 wr => ∃ (i : Nat) (al : Bool), v19 = .bool al ∧ v20 = .int .i64 i ∧ i ≤ an ∧ i ≤ 6 ∧ 6 - i ≤ g1 ∧ Hid (al = true ↔ ∀ x ∈ a.take i, ∀ y ∈ b.take 6, ¬ TelM P G x y) ∧ Hid (Below y5.heap.size y5 wr))
  case atStart => exact ⟨0, true, rfl, rfl, Nat.zero_le _, Nat.zero_le _, by omega, (by show _ ↔ _; simp), D7⟩
  case round =>
    obtain ⟨i, al, rfl, rfl, hia, hi6, hg1, HL, DR⟩ := hrel
    by_cases hlt : i < an
    · have hltz : (i : Int) < (an : Int) := by omega
      by_cases h6 : i < 6
      · have h6z : (i : Int) < 6 := by omega
        obtain ⟨x, ga, oa, hx1, rfl, hx0⟩ := HA5.out.at hlt
        have HXA : Hid (x ∈ a) := List.mem_of_getElem? hx1
        have HTK : Hid (a.take (i + 1) = a.take i ++ [x]) := by show _ = _; rw [List.take_add_one, hx1]; rfl
        have HPX : Hid (PtsI P.length [x]) := fun z hz => by have e := List.mem_singleton.1 hz; subst e; exact HPA.out _ HXA.out
        have hO5 : RG (Value.int .i64) y5 (.slice (some ⟨ga, oa + i, none⟩) 1 (ac - i)) [x] := HA5.out.one hx1
        have HO5 : Hid (RG (Value.int .i64) y5 (.slice (some ⟨ga, oa + i, none⟩) 1 (ac - i)) [x]) := hO5
        have CR : Hid _ := reachM P HMN.out HP30.out (.slice po pn pc) (.slice (some ⟨ga, oa + i, none⟩) 1 (ac - i)) (.slice qo qn qc) pvs [x] G wr (HR5.out.below (Nat.le_refl _) DR.out) (hO5.below (Nat.le_refl _) DR.out) (by simp) (HQ5.out.below (Nat.le_refl _) DR.out) HQL.out HPX.out HPG.out
        have hcap : i + 1 ≤ ac := by have := HA5.out.room.1; omega
        clear hx1 hx0 hO5
        go_wp2_with fail
        refine Calls.mono CR.out ?_
        rintro e yr ⟨rv, R, rfl, hR, hRm, br⟩
        obtain ⟨ro, rn, rc, rfl⟩ : ∃ o n c, rv = .slice o n c := by obtain ⟨ao, cap, e⟩ := hR.rg.sl; exact ⟨_, _, _, e⟩
        have DQ : Hid (Below y5.heap.size y5 yr) := bstepB DR.out br
        have HRR : Hid (RG (Value.int .i64) yr (.slice ro rn rc) R) := hR.rg
        have HRM : Hid (∀ y, y ∈ R ↔ TelM P G x y) := fun y => by rw [hRm y]; simp
        clear CR hR hRm br DR
        go_wp2_with fail
        go_loopg [19, 23, 24, 25] 6 (fun g2 v19 v23 _v24 _v25 wz => ∃ (k : Nat) (am : Bool), v19 = .bool am ∧ v23 = .int .i64 k ∧ k ≤ bn ∧ k ≤ 6 ∧ 6 - k ≤ g2 ∧ Hid (am = true ↔ (al = true ∧ ∀ y ∈ b.take k, ¬ TelM P G x y)) ∧ Hid (Below yr.heap.size yr wz))
        case atStart => exact ⟨0, al, rfl, rfl, Nat.zero_le _, Nat.zero_le _, by omega, (by show _ ↔ _; simp), Below.refl _ _⟩
        case round =>
          obtain ⟨k, am, rfl, rfl, hkb, hk6, hg2, HK, DZ⟩ := hrel
          by_cases hltk : k < bn
          · have hltkz : (k : Int) < (bn : Int) := by omega
            by_cases h6k : k < 6
            · have h6kz : (k : Int) < 6 := by omega
              obtain ⟨y, gb, ob, hy1, rfl, hy0⟩ := HB5.out.at hltk
              have DW : Hid (Below y5.heap.size y5 wr) := bstepB DQ.out DZ.out
              have HYB : Hid (y ∈ b) := List.mem_of_getElem? hy1
              have HTKB : Hid (b.take (k + 1) = b.take k ++ [y]) := by show _ = _; rw [List.take_add_one, hy1]; rfl
              have HPY : Hid (PtsI P.length [y]) := fun z hz => by have e := List.mem_singleton.1 hz; subst e; exact HPB.out _ HYB.out
              have hO6 : RG (Value.int .i64) y5 (.slice (some ⟨gb, ob + k, none⟩) 1 (bc - k)) [y] := HB5.out.one hy1
              have CP : Hid (∀ W, Below wr.heap.size wr W → Calls Tryz.prog 9 #[.slice po pn pc, .slice (some ⟨ga, oa + i, none⟩) 1 (ac - i), .slice (some ⟨gb, ob + k, none⟩) 1 (bc - k), .slice qo qn qc] W fun e w' => ∃ r : Bool, e = .returned (.tuple #[.bool r, .int .i64 0]) ∧ (r = true ↔ ¬ ∃ x' ∈ [x], ∃ y' ∈ [y], TelM P G x' y') ∧ Below W.heap.size W w') := fun W hW => by
                have hw := bstepB DW.out hW
                exact apartM P HMN.out HP30.out (.slice po pn pc) (.slice (some ⟨ga, oa + i, none⟩) 1 (ac - i)) (.slice (some ⟨gb, ob + k, none⟩) 1 (bc - k)) (.slice qo qn qc) pvs [x] [y] G W (HR5.out.below (Nat.le_refl _) hw) (HO5.out.below (Nat.le_refl _) hw) (by simp) (hO6.below (Nat.le_refl _) hw) (by simp) (HQ5.out.below (Nat.le_refl _) hw) HQL.out HPX.out HPY.out HPG.out
              have hcapb : k + 1 ≤ bc := by have := HB5.out.room.1; omega
              have HY0 : Hid (y5.cell? ⟨gb, ob + k, none⟩ = some (.int .i64 y)) := hy0
              clear hy1 hO6 hy0
              go_wp2_with fail
              have hi0 : (0 : Int) ≤ (i : Int) := by omega
              have hi1 : (i : Int) ≤ (i : Int) + 1 := by omega
              have hi2 : (i : Int) + 1 ≤ (ac : Int) := by omega
              have hi3 : IntKind.i64.wrap ((i : Int) + 1) = (i : Int) + 1 := by rw [IntKind.wrap_i64]; omega
              have hi4 : ¬ ac = i := by omega
              have hk4 : ¬ bc = k := by omega
              have hk0 : (0 : Int) ≤ (k : Int) := by omega
              have hk1 : (k : Int) ≤ (k : Int) + 1 := by omega
              have hk2 : (k : Int) + 1 ≤ (bc : Int) := by omega
              have hk3 : IntKind.i64.wrap ((k : Int) + 1) = (k : Int) + 1 := by rw [IntKind.wrap_i64]; omega
              go_region_held3 (fun _ => True) (exact trivial) (first | (go_at_call 9; refine (CP.out _ (Below.refl _ _).drew).mono ?_; rintro e w2 ⟨r, rfl, hr, bw⟩))
              have hw2 := bstepB DW.out (bstepB (Below.refl _ _).drew bw)
              have DF2 : Hid (Below yr.heap.size yr w2) := bstepB DZ.out (bstepB (Below.refl _ _).drew bw)
              have hcy : w2.cell? ⟨gb, ob + k, none⟩ = some (.int .i64 y) := keepR hw2 HY0.out
              have HRX : Hid (r = !decide (y ∈ R)) := by
                show _ = _
                refine Bool.eq_iff_iff.2 (hr.trans ?_)
                have h1 := HRM.out y
                simp [h1]
              have HF2 : Hid ((am && r) = true ↔ (al = true ∧ ∀ y ∈ b.take (k + 1), ¬ TelM P G x y)) := by
                show _ ↔ _
                rw [Bool.and_eq_true, HK.out, hr, HTKB.out, and_assoc]
                refine and_congr_right fun _ => ?_
                constructor
                · rintro ⟨h1, h2⟩ z hz
                  rcases List.mem_append.1 hz with h3 | h3
                  · exact h1 z h3
                  · have e := List.mem_singleton.1 h3; subst e
                    exact fun ht => h2 ⟨x, by simp, z, by simp, ht⟩
                · intro h1
                  refine ⟨fun z hz => h1 z (List.mem_append_left _ hz), ?_⟩
                  rintro ⟨x', hx', y', hy', ht⟩
                  rw [List.mem_singleton.1 hx', List.mem_singleton.1 hy'] at ht
                  exact h1 y (by simp) ht
              have CH : Hid _ := has16 (.slice ro rn rc) R y w2 (HRR.out.below (Nat.le_refl _) DF2.out)
              clear CP HK hr bw hw2 DW DZ HY0 hi0 hi1 hi2 hi3 hi4 hk0 hk1 hk2 hk3 hk4
              go_wp2_with fail
              refine Calls.mono CH.out ?_
              rintro e _ ⟨rfl, rfl⟩
              clear CH hcy
              have HRX2 := HRX.out
              clear HRX
              obtain ⟨d, hd⟩ : ∃ d, decide (y ∈ R) = d := ⟨_, rfl⟩
              rw [hd] at HRX2 ⊢
              clear hd
              subst HRX2
              cases d with
              | true =>
                cases am with
                | true =>
                  go_wp2
                  go_roundg (6 - (k + 1))
                  case measure => omega
                  case rel => exact ⟨k + 1, _, rfl, by go_num, by omega, by omega, Nat.le_refl _, HF2, DF2⟩
                | false =>
                  go_wp2
                  go_roundg (6 - (k + 1))
                  case measure => omega
                  case rel => exact ⟨k + 1, _, rfl, by go_num, by omega, by omega, Nat.le_refl _, HF2, DF2⟩
              | false =>
                cases am with
                | true =>
                  go_wp2
                  go_roundg (6 - (k + 1))
                  case measure => omega
                  case rel => exact ⟨k + 1, _, rfl, by go_num, by omega, by omega, Nat.le_refl _, HF2, DF2⟩
                | false =>
                  go_wp2
                  go_roundg (6 - (k + 1))
                  case measure => omega
                  case rel => exact ⟨k + 1, _, rfl, by go_num, by omega, by omega, Nat.le_refl _, HF2, DF2⟩
            · have h6kz : ¬ (k : Int) < 6 := by omega
              have HF : Hid (am = true ↔ ∀ x ∈ a.take (i + 1), ∀ y ∈ b.take 6, ¬ TelM P G x y) := by
                show _ ↔ _
                obtain rfl : k = 6 := by omega
                rw [HK.out, HL.out, HTK.out]
                constructor
                · rintro ⟨h1, h2⟩ z hz
                  rcases List.mem_append.1 hz with h3 | h3
                  · exact h1 z h3
                  · have e := List.mem_singleton.1 h3; subst e; exact h2
                · exact fun h1 => ⟨fun z hz => h1 z (List.mem_append_left _ hz), h1 x (by simp)⟩
              have DF : Hid (Below y5.heap.size y5 wr) := bstepB DQ.out DZ.out
              clear HK
              go_wp2
              go_roundg (6 - (i + 1))
              case measure => omega
              case rel => exact ⟨i + 1, am, rfl, by go_num, by omega, by omega, Nat.le_refl _, HF, DF⟩
          · have hltkz : ¬ (k : Int) < (bn : Int) := by omega
            have HF : Hid (am = true ↔ ∀ x ∈ a.take (i + 1), ∀ y ∈ b.take 6, ¬ TelM P G x y) := by
              show _ ↔ _
              have e1 : b.take k = b.take 6 := by rw [List.take_of_length_le (by rw [HBN.out]; omega), List.take_of_length_le (by rw [HBN.out]; omega)]
              rw [HK.out, HL.out, HTK.out, e1]
              constructor
              · rintro ⟨h1, h2⟩ z hz
                rcases List.mem_append.1 hz with h3 | h3
                · exact h1 z h3
                · have e := List.mem_singleton.1 h3; subst e; exact h2
              · exact fun h1 => ⟨fun z hz => h1 z (List.mem_append_left _ hz), h1 x (by simp)⟩
            have DF : Hid (Below y5.heap.size y5 wr) := bstepB DQ.out DZ.out
            clear HK
            go_wp2
            go_roundg (6 - (i + 1))
            case measure => omega
            case rel => exact ⟨i + 1, am, rfl, by go_num, by omega, by omega, Nat.le_refl _, HF, DF⟩
      · have h6z : ¬ (i : Int) < 6 := by omega
        have han6 : (6 : Int) < (an : Int) := by omega
        go_wp2
        go_ret
        exact ⟨rfl, bstepB B5.out DR.out⟩
    · have hltz : ¬ (i : Int) < (an : Int) := by omega
      have HAT : Hid (a.take i = a) := List.take_of_length_le (by rw [HAN.out]; omega)
      have han6 : ¬ (6 : Int) < (an : Int) := by omega
      by_cases hb6 : 6 < bn
      · have hb6z : (6 : Int) < (bn : Int) := by omega
        clear HL HAT
        go_wp2
        go_ret
        exact ⟨rfl, bstepB B5.out DR.out⟩
      · have hb6z : ¬ (6 : Int) < (bn : Int) := by omega
        obtain rfl : al = r2 := by
          have h1 := HL.out
          have h2 := HR1.out
          rw [HAT.out, List.take_of_length_le (by rw [HBN.out]; omega)] at h1
          refine Bool.eq_iff_iff.2 (h1.trans (Iff.trans ?_ h2.symm))
          exact ⟨fun h ⟨x, hx, y, hy, ht⟩ => h x hx y hy ht, fun h x hx y hy ht => h ⟨x, hx, y, hy, ht⟩⟩
        have haa : (al == al) = true := by simp
        clear HL HAT
        go_wp2
        go_ret
        exact ⟨rfl, bstepB B5.out DR.out⟩
end Go.Proofs.YtcadljpdokhpmabGreat

namespace Go.Proofs.YtcadljpdokhpmabGreat
set_option linter.unusedVariables false
open Go.RowKit Go.ChangeShapes Go.Deep
theorem bulk_mem {H : Type} {d : DataW H} {l : List (DataW H)} (h : d ∈ l) : Rows.uptoBulk d ≤ Rows.uptoBulkAll l := by
  induction l with
  | nil => cases h
  | cons x r ih =>
    simp only [Rows.uptoBulkAll]
    rcases List.mem_cons.1 h with e | e
    · subst e; omega
    · have := ih e; omega
theorem bulk_pos {H : Type} (d : DataW H) : 1 ≤ Rows.uptoBulk d := by
  cases d with
  | lit l => cases l <;> simp [Rows.uptoBulk]
  | _ => simp [Rows.uptoBulk]
theorem bulk_len {H : Type} (l : List (DataW H)) : l.length ≤ Rows.uptoBulkAll l := by
  induction l with
  | nil => simp [Rows.uptoBulkAll]
  | cons x r ih => have := bulk_pos x; simp only [Rows.uptoBulkAll, List.length_cons]; omega
theorem addr_plain {w : World} {a : Addr} {v : Value} (h : w.cell? a = some v) {x : Addr} (e : a = x.add 0) : ∃ b o, x = ⟨b, o, none⟩ := by
  obtain ⟨b, off, spot⟩ := x
  subst e
  have hspot : spot = none := by
    have := World.cell?_spot h
    simpa [Addr.add] using this
  exact ⟨b, off, by rw [hspot]⟩
theorem rg_row {w : World} {ao : Option Addr} {l c : Nat} {zs : List Int} (hl : l ≤ c) (hm : c ≤ maxLen) (hz : zs.length = c) (hn : ao = none → c = 0) (hc : ∀ a, ao = some a → ∀ j, j < c → w.cell? (a.add j) = some (.int .i64 (zs.getD j 0))) : RG (Value.int .i64) w (.slice ao l c) (zs.take l) := by
  have hlen : (zs.take l).length = l := by rw [List.length_take]; omega
  refine ⟨ao, c, by rw [hlen], by rw [hlen]; exact hl, hm, hn, fun i x hx => ?_⟩
  have hi : i < l := by have := (List.getElem?_eq_some_iff.1 hx).1; omega
  cases ao with
  | none => have := hn rfl; omega
  | some a =>
    obtain ⟨b, o, rfl⟩ := addr_plain (hc a rfl 0 (by omega)) (x := a) rfl
    refine ⟨b, o, rfl, ?_⟩
    have h1 := hc _ rfl i (by omega)
    rw [Addr.add_lit] at h1
    rw [List.getElem?_take_of_lt hi] at hx
    rw [h1, List.getD_eq_getElem?_getD, hx]; rfl
theorem rrd_open {H : Type} {enc : TypeId × Value → H} {W : World} {base : Nat} {held : Bool} {fuel : Nat} {a : Option Addr} {len cap : Nat} {d : DataW H} {p : List MemPlace} (hf : DataW.trod enc Tryz.prog W base (fun _ => true) held fuel 22 (Value.cells (.slice a len cap)).toList = some (d, p)) (hbd : Rows.uptoBulk d ≤ 1048576) :
    ∃ pvs P, RRD W (.slice a len cap) pvs P ∧ ∀ i, (P.getD i []).length ≤ 1048576 := by
  rcases open_int_rows Tryz.underlying22 Tryz.underlying23 Tryz.underlying3 (by kernel_rfl) (by kernel_rfl) hf with ⟨hcs, _⟩ | ⟨a', l, c, A, L, C, Z, hcs, _, hl, hm, hx, hr⟩
  · simp [Value.cells] at hcs
    obtain ⟨rfl, rfl, rfl⟩ := hcs
    exact ⟨[], [], ⟨RG.nil _, rfl, fun i x h => by simp at h⟩, fun i => by simp⟩
  · simp [Value.cells] at hcs
    obtain ⟨rfl, rfl, rfl⟩ := hcs
    simp only [Prod.mk.injEq] at hx
    obtain ⟨hd, -⟩ := hx
    have hP : ∀ i, i < len → ((List.range len).map fun r => (Z r).take (L r)).getD i [] = (Z i).take (L i) := fun i hi => by
      rw [List.getD_eq_getElem?_getD, List.getElem?_map, List.getElem?_range hi]; rfl
    have hlp : ((List.range len).map fun r => Value.slice (A r) (L r) (C r)).length = len := by simp
    refine ⟨(List.range len).map fun r => Value.slice (A r) (L r) (C r), (List.range len).map fun r => (Z r).take (L r), ⟨?_, by simp, fun i x hi => ?_⟩, fun i => ?_⟩
    · refine ⟨some a', cap, by rw [hlp], by rw [hlp]; exact hl, hm, fun e => by simp at e, fun i x hi => ?_⟩
      have hil : i < len := by have := (List.getElem?_eq_some_iff.1 hi).1; rw [hlp] at this; exact this
      have h0 := (hr 0 (by omega)).1
      obtain ⟨b, o, rfl⟩ := addr_plain h0 (x := a') rfl
      have h1 := (hr i (by omega)).1
      rw [Addr.add_lit] at h1
      rw [List.getElem?_map, List.getElem?_range hil] at hi
      simp only [Option.map_some, Option.some.injEq] at hi
      subst hi
      exact ⟨b, o, rfl, h1⟩
    · have hil : i < len := by have := (List.getElem?_eq_some_iff.1 hi).1; rw [hlp] at this; exact this
      rw [List.getElem?_map, List.getElem?_range hil] at hi
      simp only [Option.map_some, Option.some.injEq] at hi
      subst hi
      rw [hP i hil]
      obtain ⟨-, r1, r2, r3, -, r5, r6⟩ := hr i (by omega)
      exact rg_row r1 r2 r3 r5 (fun a h j hj => (r6 a h).2 j hj)
    · by_cases hil : i < len
      · rw [hP i hil]
        obtain ⟨-, r1, r2, r3, -, r5, r6⟩ := hr i (by omega)
        cases hA : A i with
        | none => have := r5 hA; rw [List.length_take]; omega
        | some b =>
          have hmem : (intRow .i64 (A i) (L i) (Z i) : DataW H) ∈ (List.range len).map fun r => intRow .i64 (A r) (L r) (Z r) := List.mem_map.2 ⟨i, List.mem_range.2 hil, rfl⟩
          have h1 := bulk_mem hmem
          have h2 : Rows.uptoBulk d = _ := congrArg Rows.uptoBulk hd
          simp only [Rows.uptoBulk] at h2
          have e1 : (intRow .i64 (A i) (L i) (Z i) : DataW H) = .slice (lits .i64 ((Z i).take (L i))) (lits .i64 ((Z i).drop (L i))) := by rw [hA]; rfl
          have h5 : Rows.uptoBulk (intRow .i64 (A i) (L i) (Z i) : DataW H) = Rows.uptoBulkAll (lits (H := H) .i64 ((Z i).take (L i))) + Rows.uptoBulkAll (lits (H := H) .i64 ((Z i).drop (L i))) + 1 := by rw [e1]; simp only [Rows.uptoBulk]
          have h3 := bulk_len (lits (H := H) .i64 ((Z i).take (L i)))
          have h4 : (lits (H := H) .i64 ((Z i).take (L i))).length = ((Z i).take (L i)).length := by simp [lits]
          omega
      · rw [List.getD_eq_getElem?_getD, List.getElem?_eq_none (by simp; omega)]
        simp
end Go.Proofs.YtcadljpdokhpmabGreat

namespace Go.Proofs.YtcadljpdokhpmabGreat
set_option linter.unusedVariables false
open Go.RowKit Go.ChangeShapes Go.Deep
theorem rg_open {H : Type} {enc : TypeId × Value → H} {W : World} {base : Nat} {held : Bool} {fuel : Nat} {a : Option Addr} {len cap : Nat} {d : DataW H} {p : List MemPlace} (hf : DataW.trod enc Tryz.prog W base (fun _ => true) held fuel 23 (Value.cells (.slice a len cap)).toList = some (d, p)) (hbd : Rows.uptoBulk d ≤ 1048576) :
    ∃ zs, RG (Value.int .i64) W (.slice a len cap) zs ∧ zs.length ≤ 1048576 := by
  rcases open_ints Tryz.underlying23 Tryz.underlying3 (by kernel_rfl) hf with ⟨hcs, _⟩ | ⟨x, l, c, zs, hcs, _, hl, hm, hz, hd, hcell, hwz⟩
  · simp [Value.cells] at hcs
    obtain ⟨rfl, rfl, rfl⟩ := hcs
    exact ⟨[], RG.nil _, by simp⟩
  · simp [Value.cells] at hcs
    obtain ⟨rfl, rfl, rfl⟩ := hcs
    simp only [if_true] at hz
    refine ⟨zs.take len, rg_row hl hm hz (fun e => by simp at e) (fun a ha j hj => ?_), ?_⟩
    · simp only [Option.some.injEq] at ha
      rw [← ha]; exact hcell j (by omega)
    · simp only [Prod.mk.injEq] at hd
      have h2 : Rows.uptoBulk d = _ := congrArg Rows.uptoBulk hd.1
      simp only [Rows.uptoBulk] at h2
      have h3 := bulk_len (lits (H := H) .i64 (zs.take len))
      have h4 : (lits (H := H) .i64 (zs.take len)).length = (zs.take len).length := by simp [lits]
      omega
end Go.Proofs.YtcadljpdokhpmabGreat

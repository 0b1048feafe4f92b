/-
  Proved here: the document's own sets of float64s.
-/
import Derived.Test.YtknibmehbplpbaaSetFF
import Derived.Test.YtknibmehbplpbaaSetDocM
namespace Go.Proofs.Ytknibmehbplpbaa
open Go.Shelf Go.RowKit Go.Lib Go.Sort
theorem ofX_F (l : List Nat) : ofF l = ofD (ltOf cfF) l := cpt_sortS ordF smF_lt l
set_option maxRecDepth 100000 in
theorem cutF2 (ao : Option Addr) (n cap m : Nat) (hmn : m ≤ n) (hnc : n ≤ cap) (hm : cap ≤ 9223372036854775807) (hnil : ao = none → cap = 0) (w : World) :
    (Instr.slice 49 (.slice ao n cap) none (some (.int .i64 (m : Int))) none).run Try.prog w = .ok (.slice ao m cap) w := by
  have hb : (m : Int) ≤ (cap : Int) := by omega
  have h0 : (0 : Int) ≤ (m : Int) := by omega
  rcases ao with _ | ad
  · have := hnil rfl
    subst this
    have : m = 0 := by omega
    subst this
    go_simp
  · go_simp
set_option maxRecDepth 100000 in
theorem fromF2 (ao : Option Addr) (n cap m : Nat) (L : List Nat) (hmn : m ≤ n) (hnc : n ≤ cap) (hm : cap ≤ 9223372036854775807) (hnil : ao = none → cap = 0) :
    ∃ bo c2, (∀ w, (Instr.slice 49 (.slice ao n cap) (some (.int .i64 (m : Int))) none none).run Try.prog w = .ok (.slice bo (n - m) c2) w) ∧ ∀ W, RG (Value.float .f64) W (.slice ao n cap) L → RG (Value.float .f64) W (.slice bo (n - m) c2) (L.drop m) := by
  have hb : (m : Int) ≤ (n : Int) := by omega
  have h0 : (0 : Int) ≤ (m : Int) := by omega
  have hc : (n : Int) ≤ (cap : Int) := by omega
  rcases ao with _ | ad
  · have := hnil rfl
    subst this
    have : n = 0 := by omega
    subst this
    have : m = 0 := by omega
    subst this
    exact ⟨none, 0, fun w => by go_simp, fun W h => h⟩
  · obtain ⟨g, o, sp⟩ := ad
    by_cases hcm : cap = m
    · subst hcm
      have hn : n = cap := by omega
      subst hn
      refine ⟨some ⟨g, o, sp⟩, 0, fun w => ?_, fun W h => ?_⟩
      · have e1 : n - n = 0 := Nat.sub_self n
        go_simp
      · have hl := h.len
        rw [List.drop_of_length_le (by omega), Nat.sub_self]
        exact ⟨some ⟨g, o, sp⟩, 0, rfl, Nat.le_refl _, Nat.zero_le _, fun h => by simp at h, fun i x hx => by simp at hx⟩
    refine ⟨some ((⟨g, o, sp⟩ : Addr).add m), cap - m, fun w => ?_, fun W h => ?_⟩
    · have e1 : ((n : Int) - (m : Int)).toNat = n - m := by omega
      have e2 : ((cap : Int) - (m : Int)).toNat = cap - m := by omega
      go_simp
    · have hl := h.len
      by_cases h0 : 0 < n
      · obtain ⟨x, g', o', hx, e, -⟩ := h.at (i := 0) h0
        simp only [Option.some.injEq, Addr.mk.injEq] at e
        obtain ⟨rfl, rfl, rfl⟩ := e
        rw [Addr.add_lit]
        exact h.from hmn
      · have hL : L = [] := List.eq_nil_of_length_eq_zero (by omega)
        subst hL
        have : n = 0 := by omega
        subst this
        have : m = 0 := by omega
        subst this
        obtain ⟨ao, c, e, h1, h2, h3, -⟩ := h
        cases e
        exact ⟨_, _, rfl, by simp, by simp; exact h2, fun h => by simp at h, fun i x hx => by simp at hx⟩
set_option maxHeartbeats 8000000 in
set_option maxRecDepth 1000000 in
theorem beforeF (x y : Nat) (w : World) : Calls Try.prog 52 #[.float .f64 x, .float .f64 y] w fun e w' => e = .returned (.bool (ltOf cfF x y)) ∧ w' = w := by
  have HE : Hid (ltOf cfF x y = (((FloatKind.f64.format.read x).isNaN && !(FloatKind.f64.format.read y).isNaN) || (FloatKind.f64.format.order x y == some .lt))) := ltD _ _
  have h1 : (FloatKind.f64.format.order x x != some .eq) = (FloatKind.f64.format.read x).isNaN := order_self _
  have h2 : (FloatKind.f64.format.order y y == some .eq) = !(FloatKind.f64.format.read y).isNaN := by
    have h0 : (FloatKind.f64.format.order y y != some .eq) = (FloatKind.f64.format.read y).isNaN := order_self _
    rw [← h0]
    unfold bne
    rw [Bool.not_not]
  generalize (FloatKind.f64.format.read x).isNaN = b1 at *
  generalize (FloatKind.f64.format.read y).isNaN = b2 at *
  obtain ⟨r, hr⟩ : ∃ r, r = ltOf cfF x y := ⟨_, rfl⟩
  rw [← hr] at HE ⊢
  clear hr
  cases h3 : (FloatKind.f64.format.order x y == some .lt) <;> cases b1 <;> cases b2
  all_goals
    go_enter Try.func52, Try.ntmps52
    go_wp2
    go_ret
    exact ⟨by rw [HE.out, h3]; rfl, rfl⟩
set_option maxHeartbeats 8000000 in
set_option maxRecDepth 1000000 in
theorem rOfF (v : Value) (L : List Nat) (w : World) (hv : RG (Value.float .f64) w v L) (hz : L.length ≤ 10000) : Calls Try.prog 23 #[v] w fun e w' => ∃ u, e = .returned u ∧ OG (Value.float .f64) w.heap.size 48 w' u (ofD (ltOf cfF) L) ∧ Below w.heap.size w w' := by
  obtain ⟨i0, hi, hz0, hz1, hz2⟩ := info_parts infoF
  have hv0 := hv
  obtain ⟨lo, lc, rfl, hc, hm, -, -⟩ := hv
  unfold maxLen at hm
  obtain ⟨n, hn⟩ : ∃ n, L.length = n := ⟨_, rfl⟩
  rw [hn] at hc hv0 hz ⊢
  have HN : Hid (L.length = n) := hn
  have HC : Hid (∀ W, Below w.heap.size w W → ∀ i, i < n → ∃ x gg o, L[i]? = some x ∧ lo = some ⟨gg, o, none⟩ ∧ W.cell? ⟨gg, o + i, none⟩ = some ((Value.float .f64) x)) := fun W h i hi => (hv0.below (Nat.le_refl _) h).at hi
  have HLn : Hid (∀ i, i ≤ n → (ofD (ltOf cfF) (L.take i)).length ≤ i) := fun i hi => by have h1 := ofD_len (lt := ltOf cfF) (L.take i); rw [List.length_take] at h1; omega
  clear hn hv0
  go_enter Try.func23, Try.ntmps23
  go_wp2
  go_loopg [3, 4, 5, 6] n (fun g1 v3 v4 _v5 _v6 wr => ∃ (i : Nat) (vt : Value) (D : List Nat), vt = v3 ∧ v4 = .int .i64 i ∧ i ≤ n ∧ n - i ≤ g1 ∧ D = ofD (ltOf cfF) (L.take i) ∧ Hid (OG (Value.float .f64) w.heap.size 48 wr vt D) ∧ Hid (Below w.heap.size w wr))
  case atStart => exact ⟨0, _, _, rfl, rfl, Nat.zero_le _, by omega, rfl, OG.nil _ _ _, Below.refl _ _⟩
  case round =>
    obtain ⟨i, vt, D, rfl, rfl, hin, hg1, hD, HO, HBW⟩ := hrel
    have hDl : D.length ≤ i := by rw [hD]; exact HLn.out i hin
    have HD : Hid (D = ofD (ltOf cfF) (L.take i)) := hD
    clear hD
    by_cases hlt : i < n
    · have hltz : (i : Int) < (n : Int) := by omega
      obtain ⟨x, gL, oL, hx, e1, -⟩ := HC.out _ HBW.out i hlt
      subst e1
      have HX : Hid (L[i]? = some x) := hx
      clear hx
      obtain ⟨ao, cap, rfl, hao, hmc, hcm, hnil⟩ := HO.out.sl
      obtain ⟨m, hm2⟩ : ∃ m, D.length = m := ⟨_, rfl⟩
      rw [hm2] at hao hmc HO hDl ⊢
      have HM : Hid (D.length = m) := hm2
      unfold maxLen at hcm
      clear hm2
      go_wp2
      go_loopg [5] m (fun g2 v5 wr2 => ∃ at_ : Nat, v5 = .int .i64 at_ ∧ at_ ≤ m ∧ m - at_ ≤ g2 ∧ Hid (∀ t y, t < at_ → D[t]? = some y → ltOf cfF y x = true) ∧ Hid (OG (Value.float .f64) w.heap.size 48 wr2 (.slice ao m cap) D) ∧ Hid (Below w.heap.size w wr2))
      case atStart => exact ⟨0, rfl, Nat.zero_le _, by omega, fun t y h => absurd h (Nat.not_lt_zero _), HO, HBW⟩
      case round =>
        clear HO HBW
        obtain ⟨at_, rfl, hat, hg2, HA, HO, HBW⟩ := hrel
        obtain ⟨xL, gL', oL', hxL, eL, cL⟩ := HC.out _ HBW.out i hlt
        cases eL
        have hxx : xL = x := by rw [HX.out] at hxL; exact (Option.some.inj hxL).symm
        subst hxx
        clear hxL
        by_cases hlt2 : at_ < m
        · have hlt2z : (at_ : Int) < (m : Int) := by omega
          obtain ⟨g, hgB, rfl⟩ := hao (by omega)
          obtain ⟨y, hy⟩ : ∃ y, D[at_]? = some y := ⟨_, List.getElem?_eq_getElem (by rw [HM.out]; exact hlt2)⟩
          have HY : Hid (D[at_]? = some y) := hy
          have cD := (HO.out.cell hy).1
          have cD0 : wr.cell? ⟨g, 0 + at_, none⟩ = some ((Value.float .f64) y) := by rw [Nat.zero_add]; exact cD
          clear hy
          have CB := beforeF y xL
          cases hlv : ltOf cfF y xL with
          | true =>
            rw [hlv] at CB
            go_wp2_with fail
            go_quiet ((go_at_call 52; exact Calls.quiet_of_same (CB _)))
            have O2 : Hid (OG (Value.float .f64) w.heap.size 48 (wr.drewN nq) (.slice (some ⟨g, 0, none⟩) m cap) D) := HO.out.of_blocks fun _ _ => by rw [heap_drewG]
            have B2 : Hid (Below w.heap.size w (wr.drewN nq)) := below_drewN HBW.out nq
            clear HO HBW cD cD0 cL
            generalize wr.drewN nq = wq at O2 B2 ⊢
            clear nq
            go_wp2
            go_roundg (m - (at_ + 1))
            case measure => omega
            case rel =>
              refine ⟨at_ + 1, by go_num, by omega, Nat.le_refl _, fun t z ht hz => ?_, O2, B2⟩
              rcases Nat.lt_or_ge t at_ with h | h
              · exact HA.out t z h hz
              · have : t = at_ := by omega
                subst this
                rw [HY.out] at hz
                cases hz
                exact hlv
          | false =>
            rw [hlv] at CB
            go_wp2_with fail
            go_quiet ((go_at_call 52; exact Calls.quiet_of_same (CB _)))
            have O2 : Hid (OG (Value.float .f64) w.heap.size 48 (wr.drewN nq) (.slice (some ⟨g, 0, none⟩) m cap) D) := HO.out.of_blocks fun _ _ => by rw [heap_drewG]
            have B2 : Hid (Below w.heap.size w (wr.drewN nq)) := below_drewN HBW.out nq
            clear HO HBW cD cD0 cL
            generalize wr.drewN nq = wq at O2 B2 ⊢
            clear nq
            have HI1 : Hid (insD (ltOf cfF) xL D = if ltOf cfF xL y then D.take at_ ++ xL :: D.drop at_ else D) := by
              have h := insD_at (lt := ltOf cfF) (x := xL) (L := D) (k := at_) HA.out (by rw [HM.out]; exact hat) (fun z hz => by rw [HY.out] at hz; cases hz; exact hlv)
              rw [HY.out] at h
              exact h
            have hlt2z' : (at_ : Int) < (m : Int) := hlt2z
            obtain ⟨xM, gL'', oL'', hxM, eL, cL⟩ := HC.out _ B2.out i hlt
            cases eL
            have hxx : xM = xL := by rw [HX.out] at hxM; exact (Option.some.inj hxM).symm
            subst hxx
            clear hxM
            have cD := (O2.out.cell HY.out).1
            have cD0 : wq.cell? ⟨g, 0 + at_, none⟩ = some ((Value.float .f64) y) := by rw [Nat.zero_add]; exact cD
            clear CB
            have CB := beforeF xM y
            cases hl2 : ltOf cfF xM y with
            | false =>
              rw [hl2] at CB
              have HI : Hid (ofD (ltOf cfF) (L.take (i + 1)) = D) := by show _ = _; rw [take_snoc HX.out, ofD_snoc, ← HD.out, HI1.out, hl2]; rfl
              clear HI1
              go_wp2_with fail
              go_quiet ((go_at_call 52; exact Calls.quiet_of_same (CB _)))
              have O3 : Hid (OG (Value.float .f64) w.heap.size 48 (wq.drewN nq) (.slice (some ⟨g, 0, none⟩) m cap) D) := O2.out.of_blocks fun _ _ => by rw [heap_drewG]
              have B3 : Hid (Below w.heap.size w (wq.drewN nq)) := below_drewN B2.out nq
              clear O2 B2 cD cD0 cL
              generalize wq.drewN nq = wp at O3 B3 ⊢
              clear nq
              go_wp2
              go_roundg (n - (i + 1))
              case measure => omega
              case rel => exact ⟨i + 1, _, D, rfl, by go_num, by omega, Nat.le_refl _, HI.out.symm, O3, B3⟩
            | true =>
              rw [hl2] at CB
              have HI : Hid (insD (ltOf cfF) xM D = D.take at_ ++ xM :: D.drop at_) := by have h := HI1.out; rw [hl2] at h; exact h
              clear HI1
              go_wp2_with fail
              go_quiet ((go_at_call 52; exact Calls.quiet_of_same (CB _)))
              have O3 : Hid (OG (Value.float .f64) w.heap.size 48 (wq.drewN nq) (.slice (some ⟨g, 0, none⟩) m cap) D) := O2.out.of_blocks fun _ _ => by rw [heap_drewG]
              have B3 : Hid (Below w.heap.size w (wq.drewN nq)) := below_drewN B2.out nq
              clear O2 B2 cD cD0 cL
              generalize wq.drewN nq = wp at O3 B3 ⊢
              clear nq
              have O2 := O3
              have B2 := B3
              clear O3 B3
              generalize wp = wq at O2 B2 ⊢
              obtain ⟨yL, gL, oL, hyL, eL, cL⟩ := HC.out _ B2.out i hlt
              cases eL
              have hyy : xM = yL := by rw [HX.out] at hyL; exact Option.some.inj hyL
              subst hyy
              clear hyL cL
              have hcut := cutF2 (some ⟨g, 0, none⟩) m cap at_ hat hmc (by omega) hnil
              obtain ⟨bo, c2, hfrom, hfr⟩ := fromF2 (some ⟨g, 0, none⟩) m cap at_ D hat hmc (by omega) hnil
              have RT : Hid (RG (Value.float .f64) wq (.slice (some ⟨g, 0, none⟩) at_ cap) (D.take at_)) := by have := O2.out.rg.cut hat; exact this
              have N0 : Hid (OG (Value.float .f64) wq.heap.size 48 wq (.slice none 0 0) []) := OG.nil _ _ _
              have BQ : Hid (Below wq.heap.size wq wq) := Below.refl _ _
              have LT : Hid (([] : List Nat).length + (D.take at_).length ≤ 20000) := by show _ ≤ _; rw [List.length_take]; simp only [List.length_nil]; omega
              have ZZa : Hid (wq.heap.size ≤ wq.heap.size) := BQ.out.size
              go_wp2_with (at_builtin; refine wpList_appG _ oneF rfl _ _ 49 rfl wq.heap.size 48 i0 (.float .f64 0) 8 Try.underlying49 hi hz0 hz1 hz2 rfl _ _ ([]) (D.take at_) rfl N0.out rfl RT.out (by have := LT.out; unfold maxLen; omega) (by have := LT.out; omega) ZZa.out ?_)
              intro va wa hoa hga
              have Pa : Hid (OG (Value.float .f64) wq.heap.size 48 wa va ([] ++ D.take at_)) := by first | exact hoa | (have h := hoa; rw [List.append_cons] at h; exact h)
              have Qa : Hid (Below wq.heap.size wq wa) := N0.out.grown BQ.out ZZa.out hga
              have Ga : Hid (wq.grownBy wa (Value.slice none 0 0).ownBlock) := hga
              clear hoa hga ZZa
              have Pa2 : Hid (OG (Value.float .f64) wq.heap.size 48 wa va (D.take at_)) := Pa.out
              clear Pa RT N0 BQ LT Ga hcut
              have B3 : Hid (Below w.heap.size w wa) := B2.out.trans (Qa.out.mono B2.out.size)
              obtain ⟨yL, gL, oL, hyL, eL, cL⟩ := HC.out _ B3.out i hlt
              cases eL
              have hyy : xM = yL := by rw [HX.out] at hyL; exact Option.some.inj hyL
              subst hyy
              clear hyL
              have O4 : Hid (OG (Value.float .f64) wq.heap.size 48 (wa.alloc (.cells #[(Value.float .f64) xM] 48)) va (D.take at_)) := Pa2.out.below ((Below.refl _ _).alloc (Nat.le_refl _) _)
              have R4_ : Hid (RG (Value.float .f64) (wa.alloc (.cells #[(Value.float .f64) xM] 48)) (.slice (some ⟨wa.heap.size, 0, none⟩) 1 1) [xM]) := (OG.lit (enc := (Value.float .f64)) 48 wa [xM] (by unfold maxLen; simp)).rg
              have B4 : Hid (Below wq.heap.size wq (wa.alloc (.cells #[(Value.float .f64) xM] 48))) := Qa.out.alloc Qa.out.size _
              have LT2 : Hid ((D.take at_).length + [xM].length ≤ 20000) := by show _ ≤ _; rw [List.length_take]; simp only [List.length_cons, List.length_nil]; omega
              have ZZb : Hid (wq.heap.size ≤ (wa.alloc (.cells #[(Value.float .f64) xM] 48)).heap.size) := B4.out.size
              go_wp2_with (at_builtin; refine wpList_appG _ oneF rfl _ _ 49 rfl wq.heap.size 48 i0 (.float .f64 0) 8 Try.underlying49 hi hz0 hz1 hz2 rfl _ _ (D.take at_) ([xM]) rfl O4.out rfl R4_.out (by have := LT2.out; unfold maxLen; omega) (by have := LT2.out; omega) ZZb.out ?_)
              intro vb wb hob hgb
              have Pb : Hid (OG (Value.float .f64) wq.heap.size 48 wb vb (D.take at_ ++ [xM])) := by first | exact hob | (have h := hob; rw [List.append_cons] at h; exact h)
              have Qb : Hid (Below wq.heap.size wq wb) := O4.out.grown B4.out ZZb.out hgb
              have Gb : Hid ((wa.alloc (.cells #[(Value.float .f64) xM] 48)).grownBy wb (va).ownBlock) := hgb
              clear hob hgb ZZb
              clear O4 R4_ B4 LT2 Gb Pa2 B3 cL
              have RF : Hid (RG (Value.float .f64) wb (.slice bo (m - at_) c2) (D.drop at_)) := (hfr wq O2.out.rg).below (Nat.le_refl _) Qb.out
              have LT3 : Hid ((D.take at_ ++ [xM]).length + (D.drop at_).length ≤ 20000) := by show _ ≤ _; have := HM.out; rw [List.length_append, List.length_take, List.length_drop]; simp only [List.length_cons, List.length_nil]; omega
              clear hfr
              have ZZc : Hid (wq.heap.size ≤ wb.heap.size) := Qb.out.size
              go_wp2_with (at_builtin; refine wpList_appG _ oneF rfl _ _ 49 rfl wq.heap.size 48 i0 (.float .f64 0) 8 Try.underlying49 hi hz0 hz1 hz2 rfl _ _ (D.take at_ ++ [xM]) (D.drop at_) rfl Pb.out rfl RF.out (by have := LT3.out; unfold maxLen; omega) (by have := LT3.out; omega) ZZc.out ?_)
              intro vc wc hoc hgc
              have Pc : Hid (OG (Value.float .f64) wq.heap.size 48 wc vc (D.take at_ ++ [xM] ++ D.drop at_)) := by first | exact hoc | (have h := hoc; rw [List.append_cons] at h; exact h)
              have Qc : Hid (Below wq.heap.size wq wc) := Pb.out.grown Qb.out ZZc.out hgc
              have Gc : Hid (wb.grownBy wc (vb).ownBlock) := hgc
              clear hoc hgc ZZc
              have PE : Hid (OG (Value.float .f64) w.heap.size 48 wc vc (ofD (ltOf cfF) (L.take (i + 1)))) := by rw [take_snoc HX.out, ofD_snoc, ← HD.out, HI.out, List.append_cons]; exact Pc.out.mono B2.out.size
              have QE : Hid (Below w.heap.size w wc) := B2.out.trans (Qc.out.mono B2.out.size)
              clear Pc Qc Gc RF LT3 Pb Qb Qa O2 B2
              go_wp2
              go_roundg (n - (i + 1))
              case measure => omega
              case rel => exact ⟨i + 1, _, _, rfl, by go_num, by omega, Nat.le_refl _, rfl, PE, QE⟩
        · have hlt2z : ¬ (at_ : Int) < (m : Int) := by omega
          have hlt2d : decide ((at_ : Int) < (m : Int)) = false := decide_eq_false hlt2z
          have hae : at_ = m := by omega
          subst hae
          have HI : Hid (insD (ltOf cfF) xL D = D.take at_ ++ xL :: D.drop at_) := by
            have h := insD_at (lt := ltOf cfF) (x := xL) (L := D) (k := at_) HA.out (by rw [HM.out]; exact hat) (fun z hz => by rw [List.getElem?_eq_none (by rw [HM.out]; exact Nat.le_refl _)] at hz; cases hz)
            rw [List.getElem?_eq_none (by rw [HM.out]; exact Nat.le_refl _)] at h
            exact h
          go_wp2_with fail
          go_quiet (fail)
          have O2 : Hid (OG (Value.float .f64) w.heap.size 48 (wr.drewN nq) (.slice ao at_ cap) D) := HO.out.of_blocks fun _ _ => by rw [heap_drewG]
          have B2 : Hid (Below w.heap.size w (wr.drewN nq)) := below_drewN HBW.out nq
          clear HO HBW cL
          generalize wr.drewN nq = wq at O2 B2 ⊢
          clear nq
          go_wp2_with fail
          go_quiet (fail)
          have O3 : Hid (OG (Value.float .f64) w.heap.size 48 (wq.drewN nq) (.slice ao at_ cap) D) := O2.out.of_blocks fun _ _ => by rw [heap_drewG]
          have B3 : Hid (Below w.heap.size w (wq.drewN nq)) := below_drewN B2.out nq
          clear O2 B2
          generalize wq.drewN nq = wp at O3 B3 ⊢
          clear nq
          have O2 := O3
          have B2 := B3
          clear O3 B3
          generalize wp = wq at O2 B2 ⊢
          obtain ⟨yL, gL, oL, hyL, eL, cL⟩ := HC.out _ B2.out i hlt
          cases eL
          have hyy : xL = yL := by rw [HX.out] at hyL; exact Option.some.inj hyL
          subst hyy
          clear hyL cL
          have hcut := cutF2 ao at_ cap at_ hat hmc (by omega) hnil
          obtain ⟨bo, c2, hfrom, hfr⟩ := fromF2 ao at_ cap at_ D hat hmc (by omega) hnil
          simp only [Nat.sub_self] at hfrom hfr
          have RT : Hid (RG (Value.float .f64) wq (.slice ao at_ cap) (D.take at_)) := by have := O2.out.rg.cut hat; exact this
          have N0 : Hid (OG (Value.float .f64) wq.heap.size 48 wq (.slice none 0 0) []) := OG.nil _ _ _
          have BQ : Hid (Below wq.heap.size wq wq) := Below.refl _ _
          have LT : Hid (([] : List Nat).length + (D.take at_).length ≤ 20000) := by show _ ≤ _; rw [List.length_take]; simp only [List.length_nil]; omega
          have ZZa : Hid (wq.heap.size ≤ wq.heap.size) := BQ.out.size
          go_wp2_with (at_builtin; refine wpList_appG _ oneF rfl _ _ 49 rfl wq.heap.size 48 i0 (.float .f64 0) 8 Try.underlying49 hi hz0 hz1 hz2 rfl _ _ ([]) (D.take at_) rfl N0.out rfl RT.out (by have := LT.out; unfold maxLen; omega) (by have := LT.out; omega) ZZa.out ?_)
          intro va wa hoa hga
          have Pa : Hid (OG (Value.float .f64) wq.heap.size 48 wa va ([] ++ D.take at_)) := by first | exact hoa | (have h := hoa; rw [List.append_cons] at h; exact h)
          have Qa : Hid (Below wq.heap.size wq wa) := N0.out.grown BQ.out ZZa.out hga
          have Ga : Hid (wq.grownBy wa (Value.slice none 0 0).ownBlock) := hga
          clear hoa hga ZZa
          have Pa2 : Hid (OG (Value.float .f64) wq.heap.size 48 wa va (D.take at_)) := Pa.out
          clear Pa RT N0 BQ LT Ga hcut
          have B3 : Hid (Below w.heap.size w wa) := B2.out.trans (Qa.out.mono B2.out.size)
          obtain ⟨yL, gL, oL, hyL, eL, cL⟩ := HC.out _ B3.out i hlt
          cases eL
          have hyy : xL = yL := by rw [HX.out] at hyL; exact Option.some.inj hyL
          subst hyy
          clear hyL
          have O4 : Hid (OG (Value.float .f64) wq.heap.size 48 (wa.alloc (.cells #[(Value.float .f64) xL] 48)) va (D.take at_)) := Pa2.out.below ((Below.refl _ _).alloc (Nat.le_refl _) _)
          have R4_ : Hid (RG (Value.float .f64) (wa.alloc (.cells #[(Value.float .f64) xL] 48)) (.slice (some ⟨wa.heap.size, 0, none⟩) 1 1) [xL]) := (OG.lit (enc := (Value.float .f64)) 48 wa [xL] (by unfold maxLen; simp)).rg
          have B4 : Hid (Below wq.heap.size wq (wa.alloc (.cells #[(Value.float .f64) xL] 48))) := Qa.out.alloc Qa.out.size _
          have LT2 : Hid ((D.take at_).length + [xL].length ≤ 20000) := by show _ ≤ _; rw [List.length_take]; simp only [List.length_cons, List.length_nil]; omega
          have ZZb : Hid (wq.heap.size ≤ (wa.alloc (.cells #[(Value.float .f64) xL] 48)).heap.size) := B4.out.size
          go_wp2_with (at_builtin; refine wpList_appG _ oneF rfl _ _ 49 rfl wq.heap.size 48 i0 (.float .f64 0) 8 Try.underlying49 hi hz0 hz1 hz2 rfl _ _ (D.take at_) ([xL]) rfl O4.out rfl R4_.out (by have := LT2.out; unfold maxLen; omega) (by have := LT2.out; omega) ZZb.out ?_)
          intro vb wb hob hgb
          have Pb : Hid (OG (Value.float .f64) wq.heap.size 48 wb vb (D.take at_ ++ [xL])) := by first | exact hob | (have h := hob; rw [List.append_cons] at h; exact h)
          have Qb : Hid (Below wq.heap.size wq wb) := O4.out.grown B4.out ZZb.out hgb
          have Gb : Hid ((wa.alloc (.cells #[(Value.float .f64) xL] 48)).grownBy wb (va).ownBlock) := hgb
          clear hob hgb ZZb
          clear O4 R4_ B4 LT2 Gb Pa2 B3 cL
          have RF : Hid (RG (Value.float .f64) wb (.slice bo 0 c2) (D.drop at_)) := (hfr wq O2.out.rg).below (Nat.le_refl _) Qb.out
          have LT3 : Hid ((D.take at_ ++ [xL]).length + (D.drop at_).length ≤ 20000) := by show _ ≤ _; have := HM.out; rw [List.length_append, List.length_take, List.length_drop]; simp only [List.length_cons, List.length_nil]; omega
          clear hfr
          have ZZc : Hid (wq.heap.size ≤ wb.heap.size) := Qb.out.size
          go_wp2_with (at_builtin; refine wpList_appG _ oneF rfl _ _ 49 rfl wq.heap.size 48 i0 (.float .f64 0) 8 Try.underlying49 hi hz0 hz1 hz2 rfl _ _ (D.take at_ ++ [xL]) (D.drop at_) rfl Pb.out rfl RF.out (by have := LT3.out; unfold maxLen; omega) (by have := LT3.out; omega) ZZc.out ?_)
          intro vc wc hoc hgc
          have Pc : Hid (OG (Value.float .f64) wq.heap.size 48 wc vc (D.take at_ ++ [xL] ++ D.drop at_)) := by first | exact hoc | (have h := hoc; rw [List.append_cons] at h; exact h)
          have Qc : Hid (Below wq.heap.size wq wc) := Pb.out.grown Qb.out ZZc.out hgc
          have Gc : Hid (wb.grownBy wc (vb).ownBlock) := hgc
          clear hoc hgc ZZc
          have PE : Hid (OG (Value.float .f64) w.heap.size 48 wc vc (ofD (ltOf cfF) (L.take (i + 1)))) := by rw [take_snoc HX.out, ofD_snoc, ← HD.out, HI.out, List.append_cons]; exact Pc.out.mono B2.out.size
          have QE : Hid (Below w.heap.size w wc) := B2.out.trans (Qc.out.mono B2.out.size)
          clear Pc Qc Gc RF LT3 Pb Qb Qa O2 B2
          go_wp2
          go_roundg (n - (i + 1))
          case measure => omega
          case rel => exact ⟨i + 1, _, _, rfl, by go_num, by omega, Nat.le_refl _, rfl, PE, QE⟩
    · have hltz : ¬ (i : Int) < (n : Int) := by omega
      have HE : Hid (D = ofD (ltOf cfF) L) := by show _ = _; rw [HD.out, List.take_of_length_le (by rw [HN.out]; omega)]
      clear HD
      go_wp2
      go_ret
      exact ⟨_, rfl, by rw [← HE.out]; exact HO.out, HBW.out⟩
end Go.Proofs.Ytknibmehbplpbaa

/-
  Proved here: the document's Tells: does a point tell something of one of some others?
-/
import Derived.Test.YthdpomgpcblpeaaGreatPsJAll
namespace Go.Proofs.YthdpomgpcblpeaaGreat
set_option linter.unusedVariables false
open Go.RowKit Go.Shelf Go.Sort Go.Lib
/-- A yes or no that says just whether something holds. -/
def TlV (X : Prop) (v : Value) : Prop := ∃ b : Bool, v = .bool b ∧ (b = true ↔ X)
theorem el_in {P : List (List Int)} {f : Nat → Bool} {G : List Int} {a b : Nat} (h : elB P f G a b = true) : f b = true ∧ (b : Int) ∉ G ∧ jnB P f a b = true := by
  unfold elB at h
  rw [Bool.and_eq_true, Bool.and_eq_true] at h
  exact ⟨h.1.1, by simpa using h.1.2, h.2⟩
theorem el_yes {P : List (List Int)} {f : Nat → Bool} {G : List Int} {a b : Nat} (h1 : f b = true) (h2 : (b : Int) ∉ G) (h3 : jnB P f a b = true) : elB P f G a b = true := by
  unfold elB
  rw [h1, h3, decide_eq_false h2]; rfl
theorem inn_step {R : List Int} {i p : Nat} (h : R[i]? = some (p : Int)) (k : Nat) : (if k = p then true else decide ((k : Int) ∈ R.take i)) = decide ((k : Int) ∈ R.take (i + 1)) := by
  rw [List.take_add_one, h]
  by_cases e : k = p
  · subst e; simp
  · rw [if_neg e]
    have e2 : ¬ (k : Int) = (p : Int) := by omega
    simp [e2]
set_option maxRecDepth 1000000 in
set_option maxHeartbeats 12800000 in
theorem tells17 (pv av qv : Value) (pvs : List Value) (Q : List (List Int)) (o G : List Int) (w : World) (h : RRD w pv pvs Q) (n : Nat) (hn : Q.length = n) (hb : n ≤ 10000) (hbl : ∀ i, (Q.getD i []).length ≤ 100000) (r : Nat) (hr : r < n) (ha : RG (Value.int .i64) w av o) (hal : o.length ≤ 500000) (hq : RG (Value.int .i64) w qv G) (hql : G.length ≤ 500000)
    (hck : ckE Q = 0) (pa : noPts (n : Int) o = false) (pG : noPts (n : Int) G = false) (hrG : (r : Int) ∉ G) :
    Calls Tryz.prog 30 #[pv, .int .i64 (r : Int), av, qv] w fun e w' => ∃ v, e = .returned v ∧ TlV (∃ y ∈ o, TelM Q G (r : Int) y) v ∧ Below w.heap.size w w' := by
  obtain ⟨i0, hi, hz0, hz1, hz2⟩ := info_parts Tryz.infoI
  obtain ⟨ib, hib, hs0, hs1, hs2⟩ := info_parts Tryz.infoBD
  obtain ⟨po, pn, pc, rfl⟩ : ∃ o n c, pv = .slice o n c := by obtain ⟨ao, cap, e⟩ := h.out.sl; exact ⟨_, _, _, e⟩
  obtain rfl : pn = n := by rw [← hn, ← h.len, h.out.len]
  obtain ⟨gp, op, rfl⟩ : ∃ g o, po = some ⟨g, o, none⟩ := by obtain ⟨x, g, o, -, e, -⟩ := h.out.at hr; exact ⟨g, o, e⟩
  obtain ⟨ao, an, ac, rfl⟩ : ∃ o n c, av = .slice o n c := by obtain ⟨ao, cap, e⟩ := ha.sl; exact ⟨_, _, _, e⟩
  obtain ⟨qo, qn, qc, rfl⟩ : ∃ o n c, qv = .slice o n c := by obtain ⟨ao, cap, e⟩ := hq.sl; exact ⟨_, _, _, e⟩
  have hanm : an ≤ 500000 := by rw [← ha.len]; exact hal
  have HAN : Hid (o.length = an) := ha.len
  have HQN : Hid (G.length ≤ 500000) := hql
  have HN : Hid (Q.length = pn) := hn
  have HBL : Hid (∀ i, (Q.getD i []).length ≤ 100000) := hbl
  have HCK : Hid (ckE Q = 0) := hck
  have HPA : Hid (noPts (pn : Int) o = false) := pa
  have HPG : Hid (noPts (pn : Int) G = false) := pG
  have HRG : Hid ((r : Int) ∉ G) := hrG
  have HR : Hid (∀ W, Below w.heap.size w W → RRD W (.slice (some ⟨gp, op, none⟩) pn pc) pvs Q) := fun W hW => h.below (Nat.le_refl _) hW
  have HA : Hid (∀ W, Below w.heap.size w W → RG (Value.int .i64) W (.slice ao an ac) o) := fun W hW => ha.below (Nat.le_refl _) hW
  have HQ : Hid (∀ W, Below w.heap.size w W → RG (Value.int .i64) W (.slice qo qn qc) G) := fun W hW => hq.below (Nat.le_refl _) hW
  obtain ⟨W1, hW1⟩ : ∃ W, W = w.alloc (.cells #[.int .i64 (r : Int)] 3) := ⟨_, rfl⟩
  obtain ⟨g1, hg1⟩ : ∃ g, g = w.heap.size := ⟨_, rfl⟩
  have HB1 : Hid (Below w.heap.size w W1) := by show Below _ _ _; rw [hW1]; exact belowB _ _
  have HO1 : Hid (OG (Value.int .i64) w.heap.size 3 W1 (.slice (some ⟨g1, 0, none⟩) 1 1) [(r : Int)]) := by
    show OG _ _ _ _ _ _
    rw [hW1, hg1]; exact OG.lit (enc := Value.int .i64) 3 w [(r : Int)] (by unfold maxLen; simp)
  have HW1 : Hid (W1 = w.alloc (.cells #[.int .i64 (r : Int)] 3)) := hW1
  have HG1 : Hid (g1 = w.heap.size) := hg1
  clear h hn hbl ha hal hq hql hck pa pG hrG hW1 hg1
  go_enter Tryz.func30, Tryz.ntmps30
  go_wp2_with (at_builtin; rw [← HW1.out, ← HG1.out]; refine wpList_appG _ (fun _ => rfl) rfl _ _ 23 rfl w.heap.size 3 i0 (.int .i64 0) 8 Tryz.underlying23 hi hz0 hz1 hz2 rfl _ _ [(r : Int)] o rfl HO1.out rfl (HA.out W1 HB1.out) (by have := HAN.out; unfold maxLen; simp; omega) (by have := HAN.out; simp; omega) HB1.out.size ?_)
  intro v1 y1 ho1 hg1
  have HB2 : Hid (Below w.heap.size w y1) := HO1.out.grown HB1.out HB1.out.size hg1
  obtain ⟨o1, n1, c1, rfl⟩ : ∃ o n c, v1 = .slice o n c := by obtain ⟨ao, cap, e, -⟩ := ho1.sl; exact ⟨_, _, _, e⟩
  have HO2 : Hid (OG (Value.int .i64) w.heap.size 3 y1 (.slice o1 n1 c1) ([(r : Int)] ++ o)) := ho1
  clear ho1 hg1 HO1 HB1 HW1 HG1
  go_wp2_with (at_builtin; refine wpList_appG _ (fun _ => rfl) rfl _ _ 23 rfl w.heap.size 3 i0 (.int .i64 0) 8 Tryz.underlying23 hi hz0 hz1 hz2 rfl _ _ ([(r : Int)] ++ o) G rfl HO2.out rfl (HQ.out y1 HB2.out) (by have := HAN.out; have := HQN.out; unfold maxLen; simp; omega) (by have := HAN.out; have := HQN.out; simp; omega) HB2.out.size ?_)
  intro v2 y2 ho2 hg2
  have HB3 : Hid (Below w.heap.size w y2) := HO2.out.grown HB2.out HB2.out.size hg2
  obtain ⟨o2, n2, c2, rfl⟩ : ∃ o n c, v2 = .slice o n c := by obtain ⟨ao, cap, e, -⟩ := ho2.sl; exact ⟨_, _, _, e⟩
  have CA : Hid _ := refAboveD (.slice (some ⟨gp, op, none⟩) pn pc) (.slice o2 n2 c2) pvs Q ([(r : Int)] ++ o ++ G) y2 (HR.out y2 HB3.out) pn HN.out (by omega) HBL.out ho2.rg (by have := HAN.out; have := HQN.out; simp; omega)
  clear ho2 hg2 HO2 HB2
  go_wp2_with fail
  refine Calls.mono CA.out ?_
  rintro e y ⟨hE, hy⟩
  have HB : Hid (Below w.heap.size w y) := bstepB HB3.out hy
  obtain ⟨lo, ln, lc, c, R, rfl, hl, hab⟩ := hE.abs
  have hns : noPts (pn : Int) ([(r : Int)] ++ o ++ G) = false := by
    have h1 := HPA.out
    have h2 := HPG.out
    unfold noPts at h1 h2 ⊢
    rw [List.any_append, List.any_append, h1, h2]
    simp [noPt]; omega
  have hRR : Rise R ∧ ∀ x, x ∈ R ↔ RchP Q ([(r : Int)] ++ o ++ G) x := by
    obtain ⟨R2, e2, h3⟩ := hab
    obtain rfl : R = R2 := by simpa using e2
    rcases h3 with ⟨h4, _, _⟩ | ⟨_, ⟨h4, _, _⟩ | ⟨_, _, h5, h6⟩⟩
    · exact absurd HCK.out h4
    · rw [hns] at h4; simp at h4
    · exact ⟨h5, h6⟩
  have HRM : Hid (∀ x, x ∈ R ↔ RchP Q ([(r : Int)] ++ o ++ G) x) := hRR.2
  have HRP : Hid (∀ x ∈ R, ∃ p : Nat, x = (p : Int) ∧ p < pn) := fun x hx => rch_pt (outs_no (cl_zero (ck_zero HCK.out)).1) HN.out hns ((hRR.2 x).1 hx)
  have HLN : Hid (R.length = ln) := hl.rg.len
  have hlnm : ln ≤ 9223372036854775807 := by have := hl.rg.room.1; have := hl.rg.room.2.1; unfold maxLen at *; omega
  have HL : Hid (∀ W, Below y.heap.size y W → RG (Value.int .i64) W (.slice lo ln lc) R) := fun W hW => hl.rg.below (Nat.le_refl _) hW
  obtain ⟨WI, hWI⟩ : ∃ W, W = y.alloc (.cells (Array.replicate pn (.bool false)) 4) := ⟨_, rfl⟩
  obtain ⟨gi, hgi⟩ : ∃ g, g = y.heap.size := ⟨_, rfl⟩
  have HBI : Hid (Below y.heap.size y WI) := by show Below _ _ _; rw [hWI]; exact belowB _ _
  have HOI : Hid (OG Value.bool y.heap.size 4 WI (.slice (some ⟨gi, 0, none⟩) pn pn) (rowB pn (fun k => decide ((k : Int) ∈ R.take 0)))) := by
    show OG _ _ _ _ _ _
    have e : (fun k : Nat => decide ((k : Int) ∈ R.take 0)) = fun _ => false := by funext k; simp
    rw [e, ← rowB_no, hWI, hgi]
    exact OG.made (enc := Value.bool) y _ pn false (by unfold maxLen; omega)
  have HYG : Hid (y.heap.size ≤ gi) := by show _ ≤ _; rw [hgi]; exact Nat.le_refl _
  have HWI : Hid (WI = y.alloc (.cells (Array.replicate pn (.bool false)) 4)) := hWI
  have HGI : Hid (gi = y.heap.size) := hgi
  clear hE hy hab hns hRR hl hWI hgi CA HB3
  go_upto_region 6 with (at_make; refine wpList_madeD _ rfl _ _ 60 rfl 4 ib (.bool false) rfl Tryz.underlying60 hib hs0 hs1 _ _ pn rfl rfl (by rw [hs2]; omega) (by omega) ?_)
  rw [← HWI.out, ← HGI.out]
  clear HWI HGI
  go_wp2
  go_loopg [13] ln (fun g1 v13 wr => ∃ i : Nat, v13 = .int .i64 i ∧ i ≤ ln ∧ ln - i ≤ g1 ∧ Hid (OG Value.bool y.heap.size 4 wr (.slice (some ⟨gi, 0, none⟩) pn pn) (rowB pn (fun k => decide ((k : Int) ∈ R.take i)))) ∧ Hid (Below y.heap.size y wr))
  case atStart => exact ⟨0, rfl, Nat.zero_le _, by omega, HOI, HBI⟩
  case round =>
    clear HOI HBI
    obtain ⟨i, rfl, hin, hg1, HO, HBY⟩ := hrel
    by_cases hlt : i < ln
    · have hltz : (i : Int) < (ln : Int) := by omega
      obtain ⟨x, gx, ox, hx1, rfl, hx2⟩ := (HL.out wr HBY.out).at hlt
      obtain ⟨p, rfl, hp⟩ := HRP.out x (List.mem_of_getElem? hx1)
      have hpz : (p : Int) < (pn : Int) := by omega
      obtain ⟨hc1, hc2⟩ := HO.out.cell (rowB_get (f := fun k => decide ((k : Int) ∈ R.take i)) hp)
      have hset := (HO.out.set (rowB_len _ _) p true).1
      rw [rowB_set] at hset
      obtain ⟨W2, hW2⟩ : ∃ W, W = wr.setCell ⟨gi, p, none⟩ (.bool true) := ⟨_, rfl⟩
      change OG Value.bool y.heap.size 4 (wr.setCell ⟨gi, p, none⟩ (.bool true)) _ _ at hset
      rw [← hW2] at hset
      have HO2 : Hid (OG Value.bool y.heap.size 4 W2 (.slice (some ⟨gi, 0, none⟩) pn pn) (rowB pn (fun k => decide ((k : Int) ∈ R.take (i + 1))))) := by
        show OG _ _ _ _ _ _
        rw [rowB_congr (g := fun k => decide ((k : Int) ∈ R.take (i + 1))) (fun k _ => inn_step hx1 k)] at hset
        exact hset
      have HB2 : Hid (Below y.heap.size y W2) := by show Below _ _ _; rw [hW2]; exact HBY.out.setCell (p := ⟨gi, p, none⟩) HYG.out _
      have HW2 : Hid (W2 = wr.setCell ⟨gi, p, none⟩ (.bool true)) := hW2
      clear hx1 hset hW2 HO HBY
      go_wp2
      rw [← HW2.out]
      clear hx2 hc1 hc2 HW2
      go_roundg (ln - (i + 1))
      case measure => omega
      case rel => exact ⟨i + 1, by first | rfl | go_num, by omega, Nat.le_refl _, HO2, HB2⟩
    · have hltz : ¬ (i : Int) < (ln : Int) := by omega
      obtain ⟨z, rfl⟩ : ∃ W, W = wr := ⟨_, rfl⟩
      obtain ⟨inn, hinn⟩ : ∃ f : Nat → Bool, f = fun k : Nat => decide ((k : Int) ∈ R.take i) := ⟨_, rfl⟩
      rw [← hinn] at HO
      have HIN : Hid (∀ c : Nat, c < Q.length → (inn c = true ↔ RchP Q ([(r : Int)] ++ o ++ G) (c : Int))) := fun c _ => by
        rw [hinn, ← HRM.out]
        rw [List.take_of_length_le (by rw [HLN.out]; omega), decide_eq_true_iff]
      have HII : Hid (∀ W, Below z.heap.size z W → RG Value.bool W (.slice (some ⟨gi, 0, none⟩) pn pn) (rowB pn inn)) := fun W hW => HO.out.rg.below (Nat.le_refl _) hW
      have hBZ : Below w.heap.size w z := bstepB HB.out HBY.out
      have HBZ : Hid (Below w.heap.size w z) := hBZ
      have HRZ : Hid (∀ W, Below z.heap.size z W → RRD W (.slice (some ⟨gp, op, none⟩) pn pc) pvs Q) := fun W hW => HR.out W (bstepB hBZ hW)
      have HAZ : Hid (∀ W, Below z.heap.size z W → RG (Value.int .i64) W (.slice ao an ac) o) := fun W hW => HA.out W (bstepB hBZ hW)
      have HQZ : Hid (∀ W, Below z.heap.size z W → RG (Value.int .i64) W (.slice qo qn qc) G) := fun W hW => HQ.out W (bstepB hBZ hW)
      obtain ⟨WS, hWS⟩ : ∃ W, W = z.alloc (.cells (Array.replicate pn (.bool false)) 4) := ⟨_, rfl⟩
      obtain ⟨gs, hgs⟩ : ∃ g, g = z.heap.size := ⟨_, rfl⟩
      have HBS : Hid (Below z.heap.size z WS) := by show Below _ _ _; rw [hWS]; exact belowB _ _
      have HOS : Hid (OG Value.bool z.heap.size 4 WS (.slice (some ⟨gs, 0, none⟩) pn pn) (rowB pn (fun _ => false))) := by
        show OG _ _ _ _ _ _
        rw [← rowB_no, hWS, hgs]
        exact OG.made (enc := Value.bool) z _ pn false (by unfold maxLen; omega)
      have HZG : Hid (z.heap.size ≤ gs) := by show _ ≤ _; rw [hgs]; exact Nat.le_refl _
      have HWS : Hid (WS = z.alloc (.cells (Array.replicate pn (.bool false)) 4)) := hWS
      have HGS : Hid (gs = z.heap.size) := hgs
      clear hinn hWS hgs hBZ HO HBY HR HA HQ HB HL HRM HRP HLN hltz hin hg1 hlnm HYG
      go_upto_region 11 with (at_make; refine wpList_madeD _ rfl _ _ 60 rfl 4 ib (.bool false) rfl Tryz.underlying60 hib hs0 hs1 _ _ pn rfl rfl (by rw [hs2]; omega) (by omega) ?_)
      rw [← HWS.out, ← HGS.out]
      clear HWS HGS
      obtain ⟨hc1, hc2⟩ := HOS.out.cell (rowB_get (f := fun _ => false) hr)
      have hset := (HOS.out.set (rowB_len _ _) r true).1
      rw [rowB_set] at hset
      obtain ⟨W3, hW3⟩ : ∃ W, W = WS.setCell ⟨gs, r, none⟩ (.bool true) := ⟨_, rfl⟩
      change OG Value.bool z.heap.size 4 (WS.setCell ⟨gs, r, none⟩ (.bool true)) _ _ at hset
      rw [← hW3] at hset
      obtain ⟨f0, hf0⟩ : ∃ f : Nat → Bool, f = fun u => if u = r then true else false := ⟨_, rfl⟩
      have HO3 : Hid (OG Value.bool z.heap.size 4 W3 (.slice (some ⟨gs, 0, none⟩) pn pn) (rowB pn f0)) := by show OG _ _ _ _ _ _; rw [hf0]; exact hset
      have HB3 : Hid (Below z.heap.size z W3) := by show Below _ _ _; rw [hW3]; exact HBS.out.setCell (p := ⟨gs, r, none⟩) HZG.out _
      have HT0 : Hid (TeI (elB Q inn G) pn r 0 f0) := TeI.start hr (by rw [hf0]; simp) (fun v hv => by rw [hf0] at hv; by_cases e : v = r <;> simp [e] at hv ⊢)
      have HW3 : Hid (W3 = WS.setCell ⟨gs, r, none⟩ (.bool true)) := hW3
      have hrz : (r : Int) < (pn : Int) := by omega
      clear hset hW3 hf0 HOS HBS
      go_upto_region 12 with fail
      rw [← HW3.out]
      clear HW3 hc1 hc2 hrz
      go_wp2
      go_loopg [15, 16, 17] pn (fun g1 v15 _v16 _v17 wr => ∃ (k : Nat) (f : Nat → Bool), v15 = .int .i64 k ∧ k ≤ pn ∧ pn - k ≤ g1 ∧ Hid (OG Value.bool z.heap.size 4 wr (.slice (some ⟨gs, 0, none⟩) pn pn) (rowB pn f)) ∧ Hid (Below z.heap.size z wr) ∧ Hid (TeI (elB Q inn G) pn r k f))
      case atStart => exact ⟨0, f0, rfl, Nat.zero_le _, by omega, HO3, HB3, HT0⟩
      case round =>
        clear HO3 HB3 HT0
        obtain ⟨k, f, rfl, hkn, hg1, HOF, HBF, HT⟩ := hrel
        by_cases hltk : k < pn
        · have hltkz : (k : Int) < (pn : Int) := by omega
          have HS0 : Hid (SwI (elB Q inn G) pn r f f 0 0) := HT.out.sweep
          go_wp2
          go_loopg [16, 17] pn (fun g2 v16 _v17 wr => ∃ (a : Nat) (f1 : Nat → Bool), v16 = .int .i64 a ∧ a ≤ pn ∧ pn - a ≤ g2 ∧ Hid (OG Value.bool z.heap.size 4 wr (.slice (some ⟨gs, 0, none⟩) pn pn) (rowB pn f1)) ∧ Hid (Below z.heap.size z wr) ∧ Hid (SwI (elB Q inn G) pn r f f1 a 0))
          case atStart => exact ⟨0, f, rfl, Nat.zero_le _, by omega, HOF, HBF, HS0⟩
          case round =>
            clear HOF HBF HS0
            obtain ⟨a, f1, rfl, han, hg2, HOF, HBF, HS⟩ := hrel
            by_cases hlta : a < pn
            · have hltaz : (a : Int) < (pn : Int) := by omega
              go_wp2
              go_loopg [17] pn (fun g3 v17 wr => ∃ (b : Nat) (f2 : Nat → Bool), v17 = .int .i64 b ∧ b ≤ pn ∧ pn - b ≤ g3 ∧ Hid (OG Value.bool z.heap.size 4 wr (.slice (some ⟨gs, 0, none⟩) pn pn) (rowB pn f2)) ∧ Hid (Below z.heap.size z wr) ∧ Hid (SwI (elB Q inn G) pn r f f2 a b))
              case atStart => exact ⟨0, f1, rfl, Nat.zero_le _, by omega, HOF, HBF, HS⟩
              case round =>
                clear HOF HBF HS
                obtain ⟨b, f2, rfl, hbn, hg3, HOF, HBF, HS⟩ := hrel
                by_cases hltb : b < pn
                · have hltbz : (b : Int) < (pn : Int) := by omega
                  have csa := HOF.out.rg.bit hlta
                  rw [Nat.zero_add] at csa
                  obtain ⟨ta, hta⟩ : ∃ t, t = f2 a := ⟨_, rfl⟩
                  rw [← hta] at csa
                  have HTA : Hid (ta = f2 a) := hta
                  clear hta
                  cases ta with
                  | false =>
                    have HS2 : Hid (SwI (elB Q inn G) pn r f f2 (a + 1) 0) := HS.out.skipRow HTA.out.symm
                    clear HS HTA
                    go_wp2
                    clear csa
                    go_roundg (pn - (a + 1))
                    case measure => omega
                    case rel => exact ⟨a + 1, f2, by first | rfl | go_num, by omega, Nat.le_refl _, HOF, HBF, HS2⟩
                  | true =>
                    have csb := HOF.out.rg.bit hltb
                    rw [Nat.zero_add] at csb
                    obtain ⟨tb, htb⟩ : ∃ t, t = f2 b := ⟨_, rfl⟩
                    rw [← htb] at csb
                    have HTB : Hid (tb = f2 b) := htb
                    have cib := (HII.out wr HBF.out).bit hltb
                    rw [Nat.zero_add] at cib
                    obtain ⟨ti, hti⟩ : ∃ t, t = inn b := ⟨_, rfl⟩
                    rw [← hti] at cib
                    have HTI : Hid (ti = inn b) := hti
                    have CH : Hid _ := hasD (.slice qo qn qc) G (b : Int) wr (HQZ.out wr HBF.out)
                    obtain ⟨th, hth⟩ : ∃ t, t = decide ((b : Int) ∈ G) := ⟨_, rfl⟩
                    rw [← hth] at CH
                    have HTH : Hid (th = decide ((b : Int) ∈ G)) := hth
                    have CJ : Hid _ := joined17 gp op pc gi pn pn pvs Q inn a b wr (HRZ.out wr HBF.out) HN.out (by omega) (HII.out wr HBF.out) hlta hltb
                    obtain ⟨tj, htj⟩ : ∃ t, t = jnB Q inn a b := ⟨_, rfl⟩
                    rw [← htj] at CJ
                    have HTJ : Hid (tj = jnB Q inn a b) := htj
                    have HSK : Hid ((ti = false ∨ tb = true ∨ th = true ∨ tj = false) → SwI (elB Q inn G) pn r f f2 a (b + 1)) := fun hd => HS.out.skip fun hE => by
                      obtain ⟨e1, e2, e3⟩ := el_in hE
                      rcases hd with hd | hd | hd | hd
                      · rw [HTI.out, e1] at hd; simp at hd
                      · rw [← HTB.out]; exact hd
                      · rw [HTH.out, decide_eq_true_iff] at hd; exact absurd hd e2
                      · rw [HTJ.out, e3] at hd; simp at hd
                    clear htb hti hth htj
                    cases ti with
                    | false =>
                      have HS2 : Hid (SwI (elB Q inn G) pn r f f2 a (b + 1)) := HSK.out (Or.inl rfl)
                      clear HSK HS HTA HTB HTI HTH HTJ CH CJ
                      go_wp2
                      clear csa csb cib
                      go_roundg (pn - (b + 1))
                      case measure => omega
                      case rel => exact ⟨b + 1, f2, by first | rfl | go_num, by omega, Nat.le_refl _, HOF, HBF, HS2⟩
                    | true =>
                      cases tb with
                      | true =>
                        have HS2 : Hid (SwI (elB Q inn G) pn r f f2 a (b + 1)) := HSK.out (Or.inr (Or.inl rfl))
                        clear HSK HS HTA HTB HTI HTH HTJ CH CJ
                        go_wp2
                        clear csa csb cib
                        go_roundg (pn - (b + 1))
                        case measure => omega
                        case rel => exact ⟨b + 1, f2, by first | rfl | go_num, by omega, Nat.le_refl _, HOF, HBF, HS2⟩
                      | false =>
                        go_wp2_with fail
                        refine Calls.mono CH.out ?_
                        rintro e yy ⟨rfl, hyy⟩
                        rw [hyy]
                        clear CH hyy yy
                        cases th with
                        | true =>
                          have HS2 : Hid (SwI (elB Q inn G) pn r f f2 a (b + 1)) := HSK.out (Or.inr (Or.inr (Or.inl rfl)))
                          clear HSK HS HTA HTB HTI HTH HTJ CJ
                          go_wp2
                          clear csa csb cib
                          go_roundg (pn - (b + 1))
                          case measure => omega
                          case rel => exact ⟨b + 1, f2, by first | rfl | go_num, by omega, Nat.le_refl _, HOF, HBF, HS2⟩
                        | false =>
                          go_wp2_with fail
                          refine Calls.mono CJ.out ?_
                          rintro e yy ⟨rfl, hyy⟩
                          rw [hyy]
                          clear CJ hyy yy
                          cases tj with
                          | false =>
                            have HS2 : Hid (SwI (elB Q inn G) pn r f f2 a (b + 1)) := HSK.out (Or.inr (Or.inr (Or.inr rfl)))
                            clear HSK HS HTA HTB HTI HTH HTJ
                            go_wp2
                            clear csa csb cib
                            go_roundg (pn - (b + 1))
                            case measure => omega
                            case rel => exact ⟨b + 1, f2, by first | rfl | go_num, by omega, Nat.le_refl _, HOF, HBF, HS2⟩
                          | true =>
                            have HS2 : Hid (SwI (elB Q inn G) pn r f (fuS f2 b) a (b + 1)) := HS.out.put hlta hltb HTA.out.symm (el_yes HTI.out.symm (of_decide_eq_false HTH.out.symm) HTJ.out.symm) HTB.out.symm
                            have hset := (HOF.out.set (rowB_len _ _) b true).1
                            rw [rowB_set] at hset
                            obtain ⟨W4, hW4⟩ : ∃ W, W = wr.setCell ⟨gs, b, none⟩ (.bool true) := ⟨_, rfl⟩
                            change OG Value.bool z.heap.size 4 (wr.setCell ⟨gs, b, none⟩ (.bool true)) _ _ at hset
                            rw [← hW4] at hset
                            have HO4 : Hid (OG Value.bool z.heap.size 4 W4 (.slice (some ⟨gs, 0, none⟩) pn pn) (rowB pn (fuS f2 b))) := hset
                            have HB4 : Hid (Below z.heap.size z W4) := by show Below _ _ _; rw [hW4]; exact HBF.out.setCell (p := ⟨gs, b, none⟩) HZG.out _
                            have HW4 : Hid (W4 = wr.setCell ⟨gs, b, none⟩ (.bool true)) := hW4
                            obtain ⟨hc1, hc2⟩ := HOF.out.cell (rowB_get (f := f2) hltb)
                            clear hset hW4 HSK HS HTA HTB HTI HTH HTJ HOF HBF
                            go_wp2
                            rw [← HW4.out]
                            clear csa csb cib hc1 hc2 HW4
                            go_roundg (pn - (b + 1))
                            case measure => omega
                            case rel => exact ⟨b + 1, fuS f2 b, by first | rfl | go_num, by omega, Nat.le_refl _, HO4, HB4, HS2⟩
                · have hltbz : ¬ (b : Int) < (pn : Int) := by omega
                  have hbe : b = pn := by omega
                  have HS2 : Hid (SwI (elB Q inn G) pn r f f2 (a + 1) 0) := by show SwI _ _ _ _ _ _ _; rw [hbe] at HS; exact HS.out.rowEnd
                  clear HS hbe
                  go_wp2
                  go_roundg (pn - (a + 1))
                  case measure => omega
                  case rel => exact ⟨a + 1, f2, by first | rfl | go_num, by omega, Nat.le_refl _, HOF, HBF, HS2⟩
            · have hltaz : ¬ (a : Int) < (pn : Int) := by omega
              have hae : a = pn := by omega
              have HT2 : Hid (TeI (elB Q inn G) pn r (k + 1) f1) := by show TeI _ _ _ _ _; rw [hae] at HS; exact HT.out.next HS.out
              clear HS HT hae
              go_wp2
              go_roundg (pn - (k + 1))
              case measure => omega
              case rel => exact ⟨k + 1, f1, by first | rfl | go_num, by omega, Nat.le_refl _, HOF, HBF, HT2⟩
        · have hltkz : ¬ (k : Int) < (pn : Int) := by omega
          have hke : k = pn := by omega
          have HTD : Hid ((∃ y ∈ o, f y.toNat = true) ↔ ∃ y ∈ o, TelM Q G (r : Int) y) := tells_iff HCK.out (by rw [HN.out]; exact hr) (by rw [HN.out]; exact HPA.out) (by rw [HN.out]; exact HPG.out) HRG.out HIN.out (fun v hv => by
            have h1 := HT.out
            rw [hke] at h1
            rw [HN.out] at hv ⊢
            exact h1.done v hv)
          have HPP : Hid (∀ x ∈ o, ∃ p : Nat, x = (p : Int) ∧ p < pn) := noPts_pt HPA.out
          obtain ⟨wf, rfl⟩ : ∃ W, W = wr := ⟨_, rfl⟩
          have HBE : Hid (Below w.heap.size w wf) := bstepB HBZ.out HBF.out
          have HAE : Hid (RG (Value.int .i64) wf (.slice ao an ac) o) := HAZ.out wf HBF.out
          have HN0 : Hid (∀ y ∈ o.take 0, f y.toNat = false) := fun y hy => by simp at hy
          clear HT hke HRZ HAZ HQZ HII HIN HBZ HBF hltkz hkn hg1
          go_wp2
          go_loopg [18] an (fun g1 v18 wr => ∃ i : Nat, v18 = .int .i64 i ∧ i ≤ an ∧ an - i ≤ g1 ∧ Hid (∀ y ∈ o.take i, f y.toNat = false) ∧ wr = wf)
          case atStart => exact ⟨0, rfl, Nat.zero_le _, by omega, HN0, rfl⟩
          case round =>
            clear HN0
            obtain ⟨i, rfl, hin, hg4, HNO, rfl⟩ := hrel
            by_cases hlti : i < an
            · have hltiz : (i : Int) < (an : Int) := by omega
              obtain ⟨x, gx, ox, hx1, rfl, hx2⟩ := HAE.out.at hlti
              obtain ⟨p, rfl, hp⟩ := HPP.out x (List.mem_of_getElem? hx1)
              have hpz : (p : Int) < (pn : Int) := by omega
              have csp := HOF.out.rg.bit hp
              rw [Nat.zero_add] at csp
              obtain ⟨t, ht⟩ : ∃ t, t = f p := ⟨_, rfl⟩
              rw [← ht] at csp
              cases t with
              | true =>
                have HE : Hid (TlV (∃ y ∈ o, TelM Q G (r : Int) y) (.bool true)) := ⟨true, rfl, ⟨fun _ => HTD.out.1 ⟨_, List.mem_of_getElem? hx1, by rw [Int.toNat_natCast]; exact ht.symm⟩, fun _ => rfl⟩⟩
                clear hx1 ht HNO
                go_wp2
                go_ret
                exact ⟨_, rfl, HE.out, HBE.out⟩
              | false =>
                have HN2 : Hid (∀ y ∈ o.take (i + 1), f y.toNat = false) := fun y hy => by
                  rw [List.take_add_one, hx1, List.mem_append] at hy
                  rcases hy with h1 | h1
                  · exact HNO.out y h1
                  · have e : y = (p : Int) := by simpa using h1
                    rw [e, Int.toNat_natCast]; exact ht.symm
                clear hx1 ht HNO
                go_wp2
                clear hx2 csp
                go_roundg (an - (i + 1))
                case measure => omega
                case rel => exact ⟨i + 1, by first | rfl | go_num, by omega, Nat.le_refl _, HN2, rfl⟩
            · have hltiz : ¬ (i : Int) < (an : Int) := by omega
              have HE : Hid (TlV (∃ y ∈ o, TelM Q G (r : Int) y) (.bool false)) := ⟨false, rfl, ⟨fun h => by simp at h, fun h => by
                obtain ⟨y, hy, h1⟩ := HTD.out.2 h
                have h2 := HNO.out y (by rw [List.take_of_length_le (by rw [HAN.out]; omega)]; exact hy)
                rw [h1] at h2; simp at h2⟩⟩
              clear HNO
              go_wp2
              go_ret
              exact ⟨_, rfl, HE.out, HBE.out⟩
end Go.Proofs.YthdpomgpcblpeaaGreat

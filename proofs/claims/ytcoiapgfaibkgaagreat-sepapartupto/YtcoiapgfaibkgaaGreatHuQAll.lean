/-
  Proved here: the hunt of layer 16: start; what a hunt tells of trails.
  Proved here: layer 16's document: what is wrong with a question; Trail.
  Proved here: layer 16's document: Reach.
-/
import Derived.Test.YtcoiapgfaibkgaaGreatHuV
import Derived.Test.YtcoiapgfaibkgaaGreatSpLAll
import Derived.Test.YtcoiapgfaibkgaaGreatDagN
import Derived.Test.YtcoiapgfaibkgaaGreatPrWAll
import Derived.Test.YtcoiapgfaibkgaaGreatDagCl2
namespace Go.Proofs.YtcoiapgfaibkgaaGreat
set_option linter.unusedVariables false
open Go.RowKit Go.Shelf Go.Sort Go.Lib
/-- What a hunt from a point tells. -/
structure HsP (P : List (List Int)) (G A : List Int) (a tz : Int) (s : HuS) : Prop where
  came : ∀ v : Nat, s.2 v = true ↔ a ∉ G ∧ ∃ l r, OTr P G A a (l :: r) ∧ l ∉ G ∧ v = l.toNat
  best : BsP none (fun x => a ∉ G ∧ OTr P G A a x ∧ EnP G tz x) s.1
theorem hs_no {P : List (List Int)} {G A : List Int} {a tz : Int} (h : a ∈ G) : HsP P G A a tz (none, fun _ => false) :=
  ⟨fun v => by constructor
               · intro h1; simp at h1
               · exact fun h1 => absurd h h1.1, (BsP.none none).congr fun x => ⟨fun h1 => h1.elim, fun h1 => absurd h h1.1⟩⟩
theorem hs_yes {P : List (List Int)} {G A : List Int} {a : Nat} {tz : Int} (h : (a : Int) ∉ G) (ha : a < P.length) : HsP P G A (a : Int) tz (huF P G A tz P.length [(a : Int)] (none, fun _ => false)) := by
  obtain ⟨h1, h2⟩ := huF_spec (P := P) (G := G) (A := A) (tz := tz) P.length [(a : Int)] (none, fun _ => false) ⟨by simp, fun x hx => ⟨a, List.mem_singleton.1 hx, ha⟩⟩ (by omega)
  refine ⟨fun v => ?_, h1.congr fun x => ?_⟩
  · rw [h2 v]
    constructor
    · rintro (h3 | ⟨l, r, h3, h4⟩)
      · simp at h3
      · exact ⟨h, l, r, (exh_iff_otr h).1 h3, h4⟩
    · rintro ⟨_, l, r, h3, h4⟩
      exact Or.inr ⟨l, r, (exh_iff_otr h).2 h3, h4⟩
  · rw [exh_iff_otr h]
    exact ⟨fun h3 => ⟨h, h3⟩, fun h3 => h3.2⟩
set_option maxRecDepth 1000000 in
set_option maxHeartbeats 6400000 in
theorem startH (pv qv : Value) (pvs : List Value) (P : List (List Int)) (a : Nat) (tz : Int) (G : List Int) (w : World) (h : RRD w pv pvs P) (n : Nat) (hn : P.length = n) (hn7 : n ≤ 100) (hbl : ∀ i, (P.getD i []).length ≤ 100000) (hq : RG (Value.int .i64) w qv G) (hql : G.length ≤ 1048576) (hck : ckE P = 0) (hG : noPts (n : Int) G = false) (ha : a < n) :
    Calls Tryz.prog 31 #[pv, .int .i64 (a : Int), .int .i64 tz, qv] w fun e w' => ∃ hb, e = .returned (.pointer (some ⟨hb, 0, none⟩)) ∧ (∃ gc av bv A s w1, AbvP P G A ∧ HuC w1 w' hb gc n pv qv av bv tz s ∧ HsP P G A (a : Int) tz s ∧ w.heap.size ≤ w1.heap.size) ∧ Below w.heap.size w w' := by
  obtain ⟨ib, hib, hs0, hs1, hs2⟩ := info_parts Tryz.infoBD
  obtain ⟨po, pn, pc, rfl⟩ : ∃ o n c, pv = .slice o n c := by obtain ⟨ao, cap, e⟩ := h.out.sl; exact ⟨_, _, _, e⟩
  obtain rfl : pn = n := by rw [← hn, ← h.len, h.out.len]
  obtain ⟨qo, qn, qc, rfl⟩ : ∃ o n c, qv = .slice o n c := by obtain ⟨ao, cap, e⟩ := hq.sl; exact ⟨_, _, _, e⟩
  have CA : Hid _ := refAboveD (.slice po pn pc) (.slice qo qn qc) pvs P G w h pn hn (by omega) hbl hq (by omega)
  have HR : Hid (RRD w (.slice po pn pc) pvs P) := h
  have HQ : Hid (RG (Value.int .i64) w (.slice qo qn qc) G) := hq
  have HN : Hid (P.length = pn) := hn
  have HCK : Hid (ckE P = 0) := hck
  have HG : Hid (noPts (pn : Int) G = false) := hG
  clear h hn hbl hq hck hG
  go_enter Tryz.func31, Tryz.ntmps31
  go_wp2_with fail
  refine Calls.mono CA.out ?_
  rintro e y1 ⟨hab, by1⟩
  obtain ⟨av, A, rfl, hR1, hR2, hR3⟩ : ∃ tv R, e = .returned (.tuple #[tv, .int .i64 0]) ∧ OG (Value.int .i64) w.heap.size 3 y1 tv R ∧ R.Pairwise (· < ·) ∧ ∀ x, x ∈ R ↔ RchP P G x := by
    rcases hab with ⟨h1, _⟩ | ⟨_, ⟨h1, _⟩ | ⟨_, tv, R, h2, h3, h4, h5⟩⟩
    · exact absurd HCK.out h1
    · rw [HG.out] at h1; simp at h1
    · exact ⟨tv, R, h2, h3, h4, h5⟩
  obtain ⟨ao, an, ac, rfl⟩ : ∃ o n c, av = .slice o n c := by obtain ⟨ao, cap, e, -⟩ := hR1.sl; exact ⟨_, _, _, e⟩
  have HAB : Hid (AbvP P G A) := ⟨hR2, hR3⟩
  have HY1 : Hid (Below w.heap.size w y1) := by1
  have HR1 : Hid (RRD y1 (.slice po pn pc) pvs P) := HR.out.below (Nat.le_refl _) by1
  have HQ1 : Hid (RG (Value.int .i64) y1 (.slice qo qn qc) G) := HQ.out.below (Nat.le_refl _) by1
  have HA1 : Hid (RG (Value.int .i64) y1 (.slice ao an ac) A) := hR1.rg
  clear CA hab hR1 hR2 hR3 by1 HR HQ
  obtain ⟨W1, hW1⟩ : ∃ W, W = y1.alloc (.cells (Array.replicate pn (.bool false)) 4) := ⟨_, rfl⟩
  obtain ⟨gc, hgc⟩ : ∃ g, g = y1.heap.size := ⟨_, rfl⟩
  have hb1 : Below y1.heap.size y1 W1 := by rw [hW1]; exact belowB _ _
  have ho1 : OG Value.bool y1.heap.size 4 W1 (.slice (some ⟨gc, 0, none⟩) pn pn) (rowB pn (fun _ => false)) := by
    rw [← rowB_no, hW1, hgc]
    exact OG.made (enc := Value.bool) y1 _ pn false (by unfold maxLen; omega)
  obtain ⟨W2, hW2⟩ : ∃ W, W = W1.alloc (.cells #[.slice po pn pc, .slice qo qn qc, .slice ao an ac, .int .i64 tz, .slice none 0 0, .slice (some ⟨gc, 0, none⟩) pn pn] 50) := ⟨_, rfl⟩
  obtain ⟨hb, hhb⟩ : ∃ g, g = W1.heap.size := ⟨_, rfl⟩
  have hb2 : Below W1.heap.size W1 W2 := by rw [hW2]; exact belowB _ _
  have HC0 : Hid (HuC y1 W2 hb gc pn (.slice po pn pc) (.slice qo qn qc) (.slice ao an ac) (.slice none 0 0) tz (none, fun _ => false)) := ⟨by unfold HuB; rw [hW2, hhb]; exact heap_alloc_new W1 _, ho1.below hb2, Or.inl ⟨rfl, rfl⟩, bstepB hb1 hb2, by rw [hhb]; exact hb1.size⟩
  have HW1 : Hid (W1 = y1.alloc (.cells (Array.replicate pn (.bool false)) 4)) := hW1
  have HGC : Hid (gc = y1.heap.size) := hgc
  have HW2 : Hid (W2 = W1.alloc (.cells #[.slice po pn pc, .slice qo qn qc, .slice ao an ac, .int .i64 tz, .slice none 0 0, .slice (some ⟨gc, 0, none⟩) pn pn] 50)) := hW2
  have HHB : Hid (hb = gc + 1) := by show _ = _; rw [hhb, hW1, hgc]; simp
  clear hW1 hgc hb1 ho1 hW2 hhb hb2
  go_upto_region 3 with (at_make; refine wpList_madeD _ rfl _ _ 41 rfl 4 ib (.bool false) rfl Tryz.underlying41 hib hs0 hs1 _ _ pn rfl rfl (by rw [hs2]; omega) (by omega) ?_)
  rw [← HW1.out, ← HGC.out]
  clear HW1 HGC
  go_upto_region 3 with fail
  rw [← HW2.out, ← HHB.out]
  clear HW2 HHB
  have CH : Hid _ := hasD (.slice qo qn qc) G (a : Int) W2 (HQ1.out.below (Nat.le_refl _) HC0.out.frm)
  obtain ⟨b, hbb⟩ : ∃ b, b = decide ((a : Int) ∈ G) := ⟨_, rfl⟩
  rw [← hbb] at CH
  have HBB : Hid (b = decide ((a : Int) ∈ G)) := hbb
  clear hbb
  go_wp2_with fail
  refine Calls.mono CH.out ?_
  rintro e y ⟨rfl, hy⟩
  rw [hy]
  clear CH hy y
  cases b with
  | true =>
    have hin : (a : Int) ∈ G := of_decide_eq_true HBB.out.symm
    have HS : Hid (HsP P G A (a : Int) tz (none, fun _ => false)) := hs_no hin
    have HF : Hid (Below w.heap.size w W2) := bstepB HY1.out HC0.out.frm
    clear hin
    go_wp2
    go_ret
    exact ⟨hb, rfl, ⟨gc, _, _, A, _, y1, HAB.out, HC0.out, HS.out, HY1.out.size⟩, HF.out⟩
  | false =>
    have hin : (a : Int) ∉ G := of_decide_eq_false HBB.out.symm
    have HS : Hid (HsP P G A (a : Int) tz (huF P G A tz P.length [(a : Int)] (none, fun _ => false))) := hs_yes hin (by rw [HN.out]; exact ha)
    obtain ⟨W3, hW3⟩ : ∃ W, W = W2.alloc (.cells #[.int .i64 (a : Int)] 3) := ⟨_, rfl⟩
    obtain ⟨g3, hg3⟩ : ∃ g, g = W2.heap.size := ⟨_, rfl⟩
    have hb3 : Below W2.heap.size W2 W3 := by rw [hW3]; exact belowB _ _
    have ho3 : OG (Value.int .i64) W2.heap.size 3 W3 (.slice (some ⟨g3, 0, none⟩) 1 1) [(a : Int)].reverse := by rw [hW3, hg3]; exact OG.lit (enc := Value.int .i64) 3 W2 [(a : Int)] (by unfold maxLen; simp)
    have hc3 := HC0.out.below hb3
    have CW : Hid _ := walkH hb gc pn (.slice po pn pc) (.slice qo qn qc) (.slice ao an ac) tz pvs P G A y1 HR1.out HQ1.out HA1.out HN.out hn7 P.length [(a : Int)] (none, fun _ => false) (.slice (some ⟨g3, 0, none⟩) 1 1) (.slice none 0 0) W2.heap.size W3 ⟨by simp, fun x hx => ⟨a, List.mem_singleton.1 hx, by rw [HN.out]; exact ha⟩⟩ (by simp) (by omega) hc3 ho3
    have HW3 : Hid (W3 = W2.alloc (.cells #[.int .i64 (a : Int)] 3)) := hW3
    have HG3 : Hid (g3 = W2.heap.size) := hg3
    clear hin hW3 hg3 hb3 ho3 hc3
    go_wp2_with fail
    rw [← HW3.out, ← HG3.out]
    refine Calls.mono CW.out ?_
    rintro e y6 ⟨rfl, bv6, hc6, hf6⟩
    have HC6 : Hid (HuC y1 y6 hb gc pn (.slice po pn pc) (.slice qo qn qc) (.slice ao an ac) bv6 tz (huF P G A tz P.length [(a : Int)] (none, fun _ => false))) := hc6
    have HF : Hid (Below w.heap.size w y6) := bstepB HY1.out hc6.frm
    clear CW hc6 hf6 HW3 HG3
    go_wp2
    go_ret
    exact ⟨hb, rfl, ⟨gc, _, _, A, _, y1, HAB.out, HC6.out, HS.out, HY1.out.size⟩, HF.out⟩
end Go.Proofs.YtcoiapgfaibkgaaGreat

namespace Go.Proofs.YtcoiapgfaibkgaaGreat
set_option linter.unusedVariables false
open Go.RowKit Go.Shelf Go.Sort Go.Lib
theorem no_app {n : Int} {a b : List Int} : noPts n (a ++ b) = (noPts n a || noPts n b) := by unfold noPts; rw [List.any_append]
theorem bd_wk (P : List (List Int)) (n : Nat) (a G : List Int) : bdE P n (a ++ G) = wkE P n a G := by
  unfold bdE wkE nsE
  rw [no_app]
  by_cases h : ckE P = 0
  · simp only [h, ne_eq, not_true_eq_false, if_false]
    cases noPts (n : Int) a <;> cases noPts (n : Int) G <;> simp
  · simp only [ne_eq, h, not_false_eq_true, if_true]
theorem bd_ap (P : List (List Int)) (n : Nat) (a b G : List Int) : bdE P n (a ++ b ++ G) = apE P n a b G := by
  unfold bdE apE wkE nsE
  rw [no_app, no_app]
  by_cases h : ckE P = 0
  · simp only [h, ne_eq, not_true_eq_false, if_false]
    cases noPts (n : Int) a <;> cases noPts (n : Int) G <;> cases noPts (n : Int) b <;> simp
  · simp only [ne_eq, h, not_false_eq_true, if_true]
theorem otr_ag {P : List (List Int)} {G A : List Int} {a : Int} {l : List Int} (h : OTr P G A a l) : a ∉ G := by
  induction h with
  | one h => exact h
  | two _ _ _ _ ih => exact ih
  | more _ _ _ _ _ ih => exact ih
/-- What was come to is what is told. -/
theorem HsP.told {P : List (List Int)} {G A : List Int} {a tz : Int} {s : HuS} (h : HsP P G A a tz s) (h0 : wkE P P.length [a] G = 0) (hA : AbvP P G A) (v : Nat) : s.2 v = true ↔ TelM P G a (v : Int) := by
  obtain ⟨hck, hG, hna⟩ := wk_parts h0
  have ha := noPts_pt hna a (by simp)
  rw [h.came v, tel_m hA, tel_otr h0 hA]
  constructor
  · rintro ⟨_, l, r, h1, h2, h3⟩
    obtain ⟨p, hp, -⟩ := h1.pts ha l (by simp)
    subst hp
    rw [Int.toNat_natCast] at h3
    subst h3
    exact ⟨h2, r, h1⟩
  · rintro ⟨h1, r, h2⟩
    exact ⟨otr_ag h2, (v : Int), r, h2, h1, by rw [Int.toNat_natCast]⟩
end Go.Proofs.YtcoiapgfaibkgaaGreat

namespace Go.Proofs.YtcoiapgfaibkgaaGreat
set_option linter.unusedVariables false
open Go.RowKit Go.Shelf Go.Sort Go.Lib
/-- What is told lies among the points. -/
theorem tel_pt {P : List (List Int)} {G : List Int} (hck : ckE P = 0) (hG : noPts (P.length : Int) G = false) {x y : Int} (hx : noPts (P.length : Int) [x] = false) (h : TelM P G x y) : ∃ v : Nat, y = (v : Int) ∧ v < P.length := by
  obtain ⟨A, hA, h2⟩ := h
  obtain ⟨h3, l, h4⟩ := (tel_otr (wk_g hck hx hG) hA).1 h2
  exact h4.pts (noPts_pt hx x (by simp)) y (by simp)
theorem no_in {n : Int} {a : List Int} (h : noPts n a = false) {x : Int} (hx : x ∈ a) : noPts n [x] = false := List.any_eq_false.2 fun y hy => by
  rw [List.mem_singleton.1 hy]
  exact List.any_eq_false.1 h x hx
/-- What was come to as yet. -/
def cmF (n : Nat) (P : List (List Int)) (G : List Int) (a : List Int) (f : Nat → Bool) : Prop := ∀ v, v < n → (f v = true ↔ ∃ x ∈ a, TelM P G x (v : Int))
def mixF (f s : Nat → Bool) (k : Nat) : Nat → Bool := fun v => if v < k then f v || s v else f v
theorem mixF_zero (f s : Nat → Bool) : mixF f s 0 = f := by funext v; simp [mixF]
theorem mixF_step (n : Nat) (f s : Nat → Bool) (k : Nat) (b : Bool) (hb : b = (f k || s k)) : rowB n (fun u => if u = k then b else mixF f s k u) = rowB n (mixF f s (k + 1)) := rowB_congr fun v _ => by
  unfold mixF
  by_cases h : v = k
  · subst h; simp [hb]
  · by_cases h1 : v < k
    · simp [h, h1, show v < k + 1 by omega]
    · simp [h, h1, show ¬ v < k + 1 by omega]
theorem mixF_at (f s : Nat → Bool) (k : Nat) : mixF f s k k = f k := by simp [mixF]
theorem cmF.next {n : Nat} {P : List (List Int)} {G a : List Int} {f s : Nat → Bool} {i : Nat} {x : Int} (h : cmF n P G (a.take i) f) (hx : a[i]? = some x) (hs : ∀ v : Nat, s v = true ↔ TelM P G x (v : Int)) : cmF n P G (a.take (i + 1)) (mixF f s n) := fun v hv => by
  rw [List.take_add_one, hx]
  unfold mixF
  rw [if_pos hv, Bool.or_eq_true, h v hv, hs v]
  simp only [Option.toList, List.mem_append, List.mem_singleton]
  constructor
  · rintro (⟨y, h1, h2⟩ | h1)
    · exact ⟨y, Or.inl h1, h2⟩
    · exact ⟨x, Or.inr rfl, h1⟩
  · rintro ⟨y, h1 | rfl, h2⟩
    · exact Or.inl ⟨y, h1, h2⟩
    · exact Or.inr h2
set_option maxRecDepth 1000000 in
set_option maxHeartbeats 12800000 in
theorem refReach (pv av qv : Value) (pvs : List Value) (P : List (List Int)) (a G : List Int) (w : World) (h : RRD w pv pvs P) (n : Nat) (hn : P.length = n) (hn7 : n ≤ 100) (ha : RG (Value.int .i64) w av a) (hal : a.length ≤ 1048576) (hq : RG (Value.int .i64) w qv G) (hql : G.length ≤ 1048576) :
    Calls Tryz.prog 11 #[pv, av, qv] w fun e w' => ∃ v, e = .returned (.tuple #[v, .int .i64 (wkE P n a G)]) ∧ (wkE P n a G ≠ 0 → v = .slice none 0 0) ∧ (wkE P n a G = 0 → ∃ L, OG (Value.int .i64) w.heap.size 3 w' v L ∧ Rise L ∧ ∀ y, y ∈ L ↔ ∃ x ∈ a, TelM P G x y) ∧ Below w.heap.size w w' := by
  obtain ⟨i0, hi, hz0, hz1, hz2⟩ := info_parts Tryz.infoI
  obtain ⟨ib, hib, hs0, hs1, hs2⟩ := info_parts Tryz.infoBD
  obtain ⟨po, pn, pc, rfl⟩ : ∃ o n c, pv = .slice o n c := by obtain ⟨ao, cap, e⟩ := h.out.sl; exact ⟨_, _, _, e⟩
  obtain rfl : pn = n := by rw [← hn, ← h.len, h.out.len]
  obtain ⟨qo, qn, qc, rfl⟩ : ∃ o n c, qv = .slice o n c := by obtain ⟨ao, cap, e⟩ := hq.sl; exact ⟨_, _, _, e⟩
  obtain ⟨ao, an, ac, rfl⟩ : ∃ o n c, av = .slice o n c := by obtain ⟨ao, cap, e⟩ := ha.sl; exact ⟨_, _, _, e⟩
  have HR : Hid (∀ W, Below w.heap.size w W → RRD W (.slice po pn pc) pvs P) := fun W hW => h.below (Nat.le_refl _) hW
  have HQ : Hid (∀ W, Below w.heap.size w W → RG (Value.int .i64) W (.slice qo qn qc) G) := fun W hW => hq.below (Nat.le_refl _) hW
  have HA : Hid (∀ W, Below w.heap.size w W → RG (Value.int .i64) W (.slice ao an ac) a) := fun W hW => ha.below (Nat.le_refl _) hW
  have HAN : Hid (a.length = an) := ha.len
  have hanm : an ≤ 1048576 := by rw [← ha.len]; exact hal
  have HN : Hid (P.length = pn) := hn
  have HQL : Hid (G.length ≤ 1048576) := hql
  have HAL : Hid (a.length ≤ 1048576) := hal
  obtain ⟨W1, hW1⟩ : ∃ W, W = w.alloc (.cells #[] 3) := ⟨_, rfl⟩
  obtain ⟨g1, hg1⟩ : ∃ g, g = w.heap.size := ⟨_, rfl⟩
  have hb1 : Below w.heap.size w W1 := by rw [hW1]; exact belowB _ _
  have HO1 : Hid (OG (Value.int .i64) w.heap.size 3 W1 (.slice (some ⟨g1, 0, none⟩) 0 0) []) := by
    show OG _ _ _ _ _ _
    rw [hW1, hg1]; exact OG.lit0 (enc := Value.int .i64) 3 w
  have HB1 : Hid (Below w.heap.size w W1) := hb1
  have HW1 : Hid (W1 = w.alloc (.cells #[] 3)) := hW1
  have HG1 : Hid (g1 = w.heap.size) := hg1
  clear h hq ha hn hql hal hW1 hg1 hb1
  go_enter Tryz.func11, Tryz.ntmps11
  go_wp2_with (at_builtin; rw [← HW1.out, ← HG1.out]; refine wpList_appG _ (fun _ => rfl) rfl _ _ 23 rfl w.heap.size 3 i0 (.int .i64 0) 8 Tryz.underlying23 hi hz0 hz1 hz2 rfl _ _ [] a rfl HO1.out rfl (HA.out W1 HB1.out) (by have := HAL.out; unfold maxLen; simp only [List.length_nil]; omega) (by have := HAL.out; simp only [List.length_nil]; omega) HB1.out.size ?_)
  intro v0 y0 ho0 hgr0
  obtain ⟨o0, n0, c0, rfl⟩ : ∃ o n c, v0 = .slice o n c := by obtain ⟨ao, cap, e, -⟩ := ho0.sl; exact ⟨_, _, _, e⟩
  have HO0 : Hid (OG (Value.int .i64) w.heap.size 3 y0 (.slice o0 n0 c0) a) := ho0
  have HB0 : Hid (Below w.heap.size w y0) := HO1.out.grown HB1.out HB1.out.size hgr0
  clear ho0 hgr0 HW1 HG1 HO1 HB1
  go_wp2_with (at_builtin; refine wpList_appG _ (fun _ => rfl) rfl _ _ 23 rfl w.heap.size 3 i0 (.int .i64 0) 8 Tryz.underlying23 hi hz0 hz1 hz2 rfl _ _ a G rfl HO0.out rfl (HQ.out y0 HB0.out) (by have := HQL.out; have := HAL.out; unfold maxLen; omega) (by have := HQL.out; have := HAL.out; omega) HB0.out.size ?_)
  intro v1 y1 ho1 hgr1
  obtain ⟨o1, n1, c1, rfl⟩ : ∃ o n c, v1 = .slice o n c := by obtain ⟨ao, cap, e, -⟩ := ho1.sl; exact ⟨_, _, _, e⟩
  have HB2 : Hid (Below w.heap.size w y1) := HO0.out.grown HB0.out HB0.out.size hgr1
  have CB : Hid _ := refBad (.slice po pn pc) pvs P y1 (HR.out y1 HB2.out) pn HN.out (by omega) (.slice o1 n1 c1) (a ++ G) ho1.rg
  rw [bd_wk] at CB
  clear ho1 hgr1 HO0 HB0
  go_wp2_with fail
  refine Calls.mono CB.out ?_
  rintro e y2 ⟨rfl, by2⟩
  have HB3 : Hid (Below w.heap.size w y2) := bstepB HB2.out by2
  clear CB by2 HB2
  by_cases h0 : wkE P pn a G = 0
  · have HE : Hid (wkE P pn a G = 0) := h0
    obtain ⟨hck, hG, hna⟩ := wk_parts h0
    have HBL : Hid (∀ i, (P.getD i []).length ≤ 100000) := fun i => by have h1 := len_cl (ck_zero hck) i; have h2 := HN.out; omega
    have HCK : Hid (ckE P = 0) := hck
    have HPG : Hid (noPts (pn : Int) G = false) := hG
    have HPA : Hid (noPts (pn : Int) a = false) := hna
    rw [h0]
    obtain ⟨W3, hW3⟩ : ∃ W, W = y2.alloc (.cells (Array.replicate pn (.bool false)) 4) := ⟨_, rfl⟩
    obtain ⟨gc, hgc⟩ : ∃ g, g = y2.heap.size := ⟨_, rfl⟩
    have hb3 : Below y2.heap.size y2 W3 := by rw [hW3]; exact belowB _ _
    have HO3 : Hid (OG Value.bool w.heap.size 4 W3 (.slice (some ⟨gc, 0, none⟩) pn pn) (rowB pn (fun _ => false))) := by
      show OG _ _ _ _ _ _
      rw [← rowB_no, hW3, hgc]
      exact (OG.made (enc := Value.bool) y2 _ pn false (by unfold maxLen; omega)).mono HB3.out.size
    have HGC : Hid (w.heap.size ≤ gc) := by show _ ≤ _; rw [hgc]; exact HB3.out.size
    have HB4 : Hid (Below w.heap.size w W3) := bstepB HB3.out hb3
    have HW3 : Hid (W3 = y2.alloc (.cells (Array.replicate pn (.bool false)) 4)) := hW3
    have HGC3 : Hid (gc = y2.heap.size) := hgc
    have HCM : Hid (cmF pn P G (a.take 0) (fun _ => false)) := fun v hv => by simp
    clear h0 hck hG hna hW3 hgc hb3 HB3
    go_upto_region 5 with (at_make; refine wpList_madeD _ rfl _ _ 41 rfl 4 ib (.bool false) rfl Tryz.underlying41 hib hs0 hs1 _ _ pn rfl rfl (by rw [hs2]; omega) (by omega) ?_)
    rw [← HW3.out, ← HGC3.out]
    clear HW3 HGC3
    go_wp2
    go_loopg [10, 11, 12] an (fun g1 v10 _v11 _v12 wr => ∃ (i : Nat) (f : Nat → Bool), v10 = .int .i64 i ∧ i ≤ an ∧ an - i ≤ g1 ∧ Hid (cmF pn P G (a.take i) f) ∧ Hid (OG Value.bool w.heap.size 4 wr (.slice (some ⟨gc, 0, none⟩) pn pn) (rowB pn f)) ∧ Hid (Below w.heap.size w wr))
    case atStart => exact ⟨0, _, rfl, by omega, by omega, HCM, HO3, HB4⟩
    case round =>
      clear HCM HO3 HB4
      obtain ⟨i, f, rfl, hin, hg1, HCM, HO, HB⟩ := hrel
      by_cases hlt : i < an
      · have hltz : (i : Int) < (an : Int) := by omega
        obtain ⟨x, gx, ox, hx1, rfl, hx2⟩ := (HA.out wr HB.out).at hlt
        have hnx := no_in HPA.out (List.mem_of_getElem? hx1)
        obtain ⟨p, rfl, hp⟩ := noPts_pt hnx x (by simp)
        have CS : Hid _ := startH (.slice po pn pc) (.slice qo qn qc) pvs P p (-1) G wr (HR.out wr HB.out) pn HN.out hn7 HBL.out (HQ.out wr HB.out) HQL.out HCK.out HPG.out hp
        have HX1 : Hid (a[i]? = some (p : Int)) := hx1
        have HWK : Hid (wkE P P.length [(p : Int)] G = 0) := by
          show _ = _
          exact wk_g HCK.out (by rw [HN.out]; exact hnx) (by rw [HN.out]; exact HPG.out)
        clear hx1 hnx
        go_wp2_with fail
        clear hx2
        refine Calls.mono CS.out ?_
        rintro e y3 ⟨hb, rfl, ⟨gh, bv, av2, A, s, w1, hA, hC, hS, hsz⟩, by3⟩
        have HTL : Hid (∀ v : Nat, s.2 v = true ↔ TelM P G (p : Int) (v : Int)) := fun v => hS.told HWK.out hA v
        obtain ⟨s2, hs2⟩ : ∃ f, f = s.2 := ⟨_, rfl⟩
        rw [← hs2] at HTL
        have HGL : Hid (gc < wr.heap.size) := (HO.out.lt gc rfl).2
        have HNB : Hid (gc ≠ hb) := by show _ ≠ _; have := HGL.out; have := hC.lo; omega
        have HNH : Hid (gc ≠ gh) := by show _ ≠ _; have := HGL.out; have := (hC.came.lt gh rfl).1; omega
        have HBX : Hid (∃ q1 q2 q3 q4, HuB y3 hb gh pn q1 q2 q3 q4 (-1)) := ⟨_, _, _, _, hC.box⟩
        have HCA : Hid (OG Value.bool 0 4 y3 (.slice (some ⟨gh, 0, none⟩) pn pn) (rowB pn s2)) := by show OG _ _ _ _ _ _; rw [hs2]; exact hC.came.mono (Nat.zero_le _)
        have HOR : Hid (OG Value.bool w.heap.size 4 y3 (.slice (some ⟨gc, 0, none⟩) pn pn) (rowB pn (mixF f s2 0))) := by show OG _ _ _ _ _ _; rw [mixF_zero]; exact HO.out.below by3
        have HB5 : Hid (Below w.heap.size w y3) := bstepB HB.out by3
        clear CS hA hC hS hsz hs2 by3 HO HB HWK HGL
        go_wp2
        go_loopg [12] pn (fun g2 v12 wq => ∃ k : Nat, v12 = .int .i64 k ∧ k ≤ pn ∧ pn - k ≤ g2 ∧ Hid (∃ q1 q2 q3 q4, HuB wq hb gh pn q1 q2 q3 q4 (-1)) ∧ Hid (OG Value.bool 0 4 wq (.slice (some ⟨gh, 0, none⟩) pn pn) (rowB pn s2)) ∧ Hid (OG Value.bool w.heap.size 4 wq (.slice (some ⟨gc, 0, none⟩) pn pn) (rowB pn (mixF f s2 k))) ∧ Hid (Below w.heap.size w wq))
        case atStart => exact ⟨0, rfl, by omega, by omega, HBX, HCA, HOR, HB5⟩
        case round =>
          clear HBX HCA HOR HB5
          obtain ⟨k, rfl, hkn, hg2, HBX, HCA, HO, HB⟩ := hrel
          by_cases hlk : k < pn
          · have hlkz : (k : Int) < (pn : Int) := by omega
            obtain ⟨b0, hb0⟩ : ∃ b, b = f k := ⟨_, rfl⟩
            obtain ⟨d0, hd0⟩ : ∃ d, d = s2 k := ⟨_, rfl⟩
            have hcc := HO.out.cell (rowB_get (f := mixF f s2 k) hlk)
            rw [mixF_at, ← hb0] at hcc
            obtain ⟨hc1, hc2⟩ := hcc
            have hh1 := (HCA.out.cell (rowB_get (f := s2) hlk)).1
            rw [← hd0] at hh1
            obtain ⟨q1, q2, q3, q4, hbox⟩ := HBX.out
            have hq5 : wr.cell? ⟨hb, 5, none⟩ = some (.slice (some ⟨gh, 0, none⟩) pn pn) := hbox.cell 5
            have HSET : Hid (∀ b : Bool, b = (b0 || d0) → OG Value.bool w.heap.size 4 (wr.setCell ⟨gc, k, none⟩ (.bool b)) (.slice (some ⟨gc, 0, none⟩) pn pn) (rowB pn (mixF f s2 (k + 1)))) := fun b hb => by
              have h1 := (HO.out.set (rowB_len _ _) k b).1
              rw [rowB_set, mixF_step pn f s2 k b (by rw [hb, hb0, hd0])] at h1
              exact h1
            have HBXS : Hid (∀ b : Bool, ∃ q1 q2 q3 q4, HuB (wr.setCell ⟨gc, k, none⟩ (.bool b)) hb gh pn q1 q2 q3 q4 (-1)) := fun b => ⟨q1, q2, q3, q4, (Below.heap_setCell _ _ _ _ (fun e => HNB.out (Eq.symm e))).trans hbox⟩
            have HCAS : Hid (∀ b : Bool, OG Value.bool 0 4 (wr.setCell ⟨gc, k, none⟩ (.bool b)) (.slice (some ⟨gh, 0, none⟩) pn pn) (rowB pn s2)) := fun b => HCA.out.of_blocks fun q hq => Below.heap_setCell _ _ _ _ (fun e => HNH.out (by
              have e1 : gh = q := by simpa [Value.ownBlock] using hq
              rw [e1]; exact Eq.symm e))
            have HBS : Hid (∀ b : Bool, Below w.heap.size w (wr.setCell ⟨gc, k, none⟩ (.bool b))) := fun b => HB.out.setCell (p := ⟨gc, k, none⟩) HGC.out _
            obtain ⟨b, hbb⟩ : ∃ b, b = (b0 || d0) := ⟨_, rfl⟩
            have HO6 := HSET.out b hbb
            have HBX6 := HBXS.out b
            have HCA6 := HCAS.out b
            have HB6 := HBS.out b
            obtain ⟨WN, hWN⟩ : ∃ W, W = wr.setCell ⟨gc, k, none⟩ (.bool b) := ⟨_, rfl⟩
            rw [← hWN] at HO6 HBX6 HCA6 HB6
            have HO7 : Hid (OG Value.bool w.heap.size 4 WN (.slice (some ⟨gc, 0, none⟩) pn pn) (rowB pn (mixF f s2 (k + 1)))) := HO6
            have HBX7 : Hid (∃ q1 q2 q3 q4, HuB WN hb gh pn q1 q2 q3 q4 (-1)) := HBX6
            have HCA7 : Hid (OG Value.bool 0 4 WN (.slice (some ⟨gh, 0, none⟩) pn pn) (rowB pn s2)) := HCA6
            have HB7 : Hid (Below w.heap.size w WN) := HB6
            rw [hbb] at hWN
            have HWN : Hid (WN = wr.setCell ⟨gc, k, none⟩ (.bool (b0 || d0))) := hWN
            clear hbb hb0 hd0 hbox HO HB HBX HCA HSET HBXS HCAS HBS HO6 HBX6 HCA6 HB6 hWN
            cases b0 with
            | true =>
              have HWN2 : Hid (WN = wr.setCell ⟨gc, k, none⟩ (.bool true)) := HWN.out
              clear HWN
              go_wp2
              rw [← HWN2.out]
              clear HWN2 hc1 hc2 hh1 hq5
              go_roundg (pn - (k + 1))
              case measure => omega
              case rel => exact ⟨k + 1, by first | rfl | go_num, by omega, Nat.le_refl _, HBX7, HCA7, HO7, HB7⟩
            | false =>
              have HWN2 : Hid (WN = wr.setCell ⟨gc, k, none⟩ (.bool d0)) := HWN.out
              clear HWN
              go_wp2
              rw [← HWN2.out]
              clear HWN2 hc1 hc2 hh1 hq5
              go_roundg (pn - (k + 1))
              case measure => omega
              case rel => exact ⟨k + 1, by first | rfl | go_num, by omega, Nat.le_refl _, HBX7, HCA7, HO7, HB7⟩
          · have hlkz : ¬ (k : Int) < (pn : Int) := by omega
            obtain rfl : k = pn := by omega
            have HCM2 : Hid (cmF k P G (a.take (i + 1)) (mixF f s2 k)) := HCM.out.next HX1.out HTL.out
            clear HCM HBX HCA HX1 HTL
            go_wp2
            go_roundg (an - (i + 1))
            case measure => omega
            case rel => exact ⟨i + 1, _, by first | rfl | go_num, by omega, Nat.le_refl _, HCM2, HO, HB⟩
      · have hltz : ¬ (i : Int) < (an : Int) := by omega
        have HEND : Hid (cmF pn P G a f) := by
          have h1 := HCM.out
          rwa [List.take_of_length_le (by rw [HAN.out]; omega)] at h1
        obtain ⟨B1, hB1⟩ : ∃ B, B = wr.heap.size := ⟨_, rfl⟩
        have HB1 : Hid (B1 = wr.heap.size) := hB1
        have HGL : Hid (gc < B1) := by show _ < _; rw [hB1]; exact (HO.out.lt gc rfl).2
        have HWB : Hid (w.heap.size ≤ B1) := by show _ ≤ _; rw [hB1]; exact HB.out.size
        clear HCM hB1
        go_wp2
        go_loopg [13, 14] pn (fun g1 v13 v14 wq => ∃ (i : Nat) (lo : Option Addr) (ln lc : Nat), v14 = .int .i64 i ∧ v13 = .slice lo ln lc ∧ i ≤ pn ∧ pn - i ≤ g1 ∧ Hid (OG (Value.int .i64) B1 3 wq (.slice lo ln lc) (inL i f)) ∧ Hid (OG Value.bool w.heap.size 4 wq (.slice (some ⟨gc, 0, none⟩) pn pn) (rowB pn f)) ∧ Hid (Below w.heap.size w wq) ∧ Hid (B1 ≤ wq.heap.size))
        case atStart => exact ⟨0, none, 0, 0, rfl, rfl, by omega, by omega, OG.nil _ _ _, HO, HB, by show _ ≤ _; rw [HB1.out]; exact Nat.le_refl _⟩
        case round =>
          clear HO HB HB1
          obtain ⟨i, lo, ln, lc, rfl, rfl, hin, hg3, HL, HO, HB, HSZ⟩ := hrel
          by_cases hli : i < pn
          · have hliz : (i : Int) < (pn : Int) := by omega
            have hic := (HO.out.cell (rowB_get (f := f) hli)).1
            rcases hI : f i with _ | _
            · rw [hI] at hic
              have HL2 : Hid (OG (Value.int .i64) B1 3 wr (.slice lo ln lc) (inL (i + 1) f)) := by show OG _ _ _ _ _ _; rw [inL_step, if_neg (by rw [hI]; simp)]; exact HL.out
              clear hI HL
              go_wp2
              clear hic
              go_roundg (pn - (i + 1))
              case measure => omega
              case rel => exact ⟨i + 1, _, _, _, by first | rfl | go_num, rfl, by omega, Nat.le_refl _, HL2, HO, HB, HSZ⟩
            · rw [hI] at hic
              have HST : Hid (inL (i + 1) f = inL i f ++ [(i : Int)]) := by show _ = _; rw [inL_step, if_pos hI]
              have hll := inL_len i f
              obtain ⟨WA, hWA⟩ : ∃ W, W = wr.alloc (.cells #[.int .i64 (i : Int)] 3) := ⟨_, rfl⟩
              obtain ⟨gb, hgb⟩ : ∃ g, g = wr.heap.size := ⟨_, rfl⟩
              have HBA : Hid (Below wr.heap.size wr WA) := by show Below _ _ _; rw [hWA]; exact belowB _ _
              have HCB : Hid (WA.cell? ⟨gb, 0, none⟩ = some (.int .i64 (i : Int))) := by show _ = _; rw [hWA, hgb, World.cell?_alloc_at _ _ _ _ rfl]; rfl
              have HWA : Hid (WA = wr.alloc (.cells #[.int .i64 (i : Int)] 3)) := hWA
              have HGB : Hid (gb = wr.heap.size) := hgb
              have HLL : Hid ((inL i f).length ≤ 100000) := by show _ ≤ _; omega
              clear hWA hgb hI hll
              go_wp2_with (at_builtin; rw [← HWA.out, ← HGB.out]; refine wpList_pushD _ (fun _ => rfl) rfl _ _ 23 rfl B1 3 i0 (.int .i64 0) 8 Tryz.underlying23 hi hz0 hz1 hz2 rfl _ (inL i f) rfl (HL.out.below HBA.out) gb (i : Int) rfl HCB.out (by have := HLL.out; unfold maxLen; omega) (by have := HLL.out; omega) (Nat.le_trans HSZ.out HBA.out.size) ?_)
              intro ng tm ncap W2 ho hg9 hng _
              have HOA : Hid (OG Value.bool w.heap.size 4 W2 (.slice (some ⟨gc, 0, none⟩) pn pn) (rowB pn f)) := (HO.out.below HBA.out).of_blocks fun q hq => hg9.block q (Nat.lt_of_lt_of_le (HO.out.lt q hq).2 HBA.out.size) (fun e => by
                have h1 := (HL.out.lt q e.symm).1
                have e1 : gc = q := by simpa [Value.ownBlock] using hq
                have := HGL.out
                omega)
              have HB5 : Hid (Below w.heap.size w W2) := by
                show Below _ _ _
                have b1 := HB.out.trans (HBA.out.mono HB.out.size)
                exact ⟨hg9.os.trans b1.os, hg9.tape.trans b1.tape, hg9.output.trans b1.output, Nat.le_trans b1.size hg9.size, fun q hq => (hg9.block q (Nat.lt_of_lt_of_le hq b1.size) (fun e => by have := (HL.out.lt q e.symm).1; have := HWB.out; omega)).trans (b1.block q hq)⟩
              have HSZ2 : Hid (B1 ≤ W2.heap.size) := Nat.le_trans (Nat.le_trans HSZ.out HBA.out.size) hg9.size
              have HL2 : Hid (OG (Value.int .i64) B1 3 W2 (.slice (some ⟨ng, 0, none⟩) tm ncap) (inL (i + 1) f)) := by show OG _ _ _ _ _ _; rw [HST.out]; exact ho
              clear ho hg9 hng HL HO HB HSZ HBA HCB HWA HGB HST HLL
              go_wp2
              clear hic
              go_roundg (pn - (i + 1))
              case measure => omega
              case rel => exact ⟨i + 1, _, _, _, by first | rfl | go_num, rfl, by omega, Nat.le_refl _, HL2, HOA, HB5, HSZ2⟩
          · have hliz : ¬ (i : Int) < (pn : Int) := by omega
            obtain rfl : i = pn := by omega
            have HL2 : Hid (OG (Value.int .i64) w.heap.size 3 wr (.slice lo ln lc) (inL i f)) := HL.out.mono HWB.out
            have HMEM : Hid (∀ y, y ∈ inL i f ↔ ∃ x ∈ a, TelM P G x y) := fun y => by
              rw [inL_mem]
              constructor
              · rintro ⟨v, h1, h2, h3⟩
                rw [h2]; exact (HEND.out v h1).1 h3
              · rintro ⟨x, hx, ht⟩
                obtain ⟨v, rfl, hv⟩ := tel_pt HCK.out (by rw [HN.out]; exact HPG.out) (by rw [HN.out]; exact no_in HPA.out hx) ht
                rw [HN.out] at hv
                exact ⟨v, hv, rfl, (HEND.out v hv).2 ⟨x, hx, ht⟩⟩
            clear HL
            go_wp2
            go_ret2
            exact ⟨_, by rw [HE.out]; rfl, fun h => absurd HE.out h, fun _ => ⟨_, HL2.out, inL_rise _ _, HMEM.out⟩, HB.out⟩
  · obtain ⟨c, hc⟩ : ∃ c, c = wkE P pn a G := ⟨_, rfl⟩
    rw [← hc] at h0 ⊢
    have HC : Hid (c = wkE P pn a G) := hc
    have H0 : Hid (c ≠ 0) := h0
    have hcz : (c != (0 : Int)) = true := by simpa using h0
    clear hc h0
    go_wp2
    go_ret2
    exact ⟨_, by rw [← HC.out]; rfl, fun _ => rfl, fun h => absurd (by rw [HC.out]; exact h) H0.out, HB3.out⟩
end Go.Proofs.YtcoiapgfaibkgaaGreat

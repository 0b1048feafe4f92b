/-
  Proved here: the document's Kept of layer 17.
  Proved here: layer 17's law: call and told: what the program and the document answer.
-/
import Derived.Test.YthdpomgpcblpeaaGreatPsNAll
namespace Go.Proofs.YthdpomgpcblpeaaGreat
set_option linter.unusedVariables false
open Go.RowKit Go.Shelf Go.Sort Go.Lib
/-- What is kept, of a point that is one. -/
def KqP (P : List (List Int)) (a G : List Int) (b p : Bool) (x : Int) : Prop := (b = true → RchP P (a ++ G) x) ∧ (p = true → TabM P a G x)
set_option maxRecDepth 1000000 in
set_option maxHeartbeats 12800000 in
theorem refKept (pv av qv : Value) (b p : Bool) (pvs : List Value) (P : List (List Int)) (a G : List Int) (w : World) (h : RRD w pv pvs P) (n : Nat) (hn : P.length = n) (hb : n ≤ 14) (hbl : ∀ i, (P.getD i []).length ≤ 90) (ha : RG (Value.int .i64) w av a) (hal : a.length ≤ 100) (hq : RG (Value.int .i64) w qv G) (hql : G.length ≤ 100) :
    Calls Tryz.prog 14 #[pv, av, qv, .bool b, .bool p] w fun e w' => PrE w.heap.size P n a G (KpP P n a G b p) w' e ∧ Below w.heap.size w w' := by
  obtain ⟨i0, hi, hz0, hz1, hz2⟩ := info_parts Tryz.infoI
  have CC : Hid _ := refBarren pv av qv pvs P a G w h n hn (by omega) (fun i => by have := hbl i; omega) ha (by omega) hq (by omega)
  obtain ⟨po, pn, pc, rfl⟩ : ∃ o n c, pv = .slice o n c := by obtain ⟨ao, cap, e⟩ := h.out.sl; exact ⟨_, _, _, e⟩
  obtain rfl : pn = n := by rw [← hn, ← h.len, h.out.len]
  obtain ⟨ao, an, ac, rfl⟩ : ∃ o n c, av = .slice o n c := by obtain ⟨ao, cap, e⟩ := ha.sl; exact ⟨_, _, _, e⟩
  obtain ⟨qo, qn, qc, rfl⟩ : ∃ o n c, qv = .slice o n c := by obtain ⟨ao, cap, e⟩ := hq.sl; exact ⟨_, _, _, e⟩
  have HR : Hid (∀ W, Below w.heap.size w W → RRD W (.slice po pn pc) pvs P) := fun W hW => h.below (Nat.le_refl _) hW
  have HA : Hid (∀ W, Below w.heap.size w W → RG (Value.int .i64) W (.slice ao an ac) a) := fun W hW => ha.below (Nat.le_refl _) hW
  have HQ : Hid (∀ W, Below w.heap.size w W → RG (Value.int .i64) W (.slice qo qn qc) G) := fun W hW => hq.below (Nat.le_refl _) hW
  have HN : Hid (P.length = pn) := hn
  have HAL : Hid (a.length ≤ 100) := hal
  have HQL : Hid (G.length ≤ 100) := hql
  have HBL : Hid (∀ i, (P.getD i []).length ≤ 90) := hbl
  clear h hn ha hal hq hql hbl
  go_enter Tryz.func14, Tryz.ntmps14
  go_wp2_with fail
  refine Calls.mono CC.out ?_
  rintro e z ⟨⟨bo, bn, bc, L, rfl, hL, her, hok⟩, hz⟩
  have HB : Hid (Below w.heap.size w z) := hz
  clear CC hz her
  by_cases h0 : nsE P pn (a ++ G) = 0
  case neg =>
    obtain ⟨c, hc⟩ : ∃ c, c = nsE P pn (a ++ G) := ⟨_, rfl⟩
    have HC : Hid (c = nsE P pn (a ++ G)) := hc
    rw [← hc] at h0 ⊢
    have hcz : (c != (0 : Int)) = true := by simpa using h0
    have HE : Hid (PrE w.heap.size P pn a G (KpP P pn a G b p) z (.returned (.tuple #[.slice none 0 0, .int .i64 c]))) := ⟨none, 0, 0, [], by rw [HC.out], OG.nil _ _ _, fun _ => ⟨rfl, rfl, rfl, rfl⟩, fun h => absurd (HC.out.trans h) h0⟩
    clear hc h0 hok hL
    go_wp2
    go_ret2
    exact ⟨HE.out, HB.out⟩
  obtain ⟨hck, hna, hng⟩ := ns_both h0
  have H0 : Hid (nsE P pn (a ++ G) = 0) := h0
  have HCK : Hid (ckE P = 0) := hck
  have HNA : Hid (noPts (pn : Int) a = false) := hna
  have HNG : Hid (noPts (pn : Int) G = false) := hng
  have HLM : Hid (∀ k : Nat, k < pn → ((k : Int) ∈ L ↔ ¬ RchP P (a ++ G) (k : Int))) := fun k hk => by
    rw [(hok h0).2 (k : Int)]
    exact ⟨fun ⟨_, _, _, h⟩ => h, fun h => ⟨k, rfl, hk, h⟩⟩
  have HL : Hid (∀ W, Below z.heap.size z W → RG (Value.int .i64) W (.slice bo bn bc) L) := fun W hW => hL.rg.below (Nat.le_refl _) hW
  rw [h0]
  clear h0 hck hna hng hok hL
  have HBZ : Hid (Below z.heap.size z z) := Below.refl _ _
  have HU0 : Hid (UpI 0 (KqP P a G b p) []) := UpI.nil _
  have HO0 : Hid (OG (Value.int .i64) z.heap.size 3 z (.slice none 0 0) []) := OG.nil _ _ _
  go_wp2
  go_loopg [14, 15, 16] pn (fun g1 v14 v15 _v16 wr => ∃ (k : Nat) (ko : Option Addr) (kn kc : Nat) (K : List Int), v15 = .int .i64 k ∧ v14 = .slice ko kn kc ∧ k ≤ pn ∧ pn - k ≤ g1 ∧ Hid (UpI k (KqP P a G b p) K) ∧ Hid (OG (Value.int .i64) z.heap.size 3 wr (.slice ko kn kc) K) ∧ Hid (Below z.heap.size z wr))
  case atStart => exact ⟨0, none, 0, 0, [], rfl, rfl, Nat.zero_le _, by omega, HU0, HO0, HBZ⟩
  case round =>
    clear HU0 HO0 HBZ
    obtain ⟨k, ko, kn, kc, K, rfl, rfl, hkn, hg1, HU, HO, HBZ⟩ := hrel
    by_cases hlt : k < pn
    · have hltz : (k : Int) < (pn : Int) := by omega
      have CN : Hid _ := needed17 (.slice po pn pc) (.slice ao an ac) (.slice qo qn qc) pvs P a G wr (HR.out wr (bstepB HB.out HBZ.out)) pn HN.out hb HBL.out k hlt (HA.out wr (bstepB HB.out HBZ.out)) HAL.out (HQ.out wr (bstepB HB.out HBZ.out)) HQL.out HCK.out HNA.out HNG.out
      have CH : Hid _ := hasD (.slice bo bn bc) L (k : Int) wr (HL.out wr HBZ.out)
      obtain ⟨t, ht⟩ : ∃ t, t = decide ((k : Int) ∈ L) := ⟨_, rfl⟩
      rw [← ht] at CH
      have HT : Hid (t = true ↔ ¬ RchP P (a ++ G) (k : Int)) := by show _ ↔ _; rw [ht, decide_eq_true_iff]; exact HLM.out k hlt
      clear ht
      cases b with
      | false =>
        clear CH
        cases p with
        | false =>
          have HU2 : Hid (UpI (k + 1) (KqP P a G false false) (K ++ [(k : Int)])) := HU.out.yes ⟨fun h => by simp at h, fun h => by simp at h⟩
          have HKL : Hid (K.length ≤ 100000) := by have := HU.out.len; show _ ≤ _; omega
          obtain ⟨WA, hWA⟩ : ∃ W, W = wr.alloc (.cells #[.int .i64 (k : Int)] 3) := ⟨_, rfl⟩
          obtain ⟨gb, hgb⟩ : ∃ g, g = wr.heap.size := ⟨_, rfl⟩
          have HBA : Hid (Below wr.heap.size wr WA) := by show Below _ _ _; rw [hWA]; exact belowB _ _
          have HCB : Hid (WA.cell? ⟨gb, 0, none⟩ = some (.int .i64 (k : Int))) := by show _ = _; rw [hWA, hgb, World.cell?_alloc_at _ _ _ _ rfl]; rfl
          have HWA : Hid (WA = wr.alloc (.cells #[.int .i64 (k : Int)] 3)) := hWA
          have HGB : Hid (gb = wr.heap.size) := hgb
          have HBW : Hid (Below z.heap.size z WA) := bstepB HBZ.out HBA.out
          clear hWA hgb HU CN HT
          go_wp2_with (at_builtin; rw [← HWA.out, ← HGB.out]; refine wpList_pushV (enc := Value.int .i64) _ rfl _ _ 23 rfl z.heap.size 3 i0 (.int .i64 0) 8 Tryz.underlying23 hi hz0 hz1 hz2 rfl _ K rfl (HO.out.below HBA.out) gb (k : Int) rfl HCB.out rfl (by have := HKL.out; unfold maxLen; omega) (by have := HKL.out; omega) HBW.out.size ?_)
          intro ng tm ncap W2 ho hg3 hng _
          have HO2 : Hid (OG (Value.int .i64) z.heap.size 3 W2 (.slice (some ⟨ng, 0, none⟩) tm ncap) (K ++ [(k : Int)])) := ho
          have HB2 : Hid (Below z.heap.size z W2) := (HO.out.below HBA.out).grown HBW.out HBW.out.size hg3
          clear ho hg3 hng HO HBZ HBA HCB HWA HGB HBW HKL
          go_wp2
          go_roundg (pn - (k + 1))
          case measure => omega
          case rel => exact ⟨k + 1, _, _, _, _, by first | rfl | go_num, rfl, by omega, Nat.le_refl _, HU2, HO2, HB2⟩
        | true =>
          go_wp2_with fail
          refine Calls.mono CN.out ?_
          rintro e yn ⟨u, rfl, ⟨m, rfl, hm⟩, hyn⟩
          have HM : Hid (m = true ↔ TabM P a G (k : Int)) := hm
          have HBN : Hid (Below z.heap.size z yn) := bstepB HBZ.out hyn
          have HON : Hid (OG (Value.int .i64) z.heap.size 3 yn (.slice ko kn kc) K) := HO.out.below hyn
          clear CN hm hyn
          cases m with
          | false =>
            have HU2 : Hid (UpI (k + 1) (KqP P a G false true) K) := HU.out.no (fun h => by have := HM.out.2 (h.2 rfl); simp at this)
            clear HO HBZ
            have HO : Hid (OG (Value.int .i64) z.heap.size 3 yn (.slice ko kn kc) K) := HON.out
            have HBZ : Hid (Below z.heap.size z yn) := HBN.out
            clear HON HBN
            clear HU HT HM
            go_wp2
            go_roundg (pn - (k + 1))
            case measure => omega
            case rel => exact ⟨k + 1, _, _, _, K, by first | rfl | go_num, rfl, by omega, Nat.le_refl _, HU2, HO, HBZ⟩
          | true =>
            have HU2 : Hid (UpI (k + 1) (KqP P a G false true) (K ++ [(k : Int)])) := HU.out.yes ⟨fun h => by simp at h, fun _ => HM.out.1 rfl⟩
            have HKL : Hid (K.length ≤ 100000) := by have := HU.out.len; show _ ≤ _; omega
            obtain ⟨WA, hWA⟩ : ∃ W, W = yn.alloc (.cells #[.int .i64 (k : Int)] 3) := ⟨_, rfl⟩
            obtain ⟨gb, hgb⟩ : ∃ g, g = yn.heap.size := ⟨_, rfl⟩
            have HBA : Hid (Below yn.heap.size yn WA) := by show Below _ _ _; rw [hWA]; exact belowB _ _
            have HCB : Hid (WA.cell? ⟨gb, 0, none⟩ = some (.int .i64 (k : Int))) := by show _ = _; rw [hWA, hgb, World.cell?_alloc_at _ _ _ _ rfl]; rfl
            have HWA : Hid (WA = yn.alloc (.cells #[.int .i64 (k : Int)] 3)) := hWA
            have HGB : Hid (gb = yn.heap.size) := hgb
            have HBW : Hid (Below z.heap.size z WA) := bstepB HBN.out HBA.out
            clear hWA hgb HU HT HM
            go_wp2_with (at_builtin; rw [← HWA.out, ← HGB.out]; refine wpList_pushV (enc := Value.int .i64) _ rfl _ _ 23 rfl z.heap.size 3 i0 (.int .i64 0) 8 Tryz.underlying23 hi hz0 hz1 hz2 rfl _ K rfl (HON.out.below HBA.out) gb (k : Int) rfl HCB.out rfl (by have := HKL.out; unfold maxLen; omega) (by have := HKL.out; omega) HBW.out.size ?_)
            intro ng tm ncap W2 ho hg3 hng _
            have HO2 : Hid (OG (Value.int .i64) z.heap.size 3 W2 (.slice (some ⟨ng, 0, none⟩) tm ncap) (K ++ [(k : Int)])) := ho
            have HB2 : Hid (Below z.heap.size z W2) := (HON.out.below HBA.out).grown HBW.out HBW.out.size hg3
            clear ho hg3 hng HO HBZ HBA HCB HWA HGB HBW HKL
            go_wp2
            go_roundg (pn - (k + 1))
            case measure => omega
            case rel => exact ⟨k + 1, _, _, _, _, by first | rfl | go_num, rfl, by omega, Nat.le_refl _, HU2, HO2, HB2⟩
      | true =>
        go_wp2_with fail
        refine Calls.mono CH.out ?_
        rintro e yy ⟨rfl, hyy⟩
        rw [hyy]
        clear CH hyy yy
        cases t with
        | true =>
          have HU2 : Hid (UpI (k + 1) (KqP P a G true p) K) := HU.out.no (fun h => HT.out.1 rfl (h.1 rfl))
          clear CN
          cases p with
          | false =>
            clear HU HT
            go_wp2
            go_roundg (pn - (k + 1))
            case measure => omega
            case rel => exact ⟨k + 1, _, _, _, K, by first | rfl | go_num, rfl, by omega, Nat.le_refl _, HU2, HO, HBZ⟩
          | true =>
            clear HU HT
            go_wp2
            go_roundg (pn - (k + 1))
            case measure => omega
            case rel => exact ⟨k + 1, _, _, _, K, by first | rfl | go_num, rfl, by omega, Nat.le_refl _, HU2, HO, HBZ⟩
        | false =>
          cases p with
          | false =>
            have HU2 : Hid (UpI (k + 1) (KqP P a G true false) (K ++ [(k : Int)])) := HU.out.yes ⟨fun _ => Classical.byContradiction fun h => by have := HT.out.2 h; simp at this, fun h => by simp at h⟩
            have HKL : Hid (K.length ≤ 100000) := by have := HU.out.len; show _ ≤ _; omega
            obtain ⟨WA, hWA⟩ : ∃ W, W = wr.alloc (.cells #[.int .i64 (k : Int)] 3) := ⟨_, rfl⟩
            obtain ⟨gb, hgb⟩ : ∃ g, g = wr.heap.size := ⟨_, rfl⟩
            have HBA : Hid (Below wr.heap.size wr WA) := by show Below _ _ _; rw [hWA]; exact belowB _ _
            have HCB : Hid (WA.cell? ⟨gb, 0, none⟩ = some (.int .i64 (k : Int))) := by show _ = _; rw [hWA, hgb, World.cell?_alloc_at _ _ _ _ rfl]; rfl
            have HWA : Hid (WA = wr.alloc (.cells #[.int .i64 (k : Int)] 3)) := hWA
            have HGB : Hid (gb = wr.heap.size) := hgb
            have HBW : Hid (Below z.heap.size z WA) := bstepB HBZ.out HBA.out
            clear hWA hgb HU CN HT
            go_wp2_with (at_builtin; rw [← HWA.out, ← HGB.out]; refine wpList_pushV (enc := Value.int .i64) _ rfl _ _ 23 rfl z.heap.size 3 i0 (.int .i64 0) 8 Tryz.underlying23 hi hz0 hz1 hz2 rfl _ K rfl (HO.out.below HBA.out) gb (k : Int) rfl HCB.out rfl (by have := HKL.out; unfold maxLen; omega) (by have := HKL.out; omega) HBW.out.size ?_)
            intro ng tm ncap W2 ho hg3 hng _
            have HO2 : Hid (OG (Value.int .i64) z.heap.size 3 W2 (.slice (some ⟨ng, 0, none⟩) tm ncap) (K ++ [(k : Int)])) := ho
            have HB2 : Hid (Below z.heap.size z W2) := (HO.out.below HBA.out).grown HBW.out HBW.out.size hg3
            clear ho hg3 hng HO HBZ HBA HCB HWA HGB HBW HKL
            go_wp2
            go_roundg (pn - (k + 1))
            case measure => omega
            case rel => exact ⟨k + 1, _, _, _, _, by first | rfl | go_num, rfl, by omega, Nat.le_refl _, HU2, HO2, HB2⟩
          | true =>
            go_wp2_with fail
            refine Calls.mono CN.out ?_
            rintro e yn ⟨u, rfl, ⟨m, rfl, hm⟩, hyn⟩
            have HM : Hid (m = true ↔ TabM P a G (k : Int)) := hm
            have HBN : Hid (Below z.heap.size z yn) := bstepB HBZ.out hyn
            have HON : Hid (OG (Value.int .i64) z.heap.size 3 yn (.slice ko kn kc) K) := HO.out.below hyn
            clear CN hm hyn
            cases m with
            | false =>
              have HU2 : Hid (UpI (k + 1) (KqP P a G true true) K) := HU.out.no (fun h => by have := HM.out.2 (h.2 rfl); simp at this)
              clear HO HBZ
              have HO : Hid (OG (Value.int .i64) z.heap.size 3 yn (.slice ko kn kc) K) := HON.out
              have HBZ : Hid (Below z.heap.size z yn) := HBN.out
              clear HON HBN
              clear HU HT HM
              go_wp2
              go_roundg (pn - (k + 1))
              case measure => omega
              case rel => exact ⟨k + 1, _, _, _, K, by first | rfl | go_num, rfl, by omega, Nat.le_refl _, HU2, HO, HBZ⟩
            | true =>
              have HU2 : Hid (UpI (k + 1) (KqP P a G true true) (K ++ [(k : Int)])) := HU.out.yes ⟨fun _ => Classical.byContradiction fun h => by have := HT.out.2 h; simp at this, fun _ => HM.out.1 rfl⟩
              have HKL : Hid (K.length ≤ 100000) := by have := HU.out.len; show _ ≤ _; omega
              obtain ⟨WA, hWA⟩ : ∃ W, W = yn.alloc (.cells #[.int .i64 (k : Int)] 3) := ⟨_, rfl⟩
              obtain ⟨gb, hgb⟩ : ∃ g, g = yn.heap.size := ⟨_, rfl⟩
              have HBA : Hid (Below yn.heap.size yn WA) := by show Below _ _ _; rw [hWA]; exact belowB _ _
              have HCB : Hid (WA.cell? ⟨gb, 0, none⟩ = some (.int .i64 (k : Int))) := by show _ = _; rw [hWA, hgb, World.cell?_alloc_at _ _ _ _ rfl]; rfl
              have HWA : Hid (WA = yn.alloc (.cells #[.int .i64 (k : Int)] 3)) := hWA
              have HGB : Hid (gb = yn.heap.size) := hgb
              have HBW : Hid (Below z.heap.size z WA) := bstepB HBN.out HBA.out
              clear hWA hgb HU HT HM
              go_wp2_with (at_builtin; rw [← HWA.out, ← HGB.out]; refine wpList_pushV (enc := Value.int .i64) _ rfl _ _ 23 rfl z.heap.size 3 i0 (.int .i64 0) 8 Tryz.underlying23 hi hz0 hz1 hz2 rfl _ K rfl (HON.out.below HBA.out) gb (k : Int) rfl HCB.out rfl (by have := HKL.out; unfold maxLen; omega) (by have := HKL.out; omega) HBW.out.size ?_)
              intro ng tm ncap W2 ho hg3 hng _
              have HO2 : Hid (OG (Value.int .i64) z.heap.size 3 W2 (.slice (some ⟨ng, 0, none⟩) tm ncap) (K ++ [(k : Int)])) := ho
              have HB2 : Hid (Below z.heap.size z W2) := (HON.out.below HBA.out).grown HBW.out HBW.out.size hg3
              clear ho hg3 hng HO HBZ HBA HCB HWA HGB HBW HKL
              go_wp2
              go_roundg (pn - (k + 1))
              case measure => omega
              case rel => exact ⟨k + 1, _, _, _, _, by first | rfl | go_num, rfl, by omega, Nat.le_refl _, HU2, HO2, HB2⟩
    · have hltz : ¬ (k : Int) < (pn : Int) := by omega
      have hke : k = pn := by omega
      have HE : Hid (PrE w.heap.size P pn a G (KpP P pn a G b p) wr (.returned (.tuple #[.slice ko kn kc, .int .i64 0]))) := by
        rw [hke] at HU
        exact ⟨ko, kn, kc, K, by rw [H0.out], HO.out.mono HB.out.size, fun h => absurd H0.out h, fun _ => ⟨HU.out.rise, fun x => (HU.out.mem x).trans ⟨fun ⟨k, e, hk, h⟩ => ⟨k, e, hk, by rw [e]; exact h⟩, fun ⟨k, e, hk, h⟩ => ⟨k, e, hk, by rw [← e]; exact h⟩⟩⟩⟩
      have HBE : Hid (Below w.heap.size w wr) := bstepB HB.out HBZ.out
      clear hke HU HO HBZ
      go_wp2
      go_ret2
      exact ⟨HE.out, HBE.out⟩
end Go.Proofs.YthdpomgpcblpeaaGreat

namespace Go.Proofs.YthdpomgpcblpeaaGreat
set_option linter.unusedVariables false
open Go.RowKit Go.Shelf Go.Sort Go.Lib
/-- What is asked for: what is barren, or what is kept, in each way. -/
def WhQ (d : Nat) (P : List (List Int)) (n : Nat) (a G : List Int) : Int → Prop :=
  match d with
  | 0 => BaP P n a G
  | 1 => KpP P n a G true false
  | 2 => KpP P n a G false true
  | 3 => KpP P n a G true true
  | _ => KpP P n a G false false
set_option maxRecDepth 1000000 in
set_option maxHeartbeats 6400000 in
theorem call17 (d : Nat) (hd : d ≤ 4) (pv av qv : Value) (pvs : List Value) (P : List (List Int)) (a G : List Int) (w : World) (h : RRD w pv pvs P) (n : Nat) (hn : P.length = n) (hb : n ≤ 14) (hbl : ∀ i, (P.getD i []).length ≤ 90) (ha : RG (Value.int .i64) w av a) (hal : a.length ≤ 100) (hq : RG (Value.int .i64) w qv G) (hql : G.length ≤ 100) :
    Calls Tryz.prog 9 #[.int .i64 (d : Int), pv, av, qv] w fun e w' => PrE w.heap.size P n a G (WhQ d P n a G) w' e ∧ Below w.heap.size w w' := by
  obtain ⟨po, pn, pc, rfl⟩ : ∃ o n c, pv = .slice o n c := by obtain ⟨ao, cap, e⟩ := h.out.sl; exact ⟨_, _, _, e⟩
  obtain rfl : pn = n := by rw [← hn, ← h.len, h.out.len]
  obtain ⟨ao, an, ac, rfl⟩ : ∃ o n c, av = .slice o n c := by obtain ⟨ao, cap, e⟩ := ha.sl; exact ⟨_, _, _, e⟩
  obtain ⟨qo, qn, qc, rfl⟩ : ∃ o n c, qv = .slice o n c := by obtain ⟨ao, cap, e⟩ := hq.sl; exact ⟨_, _, _, e⟩
  have h5 : d = 0 ∨ d = 1 ∨ d = 2 ∨ d = 3 ∨ d = 4 := by omega
  clear hd
  rcases h5 with rfl | rfl | rfl | rfl | rfl
  · have CC : Hid _ := barrenS _ _ _ pvs P a G w h pn hn (by omega) (fun i => by have := hbl i; omega) ha (by omega) hq (by omega)
    clear h hn hbl ha hal hq hql
    go_enter Tryz.func9, Tryz.ntmps9
    go_wp2_with fail
    refine Calls.mono CC.out ?_
    clear CC
    rintro e y ⟨⟨lo, ln, lc, L, rfl, hL, her, hok⟩, hy⟩
    obtain ⟨c, hc⟩ : ∃ c : Int, c = nsE P pn (a ++ G) := ⟨_, rfl⟩
    have HE : Hid (PrE w.heap.size P pn a G (WhQ 0 P pn a G) y (.returned (.tuple #[.slice lo ln lc, .int .i64 c]))) := ⟨lo, ln, lc, L, by rw [hc], hL, her, hok⟩
    have HB : Hid (Below w.heap.size w y) := hy
    rw [← hc]
    clear hL her hok hc hy
    go_wp2
    go_ret2
    exact ⟨HE.out, HB.out⟩
  · have CC : Hid _ := keptS _ _ _ true false pvs P a G w h pn hn (by omega) (fun i => by have := hbl i; omega) ha (by omega) hq (by omega)
    clear h hn hbl ha hal hq hql
    go_enter Tryz.func9, Tryz.ntmps9
    go_wp2_with fail
    refine Calls.mono CC.out ?_
    clear CC
    rintro e y ⟨⟨lo, ln, lc, L, rfl, hL, her, hok⟩, hy⟩
    obtain ⟨c, hc⟩ : ∃ c : Int, c = nsE P pn (a ++ G) := ⟨_, rfl⟩
    have HE : Hid (PrE w.heap.size P pn a G (WhQ 1 P pn a G) y (.returned (.tuple #[.slice lo ln lc, .int .i64 c]))) := ⟨lo, ln, lc, L, by rw [hc], hL, her, hok⟩
    have HB : Hid (Below w.heap.size w y) := hy
    rw [← hc]
    clear hL her hok hc hy
    go_wp2
    go_ret2
    exact ⟨HE.out, HB.out⟩
  · have CC : Hid _ := keptS _ _ _ false true pvs P a G w h pn hn (by omega) (fun i => by have := hbl i; omega) ha (by omega) hq (by omega)
    clear h hn hbl ha hal hq hql
    go_enter Tryz.func9, Tryz.ntmps9
    go_wp2_with fail
    refine Calls.mono CC.out ?_
    clear CC
    rintro e y ⟨⟨lo, ln, lc, L, rfl, hL, her, hok⟩, hy⟩
    obtain ⟨c, hc⟩ : ∃ c : Int, c = nsE P pn (a ++ G) := ⟨_, rfl⟩
    have HE : Hid (PrE w.heap.size P pn a G (WhQ 2 P pn a G) y (.returned (.tuple #[.slice lo ln lc, .int .i64 c]))) := ⟨lo, ln, lc, L, by rw [hc], hL, her, hok⟩
    have HB : Hid (Below w.heap.size w y) := hy
    rw [← hc]
    clear hL her hok hc hy
    go_wp2
    go_ret2
    exact ⟨HE.out, HB.out⟩
  · have CC : Hid _ := keptS _ _ _ true true pvs P a G w h pn hn (by omega) (fun i => by have := hbl i; omega) ha (by omega) hq (by omega)
    clear h hn hbl ha hal hq hql
    go_enter Tryz.func9, Tryz.ntmps9
    go_wp2_with fail
    refine Calls.mono CC.out ?_
    clear CC
    rintro e y ⟨⟨lo, ln, lc, L, rfl, hL, her, hok⟩, hy⟩
    obtain ⟨c, hc⟩ : ∃ c : Int, c = nsE P pn (a ++ G) := ⟨_, rfl⟩
    have HE : Hid (PrE w.heap.size P pn a G (WhQ 3 P pn a G) y (.returned (.tuple #[.slice lo ln lc, .int .i64 c]))) := ⟨lo, ln, lc, L, by rw [hc], hL, her, hok⟩
    have HB : Hid (Below w.heap.size w y) := hy
    rw [← hc]
    clear hL her hok hc hy
    go_wp2
    go_ret2
    exact ⟨HE.out, HB.out⟩
  · have CC : Hid _ := keptS _ _ _ false false pvs P a G w h pn hn (by omega) (fun i => by have := hbl i; omega) ha (by omega) hq (by omega)
    clear h hn hbl ha hal hq hql
    go_enter Tryz.func9, Tryz.ntmps9
    go_wp2_with fail
    refine Calls.mono CC.out ?_
    clear CC
    rintro e y ⟨⟨lo, ln, lc, L, rfl, hL, her, hok⟩, hy⟩
    obtain ⟨c, hc⟩ : ∃ c : Int, c = nsE P pn (a ++ G) := ⟨_, rfl⟩
    have HE : Hid (PrE w.heap.size P pn a G (WhQ 4 P pn a G) y (.returned (.tuple #[.slice lo ln lc, .int .i64 c]))) := ⟨lo, ln, lc, L, by rw [hc], hL, her, hok⟩
    have HB : Hid (Below w.heap.size w y) := hy
    rw [← hc]
    clear hL her hok hc hy
    go_wp2
    go_ret2
    exact ⟨HE.out, HB.out⟩
set_option maxRecDepth 1000000 in
set_option maxHeartbeats 6400000 in
theorem told17 (d : Nat) (hd : d ≤ 4) (pv av qv : Value) (pvs : List Value) (P : List (List Int)) (a G : List Int) (w : World) (h : RRD w pv pvs P) (n : Nat) (hn : P.length = n) (hb : n ≤ 14) (hbl : ∀ i, (P.getD i []).length ≤ 90) (ha : RG (Value.int .i64) w av a) (hal : a.length ≤ 100) (hq : RG (Value.int .i64) w qv G) (hql : G.length ≤ 100) :
    Calls Tryz.prog 6 #[.int .i64 (d : Int), pv, av, qv] w fun e w' => PrE w.heap.size P n a G (WhQ d P n a G) w' e ∧ Below w.heap.size w w' := by
  obtain ⟨po, pn, pc, rfl⟩ : ∃ o n c, pv = .slice o n c := by obtain ⟨ao, cap, e⟩ := h.out.sl; exact ⟨_, _, _, e⟩
  obtain rfl : pn = n := by rw [← hn, ← h.len, h.out.len]
  obtain ⟨ao, an, ac, rfl⟩ : ∃ o n c, av = .slice o n c := by obtain ⟨ao, cap, e⟩ := ha.sl; exact ⟨_, _, _, e⟩
  obtain ⟨qo, qn, qc, rfl⟩ : ∃ o n c, qv = .slice o n c := by obtain ⟨ao, cap, e⟩ := hq.sl; exact ⟨_, _, _, e⟩
  have h5 : d = 0 ∨ d = 1 ∨ d = 2 ∨ d = 3 ∨ d = 4 := by omega
  clear hd
  rcases h5 with rfl | rfl | rfl | rfl | rfl
  · have CC : Hid _ := refBarren _ _ _ pvs P a G w h pn hn (by omega) (fun i => by have := hbl i; omega) ha (by omega) hq (by omega)
    clear h hn hbl ha hal hq hql
    go_enter Tryz.func6, Tryz.ntmps6
    go_wp2_with fail
    refine Calls.mono CC.out ?_
    clear CC
    rintro e y ⟨⟨lo, ln, lc, L, rfl, hL, her, hok⟩, hy⟩
    obtain ⟨c, hc⟩ : ∃ c : Int, c = nsE P pn (a ++ G) := ⟨_, rfl⟩
    have HE : Hid (PrE w.heap.size P pn a G (WhQ 0 P pn a G) y (.returned (.tuple #[.slice lo ln lc, .int .i64 c]))) := ⟨lo, ln, lc, L, by rw [hc], hL, her, hok⟩
    have HB : Hid (Below w.heap.size w y) := hy
    rw [← hc]
    clear hL her hok hc hy
    go_wp2
    go_ret2
    exact ⟨HE.out, HB.out⟩
  · have CC : Hid _ := refKept _ _ _ true false pvs P a G w h pn hn hb hbl ha hal hq hql
    clear h hn hbl ha hal hq hql
    go_enter Tryz.func6, Tryz.ntmps6
    go_wp2_with fail
    refine Calls.mono CC.out ?_
    clear CC
    rintro e y ⟨⟨lo, ln, lc, L, rfl, hL, her, hok⟩, hy⟩
    obtain ⟨c, hc⟩ : ∃ c : Int, c = nsE P pn (a ++ G) := ⟨_, rfl⟩
    have HE : Hid (PrE w.heap.size P pn a G (WhQ 1 P pn a G) y (.returned (.tuple #[.slice lo ln lc, .int .i64 c]))) := ⟨lo, ln, lc, L, by rw [hc], hL, her, hok⟩
    have HB : Hid (Below w.heap.size w y) := hy
    rw [← hc]
    clear hL her hok hc hy
    go_wp2
    go_ret2
    exact ⟨HE.out, HB.out⟩
  · have CC : Hid _ := refKept _ _ _ false true pvs P a G w h pn hn hb hbl ha hal hq hql
    clear h hn hbl ha hal hq hql
    go_enter Tryz.func6, Tryz.ntmps6
    go_wp2_with fail
    refine Calls.mono CC.out ?_
    clear CC
    rintro e y ⟨⟨lo, ln, lc, L, rfl, hL, her, hok⟩, hy⟩
    obtain ⟨c, hc⟩ : ∃ c : Int, c = nsE P pn (a ++ G) := ⟨_, rfl⟩
    have HE : Hid (PrE w.heap.size P pn a G (WhQ 2 P pn a G) y (.returned (.tuple #[.slice lo ln lc, .int .i64 c]))) := ⟨lo, ln, lc, L, by rw [hc], hL, her, hok⟩
    have HB : Hid (Below w.heap.size w y) := hy
    rw [← hc]
    clear hL her hok hc hy
    go_wp2
    go_ret2
    exact ⟨HE.out, HB.out⟩
  · have CC : Hid _ := refKept _ _ _ true true pvs P a G w h pn hn hb hbl ha hal hq hql
    clear h hn hbl ha hal hq hql
    go_enter Tryz.func6, Tryz.ntmps6
    go_wp2_with fail
    refine Calls.mono CC.out ?_
    clear CC
    rintro e y ⟨⟨lo, ln, lc, L, rfl, hL, her, hok⟩, hy⟩
    obtain ⟨c, hc⟩ : ∃ c : Int, c = nsE P pn (a ++ G) := ⟨_, rfl⟩
    have HE : Hid (PrE w.heap.size P pn a G (WhQ 3 P pn a G) y (.returned (.tuple #[.slice lo ln lc, .int .i64 c]))) := ⟨lo, ln, lc, L, by rw [hc], hL, her, hok⟩
    have HB : Hid (Below w.heap.size w y) := hy
    rw [← hc]
    clear hL her hok hc hy
    go_wp2
    go_ret2
    exact ⟨HE.out, HB.out⟩
  · have CC : Hid _ := refKept _ _ _ false false pvs P a G w h pn hn hb hbl ha hal hq hql
    clear h hn hbl ha hal hq hql
    go_enter Tryz.func6, Tryz.ntmps6
    go_wp2_with fail
    refine Calls.mono CC.out ?_
    clear CC
    rintro e y ⟨⟨lo, ln, lc, L, rfl, hL, her, hok⟩, hy⟩
    obtain ⟨c, hc⟩ : ∃ c : Int, c = nsE P pn (a ++ G) := ⟨_, rfl⟩
    have HE : Hid (PrE w.heap.size P pn a G (WhQ 4 P pn a G) y (.returned (.tuple #[.slice lo ln lc, .int .i64 c]))) := ⟨lo, ln, lc, L, by rw [hc], hL, her, hok⟩
    have HB : Hid (Below w.heap.size w y) := hy
    rw [← hc]
    clear hL her hok hc hy
    go_wp2
    go_ret2
    exact ⟨HE.out, HB.out⟩
end Go.Proofs.YthdpomgpcblpeaaGreat

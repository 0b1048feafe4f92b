/-
  Proved here: package dag's drain: the points that can be put out, in order.
  Proved here: package dag's drain, from wherever it begins, and what is left behind it.
-/
import Derived.Test.YtcoiapgfaibkgabGreatDagKAll
import Derived.Test.YtcoiapgfaibkgabGreatDagK2All
namespace Go.Proofs.YtcoiapgfaibkgabGreat
set_option linter.unusedVariables false
open Go.RowKit
theorem RtC.frame {B : Nat} {S X : Nat → Prop} {w w' : World} {rb : Nat} {a v : Value} {g go gw n : Nat} {cvs : List Value} {C : Nat → List Int} {Ob : List Bool} {Wt L : List Int} (h : RtC B S w rb a v g go gw n cvs C Ob Wt L) (hf : FrP X w w') (hx : ∀ q, X q → ¬ S q ∧ q ≠ rb ∧ q ≠ go ∧ q ≠ gw ∧ v.ownBlock ≠ some q) : RtC B S w' rb a v g go gw n cvs C Ob Wt L := by
  have hs : ∀ q, S q → w'.heap[q]? = w.heap[q]? := fun q hq => hf.block q (h.sS q hq) (fun e => (hx q e).1 hq)
  refine ⟨⟨by unfold RsC; rw [hf.block rb h.ln.lt (fun e => (hx rb e).2.1 rfl)]; exact h.ln.box, h.ln.row.of_blocks fun q hq => hf.block q (h.ln.row.lt q hq).2 (fun e => (hx q e).2.2.2.2 hq)⟩, h.row.of_blocks fun q hq => hs q ?_, fun j u hu => (h.inn j u hu).of_blocks fun q hq => hs q (h.own j u hu q hq), h.own, h.gS, fun q hq => Nat.lt_of_lt_of_le (h.sS q hq) hf.size, h.out.of_blocks fun q hq => hf.block q (h.out.lt q hq).2 (fun e => ?_), h.wts.of_blocks fun q hq => hf.block q (h.wts.lt q hq).2 (fun e => ?_), h.nS, h.vw, h.hB⟩
  · have e1 : g = q := by simpa [Value.ownBlock] using hq
    rw [← e1]; exact h.gS
  · have e1 : go = q := by simpa [Value.ownBlock] using hq
    exact (hx q e).2.2.1 e1.symm
  · have e1 : gw = q := by simpa [Value.ownBlock] using hq
    exact (hx q e).2.2.2.1 e1.symm
set_option maxRecDepth 100000 in
set_option maxHeartbeats 12800000 in
theorem drainD (B : Nat) (S : Nat → Prop) (w : World) (rb : Nat) (a v : Value) (g go gw n : Nat) (cvs : List Value) (P : List (List Int)) (Ob : List Bool) (Wt L : List Int)
    (h : RtC B S w rb a v g go gw n cvs (fun j => chF P j n) Ob Wt L) (hB : B ≤ w.heap.size) (hn : P.length = n) (hb : n ≤ 100000) (hbl : ∀ i, (P.getD i []).length ≤ 100000) (hnd : ∀ i, (P.getD i []).Nodup)
    (hO : ObR n [] Ob) (hW : WtR P [] [] Wt) (hL : LnOk n L (rdy P [])) :
    Calls Tryz.prog 67 #[.pointer (some ⟨rb, 0, none⟩)] w fun e w' => ∃ tv, e = .returned tv ∧ OG (Value.int .i64) w.heap.size 3 w' tv (outL P) ∧ FrP (RtS rb go gw v) w w' := by
  obtain ⟨i0, hi, hz0, hz1, hz2⟩ := info_parts Tryz.infoI
  have HBV : Hid (∀ q, RtS rb go gw v q → q < w.heap.size) := fun q hq => by
    rcases hq with e | e | e | e
    · rw [e]; exact h.ln.lt
    · rw [e]; exact (h.out.lt go rfl).2
    · rw [e]; exact (h.wts.lt gw rfl).2
    · exact (h.ln.row.lt q e).2
  have HSS : Hid (∀ q, S q → q < w.heap.size) := h.sS
  have H1 : Hid (RtC B S w rb a v g go gw n cvs (fun j => chF P j n) Ob Wt L) := h
  have HO : Hid (ObR n [] Ob) := hO
  have HW : Hid (WtR P [] [] Wt) := hW
  have HL : Hid (LnOk n L (rdy P [])) := hL
  have HN : Hid (P.length = n) := hn
  have HND : Hid (∀ i, (P.getD i []).Nodup) := hnd
  have HBL : Hid (∀ i, (P.getD i []).length ≤ 100000) := hbl
  have HF : Hid (FrP (RtS rb go gw v) w w) := FrP.refl _ _
  have HV0 : Hid (∀ q, v.ownBlock = some q → v.ownBlock = some q ∨ w.heap.size ≤ q) := fun q hq => Or.inl hq
  have HE : Hid (outF P (n - ([] : List Int).length) [] = outL P) := by show _ = _; unfold outL; rw [hn]; rfl
  have e2 := entLnLen
  clear h hO hW hL hn hnd hbl
  go_enter Tryz.func67, Tryz.ntmps67
  go_wp2
  go_loopg [3, 4] n (fun g1 v3 _v4 wr => ∃ (T : List Int) (v' : Value) (Ob' : List Bool) (Wt' L' : List Int) (tO : Option Addr) (tn tc : Nat), v3 = .slice tO tn tc ∧ T.length ≤ n ∧ n - T.length ≤ g1 ∧ Hid (RtC B S wr rb a v' g go gw n cvs (fun j => chF P j n) Ob' Wt' L') ∧ Hid (ObR n T Ob') ∧ Hid (WtR P T [] Wt') ∧ Hid (LnOk n L' (rdy P T)) ∧ Hid (Pts n T) ∧ Hid (outF P (n - T.length) T = outL P) ∧ Hid (OG (Value.int .i64) w.heap.size 3 wr (.slice tO tn tc) T) ∧ Hid (FrP (RtS rb go gw v) w wr) ∧ Hid (∀ q, v'.ownBlock = some q → v.ownBlock = some q ∨ w.heap.size ≤ q) ∧ Hid (∀ q, (Value.slice tO tn tc).ownBlock = some q → v'.ownBlock ≠ some q))
  case atStart => exact ⟨[], v, Ob, Wt, L, none, 0, 0, rfl, by simp, by simp, H1, HO, HW, HL, ⟨List.nodup_nil, by simp⟩, HE, OG.nil _ _ _, HF, HV0, by intro q hq; simp [Value.ownBlock] at hq⟩
  case round =>
    clear H1 HO HW HL HF HV0 HE
    obtain ⟨T, v', Ob', Wt', L', tO, tn, tc, rfl, hTn, hg1, H1, HO, HW, HL, HPT, HE, HT, HF, HV, HAP⟩ := hrel
    obtain ⟨ao, cap, hv', hv1, -, -, -⟩ := H1.out.ln.row.sl
    have d5 := H1.out.ln.box.cell
    rcases hm : L'.length with _ | m
    · rw [hm] at hv'
      subst hv'
      have HE2 : Hid (T = outL P) := by
        show _ = _
        rw [← HE.out]
        refine (out_end (nxt_none fun i hi hr => ?_)).symm
        have := (HL.out.iff (i : Int)).2 ⟨i, by rw [← HN.out]; exact hi, rfl, hr⟩
        rw [List.length_eq_zero_iff.1 hm] at this
        simp at this
      have CL : Hid _ := lnLen ao 0 cap wr
      clear hm hv1 HE HL
      go_wp2_with fail
      refine Calls.mono CL.out ?_
      rintro e z ⟨rfl, rfl⟩
      go_wp2
      go_ret
      exact ⟨_, rfl, by rw [← HE2.out]; exact HT.out, HF.out⟩
    · rw [hm] at hv' hv1
      obtain ⟨gl, hgl, rfl⟩ := hv1 (by omega)
      subst hv'
      obtain ⟨i, hin, he0, hri, hle, HPO⟩ := HL.out.pop hm
      have hnx : nxtF P T = some i := nxt_some (by rw [HN.out]; exact hin) hri hle
      have HE2 : Hid (outF P (n - (T ++ [(i : Int)]).length) (T ++ [(i : Int)]) = outL P) := by
        show _ = _
        rw [← HE.out, out_next (P := P) (T := T) (i := i) (k := n - T.length) (by rw [HN.out]; exact HPT.out) (by rw [HN.out]; exact hin) hnx hri (by rw [HN.out]), List.length_append, List.length_singleton]
        congr 1
      have HP2 : Hid (Pts n (T ++ [(i : Int)])) := HPT.out.snoc hin hri.1
      have hlt : T.length + 1 ≤ n := by have := HP2.out.len; rw [List.length_append, List.length_singleton] at this; exact this
      have hLn := HL.out.len
      rw [hm] at hLn
      have hc0 : L'[0]? = some (i : Int) := by rw [← he0]; exact getD_some (by omega)
      have hcl := (H1.out.ln.row.cell hc0).1
      have CL : Hid _ := lnLen (some ⟨gl, 0, none⟩) (m + 1) cap wr
      have CP : Hid _ := heapPop B rb gl m cap a _ _ _ L' wr H1.out.ln (by omega)
      have hpos : (0 : Int) < ((m + 1 : Nat) : Int) := by omega
      have hpos2 : ((m + 1 : Nat) : Int) > 0 := by omega
      have HRI : Hid (rdy P T i) := hri
      have HPO2 : Hid (LnOk n (popL L' m) (fun j => rdy P T j ∧ j ≠ i)) := HPO
      clear hm HE HL HPT he0 hri hle hnx HPO hc0
      go_wp2_with fail
      refine Calls.mono CL.out ?_
      rintro e z ⟨rfl, rfl⟩
      clear CL
      go_wp2_with fail
      refine Calls.mono CP.out ?_
      rintro e y ⟨zz, rfl, hy1, hy2⟩
      clear CP hcl d5
      have H2 : Hid (RtC B S y rb a (.slice (some ⟨gl, 0, none⟩) m cap) g go gw n cvs (fun j => chF P j n) Ob' Wt' (popL L' m)) := H1.out.line hy1 (fun q hq => Or.inl hq) hy2
      have HFY : Hid (FrP (RtS rb go gw v) w y) := HF.out.tr hy2 (fun q hq e => by
        rcases e with e | e
        · exact Or.inl e
        · rcases HV.out q e with e2 | e2
          · exact Or.inr (Or.inr (Or.inr e2))
          · omega)
      have hrb : rb < w.heap.size := HBV.out rb (Or.inl rfl)
      have hgo : go < w.heap.size := HBV.out go (Or.inr (Or.inl rfl))
      have hgw : gw < w.heap.size := HBV.out gw (Or.inr (Or.inr (Or.inl rfl)))
      have HTY : Hid (OG (Value.int .i64) w.heap.size 3 y (.slice tO tn tc) T) := HT.out.of_blocks fun q hq => hy2.block q (HT.out.lt q hq).2 (fun e => by
        rcases e with e | e
        · have := (HT.out.lt q hq).1; omega
        · exact HAP.out q hq e)
      have CT : Hid _ := takeD B S y rb a (.slice (some ⟨gl, 0, none⟩) m cap) g go gw n cvs P Ob' Wt' (popL L' m) T i H2.out (Nat.le_trans hB HFY.out.size) HN.out hb HBL.out HND.out hin HRI.out HO.out HW.out HPO2.out
      clear hy1 hy2 H1 HF HT
      go_wp2_with fail
      refine Calls.mono CT.out ?_
      rintro e x ⟨rfl, v2, Ob2, Wt2, L2, hx1, hx2, hx3, hx4, hx5, hx6⟩
      clear CT
      have HAX : Hid (∀ q, (Value.slice tO tn tc).ownBlock = some q → v2.ownBlock ≠ some q) := fun q hq e => by
        rcases hx6 q e with e2 | e2
        · exact HAP.out q hq e2
        · have := (HTY.out.lt q hq).2; omega
      have HTX : Hid (OG (Value.int .i64) w.heap.size 3 x (.slice tO tn tc) T) := HTY.out.of_blocks fun q hq => hx5.block q (HTY.out.lt q hq).2 (fun e => by
        have := (HTY.out.lt q hq).1
        rcases e with e | e | e | e
        · omega
        · omega
        · omega
        · exact HAP.out q hq e)
      have HFX : Hid (FrP (RtS rb go gw v) w x) := HFY.out.tr hx5 (fun q hq e => by
        rcases e with e | e | e | e
        · exact Or.inl e
        · exact Or.inr (Or.inl e)
        · exact Or.inr (Or.inr (Or.inl e))
        · rcases HV.out q e with e2 | e2
          · exact Or.inr (Or.inr (Or.inr e2))
          · omega)
      have HVX : Hid (∀ q, v2.ownBlock = some q → v.ownBlock = some q ∨ w.heap.size ≤ q) := fun q hq => by
        rcases hx6 q hq with e | e
        · exact HV.out q e
        · exact Or.inr (Nat.le_trans HFY.out.size e)
      have HX1 : Hid (RtC B S x rb a v2 g go gw n cvs (fun j => chF P j n) Ob2 Wt2 L2) := hx1
      have HX2 : Hid (ObR n (T ++ [(i : Int)]) Ob2 ∧ WtR P (T ++ [(i : Int)]) [] Wt2 ∧ LnOk n L2 (rdy P (T ++ [(i : Int)]))) := ⟨hx2, hx3, hx4⟩
      obtain ⟨WA, hWA⟩ : ∃ W, W = x.alloc (.cells #[.int .i64 (i : Int)] 3) := ⟨_, rfl⟩
      obtain ⟨gb, hgb⟩ : ∃ g, g = x.heap.size := ⟨_, rfl⟩
      have HBA : Hid (Below x.heap.size x WA) := by show Below _ _ _; rw [hWA]; exact belowB _ _
      have HCB : Hid (WA.cell? ⟨gb, 0, none⟩ = some (.int .i64 (i : Int))) := by show _ = _; rw [hWA, hgb, World.cell?_alloc_at _ _ _ _ rfl]; rfl
      have HWA : Hid (WA = x.alloc (.cells #[.int .i64 (i : Int)] 3)) := hWA
      have HGB : Hid (gb = x.heap.size) := hgb
      clear hx1 hx2 hx3 hx4 hx5 hx6 hWA hgb H2 HFY HTY HV HAP HO HW
      go_wp2_with (at_builtin; rw [← HWA.out, ← HGB.out]; refine wpList_pushD _ (fun _ => rfl) rfl _ _ 23 rfl w.heap.size 3 i0 (.int .i64 0) 8 Tryz.underlying23 hi hz0 hz1 hz2 rfl _ T rfl (HTX.out.below HBA.out) gb (i : Int) rfl HCB.out (by unfold maxLen; omega) (by omega) (Nat.le_trans HFX.out.size HBA.out.size) ?_)
      intro ng tm ncap W2 ho hg3 hng _
      have hfr : FrP (fun q => (Value.slice tO tn tc).ownBlock = some q) x W2 := (FrP.of_below HBA.out).tr (FrP.of_grown hg3) (fun q _ e => e)
      have HR2 : Hid (RtC B S W2 rb a v2 g go gw n cvs (fun j => chF P j n) Ob2 Wt2 L2) := HX1.out.frame hfr (fun q hq => by
        have := (HTX.out.lt q hq).1
        exact ⟨fun hs => by have := HSS.out q hs; omega, by omega, by omega, by omega, HAX.out q hq⟩)
      have HF2 : Hid (FrP (RtS rb go gw v) w W2) := HFX.out.tr hfr (fun q hq e => by have := (HTX.out.lt q e).1; omega)
      have HA2 : Hid (∀ q, (Value.slice (some ⟨ng, 0, none⟩) tm ncap).ownBlock = some q → v2.ownBlock ≠ some q) := fun q hq e => by
        have e1 : ng = q := by simpa [Value.ownBlock] using hq
        subst e1
        rcases hng with e2 | e2
        · exact HAX.out _ e2 e
        · have := (HX1.out.ln.row.lt ng e).2
          have := HBA.out.size
          omega
      have HO2 : Hid (OG (Value.int .i64) w.heap.size 3 W2 (.slice (some ⟨ng, 0, none⟩) tm ncap) (T ++ [(i : Int)])) := ho
      clear hfr ho hg3 hng HX1 HFX HTX HAX HBA HCB HWA HGB
      go_wp2
      go_roundg (n - (T.length + 1))
      case measure => omega
      case rel => exact ⟨T ++ [(i : Int)], v2, Ob2, Wt2, L2, _, _, _, rfl, by simp; omega, by simp, HR2, HX2.out.1, HX2.out.2.1, HX2.out.2.2, HP2, HE2, HO2, HF2, HVX, HA2⟩
end Go.Proofs.YtcoiapgfaibkgabGreat

namespace Go.Proofs.YtcoiapgfaibkgabGreat
set_option linter.unusedVariables false
open Go.RowKit
set_option maxRecDepth 100000 in
set_option maxHeartbeats 12800000 in
theorem drainG (B : Nat) (S0 : Nat → Prop) (w : World) (rb : Nat) (a v : Value) (g go gw n : Nat) (cvs : List Value) (P : List (List Int)) (Ob : List Bool) (Wt L T0 : List Int)
    (h : RtC B S0 w rb a v g go gw n cvs (fun j => chF P j n) Ob Wt L) (hB : B ≤ w.heap.size) (hn : P.length = n) (hb : n ≤ 100000) (hbl : ∀ i, (P.getD i []).length ≤ 100000) (hnd : ∀ i, (P.getD i []).Nodup)
    (hO : ObR n T0 Ob) (hW : WtR P T0 [] Wt) (hL : LnOk n L (rdy P T0)) (hT0 : Pts n T0) :
    Calls Tryz.prog 67 #[.pointer (some ⟨rb, 0, none⟩)] w fun e w' => ∃ tv T S v' Ob' Wt' L', e = .returned tv ∧ T = outF P (n - T0.length) T0 ∧ T = T0 ++ S ∧ OG (Value.int .i64) w.heap.size 3 w' tv S ∧ RtC B S0 w' rb a v' g go gw n cvs (fun j => chF P j n) Ob' Wt' L' ∧ ObR n T Ob' ∧ WtR P T [] Wt' ∧ LnOk n L' (rdy P T) ∧ Pts n T ∧ (∀ i, i < n → ¬ rdy P T i) ∧ FrP (RtS rb go gw v) w w' ∧ (∀ q, v'.ownBlock = some q → v.ownBlock = some q ∨ w.heap.size ≤ q) := by
  obtain ⟨i0, hi, hz0, hz1, hz2⟩ := info_parts Tryz.infoI
  have HBV : Hid (∀ q, RtS rb go gw v q → q < w.heap.size) := fun q hq => by
    rcases hq with e | e | e | e
    · rw [e]; exact h.ln.lt
    · rw [e]; exact (h.out.lt go rfl).2
    · rw [e]; exact (h.wts.lt gw rfl).2
    · exact (h.ln.row.lt q e).2
  have HSS : Hid (∀ q, S0 q → q < w.heap.size) := h.sS
  have H1 : Hid (RtC B S0 w rb a v g go gw n cvs (fun j => chF P j n) Ob Wt L) := h
  have HO : Hid (ObR n T0 Ob) := hO
  have HW : Hid (WtR P T0 [] Wt) := hW
  have HL : Hid (LnOk n L (rdy P T0)) := hL
  have HN : Hid (P.length = n) := hn
  have HND : Hid (∀ i, (P.getD i []).Nodup) := hnd
  have HBL : Hid (∀ i, (P.getD i []).length ≤ 100000) := hbl
  have HF : Hid (FrP (RtS rb go gw v) w w) := FrP.refl _ _
  have HV0 : Hid (∀ q, v.ownBlock = some q → v.ownBlock = some q ∨ w.heap.size ≤ q) := fun q hq => Or.inl hq
  obtain ⟨TE, hTE⟩ : ∃ TE, TE = outF P (n - T0.length) T0 := ⟨_, rfl⟩
  rw [← hTE]
  have HE : Hid (outF P (n - T0.length) T0 = TE) := hTE.symm
  have HPT0 : Hid (Pts n T0) := hT0
  have h0l := hT0.len
  have e2 := entLnLen
  clear h hO hW hL hn hnd hbl hTE hT0
  go_enter Tryz.func67, Tryz.ntmps67
  go_wp2
  go_loopg [3, 4] n (fun g1 v3 _v4 wr => ∃ (T S : List Int) (v' : Value) (Ob' : List Bool) (Wt' L' : List Int) (tO : Option Addr) (tn tc : Nat), v3 = .slice tO tn tc ∧ Hid (T = T0 ++ S) ∧ T.length ≤ n ∧ n - T.length ≤ g1 ∧ Hid (RtC B S0 wr rb a v' g go gw n cvs (fun j => chF P j n) Ob' Wt' L') ∧ Hid (ObR n T Ob') ∧ Hid (WtR P T [] Wt') ∧ Hid (LnOk n L' (rdy P T)) ∧ Hid (Pts n T) ∧ Hid (outF P (n - T.length) T = TE) ∧ Hid (OG (Value.int .i64) w.heap.size 3 wr (.slice tO tn tc) S) ∧ Hid (FrP (RtS rb go gw v) w wr) ∧ Hid (∀ q, v'.ownBlock = some q → v.ownBlock = some q ∨ w.heap.size ≤ q) ∧ Hid (∀ q, (Value.slice tO tn tc).ownBlock = some q → v'.ownBlock ≠ some q))
  case atStart => exact ⟨T0, [], v, Ob, Wt, L, none, 0, 0, rfl, (by show _ = _; simp), h0l, (by omega), H1, HO, HW, HL, HPT0, HE, OG.nil _ _ _, HF, HV0, by intro q hq; simp [Value.ownBlock] at hq⟩
  case round =>
    clear H1 HO HW HL HF HV0 HE HPT0
    obtain ⟨T, S, v', Ob', Wt', L', tO, tn, tc, rfl, HTS, hTn, hg1, H1, HO, HW, HL, HPT, HE, HT, HF, HV, HAP⟩ := hrel
    obtain ⟨ao, cap, hv', hv1, -, -, -⟩ := H1.out.ln.row.sl
    have d5 := H1.out.ln.box.cell
    rcases hm : L'.length with _ | m
    · rw [hm] at hv'
      subst hv'
      have HNR : Hid (∀ i, i < n → ¬ rdy P T i) := fun i hi hr => by
        have := (HL.out.iff (i : Int)).2 ⟨i, hi, rfl, hr⟩
        rw [List.length_eq_zero_iff.1 hm] at this
        simp at this
      have HE2 : Hid (T = TE) := by
        show _ = _
        rw [← HE.out]
        exact (out_end (nxt_none fun i hi hr => HNR.out i (by rw [← HN.out]; exact hi) hr)).symm
      have CL : Hid _ := lnLen ao 0 cap wr
      clear hv1 HE
      go_wp2_with fail
      refine Calls.mono CL.out ?_
      rintro e z ⟨rfl, rfl⟩
      go_wp2
      go_ret
      exact ⟨_, T, S, _, _, _, _, rfl, HE2.out, HTS.out, HT.out, H1.out, HO.out, HW.out, HL.out, HPT.out, HNR.out, HF.out, HV.out⟩
    · rw [hm] at hv' hv1
      obtain ⟨gl, hgl, rfl⟩ := hv1 (by omega)
      subst hv'
      obtain ⟨i, hin, he0, hri, hle, HPO⟩ := HL.out.pop hm
      have hnx : nxtF P T = some i := nxt_some (by rw [HN.out]; exact hin) hri hle
      have HE2 : Hid (outF P (n - (T ++ [(i : Int)]).length) (T ++ [(i : Int)]) = TE) := by
        show _ = _
        rw [← HE.out, out_next (P := P) (T := T) (i := i) (k := n - T.length) (by rw [HN.out]; exact HPT.out) (by rw [HN.out]; exact hin) hnx hri (by rw [HN.out]), List.length_append, List.length_singleton]
        congr 1
      have HP2 : Hid (Pts n (T ++ [(i : Int)])) := HPT.out.snoc hin hri.1
      have hlt : T.length + 1 ≤ n := by have := HP2.out.len; rw [List.length_append, List.length_singleton] at this; exact this
      have HSL : Hid (S.length ≤ n) := by have h1 := HTS.out; show _ ≤ _; rw [h1, List.length_append] at hTn; omega
      have hLn := HL.out.len
      rw [hm] at hLn
      have hc0 : L'[0]? = some (i : Int) := by rw [← he0]; exact getD_some (by omega)
      have hcl := (H1.out.ln.row.cell hc0).1
      have CL : Hid _ := lnLen (some ⟨gl, 0, none⟩) (m + 1) cap wr
      have CP : Hid _ := heapPop B rb gl m cap a _ _ _ L' wr H1.out.ln (by omega)
      have hpos : (0 : Int) < ((m + 1 : Nat) : Int) := by omega
      have hpos2 : ((m + 1 : Nat) : Int) > 0 := by omega
      have HRI : Hid (rdy P T i) := hri
      have HPO2 : Hid (LnOk n (popL L' m) (fun j => rdy P T j ∧ j ≠ i)) := HPO
      clear hm HE HL HPT he0 hri hle hnx HPO hc0
      go_wp2_with fail
      refine Calls.mono CL.out ?_
      rintro e z ⟨rfl, rfl⟩
      clear CL
      go_wp2_with fail
      refine Calls.mono CP.out ?_
      rintro e y ⟨zz, rfl, hy1, hy2⟩
      clear CP hcl d5
      have H2 : Hid (RtC B S0 y rb a (.slice (some ⟨gl, 0, none⟩) m cap) g go gw n cvs (fun j => chF P j n) Ob' Wt' (popL L' m)) := H1.out.line hy1 (fun q hq => Or.inl hq) hy2
      have HFY : Hid (FrP (RtS rb go gw v) w y) := HF.out.tr hy2 (fun q hq e => by
        rcases e with e | e
        · exact Or.inl e
        · rcases HV.out q e with e2 | e2
          · exact Or.inr (Or.inr (Or.inr e2))
          · omega)
      have hrb : rb < w.heap.size := HBV.out rb (Or.inl rfl)
      have hgo : go < w.heap.size := HBV.out go (Or.inr (Or.inl rfl))
      have hgw : gw < w.heap.size := HBV.out gw (Or.inr (Or.inr (Or.inl rfl)))
      have HTY : Hid (OG (Value.int .i64) w.heap.size 3 y (.slice tO tn tc) S) := HT.out.of_blocks fun q hq => hy2.block q (HT.out.lt q hq).2 (fun e => by
        rcases e with e | e
        · have := (HT.out.lt q hq).1; omega
        · exact HAP.out q hq e)
      have CT : Hid _ := takeG B S0 y rb a (.slice (some ⟨gl, 0, none⟩) m cap) g go gw n cvs P Ob' Wt' (popL L' m) T i H2.out (Nat.le_trans hB HFY.out.size) HN.out hb HBL.out HND.out hin HRI.out.1 HO.out HW.out HPO2.out
      clear hy1 hy2 H1 HF HT
      go_wp2_with fail
      refine Calls.mono CT.out ?_
      rintro e x ⟨rfl, v2, Ob2, Wt2, L2, hx1, hx2, hx3, hx4, hx5, hx6⟩
      clear CT
      have HAX : Hid (∀ q, (Value.slice tO tn tc).ownBlock = some q → v2.ownBlock ≠ some q) := fun q hq e => by
        rcases hx6 q e with e2 | e2
        · exact HAP.out q hq e2
        · have := (HTY.out.lt q hq).2; omega
      have HTX : Hid (OG (Value.int .i64) w.heap.size 3 x (.slice tO tn tc) S) := HTY.out.of_blocks fun q hq => hx5.block q (HTY.out.lt q hq).2 (fun e => by
        have := (HTY.out.lt q hq).1
        rcases e with e | e | e | e
        · omega
        · omega
        · omega
        · exact HAP.out q hq e)
      have HFX : Hid (FrP (RtS rb go gw v) w x) := HFY.out.tr hx5 (fun q hq e => by
        rcases e with e | e | e | e
        · exact Or.inl e
        · exact Or.inr (Or.inl e)
        · exact Or.inr (Or.inr (Or.inl e))
        · rcases HV.out q e with e2 | e2
          · exact Or.inr (Or.inr (Or.inr e2))
          · omega)
      have HVX : Hid (∀ q, v2.ownBlock = some q → v.ownBlock = some q ∨ w.heap.size ≤ q) := fun q hq => by
        rcases hx6 q hq with e | e
        · exact HV.out q e
        · exact Or.inr (Nat.le_trans HFY.out.size e)
      have HX1 : Hid (RtC B S0 x rb a v2 g go gw n cvs (fun j => chF P j n) Ob2 Wt2 L2) := hx1
      have HX2 : Hid (ObR n (T ++ [(i : Int)]) Ob2 ∧ WtR P (T ++ [(i : Int)]) [] Wt2 ∧ LnOk n L2 (rdy P (T ++ [(i : Int)]))) := ⟨hx2, hx3, hx4⟩
      obtain ⟨WA, hWA⟩ : ∃ W, W = x.alloc (.cells #[.int .i64 (i : Int)] 3) := ⟨_, rfl⟩
      obtain ⟨gb, hgb⟩ : ∃ g, g = x.heap.size := ⟨_, rfl⟩
      have HBA : Hid (Below x.heap.size x WA) := by show Below _ _ _; rw [hWA]; exact belowB _ _
      have HCB : Hid (WA.cell? ⟨gb, 0, none⟩ = some (.int .i64 (i : Int))) := by show _ = _; rw [hWA, hgb, World.cell?_alloc_at _ _ _ _ rfl]; rfl
      have HWA : Hid (WA = x.alloc (.cells #[.int .i64 (i : Int)] 3)) := hWA
      have HGB : Hid (gb = x.heap.size) := hgb
      clear hx1 hx2 hx3 hx4 hx5 hx6 hWA hgb H2 HFY HTY HV HAP HO HW
      go_wp2_with (at_builtin; rw [← HWA.out, ← HGB.out]; refine wpList_pushD _ (fun _ => rfl) rfl _ _ 23 rfl w.heap.size 3 i0 (.int .i64 0) 8 Tryz.underlying23 hi hz0 hz1 hz2 rfl _ S rfl (HTX.out.below HBA.out) gb (i : Int) rfl HCB.out (by have := HSL.out; unfold maxLen; omega) (by have := HSL.out; omega) (Nat.le_trans HFX.out.size HBA.out.size) ?_)
      intro ng tm ncap W2 ho hg3 hng _
      have hfr : FrP (fun q => (Value.slice tO tn tc).ownBlock = some q) x W2 := (FrP.of_below HBA.out).tr (FrP.of_grown hg3) (fun q _ e => e)
      have HR2 : Hid (RtC B S0 W2 rb a v2 g go gw n cvs (fun j => chF P j n) Ob2 Wt2 L2) := HX1.out.frame hfr (fun q hq => by
        have := (HTX.out.lt q hq).1
        exact ⟨fun hs => by have := HSS.out q hs; omega, by omega, by omega, by omega, HAX.out q hq⟩)
      have HF2 : Hid (FrP (RtS rb go gw v) w W2) := HFX.out.tr hfr (fun q hq e => by have := (HTX.out.lt q e).1; omega)
      have HA2 : Hid (∀ q, (Value.slice (some ⟨ng, 0, none⟩) tm ncap).ownBlock = some q → v2.ownBlock ≠ some q) := fun q hq e => by
        have e1 : ng = q := by simpa [Value.ownBlock] using hq
        subst e1
        rcases hng with e2 | e2
        · exact HAX.out _ e2 e
        · have := (HX1.out.ln.row.lt ng e).2
          have := HBA.out.size
          omega
      have HO2 : Hid (OG (Value.int .i64) w.heap.size 3 W2 (.slice (some ⟨ng, 0, none⟩) tm ncap) (S ++ [(i : Int)])) := ho
      clear hfr ho hg3 hng HX1 HFX HTX HAX HBA HCB HWA HGB
      go_wp2
      go_roundg (n - (T.length + 1))
      case measure => omega
      case rel => exact ⟨T ++ [(i : Int)], S ++ [(i : Int)], v2, Ob2, Wt2, L2, _, _, _, rfl, (by show _ = _; rw [HTS.out, List.append_assoc]), by simp; omega, by simp, HR2, HX2.out.1, HX2.out.2.1, HX2.out.2.2, HP2, HE2, HO2, HF2, HVX, HA2⟩
end Go.Proofs.YtcoiapgfaibkgabGreat

/-
  Proved here: package dag's drain: the points that can be put out, in order.
  Proved here: package dag's drain, from wherever it begins, and what is left behind it.
  Proved here: package dag's steps: how far points are from one, as far as the shortest way back goes.
  Proved here, plain mathematics: the way that is read off a search: each point on it is one step nearer.
  Proved here: an append of one number to a row of the call's own, and what of the old row can still be read behind it.
  Proved here: package dag's back: the shortest way from a point back to it.
-/
import Derived.Test.YthdpomgpcblpeaaGreatDagKAll
import Derived.Test.YthdpomgpcblpeaaGreatDagK2All
import Derived.Test.YthdpomgpcblpeaaGreatDagMpAll
namespace Go.Proofs.YthdpomgpcblpeaaGreat
set_option linter.unusedVariables false
open Go.RowKit
theorem RtC.frame {B : Nat} {S X : Nat → Prop} {w w' : World} {rb : Nat} {a v : Value} {g go gw n : Nat} {cvs : List Value} {C : Nat → List Int} {Ob : List Bool} {Wt L : List Int} (h : RtC B S w rb a v g go gw n cvs C Ob Wt L) (hf : FrP X w w') (hx : ∀ q, X q → ¬ S q ∧ q ≠ rb ∧ q ≠ go ∧ q ≠ gw ∧ v.ownBlock ≠ some q) : RtC B S w' rb a v g go gw n cvs C Ob Wt L := by
  have hs : ∀ q, S q → w'.heap[q]? = w.heap[q]? := fun q hq => hf.block q (h.sS q hq) (fun e => (hx q e).1 hq)
  refine ⟨⟨by unfold RsC; rw [hf.block rb h.ln.lt (fun e => (hx rb e).2.1 rfl)]; exact h.ln.box, h.ln.row.of_blocks fun q hq => hf.block q (h.ln.row.lt q hq).2 (fun e => (hx q e).2.2.2.2 hq)⟩, h.row.of_blocks fun q hq => hs q ?_, fun j u hu => (h.inn j u hu).of_blocks fun q hq => hs q (h.own j u hu q hq), h.own, h.gS, fun q hq => Nat.lt_of_lt_of_le (h.sS q hq) hf.size, h.out.of_blocks fun q hq => hf.block q (h.out.lt q hq).2 (fun e => ?_), h.wts.of_blocks fun q hq => hf.block q (h.wts.lt q hq).2 (fun e => ?_), h.nS, h.vw, h.hB⟩
  · have e1 : g = q := by simpa [Value.ownBlock] using hq
    rw [← e1]; exact h.gS
  · have e1 : go = q := by simpa [Value.ownBlock] using hq
    exact (hx q e).2.2.1 e1.symm
  · have e1 : gw = q := by simpa [Value.ownBlock] using hq
    exact (hx q e).2.2.2.1 e1.symm
set_option maxRecDepth 100000 in
set_option maxHeartbeats 12800000 in
theorem drainD (B : Nat) (S : Nat → Prop) (w : World) (rb : Nat) (a v : Value) (g go gw n : Nat) (cvs : List Value) (P : List (List Int)) (Ob : List Bool) (Wt L : List Int)
    (h : RtC B S w rb a v g go gw n cvs (fun j => chF P j n) Ob Wt L) (hB : B ≤ w.heap.size) (hn : P.length = n) (hb : n ≤ 100000) (hbl : ∀ i, (P.getD i []).length ≤ 100000) (hnd : ∀ i, (P.getD i []).Nodup)
    (hO : ObR n [] Ob) (hW : WtR P [] [] Wt) (hL : LnOk n L (rdy P [])) :
    Calls Tryz.prog 60 #[.pointer (some ⟨rb, 0, none⟩)] w fun e w' => ∃ tv, e = .returned tv ∧ OG (Value.int .i64) w.heap.size 3 w' tv (outL P) ∧ FrP (RtS rb go gw v) w w' := by
  obtain ⟨i0, hi, hz0, hz1, hz2⟩ := info_parts Tryz.infoI
  have HBV : Hid (∀ q, RtS rb go gw v q → q < w.heap.size) := fun q hq => by
    rcases hq with e | e | e | e
    · rw [e]; exact h.ln.lt
    · rw [e]; exact (h.out.lt go rfl).2
    · rw [e]; exact (h.wts.lt gw rfl).2
    · exact (h.ln.row.lt q e).2
  have HSS : Hid (∀ q, S q → q < w.heap.size) := h.sS
  have H1 : Hid (RtC B S w rb a v g go gw n cvs (fun j => chF P j n) Ob Wt L) := h
  have HO : Hid (ObR n [] Ob) := hO
  have HW : Hid (WtR P [] [] Wt) := hW
  have HL : Hid (LnOk n L (rdy P [])) := hL
  have HN : Hid (P.length = n) := hn
  have HND : Hid (∀ i, (P.getD i []).Nodup) := hnd
  have HBL : Hid (∀ i, (P.getD i []).length ≤ 100000) := hbl
  have HF : Hid (FrP (RtS rb go gw v) w w) := FrP.refl _ _
  have HV0 : Hid (∀ q, v.ownBlock = some q → v.ownBlock = some q ∨ w.heap.size ≤ q) := fun q hq => Or.inl hq
  have HE : Hid (outF P (n - ([] : List Int).length) [] = outL P) := by show _ = _; unfold outL; rw [hn]; rfl
  have e2 := entLnLen
  clear h hO hW hL hn hnd hbl
  go_enter Tryz.func60, Tryz.ntmps60
  go_wp2
  go_loopg [3, 4] n (fun g1 v3 _v4 wr => ∃ (T : List Int) (v' : Value) (Ob' : List Bool) (Wt' L' : List Int) (tO : Option Addr) (tn tc : Nat), v3 = .slice tO tn tc ∧ T.length ≤ n ∧ n - T.length ≤ g1 ∧ Hid (RtC B S wr rb a v' g go gw n cvs (fun j => chF P j n) Ob' Wt' L') ∧ Hid (ObR n T Ob') ∧ Hid (WtR P T [] Wt') ∧ Hid (LnOk n L' (rdy P T)) ∧ Hid (Pts n T) ∧ Hid (outF P (n - T.length) T = outL P) ∧ Hid (OG (Value.int .i64) w.heap.size 3 wr (.slice tO tn tc) T) ∧ Hid (FrP (RtS rb go gw v) w wr) ∧ Hid (∀ q, v'.ownBlock = some q → v.ownBlock = some q ∨ w.heap.size ≤ q) ∧ Hid (∀ q, (Value.slice tO tn tc).ownBlock = some q → v'.ownBlock ≠ some q))
  case atStart => exact ⟨[], v, Ob, Wt, L, none, 0, 0, rfl, by simp, by simp, H1, HO, HW, HL, ⟨List.nodup_nil, by simp⟩, HE, OG.nil _ _ _, HF, HV0, by intro q hq; simp [Value.ownBlock] at hq⟩
  case round =>
    clear H1 HO HW HL HF HV0 HE
    obtain ⟨T, v', Ob', Wt', L', tO, tn, tc, rfl, hTn, hg1, H1, HO, HW, HL, HPT, HE, HT, HF, HV, HAP⟩ := hrel
    obtain ⟨ao, cap, hv', hv1, -, -, -⟩ := H1.out.ln.row.sl
    have d5 := H1.out.ln.box.cell
    rcases hm : L'.length with _ | m
    · rw [hm] at hv'
      subst hv'
      have HE2 : Hid (T = outL P) := by
        show _ = _
        rw [← HE.out]
        refine (out_end (nxt_none fun i hi hr => ?_)).symm
        have := (HL.out.iff (i : Int)).2 ⟨i, by rw [← HN.out]; exact hi, rfl, hr⟩
        rw [List.length_eq_zero_iff.1 hm] at this
        simp at this
      have CL : Hid _ := lnLen ao 0 cap wr
      clear hm hv1 HE HL
      go_wp2_with fail
      refine Calls.mono CL.out ?_
      rintro e z ⟨rfl, rfl⟩
      go_wp2
      go_ret
      exact ⟨_, rfl, by rw [← HE2.out]; exact HT.out, HF.out⟩
    · rw [hm] at hv' hv1
      obtain ⟨gl, hgl, rfl⟩ := hv1 (by omega)
      subst hv'
      obtain ⟨i, hin, he0, hri, hle, HPO⟩ := HL.out.pop hm
      have hnx : nxtF P T = some i := nxt_some (by rw [HN.out]; exact hin) hri hle
      have HE2 : Hid (outF P (n - (T ++ [(i : Int)]).length) (T ++ [(i : Int)]) = outL P) := by
        show _ = _
        rw [← HE.out, out_next (P := P) (T := T) (i := i) (k := n - T.length) (by rw [HN.out]; exact HPT.out) (by rw [HN.out]; exact hin) hnx hri (by rw [HN.out]), List.length_append, List.length_singleton]
        congr 1
      have HP2 : Hid (Pts n (T ++ [(i : Int)])) := HPT.out.snoc hin hri.1
      have hlt : T.length + 1 ≤ n := by have := HP2.out.len; rw [List.length_append, List.length_singleton] at this; exact this
      have hLn := HL.out.len
      rw [hm] at hLn
      have hc0 : L'[0]? = some (i : Int) := by rw [← he0]; exact getD_some (by omega)
      have hcl := (H1.out.ln.row.cell hc0).1
      have CL : Hid _ := lnLen (some ⟨gl, 0, none⟩) (m + 1) cap wr
      have CP : Hid _ := heapPop B rb gl m cap a _ _ _ L' wr H1.out.ln (by omega)
      have hpos : (0 : Int) < ((m + 1 : Nat) : Int) := by omega
      have hpos2 : ((m + 1 : Nat) : Int) > 0 := by omega
      have HRI : Hid (rdy P T i) := hri
      have HPO2 : Hid (LnOk n (popL L' m) (fun j => rdy P T j ∧ j ≠ i)) := HPO
      clear hm HE HL HPT he0 hri hle hnx HPO hc0
      go_wp2_with fail
      refine Calls.mono CL.out ?_
      rintro e z ⟨rfl, rfl⟩
      clear CL
      go_wp2_with fail
      refine Calls.mono CP.out ?_
      rintro e y ⟨zz, rfl, hy1, hy2⟩
      clear CP hcl d5
      have H2 : Hid (RtC B S y rb a (.slice (some ⟨gl, 0, none⟩) m cap) g go gw n cvs (fun j => chF P j n) Ob' Wt' (popL L' m)) := H1.out.line hy1 (fun q hq => Or.inl hq) hy2
      have HFY : Hid (FrP (RtS rb go gw v) w y) := HF.out.tr hy2 (fun q hq e => by
        rcases e with e | e
        · exact Or.inl e
        · rcases HV.out q e with e2 | e2
          · exact Or.inr (Or.inr (Or.inr e2))
          · omega)
      have hrb : rb < w.heap.size := HBV.out rb (Or.inl rfl)
      have hgo : go < w.heap.size := HBV.out go (Or.inr (Or.inl rfl))
      have hgw : gw < w.heap.size := HBV.out gw (Or.inr (Or.inr (Or.inl rfl)))
      have HTY : Hid (OG (Value.int .i64) w.heap.size 3 y (.slice tO tn tc) T) := HT.out.of_blocks fun q hq => hy2.block q (HT.out.lt q hq).2 (fun e => by
        rcases e with e | e
        · have := (HT.out.lt q hq).1; omega
        · exact HAP.out q hq e)
      have CT : Hid _ := takeD B S y rb a (.slice (some ⟨gl, 0, none⟩) m cap) g go gw n cvs P Ob' Wt' (popL L' m) T i H2.out (Nat.le_trans hB HFY.out.size) HN.out hb HBL.out HND.out hin HRI.out HO.out HW.out HPO2.out
      clear hy1 hy2 H1 HF HT
      go_wp2_with fail
      refine Calls.mono CT.out ?_
      rintro e x ⟨rfl, v2, Ob2, Wt2, L2, hx1, hx2, hx3, hx4, hx5, hx6⟩
      clear CT
      have HAX : Hid (∀ q, (Value.slice tO tn tc).ownBlock = some q → v2.ownBlock ≠ some q) := fun q hq e => by
        rcases hx6 q e with e2 | e2
        · exact HAP.out q hq e2
        · have := (HTY.out.lt q hq).2; omega
      have HTX : Hid (OG (Value.int .i64) w.heap.size 3 x (.slice tO tn tc) T) := HTY.out.of_blocks fun q hq => hx5.block q (HTY.out.lt q hq).2 (fun e => by
        have := (HTY.out.lt q hq).1
        rcases e with e | e | e | e
        · omega
        · omega
        · omega
        · exact HAP.out q hq e)
      have HFX : Hid (FrP (RtS rb go gw v) w x) := HFY.out.tr hx5 (fun q hq e => by
        rcases e with e | e | e | e
        · exact Or.inl e
        · exact Or.inr (Or.inl e)
        · exact Or.inr (Or.inr (Or.inl e))
        · rcases HV.out q e with e2 | e2
          · exact Or.inr (Or.inr (Or.inr e2))
          · omega)
      have HVX : Hid (∀ q, v2.ownBlock = some q → v.ownBlock = some q ∨ w.heap.size ≤ q) := fun q hq => by
        rcases hx6 q hq with e | e
        · exact HV.out q e
        · exact Or.inr (Nat.le_trans HFY.out.size e)
      have HX1 : Hid (RtC B S x rb a v2 g go gw n cvs (fun j => chF P j n) Ob2 Wt2 L2) := hx1
      have HX2 : Hid (ObR n (T ++ [(i : Int)]) Ob2 ∧ WtR P (T ++ [(i : Int)]) [] Wt2 ∧ LnOk n L2 (rdy P (T ++ [(i : Int)]))) := ⟨hx2, hx3, hx4⟩
      obtain ⟨WA, hWA⟩ : ∃ W, W = x.alloc (.cells #[.int .i64 (i : Int)] 3) := ⟨_, rfl⟩
      obtain ⟨gb, hgb⟩ : ∃ g, g = x.heap.size := ⟨_, rfl⟩
      have HBA : Hid (Below x.heap.size x WA) := by show Below _ _ _; rw [hWA]; exact belowB _ _
      have HCB : Hid (WA.cell? ⟨gb, 0, none⟩ = some (.int .i64 (i : Int))) := by show _ = _; rw [hWA, hgb, World.cell?_alloc_at _ _ _ _ rfl]; rfl
      have HWA : Hid (WA = x.alloc (.cells #[.int .i64 (i : Int)] 3)) := hWA
      have HGB : Hid (gb = x.heap.size) := hgb
      clear hx1 hx2 hx3 hx4 hx5 hx6 hWA hgb H2 HFY HTY HV HAP HO HW
      go_wp2_with (at_builtin; rw [← HWA.out, ← HGB.out]; refine wpList_pushD _ (fun _ => rfl) rfl _ _ 23 rfl w.heap.size 3 i0 (.int .i64 0) 8 Tryz.underlying23 hi hz0 hz1 hz2 rfl _ T rfl (HTX.out.below HBA.out) gb (i : Int) rfl HCB.out (by unfold maxLen; omega) (by omega) (Nat.le_trans HFX.out.size HBA.out.size) ?_)
      intro ng tm ncap W2 ho hg3 hng _
      have hfr : FrP (fun q => (Value.slice tO tn tc).ownBlock = some q) x W2 := (FrP.of_below HBA.out).tr (FrP.of_grown hg3) (fun q _ e => e)
      have HR2 : Hid (RtC B S W2 rb a v2 g go gw n cvs (fun j => chF P j n) Ob2 Wt2 L2) := HX1.out.frame hfr (fun q hq => by
        have := (HTX.out.lt q hq).1
        exact ⟨fun hs => by have := HSS.out q hs; omega, by omega, by omega, by omega, HAX.out q hq⟩)
      have HF2 : Hid (FrP (RtS rb go gw v) w W2) := HFX.out.tr hfr (fun q hq e => by have := (HTX.out.lt q e).1; omega)
      have HA2 : Hid (∀ q, (Value.slice (some ⟨ng, 0, none⟩) tm ncap).ownBlock = some q → v2.ownBlock ≠ some q) := fun q hq e => by
        have e1 : ng = q := by simpa [Value.ownBlock] using hq
        subst e1
        rcases hng with e2 | e2
        · exact HAX.out _ e2 e
        · have := (HX1.out.ln.row.lt ng e).2
          have := HBA.out.size
          omega
      have HO2 : Hid (OG (Value.int .i64) w.heap.size 3 W2 (.slice (some ⟨ng, 0, none⟩) tm ncap) (T ++ [(i : Int)])) := ho
      clear hfr ho hg3 hng HX1 HFX HTX HAX HBA HCB HWA HGB
      go_wp2
      go_roundg (n - (T.length + 1))
      case measure => omega
      case rel => exact ⟨T ++ [(i : Int)], v2, Ob2, Wt2, L2, _, _, _, rfl, by simp; omega, by simp, HR2, HX2.out.1, HX2.out.2.1, HX2.out.2.2, HP2, HE2, HO2, HF2, HVX, HA2⟩
end Go.Proofs.YthdpomgpcblpeaaGreat

namespace Go.Proofs.YthdpomgpcblpeaaGreat
set_option linter.unusedVariables false
open Go.RowKit
set_option maxRecDepth 100000 in
set_option maxHeartbeats 12800000 in
theorem drainG (B : Nat) (S0 : Nat → Prop) (w : World) (rb : Nat) (a v : Value) (g go gw n : Nat) (cvs : List Value) (P : List (List Int)) (Ob : List Bool) (Wt L T0 : List Int)
    (h : RtC B S0 w rb a v g go gw n cvs (fun j => chF P j n) Ob Wt L) (hB : B ≤ w.heap.size) (hn : P.length = n) (hb : n ≤ 100000) (hbl : ∀ i, (P.getD i []).length ≤ 100000) (hnd : ∀ i, (P.getD i []).Nodup)
    (hO : ObR n T0 Ob) (hW : WtR P T0 [] Wt) (hL : LnOk n L (rdy P T0)) (hT0 : Pts n T0) :
    Calls Tryz.prog 60 #[.pointer (some ⟨rb, 0, none⟩)] w fun e w' => ∃ tv T S v' Ob' Wt' L', e = .returned tv ∧ T = outF P (n - T0.length) T0 ∧ T = T0 ++ S ∧ OG (Value.int .i64) w.heap.size 3 w' tv S ∧ RtC B S0 w' rb a v' g go gw n cvs (fun j => chF P j n) Ob' Wt' L' ∧ ObR n T Ob' ∧ WtR P T [] Wt' ∧ LnOk n L' (rdy P T) ∧ Pts n T ∧ (∀ i, i < n → ¬ rdy P T i) ∧ FrP (RtS rb go gw v) w w' ∧ (∀ q, v'.ownBlock = some q → v.ownBlock = some q ∨ w.heap.size ≤ q) := by
  obtain ⟨i0, hi, hz0, hz1, hz2⟩ := info_parts Tryz.infoI
  have HBV : Hid (∀ q, RtS rb go gw v q → q < w.heap.size) := fun q hq => by
    rcases hq with e | e | e | e
    · rw [e]; exact h.ln.lt
    · rw [e]; exact (h.out.lt go rfl).2
    · rw [e]; exact (h.wts.lt gw rfl).2
    · exact (h.ln.row.lt q e).2
  have HSS : Hid (∀ q, S0 q → q < w.heap.size) := h.sS
  have H1 : Hid (RtC B S0 w rb a v g go gw n cvs (fun j => chF P j n) Ob Wt L) := h
  have HO : Hid (ObR n T0 Ob) := hO
  have HW : Hid (WtR P T0 [] Wt) := hW
  have HL : Hid (LnOk n L (rdy P T0)) := hL
  have HN : Hid (P.length = n) := hn
  have HND : Hid (∀ i, (P.getD i []).Nodup) := hnd
  have HBL : Hid (∀ i, (P.getD i []).length ≤ 100000) := hbl
  have HF : Hid (FrP (RtS rb go gw v) w w) := FrP.refl _ _
  have HV0 : Hid (∀ q, v.ownBlock = some q → v.ownBlock = some q ∨ w.heap.size ≤ q) := fun q hq => Or.inl hq
  obtain ⟨TE, hTE⟩ : ∃ TE, TE = outF P (n - T0.length) T0 := ⟨_, rfl⟩
  rw [← hTE]
  have HE : Hid (outF P (n - T0.length) T0 = TE) := hTE.symm
  have HPT0 : Hid (Pts n T0) := hT0
  have h0l := hT0.len
  have e2 := entLnLen
  clear h hO hW hL hn hnd hbl hTE hT0
  go_enter Tryz.func60, Tryz.ntmps60
  go_wp2
  go_loopg [3, 4] n (fun g1 v3 _v4 wr => ∃ (T S : List Int) (v' : Value) (Ob' : List Bool) (Wt' L' : List Int) (tO : Option Addr) (tn tc : Nat), v3 = .slice tO tn tc ∧ Hid (T = T0 ++ S) ∧ T.length ≤ n ∧ n - T.length ≤ g1 ∧ Hid (RtC B S0 wr rb a v' g go gw n cvs (fun j => chF P j n) Ob' Wt' L') ∧ Hid (ObR n T Ob') ∧ Hid (WtR P T [] Wt') ∧ Hid (LnOk n L' (rdy P T)) ∧ Hid (Pts n T) ∧ Hid (outF P (n - T.length) T = TE) ∧ Hid (OG (Value.int .i64) w.heap.size 3 wr (.slice tO tn tc) S) ∧ Hid (FrP (RtS rb go gw v) w wr) ∧ Hid (∀ q, v'.ownBlock = some q → v.ownBlock = some q ∨ w.heap.size ≤ q) ∧ Hid (∀ q, (Value.slice tO tn tc).ownBlock = some q → v'.ownBlock ≠ some q))
  case atStart => exact ⟨T0, [], v, Ob, Wt, L, none, 0, 0, rfl, (by show _ = _; simp), h0l, (by omega), H1, HO, HW, HL, HPT0, HE, OG.nil _ _ _, HF, HV0, by intro q hq; simp [Value.ownBlock] at hq⟩
  case round =>
    clear H1 HO HW HL HF HV0 HE HPT0
    obtain ⟨T, S, v', Ob', Wt', L', tO, tn, tc, rfl, HTS, hTn, hg1, H1, HO, HW, HL, HPT, HE, HT, HF, HV, HAP⟩ := hrel
    obtain ⟨ao, cap, hv', hv1, -, -, -⟩ := H1.out.ln.row.sl
    have d5 := H1.out.ln.box.cell
    rcases hm : L'.length with _ | m
    · rw [hm] at hv'
      subst hv'
      have HNR : Hid (∀ i, i < n → ¬ rdy P T i) := fun i hi hr => by
        have := (HL.out.iff (i : Int)).2 ⟨i, hi, rfl, hr⟩
        rw [List.length_eq_zero_iff.1 hm] at this
        simp at this
      have HE2 : Hid (T = TE) := by
        show _ = _
        rw [← HE.out]
        exact (out_end (nxt_none fun i hi hr => HNR.out i (by rw [← HN.out]; exact hi) hr)).symm
      have CL : Hid _ := lnLen ao 0 cap wr
      clear hv1 HE
      go_wp2_with fail
      refine Calls.mono CL.out ?_
      rintro e z ⟨rfl, rfl⟩
      go_wp2
      go_ret
      exact ⟨_, T, S, _, _, _, _, rfl, HE2.out, HTS.out, HT.out, H1.out, HO.out, HW.out, HL.out, HPT.out, HNR.out, HF.out, HV.out⟩
    · rw [hm] at hv' hv1
      obtain ⟨gl, hgl, rfl⟩ := hv1 (by omega)
      subst hv'
      obtain ⟨i, hin, he0, hri, hle, HPO⟩ := HL.out.pop hm
      have hnx : nxtF P T = some i := nxt_some (by rw [HN.out]; exact hin) hri hle
      have HE2 : Hid (outF P (n - (T ++ [(i : Int)]).length) (T ++ [(i : Int)]) = TE) := by
        show _ = _
        rw [← HE.out, out_next (P := P) (T := T) (i := i) (k := n - T.length) (by rw [HN.out]; exact HPT.out) (by rw [HN.out]; exact hin) hnx hri (by rw [HN.out]), List.length_append, List.length_singleton]
        congr 1
      have HP2 : Hid (Pts n (T ++ [(i : Int)])) := HPT.out.snoc hin hri.1
      have hlt : T.length + 1 ≤ n := by have := HP2.out.len; rw [List.length_append, List.length_singleton] at this; exact this
      have HSL : Hid (S.length ≤ n) := by have h1 := HTS.out; show _ ≤ _; rw [h1, List.length_append] at hTn; omega
      have hLn := HL.out.len
      rw [hm] at hLn
      have hc0 : L'[0]? = some (i : Int) := by rw [← he0]; exact getD_some (by omega)
      have hcl := (H1.out.ln.row.cell hc0).1
      have CL : Hid _ := lnLen (some ⟨gl, 0, none⟩) (m + 1) cap wr
      have CP : Hid _ := heapPop B rb gl m cap a _ _ _ L' wr H1.out.ln (by omega)
      have hpos : (0 : Int) < ((m + 1 : Nat) : Int) := by omega
      have hpos2 : ((m + 1 : Nat) : Int) > 0 := by omega
      have HRI : Hid (rdy P T i) := hri
      have HPO2 : Hid (LnOk n (popL L' m) (fun j => rdy P T j ∧ j ≠ i)) := HPO
      clear hm HE HL HPT he0 hri hle hnx HPO hc0
      go_wp2_with fail
      refine Calls.mono CL.out ?_
      rintro e z ⟨rfl, rfl⟩
      clear CL
      go_wp2_with fail
      refine Calls.mono CP.out ?_
      rintro e y ⟨zz, rfl, hy1, hy2⟩
      clear CP hcl d5
      have H2 : Hid (RtC B S0 y rb a (.slice (some ⟨gl, 0, none⟩) m cap) g go gw n cvs (fun j => chF P j n) Ob' Wt' (popL L' m)) := H1.out.line hy1 (fun q hq => Or.inl hq) hy2
      have HFY : Hid (FrP (RtS rb go gw v) w y) := HF.out.tr hy2 (fun q hq e => by
        rcases e with e | e
        · exact Or.inl e
        · rcases HV.out q e with e2 | e2
          · exact Or.inr (Or.inr (Or.inr e2))
          · omega)
      have hrb : rb < w.heap.size := HBV.out rb (Or.inl rfl)
      have hgo : go < w.heap.size := HBV.out go (Or.inr (Or.inl rfl))
      have hgw : gw < w.heap.size := HBV.out gw (Or.inr (Or.inr (Or.inl rfl)))
      have HTY : Hid (OG (Value.int .i64) w.heap.size 3 y (.slice tO tn tc) S) := HT.out.of_blocks fun q hq => hy2.block q (HT.out.lt q hq).2 (fun e => by
        rcases e with e | e
        · have := (HT.out.lt q hq).1; omega
        · exact HAP.out q hq e)
      have CT : Hid _ := takeG B S0 y rb a (.slice (some ⟨gl, 0, none⟩) m cap) g go gw n cvs P Ob' Wt' (popL L' m) T i H2.out (Nat.le_trans hB HFY.out.size) HN.out hb HBL.out HND.out hin HRI.out.1 HO.out HW.out HPO2.out
      clear hy1 hy2 H1 HF HT
      go_wp2_with fail
      refine Calls.mono CT.out ?_
      rintro e x ⟨rfl, v2, Ob2, Wt2, L2, hx1, hx2, hx3, hx4, hx5, hx6⟩
      clear CT
      have HAX : Hid (∀ q, (Value.slice tO tn tc).ownBlock = some q → v2.ownBlock ≠ some q) := fun q hq e => by
        rcases hx6 q e with e2 | e2
        · exact HAP.out q hq e2
        · have := (HTY.out.lt q hq).2; omega
      have HTX : Hid (OG (Value.int .i64) w.heap.size 3 x (.slice tO tn tc) S) := HTY.out.of_blocks fun q hq => hx5.block q (HTY.out.lt q hq).2 (fun e => by
        have := (HTY.out.lt q hq).1
        rcases e with e | e | e | e
        · omega
        · omega
        · omega
        · exact HAP.out q hq e)
      have HFX : Hid (FrP (RtS rb go gw v) w x) := HFY.out.tr hx5 (fun q hq e => by
        rcases e with e | e | e | e
        · exact Or.inl e
        · exact Or.inr (Or.inl e)
        · exact Or.inr (Or.inr (Or.inl e))
        · rcases HV.out q e with e2 | e2
          · exact Or.inr (Or.inr (Or.inr e2))
          · omega)
      have HVX : Hid (∀ q, v2.ownBlock = some q → v.ownBlock = some q ∨ w.heap.size ≤ q) := fun q hq => by
        rcases hx6 q hq with e | e
        · exact HV.out q e
        · exact Or.inr (Nat.le_trans HFY.out.size e)
      have HX1 : Hid (RtC B S0 x rb a v2 g go gw n cvs (fun j => chF P j n) Ob2 Wt2 L2) := hx1
      have HX2 : Hid (ObR n (T ++ [(i : Int)]) Ob2 ∧ WtR P (T ++ [(i : Int)]) [] Wt2 ∧ LnOk n L2 (rdy P (T ++ [(i : Int)]))) := ⟨hx2, hx3, hx4⟩
      obtain ⟨WA, hWA⟩ : ∃ W, W = x.alloc (.cells #[.int .i64 (i : Int)] 3) := ⟨_, rfl⟩
      obtain ⟨gb, hgb⟩ : ∃ g, g = x.heap.size := ⟨_, rfl⟩
      have HBA : Hid (Below x.heap.size x WA) := by show Below _ _ _; rw [hWA]; exact belowB _ _
      have HCB : Hid (WA.cell? ⟨gb, 0, none⟩ = some (.int .i64 (i : Int))) := by show _ = _; rw [hWA, hgb, World.cell?_alloc_at _ _ _ _ rfl]; rfl
      have HWA : Hid (WA = x.alloc (.cells #[.int .i64 (i : Int)] 3)) := hWA
      have HGB : Hid (gb = x.heap.size) := hgb
      clear hx1 hx2 hx3 hx4 hx5 hx6 hWA hgb H2 HFY HTY HV HAP HO HW
      go_wp2_with (at_builtin; rw [← HWA.out, ← HGB.out]; refine wpList_pushD _ (fun _ => rfl) rfl _ _ 23 rfl w.heap.size 3 i0 (.int .i64 0) 8 Tryz.underlying23 hi hz0 hz1 hz2 rfl _ S rfl (HTX.out.below HBA.out) gb (i : Int) rfl HCB.out (by have := HSL.out; unfold maxLen; omega) (by have := HSL.out; omega) (Nat.le_trans HFX.out.size HBA.out.size) ?_)
      intro ng tm ncap W2 ho hg3 hng _
      have hfr : FrP (fun q => (Value.slice tO tn tc).ownBlock = some q) x W2 := (FrP.of_below HBA.out).tr (FrP.of_grown hg3) (fun q _ e => e)
      have HR2 : Hid (RtC B S0 W2 rb a v2 g go gw n cvs (fun j => chF P j n) Ob2 Wt2 L2) := HX1.out.frame hfr (fun q hq => by
        have := (HTX.out.lt q hq).1
        exact ⟨fun hs => by have := HSS.out q hs; omega, by omega, by omega, by omega, HAX.out q hq⟩)
      have HF2 : Hid (FrP (RtS rb go gw v) w W2) := HFX.out.tr hfr (fun q hq e => by have := (HTX.out.lt q e).1; omega)
      have HA2 : Hid (∀ q, (Value.slice (some ⟨ng, 0, none⟩) tm ncap).ownBlock = some q → v2.ownBlock ≠ some q) := fun q hq e => by
        have e1 : ng = q := by simpa [Value.ownBlock] using hq
        subst e1
        rcases hng with e2 | e2
        · exact HAX.out _ e2 e
        · have := (HX1.out.ln.row.lt ng e).2
          have := HBA.out.size
          omega
      have HO2 : Hid (OG (Value.int .i64) w.heap.size 3 W2 (.slice (some ⟨ng, 0, none⟩) tm ncap) (S ++ [(i : Int)])) := ho
      clear hfr ho hg3 hng HX1 HFX HTX HAX HBA HCB HWA HGB
      go_wp2
      go_roundg (n - (T.length + 1))
      case measure => omega
      case rel => exact ⟨T ++ [(i : Int)], S ++ [(i : Int)], v2, Ob2, Wt2, L2, _, _, _, rfl, (by show _ = _; rw [HTS.out, List.append_assoc]), by simp; omega, by simp, HR2, HX2.out.1, HX2.out.2.1, HX2.out.2.2, HP2, HE2, HO2, HF2, HVX, HA2⟩
end Go.Proofs.YthdpomgpcblpeaaGreat

namespace Go.Proofs.YthdpomgpcblpeaaGreat
set_option linter.unusedVariables false
open Go.RowKit
/-- What the search leaves. -/
def StE (P : List (List Int)) (T : List Int) (s most : Nat) (w w' : World) (e : Ending) : Prop :=
  (∃ (b L nn : Nat) (M : Int → Option Int), e = .returned (.tuple #[.map (some b), .int .i64 L]) ∧ MpI w' b nn M ∧ MinC P T s L ∧ L ≤ most ∧ L ≤ 100001 ∧ w.heap.size ≤ b ∧ ∀ c : Nat, c < L → ∀ x : Int, M x = some (c : Int) ↔ ∃ v : Nat, x = (v : Int) ∧ v < P.length ∧ (v : Int) ∉ T ∧ Dst P T s c v)
  ∨ (e = .returned (.tuple #[.map none, .int .i64 0]) ∧ ∀ m, 1 ≤ m → m ≤ most → ¬ Wk P T s m s)
theorem RtC.belowD {B : Nat} {S : Nat → Prop} {w w' : World} {rb : Nat} {a v : Value} {g go gw n : Nat} {cvs : List Value} {C : Nat → List Int} {Ob : List Bool} {Wt L : List Int} (h : RtC B S w rb a v g go gw n cvs C Ob Wt L) (hb : Below w.heap.size w w') : RtC B S w' rb a v g go gw n cvs C Ob Wt L :=
  h.frame (X := fun _ => False) (FrP.of_below hb) (fun q e => e.elim)
end Go.Proofs.YthdpomgpcblpeaaGreat

namespace Go.Proofs.YthdpomgpcblpeaaGreat
set_option linter.unusedVariables false
/-- The points behind the first. -/
def wyF (P : List (List Int)) (M : Int → Option Int) : Nat → Int → List Int
  | 0, _ => []
  | k + 1, cur => lsF M ((k + 1 : Nat) : Int) (P.getD cur.toNat []) :: wyF P M k (lsF M ((k + 1 : Nat) : Int) (P.getD cur.toNat []))
theorem wyF_len (P : List (List Int)) (M : Int → Option Int) : ∀ (k : Nat) (c : Int), (wyF P M k c).length = k
  | 0, _ => rfl
  | k + 1, c => by unfold wyF; rw [List.length_cons, wyF_len P M k]
theorem wy_step (P : List (List Int)) (M : Int → Option Int) : ∀ (k : Nat) (c : Int) (j : Nat) (x : Int), j < k → (c :: wyF P M k c)[j]? = some x → (c :: wyF P M k c)[j + 1]? = some (lsF M ((k - j : Nat) : Int) (P.getD x.toNat []))
  | 0, _, _, _, h, _ => by omega
  | k + 1, c, 0, x, _, h => by
    simp at h; subst h
    simp [wyF]
  | k + 1, c, j + 1, x, h, hx => by
    have e1 : (c :: wyF P M (k + 1) c)[j + 1]? = (wyF P M (k + 1) c)[j]? := by simp
    rw [e1] at hx
    unfold wyF at hx
    have := wy_step P M k _ j x (by omega) hx
    have e2 : (c :: wyF P M (k + 1) c)[j + 1 + 1]? = (wyF P M (k + 1) c)[j + 1]? := by simp
    rw [e2]
    unfold wyF
    rw [this]
    congr 3
    omega
/-- What leastAt finds. -/
theorem lsF_spec {M : Int → Option Int} {left : Int} {L : List Int} (hL : ∀ x ∈ L, 0 ≤ x) (h : ∃ x ∈ L, M x = some left) : lsF M left L ∈ L ∧ M (lsF M left L) = some left ∧ ∀ x ∈ L, M x = some left → lsF M left L ≤ x := by
  have key : ∀ (L pre : List Int) (a : Int), (∀ x ∈ L, 0 ≤ x) → (∀ x ∈ pre, 0 ≤ x) → ((a = -1 ∧ ∀ x ∈ pre, M x ≠ some left) ∨ (a ∈ pre ∧ M a = some left ∧ ∀ x ∈ pre, M x = some left → a ≤ x)) →
      (L.foldl (lsS M left) a = -1 ∧ ∀ x ∈ pre ++ L, M x ≠ some left) ∨ (L.foldl (lsS M left) a ∈ pre ++ L ∧ M (L.foldl (lsS M left) a) = some left ∧ ∀ x ∈ pre ++ L, M x = some left → L.foldl (lsS M left) a ≤ x) := by
    intro L
    induction L with
    | nil => intro pre a _ _ h; rw [List.append_nil]; exact h
    | cons y L ih =>
      intro pre a hL hp h
      have hL2 : ∀ x ∈ L, 0 ≤ x := fun x hx => hL x (List.mem_cons_of_mem _ hx)
      have hp2 : ∀ x ∈ pre ++ [y], 0 ≤ x := fun x hx => by
        rcases List.mem_append.1 hx with e | e
        · exact hp x e
        · rw [List.mem_singleton] at e; subst e; exact hL x (by simp)
      have hy0 := hL y (by simp)
      have e1 : pre ++ y :: L = pre ++ [y] ++ L := by simp
      rw [e1, List.foldl_cons]
      refine ih (pre ++ [y]) (lsS M left a y) hL2 hp2 ?_
      unfold lsS
      rcases h with ⟨ha, hno⟩ | ⟨ha, hMa, hle⟩
      · by_cases hy : M y = some left
        · rw [if_pos ⟨hy, Or.inl (by omega)⟩]
          exact Or.inr ⟨by simp, hy, fun x hx hMx => by
            rcases List.mem_append.1 hx with e | e
            · exact absurd hMx (hno x e)
            · rw [List.mem_singleton] at e; omega⟩
        · rw [if_neg (fun h => hy h.1)]
          exact Or.inl ⟨ha, fun x hx => by
            rcases List.mem_append.1 hx with e | e
            · exact hno x e
            · rw [List.mem_singleton] at e; rw [e]; exact hy⟩
      · have ha0 := hp a ha
        by_cases hy : M y = some left ∧ (a < 0 ∨ y < a)
        · rw [if_pos hy]
          exact Or.inr ⟨by simp, hy.1, fun x hx hMx => by
            rcases List.mem_append.1 hx with e | e
            · have := hle x e hMx; omega
            · rw [List.mem_singleton] at e; omega⟩
        · rw [if_neg hy]
          exact Or.inr ⟨List.mem_append_left _ ha, hMa, fun x hx hMx => by
            rcases List.mem_append.1 hx with e | e
            · exact hle x e hMx
            · rw [List.mem_singleton] at e
              subst e
              rcases Int.lt_or_le x a with e2 | e2
              · exact absurd ⟨hMx, Or.inr e2⟩ hy
              · exact e2⟩
  rcases key L [] (-1) hL (by simp) (Or.inl ⟨rfl, by simp⟩) with ⟨_, h2⟩ | h2
  · obtain ⟨x, hx, hMx⟩ := h
    exact absurd hMx (h2 x (by simpa using hx))
  · rw [List.nil_append] at h2; exact h2
theorem lsF_congr {M M' : Int → Option Int} {left : Int} {L : List Int} (h : ∀ x ∈ L, M x = some left ↔ M' x = some left) : lsF M left L = lsF M' left L := by
  unfold lsF
  have : ∀ (L : List Int) (a : Int), (∀ x ∈ L, M x = some left ↔ M' x = some left) → L.foldl (lsS M left) a = L.foldl (lsS M' left) a := by
    intro L
    induction L with
    | nil => intro a _; rfl
    | cons y L ih =>
      intro a h
      rw [List.foldl_cons, List.foldl_cons]
      have e : lsS M left a y = lsS M' left a y := by
        unfold lsS
        have := h y (by simp)
        simp only [this]
      rw [e]
      exact ih _ (fun x hx => h x (List.mem_cons_of_mem _ hx))
  exact this L _ h
theorem wyF_congr {P : List (List Int)} {M M' : Int → Option Int} : ∀ (k : Nat) (c : Int), (∀ d : Nat, d ≤ k → ∀ x, M x = some (d : Int) ↔ M' x = some (d : Int)) → wyF P M k c = wyF P M' k c
  | 0, _, _ => rfl
  | k + 1, c, h => by
    unfold wyF
    rw [lsF_congr (fun x _ => h (k + 1) (Nat.le_refl _) x), wyF_congr k _ (fun d hd => h d (by omega))]
/-- Just so far as a point is. -/
def MxP (P : List (List Int)) (T : List Int) (s : Nat) (M : Int → Option Int) (L : Nat) : Prop := ∀ c : Nat, c < L → ∀ x : Int, M x = some (c : Int) ↔ ∃ v : Nat, x = (v : Int) ∧ v < P.length ∧ (v : Int) ∉ T ∧ Dst P T s c v
/-- Each point of the way. -/
theorem way_at {P : List (List Int)} {T : List Int} {s L : Nat} {M : Int → Option Int} (hP : WfP P) (hs : s < P.length) (hsT : (s : Int) ∉ T) (hL : MinC P T s L) (hM : MxP P T s M L) : ∀ j, j < L → ∃ v : Nat, ((s : Int) :: wyF P M (L - 1) (s : Int))[j]? = some (v : Int) ∧ v < P.length ∧ (v : Int) ∉ T ∧ (j = 0 → v = s) ∧ (0 < j → Dst P T s (L - j) v) := by
  intro j
  induction j with
  | zero => intro _; exact ⟨s, rfl, hs, hsT, fun _ => rfl, fun h => by omega⟩
  | succ j ih =>
    intro hj
    obtain ⟨v, h1, h2, h3, h4, h5⟩ := ih (by omega)
    have hst := wy_step P M (L - 1) (s : Int) j (v : Int) (by omega) h1
    rw [Int.toNat_natCast] at hst
    -- a parent that is one step nearer
    have hw : Wk P T s (L - j) v := by
      rcases Nat.eq_zero_or_pos j with e | e
      · subst e; rw [h4 rfl]; exact hL.2.1
      · exact (h5 e).1
    have hmin : ∀ m, 1 ≤ m → m < L - j → ¬ Wk P T s m v := by
      rcases Nat.eq_zero_or_pos j with e | e
      · subst e; rw [h4 rfl]; exact hL.2.2
      · exact fun m _ h => (h5 e).2 m h
    have e1 : L - j = (L - (j + 1)) + 1 := by omega
    rw [e1] at hw
    obtain ⟨p, hp, hpT, hwp⟩ := hw
    obtain ⟨p', e2, hp'⟩ := hP v _ hp
    have e3 : p = p' := by omega
    subst e3
    have hD : Dst P T s (L - (j + 1)) p := ⟨hwp, fun m hm hw2 => hmin (m + 1) (by omega) (by omega) ⟨p, hp, hpT, hw2⟩⟩
    have hMp : M (p : Int) = some ((L - (j + 1) : Nat) : Int) := (hM _ (by omega) _).2 ⟨p, rfl, hp', hpT, hD⟩
    have e4 : L - 1 - j = L - (j + 1) := by omega
    rw [e4] at hst
    obtain ⟨s1, s2, _⟩ := lsF_spec (M := M) (left := ((L - (j + 1) : Nat) : Int)) (L := P.getD v []) (fun x hx => by obtain ⟨q, e, _⟩ := hP v x hx; omega) ⟨_, hp, hMp⟩
    obtain ⟨q, e5, hq1, hq2, hq3⟩ := (hM _ (by omega) _).1 s2
    refine ⟨q, by rw [hst, e5], hq1, hq2, fun h => by omega, fun _ => hq3⟩
/-- The way as the document would have it: how far points are, whatever was looked at. -/
noncomputable def Mc (P : List (List Int)) (T : List Int) (s : Nat) (x : Int) : Option Int :=
  open Classical in if h : ∃ d v : Nat, x = (v : Int) ∧ v < P.length ∧ (v : Int) ∉ T ∧ Dst P T s d v then some ((Classical.choose h : Nat) : Int) else none
theorem Mc_iff {P : List (List Int)} {T : List Int} {s c : Nat} {x : Int} : Mc P T s x = some (c : Int) ↔ ∃ v : Nat, x = (v : Int) ∧ v < P.length ∧ (v : Int) ∉ T ∧ Dst P T s c v := by
  unfold Mc
  constructor
  · intro h
    split at h
    · rename_i hd
      obtain ⟨v, h1, h2, h3, h4⟩ := Classical.choose_spec hd
      simp only [Option.some.injEq] at h
      have e : Classical.choose hd = c := by omega
      rw [e] at h4
      exact ⟨v, h1, h2, h3, h4⟩
    · exact absurd h (by simp)
  · rintro ⟨v, h1, h2, h3, h4⟩
    have hd : ∃ d v : Nat, x = (v : Int) ∧ v < P.length ∧ (v : Int) ∉ T ∧ Dst P T s d v := ⟨c, v, h1, h2, h3, h4⟩
    rw [dif_pos hd]
    obtain ⟨v', g1, g2, g3, g4⟩ := Classical.choose_spec hd
    have e : v = v' := by omega
    subst e
    rw [h4.uniq g4]
theorem Mc_mx (P : List (List Int)) (T : List Int) (s L : Nat) : MxP P T s (Mc P T s) L := fun _ _ _ => Mc_iff
/-- The shortest way back, if it has at most so many points. -/
noncomputable def bkF (P : List (List Int)) (T : List Int) (s most : Nat) : Option (List Int) :=
  open Classical in if h : ∃ L, MinC P T s L ∧ L ≤ most then some ((s : Int) :: wyF P (Mc P T s) (Classical.choose h - 1) (s : Int)) else none
theorem bkF_some {P : List (List Int)} {T : List Int} {s most L : Nat} {M : Int → Option Int} (hL : MinC P T s L) (hm : L ≤ most) (hM : MxP P T s M L) : bkF P T s most = some ((s : Int) :: wyF P M (L - 1) (s : Int)) := by
  have h : ∃ L, MinC P T s L ∧ L ≤ most := ⟨L, hL, hm⟩
  unfold bkF
  rw [dif_pos h]
  have e := (Classical.choose_spec h).1.uniq hL
  rw [e]
  congr 2
  have h1 := hL.1
  exact wyF_congr _ _ (fun d hd x => (Mc_mx P T s L d (by omega) x).trans (hM d (by omega) x).symm)
theorem bkF_none {P : List (List Int)} {T : List Int} {s most : Nat} (h : ∀ m, 1 ≤ m → m ≤ most → ¬ Wk P T s m s) : bkF P T s most = none := by
  unfold bkF
  rw [dif_neg]
  rintro ⟨L, hL, hm⟩
  exact h L hL.1 hm hL.2.1
end Go.Proofs.YthdpomgpcblpeaaGreat

namespace Go.Proofs.YthdpomgpcblpeaaGreat
set_option linter.unusedVariables false
open Go.RowKit
theorem wp_pushK {P : Program} {w : World} {o : Oper} {a : Act} {K : Act → World → Prop} {Q : Exit → Act → World → Prop} (s x : Operand) (t : TypeId) (hop : o.op = .call { callee := .builtin .append, args := #[s, x], argTypes := #[t, t] })
    (B e : Nat) (i : TypeInfo) (h1 : P.underlying t = some (.slice e)) (h2 : P.info? e = some i) (h3 : i.zero = some (.int .i64 0)) (h4 : i.size = 1) (h5 : i.bytes = 8)
    (g n cap : Nat) (L : List Int) (hs : a.eval s = .slice (some ⟨g, 0, none⟩) n cap) (hown : OG (Value.int .i64) B e w (.slice (some ⟨g, 0, none⟩) n cap) L) (gb : Nat) (z : Int) (hx : a.eval x = .slice (some ⟨gb, 0, none⟩) 1 1) (cb : w.cell? ⟨gb, 0, none⟩ = some (.int .i64 z)) (hl : L.length ≤ 1000000) (hB : B ≤ w.heap.size)
    (hK : ∀ ng nc w', OG (Value.int .i64) B e w' (.slice (some ⟨ng, 0, none⟩) (n + 1) nc) (L ++ [z]) → w.grownBy w' (some g) → (ng = g ∨ ng = w.heap.size) → (∀ i, i < n → w'.cell? ⟨g, i, none⟩ = w.cell? ⟨g, i, none⟩) → K (a.put o.dst (.slice (some ⟨ng, 0, none⟩) (n + 1) nc)) w') : o.wp P a w K Q := by
  have hn := hown.rg.len
  rcases hown.2 with ⟨e1, _⟩ | ⟨g', cap', cur, e1, hb1, hb2, hb3, hb4, hb5, hb6⟩
  · simp at e1
  · simp only [Value.slice.injEq, Option.some.injEq, Addr.mk.injEq, and_true] at e1
    obtain ⟨rfl, hn2, rfl⟩ := e1
    rw [Nat.mul_one] at hb5 hb6
    rw [hn] at hb3 hb6
    have fin : ∀ ng nc w', (Builtin.append_ #[t, t] o.type #[.slice (some ⟨g, 0, none⟩) n cap, .slice (some ⟨gb, 0, none⟩) 1 1]).run P w = .ok (.slice (some ⟨ng, 0, none⟩) (n + 1) nc) w' → OG (Value.int .i64) B e w' (.slice (some ⟨ng, 0, none⟩) (n + 1) nc) (L ++ [z]) → w.grownBy w' (some g) → (ng = g ∨ ng = w.heap.size) → (∀ i, i < n → w'.cell? ⟨g, i, none⟩ = w.cell? ⟨g, i, none⟩) → o.wp P a w K Q := by
      intro ng nc w' hr h2 h3 h4 h6
      unfold Oper.wp execOp
      simp only [hop, resolve, invoke, builtin, Sem.run_bind, Sem.run_pure, Result.andThen_ok, List.map_toArray, List.map_cons, List.map_nil, hs, hx, hr]
      exact hK ng nc w' h2 h3 h4 h6
    by_cases hroom : n + 1 ≤ cap
    · have hr := run_append_at (P := P) w t o.type e i h1 h2 h4 g 0 n cap cur hb2 gb _ cb rfl hroom (by omega)
      rw [Nat.zero_add] at hr
      have hnew : OG (Value.int .i64) B e (w.setRow g (cur.toList.take n ++ [Value.int .i64 z] ++ cur.toList.drop (n + 1)).toArray) (.slice (some ⟨g, 0, none⟩) (n + 1) cap) (L ++ [z]) := by
        have hcl : n ≤ cur.toList.length := by rw [Array.length_toList]; omega
        have htl : (cur.toList.take n).length = n := by rw [List.length_take]; omega
        refine ⟨by simp, Or.inr ⟨g, cap, _, by simp [hn], hb1, setRow_heap w g cur _ e _ hb2, by rw [List.length_append, List.length_singleton, hn]; exact hroom, hb4, ?_, ?_⟩⟩
        · simp only [List.size_toArray, List.length_append, List.length_take, List.length_drop, Array.length_toList, List.length_singleton]
          omega
        · rw [Nat.mul_one, List.length_append, List.length_singleton, hn, List.map_append]
          show ((cur.toList.take n ++ [Value.int .i64 z]) ++ cur.toList.drop (n + 1)).take (n + 1) = _
          rw [hb6]
          exact List.take_left' (by simp [hn])
      refine fin _ _ _ hr hnew ⟨rfl, rfl, rfl, by simp, fun k _ hk => setRow_other w g k _ (fun e => hk (by rw [e]))⟩ (Or.inl rfl) (fun i hi => ?_)
      obtain ⟨y, hx1⟩ : ∃ y, L[i]? = some y := ⟨_, List.getElem?_eq_getElem (by rw [hn]; exact hi)⟩
      rw [(hown.cell hx1).1]
      exact (hnew.cell (by rw [List.getElem?_append_left (by rw [hn]; exact hi)]; exact hx1)).1
    · have holds : ∀ j u, (L.map (Value.int .i64))[j]? = some u → w.cell? ((⟨g, 0, none⟩ : Addr).add j) = some u := fun j u hj => by
        rw [List.getElem?_map] at hj
        cases hj2 : L[j]? with
        | none => rw [hj2] at hj; simp at hj
        | some y => rw [hj2] at hj; simp at hj; subst hj; rw [Addr.add_lit, Nat.zero_add]; exact (hown.cell hj2).1
      have hr := run_append_grow (P := P) w t o.type e i (.int .i64 0) h1 h2 h3 ⟨g, 0, none⟩ n cap (L.map (Value.int .i64)) (by simp [h4, hn]) holds ⟨gb, 0, none⟩ 1 1 [.int .i64 z] (by simp [h4]) (fun j u hj => by
        match j, hj with
        | 0, hj => simp at hj; subst hj; rw [Addr.add_lit, Nat.add_zero]; exact cb) (by omega) (by omega) (growslice_fits (by omega) (by rw [h5]; omega))
      have hge := grownCap_ge w (n + 1) cap e
      have hcm2 : grownCap w (n + 1) cap e ≤ maxLen := grownCap_le_maxLen w (n + 1) cap e (by unfold maxLen; omega)
      refine fin _ _ _ hr ⟨by simp, Or.inr ⟨w.heap.size, _, _, by simp [hn], hB, heap_alloc_new w.drew _, by rw [List.length_append, List.length_singleton, hn]; exact hge, hcm2, ?_, ?_⟩⟩ ⟨rfl, rfl, rfl, by simp, fun k hk _ => (heap_alloc_old w.drew _ hk)⟩ (Or.inr rfl) (fun i hi => ?_)
      · simp only [Array.size_append, List.size_toArray, size_zeroCells, List.length_map, List.length_singleton]
        rw [show (Value.int .i64 0).cells.size = 1 from rfl, Nat.mul_one]
        omega
      · rw [Nat.mul_one, List.length_append, List.length_singleton, hn, List.map_append]
        simp only [Array.toList_append, List.append_assoc]
        rw [← List.append_assoc]
        exact List.take_left' (by simp [hn])
      · have hgl := (Array.getElem?_eq_some_iff.1 hb2).1
        have hb9 : (w.drew.alloc (.cells ((L.map (Value.int .i64)).toArray ++ [Value.int .i64 z].toArray ++ Builtin.zeroCells (Value.int .i64 0).cells (grownCap w (n + 1) cap e - (n + 1))) e)).heap[g]? = w.heap[g]? := heap_alloc_old w.drew _ hgl
        exact World.cell?_of_block hb9
end Go.Proofs.YthdpomgpcblpeaaGreat

namespace Go.Proofs.YthdpomgpcblpeaaGreat
set_option linter.unusedVariables false
open Go.RowKit
end Go.Proofs.YthdpomgpcblpeaaGreat

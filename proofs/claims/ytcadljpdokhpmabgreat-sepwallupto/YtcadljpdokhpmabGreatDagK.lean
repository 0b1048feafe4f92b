/-
  Proved here: package dag's take: a point is taken out, its children wait for one less.
-/
import Derived.Test.YtcadljpdokhpmabGreatDagJAll
namespace Go.Proofs.YtcadljpdokhpmabGreat
set_option linter.unusedVariables false
open Go.RowKit
theorem chF_mem {P : List (List Int)} {j n : Nat} {x : Int} : x ∈ chF P j n ↔ ∃ i : Nat, i < n ∧ x = (i : Int) ∧ (j : Int) ∈ P.getD i [] := by
  unfold chF
  rw [List.mem_map]
  constructor
  · rintro ⟨i, hi, rfl⟩
    rw [List.mem_filter] at hi
    exact ⟨i, by simpa using hi.1, rfl, of_decide_eq_true hi.2⟩
  · rintro ⟨i, h1, rfl, h3⟩
    exact ⟨i, List.mem_filter.2 ⟨by simpa using h1, decide_eq_true h3⟩, rfl⟩
theorem chF_nodup (P : List (List Int)) (j n : Nat) : (chF P j n).Nodup := by
  unfold chF
  have h1 : ((List.range n).filter (fun q => decide ((j : Int) ∈ P.getD q []))).Nodup := List.nodup_range.filter _
  rw [List.Nodup, List.pairwise_map]
  exact List.Pairwise.imp (fun hab e => hab (by have : (Int.ofNat _) = Int.ofNat _ := e; exact Int.ofNat.inj this)) h1
/-- Who is out. -/
def ObR (n : Nat) (T : List Int) (Ob : List Bool) : Prop := ∀ i : Nat, i < n → Ob[i]? = some (decide ((i : Int) ∈ T))
theorem ObR.snoc {n : Nat} {T : List Int} {Ob : List Bool} (h : ObR n T Ob) {pt : Nat} (hpt : pt < n) (hl : Ob.length = n) : ObR n (T ++ [(pt : Int)]) (Ob.set pt true) := by
  intro i hi
  rw [List.getElem?_set]
  by_cases e : pt = i
  · subst e; rw [if_pos rfl, if_pos (by omega)]; simp
  · rw [if_neg e, h i hi]
    congr 1
    rw [decide_eq_decide, List.mem_append, List.mem_singleton]
    exact ⟨Or.inl, fun h => h.resolve_right (by omega)⟩
set_option maxRecDepth 100000 in
set_option maxHeartbeats 12800000 in
theorem takeD (B : Nat) (S : Nat → Prop) (w : World) (rb : Nat) (a v : Value) (g go gw n : Nat) (cvs : List Value) (P : List (List Int)) (Ob : List Bool) (Wt L T : List Int) (pt : Nat)
    (h : RtC B S w rb a v g go gw n cvs (fun j => chF P j n) Ob Wt L) (hB : B ≤ w.heap.size) (hn : P.length = n) (hb : n ≤ 100000) (hbl : ∀ i, (P.getD i []).length ≤ 100000) (hnd : ∀ i, (P.getD i []).Nodup) (hpt : pt < n) (hr : rdy P T pt)
    (hO : ObR n T Ob) (hW : WtR P T [] Wt) (hL : LnOk n L (fun i => rdy P T i ∧ i ≠ pt)) :
    Calls Tryz.prog 91 #[.pointer (some ⟨rb, 0, none⟩), .int .i64 (pt : Int)] w fun e w' => e = .returned (.tuple #[]) ∧ ∃ v' Ob' Wt' L', RtC B S w' rb a v' g go gw n cvs (fun j => chF P j n) Ob' Wt' L' ∧ ObR n (T ++ [(pt : Int)]) Ob' ∧ WtR P (T ++ [(pt : Int)]) [] Wt' ∧ LnOk n L' (rdy P (T ++ [(pt : Int)])) ∧ FrP (RtS rb go gw v) w w' ∧ (∀ q, v'.ownBlock = some q → v.ownBlock = some q ∨ w.heap.size ≤ q) := by
  obtain ⟨ch, hch⟩ : ∃ ch, ch = chF P pt n := ⟨_, rfl⟩
  have hcm : ∀ x, x ∈ ch ↔ ∃ i : Nat, i < n ∧ x = (i : Int) ∧ (pt : Int) ∈ P.getD i [] := fun x => by rw [hch]; exact chF_mem
  have hcn : ch.Nodup := by rw [hch]; exact chF_nodup _ _ _
  have hcm2 : ∀ i : Nat, i < P.length → ((i : Int) ∈ ch ↔ (pt : Int) ∈ P.getD i []) := fun i hi => by
    rw [hcm]
    exact ⟨fun ⟨j, h1, h2, h3⟩ => by have : i = j := by omega
                                     subst this; exact h3, fun h => ⟨i, by omega, rfl, h⟩⟩
  have hcl := h.row.len
  obtain ⟨u, hu⟩ : ∃ u, cvs[pt]? = some u := ⟨_, List.getElem?_eq_getElem (by omega)⟩
  have hur : RG (Value.int .i64) w u ch := by have := h.inn pt u hu; rw [← hch] at this; exact this
  obtain ⟨uo, un, uc, rfl⟩ : ∃ o n c, u = .slice o n c := by obtain ⟨ao, cap, e⟩ := hur.sl; exact ⟨_, _, _, e⟩
  have hul : ch.length = un := hur.len
  have hun : un ≤ n := by rw [← hul, hch]; exact chF_len _ _ _
  have HUR : Hid (∀ (W : World) (v' : Value) (Ob' : List Bool) (Wt' L' : List Int), RtC B S W rb a v' g go gw n cvs (fun j => chF P j n) Ob' Wt' L' → RG (Value.int .i64) W (.slice uo un uc) ch ∧ RG id W (.slice (some ⟨g, 0, none⟩) n n) cvs) := fun W v' Ob' Wt' L' hW => ⟨by have := hW.inn pt _ hu; rw [← hch] at this; exact this, hW.row⟩
  obtain ⟨d1, d2, d3, d4⟩ := h.ln.box.cells
  have hol : Ob.length = n := h.out.rg.len
  obtain ⟨hob, hof⟩ := h.out.cell (hO pt hpt)
  have hptz : (pt : Int) < (n : Int) := by omega
  have HS := h.setO pt true
  obtain ⟨W1, hW1⟩ : ∃ W, W = w.setCell ⟨go, pt, none⟩ (.bool true) := ⟨_, rfl⟩
  rw [← hW1] at HS
  have H1 : Hid (RtC B S W1 rb a v g go gw n cvs (fun j => chF P j n) (Ob.set pt true) Wt L) := HS.1
  have HO : Hid (ObR n (T ++ [(pt : Int)]) (Ob.set pt true)) := hO.snoc hpt hol
  have HF : Hid (FrP (RtS rb go gw v) w W1) := HS.2.mono (fun q _ e => Or.inr (Or.inl e))
  have HW : Hid (WtR P T (ch.take 0) Wt) := hW
  have HL : Hid (LnOk n L (TkR P T pt (ch.take 0))) := hL.congr fun i _ => tk_start
  have HV0 : Hid (∀ q, v.ownBlock = some q → v.ownBlock = some q ∨ w.heap.size ≤ q) := fun q hq => Or.inl hq
  have HW1 : Hid (W1 = w.setCell ⟨go, pt, none⟩ (.bool true)) := hW1
  have HCM : Hid (∀ x, x ∈ ch ↔ ∃ i : Nat, i < n ∧ x = (i : Int) ∧ (pt : Int) ∈ P.getD i []) := hcm
  have HCN : Hid ch.Nodup := hcn
  have HC2 : Hid (∀ i : Nat, i < P.length → ((i : Int) ∈ ch ↔ (pt : Int) ∈ P.getD i [])) := hcm2
  have HN : Hid (P.length = n) := hn
  have HND : Hid (∀ i, (P.getD i []).Nodup) := hnd
  have HBL : Hid (∀ i, (P.getD i []).length ≤ 100000) := hbl
  have HRD : Hid (rdy P T pt) := hr
  have HUL : Hid (ch.length = un) := hul
  have HU : Hid (cvs[pt]? = some (.slice uo un uc)) := hu
  have HH : Hid (∀ q, RtS rb go gw v q → B ≤ q) := fun q hq => by
    have := h.frw
    rcases hq with e | e | e | e
    · rw [e]; exact h.hB
    · rw [e]; exact this.1
    · rw [e]; exact this.2.1
    · exact this.2.2 q e
  have e1 := entLnPush
  clear hch hcm hcn hcm2 hcl hu hur hul HS hW1 hn hnd hbl hr hO hW hL h hol
  go_enter Tryz.func91, Tryz.ntmps91
  go_upto_region 1 with fail
  rw [← HW1.out]
  clear HW1 d1 d2 d3 d4 hob hof
  obtain ⟨d1, d2, d3, d4⟩ := H1.out.ln.box.cells
  obtain ⟨x, gp, op, hx1, hx3, hx2⟩ := (HUR.out _ _ _ _ _ H1.out).2.at hpt
  simp only [Option.some.injEq, Addr.mk.injEq, and_true] at hx3
  obtain ⟨rfl, rfl⟩ := hx3
  rw [HU.out] at hx1
  simp only [Option.some.injEq] at hx1
  subst hx1
  rw [Nat.zero_add] at hx2
  change W1.cell? ⟨g, pt, none⟩ = some (.slice uo un uc) at hx2
  go_wp2
  clear hx2 d1 d2 d3 d4
  go_loopg [5, 20] un (fun g1 _v5 v20 wr => ∃ (k : Nat) (v' : Value) (Wt' L' : List Int), v20 = .int .i64 k ∧ k ≤ un ∧ un - k ≤ g1 ∧ Hid (RtC B S wr rb a v' g go gw n cvs (fun j => chF P j n) (Ob.set pt true) Wt' L') ∧ Hid (WtR P T (ch.take k) Wt') ∧ Hid (LnOk n L' (TkR P T pt (ch.take k))) ∧ Hid (FrP (RtS rb go gw v) w wr) ∧ Hid (∀ q, v'.ownBlock = some q → v.ownBlock = some q ∨ w.heap.size ≤ q))
  case atStart => exact ⟨0, v, Wt, L, rfl, by omega, by omega, H1, HW, HL, HF, HV0⟩
  case round =>
    clear H1 HW HL HF HV0
    obtain ⟨k, v', Wt', L', rfl, hku, hg1, H1, HW, HL, HF, HV⟩ := hrel
    by_cases hlk : k < un
    · have hlkz : (k : Int) < (un : Int) := by omega
      obtain ⟨y, gx, ox, hy1, rfl, hy2⟩ := (HUR.out _ _ _ _ _ H1.out).1.at hlk
      obtain ⟨c, hcn, rfl, hpc⟩ := (HCM.out y).1 (List.mem_of_getElem? hy1)
      have hcz : (c : Int) < (n : Int) := by omega
      have htk : ch.take (k + 1) = ch.take k ++ [(c : Int)] := by rw [List.take_add_one, hy1]; rfl
      have hnk : (c : Int) ∉ ch.take k := by
        intro hm
        have h2 : (ch.take (k + 1)).Nodup := HCN.out.sublist (List.take_sublist _ _)
        rw [htk, List.nodup_append] at h2
        exact h2.2.2 _ hm _ (by simp) rfl
      have hst := HW.out.step (by rw [HN.out]; exact hcn) hnk
      have hcs := cnt_step (P := P) (T := T) (pt := pt) (i := c) (HND.out c) HRD.out.1
      rw [if_pos hpc] at hcs
      obtain ⟨c1, hc1⟩ : ∃ c1, c1 = cntW P (T ++ [(pt : Int)]) c := ⟨_, rfl⟩
      have hcb : cntW P T c ≤ 100000 := Nat.le_trans cnt_le (HBL.out c)
      rw [← hc1] at hcs
      rw [← hcs] at hst hcb
      have er : ((c1 + 1 : Nat) : Int) - 1 = (c1 : Int) := by omega
      rw [er] at hst
      have hwl := H1.out.wts.rg.len
      have hwc : Wt'[c]? = some ((c1 + 1 : Nat) : Int) := by rw [← hst.1]; exact getD_some (by omega)
      obtain ⟨hw1, hw2⟩ := H1.out.wts.cell hwc
      obtain ⟨d1, d2, d3, d4⟩ := H1.out.ln.box.cells
      have HS := H1.out.setW c (c1 : Int)
      obtain ⟨W2, hW2⟩ : ∃ W, W = wr.setCell ⟨gw, c, none⟩ (.int .i64 (c1 : Int)) := ⟨_, rfl⟩
      rw [← hW2] at HS
      have H2 : Hid (RtC B S W2 rb a v' g go gw n cvs (fun j => chF P j n) (Ob.set pt true) (Wt'.set c (c1 : Int)) L') := HS.1
      have HF2 : Hid (FrP (RtS rb go gw v) w W2) := HF.out.tr HS.2 (fun q _ e => Or.inr (Or.inr (Or.inl e)))
      have HWN : Hid (WtR P T (ch.take (k + 1)) (Wt'.set c (c1 : Int))) := by rw [htk]; exact hst.2
      have HW2 : Hid (W2 = wr.setCell ⟨gw, c, none⟩ (.int .i64 (c1 : Int))) := hW2
      have HTK : Hid (ch.take (k + 1) = ch.take k ++ [(c : Int)]) := htk
      have HNK : Hid ((c : Int) ∉ ch.take k) := hnk
      have HPC : Hid ((pt : Int) ∈ P.getD c []) := hpc
      have HC1 : Hid (rdy P (T ++ [(pt : Int)]) c ↔ (c1 = 0 ∧ (c : Int) ∉ T ++ [(pt : Int)])) := by
        have := rdy_zero (HND.out c) hpc HRD.out.1
        rw [← hcs, er] at this
        refine this.trans ⟨fun h => ⟨by have := h.1; omega, h.2⟩, fun h => ⟨by have := h.1; omega, h.2⟩⟩
      have hw3 : (Wt'.set c (c1 : Int))[c]? = some (c1 : Int) := by rw [List.getElem?_set, if_pos rfl, if_pos (by omega)]
      have HW3 : Hid ((Wt'.set c (c1 : Int))[c]? = some (c1 : Int)) := hw3
      clear HS hW2 hst hcs hc1 htk hnk hpc hwc hw3 hy1 hwl H1 HW HF
      go_upto_region 5 with fail
      rw [← HW2.out]
      clear HW2 hw1 hw2 hy2 d1 d2 d3 d4
      obtain ⟨hw1, hw2⟩ := H2.out.wts.cell HW3.out
      obtain ⟨d1, d2, d3, d4⟩ := H2.out.ln.box.cells
      obtain ⟨ho1, ho2⟩ := H2.out.out.cell (HO.out c hcn)
      by_cases hc0 : c1 = 0
      · subst hc0
        by_cases hct : (c : Int) ∈ T ++ [(pt : Int)]
        · rw [decide_eq_true hct] at ho1
          have HNR : Hid (¬ rdy P (T ++ [(pt : Int)]) c) := fun h => (HC1.out.1 h).2 hct
          have HLN : Hid (LnOk n L' (TkR P T pt (ch.take (k + 1)))) := HL.out.congr fun i _ => by rw [HTK.out]; exact tk_no HNR.out
          clear hct HC1 HNR HL
          go_wp2
          clear hw1 hw2 d1 d2 d3 d4 ho1 ho2
          go_roundg (un - (k + 1))
          case measure => omega
          case rel => exact ⟨k + 1, _, _, _, by first | rfl | go_num, by omega, Nat.le_refl _, H2, HWN, HLN, HF2, HV⟩
        · rw [decide_eq_false hct] at ho1
          have HYR : Hid (rdy P (T ++ [(pt : Int)]) c) := HC1.out.2 ⟨rfl, hct⟩
          have HNT : Hid (¬ TkR P T pt (ch.take k) c) := tk_new HPC.out HRD.out.1 HNK.out
          have hll := HL.out.len
          have HLN : Hid (LnOk n (upL (L' ++ [(c : Int)]) L'.length) (TkR P T pt (ch.take (k + 1)))) := (HL.out.push hcn HNT.out).congr fun i _ => by rw [HTK.out]; exact tk_yes HYR.out
          have CP : Hid _ := heapPush B rb a _ _ _ v' L' (c : Int) W2 H2.out.ln (Nat.le_trans hB HF2.out.size) (by omega)
          clear hct HC1 HYR HNT HL hll
          go_wp2_with fail
          refine Calls.mono CP.out ?_
          rintro e z ⟨rfl, ng, cap, hz1, hz2, hz3⟩
          have HV1 : ∀ q, (Value.slice (some ⟨ng, 0, none⟩) (L'.length + 1) cap).ownBlock = some q → v'.ownBlock = some q ∨ W2.heap.size ≤ q := fun q hq => by
            have e1 : ng = q := by simpa [Value.ownBlock] using hq
            subst e1; exact hz2
          have H3 : Hid (RtC B S z rb a (.slice (some ⟨ng, 0, none⟩) (L'.length + 1) cap) g go gw n cvs (fun j => chF P j n) (Ob.set pt true) (Wt'.set c ((0 : Nat) : Int)) (upL (L' ++ [(c : Int)]) L'.length)) := H2.out.line hz1 HV1 hz3
          have HV2 : Hid (∀ q, (Value.slice (some ⟨ng, 0, none⟩) (L'.length + 1) cap).ownBlock = some q → v.ownBlock = some q ∨ w.heap.size ≤ q) := fun q hq => by
            rcases HV1 q hq with e | e
            · exact HV.out q e
            · exact Or.inr (Nat.le_trans HF2.out.size e)
          have HF3 : Hid (FrP (RtS rb go gw v) w z) := HF2.out.tr hz3 (fun q hq e => by
            rcases e with e | e
            · exact Or.inl e
            · rcases HV.out q e with e2 | e2
              · exact Or.inr (Or.inr (Or.inr e2))
              · omega)
          clear CP hz1 hz2 hz3 HV1 H2 HF2 HV hw1 hw2 d1 d2 d3 d4 ho1 ho2
          go_wp2
          go_roundg (un - (k + 1))
          case measure => omega
          case rel => exact ⟨k + 1, _, _, _, by first | rfl | go_num, by omega, Nat.le_refl _, H3, HWN, HLN, HF3, HV2⟩
      · have hc0z : ((c1 : Int) == 0) = false := by simp; omega
        have HNR : Hid (¬ rdy P (T ++ [(pt : Int)]) c) := fun h => hc0 (HC1.out.1 h).1
        have HLN : Hid (LnOk n L' (TkR P T pt (ch.take (k + 1)))) := HL.out.congr fun i _ => by rw [HTK.out]; exact tk_no HNR.out
        clear HC1 HNR HL hc0
        go_wp2
        clear hw1 hw2 d1 d2 d3 d4 ho1 ho2
        go_roundg (un - (k + 1))
        case measure => omega
        case rel => exact ⟨k + 1, _, _, _, by first | rfl | go_num, by omega, Nat.le_refl _, H2, HWN, HLN, HF2, HV⟩
    · have hlkz : ¬ (k : Int) < (un : Int) := by omega
      have htk : ch.take k = ch := List.take_of_length_le (by rw [HUL.out]; omega)
      have HR : Hid (WtR P (T ++ [(pt : Int)]) [] Wt' ∧ LnOk n L' (rdy P (T ++ [(pt : Int)]))) := by
        have h1 := HW.out
        have h2 := HL.out
        rw [htk] at h1 h2
        exact ⟨h1.done HC2.out HND.out HRD.out.1, h2.congr fun i hi => tk_end HC2.out HRD.out (by rw [HN.out]; exact hi)⟩
      clear htk HW HL
      go_wp2
      go_end0
      exact ⟨rfl, v', _, Wt', L', H1.out, HO.out, HR.out.1, HR.out.2, HF.out, HV.out⟩
end Go.Proofs.YtcadljpdokhpmabGreat

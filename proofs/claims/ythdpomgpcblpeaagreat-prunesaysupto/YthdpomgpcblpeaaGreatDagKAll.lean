/-
  Proved here: package dag's turned, walked.
  Proved here: what is left of the points, and package dag's take.
  Proved here: package dag's take: a point is taken out, its children wait for one less.
-/
import Derived.Test.YthdpomgpcblpeaaGreatDagHAll
namespace Go.Proofs.YthdpomgpcblpeaaGreat
set_option linter.unusedVariables false
open Go.RowKit
theorem wpList_madeD {P : Program} (w : World) {ops : Array Oper} {rest : List Oper} {o : Oper} {a : Act} {Q : Exit → Act → World → Prop}
    (hg : o.guard = none) (l c : Operand) (t : TypeId) (hop : o.op = Op.makeSlice t l c)
    (e : TypeId) (i : TypeInfo) (z : Value) (hzc : z.cells = #[z]) (h1 : P.underlying t = some (.slice e)) (h2 : P.info? e = some i) (h3 : i.zero = some z) (h4 : i.size = 1)
    (kl kc : IntKind) (m : Nat) (hl : a.eval l = .int kl (m : Int)) (hc : a.eval c = .int kc (m : Int)) (b2 : i.bytes * m ≤ 281474976710656) (b3 : m ≤ 9223372036854775807)
    (hK : wpList P ops Q rest (a.put o.dst (.slice (some ⟨w.heap.size, 0, none⟩) m m)) (w.alloc (.cells (Array.replicate m z) e))) :
    wpList P ops Q (o :: rest) a w := by
  refine wpList_plain hg fun K hK' => ?_
  have hb' : (i.bytes : Int) * (m : Int) ≤ 281474976710656 := by
    have h : ((i.bytes * m : Nat) : Int) ≤ 281474976710656 := by omega
    rwa [Int.natCast_mul] at h
  have hrun := run_make (P := P) w t e i z h1 h2 h3 kl kc m m (by omega) (Int.le_refl _) hb' (by omega)
  simp only [Int.toNat_natCast, h4, Nat.mul_one, hzc] at hrun
  rw [made_row] at hrun
  unfold Oper.wp
  simp [execOp, hop, hl, hc, hrun, Result.andThen]
  exact hK' _ _ hK
/-- An append of one thing to a row of the call's own: it stays, or moves to the end. -/
theorem wpList_pushD {α : Type} {enc : α → Value} {P : Program} (w : World) {ops : Array Oper} {rest : List Oper} {o : Oper} {a : Act} {Q : Exit → Act → World → Prop} (hone : ∀ x, (enc x).oneCell' = true) (hg : o.guard = none) (s x : Operand) (t : TypeId) (hop : o.op = .call { callee := .builtin .append, args := #[s, x], argTypes := #[t, t] })
    (B : Nat) (e : TypeId) (i : TypeInfo) (z : Value) (bytes : Nat) (h1 : P.underlying t = some (.slice e)) (h2 : P.info? e = some i) (h3 : i.zero = some z) (h4 : i.size = 1) (h5 : i.bytes = bytes) (h6 : z.cells.size = 1)
    (v : Value) (L : List α) (hs : a.eval s = v) (hown : OG enc B e w v L) (gb : Nat) (sv : α) (hx : a.eval x = .slice (some ⟨gb, 0, none⟩) 1 1) (cb : w.cell? ⟨gb, 0, none⟩ = some (enc sv)) (hl1 : L.length + 1 ≤ maxLen) (hl2 : (L.length + 1) * bytes ≤ 140737488355328) (hB : B ≤ w.heap.size)
    (hK : ∀ ng n ncap w', OG enc B e w' (.slice (some ⟨ng, 0, none⟩) n ncap) (L ++ [sv]) → w.grownBy w' v.ownBlock → (v.ownBlock = some ng ∨ ng = w.heap.size) → ng < w'.heap.size → wpList P ops Q rest (a.put o.dst (.slice (some ⟨ng, 0, none⟩) n ncap)) w') : wpList P ops Q (o :: rest) a w := by
  refine wpList_plain hg fun K hK' => ?_
  refine wp_append_lies _ s x t hop B e i z 1 bytes h1 h2 h3 h4 h5 h6 (by decide) v L.length _ hs hown ⟨gb, 0, none⟩ 1 1 [enc sv] hx rfl (fun j u hj => by match j, hj with | 0, hj => simp at hj; subst hj; rw [Addr.add_lit, Nat.add_zero]; exact cb) (by intro u hu; simp at hu; subst hu; exact hone sv) (by decide) hl1 hl2 hB _ rfl ?_
  intro ng ncap w' ho hg' hgg hlt
  refine hK' _ _ (hK ng _ ncap w' ?_ hg' hgg hlt)
  unfold OG
  rw [List.length_append, List.map_append]
  exact ho
theorem Tryz.infoRD : (Tryz.prog.info? 23).map (fun i => (i.zero, i.size, i.bytes)) = some (some (.slice none 0 0), 1, 24) := by kernel_rfl
theorem OG.made {α : Type} {enc : α → Value} (w : World) (e n : Nat) (z : α) (hn : n ≤ maxLen) : OG enc w.heap.size e (w.alloc (.cells (Array.replicate n (enc z)) e)) (.slice (some ⟨w.heap.size, 0, none⟩) n n) (List.replicate n z) := by
  have h := OG.lit (enc := enc) e w (List.replicate n z) (by rw [List.length_replicate]; exact hn)
  rw [List.length_replicate, List.map_replicate] at h
  have e2 : (List.replicate n (enc z)).toArray = Array.replicate n (enc z) := by simp
  rw [e2] at h
  exact h
set_option maxRecDepth 100000 in
set_option maxHeartbeats 6400000 in
theorem turnedD (pv : Value) (pvs : List Value) (P : List (List Int)) (w : World) (h : RRD w pv pvs P) (hP : ∀ (i : Nat) (x : Int), x ∈ P.getD i [] → ∃ p : Nat, x = (p : Int) ∧ p < P.length) (hnd : ∀ i, (P.getD i []).Nodup) (n : Nat) (hn : P.length = n) (hb : n ≤ 100000) :
    Calls Tryz.prog 81 #[pv] w fun e w' => ∃ g cvs, e = .returned (.slice (some ⟨g, 0, none⟩) n n) ∧ TuC w.heap.size w w' g n cvs (fun j => chF P j n) := by
  obtain ⟨i0, hi, hz0, hz1, hz2⟩ := info_parts Tryz.infoI
  obtain ⟨i1, hi1, ha0, ha1, ha2⟩ := info_parts Tryz.infoRD
  obtain ⟨po, pn, pc, rfl⟩ : ∃ o n c, pv = .slice o n c := by obtain ⟨ao, cap, e⟩ := h.out.sl; exact ⟨_, _, _, e⟩
  obtain rfl : pn = n := by rw [← hn, ← h.len, h.out.len]
  obtain ⟨W1, hW1⟩ : ∃ W1, W1 = w.alloc (.cells (Array.replicate pn (.slice none 0 0)) 23) := ⟨_, rfl⟩
  obtain ⟨g, hg⟩ : ∃ g, g = w.heap.size := ⟨_, rfl⟩
  have HT : Hid (TuC w.heap.size w W1 g pn (List.replicate pn (.slice none 0 0)) (fun j => chF P j 0)) := by
    refine ⟨by rw [hW1]; exact belowB w _, by rw [hW1, hg]; exact OG.made (enc := id) w _ pn (.slice none 0 0) (by unfold maxLen; omega), fun j v hv => ?_, fun i j u v _ hu _ q hq => ?_⟩
    · rw [List.getElem?_replicate] at hv
      split at hv
      · simp only [Option.some.injEq] at hv; subst hv; exact OG.nil _ _ _
      · simp at hv
    · rw [List.getElem?_replicate] at hu
      split at hu
      · simp only [Option.some.injEq] at hu; subst hu; simp [Value.ownBlock] at hq
      · simp at hu
  have HP : Hid (∀ (i : Nat) (x : Int), x ∈ P.getD i [] → ∃ p : Nat, x = (p : Int) ∧ p < pn) := fun i x hx => by rw [← hn]; exact hP i x hx
  have HND : Hid (∀ i, (P.getD i []).Nodup) := hnd
  have HR : Hid (RRD w (.slice po pn pc) pvs P) := h
  have HN : Hid (P.length = pn) := hn
  have HW1 : Hid (W1 = w.alloc (.cells (Array.replicate pn (.slice none 0 0)) 23)) := hW1
  have HG : Hid (g = w.heap.size) := hg
  clear hP hnd h hn hW1 hg
  go_enter Tryz.func81, Tryz.ntmps81
  go_upto_region 2 with (at_make; refine wpList_madeD _ rfl _ _ 22 rfl 23 i1 (.slice none 0 0) rfl Tryz.underlying22 hi1 ha0 ha1 _ _ pn rfl rfl (by rw [ha2]; omega) (by omega) ?_)
  rw [← HW1.out, ← HG.out]
  clear HW1
  go_wp2
  go_loopg [4, 5, 7, 13] pn (fun g1 _v4 _v5 _v7 v13 wr => ∃ (i : Nat) (cvs : List Value), v13 = .int .i64 i ∧ i ≤ pn ∧ pn - i ≤ g1 ∧ Hid (TuC w.heap.size w wr g pn cvs (fun j => chF P j i)))
  case atStart => exact ⟨0, _, rfl, by omega, by omega, HT⟩
  case round =>
    clear HT
    obtain ⟨i, cvs, rfl, hin, hg1, HT⟩ := hrel
    by_cases hlt : i < pn
    · have hltz : (i : Int) < (pn : Int) := by omega
      obtain ⟨x, gp, op, hx1, rfl, hx2⟩ := (HR.out.below (Nat.le_refl _) HT.out.frm).out.at hlt
      have hxr := HR.out.inn i x hx1
      obtain ⟨xo, xn, xc, rfl⟩ : ∃ o n c, x = .slice o n c := by obtain ⟨ao, cap, e⟩ := hxr.sl; exact ⟨_, _, _, e⟩
      have HX : Hid (RG (Value.int .i64) w (.slice xo xn xc) (P.getD i [])) := hxr
      have hxn := hxr.room
      have hxm : xn ≤ 9223372036854775807 := by have := hxn.2.1; unfold maxLen at this; omega
      change wr.cell? ⟨gp, op + i, none⟩ = some (.slice xo xn xc) at hx2
      have HT0 : Hid (TuC w.heap.size w wr g pn cvs (fun j => chK P i 0 j)) := HT.out.congr fun j => (chK_zero P i j).symm
      clear hxr hx1 hxn HT
      go_wp2
      go_loopg [7, 20] xn (fun g2 _v7 v20 wq => ∃ (k : Nat) (cvs : List Value), v20 = .int .i64 k ∧ k ≤ xn ∧ xn - k ≤ g2 ∧ Hid (TuC w.heap.size w wq g pn cvs (fun j => chK P i k j)))
      case atStart => exact ⟨0, _, rfl, by omega, by omega, HT0⟩
      case round =>
        clear HT0 hx2
        obtain ⟨k, cvs, rfl, hkn, hg2, HT⟩ := hrel
        by_cases hlk : k < xn
        · have hlkz : (k : Int) < (xn : Int) := by omega
          obtain ⟨y, gx, ox, hy1, rfl, hy2⟩ := (HX.out.below (Nat.le_refl _) HT.out.frm).at hlk
          obtain ⟨p, rfl, hpn⟩ := HP.out i y (List.mem_of_getElem? hy1)
          have hpz : (p : Int) < (pn : Int) := by omega
          have hcl := HT.out.len
          obtain ⟨u, hu⟩ : ∃ u, cvs[p]? = some u := ⟨_, List.getElem?_eq_getElem (by omega)⟩
          obtain ⟨uo, un, uc, rfl⟩ : ∃ o n c, u = .slice o n c := by obtain ⟨ao, cap, e⟩ := (HT.out.inn p u hu).rg.sl; exact ⟨_, _, _, e⟩
          have hc1 := (HT.out.row.cell hu).1
          change wr.cell? ⟨g, p, none⟩ = some (.slice uo un uc) at hc1
          have HU : Hid (cvs[p]? = some (.slice uo un uc)) := hu
          have HY : Hid ((P.getD i [])[k]? = some (p : Int)) := hy1
          obtain ⟨WA, hWA⟩ : ∃ W, W = wr.alloc (.cells #[.int .i64 (i : Int)] 3) := ⟨_, rfl⟩
          obtain ⟨gb, hgb⟩ : ∃ g, g = wr.heap.size := ⟨_, rfl⟩
          have HBA : Hid (Below wr.heap.size wr WA) := by show Below _ _ _; rw [hWA]; exact belowB _ _
          have HCB : Hid (WA.cell? ⟨gb, 0, none⟩ = some (.int .i64 (i : Int))) := by show _ = _; rw [hWA, hgb, World.cell?_alloc_at _ _ _ _ rfl]; rfl
          have HWA : Hid (WA = wr.alloc (.cells #[.int .i64 (i : Int)] 3)) := hWA
          have HGB : Hid (gb = wr.heap.size) := hgb
          have HLC : Hid ((chK P i k p).length ≤ 100001) := by
            show _ ≤ _
            unfold chK
            rw [List.length_append]
            have := chF_len P p i
            split <;> simp <;> omega
          clear hWA hgb hu hy1 hcl
          go_wp2_with (at_builtin; rw [← HWA.out, ← HGB.out]; refine wpList_pushD _ (fun _ => rfl) rfl _ _ 23 rfl w.heap.size 3 i0 (.int .i64 0) 8 Tryz.underlying23 hi hz0 hz1 hz2 rfl _ (chK P i k p) rfl ((HT.out.inn p _ HU.out).below HBA.out) gb (i : Int) rfl HCB.out (by have := HLC.out; unfold maxLen; omega) (by have := HLC.out; omega) (Nat.le_trans HT.out.frm.size HBA.out.size) ?_)
          intro ng m ncap W2 ho hg3 hng _
          have HT2 := HT.out.put HT.out.frm.size HU.out HBA.out ho hg3 hng
          obtain ⟨hc2, hf2⟩ := (HT.out.mid HU.out HBA.out hg3).cell HU.out
          change W2.cell? ⟨g, p, none⟩ = some (.slice uo un uc) at hc2
          obtain ⟨WN, hWN⟩ : ∃ W, W = W2.setCell ⟨g, p, none⟩ (.slice (some ⟨ng, 0, none⟩) m ncap) := ⟨_, rfl⟩
          have HT3 : Hid (TuC w.heap.size w WN g pn (cvs.set p (.slice (some ⟨ng, 0, none⟩) m ncap)) (fun j => chK P i (k + 1) j)) := by rw [hWN]; exact HT2.congr fun j => (chK_step (HND.out i) HY.out j).symm
          have HWN : Hid (WN = W2.setCell ⟨g, p, none⟩ (.slice (some ⟨ng, 0, none⟩) m ncap)) := hWN
          clear hWN HT2 ho hg3 hng HT HCB HBA HWA HGB hc1 hy2 HU HY HLC
          go_wp2
          rw [← HWN.out]
          clear HWN hc2 hf2
          go_roundg (xn - (k + 1))
          case measure => omega
          case rel => exact ⟨k + 1, _, by first | rfl | go_num, by omega, Nat.le_refl _, HT3⟩
        · have hlkz : ¬ (k : Int) < (xn : Int) := by omega
          have HT3 : Hid (TuC w.heap.size w wr g pn cvs (fun j => chF P j (i + 1))) := HT.out.congr fun j => chK_end P j (by rw [HX.out.len]; omega)
          clear HT
          go_wp2
          go_roundg (pn - (i + 1))
          case measure => omega
          case rel => exact ⟨i + 1, _, by first | rfl | go_num, by omega, Nat.le_refl _, HT3⟩
    · have hltz : ¬ (i : Int) < (pn : Int) := by omega
      obtain rfl : i = pn := by omega
      go_wp2
      go_ret
      exact ⟨g, rfl, cvs, HT.out⟩
end Go.Proofs.YthdpomgpcblpeaaGreat

namespace Go.Proofs.YthdpomgpcblpeaaGreat
set_option linter.unusedVariables false
open Go.RowKit
/-- What is left, in memory: five cells; the children (blocks S, read alone), who is out, who waits for how many, the line. -/
structure RtC (B : Nat) (S : Nat → Prop) (w : World) (rb : Nat) (a v : Value) (g go gw n : Nat) (cvs : List Value) (C : Nat → List Int) (Ob : List Bool) (Wt L : List Int) : Prop where
  ln : LnC B w rb a (.slice (some ⟨g, 0, none⟩) n n) (.slice (some ⟨go, 0, none⟩) n n) (.slice (some ⟨gw, 0, none⟩) n n) v L
  row : RG id w (.slice (some ⟨g, 0, none⟩) n n) cvs
  inn : ∀ (j : Nat) (u : Value), cvs[j]? = some u → RG (Value.int .i64) w u (C j)
  own : ∀ (j : Nat) (u : Value), cvs[j]? = some u → ∀ q, u.ownBlock = some q → S q
  gS : S g
  sS : ∀ q, S q → q < w.heap.size
  out : OG Value.bool B 4 w (.slice (some ⟨go, 0, none⟩) n n) Ob
  wts : OG (Value.int .i64) B 3 w (.slice (some ⟨gw, 0, none⟩) n n) Wt
  nS : ¬ S rb ∧ ¬ S go ∧ ¬ S gw ∧ ∀ q, v.ownBlock = some q → ¬ S q
  vw : v.ownBlock ≠ some gw
  hB : B ≤ rb
/-- What may be written. -/
def RtS (rb go gw : Nat) (v : Value) (q : Nat) : Prop := q = rb ∨ q = go ∨ q = gw ∨ v.ownBlock = some q
theorem RsC.cells {w : World} {rb : Nat} {a b c d v : Value} (h : RsC w rb a b c d v) : w.cell? ⟨rb, 0, none⟩ = some a ∧ w.cell? ⟨rb, 1, none⟩ = some b ∧ w.cell? ⟨rb, 2, none⟩ = some c ∧ w.cell? ⟨rb, 3, none⟩ = some d := by
  refine ⟨?_, ?_, ?_, ?_⟩ <;> rw [cell_of_row w rb _ _ _ _ h] <;> rfl
section
variable {B : Nat} {S : Nat → Prop} {w w' : World} {rb : Nat} {a v : Value} {g go gw n : Nat} {cvs : List Value} {C : Nat → List Int} {Ob : List Bool} {Wt L : List Int}
/-- All but the line stands, the line is another one. -/
theorem RtC.line (h : RtC B S w rb a v g go gw n cvs C Ob Wt L) {v' : Value} {L' : List Int} (hl : LnC B w' rb a (.slice (some ⟨g, 0, none⟩) n n) (.slice (some ⟨go, 0, none⟩) n n) (.slice (some ⟨gw, 0, none⟩) n n) v' L') (hv : ∀ q, v'.ownBlock = some q → v.ownBlock = some q ∨ w.heap.size ≤ q) (hf : FrP (LnS rb v) w w') : RtC B S w' rb a v' g go gw n cvs C Ob Wt L' := by
  have hn : ∀ q, S q → w'.heap[q]? = w.heap[q]? := fun q hq => hf.block q (h.sS q hq) (fun e => by
    rcases e with e | e
    · subst e; exact h.nS.1 hq
    · exact h.nS.2.2.2 q e hq)
  have hgo := h.out.lt go rfl
  have hgw := h.wts.lt gw rfl
  have hne1 : go ≠ rb := fun e => h.out.neT h.ln.box (by decide) (by rw [e]; rfl)
  have hne2 : gw ≠ rb := fun e => h.wts.neT h.ln.box (by decide) (by rw [e]; rfl)
  refine ⟨hl, h.row.of_blocks fun q hq => hn q ?_, fun j u hu => (h.inn j u hu).of_blocks fun q hq => hn q (h.own j u hu q hq), h.own, h.gS, fun q hq => Nat.lt_of_lt_of_le (h.sS q hq) hf.size, h.out.of_blocks fun q hq => ?_, h.wts.of_blocks fun q hq => ?_, ⟨h.nS.1, h.nS.2.1, h.nS.2.2.1, fun q hq hs => ?_⟩, fun e => ?_, h.hB⟩
  · have e1 : g = q := by simpa [Value.ownBlock] using hq
    rw [← e1]; exact h.gS
  · have e1 : go = q := by simpa [Value.ownBlock] using hq
    subst e1
    exact hf.block _ hgo.2 (fun e => by
      rcases e with e | e
      · exact hne1 e
      · exact h.ln.row.neO h.out (by decide) e rfl)
  · have e1 : gw = q := by simpa [Value.ownBlock] using hq
    subst e1
    exact hf.block _ hgw.2 (fun e => by
      rcases e with e | e
      · exact hne2 e
      · exact h.vw e)
  · rcases hv q hq with e | e
    · exact h.nS.2.2.2 q e hs
    · have := h.sS q hs; omega
  · rcases hv gw e with e2 | e2
    · exact h.vw e2
    · omega
theorem RtC.setW (h : RtC B S w rb a v g go gw n cvs C Ob Wt L) (i : Nat) (z : Int) : RtC B S (w.setCell ⟨gw, i, none⟩ (.int .i64 z)) rb a v g go gw n cvs C Ob (Wt.set i z) L ∧ FrP (fun q => q = gw) w (w.setCell ⟨gw, i, none⟩ (.int .i64 z)) := by
  have hne2 : gw ≠ rb := fun e => h.wts.neT h.ln.box (by decide) (by rw [e]; rfl)
  have ho : ∀ q, q ≠ gw → (w.setCell ⟨gw, i, none⟩ (.int .i64 z)).heap[q]? = w.heap[q]? := fun q hq => Below.heap_setCell _ _ _ _ hq
  have hs : ∀ q, S q → q ≠ gw := fun q hq e => h.nS.2.2.1 (e ▸ hq)
  refine ⟨⟨⟨by unfold RsC; rw [ho rb (fun e => hne2 e.symm)]; exact h.ln.box, h.ln.row.of_blocks fun q hq => ho q (fun e => h.vw (e ▸ hq))⟩, h.row.of_blocks fun q hq => ho q (hs q ?_), fun j u hu => (h.inn j u hu).of_blocks fun q hq => ho q (hs q (h.own j u hu q hq)), h.own, h.gS, fun q hq => by rw [World.size_setCell]; exact h.sS q hq, h.out.of_blocks fun q hq => ho q (fun e => ?_), (h.wts.set h.wts.rg.len i z).1, h.nS, h.vw, h.hB⟩, (FrP.refl _ _).put _ _ (fun _ => rfl)⟩
  · have e1 : g = q := by simpa [Value.ownBlock] using hq
    rw [← e1]; exact h.gS
  · exact h.out.neO h.wts (by decide) hq (by rw [e]; rfl)
theorem RtC.setO (h : RtC B S w rb a v g go gw n cvs C Ob Wt L) (i : Nat) (z : Bool) : RtC B S (w.setCell ⟨go, i, none⟩ (.bool z)) rb a v g go gw n cvs C (Ob.set i z) Wt L ∧ FrP (fun q => q = go) w (w.setCell ⟨go, i, none⟩ (.bool z)) := by
  have hne2 : go ≠ rb := fun e => h.out.neT h.ln.box (by decide) (by rw [e]; rfl)
  have ho : ∀ q, q ≠ go → (w.setCell ⟨go, i, none⟩ (.bool z)).heap[q]? = w.heap[q]? := fun q hq => Below.heap_setCell _ _ _ _ hq
  have hs : ∀ q, S q → q ≠ go := fun q hq e => h.nS.2.1 (e ▸ hq)
  refine ⟨⟨⟨by unfold RsC; rw [ho rb (fun e => hne2 e.symm)]; exact h.ln.box, h.ln.row.of_blocks fun q hq => ho q (fun e => h.ln.row.neO h.out (by decide) hq (by rw [e]; rfl))⟩, h.row.of_blocks fun q hq => ho q (hs q ?_), fun j u hu => (h.inn j u hu).of_blocks fun q hq => ho q (hs q (h.own j u hu q hq)), h.own, h.gS, fun q hq => by rw [World.size_setCell]; exact h.sS q hq, (h.out.set h.out.rg.len i z).1, h.wts.of_blocks fun q hq => ho q (fun e => ?_), h.nS, h.vw, h.hB⟩, (FrP.refl _ _).put _ _ (fun _ => rfl)⟩
  · have e1 : g = q := by simpa [Value.ownBlock] using hq
    rw [← e1]; exact h.gS
  · exact h.wts.neO h.out (by decide) hq (by rw [e]; rfl)
theorem RtC.frw (h : RtC B S w rb a v g go gw n cvs C Ob Wt L) : B ≤ go ∧ B ≤ gw ∧ (∀ q, v.ownBlock = some q → B ≤ q) := ⟨(h.out.lt go rfl).1, (h.wts.lt gw rfl).1, fun q hq => (h.ln.row.lt q hq).1⟩
end
end Go.Proofs.YthdpomgpcblpeaaGreat

namespace Go.Proofs.YthdpomgpcblpeaaGreat
set_option linter.unusedVariables false
open Go.RowKit
theorem chF_mem {P : List (List Int)} {j n : Nat} {x : Int} : x ∈ chF P j n ↔ ∃ i : Nat, i < n ∧ x = (i : Int) ∧ (j : Int) ∈ P.getD i [] := by
  unfold chF
  rw [List.mem_map]
  constructor
  · rintro ⟨i, hi, rfl⟩
    rw [List.mem_filter] at hi
    exact ⟨i, by simpa using hi.1, rfl, of_decide_eq_true hi.2⟩
  · rintro ⟨i, h1, rfl, h3⟩
    exact ⟨i, List.mem_filter.2 ⟨by simpa using h1, decide_eq_true h3⟩, rfl⟩
theorem chF_nodup (P : List (List Int)) (j n : Nat) : (chF P j n).Nodup := by
  unfold chF
  have h1 : ((List.range n).filter (fun q => decide ((j : Int) ∈ P.getD q []))).Nodup := List.nodup_range.filter _
  rw [List.Nodup, List.pairwise_map]
  exact List.Pairwise.imp (fun hab e => hab (by have : (Int.ofNat _) = Int.ofNat _ := e; exact Int.ofNat.inj this)) h1
/-- Who is out. -/
def ObR (n : Nat) (T : List Int) (Ob : List Bool) : Prop := ∀ i : Nat, i < n → Ob[i]? = some (decide ((i : Int) ∈ T))
theorem ObR.snoc {n : Nat} {T : List Int} {Ob : List Bool} (h : ObR n T Ob) {pt : Nat} (hpt : pt < n) (hl : Ob.length = n) : ObR n (T ++ [(pt : Int)]) (Ob.set pt true) := by
  intro i hi
  rw [List.getElem?_set]
  by_cases e : pt = i
  · subst e; rw [if_pos rfl, if_pos (by omega)]; simp
  · rw [if_neg e, h i hi]
    congr 1
    rw [decide_eq_decide, List.mem_append, List.mem_singleton]
    exact ⟨Or.inl, fun h => h.resolve_right (by omega)⟩
set_option maxRecDepth 100000 in
set_option maxHeartbeats 12800000 in
theorem takeD (B : Nat) (S : Nat → Prop) (w : World) (rb : Nat) (a v : Value) (g go gw n : Nat) (cvs : List Value) (P : List (List Int)) (Ob : List Bool) (Wt L T : List Int) (pt : Nat)
    (h : RtC B S w rb a v g go gw n cvs (fun j => chF P j n) Ob Wt L) (hB : B ≤ w.heap.size) (hn : P.length = n) (hb : n ≤ 100000) (hbl : ∀ i, (P.getD i []).length ≤ 100000) (hnd : ∀ i, (P.getD i []).Nodup) (hpt : pt < n) (hr : rdy P T pt)
    (hO : ObR n T Ob) (hW : WtR P T [] Wt) (hL : LnOk n L (fun i => rdy P T i ∧ i ≠ pt)) :
    Calls Tryz.prog 85 #[.pointer (some ⟨rb, 0, none⟩), .int .i64 (pt : Int)] w fun e w' => e = .returned (.tuple #[]) ∧ ∃ v' Ob' Wt' L', RtC B S w' rb a v' g go gw n cvs (fun j => chF P j n) Ob' Wt' L' ∧ ObR n (T ++ [(pt : Int)]) Ob' ∧ WtR P (T ++ [(pt : Int)]) [] Wt' ∧ LnOk n L' (rdy P (T ++ [(pt : Int)])) ∧ FrP (RtS rb go gw v) w w' ∧ (∀ q, v'.ownBlock = some q → v.ownBlock = some q ∨ w.heap.size ≤ q) := by
  obtain ⟨ch, hch⟩ : ∃ ch, ch = chF P pt n := ⟨_, rfl⟩
  have hcm : ∀ x, x ∈ ch ↔ ∃ i : Nat, i < n ∧ x = (i : Int) ∧ (pt : Int) ∈ P.getD i [] := fun x => by rw [hch]; exact chF_mem
  have hcn : ch.Nodup := by rw [hch]; exact chF_nodup _ _ _
  have hcm2 : ∀ i : Nat, i < P.length → ((i : Int) ∈ ch ↔ (pt : Int) ∈ P.getD i []) := fun i hi => by
    rw [hcm]
    exact ⟨fun ⟨j, h1, h2, h3⟩ => by have : i = j := by omega
                                     subst this; exact h3, fun h => ⟨i, by omega, rfl, h⟩⟩
  have hcl := h.row.len
  obtain ⟨u, hu⟩ : ∃ u, cvs[pt]? = some u := ⟨_, List.getElem?_eq_getElem (by omega)⟩
  have hur : RG (Value.int .i64) w u ch := by have := h.inn pt u hu; rw [← hch] at this; exact this
  obtain ⟨uo, un, uc, rfl⟩ : ∃ o n c, u = .slice o n c := by obtain ⟨ao, cap, e⟩ := hur.sl; exact ⟨_, _, _, e⟩
  have hul : ch.length = un := hur.len
  have hun : un ≤ n := by rw [← hul, hch]; exact chF_len _ _ _
  have HUR : Hid (∀ (W : World) (v' : Value) (Ob' : List Bool) (Wt' L' : List Int), RtC B S W rb a v' g go gw n cvs (fun j => chF P j n) Ob' Wt' L' → RG (Value.int .i64) W (.slice uo un uc) ch ∧ RG id W (.slice (some ⟨g, 0, none⟩) n n) cvs) := fun W v' Ob' Wt' L' hW => ⟨by have := hW.inn pt _ hu; rw [← hch] at this; exact this, hW.row⟩
  obtain ⟨d1, d2, d3, d4⟩ := h.ln.box.cells
  have hol : Ob.length = n := h.out.rg.len
  obtain ⟨hob, hof⟩ := h.out.cell (hO pt hpt)
  have hptz : (pt : Int) < (n : Int) := by omega
  have HS := h.setO pt true
  obtain ⟨W1, hW1⟩ : ∃ W, W = w.setCell ⟨go, pt, none⟩ (.bool true) := ⟨_, rfl⟩
  rw [← hW1] at HS
  have H1 : Hid (RtC B S W1 rb a v g go gw n cvs (fun j => chF P j n) (Ob.set pt true) Wt L) := HS.1
  have HO : Hid (ObR n (T ++ [(pt : Int)]) (Ob.set pt true)) := hO.snoc hpt hol
  have HF : Hid (FrP (RtS rb go gw v) w W1) := HS.2.mono (fun q _ e => Or.inr (Or.inl e))
  have HW : Hid (WtR P T (ch.take 0) Wt) := hW
  have HL : Hid (LnOk n L (TkR P T pt (ch.take 0))) := hL.congr fun i _ => tk_start
  have HV0 : Hid (∀ q, v.ownBlock = some q → v.ownBlock = some q ∨ w.heap.size ≤ q) := fun q hq => Or.inl hq
  have HW1 : Hid (W1 = w.setCell ⟨go, pt, none⟩ (.bool true)) := hW1
  have HCM : Hid (∀ x, x ∈ ch ↔ ∃ i : Nat, i < n ∧ x = (i : Int) ∧ (pt : Int) ∈ P.getD i []) := hcm
  have HCN : Hid ch.Nodup := hcn
  have HC2 : Hid (∀ i : Nat, i < P.length → ((i : Int) ∈ ch ↔ (pt : Int) ∈ P.getD i [])) := hcm2
  have HN : Hid (P.length = n) := hn
  have HND : Hid (∀ i, (P.getD i []).Nodup) := hnd
  have HBL : Hid (∀ i, (P.getD i []).length ≤ 100000) := hbl
  have HRD : Hid (rdy P T pt) := hr
  have HUL : Hid (ch.length = un) := hul
  have HU : Hid (cvs[pt]? = some (.slice uo un uc)) := hu
  have HH : Hid (∀ q, RtS rb go gw v q → B ≤ q) := fun q hq => by
    have := h.frw
    rcases hq with e | e | e | e
    · rw [e]; exact h.hB
    · rw [e]; exact this.1
    · rw [e]; exact this.2.1
    · exact this.2.2 q e
  have e1 := entLnPush
  clear hch hcm hcn hcm2 hcl hu hur hul HS hW1 hn hnd hbl hr hO hW hL h hol
  go_enter Tryz.func85, Tryz.ntmps85
  go_upto_region 1 with fail
  rw [← HW1.out]
  clear HW1 d1 d2 d3 d4 hob hof
  obtain ⟨d1, d2, d3, d4⟩ := H1.out.ln.box.cells
  obtain ⟨x, gp, op, hx1, hx3, hx2⟩ := (HUR.out _ _ _ _ _ H1.out).2.at hpt
  simp only [Option.some.injEq, Addr.mk.injEq, and_true] at hx3
  obtain ⟨rfl, rfl⟩ := hx3
  rw [HU.out] at hx1
  simp only [Option.some.injEq] at hx1
  subst hx1
  rw [Nat.zero_add] at hx2
  change W1.cell? ⟨g, pt, none⟩ = some (.slice uo un uc) at hx2
  go_wp2
  clear hx2 d1 d2 d3 d4
  go_loopg [5, 20] un (fun g1 _v5 v20 wr => ∃ (k : Nat) (v' : Value) (Wt' L' : List Int), v20 = .int .i64 k ∧ k ≤ un ∧ un - k ≤ g1 ∧ Hid (RtC B S wr rb a v' g go gw n cvs (fun j => chF P j n) (Ob.set pt true) Wt' L') ∧ Hid (WtR P T (ch.take k) Wt') ∧ Hid (LnOk n L' (TkR P T pt (ch.take k))) ∧ Hid (FrP (RtS rb go gw v) w wr) ∧ Hid (∀ q, v'.ownBlock = some q → v.ownBlock = some q ∨ w.heap.size ≤ q))
  case atStart => exact ⟨0, v, Wt, L, rfl, by omega, by omega, H1, HW, HL, HF, HV0⟩
  case round =>
    clear H1 HW HL HF HV0
    obtain ⟨k, v', Wt', L', rfl, hku, hg1, H1, HW, HL, HF, HV⟩ := hrel
    by_cases hlk : k < un
    · have hlkz : (k : Int) < (un : Int) := by omega
      obtain ⟨y, gx, ox, hy1, rfl, hy2⟩ := (HUR.out _ _ _ _ _ H1.out).1.at hlk
      obtain ⟨c, hcn, rfl, hpc⟩ := (HCM.out y).1 (List.mem_of_getElem? hy1)
      have hcz : (c : Int) < (n : Int) := by omega
      have htk : ch.take (k + 1) = ch.take k ++ [(c : Int)] := by rw [List.take_add_one, hy1]; rfl
      have hnk : (c : Int) ∉ ch.take k := by
        intro hm
        have h2 : (ch.take (k + 1)).Nodup := HCN.out.sublist (List.take_sublist _ _)
        rw [htk, List.nodup_append] at h2
        exact h2.2.2 _ hm _ (by simp) rfl
      have hst := HW.out.step (by rw [HN.out]; exact hcn) hnk
      have hcs := cnt_step (P := P) (T := T) (pt := pt) (i := c) (HND.out c) HRD.out.1
      rw [if_pos hpc] at hcs
      obtain ⟨c1, hc1⟩ : ∃ c1, c1 = cntW P (T ++ [(pt : Int)]) c := ⟨_, rfl⟩
      have hcb : cntW P T c ≤ 100000 := Nat.le_trans cnt_le (HBL.out c)
      rw [← hc1] at hcs
      rw [← hcs] at hst hcb
      have er : ((c1 + 1 : Nat) : Int) - 1 = (c1 : Int) := by omega
      rw [er] at hst
      have hwl := H1.out.wts.rg.len
      have hwc : Wt'[c]? = some ((c1 + 1 : Nat) : Int) := by rw [← hst.1]; exact getD_some (by omega)
      obtain ⟨hw1, hw2⟩ := H1.out.wts.cell hwc
      obtain ⟨d1, d2, d3, d4⟩ := H1.out.ln.box.cells
      have HS := H1.out.setW c (c1 : Int)
      obtain ⟨W2, hW2⟩ : ∃ W, W = wr.setCell ⟨gw, c, none⟩ (.int .i64 (c1 : Int)) := ⟨_, rfl⟩
      rw [← hW2] at HS
      have H2 : Hid (RtC B S W2 rb a v' g go gw n cvs (fun j => chF P j n) (Ob.set pt true) (Wt'.set c (c1 : Int)) L') := HS.1
      have HF2 : Hid (FrP (RtS rb go gw v) w W2) := HF.out.tr HS.2 (fun q _ e => Or.inr (Or.inr (Or.inl e)))
      have HWN : Hid (WtR P T (ch.take (k + 1)) (Wt'.set c (c1 : Int))) := by rw [htk]; exact hst.2
      have HW2 : Hid (W2 = wr.setCell ⟨gw, c, none⟩ (.int .i64 (c1 : Int))) := hW2
      have HTK : Hid (ch.take (k + 1) = ch.take k ++ [(c : Int)]) := htk
      have HNK : Hid ((c : Int) ∉ ch.take k) := hnk
      have HPC : Hid ((pt : Int) ∈ P.getD c []) := hpc
      have HC1 : Hid (rdy P (T ++ [(pt : Int)]) c ↔ (c1 = 0 ∧ (c : Int) ∉ T ++ [(pt : Int)])) := by
        have := rdy_zero (HND.out c) hpc HRD.out.1
        rw [← hcs, er] at this
        refine this.trans ⟨fun h => ⟨by have := h.1; omega, h.2⟩, fun h => ⟨by have := h.1; omega, h.2⟩⟩
      have hw3 : (Wt'.set c (c1 : Int))[c]? = some (c1 : Int) := by rw [List.getElem?_set, if_pos rfl, if_pos (by omega)]
      have HW3 : Hid ((Wt'.set c (c1 : Int))[c]? = some (c1 : Int)) := hw3
      clear HS hW2 hst hcs hc1 htk hnk hpc hwc hw3 hy1 hwl H1 HW HF
      go_upto_region 5 with fail
      rw [← HW2.out]
      clear HW2 hw1 hw2 hy2 d1 d2 d3 d4
      obtain ⟨hw1, hw2⟩ := H2.out.wts.cell HW3.out
      obtain ⟨d1, d2, d3, d4⟩ := H2.out.ln.box.cells
      obtain ⟨ho1, ho2⟩ := H2.out.out.cell (HO.out c hcn)
      by_cases hc0 : c1 = 0
      · subst hc0
        by_cases hct : (c : Int) ∈ T ++ [(pt : Int)]
        · rw [decide_eq_true hct] at ho1
          have HNR : Hid (¬ rdy P (T ++ [(pt : Int)]) c) := fun h => (HC1.out.1 h).2 hct
          have HLN : Hid (LnOk n L' (TkR P T pt (ch.take (k + 1)))) := HL.out.congr fun i _ => by rw [HTK.out]; exact tk_no HNR.out
          clear hct HC1 HNR HL
          go_wp2
          clear hw1 hw2 d1 d2 d3 d4 ho1 ho2
          go_roundg (un - (k + 1))
          case measure => omega
          case rel => exact ⟨k + 1, _, _, _, by first | rfl | go_num, by omega, Nat.le_refl _, H2, HWN, HLN, HF2, HV⟩
        · rw [decide_eq_false hct] at ho1
          have HYR : Hid (rdy P (T ++ [(pt : Int)]) c) := HC1.out.2 ⟨rfl, hct⟩
          have HNT : Hid (¬ TkR P T pt (ch.take k) c) := tk_new HPC.out HRD.out.1 HNK.out
          have hll := HL.out.len
          have HLN : Hid (LnOk n (upL (L' ++ [(c : Int)]) L'.length) (TkR P T pt (ch.take (k + 1)))) := (HL.out.push hcn HNT.out).congr fun i _ => by rw [HTK.out]; exact tk_yes HYR.out
          have CP : Hid _ := heapPush B rb a _ _ _ v' L' (c : Int) W2 H2.out.ln (Nat.le_trans hB HF2.out.size) (by omega)
          clear hct HC1 HYR HNT HL hll
          go_wp2_with fail
          refine Calls.mono CP.out ?_
          rintro e z ⟨rfl, ng, cap, hz1, hz2, hz3⟩
          have HV1 : ∀ q, (Value.slice (some ⟨ng, 0, none⟩) (L'.length + 1) cap).ownBlock = some q → v'.ownBlock = some q ∨ W2.heap.size ≤ q := fun q hq => by
            have e1 : ng = q := by simpa [Value.ownBlock] using hq
            subst e1; exact hz2
          have H3 : Hid (RtC B S z rb a (.slice (some ⟨ng, 0, none⟩) (L'.length + 1) cap) g go gw n cvs (fun j => chF P j n) (Ob.set pt true) (Wt'.set c ((0 : Nat) : Int)) (upL (L' ++ [(c : Int)]) L'.length)) := H2.out.line hz1 HV1 hz3
          have HV2 : Hid (∀ q, (Value.slice (some ⟨ng, 0, none⟩) (L'.length + 1) cap).ownBlock = some q → v.ownBlock = some q ∨ w.heap.size ≤ q) := fun q hq => by
            rcases HV1 q hq with e | e
            · exact HV.out q e
            · exact Or.inr (Nat.le_trans HF2.out.size e)
          have HF3 : Hid (FrP (RtS rb go gw v) w z) := HF2.out.tr hz3 (fun q hq e => by
            rcases e with e | e
            · exact Or.inl e
            · rcases HV.out q e with e2 | e2
              · exact Or.inr (Or.inr (Or.inr e2))
              · omega)
          clear CP hz1 hz2 hz3 HV1 H2 HF2 HV hw1 hw2 d1 d2 d3 d4 ho1 ho2
          go_wp2
          go_roundg (un - (k + 1))
          case measure => omega
          case rel => exact ⟨k + 1, _, _, _, by first | rfl | go_num, by omega, Nat.le_refl _, H3, HWN, HLN, HF3, HV2⟩
      · have hc0z : ((c1 : Int) == 0) = false := by simp; omega
        have HNR : Hid (¬ rdy P (T ++ [(pt : Int)]) c) := fun h => hc0 (HC1.out.1 h).1
        have HLN : Hid (LnOk n L' (TkR P T pt (ch.take (k + 1)))) := HL.out.congr fun i _ => by rw [HTK.out]; exact tk_no HNR.out
        clear HC1 HNR HL hc0
        go_wp2
        clear hw1 hw2 d1 d2 d3 d4 ho1 ho2
        go_roundg (un - (k + 1))
        case measure => omega
        case rel => exact ⟨k + 1, _, _, _, by first | rfl | go_num, by omega, Nat.le_refl _, H2, HWN, HLN, HF2, HV⟩
    · have hlkz : ¬ (k : Int) < (un : Int) := by omega
      have htk : ch.take k = ch := List.take_of_length_le (by rw [HUL.out]; omega)
      have HR : Hid (WtR P (T ++ [(pt : Int)]) [] Wt' ∧ LnOk n L' (rdy P (T ++ [(pt : Int)]))) := by
        have h1 := HW.out
        have h2 := HL.out
        rw [htk] at h1 h2
        exact ⟨h1.done HC2.out HND.out HRD.out.1, h2.congr fun i hi => tk_end HC2.out HRD.out (by rw [HN.out]; exact hi)⟩
      clear htk HW HL
      go_wp2
      go_end0
      exact ⟨rfl, v', _, Wt', L', H1.out, HO.out, HR.out.1, HR.out.2, HF.out, HV.out⟩
end Go.Proofs.YthdpomgpcblpeaaGreat

/-
  Proved here: package dag's turned, walked.
-/
import Derived.Test.YtcadljpdokhpmaaDagHAll
namespace Go.Proofs.Ytcadljpdokhpmaa
set_option linter.unusedVariables false
open Go.RowKit
theorem wpList_madeD {P : Program} (w : World) {ops : Array Oper} {rest : List Oper} {o : Oper} {a : Act} {Q : Exit → Act → World → Prop}
    (hg : o.guard = none) (l c : Operand) (t : TypeId) (hop : o.op = Op.makeSlice t l c)
    (e : TypeId) (i : TypeInfo) (z : Value) (hzc : z.cells = #[z]) (h1 : P.underlying t = some (.slice e)) (h2 : P.info? e = some i) (h3 : i.zero = some z) (h4 : i.size = 1)
    (kl kc : IntKind) (m : Nat) (hl : a.eval l = .int kl (m : Int)) (hc : a.eval c = .int kc (m : Int)) (b2 : i.bytes * m ≤ 281474976710656) (b3 : m ≤ 9223372036854775807)
    (hK : wpList P ops Q rest (a.put o.dst (.slice (some ⟨w.heap.size, 0, none⟩) m m)) (w.alloc (.cells (Array.replicate m z) e))) :
    wpList P ops Q (o :: rest) a w := by
  refine wpList_plain hg fun K hK' => ?_
  have hb' : (i.bytes : Int) * (m : Int) ≤ 281474976710656 := by
    have h : ((i.bytes * m : Nat) : Int) ≤ 281474976710656 := by omega
    rwa [Int.natCast_mul] at h
  have hrun := run_make (P := P) w t e i z h1 h2 h3 kl kc m m (by omega) (Int.le_refl _) hb' (by omega)
  simp only [Int.toNat_natCast, h4, Nat.mul_one, hzc] at hrun
  rw [made_row] at hrun
  unfold Oper.wp
  simp [execOp, hop, hl, hc, hrun, Result.andThen]
  exact hK' _ _ hK
/-- An append of one thing to a row of the call's own: it stays, or moves to the end. -/
theorem wpList_pushD {α : Type} {enc : α → Value} {P : Program} (w : World) {ops : Array Oper} {rest : List Oper} {o : Oper} {a : Act} {Q : Exit → Act → World → Prop} (hone : ∀ x, (enc x).oneCell' = true) (hg : o.guard = none) (s x : Operand) (t : TypeId) (hop : o.op = .call { callee := .builtin .append, args := #[s, x], argTypes := #[t, t] })
    (B : Nat) (e : TypeId) (i : TypeInfo) (z : Value) (bytes : Nat) (h1 : P.underlying t = some (.slice e)) (h2 : P.info? e = some i) (h3 : i.zero = some z) (h4 : i.size = 1) (h5 : i.bytes = bytes) (h6 : z.cells.size = 1)
    (v : Value) (L : List α) (hs : a.eval s = v) (hown : OG enc B e w v L) (gb : Nat) (sv : α) (hx : a.eval x = .slice (some ⟨gb, 0, none⟩) 1 1) (cb : w.cell? ⟨gb, 0, none⟩ = some (enc sv)) (hl1 : L.length + 1 ≤ maxLen) (hl2 : (L.length + 1) * bytes ≤ 140737488355328) (hB : B ≤ w.heap.size)
    (hK : ∀ ng n ncap w', OG enc B e w' (.slice (some ⟨ng, 0, none⟩) n ncap) (L ++ [sv]) → w.grownBy w' v.ownBlock → (v.ownBlock = some ng ∨ ng = w.heap.size) → ng < w'.heap.size → wpList P ops Q rest (a.put o.dst (.slice (some ⟨ng, 0, none⟩) n ncap)) w') : wpList P ops Q (o :: rest) a w := by
  refine wpList_plain hg fun K hK' => ?_
  refine wp_append_lies _ s x t hop B e i z 1 bytes h1 h2 h3 h4 h5 h6 (by decide) v L.length _ hs hown ⟨gb, 0, none⟩ 1 1 [enc sv] hx rfl (fun j u hj => by match j, hj with | 0, hj => simp at hj; subst hj; rw [Addr.add_lit, Nat.add_zero]; exact cb) (by intro u hu; simp at hu; subst hu; exact hone sv) (by decide) hl1 hl2 hB _ rfl ?_
  intro ng ncap w' ho hg' hgg hlt
  refine hK' _ _ (hK ng _ ncap w' ?_ hg' hgg hlt)
  unfold OG
  rw [List.length_append, List.map_append]
  exact ho
theorem Try.infoRD : (Try.prog.info? 24).map (fun i => (i.zero, i.size, i.bytes)) = some (some (.slice none 0 0), 1, 24) := by kernel_rfl
theorem OG.made {α : Type} {enc : α → Value} (w : World) (e n : Nat) (z : α) (hn : n ≤ maxLen) : OG enc w.heap.size e (w.alloc (.cells (Array.replicate n (enc z)) e)) (.slice (some ⟨w.heap.size, 0, none⟩) n n) (List.replicate n z) := by
  have h := OG.lit (enc := enc) e w (List.replicate n z) (by rw [List.length_replicate]; exact hn)
  rw [List.length_replicate, List.map_replicate] at h
  have e2 : (List.replicate n (enc z)).toArray = Array.replicate n (enc z) := by simp
  rw [e2] at h
  exact h
set_option maxRecDepth 100000 in
set_option maxHeartbeats 6400000 in
theorem turnedD (pv : Value) (pvs : List Value) (P : List (List Int)) (w : World) (h : RRD w pv pvs P) (hP : ∀ (i : Nat) (x : Int), x ∈ P.getD i [] → ∃ p : Nat, x = (p : Int) ∧ p < P.length) (hnd : ∀ i, (P.getD i []).Nodup) (n : Nat) (hn : P.length = n) (hb : n ≤ 100000) :
    Calls Try.prog 22 #[pv] w fun e w' => ∃ g cvs, e = .returned (.slice (some ⟨g, 0, none⟩) n n) ∧ TuC w.heap.size w w' g n cvs (fun j => chF P j n) := by
  obtain ⟨i0, hi, hz0, hz1, hz2⟩ := info_parts Try.infoI
  obtain ⟨i1, hi1, ha0, ha1, ha2⟩ := info_parts Try.infoRD
  obtain ⟨po, pn, pc, rfl⟩ : ∃ o n c, pv = .slice o n c := by obtain ⟨ao, cap, e⟩ := h.out.sl; exact ⟨_, _, _, e⟩
  obtain rfl : pn = n := by rw [← hn, ← h.len, h.out.len]
  obtain ⟨W1, hW1⟩ : ∃ W1, W1 = w.alloc (.cells (Array.replicate pn (.slice none 0 0)) 24) := ⟨_, rfl⟩
  obtain ⟨g, hg⟩ : ∃ g, g = w.heap.size := ⟨_, rfl⟩
  have HT : Hid (TuC w.heap.size w W1 g pn (List.replicate pn (.slice none 0 0)) (fun j => chF P j 0)) := by
    refine ⟨by rw [hW1]; exact belowB w _, by rw [hW1, hg]; exact OG.made (enc := id) w _ pn (.slice none 0 0) (by unfold maxLen; omega), fun j v hv => ?_, fun i j u v _ hu _ q hq => ?_⟩
    · rw [List.getElem?_replicate] at hv
      split at hv
      · simp only [Option.some.injEq] at hv; subst hv; exact OG.nil _ _ _
      · simp at hv
    · rw [List.getElem?_replicate] at hu
      split at hu
      · simp only [Option.some.injEq] at hu; subst hu; simp [Value.ownBlock] at hq
      · simp at hu
  have HP : Hid (∀ (i : Nat) (x : Int), x ∈ P.getD i [] → ∃ p : Nat, x = (p : Int) ∧ p < pn) := fun i x hx => by rw [← hn]; exact hP i x hx
  have HND : Hid (∀ i, (P.getD i []).Nodup) := hnd
  have HR : Hid (RRD w (.slice po pn pc) pvs P) := h
  have HN : Hid (P.length = pn) := hn
  have HW1 : Hid (W1 = w.alloc (.cells (Array.replicate pn (.slice none 0 0)) 24)) := hW1
  have HG : Hid (g = w.heap.size) := hg
  clear hP hnd h hn hW1 hg
  go_enter Try.func22, Try.ntmps22
  go_upto_region 2 with (at_make; refine wpList_madeD _ rfl _ _ 22 rfl 24 i1 (.slice none 0 0) rfl Try.underlying22 hi1 ha0 ha1 _ _ pn rfl rfl (by rw [ha2]; omega) (by omega) ?_)
  rw [← HW1.out, ← HG.out]
  clear HW1
  go_wp2
  go_loopg [4, 5, 7, 13] pn (fun g1 _v4 _v5 _v7 v13 wr => ∃ (i : Nat) (cvs : List Value), v13 = .int .i64 i ∧ i ≤ pn ∧ pn - i ≤ g1 ∧ Hid (TuC w.heap.size w wr g pn cvs (fun j => chF P j i)))
  case atStart => exact ⟨0, _, rfl, by omega, by omega, HT⟩
  case round =>
    clear HT
    obtain ⟨i, cvs, rfl, hin, hg1, HT⟩ := hrel
    by_cases hlt : i < pn
    · have hltz : (i : Int) < (pn : Int) := by omega
      obtain ⟨x, gp, op, hx1, rfl, hx2⟩ := (HR.out.below (Nat.le_refl _) HT.out.frm).out.at hlt
      have hxr := HR.out.inn i x hx1
      obtain ⟨xo, xn, xc, rfl⟩ : ∃ o n c, x = .slice o n c := by obtain ⟨ao, cap, e⟩ := hxr.sl; exact ⟨_, _, _, e⟩
      have HX : Hid (RG (Value.int .i64) w (.slice xo xn xc) (P.getD i [])) := hxr
      have hxn := hxr.room
      have hxm : xn ≤ 9223372036854775807 := by have := hxn.2.1; unfold maxLen at this; omega
      change wr.cell? ⟨gp, op + i, none⟩ = some (.slice xo xn xc) at hx2
      have HT0 : Hid (TuC w.heap.size w wr g pn cvs (fun j => chK P i 0 j)) := HT.out.congr fun j => (chK_zero P i j).symm
      clear hxr hx1 hxn HT
      go_wp2
      go_loopg [7, 20] xn (fun g2 _v7 v20 wq => ∃ (k : Nat) (cvs : List Value), v20 = .int .i64 k ∧ k ≤ xn ∧ xn - k ≤ g2 ∧ Hid (TuC w.heap.size w wq g pn cvs (fun j => chK P i k j)))
      case atStart => exact ⟨0, _, rfl, by omega, by omega, HT0⟩
      case round =>
        clear HT0 hx2
        obtain ⟨k, cvs, rfl, hkn, hg2, HT⟩ := hrel
        by_cases hlk : k < xn
        · have hlkz : (k : Int) < (xn : Int) := by omega
          obtain ⟨y, gx, ox, hy1, rfl, hy2⟩ := (HX.out.below (Nat.le_refl _) HT.out.frm).at hlk
          obtain ⟨p, rfl, hpn⟩ := HP.out i y (List.mem_of_getElem? hy1)
          have hpz : (p : Int) < (pn : Int) := by omega
          have hcl := HT.out.len
          obtain ⟨u, hu⟩ : ∃ u, cvs[p]? = some u := ⟨_, List.getElem?_eq_getElem (by omega)⟩
          obtain ⟨uo, un, uc, rfl⟩ : ∃ o n c, u = .slice o n c := by obtain ⟨ao, cap, e⟩ := (HT.out.inn p u hu).rg.sl; exact ⟨_, _, _, e⟩
          have hc1 := (HT.out.row.cell hu).1
          change wr.cell? ⟨g, p, none⟩ = some (.slice uo un uc) at hc1
          have HU : Hid (cvs[p]? = some (.slice uo un uc)) := hu
          have HY : Hid ((P.getD i [])[k]? = some (p : Int)) := hy1
          obtain ⟨WA, hWA⟩ : ∃ W, W = wr.alloc (.cells #[.int .i64 (i : Int)] 3) := ⟨_, rfl⟩
          obtain ⟨gb, hgb⟩ : ∃ g, g = wr.heap.size := ⟨_, rfl⟩
          have HBA : Hid (Below wr.heap.size wr WA) := by show Below _ _ _; rw [hWA]; exact belowB _ _
          have HCB : Hid (WA.cell? ⟨gb, 0, none⟩ = some (.int .i64 (i : Int))) := by show _ = _; rw [hWA, hgb, World.cell?_alloc_at _ _ _ _ rfl]; rfl
          have HWA : Hid (WA = wr.alloc (.cells #[.int .i64 (i : Int)] 3)) := hWA
          have HGB : Hid (gb = wr.heap.size) := hgb
          have HLC : Hid ((chK P i k p).length ≤ 100001) := by
            show _ ≤ _
            unfold chK
            rw [List.length_append]
            have := chF_len P p i
            split <;> simp <;> omega
          clear hWA hgb hu hy1 hcl
          go_wp2_with (at_builtin; rw [← HWA.out, ← HGB.out]; refine wpList_pushD _ (fun _ => rfl) rfl _ _ 24 rfl w.heap.size 3 i0 (.int .i64 0) 8 Try.underlying24 hi hz0 hz1 hz2 rfl _ (chK P i k p) rfl ((HT.out.inn p _ HU.out).below HBA.out) gb (i : Int) rfl HCB.out (by have := HLC.out; unfold maxLen; omega) (by have := HLC.out; omega) (Nat.le_trans HT.out.frm.size HBA.out.size) ?_)
          intro ng m ncap W2 ho hg3 hng _
          have HT2 := HT.out.put HT.out.frm.size HU.out HBA.out ho hg3 hng
          obtain ⟨hc2, hf2⟩ := (HT.out.mid HU.out HBA.out hg3).cell HU.out
          change W2.cell? ⟨g, p, none⟩ = some (.slice uo un uc) at hc2
          obtain ⟨WN, hWN⟩ : ∃ W, W = W2.setCell ⟨g, p, none⟩ (.slice (some ⟨ng, 0, none⟩) m ncap) := ⟨_, rfl⟩
          have HT3 : Hid (TuC w.heap.size w WN g pn (cvs.set p (.slice (some ⟨ng, 0, none⟩) m ncap)) (fun j => chK P i (k + 1) j)) := by rw [hWN]; exact HT2.congr fun j => (chK_step (HND.out i) HY.out j).symm
          have HWN : Hid (WN = W2.setCell ⟨g, p, none⟩ (.slice (some ⟨ng, 0, none⟩) m ncap)) := hWN
          clear hWN HT2 ho hg3 hng HT HCB HBA HWA HGB hc1 hy2 HU HY HLC
          go_wp2
          rw [← HWN.out]
          clear HWN hc2 hf2
          go_roundg (xn - (k + 1))
          case measure => omega
          case rel => exact ⟨k + 1, _, by first | rfl | go_num, by omega, Nat.le_refl _, HT3⟩
        · have hlkz : ¬ (k : Int) < (xn : Int) := by omega
          have HT3 : Hid (TuC w.heap.size w wr g pn cvs (fun j => chF P j (i + 1))) := HT.out.congr fun j => chK_end P j (by rw [HX.out.len]; omega)
          clear HT
          go_wp2
          go_roundg (pn - (i + 1))
          case measure => omega
          case rel => exact ⟨i + 1, _, by first | rfl | go_num, by omega, Nat.le_refl _, HT3⟩
    · have hltz : ¬ (i : Int) < (pn : Int) := by omega
      obtain rfl : i = pn := by omega
      go_wp2
      go_ret
      exact ⟨g, rfl, cvs, HT.out⟩
end Go.Proofs.Ytcadljpdokhpmaa

/-
  Proved here: package dag's turned, walked.
  Proved here: package dag's arePoints: are all of a list among the first numbers?
  Proved here: what is wrong with parents, as plain mathematics.
  Proved here: the law's many, long; the document's Same.
  Proved here: layer 16's law: roomy (numbers in memory of their own, with marked room behind) and still (they are as they were).
-/
import Derived.Test.YtcadljpdokhpmabGreatDagHAll
namespace Go.Proofs.YtcadljpdokhpmabGreat
set_option linter.unusedVariables false
open Go.RowKit
theorem wpList_madeD {P : Program} (w : World) {ops : Array Oper} {rest : List Oper} {o : Oper} {a : Act} {Q : Exit → Act → World → Prop}
    (hg : o.guard = none) (l c : Operand) (t : TypeId) (hop : o.op = Op.makeSlice t l c)
    (e : TypeId) (i : TypeInfo) (z : Value) (hzc : z.cells = #[z]) (h1 : P.underlying t = some (.slice e)) (h2 : P.info? e = some i) (h3 : i.zero = some z) (h4 : i.size = 1)
    (kl kc : IntKind) (m : Nat) (hl : a.eval l = .int kl (m : Int)) (hc : a.eval c = .int kc (m : Int)) (b2 : i.bytes * m ≤ 281474976710656) (b3 : m ≤ 9223372036854775807)
    (hK : wpList P ops Q rest (a.put o.dst (.slice (some ⟨w.heap.size, 0, none⟩) m m)) (w.alloc (.cells (Array.replicate m z) e))) :
    wpList P ops Q (o :: rest) a w := by
  refine wpList_plain hg fun K hK' => ?_
  have hb' : (i.bytes : Int) * (m : Int) ≤ 281474976710656 := by
    have h : ((i.bytes * m : Nat) : Int) ≤ 281474976710656 := by omega
    rwa [Int.natCast_mul] at h
  have hrun := run_make (P := P) w t e i z h1 h2 h3 kl kc m m (by omega) (Int.le_refl _) hb' (by omega)
  simp only [Int.toNat_natCast, h4, Nat.mul_one, hzc] at hrun
  rw [made_row] at hrun
  unfold Oper.wp
  simp [execOp, hop, hl, hc, hrun, Result.andThen]
  exact hK' _ _ hK
/-- An append of one thing to a row of the call's own: it stays, or moves to the end. -/
theorem wpList_pushD {α : Type} {enc : α → Value} {P : Program} (w : World) {ops : Array Oper} {rest : List Oper} {o : Oper} {a : Act} {Q : Exit → Act → World → Prop} (hone : ∀ x, (enc x).oneCell' = true) (hg : o.guard = none) (s x : Operand) (t : TypeId) (hop : o.op = .call { callee := .builtin .append, args := #[s, x], argTypes := #[t, t] })
    (B : Nat) (e : TypeId) (i : TypeInfo) (z : Value) (bytes : Nat) (h1 : P.underlying t = some (.slice e)) (h2 : P.info? e = some i) (h3 : i.zero = some z) (h4 : i.size = 1) (h5 : i.bytes = bytes) (h6 : z.cells.size = 1)
    (v : Value) (L : List α) (hs : a.eval s = v) (hown : OG enc B e w v L) (gb : Nat) (sv : α) (hx : a.eval x = .slice (some ⟨gb, 0, none⟩) 1 1) (cb : w.cell? ⟨gb, 0, none⟩ = some (enc sv)) (hl1 : L.length + 1 ≤ maxLen) (hl2 : (L.length + 1) * bytes ≤ 140737488355328) (hB : B ≤ w.heap.size)
    (hK : ∀ ng n ncap w', OG enc B e w' (.slice (some ⟨ng, 0, none⟩) n ncap) (L ++ [sv]) → w.grownBy w' v.ownBlock → (v.ownBlock = some ng ∨ ng = w.heap.size) → ng < w'.heap.size → wpList P ops Q rest (a.put o.dst (.slice (some ⟨ng, 0, none⟩) n ncap)) w') : wpList P ops Q (o :: rest) a w := by
  refine wpList_plain hg fun K hK' => ?_
  refine wp_append_lies _ s x t hop B e i z 1 bytes h1 h2 h3 h4 h5 h6 (by decide) v L.length _ hs hown ⟨gb, 0, none⟩ 1 1 [enc sv] hx rfl (fun j u hj => by match j, hj with | 0, hj => simp at hj; subst hj; rw [Addr.add_lit, Nat.add_zero]; exact cb) (by intro u hu; simp at hu; subst hu; exact hone sv) (by decide) hl1 hl2 hB _ rfl ?_
  intro ng ncap w' ho hg' hgg hlt
  refine hK' _ _ (hK ng _ ncap w' ?_ hg' hgg hlt)
  unfold OG
  rw [List.length_append, List.map_append]
  exact ho
theorem Tryz.infoRD : (Tryz.prog.info? 23).map (fun i => (i.zero, i.size, i.bytes)) = some (some (.slice none 0 0), 1, 24) := by kernel_rfl
theorem OG.made {α : Type} {enc : α → Value} (w : World) (e n : Nat) (z : α) (hn : n ≤ maxLen) : OG enc w.heap.size e (w.alloc (.cells (Array.replicate n (enc z)) e)) (.slice (some ⟨w.heap.size, 0, none⟩) n n) (List.replicate n z) := by
  have h := OG.lit (enc := enc) e w (List.replicate n z) (by rw [List.length_replicate]; exact hn)
  rw [List.length_replicate, List.map_replicate] at h
  have e2 : (List.replicate n (enc z)).toArray = Array.replicate n (enc z) := by simp
  rw [e2] at h
  exact h
set_option maxRecDepth 100000 in
set_option maxHeartbeats 6400000 in
theorem turnedD (pv : Value) (pvs : List Value) (P : List (List Int)) (w : World) (h : RRD w pv pvs P) (hP : ∀ (i : Nat) (x : Int), x ∈ P.getD i [] → ∃ p : Nat, x = (p : Int) ∧ p < P.length) (hnd : ∀ i, (P.getD i []).Nodup) (n : Nat) (hn : P.length = n) (hb : n ≤ 100000) :
    Calls Tryz.prog 42 #[pv] w fun e w' => ∃ g cvs, e = .returned (.slice (some ⟨g, 0, none⟩) n n) ∧ TuC w.heap.size w w' g n cvs (fun j => chF P j n) := by
  obtain ⟨i0, hi, hz0, hz1, hz2⟩ := info_parts Tryz.infoI
  obtain ⟨i1, hi1, ha0, ha1, ha2⟩ := info_parts Tryz.infoRD
  obtain ⟨po, pn, pc, rfl⟩ : ∃ o n c, pv = .slice o n c := by obtain ⟨ao, cap, e⟩ := h.out.sl; exact ⟨_, _, _, e⟩
  obtain rfl : pn = n := by rw [← hn, ← h.len, h.out.len]
  obtain ⟨W1, hW1⟩ : ∃ W1, W1 = w.alloc (.cells (Array.replicate pn (.slice none 0 0)) 23) := ⟨_, rfl⟩
  obtain ⟨g, hg⟩ : ∃ g, g = w.heap.size := ⟨_, rfl⟩
  have HT : Hid (TuC w.heap.size w W1 g pn (List.replicate pn (.slice none 0 0)) (fun j => chF P j 0)) := by
    refine ⟨by rw [hW1]; exact belowB w _, by rw [hW1, hg]; exact OG.made (enc := id) w _ pn (.slice none 0 0) (by unfold maxLen; omega), fun j v hv => ?_, fun i j u v _ hu _ q hq => ?_⟩
    · rw [List.getElem?_replicate] at hv
      split at hv
      · simp only [Option.some.injEq] at hv; subst hv; exact OG.nil _ _ _
      · simp at hv
    · rw [List.getElem?_replicate] at hu
      split at hu
      · simp only [Option.some.injEq] at hu; subst hu; simp [Value.ownBlock] at hq
      · simp at hu
  have HP : Hid (∀ (i : Nat) (x : Int), x ∈ P.getD i [] → ∃ p : Nat, x = (p : Int) ∧ p < pn) := fun i x hx => by rw [← hn]; exact hP i x hx
  have HND : Hid (∀ i, (P.getD i []).Nodup) := hnd
  have HR : Hid (RRD w (.slice po pn pc) pvs P) := h
  have HN : Hid (P.length = pn) := hn
  have HW1 : Hid (W1 = w.alloc (.cells (Array.replicate pn (.slice none 0 0)) 23)) := hW1
  have HG : Hid (g = w.heap.size) := hg
  clear hP hnd h hn hW1 hg
  go_enter Tryz.func42, Tryz.ntmps42
  go_upto_region 2 with (at_make; refine wpList_madeD _ rfl _ _ 22 rfl 23 i1 (.slice none 0 0) rfl Tryz.underlying22 hi1 ha0 ha1 _ _ pn rfl rfl (by rw [ha2]; omega) (by omega) ?_)
  rw [← HW1.out, ← HG.out]
  clear HW1
  go_wp2
  go_loopg [4, 5, 7, 13] pn (fun g1 _v4 _v5 _v7 v13 wr => ∃ (i : Nat) (cvs : List Value), v13 = .int .i64 i ∧ i ≤ pn ∧ pn - i ≤ g1 ∧ Hid (TuC w.heap.size w wr g pn cvs (fun j => chF P j i)))
  case atStart => exact ⟨0, _, rfl, by omega, by omega, HT⟩
  case round =>
    clear HT
    obtain ⟨i, cvs, rfl, hin, hg1, HT⟩ := hrel
    by_cases hlt : i < pn
    · have hltz : (i : Int) < (pn : Int) := by omega
      obtain ⟨x, gp, op, hx1, rfl, hx2⟩ := (HR.out.below (Nat.le_refl _) HT.out.frm).out.at hlt
      have hxr := HR.out.inn i x hx1
      obtain ⟨xo, xn, xc, rfl⟩ : ∃ o n c, x = .slice o n c := by obtain ⟨ao, cap, e⟩ := hxr.sl; exact ⟨_, _, _, e⟩
      have HX : Hid (RG (Value.int .i64) w (.slice xo xn xc) (P.getD i [])) := hxr
      have hxn := hxr.room
      have hxm : xn ≤ 9223372036854775807 := by have := hxn.2.1; unfold maxLen at this; omega
      change wr.cell? ⟨gp, op + i, none⟩ = some (.slice xo xn xc) at hx2
      have HT0 : Hid (TuC w.heap.size w wr g pn cvs (fun j => chK P i 0 j)) := HT.out.congr fun j => (chK_zero P i j).symm
      clear hxr hx1 hxn HT
      go_wp2
      go_loopg [7, 20] xn (fun g2 _v7 v20 wq => ∃ (k : Nat) (cvs : List Value), v20 = .int .i64 k ∧ k ≤ xn ∧ xn - k ≤ g2 ∧ Hid (TuC w.heap.size w wq g pn cvs (fun j => chK P i k j)))
      case atStart => exact ⟨0, _, rfl, by omega, by omega, HT0⟩
      case round =>
        clear HT0 hx2
        obtain ⟨k, cvs, rfl, hkn, hg2, HT⟩ := hrel
        by_cases hlk : k < xn
        · have hlkz : (k : Int) < (xn : Int) := by omega
          obtain ⟨y, gx, ox, hy1, rfl, hy2⟩ := (HX.out.below (Nat.le_refl _) HT.out.frm).at hlk
          obtain ⟨p, rfl, hpn⟩ := HP.out i y (List.mem_of_getElem? hy1)
          have hpz : (p : Int) < (pn : Int) := by omega
          have hcl := HT.out.len
          obtain ⟨u, hu⟩ : ∃ u, cvs[p]? = some u := ⟨_, List.getElem?_eq_getElem (by omega)⟩
          obtain ⟨uo, un, uc, rfl⟩ : ∃ o n c, u = .slice o n c := by obtain ⟨ao, cap, e⟩ := (HT.out.inn p u hu).rg.sl; exact ⟨_, _, _, e⟩
          have hc1 := (HT.out.row.cell hu).1
          change wr.cell? ⟨g, p, none⟩ = some (.slice uo un uc) at hc1
          have HU : Hid (cvs[p]? = some (.slice uo un uc)) := hu
          have HY : Hid ((P.getD i [])[k]? = some (p : Int)) := hy1
          obtain ⟨WA, hWA⟩ : ∃ W, W = wr.alloc (.cells #[.int .i64 (i : Int)] 3) := ⟨_, rfl⟩
          obtain ⟨gb, hgb⟩ : ∃ g, g = wr.heap.size := ⟨_, rfl⟩
          have HBA : Hid (Below wr.heap.size wr WA) := by show Below _ _ _; rw [hWA]; exact belowB _ _
          have HCB : Hid (WA.cell? ⟨gb, 0, none⟩ = some (.int .i64 (i : Int))) := by show _ = _; rw [hWA, hgb, World.cell?_alloc_at _ _ _ _ rfl]; rfl
          have HWA : Hid (WA = wr.alloc (.cells #[.int .i64 (i : Int)] 3)) := hWA
          have HGB : Hid (gb = wr.heap.size) := hgb
          have HLC : Hid ((chK P i k p).length ≤ 100001) := by
            show _ ≤ _
            unfold chK
            rw [List.length_append]
            have := chF_len P p i
            split <;> simp <;> omega
          clear hWA hgb hu hy1 hcl
          go_wp2_with (at_builtin; rw [← HWA.out, ← HGB.out]; refine wpList_pushD _ (fun _ => rfl) rfl _ _ 23 rfl w.heap.size 3 i0 (.int .i64 0) 8 Tryz.underlying23 hi hz0 hz1 hz2 rfl _ (chK P i k p) rfl ((HT.out.inn p _ HU.out).below HBA.out) gb (i : Int) rfl HCB.out (by have := HLC.out; unfold maxLen; omega) (by have := HLC.out; omega) (Nat.le_trans HT.out.frm.size HBA.out.size) ?_)
          intro ng m ncap W2 ho hg3 hng _
          have HT2 := HT.out.put HT.out.frm.size HU.out HBA.out ho hg3 hng
          obtain ⟨hc2, hf2⟩ := (HT.out.mid HU.out HBA.out hg3).cell HU.out
          change W2.cell? ⟨g, p, none⟩ = some (.slice uo un uc) at hc2
          obtain ⟨WN, hWN⟩ : ∃ W, W = W2.setCell ⟨g, p, none⟩ (.slice (some ⟨ng, 0, none⟩) m ncap) := ⟨_, rfl⟩
          have HT3 : Hid (TuC w.heap.size w WN g pn (cvs.set p (.slice (some ⟨ng, 0, none⟩) m ncap)) (fun j => chK P i (k + 1) j)) := by rw [hWN]; exact HT2.congr fun j => (chK_step (HND.out i) HY.out j).symm
          have HWN : Hid (WN = W2.setCell ⟨g, p, none⟩ (.slice (some ⟨ng, 0, none⟩) m ncap)) := hWN
          clear hWN HT2 ho hg3 hng HT HCB HBA HWA HGB hc1 hy2 HU HY HLC
          go_wp2
          rw [← HWN.out]
          clear HWN hc2 hf2
          go_roundg (xn - (k + 1))
          case measure => omega
          case rel => exact ⟨k + 1, _, by first | rfl | go_num, by omega, Nat.le_refl _, HT3⟩
        · have hlkz : ¬ (k : Int) < (xn : Int) := by omega
          have HT3 : Hid (TuC w.heap.size w wr g pn cvs (fun j => chF P j (i + 1))) := HT.out.congr fun j => chK_end P j (by rw [HX.out.len]; omega)
          clear HT
          go_wp2
          go_roundg (pn - (i + 1))
          case measure => omega
          case rel => exact ⟨i + 1, _, by first | rfl | go_num, by omega, Nat.le_refl _, HT3⟩
    · have hltz : ¬ (i : Int) < (pn : Int) := by omega
      obtain rfl : i = pn := by omega
      go_wp2
      go_ret
      exact ⟨g, rfl, cvs, HT.out⟩
end Go.Proofs.YtcadljpdokhpmabGreat

namespace Go.Proofs.YtcadljpdokhpmabGreat
set_option linter.unusedVariables false
open Go.RowKit
theorem cell_drewD {w : World} {p : Addr} {v : Value} (h : w.cell? p = some v) (q : Nat) : (w.drewN q).cell? p = some v := by
  unfold World.cell? at h ⊢
  rw [heap_drewG]
  exact h
/-- No point. -/
def noPt (n x : Int) : Bool := decide (x < 0) || decide (n ≤ x)
def noPts (n : Int) (zs : List Int) : Bool := zs.any (noPt n)
set_option maxRecDepth 100000 in
set_option maxHeartbeats 800000 in
theorem noPtD (cb : Nat) (n x : Int) (w : World) (hc : w.cell? ⟨cb, 0, none⟩ = some (.int .i64 n)) : Calls Tryz.prog 63 #[.int .i64 x, .pointer (some ⟨cb, 0, none⟩)] w fun e w' => e = .returned (.bool (noPt n x)) ∧ w' = w := by
  by_cases h : x < 0
  · have hr : noPt n x = true := by simp [noPt, h]
    rw [hr]
    clear hr
    go_enter Tryz.func63, Tryz.ntmps63
    go_wp2
    go_ret
    exact ⟨rfl, rfl⟩
  · have hr : noPt n x = decide (n ≤ x) := by simp [noPt, h]
    rw [hr]
    clear hr
    go_enter Tryz.func63, Tryz.ntmps63
    go_wp2
    go_ret
    exact ⟨rfl, rfl⟩
set_option maxRecDepth 100000 in
set_option maxHeartbeats 1600000 in
theorem indexFD (cb : Nat) (m : Int) (v : Value) (zs : List Int) (w : World) (hv : RG (Value.int .i64) w v zs) (hcb : w.cell? ⟨cb, 0, none⟩ = some (.int .i64 m)) :
    Calls Tryz.prog 56 #[v, .func (.func 63) #[] #[.pointer (some ⟨cb, 0, none⟩)]] w fun e w' => ∃ r, e = .returned (.int .i64 r) ∧ Found r (noPts m zs) ∧ ∃ q, w' = w.drewN q := by
  obtain ⟨ao, cap, rfl, hc, hm, hnil, hcell⟩ := hv
  clear hnil
  unfold maxLen at hm
  obtain ⟨n, hn⟩ : ∃ n, zs.length = n := ⟨_, rfl⟩
  rw [hn] at hc ⊢
  have HN : Hid (zs.length = n) := hn
  have HC : Hid (∀ i x, zs[i]? = some x → ∃ g o, ao = some ⟨g, o, none⟩ ∧ w.cell? ⟨g, o + i, none⟩ = some (Value.int .i64 x)) := hcell
  clear hn hcell
  go_enter Tryz.func56, Tryz.ntmps56
  go_wp2
  go_loopw [8] (fun t wr => ∃ k : Nat, k ≤ n ∧ t = .int .i64 k ∧ noPts m (zs.take k) = false ∧ ∃ q, wr = w.drewN q) (fun t _ => n - (intOf t).toNat)
  case atStart => exact ⟨0, Nat.zero_le _, rfl, rfl, 0, rfl⟩
  case round =>
    obtain ⟨k, hk, rfl, hno, q, rfl⟩ := hrel
    by_cases hkn : k < n
    · obtain ⟨x, hx0⟩ : ∃ x, zs[k]? = some x := ⟨_, List.getElem?_eq_getElem (by rw [HN.out]; exact hkn)⟩
      obtain ⟨b, off, rfl, hc0⟩ := HC.out k x hx0
      have hlt : (k : Int) < (n : Int) := by omega
      have hst : noPts m (zs.take (k + 1)) = (noPts m (zs.take k) || noPt m (zs.getD k 0)) := any_take (by rw [HN.out]; exact hkn)
      have hyes : noPt m (zs.getD k 0) = true → noPts m zs = true := any_at (by rw [HN.out]; exact hkn)
      have e0 : zs.getD k 0 = x := by rw [List.getD_eq_getElem?_getD, hx0]; rfl
      rw [e0] at hst hyes
      rw [hno, Bool.false_or] at hst
      have HS : Hid (noPts m (zs.take (k + 1)) = noPt m x) := hst
      have HY : Hid (noPt m x = true → noPts m zs = true) := hyes
      have cq : ∀ q, (w.drewN q).cell? ⟨cb, 0, none⟩ = some (.int .i64 m) := fun q => cell_drewD hcb q
      have HB : Hid (∀ q, Calls Tryz.prog 63 #[.int .i64 x, .pointer (some ⟨cb, 0, none⟩)] (w.drewN q) fun e w' => e = .returned (.bool (noPt m x)) ∧ w' = w.drewN q) := fun q => noPtD cb m x (w.drewN q) (cq q)
      clear hst hyes e0 hx0 cq
      by_cases hx : noPt m x = true
      · go_wp2_with (go_at_call 63; refine (HB.out _).mono ?_; rintro e w' ⟨rfl, rfl⟩)
        go_ret
        exact ⟨_, rfl, ⟨fun _ => ⟨by omega, by omega⟩, fun h => absurd (HY.out hx) (by rw [h]; exact Bool.false_ne_true)⟩, _, rfl⟩
      · have hx : noPt m x = false := by simpa using hx
        go_wp2_with (go_at_call 63; refine (HB.out _).mono ?_; rintro e w' ⟨rfl, rfl⟩)
        go_roundw
        case rel => exact ⟨k + 1, by omega, by go_num, by rw [HS.out]; exact hx, _, rfl⟩
        case measure => simp [intOf]; omega
    · have hge : ¬ (k : Int) < (n : Int) := by omega
      go_wp2
      go_ret
      have hkn' : k = zs.length := by rw [HN.out]; omega
      rw [hkn', List.take_length] at hno
      exact ⟨-1, rfl, ⟨fun h => absurd h (by rw [hno]; exact Bool.false_ne_true), fun _ => rfl⟩, q, rfl⟩
set_option maxHeartbeats 400000 in
theorem containsFD (cb : Nat) (m : Int) (v : Value) (zs : List Int) (w : World) (hv : RG (Value.int .i64) w v zs) (hcb : w.cell? ⟨cb, 0, none⟩ = some (.int .i64 m)) :
    Calls Tryz.prog 32 #[v, .func (.func 63) #[] #[.pointer (some ⟨cb, 0, none⟩)]] w fun e w' => e = .returned (.bool (noPts m zs)) ∧ ∃ q, w' = w.drewN q := by
  have h1 := indexFD cb m v zs w hv hcb
  obtain ⟨ao, cap, rfl, -⟩ := hv
  go_enter Tryz.func32, Tryz.ntmps32
  go_wp2_with (go_at_call 56; refine h1.mono ?_; rintro e w' ⟨r, rfl, hf, q, rfl⟩)
  go_ret
  exact ⟨by rw [← hf.dec]; rfl, q, rfl⟩
set_option maxRecDepth 100000 in
set_option maxHeartbeats 800000 in
theorem arePointsD (m : Int) (v : Value) (zs : List Int) (w : World) (hv : RG (Value.int .i64) w v zs) :
    Calls Tryz.prog 48 #[.int .i64 m, v] w fun e w' => e = .returned (.bool (!noPts m zs)) ∧ Below w.heap.size w w' := by
  obtain ⟨W1, hW1⟩ : ∃ W1, W1 = w.alloc (.cells #[.int .i64 m] 3) := ⟨_, rfl⟩
  obtain ⟨g, hg⟩ : ∃ g, g = w.heap.size := ⟨_, rfl⟩
  have b0 : Below w.heap.size w W1 := by rw [hW1]; exact belowB w _
  have hcb : W1.cell? ⟨g, 0, none⟩ = some (.int .i64 m) := by rw [hW1, hg, World.cell?_alloc_at _ _ _ _ rfl]; rfl
  have C : Hid _ := containsFD g m v zs W1 (hv.below (Nat.le_refl _) b0) hcb
  have HB : Hid (Below w.heap.size w W1) := b0
  obtain ⟨ao, cap, rfl, -⟩ := hv
  have HW1 : Hid (W1 = w.alloc (.cells #[.int .i64 m] 3)) := hW1
  have HG : Hid (g = w.heap.size) := hg
  clear hW1 hg b0 hcb
  go_enter Tryz.func48, Tryz.ntmps48
  go_upto_region 1 with fail
  rw [← HW1.out, ← HG.out]
  clear HW1
  go_wp2_with fail
  refine Calls.mono C.out ?_
  rintro e y ⟨rfl, q, rfl⟩
  go_wp2
  go_ret
  exact ⟨rfl, below_drewN HB.out q⟩
end Go.Proofs.YtcadljpdokhpmabGreat

namespace Go.Proofs.YtcadljpdokhpmabGreat
set_option linter.unusedVariables false
/-- Is some parent no point? -/
def outsB (P : List (List Int)) : Bool := P.any (noPts (P.length : Int))
/-- Comes a number again? -/
def twiceB (zs : List Int) : Bool := decide ¬ zs.Nodup
def twicesB (P : List (List Int)) : Bool := P.any twiceB
/-- What checkLists answers. -/
def clE (P : List (List Int)) : Int := if outsB P then 3 else if twicesB P then 40 else 0
theorem outs_no {P : List (List Int)} (h : outsB P = false) (i : Nat) (x : Int) (hx : x ∈ P.getD i []) : ∃ p : Nat, x = (p : Int) ∧ p < P.length := by
  by_cases hi : i < P.length
  · have h1 : noPts (P.length : Int) (P.getD i []) = false := by
      have := List.any_eq_false.1 h (P.getD i []) (by rw [List.getD_eq_getElem?_getD, List.getElem?_eq_getElem hi]; exact List.getElem_mem hi)
      simpa using this
    have h2 := List.any_eq_false.1 h1 x hx
    have h3 : ¬ x < 0 ∧ ¬ (P.length : Int) ≤ x := by simpa [noPt] using h2
    exact ⟨x.toNat, by omega, by omega⟩
  · rw [List.getD_eq_getElem?_getD, List.getElem?_eq_none (by omega)] at hx
    simp at hx
theorem twices_no {P : List (List Int)} (h : twicesB P = false) (i : Nat) : (P.getD i []).Nodup := by
  by_cases hi : i < P.length
  · have := List.any_eq_false.1 h (P.getD i []) (by rw [List.getD_eq_getElem?_getD, List.getElem?_eq_getElem hi]; exact List.getElem_mem hi)
    simpa [twiceB] using this
  · rw [List.getD_eq_getElem?_getD, List.getElem?_eq_none (by omega)]
    exact List.nodup_nil
theorem anyP_take {p : List Int → Bool} {P : List (List Int)} {k : Nat} (hk : k < P.length) : (P.take (k + 1)).any p = ((P.take k).any p || p (P.getD k [])) := by
  rw [List.take_add_one, List.any_append, List.getD_eq_getElem?_getD, List.getElem?_eq_getElem hk]
  simp
theorem anyP_at {p : List Int → Bool} {P : List (List Int)} {k : Nat} (hk : k < P.length) (h : p (P.getD k []) = true) : P.any p = true := by
  rw [List.getD_eq_getElem?_getD, List.getElem?_eq_getElem hk] at h
  exact List.any_eq_true.2 ⟨_, List.getElem_mem hk, h⟩
/-- What the list of last points holds: by it one sees whether a parent came already for this point. -/
def LaI (P : List (List Int)) (i k : Nat) (La : List Int) : Prop := La.length = P.length ∧ ∀ p : Nat, p < P.length → (La.getD p 0 < (i : Int) + 1) ∧ (La.getD p 0 = (i : Int) ↔ (p : Int) ∈ (P.getD i []).take k)
theorem LaI.next {P : List (List Int)} {i k : Nat} {La : List Int} (h : LaI P i k La) : LaI P (i + 1) 0 La := ⟨h.1, fun p hp => ⟨by have := (h.2 p hp).1; omega, ⟨fun e => by have := (h.2 p hp).1; omega, fun e => by simp at e⟩⟩⟩
theorem LaI.step {P : List (List Int)} {i k p : Nat} {La : List Int} (h : LaI P i k La) (hp : p < P.length) (hk : (P.getD i [])[k]? = some (p : Int)) : LaI P i (k + 1) (La.set p (i : Int)) := by
  refine ⟨by rw [List.length_set]; exact h.1, fun q hq => ?_⟩
  rw [getD_set (by rw [h.1]; exact hp)]
  have e1 : (P.getD i []).take (k + 1) = (P.getD i []).take k ++ [(p : Int)] := by rw [List.take_add_one, hk]; rfl
  rw [e1, List.mem_append, List.mem_singleton]
  by_cases e : q = p
  · subst e; rw [if_pos rfl]; exact ⟨by omega, ⟨fun _ => Or.inr rfl, fun _ => rfl⟩⟩
  · rw [if_neg e]
    refine ⟨(h.2 q hq).1, (h.2 q hq).2.trans ⟨Or.inl, fun h2 => h2.resolve_right (by omega)⟩⟩
theorem LaI.start {P : List (List Int)} {n : Nat} (hn : P.length = n) : LaI P 0 0 (List.replicate n (-1)) := ⟨by simp [hn], fun p hp => by
  rw [List.getD_eq_getElem?_getD, List.getElem?_replicate, if_pos (by omega)]
  simp⟩
theorem nodup_take {zs : List Int} {k : Nat} {x : Int} (h : (zs.take k).Nodup) (hk : zs[k]? = some x) (hn : x ∉ zs.take k) : (zs.take (k + 1)).Nodup := by
  rw [List.take_add_one, hk, List.nodup_append]
  refine ⟨h, by simp, fun a ha b hb e => ?_⟩
  have : b = x := by simpa using hb
  subst this; subst e; exact hn ha
theorem twice_at {zs : List Int} {k : Nat} {x : Int} (hk : zs[k]? = some x) (hn : x ∈ zs.take k) : twiceB zs = true := by
  unfold twiceB
  refine decide_eq_true fun h => ?_
  have h2 : (zs.take (k + 1)).Nodup := h.sublist (List.take_sublist _ _)
  rw [List.take_add_one, hk, List.nodup_append] at h2
  exact h2.2.2 x hn x (by simp) rfl
end Go.Proofs.YtcadljpdokhpmabGreat

namespace Go.Proofs.YtcadljpdokhpmabGreat
set_option linter.unusedVariables false
open Go.RowKit
/-- How many parents the first points have. -/
def smL (P : List (List Int)) : Nat → Nat
  | 0 => 0
  | i + 1 => smL P i + (P.getD i []).length
theorem smL_le {P : List (List Int)} (h : ∀ i, (P.getD i []).length ≤ 1048576) (i : Nat) : smL P i ≤ i * 1048576 := by
  induction i with
  | zero => simp [smL]
  | succ i ih => simp only [smL]; have := h i; omega
theorem smL_mono {P : List (List Int)} {i j : Nat} (h : i ≤ j) : smL P i ≤ smL P j := by
  induction j with
  | zero => rw [Nat.le_zero.1 h]; exact Nat.le_refl _
  | succ j ih =>
    by_cases e : i = j + 1
    · rw [e]; exact Nat.le_refl _
    · have := ih (by omega); simp only [smL]; omega
/-- What many answers. -/
def manyB (P : List (List Int)) : Bool := decide (200 < P.length) || decide (2000 < smL P P.length)
/-- The marks behind a list that is lent. -/
def mrks : List Int := [-90, -91, -92, -93, -94, -95]
end Go.Proofs.YtcadljpdokhpmabGreat

namespace Go.Proofs.YtcadljpdokhpmabGreat
set_option linter.unusedVariables false
open Go.RowKit
/-- The marks behind a list. -/
def mk16 : List Int := [-77, -77, -77, -77]
/-- A list with its first marks. -/
def rmL (L : List Int) (i : Nat) : List Int := L ++ List.replicate i (-77)
theorem rmL_zero (L : List Int) : rmL L 0 = L := by simp [rmL]
theorem rmL_succ (L : List Int) (i : Nat) : rmL L (i + 1) = rmL L i ++ [-77] := by unfold rmL; rw [List.append_assoc, ← List.replicate_succ']
theorem rmL_len (L : List Int) (i : Nat) : (rmL L i).length = L.length + i := by simp [rmL]
theorem rmL_four (L : List Int) : rmL L 4 = L ++ mk16 := rfl
/-- A list of the call's own with four marks behind it. -/
def RmB (B : Nat) (w : World) (u : Value) (L : List Int) : Prop := ∃ g cap, u = .slice (some ⟨g, 0, none⟩) L.length cap ∧ OG (Value.int .i64) B 3 w (.slice (some ⟨g, 0, none⟩) (L.length + 4) cap) (L ++ mk16)
theorem RmB.below {B : Nat} {w w' : World} {u : Value} {L : List Int} (h : RmB B w u L) (hb : Below w.heap.size w w') : RmB B w' u L := by
  obtain ⟨g, cap, h1, h2⟩ := h
  exact ⟨g, cap, h1, h2.below hb⟩
theorem RmB.mono {B B' : Nat} {w : World} {u : Value} {L : List Int} (h : RmB B w u L) (hB : B' ≤ B) : RmB B' w u L := by
  obtain ⟨g, cap, h1, h2⟩ := h
  exact ⟨g, cap, h1, h2.mono hB⟩
theorem RmB.of_blocks {B : Nat} {w w' : World} {u : Value} {L : List Int} (h : RmB B w u L) (hb : ∀ q, B ≤ q → q < w.heap.size → u.ownBlock = some q → w'.heap[q]? = w.heap[q]?) : RmB B w' u L := by
  obtain ⟨g, cap, h1, h2⟩ := h
  exact ⟨g, cap, h1, h2.of_blocks fun q hq => hb q (h2.lt q hq).1 (h2.lt q hq).2 (by rw [h1]; exact hq)⟩
theorem RmB.lt {B : Nat} {w : World} {u : Value} {L : List Int} (h : RmB B w u L) : ∀ q, u.ownBlock = some q → B ≤ q ∧ q < w.heap.size := by
  obtain ⟨g, cap, rfl, h2⟩ := h
  exact fun q hq => h2.lt q hq
theorem RmB.rg {B : Nat} {w : World} {u : Value} {L : List Int} (h : RmB B w u L) : RG (Value.int .i64) w u L := by
  obtain ⟨g, cap, rfl, h2⟩ := h
  have h3 := h2.rg.cut (m := L.length) (by omega)
  rw [List.take_left] at h3
  exact h3
end Go.Proofs.YtcadljpdokhpmabGreat

/-
  Proved here: what quoted of package lex answers.
-/
import Derived.Test.YtlemnbegblpllaaDoorLexL
import Derived.Test.YtlemnbegblpllaaDoorBytes
namespace Go.Proofs.YtlemnbegblpllaaDoor
open Go.RowKit

/-- A text's bytes from a place on, and where it ends. -/
def qF (s : ByteArray) : Nat → Nat → List Nat → Option (List Nat × Nat)
  | 0, _, _ => none
  | n + 1, a, acc =>
    if a < s.size then
      if atB s a = 34 then some (acc, a + 1)
      else if atB s a = 10 then none
      else if atB s a = 92 then (if atB s (a + 1) = 34 ∨ atB s (a + 1) = 92 then qF s n (a + 2) (acc ++ [atB s (a + 1)]) else none)
      else qF s n (a + 1) (acc ++ [atB s a])
    else none
/-- Bytes as a text. -/
def bts (l : List Nat) : ByteArray := strOfNums (l.map fun (x : Nat) => (x : Int))
/-- What quoted tells. -/
def quoteTold (s : ByteArray) (i : Nat) : Option (List Nat × Nat) → Out
  | some (l, j) => .tok 3 (bts l) (lineOf s i) (colOf s i) j
  | none => .flt 21 (lineOf s i) (colOf s i) (s.extract i (i + 1))
def quoteOut (s : ByteArray) (i : Nat) : Out := quoteTold s i (qF s (s.size + 1) (i + 1) [])
theorem Tryd.infoYL : (Tryd.prog.info? 5).map (fun i => (i.zero, i.size, i.bytes)) = some (some (.int .u8 0), 1, 1) := by kernel_rfl
theorem conv_own {B : Nat} {w : World} {v : Value} {acc : List Nat} (h : OwnY B w v acc) : (convert 66 9 v).run Tryd.prog w = .ok (.string (bts acc)) w := by
  rcases h.2 with ⟨hv, hn⟩ | ⟨g', cap', cur, h1, h3, h4, h5, h6, h7, h8⟩
  · rw [hv]
    have ha : acc = [] := List.eq_nil_of_length_eq_zero hn
    subst ha
    exact run_convert_bytes_nil w 66 5 Tryd.underlying66 Tryd.underlying5 _ _ 9 Tryd.underlying9
  · subst h1
    refine run_convert_bytes_arg (P := Tryd.prog) w 66 5 Tryd.underlying66 Tryd.underlying5 g' 0 acc.length cap' (acc.map fun (x : Nat) => (x : Int)) (by rw [List.length_map]) (fun i hi => ?_) 9 Tryd.underlying9
    have := (OwnY.cell h (k := i) hi).1
    rw [Nat.zero_add, this]
    congr 2
    rw [List.getD_eq_getElem?_getD, List.getD_eq_getElem?_getD, List.getElem?_map]
    cases acc[i]? <;> rfl
/-- What the loop of quoted keeps. -/
def QIn (w : World) (g r B : Nat) (s : ByteArray) (i : Nat) (res : Option (List Nat × Nat)) (u t : Value) (wr : World) : Prop :=
  ∃ (n k : Nat) (acc : List Nat), i < k ∧ s.size < n + k ∧ k ≤ s.size + 1 ∧ acc.length ≤ k ∧ t = .int .i64 (k : Int) ∧ qF s n k acc = res ∧ OwnY B wr u acc ∧ RdC wr g s i ∧ TkC wr r (.int .i8 0) (.string ⟨#[]⟩) (.int .i64 0) (.int .i64 0) ∧ Off g w wr ∧ B ≤ wr.heap.size ∧ NoNl s i k

set_option maxRecDepth 100000 in
set_option maxHeartbeats 6400000 in
theorem quoted_any (g : Nat) (s : ByteArray) (i : Nat) (w : World) (h : RdC w g s i) (hi : atB s i = 34) (hz : s.size < 4294967281) :
    Calls Tryd.prog 42 #[.pointer (some ⟨g, 0, none⟩)] w fun e w' => ∃ v, e = .returned v ∧ NxEnd w g s (quoteOut s i) v w' := by
  obtain ⟨res, hres⟩ : ∃ res, res = qF s (s.size + 1) (i + 1) [] := ⟨_, rfl⟩
  unfold quoteOut
  rw [← hres]
  have hlt : i < s.size := atB_in (by rw [hi]; decide)
  have hn0 : NoNl s i (i + 1) := NoNl.one (by rw [hi]; decide)
  obtain ⟨iY, hiY, hzY0, hzY1, hzY2⟩ := info_parts Tryd.infoYL
  have hfl := fun w h => fault_any g s i (i + 1) 21 (lineOf s i) (colOf s i) w h (by omega) (by omega) (by omega) rfl rfl
  have efl : quoteTold s i none = .flt 21 (lineOf s i) (colOf s i) (s.extract i (i + 1)) := rfl
  rw [← efl] at hfl
  clear efl hi
  obtain ⟨W1, hW1⟩ : ∃ W1, W1 = w.alloc (.cells #[.int .i8 0, .string ⟨#[]⟩, .int .i64 0, .int .i64 0] 38) := ⟨_, rfl⟩
  have hk : RdC W1 g s i := by rw [hW1]; exact h.below (belowA1 w _)
  have hr : TkC W1 w.heap.size (.int .i8 0) (.string ⟨#[]⟩) (.int .i64 0) (.int .i64 0) := by rw [hW1]; exact tkc_new _ rfl
  have hb1 : Off g w W1 := by rw [hW1]; exact Off.of (belowA1 w _)
  have hgr : g < w.heap.size := h.lt
  have hWr : w.alloc (.cells #[.int .i8 0, .string ⟨#[]⟩, .int .i64 0, .int .i64 0] 38) = W1 := hW1.symm
  obtain ⟨c0, c1, c2, c3⟩ := hk.cells
  clear hW1 h
  go_enter Tryd.func42, Tryd.ntmps42
  go_wp2_with fail
  clear hWr
  obtain ⟨r, hr0⟩ : ∃ r, r = w.heap.size := ⟨_, rfl⟩
  rw [← hr0] at hr hgr ⊢
  have HR : Hid (w.heap.size ≤ r) := Nat.le_of_eq hr0.symm
  have hrg : r ≠ g := by omega
  clear hr0 hgr
  have hcast : ((i + 1 : Nat) : Int) = (i : Int) + 1 := by omega
  rw [hcast] at hfl
  have HLT : Hid (r < W1.heap.size ∧ g < W1.heap.size) := ⟨hr.lt, hk.lt⟩
  go_loopw [4, 5] (QIn w g r W1.heap.size s i res) (fun _ t _ => s.size + 1 - (intOf t).toNat)
  case atStart => exact ⟨s.size + 1, i + 1, [], by omega, by omega, by omega, Nat.zero_le _, by rw [hcast], hres.symm, OwnY.of_nil _ _, hk, hr, hb1, Nat.le_refl _, hn0⟩
  case round =>
    clear hk hr hb1 c0 c1 c2 c3 hres hn0
    obtain ⟨n, k, acc, hik, hn, hks, hal, rfl, hq, hoy, hk, hr, hb1, hB, hnl⟩ := hrel
    obtain ⟨c0, c1, c2, c3⟩ := hk.cells
    clear c2 c3
    by_cases hke : k < s.size
    · have hge : (k : Int) < (s.size : Int) := by omega
      obtain ⟨n, rfl⟩ : ∃ q, n = q + 1 := ⟨n - 1, by omega⟩
      unfold qF at hq
      rw [if_pos hke] at hq
      have hb : s[k].toNat = atB s k := by unfold atB; rw [dif_pos hke]; rfl
      have hcast2 : ((k + 1 : Nat) : Int) = (k : Int) + 1 := by omega
      by_cases h34 : atB s k = 34
      · rw [if_pos h34] at hq
        have x34 : ((s[k].toNat : Int) == 34) = true := by rw [hb, h34]; rfl
        have hcv := conv_own hoy
        obtain ⟨t1, t2⟩ := (hnl.app (NoNl.one (by rw [h34]; decide))).stays (by omega)
        have htk := token_any g s i (k + 1) 3 (bts acc) (lineOf s i) (colOf s i) wr hk (by omega) t1 t2 rfl rfl
        rw [hcast2] at htk
        replace htk := htk.mono (R' := fun e w' => ∃ v, e = .returned v ∧ NxEnd wr g s (quoteTold s i (some (acc, k + 1))) v w') fun _ _ ⟨h1, h2, h3⟩ => ⟨_, h1, rfl, h2, h3⟩
        subst hq
        clear hoy hB hnl hn hks hal hik h34 hb t1 t2 hcast hcast2 hiY hzY0 hzY1 hzY2 iY HLT hfl
        skip
        go_wp2_with fail
        clear hcv
        refine htk.mono ?_
        rintro e w4 ⟨v, rfl, hN⟩
        clear htk
        obtain ⟨o4, va, vb, vc, vd, ve, rfl⟩ := hN.see
        have hr4 := hr.off o4 hrg
        have HE : Hid (NxEnd w g s (quoteTold s i (some (acc, k + 1))) _ ((((w4.setCell ⟨r, 0, none⟩ (.int .i8 va)).setCell ⟨r, 1, none⟩ (.string vb)).setCell ⟨r, 2, none⟩ (.int .i64 vc)).setCell ⟨r, 3, none⟩ (.int .i64 vd))) := hN.wrap hb1 HR.out hr.lt hrg.symm _ _ _ _
        have HW : Hid (TkC ((((w4.setCell ⟨r, 0, none⟩ (.int .i8 va)).setCell ⟨r, 1, none⟩ (.string vb)).setCell ⟨r, 2, none⟩ (.int .i64 vc)).setCell ⟨r, 3, none⟩ (.int .i64 vd)) r (.int .i8 va) (.string vb) (.int .i64 vc) (.int .i64 vd)) := hr4.write _ _ _ _
        obtain ⟨z0, z1, z2, z3⟩ := hr4.cells
        have f0 := hr4.thaw 0
        have f1 := hr4.thaw 1
        have f2 := hr4.thaw 2
        have f3 := hr4.thaw 3
        clear hN o4 hr4 hr hb1 hk hrg c0 c1
        go_wp2_with fail
        (try simp only [Exit.inBlock, Exit.then])
        exact bodyPost_ret (results_ctx (p := 2) (u := 3) rfl _ _ r 38 _ (0, 0) _ rfl HW.out Tryd.underlying38 rfl (by kernel_rfl)) rfl ⟨_, rfl, HE.out⟩
      by_cases h10 : atB s k = 10
      · rw [if_neg h34, if_pos h10] at hq
        have x34 : ((s[k].toNat : Int) == 34) = false := by rw [hb]; exact nat_beq h34
        have x10 : ((s[k].toNat : Int) == 10) = true := by rw [hb, h10]; rfl
        have hr0 : res = none := hq.symm
        clear hq hoy hB hnl hn hks hal hik HLT hb h34 h10
        subst hr0
        clear hcast hcast2 hiY hzY0 hzY1 hzY2 iY
        go_wp2_with fail
        refine (hfl _ hk).mono ?_
        rintro e w4 ⟨v, rfl, hN⟩
        obtain ⟨o4, va, vb, vc, vd, ve, rfl⟩ := hN.see
        have hr4 := hr.off o4 hrg
        have HE : Hid (NxEnd w g s (quoteTold s i none) _ ((((w4.setCell ⟨r, 0, none⟩ (.int .i8 va)).setCell ⟨r, 1, none⟩ (.string vb)).setCell ⟨r, 2, none⟩ (.int .i64 vc)).setCell ⟨r, 3, none⟩ (.int .i64 vd))) := hN.wrap hb1 HR.out hr.lt hrg.symm _ _ _ _
        have HW : Hid (TkC ((((w4.setCell ⟨r, 0, none⟩ (.int .i8 va)).setCell ⟨r, 1, none⟩ (.string vb)).setCell ⟨r, 2, none⟩ (.int .i64 vc)).setCell ⟨r, 3, none⟩ (.int .i64 vd)) r (.int .i8 va) (.string vb) (.int .i64 vc) (.int .i64 vd)) := hr4.write _ _ _ _
        obtain ⟨z0, z1, z2, z3⟩ := hr4.cells
        have f0 := hr4.thaw 0
        have f1 := hr4.thaw 1
        have f2 := hr4.thaw 2
        have f3 := hr4.thaw 3
        clear hN o4 hr4 hr hb1 hk hrg hfl c0 c1
        go_wp2_with fail
        (try simp only [Exit.inBlock, Exit.then])
        exact bodyPost_ret (results_ctx (p := 2) (u := 3) rfl _ _ r 38 _ (0, 0) _ rfl HW.out Tryd.underlying38 rfl (by kernel_rfl)) rfl ⟨_, rfl, HE.out⟩
      by_cases h92 : atB s k = 92
      · rw [if_neg h34, if_neg h10, if_pos h92] at hq
        have NLK : Hid (atB s k ≠ 10) := h10
        have x34 : ((s[k].toNat : Int) == 34) = false := by rw [hb]; exact nat_beq h34
        have x10 : ((s[k].toNat : Int) == 10) = false := by rw [hb]; exact nat_beq h10
        have x92 : ((s[k].toNat : Int) == 92) = true := by rw [hb, h92]; rfl
        have hba := fun w => byteAt_any s (k + 1) w
        rw [hcast2] at hba
        clear h34 h10 h92 hb
        go_wp2_with fail
        refine (hba _).mono ?_
        rintro e w4 ⟨rfl, h4⟩
        rw [h4]
        clear hba x34 x10 x92 h4 w4
        by_cases hok : atB s (k + 1) = 34 ∨ atB s (k + 1) = 92
        · rw [if_pos hok] at hq
          have hk1 : k + 1 < s.size := atB_in (by rcases hok with h | h <;> rw [h] <;> decide)
          have HNL : Hid (NoNl s i (k + 2)) := (hnl.app (NoNl.one (NLK.out))).app (NoNl.one (by rcases hok with h | h <;> rw [h] <;> decide))
          have HQ : Hid (qF s n (k + 2) (acc ++ [atB s (k + 1)]) = res) := hq
          have HBE : Hid (s[k + 1].toNat = atB s (k + 1)) := by show _ = _; unfold atB; rw [dif_pos hk1]; rfl
          have hge1 : (k : Int) + 1 < (s.size : Int) := by omega
          have hor : (((atB s (k + 1) : Nat) : Int) == 34) = true ∨ ((((atB s (k + 1) : Nat) : Int) == 34) = false ∧ (((atB s (k + 1) : Nat) : Int) == 92) = true) := hok.elim (fun h => Or.inl (by rw [h]; rfl)) (fun h => Or.inr ⟨by rw [h]; rfl, by rw [h]; rfl⟩)
          clear hq hnl hok
          rcases hor with y1 | ⟨y1, y2⟩
          · have y3 : (((atB s (k + 1) : Nat) : Int) != 34) = false := by rw [bne, y1]; rfl
            have HO : Hid (wr.ownsRow W1.heap.size 5 1 u4 acc.length (acc.map Y)) := hoy
            have hB3 : W1.heap.size ≤ (wr.alloc (.cells #[.int .u8 ((s[k + 1].toNat : Nat) : Int)] 5)).heap.size := by simp; omega
            obtain ⟨m, hac⟩ : ∃ m, m = acc.length := ⟨_, rfl⟩
            rw [← hac] at HO hal
            have HAC : Hid (m = acc.length) := hac
            have HHY : Hid (OwnY W1.heap.size wr u4 acc ∧ RdC wr g s i ∧ TkC wr r (.int .i8 0) (.string ⟨#[]⟩) (.int .i64 0) (.int .i64 0) ∧ Off g w wr ∧ W1.heap.size ≤ wr.heap.size) := ⟨hoy, hk, hr, hb1, hB⟩
            clear hac hoy hk hr hb1 hfl
            go_wp2_with (at_builtin; refine wpList_push _ rfl _ _ 66 rfl W1.heap.size 5 iY (.int .u8 0) 1 Tryd.underlying66 hiY hzY0 hzY1 hzY2 rfl _ m (acc.map Y) rfl (HO.out.alloc _) ⟨wr.heap.size, 0, none⟩ 1 1 [.int .u8 ((s[k + 1].toNat : Nat) : Int)] rfl rfl (cell_one_new _ _ _) (fun u hu => by simp at hu; subst hu; rfl) (by decide) (by unfold maxLen; omega) (by omega) hB3 ?_)
            intro v2 w5 ho hgr _ _
            obtain ⟨hoy, hk, hr, hb1, hB⟩ := HHY.out
            have R := push_ownY (d := s[k + 1].toNat) hoy (Below.refl _ _) hB (by rw [← HAC.out]; exact ho) hgr
            have hk5 : RdC w5 g s i := by unfold RdC; rw [R.2.1.block g HLT.out.2]; exact hk
            have hr5 : TkC w5 r (.int .i8 0) (.string ⟨#[]⟩) (.int .i64 0) (.int .i64 0) := by unfold TkC; rw [R.2.1.block r HLT.out.1]; exact hr
            have hb5 : Off g w w5 := ⟨R.2.1.os.trans hb1.os, R.2.1.tape.trans hb1.tape, R.2.1.output.trans hb1.output, Nat.le_trans hb1.size R.2.1.size, fun q hq hne => (R.2.1.block q (by have := HR.out; have := HLT.out; omega)).trans (hb1.block q hq hne)⟩
            have HE : Hid (OwnY W1.heap.size w5 v2 (acc ++ [s[k + 1].toNat]) ∧ RdC w5 g s i ∧ TkC w5 r (.int .i8 0) (.string ⟨#[]⟩) (.int .i64 0) (.int .i64 0) ∧ Off g w w5 ∧ W1.heap.size ≤ w5.heap.size) := ⟨R.1, hk5, hr5, hb5, R.2.2⟩
            clear ho hgr R hoy hk hr hb1 hk5 hr5 hb5 HO hB3 HHY c0 c1
            go_wp2
            go_roundw
            case rel => have hh := HE.out; rw [HBE.out] at hh; exact ⟨n, k + 2, acc ++ [atB s (k + 1)], by omega, by omega, by omega, by rw [List.length_append, ← HAC.out]; show m + 1 ≤ _; omega, by go_num, HQ.out, hh.1, hh.2.1, hh.2.2.1, hh.2.2.2.1, hh.2.2.2.2, HNL.out⟩
            case measure => simp [intOf]; omega
          · have y3 : (((atB s (k + 1) : Nat) : Int) != 34) = true := by rw [bne, y1]; rfl
            have y4 : (((atB s (k + 1) : Nat) : Int) != 92) = false := by rw [bne, y2]; rfl
            have HO : Hid (wr.ownsRow W1.heap.size 5 1 u4 acc.length (acc.map Y)) := hoy
            have hB3 : W1.heap.size ≤ (wr.alloc (.cells #[.int .u8 ((s[k + 1].toNat : Nat) : Int)] 5)).heap.size := by simp; omega
            obtain ⟨m, hac⟩ : ∃ m, m = acc.length := ⟨_, rfl⟩
            rw [← hac] at HO hal
            have HAC : Hid (m = acc.length) := hac
            have HHY : Hid (OwnY W1.heap.size wr u4 acc ∧ RdC wr g s i ∧ TkC wr r (.int .i8 0) (.string ⟨#[]⟩) (.int .i64 0) (.int .i64 0) ∧ Off g w wr ∧ W1.heap.size ≤ wr.heap.size) := ⟨hoy, hk, hr, hb1, hB⟩
            clear hac hoy hk hr hb1 hfl
            go_wp2_with (at_builtin; refine wpList_push _ rfl _ _ 66 rfl W1.heap.size 5 iY (.int .u8 0) 1 Tryd.underlying66 hiY hzY0 hzY1 hzY2 rfl _ m (acc.map Y) rfl (HO.out.alloc _) ⟨wr.heap.size, 0, none⟩ 1 1 [.int .u8 ((s[k + 1].toNat : Nat) : Int)] rfl rfl (cell_one_new _ _ _) (fun u hu => by simp at hu; subst hu; rfl) (by decide) (by unfold maxLen; omega) (by omega) hB3 ?_)
            intro v2 w5 ho hgr _ _
            obtain ⟨hoy, hk, hr, hb1, hB⟩ := HHY.out
            have R := push_ownY (d := s[k + 1].toNat) hoy (Below.refl _ _) hB (by rw [← HAC.out]; exact ho) hgr
            have hk5 : RdC w5 g s i := by unfold RdC; rw [R.2.1.block g HLT.out.2]; exact hk
            have hr5 : TkC w5 r (.int .i8 0) (.string ⟨#[]⟩) (.int .i64 0) (.int .i64 0) := by unfold TkC; rw [R.2.1.block r HLT.out.1]; exact hr
            have hb5 : Off g w w5 := ⟨R.2.1.os.trans hb1.os, R.2.1.tape.trans hb1.tape, R.2.1.output.trans hb1.output, Nat.le_trans hb1.size R.2.1.size, fun q hq hne => (R.2.1.block q (by have := HR.out; have := HLT.out; omega)).trans (hb1.block q hq hne)⟩
            have HE : Hid (OwnY W1.heap.size w5 v2 (acc ++ [s[k + 1].toNat]) ∧ RdC w5 g s i ∧ TkC w5 r (.int .i8 0) (.string ⟨#[]⟩) (.int .i64 0) (.int .i64 0) ∧ Off g w w5 ∧ W1.heap.size ≤ w5.heap.size) := ⟨R.1, hk5, hr5, hb5, R.2.2⟩
            clear ho hgr R hoy hk hr hb1 hk5 hr5 hb5 HO hB3 HHY c0 c1
            go_wp2
            go_roundw
            case rel => have hh := HE.out; rw [HBE.out] at hh; exact ⟨n, k + 2, acc ++ [atB s (k + 1)], by omega, by omega, by omega, by rw [List.length_append, ← HAC.out]; show m + 1 ≤ _; omega, by go_num, HQ.out, hh.1, hh.2.1, hh.2.2.1, hh.2.2.2.1, hh.2.2.2.2, HNL.out⟩
            case measure => simp [intOf]; omega
        · rw [if_neg hok] at hq
          have y1 : (((atB s (k + 1) : Nat) : Int) == 34) = false := nat_beq (fun e => hok (Or.inl e))
          have y3 : (((atB s (k + 1) : Nat) : Int) != 34) = true := by rw [bne, y1]; rfl
          have y2 : (((atB s (k + 1) : Nat) : Int) == 92) = false := nat_beq (fun e => hok (Or.inr e))
          have y4 : (((atB s (k + 1) : Nat) : Int) != 92) = true := by rw [bne, y2]; rfl
          have hr0 : res = none := hq.symm
          clear hq hoy hB hnl hn hks hal hik HLT hok NLK
          subst hr0
          clear hcast hcast2 hiY hzY0 hzY1 hzY2 iY
          go_wp2_with fail
          refine (hfl _ hk).mono ?_
          rintro e w4 ⟨v, rfl, hN⟩
          obtain ⟨o4, va, vb, vc, vd, ve, rfl⟩ := hN.see
          have hr4 := hr.off o4 hrg
          have HE : Hid (NxEnd w g s (quoteTold s i none) _ ((((w4.setCell ⟨r, 0, none⟩ (.int .i8 va)).setCell ⟨r, 1, none⟩ (.string vb)).setCell ⟨r, 2, none⟩ (.int .i64 vc)).setCell ⟨r, 3, none⟩ (.int .i64 vd))) := hN.wrap hb1 HR.out hr.lt hrg.symm _ _ _ _
          have HW : Hid (TkC ((((w4.setCell ⟨r, 0, none⟩ (.int .i8 va)).setCell ⟨r, 1, none⟩ (.string vb)).setCell ⟨r, 2, none⟩ (.int .i64 vc)).setCell ⟨r, 3, none⟩ (.int .i64 vd)) r (.int .i8 va) (.string vb) (.int .i64 vc) (.int .i64 vd)) := hr4.write _ _ _ _
          obtain ⟨z0, z1, z2, z3⟩ := hr4.cells
          have f0 := hr4.thaw 0
          have f1 := hr4.thaw 1
          have f2 := hr4.thaw 2
          have f3 := hr4.thaw 3
          clear hN o4 hr4 hr hb1 hk hrg hfl c0 c1
          go_wp2_with fail
          (try simp only [Exit.inBlock, Exit.then])
          exact bodyPost_ret (results_ctx (p := 2) (u := 3) rfl _ _ r 38 _ (0, 0) _ rfl HW.out Tryd.underlying38 rfl (by kernel_rfl)) rfl ⟨_, rfl, HE.out⟩
      rw [if_neg h34, if_neg h10, if_neg h92] at hq
      have x34 : ((s[k].toNat : Int) == 34) = false := by rw [hb]; exact nat_beq h34
      have x10 : ((s[k].toNat : Int) == 10) = false := by rw [hb]; exact nat_beq h10
      have x92 : ((s[k].toNat : Int) == 92) = false := by rw [hb]; exact nat_beq h92
      have HNL : Hid (NoNl s i (k + 1)) := hnl.app (NoNl.one h10)
      have HQ : Hid (qF s n (k + 1) (acc ++ [atB s k]) = res) := hq
      have HBE : Hid (s[k].toNat = atB s k) := hb
      clear hq hnl h34 h10 h92 hb
      have HO : Hid (wr.ownsRow W1.heap.size 5 1 u4 acc.length (acc.map Y)) := hoy
      have hB3 : W1.heap.size ≤ (wr.alloc (.cells #[.int .u8 ((s[k].toNat : Nat) : Int)] 5)).heap.size := by simp; omega
      obtain ⟨m, hac⟩ : ∃ m, m = acc.length := ⟨_, rfl⟩
      rw [← hac] at HO hal
      have HAC : Hid (m = acc.length) := hac
      have HHY : Hid (OwnY W1.heap.size wr u4 acc ∧ RdC wr g s i ∧ TkC wr r (.int .i8 0) (.string ⟨#[]⟩) (.int .i64 0) (.int .i64 0) ∧ Off g w wr ∧ W1.heap.size ≤ wr.heap.size) := ⟨hoy, hk, hr, hb1, hB⟩
      clear hac hoy hk hr hb1 hfl
      go_wp2_with (at_builtin; refine wpList_push _ rfl _ _ 66 rfl W1.heap.size 5 iY (.int .u8 0) 1 Tryd.underlying66 hiY hzY0 hzY1 hzY2 rfl _ m (acc.map Y) rfl (HO.out.alloc _) ⟨wr.heap.size, 0, none⟩ 1 1 [.int .u8 ((s[k].toNat : Nat) : Int)] rfl rfl (cell_one_new _ _ _) (fun u hu => by simp at hu; subst hu; rfl) (by decide) (by unfold maxLen; omega) (by omega) hB3 ?_)
      intro v2 w5 ho hgr _ _
      obtain ⟨hoy, hk, hr, hb1, hB⟩ := HHY.out
      have R := push_ownY (d := s[k].toNat) hoy (Below.refl _ _) hB (by rw [← HAC.out]; exact ho) hgr
      have hk5 : RdC w5 g s i := by unfold RdC; rw [R.2.1.block g HLT.out.2]; exact hk
      have hr5 : TkC w5 r (.int .i8 0) (.string ⟨#[]⟩) (.int .i64 0) (.int .i64 0) := by unfold TkC; rw [R.2.1.block r HLT.out.1]; exact hr
      have hb5 : Off g w w5 := ⟨R.2.1.os.trans hb1.os, R.2.1.tape.trans hb1.tape, R.2.1.output.trans hb1.output, Nat.le_trans hb1.size R.2.1.size, fun q hq hne => (R.2.1.block q (by have := HR.out; have := HLT.out; omega)).trans (hb1.block q hq hne)⟩
      have HE : Hid (OwnY W1.heap.size w5 v2 (acc ++ [s[k].toNat]) ∧ RdC w5 g s i ∧ TkC w5 r (.int .i8 0) (.string ⟨#[]⟩) (.int .i64 0) (.int .i64 0) ∧ Off g w w5 ∧ W1.heap.size ≤ w5.heap.size) := ⟨R.1, hk5, hr5, hb5, R.2.2⟩
      clear ho hgr R hoy hk hr hb1 hk5 hr5 hb5 HO hB3 HHY c0 c1
      go_wp2
      go_roundw
      case rel => have hh := HE.out; rw [HBE.out] at hh; exact ⟨n, k + 1, acc ++ [atB s k], by omega, by omega, by omega, by rw [List.length_append, ← HAC.out]; show m + 1 ≤ _; omega, by go_num, HQ.out, hh.1, hh.2.1, hh.2.2.1, hh.2.2.2.1, hh.2.2.2.2, HNL.out⟩
      case measure => simp [intOf]; omega
    · have hge : ¬ (k : Int) < (s.size : Int) := by omega
      have hr0 : res = none := by rw [← hq]; cases n with | zero => rfl | succ n => unfold qF; rw [if_neg hke]
      clear hq hoy hB hnl hn hks hal hik hke HLT
      subst hr0
      clear hcast hiY hzY0 hzY1 hzY2 iY
      go_wp2_with fail
      clear hge hlt
      refine (hfl _ hk).mono ?_
      rintro e w4 ⟨v, rfl, hN⟩
      obtain ⟨o4, va, vb, vc, vd, ve, rfl⟩ := hN.see
      have hr4 := hr.off o4 hrg
      have HE : Hid (NxEnd w g s (quoteTold s i none) _ ((((w4.setCell ⟨r, 0, none⟩ (.int .i8 va)).setCell ⟨r, 1, none⟩ (.string vb)).setCell ⟨r, 2, none⟩ (.int .i64 vc)).setCell ⟨r, 3, none⟩ (.int .i64 vd))) := hN.wrap hb1 HR.out hr.lt hrg.symm _ _ _ _
      have HW : Hid (TkC ((((w4.setCell ⟨r, 0, none⟩ (.int .i8 va)).setCell ⟨r, 1, none⟩ (.string vb)).setCell ⟨r, 2, none⟩ (.int .i64 vc)).setCell ⟨r, 3, none⟩ (.int .i64 vd)) r (.int .i8 va) (.string vb) (.int .i64 vc) (.int .i64 vd)) := hr4.write _ _ _ _
      obtain ⟨z0, z1, z2, z3⟩ := hr4.cells
      have f0 := hr4.thaw 0
      have f1 := hr4.thaw 1
      have f2 := hr4.thaw 2
      have f3 := hr4.thaw 3
      clear hN o4 hr4 hr hb1 hk hrg hfl c0 c1
      go_wp2_with fail
      (try simp only [Exit.inBlock, Exit.then])
      exact bodyPost_ret (results_ctx (p := 2) (u := 3) rfl _ _ r 38 _ (0, 0) _ rfl HW.out Tryd.underlying38 rfl (by kernel_rfl)) rfl ⟨_, rfl, HE.out⟩
end Go.Proofs.YtlemnbegblpllaaDoor

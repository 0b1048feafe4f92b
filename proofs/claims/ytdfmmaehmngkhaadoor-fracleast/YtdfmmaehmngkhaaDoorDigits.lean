/-
  Proved here: what appendDigits answers.
-/
import Derived.Test.YtdfmmaehmngkhaaDoorLimMathAll
import Derived.Test.YtdfmmaehmngkhaaDoorSmallAll
import Derived.Test.YtdfmmaehmngkhaaDoorMul
import Derived.Test.YtdfmmaehmngkhaaDoorDivByAll
namespace Go.Proofs.YtdfmmaehmngkhaaDoor
open Go.RowKit

theorem dig_step {xs ys : List Nat} {i sc c c0 : Nat} (hi : i < ys.length) (h : low ys i + 4294967296 ^ i * c = low xs i * sc + c0) :
    low (ys.set i ((c + xs.getD i 0 * sc) % 4294967296)) (i + 1) + 4294967296 ^ (i + 1) * ((c + xs.getD i 0 * sc) / 4294967296) = low xs (i + 1) * sc + c0 := by
  rw [low_set_succ _ _ _ hi, low_succ xs i, Nat.pow_succ, Nat.add_assoc, carry_eq, Nat.mul_add, Nat.add_mul, Nat.mul_assoc]
  omega
theorem take_snoc {l : List Nat} {i : Nat} (h : i < l.length) : l.take (i + 1) = l.take i ++ [l.getD i 0] := by
  rw [List.take_add_one, List.getD_eq_getElem?_getD, List.getElem?_eq_getElem h]; rfl
theorem ten_le {i n : Nat} (h : i ≤ n) : 10 ^ i ≤ 10 ^ n := Nat.pow_le_pow_right (by decide) h

/-- What appendDigits leaves. -/
def DigEnd (B : Nat) (w : World) (v : Nat) (s : ByteArray) (e : Ending) (w' : World) : Prop :=
  ∃ u, e = .returned u ∧ Own B 68 w' u (lim (v * 10 ^ s.size + bval (dgs s))) ∧ Below B w w'

set_option maxRecDepth 100000 in
set_option maxHeartbeats 3200000 in
theorem appendDigits_any (B v : Nat) (u : Value) (s : ByteArray) (w : World) (h : Own B 68 w u (lim v)) (hB : B ≤ w.heap.size) (hl : (lim v).length ≤ 1000000) (hs : s.size ≤ 9) (hd : DigOk s) :
    Calls Tryd.prog 67 #[u, .string s] w fun e w' => DigEnd B w v s e w' := by
  obtain ⟨iU, hiU, hzU0, hzU1, hzU2⟩ := info_parts Tryd.infoU
  obtain ⟨ao, cap, rfl, hao, hlc, hcm⟩ := h.ao
  obtain ⟨n, hn⟩ : ∃ n, n = (lim v).length := ⟨_, rfl⟩
  rw [← hn] at hao hlc hl h ⊢
  have HN : Hid (n = (lim v).length) := hn
  have HDD : Hid (decs (dgs s)) := hd.decs
  clear hn
  go_enter Tryd.func67, Tryd.ntmps67
  go_wp2
  go_loop [5, 6, 12] (fun sv cv t => ∃ i sc c : Nat, i ≤ s.size ∧ t = .int .i64 i ∧ sv = .int .u64 sc ∧ cv = .int .u64 c ∧ sc = 10 ^ i ∧ c = bval ((dgs s).take i)) (fun _ _ t => s.size - (intOf t).toNat)
  case atStart => exact ⟨0, 1, 0, Nat.zero_le _, rfl, rfl, rfl, rfl, rfl⟩
  case round =>
    obtain ⟨i, sc, c, hi, rfl, rfl, rfl, hsc, hc⟩ := hrel
    have HSC : Hid (sc = 10 ^ i) := hsc
    have HC : Hid (c = bval ((dgs s).take i)) := hc
    have hcs : c < sc := by
      rw [hsc, hc]
      have h1 := dval_lt (decs_rev (decs_take HDD.out i))
      rw [List.length_reverse, List.length_take, dgs_len, Nat.min_eq_left hi] at h1
      exact h1
    clear hsc hc
    by_cases hlt : i < s.size
    · have hlt' : (i : Int) < (s.size : Int) := by omega
      have hsc9 : sc ≤ 100000000 := by rw [HSC.out]; exact ten_le (n := 8) (by omega)
      have hg := bt_get hlt
      have hb := hd i hlt
      have hda := dgs_at hlt
      obtain ⟨b, hbb⟩ : ∃ b, b = bt s i := ⟨_, rfl⟩
      rw [← hbb] at hg hb hda
      have HDA : Hid ((dgs s).getD i 0 = b - 48) := hda
      have hb1 : (48 : Int) ≤ (b : Int) := by omega
      have hb2 : (b : Int) ≤ 57 := by omega
      clear hbb hda
      go_wp2
      go_round
      case rel =>
        refine ⟨i + 1, sc * 10, c * 10 + (b - 48), by omega, by go_num, by go_num, ?_, ?_, ?_⟩
        · congr 1; omega
        · rw [HSC.out, Nat.pow_succ]
        · rw [take_snoc (by rw [dgs_len]; exact hlt), bval_snoc, HDA.out, HC.out]
      case measure => simp [intOf]; omega
    · have hlt' : ¬ (i : Int) < (s.size : Int) := by omega
      have hin : i = s.size := by omega
      subst hin
      have hsc9 : sc ≤ 1000000000 := by rw [HSC.out]; exact ten_le (n := 9) (by omega)
      rw [List.take_of_length_le (by rw [dgs_len]; exact Nat.le_refl _)] at HC
      have HOW : Hid (Own B 68 w (.slice ao n cap) (lim v)) := h
      clear h
      have hsc1 : 1 ≤ sc := by omega
      have HTG : Hid (v * 10 ^ s.size + bval (dgs s) = v * sc + c) := by show _ = _; rw [HSC.out, HC.out]
      clear hcs hi hlt
      have hc0 : c < sc := by
        rw [HSC.out, HC.out]
        have h1 := dval_lt (decs_rev HDD.out)
        rw [List.length_reverse, dgs_len] at h1
        exact h1
      have HC0 : Hid (c < sc) := hc0
      clear hc0
      go_wp2
      go_loopw [6, 28] (fun cv t wr => ∃ (i k : Nat) (ys : List Nat), i ≤ n ∧ t = .int .i64 i ∧ cv = .int .u64 k ∧ k < sc ∧ ys.length = n ∧ Own B 68 wr (.slice ao n cap) ys ∧ Below B w wr ∧ (∀ j, i ≤ j → ys.getD j 0 = (lim v).getD j 0) ∧ low ys i + 4294967296 ^ i * k = low (lim v) i * sc + c) (fun _ t _ => n - (intOf t).toNat)
      case atStart => exact ⟨0, c, lim v, Nat.zero_le _, rfl, rfl, HC0.out, HN.out.symm, HOW.out, Below.refl _ _, fun _ _ => rfl, by simp [low_zero]⟩
      case round =>
        clear HOW HC0
        obtain ⟨i, k, ys, hin, rfl, rfl, hk, hyl, how, hbel, hsame, hinv⟩ := hrel
        have HY : Hid (ys.length = n) := hyl
        have HS : Hid (∀ j, i ≤ j → ys.getD j 0 = (lim v).getD j 0) := hsame
        have HI : Hid (low ys i + 4294967296 ^ i * k = low (lim v) i * sc + c) := hinv
        clear hyl hsame hinv
        by_cases hlt : i < n
        · have hlt' : (i : Int) < (n : Int) := by omega
          obtain ⟨g, rfl⟩ := hao (by omega)
          obtain ⟨cz, hfz⟩ := how.cell (k := i) (by rw [HY.out]; exact hlt)
          rw [HS.out i (Nat.le_refl _)] at cz
          have hx0 := limb_lt (limbs_lim v) i
          obtain ⟨x, hx⟩ : ∃ x, x = (lim v).getD i 0 := ⟨_, rfl⟩
          rw [← hx] at cz hx0
          have HX : Hid (x = (lim v).getD i 0) := hx
          have hxs : x * sc + sc ≤ 4294967296 * sc := by
            have := Nat.mul_le_mul_right sc (show x + 1 ≤ 4294967296 by omega)
            rw [Nat.add_mul, Nat.one_mul] at this; exact this
          obtain ⟨t, ht⟩ : ∃ t, t = x * sc := ⟨_, rfl⟩
          rw [← ht] at hxs
          have et : (x : Int) * (sc : Int) = (t : Int) := by rw [ht]; exact (Int.natCast_mul x sc).symm
          have HT : Hid (t = x * sc) := ht
          have htb : t ≤ 4294967296000000000 := by omega
          have hk2 : (k + t) / 4294967296 < sc := by omega
          have hset := how.set HY.out i ((k + t) % 4294967296) (by omega)
          have hbel2 := hbel.setCell (p := ⟨g, i, none⟩) (by exact how.heap.1) (U ((k + t) % 4294967296))
          rw [show U ((k + t) % 4294967296) = .int .u32 (((k : Int) + (t : Int)) % 4294967296) by simp [U]] at hset hbel2
          clear hx ht how hbel hxs
          go_wp2
          go_roundw
          case rel =>
            refine ⟨i + 1, (k + t) / 4294967296, _, by omega, by go_num, by go_num, hk2, by rw [List.length_set]; exact HY.out, hset, hbel2, fun j hj => ?_, ?_⟩
            · rw [getD_set_off _ _ _ _ (by omega)]; exact HS.out j (by omega)
            · rw [HT.out, HX.out]; exact dig_step (by rw [HY.out]; exact hlt) HI.out
          case measure => simp [intOf]; omega
        · have hlt' : ¬ (i : Int) < (n : Int) := by omega
          have hin2 : i = n := by omega
          subst hin2
          have hI := HI.out
          rw [low_all (xs := lim v) (by rw [← HN.out]; exact Nat.le_refl _), low_all (xs := ys) (by rw [HY.out]; exact Nat.le_refl _), val_lim] at hI
          have HI2 : Hid (val ys + 4294967296 ^ i * k = v * sc + c) := hI
          clear hI HI
          by_cases hk0 : k = 0
          · subst hk0
            have HE : Hid (DigEnd B w v s (.returned (.slice ao i cap)) wr) := by
              refine ⟨_, rfl, ?_, hbel⟩
              have h1 := HI2.out
              rw [Nat.mul_zero, Nat.add_zero] at h1
              rw [HTG.out, ← h1]
              have h2 : lim (val ys) = ys := by
                rcases Nat.eq_zero_or_pos i with h0 | h0
                · have : ys = [] := List.eq_nil_of_length_eq_zero (by rw [HY.out, h0])
                  rw [this]; rfl
                · obtain ⟨m, rfl⟩ : ∃ m, i = m + 1 := ⟨i - 1, by omega⟩
                  refine lim_of_ge how.1 HY.out ?_
                  have h3 := lim_ge HN.out.symm
                  have h4 := Nat.le_mul_of_pos_right v (show 0 < sc by omega)
                  omega
              rw [h2]; exact how
            clear how hbel hao
            go_wp2
            go_ret
            exact HE.out
          · have hk0' : ¬ (k : Int) = 0 := by omega
            have hk32 : k < 4294967296 := by omega
            have hbw : B ≤ wr.heap.size := Nat.le_trans hB hbel.size
            have HO : Hid (wr.ownsRow B 68 1 (.slice ao i cap) i (ys.map U)) := by have := how.2; rw [HY.out] at this; exact this
            have hB3 : B ≤ (wr.alloc (.cells #[.int .u32 (k : Int)] 68)).heap.size := by simp; omega
            go_wp2_with (at_builtin; refine wpList_push _ rfl _ _ 23 rfl B 68 iU (.int .u32 0) 4 Tryd.underlying23 hiU hzU0 hzU1 hzU2 rfl _ i (ys.map U) rfl (HO.out.alloc _) ⟨wr.heap.size, 0, none⟩ 1 1 [.int .u32 (k : Int)] rfl rfl (cell_one_new _ _ _) (fun u hu => by simp at hu; subst hu; rfl) (by decide) (by unfold maxLen; omega) (by omega) hB3 ?_)
            intro v' w5 ho hgr _ _
            have R := push_own (d := k) how hbel hbw hk32 (by rw [HY.out, show U k = .int .u32 (k : Int) from rfl]; exact ho) hgr
            have HE : Hid (DigEnd B w v s (.returned v') w5) := by
              refine ⟨_, rfl, ?_, R.2.1⟩
              rw [HTG.out, ← HI2.out]
              have h2 := lim_snoc how.1 hk32 hk0
              rw [HY.out] at h2
              rw [h2]; exact R.1
            clear ho hgr how hbel HO hB3 R hao
            go_wp2
            go_ret
            exact HE.out
end Go.Proofs.YtdfmmaehmngkhaaDoor

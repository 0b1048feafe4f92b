/-
  Proved here: the document's Count, At, Digits; the law's narrow and tiny.
-/
import Derived.Test.YtphbbkckigdgoaaRadHAll
namespace Go.Proofs.Ytphbbkckigdgoaa
open Go.RowKit Go.Shelf

/-- What stands for the product when k bases are looked at. -/
def nzv (zs : List Int) (k : Nat) : Int := if nuls (zs.take k) then 0 else 1
theorem nzv_step {zs : List Int} {k : Nat} (hk : k < zs.length) : nzv zs (k + 1) = if zs.getD k 0 = 0 then 0 else nzv zs k := by
  unfold nzv
  have : nuls (zs.take (k + 1)) = (nuls (zs.take k) || (zs.getD k 0 == 0)) := any_take (p := fun z => z == 0) hk
  rw [this]
  by_cases h : zs.getD k 0 = 0
  · rw [if_pos h, h]; simp
  · rw [if_neg h, beq_eq_false_iff_ne.2 h, Bool.or_false]
set_option maxRecDepth 100000 in
set_option maxHeartbeats 3200000 in
theorem refCount (v : Value) (zs : List Int) (w : World) (hv : RK .i64 w v zs) :
    Calls Try.prog 16 #[v] w fun e w' => e = .returned (.tuple #[.int .i64 (cntN zs), .int .i64 (cntE zs)]) ∧ ∃ q, w' = w.drewN q := by
  obtain ⟨ao, cap, rfl, hc, hm, -, hbd, hat⟩ := hv
  unfold maxLen at hm
  have HBD : Hid (∀ i, i < zs.length → -9223372036854775808 ≤ zs.getD i 0 ∧ zs.getD i 0 ≤ 9223372036854775807) := fun i hi => by have := hbd i hi; rw [min_i64, max_i64] at this; exact this
  clear hbd
  by_cases hneg : negs zs = true
  · obtain ⟨e1, e2⟩ := cnt_neg hneg
    rw [e1, e2]
    have HST : Hid (∀ k, k < zs.length → negs (zs.take (k + 1)) = (negs (zs.take k) || isNeg (zs.getD k 0))) := fun k hk => any_take hk
    obtain ⟨n, hn⟩ : ∃ n, zs.length = n := ⟨_, rfl⟩
    have HNE : Hid (¬ negs (zs.take n) = false) := by show ¬ _; rw [← hn, List.take_length, hneg]; decide
    rw [hn] at hc hat ⊢
    have HN : Hid (zs.length = n) := hn
    have HAT : Hid (∀ i, i < n → ∃ g o, ao = some ⟨g, o, none⟩ ∧ w.cell? ⟨g, o + i, none⟩ = some (.int .i64 (zs.getD i 0))) := hat
    clear hn e1 e2 hneg hat
    go_enter Try.func16, Try.ntmps16
    go_wp2
    go_loopw [4, 5] (fun c t wr => ∃ k : Nat, k ≤ n ∧ t = .int .i64 k ∧ (∃ z, c = .int .i64 z) ∧ negs (zs.take k) = false ∧ ∃ q, wr = w.drewN q) (fun _ t _ => n - (intOf t).toNat)
    case atStart => exact ⟨0, Nat.zero_le _, rfl, ⟨_, rfl⟩, rfl, 0, rfl⟩
    case round =>
      obtain ⟨k, hk, rfl, ⟨z, rfl⟩, hno, q, rfl⟩ := hrel
      by_cases hkn : k < n
      · obtain ⟨b, off, rfl, c0⟩ := HAT.out k hkn
        have hlt : (k : Int) < (n : Int) := by omega
        have hst := HST.out k (by rw [HN.out]; exact hkn)
        rw [hno, Bool.false_or] at hst
        have HS : Hid (negs (zs.take (k + 1)) = isNeg (zs.getD k 0)) := hst
        clear hst hno
        generalize zs.getD k 0 = x at *
        by_cases hx : x < 0
        · go_wp2
          go_ret2
          exact ⟨rfl, _, rfl⟩
        · by_cases hx0 : x = 0
          · subst hx0
            go_wp2
            go_roundw
            case rel => exact ⟨k + 1, by omega, by go_num, ⟨_, rfl⟩, by rw [HS.out]; rfl, _, rfl⟩
            case measure => simp [intOf]; omega
          · have hxb : (x == 0) = false := beq_eq_false_iff_ne.2 hx0
            go_wp2
            go_roundw
            case rel => exact ⟨k + 1, by omega, by go_num, ⟨_, rfl⟩, by rw [HS.out, isNeg]; exact decide_eq_false (by omega), _, rfl⟩
            case measure => simp [intOf]; omega
      · have : k = n := by omega
        rw [this] at hno
        exact absurd hno HNE.out
  have hneg : negs zs = false := by simpa using hneg
  have hnn := negs_no hneg
  have HX0 : Hid (∀ k, k < zs.length → 0 ≤ zs.getD k 0) := fun k hk => by rw [List.getD_eq_getElem?_getD, List.getElem?_eq_getElem hk]; exact hnn _ (List.getElem_mem hk)
  have HNZ : Hid (∀ k, k < zs.length → nzv zs (k + 1) = if zs.getD k 0 = 0 then 0 else nzv zs k) := fun k hk => nzv_step hk
  have HZE : Hid (nzv zs zs.length = if nuls zs then 0 else 1) := by show _ = _; unfold nzv; rw [List.take_length]
  have HNUL : Hid (nuls zs = true → cntE zs = 0 ∧ cntN zs = 0) := fun h => cnt_nul hneg h
  have hone := fun h => @ones zs hneg h
  have HM : Hid (2147483647 < pr zs → cntE zs = 4 ∧ cntN zs = 0) := fun h => cnt_many hneg h
  have HO : Hid (pr zs ≤ 2147483647 → cntE zs = 0 ∧ cntN zs = pr zs) := fun h => cnt_ok hneg h
  have HP : Hid (nuls zs = false → ∀ k, pr (zs.take k) ≤ pr zs) := fun h => pr_take_le zs (hone h)
  have HQ : Hid (nuls zs = false → ∀ k, 1 ≤ pr (zs.take k)) := fun h k => pr_pos (zs.take k) fun z hz => hone h z (List.mem_of_mem_take hz)
  have HT : Hid (∀ k, k < zs.length → pr (zs.take (k + 1)) = pr (zs.take k) * zs.getD k 0) := fun k hk => pr_take zs k hk
  have HG : Hid (nuls zs = false → ∀ k, k < zs.length → 1 ≤ zs.getD k 0) := fun h k hk => by rw [List.getD_eq_getElem?_getD, List.getElem?_eq_getElem hk]; exact hone h _ (List.getElem_mem hk)
  obtain ⟨n, hn⟩ : ∃ n, zs.length = n := ⟨_, rfl⟩
  rw [hn] at hc hat HBD HX0 HNZ HZE HT HG ⊢
  have HN : Hid (zs.length = n) := hn
  have HAT : Hid (∀ i, i < n → ∃ g o, ao = some ⟨g, o, none⟩ ∧ w.cell? ⟨g, o + i, none⟩ = some (.int .i64 (zs.getD i 0))) := hat
  clear hn hat hone hnn hneg
  go_enter Try.func16, Try.ntmps16
  go_wp2
  go_loopw [4, 5] (fun c t wr => ∃ k : Nat, k ≤ n ∧ t = .int .i64 k ∧ c = .int .i64 (nzv zs k) ∧ ∃ q, wr = w.drewN q) (fun _ t _ => n - (intOf t).toNat)
  case atStart => exact ⟨0, Nat.zero_le _, rfl, rfl, 0, rfl⟩
  case round =>
    obtain ⟨k, hk, rfl, rfl, q, rfl⟩ := hrel
    by_cases hkn : k < n
    · obtain ⟨b, off, rfl, c0⟩ := HAT.out k hkn
      have hlt : (k : Int) < (n : Int) := by omega
      have hx0 := HX0.out k hkn
      have HS : Hid (nzv zs (k + 1) = if zs.getD k 0 = 0 then 0 else nzv zs k) := HNZ.out k hkn
      generalize zs.getD k 0 = x at *
      have hxn : ¬ x < 0 := by omega
      by_cases hz : x = 0
      · subst hz
        go_wp2
        go_roundw
        case rel => exact ⟨k + 1, by omega, by go_num, by rw [HS.out, if_pos rfl], _, rfl⟩
        case measure => simp [intOf]; omega
      · have hxb : (x == 0) = false := beq_eq_false_iff_ne.2 hz
        have HZ : Hid (¬ x = 0) := hz
        clear hz
        go_wp2
        go_roundw
        case rel => exact ⟨k + 1, by omega, by go_num, by rw [HS.out, if_neg HZ.out], _, rfl⟩
        case measure => simp [intOf]; omega
    · have hge : ¬ (k : Int) < (n : Int) := by omega
      have hkn' : k = n := by omega
      subst hkn'
      rw [HZE.out]
      by_cases hnul : nuls zs = true
      · have HE : Hid (cntE zs = 0 ∧ cntN zs = 0) := HNUL.out hnul
        rw [if_pos hnul]
        clear hnul
        go_wp2
        go_loopw [4, 6] (fun c t wr => c = .int .i64 0 ∧ t = .int .i64 0 ∧ ∃ q, wr = w.drewN q) (fun _ _ _ => 0)
        case atStart => exact ⟨rfl, rfl, _, rfl⟩
        case round =>
          obtain ⟨rfl, rfl, q', rfl⟩ := hrel
          by_cases hk0 : (0 : Int) < (k : Int)
          · go_wp2
            go_ret2
            exact ⟨by rw [HE.out.1, HE.out.2]; rfl, _, rfl⟩
          · go_wp2
            go_ret2
            exact ⟨by rw [HE.out.1, HE.out.2]; rfl, _, rfl⟩
      · have hnul : nuls zs = false := by simpa using hnul
        rw [if_neg (by rw [hnul]; decide)]
        have HP' := HP.out hnul
        have HQ' := HQ.out hnul
        have HG' := HG.out hnul
        have HP2 : Hid (∀ k, pr (zs.take k) ≤ pr zs) := HP'
        have HQ2 : Hid (∀ k, 1 ≤ pr (zs.take k)) := HQ'
        have HG2 : Hid (∀ i, i < k → 1 ≤ zs.getD i 0) := HG'
        clear HP' HQ' HG' HP HQ HG hnul HNUL
        go_wp2
        go_loopw [4, 6] (fun c t wr => ∃ i : Nat, i ≤ k ∧ t = .int .i64 i ∧ c = .int .i64 (pr (zs.take i)) ∧ pr (zs.take i) ≤ 2147483647 ∧ ∃ q, wr = w.drewN q) (fun _ t _ => k - (intOf t).toNat)
        case atStart => exact ⟨0, Nat.zero_le _, rfl, rfl, by simp [pr], _, rfl⟩
        case round =>
          obtain ⟨i, hi, rfl, rfl, hle, q', rfl⟩ := hrel
          have hp1 := HQ2.out i
          by_cases hin : i < k
          · obtain ⟨b, off, rfl, c0⟩ := HAT.out i hin
            have hlt : (i : Int) < (k : Int) := by omega
            have hx1 := HG2.out i hin
            obtain ⟨-, hx3⟩ := HBD.out i hin
            have HT' : Hid (pr (zs.take (i + 1)) = pr (zs.take i) * zs.getD i 0) := HT.out i hin
            have HP' : Hid (pr (zs.take (i + 1)) ≤ pr zs) := HP2.out (i + 1)
            clear HAT HBD HX0 HNZ HZE HT HG2 HQ2 HP2
            generalize zs.getD i 0 = x at *
            generalize pr (zs.take i) = c at *
            have hc0 : (0 : Int) < c := by omega
            have hcx : x ≤ c * x := by
              have : 1 * x ≤ c * x := Int.mul_le_mul_of_nonneg_right (by omega) (by omega)
              omega
            by_cases hb : 2147483647 < x
            · have HE : Hid (cntE zs = 4 ∧ cntN zs = 0) := HM.out (Int.lt_of_lt_of_le (Int.lt_of_lt_of_le hb hcx) (by rw [← HT'.out]; exact HP'.out))
              clear hcx
              go_wp2
              go_ret2
              exact ⟨by rw [HE.out.1, HE.out.2]; rfl, _, rfl⟩
            · have hxb : x ≤ 2147483647 := by omega
              have hup : c * x ≤ 4611686014132420609 := by
                have : c * x ≤ 2147483647 * 2147483647 := Int.mul_le_mul hle hxb (by omega) (by omega)
                omega
              have hnn : 0 ≤ c * x := by omega
              by_cases hbig : 2147483647 < c * x
              · have HE : Hid (cntE zs = 4 ∧ cntN zs = 0) := HM.out (Int.lt_of_lt_of_le hbig (by rw [← HT'.out]; exact HP'.out))
                go_wp2
                go_ret2
                exact ⟨by rw [HE.out.1, HE.out.2]; rfl, _, rfl⟩
              · have hsm : c * x ≤ 2147483647 := Int.not_lt.1 hbig
                go_wp2
                go_roundw
                case rel => exact ⟨i + 1, by omega, by go_num, by rw [HT'.out], by rw [HT'.out]; exact hsm, _, rfl⟩
                case measure => simp [intOf]; omega
          · have hge : ¬ (i : Int) < (k : Int) := by omega
            have hik : i = k := by omega
            subst hik
            go_wp2
            go_ret2
            have hall : zs.take i = zs := List.take_of_length_le (by rw [HN.out]; exact Nat.le_refl _)
            rw [hall] at hle ⊢
            obtain ⟨e1, e2⟩ := HO.out hle
            rw [e1, e2]
            exact ⟨rfl, _, rfl⟩
end Go.Proofs.Ytphbbkckigdgoaa

/-
  Proved here: slices.symMergeCmpFunc at int: two sorted lists that follow one another are merged.
-/
import Derived.Shelf.SlSortCmp.Kit1
import Derived.Sort.WalkA
import Derived.Sort.WalkB2
import Derived.Sort.WalkB12
import Derived.Deep.LoopGhost
import Derived.Deep.CutRange
import Derived.Test.YthdpomgpcblpeaaGreatSortBI
namespace Go.Proofs.YthdpomgpcblpeaaGreat
open Go.Shelf Go.RowKit Go.Lib Go.Sort
variable {α : Type} [Inhabited α] {enc : α → Value}

theorem ord_swp {lt : α → α → Bool} {P A B Q : List α} {a m b : Nat} (hP : P.length = a) (hA : a + A.length = m) (hB : m + B.length = b) (O : Ord (leOf lt)) (hSA : Srt (leOf lt) A) (hSB : Srt (leOf lt) B) (p : Nat) (s t : Nat)
    (h1 : a ≤ s) (h2 : s ≤ t) (h3 : t < m) (h4 : m ≤ p - t) (h5 : p - s < b) (h6 : t ≤ p) (h : lt (P ++ A ++ B ++ Q).toArray[p - s]! (P ++ A ++ B ++ Q).toArray[s]! = true) :
    lt (P ++ A ++ B ++ Q).toArray[p - t]! (P ++ A ++ B ++ Q).toArray[t]! = true := by
  rw [get_B P A B Q a m b hP hA hB _ (by omega) (by omega), get_A P A B Q a m hP hA _ (by omega) (by omega)] at h ⊢
  cases e : lt B[p - t - m]! A[t - a]! with
  | true => rfl
  | false =>
    have := O.trans _ _ _ (srt_get O hSA (s - a) (t - a) (by omega) (by omega)) (O.trans _ _ _ (le_yes e) (srt_get O hSB (p - t - m) (p - s - m) (by omega) (by omega)))
    exact (le_off h this).elim

/-- what the search finds -/
def SymFI (cf : α → α → Int) (P A B Q : List α) (a m b st en : Nat) (dE : Array α) : Prop :=
  ∃ A1 A2 B1 B2 : List α, A = A1 ++ A2 ∧ B = B1 ++ B2 ∧ a + A1.length = st ∧ m + B1.length = en ∧ st + A2.length = m ∧ en + B2.length = b ∧ Srt (leOf (ltOf cf)) A1 ∧ Srt (leOf (ltOf cf)) A2 ∧ Srt (leOf (ltOf cf)) B1 ∧ Srt (leOf (ltOf cf)) B2 ∧ dE = (P ++ (mrg (leOf (ltOf cf)) A1 B1 ++ mrg (leOf (ltOf cf)) A2 B2) ++ Q).toArray
set_option maxHeartbeats 8000000 in
set_option maxRecDepth 1000000 in
theorem symMI (cf : α → α → Int) (O : Ord (leOf (ltOf cf))) (g : Nat) (cb : Array Value) (eg : ∀ args w, (callFunc g args).run Tryz.prog w = .ok (.enter g args) w) (blk off cap n : Nat) (d0 : Array α) (w0 : World)
    (hcmp : CmpLays1 Tryz.prog g cb enc cf blk off d0.size w0) (R : Row1 enc w0 blk off d0) (hs0 : d0.size = n) (hsz : n < 4611686018427387904) (N a m b : Nat) (P A B Q : List α) (w : World)
    (IH : ∀ (a m b : Nat) (P A B Q : List α) (w : World), b - a < N → P.length = a → a + A.length = m → m + B.length = b → (P ++ A ++ B ++ Q).length = n → 0 < A.length → 0 < B.length → Srt (leOf (ltOf cf)) A → Srt (leOf (ltOf cf)) B → SW enc w0 blk off (P ++ A ++ B ++ Q).toArray w →
      Calls Tryz.prog 114 #[.slice (some ⟨blk, off, none⟩) n cap, .int .i64 a, .int .i64 m, .int .i64 b, .func (.func g) #[] cb] w fun e w' => e = .returned (.tuple #[]) ∧ SW enc w0 blk off (P ++ mrg (leOf (ltOf cf)) A B ++ Q).toArray w')
    (hN : b - a ≤ N) (hP : P.length = a) (hA : a + A.length = m) (hB : m + B.length = b) (hn : (P ++ A ++ B ++ Q).length = n) (hA0 : 2 ≤ A.length) (hB0 : 2 ≤ B.length) (hSA : Srt (leOf (ltOf cf)) A) (hSB : Srt (leOf (ltOf cf)) B) (S : SW enc w0 blk off (P ++ A ++ B ++ Q).toArray w) :
    Calls Tryz.prog 114 #[.slice (some ⟨blk, off, none⟩) n cap, .int .i64 a, .int .i64 m, .int .i64 b, .func (.func g) #[] cb] w fun e w' => e = .returned (.tuple #[]) ∧ SW enc w0 blk off (P ++ mrg (leOf (ltOf cf)) A B ++ Q).toArray w' := by
  obtain ⟨dE, hdE⟩ : ∃ d, d = (P ++ mrg (leOf (ltOf cf)) A B ++ Q).toArray := ⟨_, rfl⟩
  rw [← hdE]
  obtain ⟨dk, hdk⟩ : ∃ d, d = (P ++ A ++ B ++ Q).toArray := ⟨_, rfl⟩
  rw [← hdk] at S
  have hszk : dk.size = n := by rw [hdk]; simpa using hn
  have hbn : b ≤ n := by simp only [List.length_append] at hn; omega
  obtain ⟨la, hla⟩ : ∃ l, l = A.length := ⟨_, rfl⟩
  obtain ⟨lb, hlb⟩ : ∃ l, l = B.length := ⟨_, rfl⟩
  rw [← hla] at hA hA0
  rw [← hlb] at hB hB0
  obtain ⟨mid, hmid⟩ : ∃ q, q = (a + b) / 2 := ⟨_, rfl⟩
  obtain ⟨nn, hnn⟩ : ∃ q, q = mid + m := ⟨_, rfl⟩
  obtain ⟨p, hp⟩ : ∃ q, q + 1 = nn := ⟨nn - 1, by omega⟩
  obtain ⟨s0, hs00⟩ : ∃ q, q = if mid < m then nn - b else a := ⟨_, rfl⟩
  obtain ⟨r0, hr00⟩ : ∃ q, q = if mid < m then mid else m := ⟨_, rfl⟩
  have hm1 : a + 2 ≤ mid := by omega
  have hm2 : mid + 2 ≤ b := by omega
  have hq1 : s0 ≤ r0 := by rw [hs00, hr00]; split <;> omega
  have hq2 : a ≤ s0 := by rw [hs00]; split <;> omega
  have hq3 : r0 ≤ m := by rw [hr00]; split <;> omega
  have hq4 : r0 ≤ mid := by rw [hr00]; split <;> omega
  have hq5 : nn ≤ s0 + b := by rw [hs00]; split <;> omega
  have hq6 : s0 = a ∨ s0 + b = nn := by rw [hs00]; split <;> omega
  have hq7 : r0 = m ∨ r0 = mid := by rw [hr00]; split <;> omega
  have HM : Aside (∀ s t, s0 ≤ s → s ≤ t → t < r0 → ltOf cf dk[p - s]! dk[s]! = true → ltOf cf dk[p - t]! dk[t]! = true) := by
    intro s t h1 h2 h3 h4
    rw [hdk] at h4 ⊢
    exact ord_swp (a := a) (m := m) (b := b) hP (by omega) (by omega) O hSA hSB p s t (by omega) h2 (by omega) (by omega) (by omega) (by omega) h4
  have HF : Aside (∀ st en, s0 ≤ st → st ≤ r0 → en + st = nn → (∀ t, s0 ≤ t → t < st → ltOf cf dk[p - t]! dk[t]! = false) → (∀ t, st ≤ t → t < r0 → ltOf cf dk[p - t]! dk[t]! = true) → SymFI cf P A B Q a m b st en dE) := by
    intro st en h1 h2 h3 h4 h5
    have hst : st - a ≤ A.length := by omega
    have hen : en - m ≤ B.length := by omega
    refine ⟨A.take (st - a), A.drop (st - a), B.take (en - m), B.drop (en - m), (List.take_append_drop _ _).symm, (List.take_append_drop _ _).symm, by rw [List.length_take]; omega, by rw [List.length_take]; omega, by rw [List.length_drop]; omega, by rw [List.length_drop]; omega, srt_take hSA _, srt_drop hSA _, srt_take hSB _, srt_drop hSB _, ?_⟩
    rw [hdE, mrg_parts O hSA hSB (st - a) (en - m) (fun g1 g2 g3 => ?_) (fun g1 g2 g3 => ?_) hst hen]
    · have := h4 (st - 1) (by omega) (by omega)
      rw [hdk, get_B P A B Q a m b hP (by omega) (by omega) _ (by omega) (by omega), get_A P A B Q a m hP (by omega) _ (by omega) (by omega)] at this
      rw [show p - (st - 1) - m = en - m by omega, show st - 1 - a = st - a - 1 by omega] at this
      exact le_yes this
    · have := h5 st (Nat.le_refl _) (by omega)
      rw [hdk, get_B P A B Q a m b hP (by omega) (by omega) _ (by omega) (by omega), get_A P A B Q a m hP (by omega) _ (by omega) (by omega)] at this
      rw [show p - st - m = en - m - 1 by omega] at this
      exact le_no this
  have S0 : Aside (SW enc w0 blk off dk w) := S
  have HC : Aside (CmpLays1 Tryz.prog g cb enc cf blk off d0.size w0) := hcmp
  have HD : Aside (dk = (P ++ A ++ B ++ Q).toArray) := hdk
  have HIH : Aside (∀ (a m b : Nat) (P A B Q : List α) (w : World), b - a < N → P.length = a → a + A.length = m → m + B.length = b → (P ++ A ++ B ++ Q).length = n → 0 < A.length → 0 < B.length → Srt (leOf (ltOf cf)) A → Srt (leOf (ltOf cf)) B → SW enc w0 blk off (P ++ A ++ B ++ Q).toArray w →
      Calls Tryz.prog 114 #[.slice (some ⟨blk, off, none⟩) n cap, .int .i64 a, .int .i64 m, .int .i64 b, .func (.func g) #[] cb] w fun e w' => e = .returned (.tuple #[]) ∧ SW enc w0 blk off (P ++ mrg (leOf (ltOf cf)) A B ++ Q).toArray w') := IH
  have HLn : Aside ((P ++ A ++ B ++ Q).length = n ∧ P.length = a) := ⟨hn, hP⟩
  have ema : (m : Int) - (a : Int) = (la : Int) := by omega
  have eb1 : ((la : Int) == 1) = false := by simp; omega
  have eb2 : decide ((la : Int) = 1) = false := decide_eq_false (by omega)
  have ebm : (b : Int) - (m : Int) = (lb : Int) := by omega
  have eb3 : ((lb : Int) == 1) = false := by simp; omega
  have eb4 : decide ((lb : Int) = 1) = false := decide_eq_false (by omega)
  have emid : ((a : Int) + (b : Int)) / 2 = (mid : Int) := by omega
  have enn : (mid : Int) + (m : Int) = (nn : Int) := by omega
  have ep : (nn : Int) - 1 = (p : Int) := by omega
  have wp_ : IntKind.i64.wrap (p : Int) = (p : Int) := by rw [IntKind.wrap_i64]; omega
  have wnn : IntKind.i64.wrap (nn : Int) = (nn : Int) := by rw [IntKind.wrap_i64]; omega
  have hpb : p < 2 * n := by omega
  have HNm : Hid (mid - a < N ∧ b - mid < N) := ⟨by omega, by omega⟩
  have HNN : Hid (nn = mid + m ∧ p + 1 = nn) := ⟨hnn, hp⟩
  have hq8 : a + la = m := hA
  have hq9 : m + lb = b := hB
  have HS0 : Hid (s0 = if mid < m then nn - b else a) := hs00
  have HR0 : Hid (r0 = if mid < m then mid else m) := hr00
  have ROT := fun st en (A1 A2 B1 B2 : List α) (hA12 : A = A1 ++ A2) (hB12 : B = B1 ++ B2) (h1 : a + A1.length = st) (h2 : m + B1.length = en) (h3 : 0 < A2.length) (h4 : 0 < B1.length) W (HW : SW enc w0 blk off dk W) =>
    rotI (.func (.func g) #[] cb) blk off cap n st m en (P ++ A1) A2 B1 (B2 ++ Q) d0 w0 W R hs0 (by rw [hA12, hB12] at hn; simp only [List.length_append] at hn ⊢; omega) (by rw [List.length_append]; omega) (by rw [hA12] at hla; simp only [List.length_append] at hla; omega) h2 h3 h4 hsz (by rw [hdk, hA12, hB12] at HW; simpa using HW)
  have HROT : Aside _ := ROT
  clear ROT S hdE hdk hn hP hA hB hSA hSB hla hlb hcmp O IH hmid hnn hp hs00 hr00 hN hA0 hB0
  have mixed : Tryz.prog.follows .mixedOrders = true := by kernel_rfl
  have hcl0 := R.hO.cells
  simp only [Value.cells] at hcl0
  have hst := R.hO.store Tryz.prog
  go_enter Tryz.func114, Tryz.ntmps114
  go_upto_if 140 with fail
  go_cut [20, 21] from 140 to 146 (fun u v wx => u = .int .i64 s0 ∧ v = .int .i64 r0 ∧ wx = w)
  case first =>
    by_cases hmm : mid < m
    · have hmmd : decide ((m : Int) > (mid : Int)) = true := decide_eq_true (by omega)
      have hmmz : (mid : Int) < (m : Int) := by omega
      have HS1 := HS0.out
      have HR1 := HR0.out
      rw [if_pos hmm] at HS1 HR1
      have es0 : (nn : Int) - (b : Int) = (s0 : Int) := by have := HNN.out; omega
      have ws0 : IntKind.i64.wrap (s0 : Int) = (s0 : Int) := by rw [IntKind.wrap_i64]; omega
      have HR2 : Hid (r0 = mid) := HR1
      clear HS1 HR1
      go_wp2_with fail
      go_meet
      exact ⟨rfl, by rw [HR2.out], rfl⟩
    · have hmmd : decide ((m : Int) > (mid : Int)) = false := decide_eq_false (by omega)
      have hmmz : ¬ (mid : Int) < (m : Int) := by omega
      have HS1 := HS0.out
      have HR1 := HR0.out
      rw [if_neg hmm] at HS1 HR1
      have HR2 : Hid (r0 = m ∧ s0 = a) := ⟨HR1, HS1⟩
      clear HS1 HR1
      go_wp2_with fail
      go_meet
      exact ⟨by rw [HR2.out.2], by rw [HR2.out.1], rfl⟩
  case rest =>
    obtain ⟨rfl, rfl, rfl⟩ := hcut
    go_wp2
    go_loopg [20, 21] (r0 - s0) (fun g1 vi vj wr => ∃ i j : Nat, vi = .int .i64 i ∧ vj = .int .i64 j ∧ s0 ≤ i ∧ i ≤ j ∧ j ≤ r0 ∧ j - i ≤ g1 ∧ Aside (SW enc w0 blk off dk wr) ∧ Aside (∀ t, s0 ≤ t → t < i → ltOf cf dk[p - t]! dk[t]! = false) ∧ Aside (∀ t, j ≤ t → t < r0 → ltOf cf dk[p - t]! dk[t]! = true))
    case atStart => exact ⟨s0, r0, rfl, rfl, Nat.le_refl _, by omega, Nat.le_refl _, Nat.le_refl _, S0, fun t h1 h2 => by omega, fun t h1 h2 => by omega⟩
    case round =>
      clear S0
      obtain ⟨i, j, rfl, rfl, hmi, hij, hjb, hg1, S1, HI, HJ⟩ := hrel
      by_cases hlt : i < j
      · have hltz : (i : Int) < (j : Int) := by omega
        obtain ⟨h, hh⟩ : ∃ h, h = (i + j) / 2 := ⟨_, rfl⟩
        have hh1 : i ≤ h := by omega
        have hh2 : h < j := by omega
        have eh : ((i : Int) + (j : Int)) / 2 = (h : Int) := by omega
        clear hh
        obtain ⟨ph, hph⟩ : ∃ q, q = p - h := ⟨_, rfl⟩
        have hph2 : ph + h = p := by have := HNN.out; omega
        have hph3 : ph < n := by have := HNN.out; omega
        have eph : (p : Int) - (h : Int) = (ph : Int) := by omega
        have wph : IntKind.i64.wrap (ph : Int) = (ph : Int) := by rw [IntKind.wrap_i64]; omega
        have HPH : Hid (ph = p - h) := hph
        clear hph
        have hhn : h < n := by omega
        have HP2 : Hid (ph + h = p) := hph2
        clear hph2
        cases hlv : ltOf cf dk[ph]! dk[h]! with
        | false =>
          obtain ⟨aNk8, haNk8⟩ : ∃ q, q = ph := ⟨_, rfl⟩
          have eak8 : ((ph : Int)).toNat = aNk8 := by omega
          have pak8 : (0 : Int) ≤ (ph : Int) := by omega
          have bak8 : (ph : Int) < (n : Int) := by omega
          have rak8 : IntKind.i64.wrap ((ph : Int)) = (ph : Int) := by rw [IntKind.wrap_i64]; omega
          obtain ⟨cNk8, hcNk8⟩ : ∃ q, q = h := ⟨_, rfl⟩
          have eck8 : ((h : Int)).toNat = cNk8 := by omega
          have pck8 : (0 : Int) ≤ (h : Int) := by omega
          have bck8 : (h : Int) < (n : Int) := by omega
          have rck8 : IntKind.i64.wrap ((h : Int)) = (h : Int) := by rw [IntKind.wrap_i64]; omega
          obtain ⟨xk8, hxk8⟩ : ∃ xx, xx = (dk)[ph]! := ⟨_, rfl⟩
          obtain ⟨yk8, hyk8⟩ : ∃ xx, xx = (dk)[h]! := ⟨_, rfl⟩
          have lak8 := S1.out.cl R (by rw [hszk]; omega) (ph) (by rw [hszk]; omega)
          have lck8 := S1.out.cl R (by rw [hszk]; omega) (h) (by rw [hszk]; omega)
          rw [← hxk8, ← haNk8] at lak8
          rw [← hyk8, ← hcNk8] at lck8
          have hck8 := S1.out.cmp HC.out (by rw [hszk]; omega) xk8 yk8
          have hvk8 : ¬ cf xk8 yk8 < 0 := by rw [hxk8, hyk8]; exact of_decide_eq_false hlv
          have hdk8 : decide (cf xk8 yk8 < 0) = false := decide_eq_false hvk8
          clear hxk8 hyk8 haNk8 hcNk8
          go_wp2_with fail
          go_quiet_grown (first | (go_at_fn g; refine Calls.grown_of (hck8 _ _)))
          have S2 : Aside (SW enc w0 blk off (dk) (grow (wr.drewN nq) osq)) := S1.out.grown nq osq
          clear lak8 lck8 hck8 S1
          generalize grow (wr.drewN nq) osq = w2 at S2 ⊢
          clear nq osq
          clear eak8 eck8
          go_wp2
          go_roundg (j - (h + 1))
          case measure => omega
          case rel =>
            refine ⟨h + 1, j, by go_num, rfl, by omega, by omega, hjb, Nat.le_refl _, S2, fun t h1 h2 => ?_, HJ⟩
            cases ht : ltOf cf dk[p - t]! dk[t]! with
            | false => rfl
            | true => have := HM.out t h h1 (by omega) (by omega) ht; rw [← HPH.out, hlv] at this; exact absurd this (by simp)
        | true =>
          obtain ⟨aNk9, haNk9⟩ : ∃ q, q = ph := ⟨_, rfl⟩
          have eak9 : ((ph : Int)).toNat = aNk9 := by omega
          have pak9 : (0 : Int) ≤ (ph : Int) := by omega
          have bak9 : (ph : Int) < (n : Int) := by omega
          have rak9 : IntKind.i64.wrap ((ph : Int)) = (ph : Int) := by rw [IntKind.wrap_i64]; omega
          obtain ⟨cNk9, hcNk9⟩ : ∃ q, q = h := ⟨_, rfl⟩
          have eck9 : ((h : Int)).toNat = cNk9 := by omega
          have pck9 : (0 : Int) ≤ (h : Int) := by omega
          have bck9 : (h : Int) < (n : Int) := by omega
          have rck9 : IntKind.i64.wrap ((h : Int)) = (h : Int) := by rw [IntKind.wrap_i64]; omega
          obtain ⟨xk9, hxk9⟩ : ∃ xx, xx = (dk)[ph]! := ⟨_, rfl⟩
          obtain ⟨yk9, hyk9⟩ : ∃ xx, xx = (dk)[h]! := ⟨_, rfl⟩
          have lak9 := S1.out.cl R (by rw [hszk]; omega) (ph) (by rw [hszk]; omega)
          have lck9 := S1.out.cl R (by rw [hszk]; omega) (h) (by rw [hszk]; omega)
          rw [← hxk9, ← haNk9] at lak9
          rw [← hyk9, ← hcNk9] at lck9
          have hck9 := S1.out.cmp HC.out (by rw [hszk]; omega) xk9 yk9
          have hvk9 : cf xk9 yk9 < 0 := by rw [hxk9, hyk9]; exact of_decide_eq_true hlv
          have hdk9 : decide (cf xk9 yk9 < 0) = true := decide_eq_true hvk9
          clear hxk9 hyk9 haNk9 hcNk9
          go_wp2_with fail
          go_quiet_grown (first | (go_at_fn g; refine Calls.grown_of (hck9 _ _)))
          have S2 : Aside (SW enc w0 blk off (dk) (grow (wr.drewN nq) osq)) := S1.out.grown nq osq
          clear lak9 lck9 hck9 S1
          generalize grow (wr.drewN nq) osq = w2 at S2 ⊢
          clear nq osq
          clear eak9 eck9
          go_wp2
          go_roundg (h - i)
          case measure => omega
          case rel => exact ⟨i, h, rfl, rfl, hmi, hh1, by omega, Nat.le_refl _, S2, HI, fun t h1 h2 => HM.out h t (by omega) h1 h2 (by rw [← HPH.out]; exact hlv)⟩
      · have hltz : ¬ (i : Int) < (j : Int) := by omega
        have hij2 : j = i := by omega
        subst hij2
        obtain ⟨en, hen⟩ : ∃ q, q + j = nn := ⟨nn - j, by have := HNN.out; omega⟩
        have een : (nn : Int) - (j : Int) = (en : Int) := by omega
        have wen : IntKind.i64.wrap (en : Int) = (en : Int) := by rw [IntKind.wrap_i64]; have := HNN.out; omega
        obtain ⟨A1, A2, B1, B2, hA12, hB12, g1, g2, g3, g4, g5, g6, g7, g8, hE⟩ := HF.out j en hmi hjb hen HI.out HJ.out
        have hROT := HROT.out j en A1 A2 B1 B2 hA12 hB12 g1 g2
        have hIH := HIH.out
        obtain ⟨hn, hP⟩ := HLn.out
        obtain ⟨hN1, hN2⟩ := HNm.out
        have hnn := HNN.out
        have e0 : a ≤ j := by omega
        have e1 : j ≤ m := by omega
        have e2 : m ≤ en := by omega
        have e3 : en ≤ b := by omega
        have e4 : mid + m = j + en := by omega
        have hn' := hn
        rw [hA12, hB12] at hn'
        simp only [List.length_append] at hn'
        have R1 : Aside (j < m → m < en → ∀ W, SW enc w0 blk off dk W → Calls Tryz.prog 125 #[.slice (some ⟨blk, off, none⟩) n cap, .int .i64 j, .int .i64 m, .int .i64 en, .func (.func g) #[] cb] W fun e w' => e = .returned (.tuple #[]) ∧ SW enc w0 blk off (P ++ A1 ++ B1 ++ (A2 ++ B2 ++ Q)).toArray w') :=
          fun h1 h2 W hW => (hROT (by omega) (by omega) W hW).mono fun _ _ ⟨h3, h4⟩ => ⟨h3, by simpa using h4⟩
        have R2 : Aside (¬ (j < m ∧ m < en) → ∀ W, SW enc w0 blk off dk W → SW enc w0 blk off (P ++ A1 ++ B1 ++ (A2 ++ B2 ++ Q)).toArray W) := fun h W hW => by
          rw [HD.out, hA12, hB12] at hW
          by_cases e : A2.length = 0
          · rw [List.length_eq_zero_iff.1 e] at hW ⊢; simpa using hW
          · have : B1.length = 0 := by omega
            rw [List.length_eq_zero_iff.1 this] at hW ⊢; simpa using hW
        have M1 : Aside (a < j → j < mid → ∀ W, SW enc w0 blk off (P ++ A1 ++ B1 ++ (A2 ++ B2 ++ Q)).toArray W → Calls Tryz.prog 114 #[.slice (some ⟨blk, off, none⟩) n cap, .int .i64 a, .int .i64 j, .int .i64 mid, .func (.func g) #[] cb] W fun e w' => e = .returned (.tuple #[]) ∧ SW enc w0 blk off (P ++ mrg (leOf (ltOf cf)) A1 B1 ++ A2 ++ B2 ++ Q).toArray w') :=
          fun h1 h2 W hW => (hIH a j mid P A1 B1 (A2 ++ B2 ++ Q) W hN1 hP g1 (by omega) (by simp only [List.length_append]; omega) (by omega) (by omega) g5 g7 hW).mono fun _ _ ⟨h3, h4⟩ => ⟨h3, by simpa using h4⟩
        have M2 : Aside (¬ (a < j ∧ j < mid) → ∀ W, SW enc w0 blk off (P ++ A1 ++ B1 ++ (A2 ++ B2 ++ Q)).toArray W → SW enc w0 blk off (P ++ mrg (leOf (ltOf cf)) A1 B1 ++ A2 ++ B2 ++ Q).toArray W) := fun h W hW => by
          by_cases e : A1.length = 0
          · rw [List.length_eq_zero_iff.1 e] at hW ⊢; rw [mrg_nil_left]; simpa using hW
          · have : B1.length = 0 := by omega
            rw [List.length_eq_zero_iff.1 this] at hW ⊢; rw [mrg_nil_right]; simpa using hW
        have hlm : (mrg (leOf (ltOf cf)) A1 B1).length = A1.length + B1.length := len_mrg _ _ _ (Nat.le_refl _)
        have K1 : Aside (mid < en → en < b → ∀ W, SW enc w0 blk off (P ++ mrg (leOf (ltOf cf)) A1 B1 ++ A2 ++ B2 ++ Q).toArray W → Calls Tryz.prog 114 #[.slice (some ⟨blk, off, none⟩) n cap, .int .i64 mid, .int .i64 en, .int .i64 b, .func (.func g) #[] cb] W fun e w' => e = .returned (.tuple #[]) ∧ SW enc w0 blk off dE w') :=
          fun h1 h2 W hW => (hIH mid en b (P ++ mrg (leOf (ltOf cf)) A1 B1) A2 B2 Q W hN2 (by rw [List.length_append, hlm]; omega) (by omega) (by omega) (by simp only [List.length_append, hlm]; omega) (by omega) (by omega) g6 g8 hW).mono fun _ _ ⟨h3, h4⟩ => ⟨h3, by rw [hE]; simpa using h4⟩
        have K2 : Aside (¬ (mid < en ∧ en < b) → ∀ W, SW enc w0 blk off (P ++ mrg (leOf (ltOf cf)) A1 B1 ++ A2 ++ B2 ++ Q).toArray W → SW enc w0 blk off dE W) := fun h W hW => by
          rw [hE]
          by_cases e : A2.length = 0
          · rw [List.length_eq_zero_iff.1 e] at hW ⊢; rw [mrg_nil_left]; simpa using hW
          · have : B2.length = 0 := by omega
            rw [List.length_eq_zero_iff.1 this] at hW ⊢; rw [mrg_nil_right]; simpa using hW
        obtain ⟨d1, hd1⟩ : ∃ d, d = (P ++ A1 ++ B1 ++ (A2 ++ B2 ++ Q)).toArray := ⟨_, rfl⟩
        obtain ⟨d2, hd2⟩ : ∃ d, d = (P ++ mrg (leOf (ltOf cf)) A1 B1 ++ A2 ++ B2 ++ Q).toArray := ⟨_, rfl⟩
        rw [← hd1] at R1 R2 M1 M2
        rw [← hd2] at M1 M2 K1 K2
        clear hIH hROT HIH HROT HLn HD hn hP hn' hnn HF HM HI HJ hA12 hB12 g1 g2 g3 g4 g5 g6 g7 g8 hE hd1 hd2 hlm e4 hltz
        go_upto_region 39 with fail
        go_cut [185] from 178 to 185 (fun t wx => t = .bool (decide (j < m ∧ m < en)) ∧ Aside (SW enc w0 blk off dk wx))
        case first =>
          by_cases f1 : (j : Int) < (m : Int)
          · by_cases f2 : (m : Int) < (en : Int)
            · have f3 : Hid (decide (j < m ∧ m < en) = true) := decide_eq_true ⟨by omega, by omega⟩
              go_wp2_with fail
              go_meet
              exact ⟨by rw [f3.out], S1⟩
            · have f3 : Hid (decide (j < m ∧ m < en) = false) := decide_eq_false (by omega)
              go_wp2_with fail
              go_meet
              exact ⟨by rw [f3.out], S1⟩
          · have f3 : Hid (decide (j < m ∧ m < en) = false) := decide_eq_false (by omega)
            go_wp2_with fail
            go_meet
            exact ⟨by rw [f3.out], S1⟩
        case rest =>
          clear S1
          obtain ⟨rfl, S1⟩ := hcut
          obtain ⟨bb, hbb⟩ : ∃ bb, bb = decide (j < m ∧ m < en) := ⟨_, rfl⟩
          rw [← hbb]
          have HBB : Hid _ := hbb
          clear hbb
          go_upto_if 185 with fail
          go_cut [20] from 186 to 191 (fun t wx => t = .int .i64 j ∧ Aside (SW enc w0 blk off d1 wx))
          case first =>
            cases bb with
            | true =>
              have cc := of_decide_eq_true HBB.out.symm
              have C0 : Aside _ := R1.out cc.1 cc.2 _ S1.out
              clear R1 R2 S1 cc
              go_wp2_with (go_at_call 125; refine Calls.mono C0.out ?_; rintro e wq ⟨rfl, TQ⟩)
              go_meet
              exact ⟨rfl, TQ⟩
            | false =>
              have cc := of_decide_eq_false HBB.out.symm
              have TQ : Aside (SW enc w0 blk off d1 _) := R2.out cc _ S1.out
              clear R1 R2 S1 cc
              go_wp2_with fail
              go_meet
              exact ⟨rfl, TQ⟩
          case rest =>
            obtain ⟨rfl, T0⟩ := hcut
            clear R1 R2 HBB
            skip
            go_upto_region 41 with fail
            go_cut [199] from 192 to 199 (fun t wx => t = .bool (decide (a < j ∧ j < mid)) ∧ Aside (SW enc w0 blk off d1 wx))
            case first =>
              by_cases f1 : (a : Int) < (j : Int)
              · by_cases f2 : (j : Int) < (mid : Int)
                · have f3 : Hid (decide (a < j ∧ j < mid) = true) := decide_eq_true ⟨by omega, by omega⟩
                  go_wp2_with fail
                  go_meet
                  exact ⟨by rw [f3.out], T0⟩
                · have f3 : Hid (decide (a < j ∧ j < mid) = false) := decide_eq_false (by omega)
                  go_wp2_with fail
                  go_meet
                  exact ⟨by rw [f3.out], T0⟩
              · have f3 : Hid (decide (a < j ∧ j < mid) = false) := decide_eq_false (by omega)
                go_wp2_with fail
                go_meet
                exact ⟨by rw [f3.out], T0⟩
            case rest =>
              clear T0
              obtain ⟨rfl, T0⟩ := hcut
              obtain ⟨bb, hbb⟩ : ∃ bb, bb = decide (a < j ∧ j < mid) := ⟨_, rfl⟩
              rw [← hbb]
              have HBB : Hid _ := hbb
              clear hbb
              go_upto_if 199 with fail
              go_cut [20] from 200 to 205 (fun t wx => t = .int .i64 j ∧ Aside (SW enc w0 blk off d2 wx))
              case first =>
                cases bb with
                | true =>
                  have cc := of_decide_eq_true HBB.out.symm
                  have C1 : Aside _ := M1.out cc.1 cc.2 _ T0.out
                  clear M1 M2 T0 cc
                  go_wp2_with (go_at_call 114; refine Calls.mono C1.out ?_; rintro e wq ⟨rfl, TQ⟩)
                  go_meet
                  exact ⟨rfl, TQ⟩
                | false =>
                  have cc := of_decide_eq_false HBB.out.symm
                  have TQ : Aside (SW enc w0 blk off d2 _) := M2.out cc _ T0.out
                  clear M1 M2 T0 cc
                  go_wp2_with fail
                  go_meet
                  exact ⟨rfl, TQ⟩
              case rest =>
                obtain ⟨rfl, T1⟩ := hcut
                clear M1 M2 HBB
                skip
                go_upto_region 43 with fail
                go_cut [213] from 206 to 213 (fun t wx => t = .bool (decide (mid < en ∧ en < b)) ∧ Aside (SW enc w0 blk off d2 wx))
                case first =>
                  by_cases f1 : (mid : Int) < (en : Int)
                  · by_cases f2 : (en : Int) < (b : Int)
                    · have f3 : Hid (decide (mid < en ∧ en < b) = true) := decide_eq_true ⟨by omega, by omega⟩
                      go_wp2_with fail
                      go_meet
                      exact ⟨by rw [f3.out], T1⟩
                    · have f3 : Hid (decide (mid < en ∧ en < b) = false) := decide_eq_false (by omega)
                      go_wp2_with fail
                      go_meet
                      exact ⟨by rw [f3.out], T1⟩
                  · have f3 : Hid (decide (mid < en ∧ en < b) = false) := decide_eq_false (by omega)
                    go_wp2_with fail
                    go_meet
                    exact ⟨by rw [f3.out], T1⟩
                case rest =>
                  clear T1
                  obtain ⟨rfl, T1⟩ := hcut
                  obtain ⟨bb, hbb⟩ : ∃ bb, bb = decide (mid < en ∧ en < b) := ⟨_, rfl⟩
                  rw [← hbb]
                  have HBB : Hid _ := hbb
                  clear hbb
                  cases bb with
                  | true =>
                    have cc := of_decide_eq_true HBB.out.symm
                    have C2 : Aside _ := K1.out cc.1 cc.2 _ T1.out
                    clear K1 K2 T1 cc
                    go_wp2_with (go_at_call 114; refine Calls.mono C2.out ?_; rintro e wq ⟨rfl, TQ⟩)
                    go_end0
                    exact ⟨rfl, TQ⟩
                  | false =>
                    have cc := of_decide_eq_false HBB.out.symm
                    have TQ : Aside (SW enc w0 blk off dE _) := K2.out cc _ T1.out
                    clear K1 K2 T1 cc
                    go_wp2_with fail
                    go_end0
                    exact ⟨rfl, TQ.out⟩


theorem symI (cf : α → α → Int) (O : Ord (leOf (ltOf cf))) (g : Nat) (cb : Array Value) (eg : ∀ args w, (callFunc g args).run Tryz.prog w = .ok (.enter g args) w) (blk off cap n : Nat) (d0 : Array α) (w0 : World)
    (hcmp : CmpLays1 Tryz.prog g cb enc cf blk off d0.size w0) (R : Row1 enc w0 blk off d0) (hs0 : d0.size = n) (hsz : n < 4611686018427387904) : ∀ (N a m b : Nat) (P A B Q : List α) (w : World),
    b - a < N → P.length = a → a + A.length = m → m + B.length = b → (P ++ A ++ B ++ Q).length = n → 0 < A.length → 0 < B.length → Srt (leOf (ltOf cf)) A → Srt (leOf (ltOf cf)) B → SW enc w0 blk off (P ++ A ++ B ++ Q).toArray w →
      Calls Tryz.prog 114 #[.slice (some ⟨blk, off, none⟩) n cap, .int .i64 a, .int .i64 m, .int .i64 b, .func (.func g) #[] cb] w fun e w' => e = .returned (.tuple #[]) ∧ SW enc w0 blk off (P ++ mrg (leOf (ltOf cf)) A B ++ Q).toArray w'
  | 0, a, m, b, P, A, B, Q, w, hN, _, _, _, _, _, _, _, _, _ => absurd hN (Nat.not_lt_zero _)
  | N + 1, a, m, b, P, A, B, Q, w, hN, hP, hA, hB, hn, hA0, hB0, hSA, hSB, S => by
    by_cases e1 : A.length = 1
    · obtain ⟨x, rfl⟩ := List.length_eq_one_iff.1 e1
      exact symLI cf O g cb eg blk off cap n d0 w0 hcmp R hs0 hsz a m b P B Q x w hP (by simpa using hA) hB hn hSB S
    · by_cases e2 : B.length = 1
      · obtain ⟨y, rfl⟩ := List.length_eq_one_iff.1 e2
        exact symRI cf O g cb eg blk off cap n d0 w0 hcmp R hs0 hsz a m b P A Q y w hP hA (by simpa using hB) hn (by omega) hSA S
      · exact symMI cf O g cb eg blk off cap n d0 w0 hcmp R hs0 hsz N a m b P A B Q w (symI cf O g cb eg blk off cap n d0 w0 hcmp R hs0 hsz N) (by omega) hP hA hB hn (by omega) (by omega) hSA hSB S
end Go.Proofs.YthdpomgpcblpeaaGreat

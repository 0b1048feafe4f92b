/-
  Proved here: slices.symMergeCmpFunc at float64: two sorted lists that follow one another are merged.
-/
import Derived.Shelf.SlSortCmp.Kit1
import Derived.Sort.WalkA
import Derived.Sort.WalkB2
import Derived.Sort.WalkB12
import Derived.Deep.LoopGhost
import Derived.Test.YtknibmehbplpbaaSortAF
import Derived.Test.YtknibmehbplpbaaSortMath3
namespace Go.Proofs.Ytknibmehbplpbaa
open Go.Shelf Go.RowKit Go.Lib Go.Sort
variable {α : Type} [Inhabited α] {enc : α → Value}

set_option maxHeartbeats 8000000 in
set_option maxRecDepth 1000000 in
theorem symLF (cf : α → α → Int) (O : Ord (leOf (ltOf cf))) (g : Nat) (cb : Array Value) (eg : ∀ args w, (callFunc g args).run Try.prog w = .ok (.enter g args) w) (blk off cap n : Nat) (d0 : Array α) (w0 : World)
    (hcmp : CmpLays1 Try.prog g cb enc cf blk off d0.size w0) (R : Row1 enc w0 blk off d0) (hs0 : d0.size = n) (hsz : n < 4611686018427387904) (a m b : Nat) (P B Q : List α) (x : α) (w : World)
    (hP : P.length = a) (hm : a + 1 = m) (hB : m + B.length = b) (hn : (P ++ [x] ++ B ++ Q).length = n) (hS : Srt (leOf (ltOf cf)) B) (S : SW enc w0 blk off (P ++ [x] ++ B ++ Q).toArray w) :
    Calls Try.prog 84 #[.slice (some ⟨blk, off, none⟩) n cap, .int .i64 a, .int .i64 m, .int .i64 b, .func (.func g) #[] cb] w fun e w' => e = .returned (.tuple #[]) ∧ SW enc w0 blk off (P ++ mrg (leOf (ltOf cf)) [x] B ++ Q).toArray w' := by
  obtain ⟨dE, hdE⟩ : ∃ d, d = (P ++ mrg (leOf (ltOf cf)) [x] B ++ Q).toArray := ⟨_, rfl⟩
  rw [← hdE]
  obtain ⟨dk, hdk⟩ : ∃ d, d = (P ++ [x] ++ B ++ Q).toArray := ⟨_, rfl⟩
  rw [← hdk] at S
  have hszk : dk.size = n := by rw [hdk]; simpa using hn
  have hbn : b ≤ n := by simp only [List.length_append, List.length_cons, List.length_nil] at hn; omega
  have hgB : ∀ t, m ≤ t → t < b → dk[t]! = B[t - m]! := fun t h1 h2 => by rw [hdk]; exact get_B P [x] B Q a m b hP (by simpa using hm) hB t h1 h2
  have hga : dk[a]! = x := by rw [hdk, get_A P [x] B Q a m hP (by simpa using hm) a (Nat.le_refl _) (by omega)]; simp
  have HM : Aside (∀ s t, m ≤ s → s ≤ t → t < b → ltOf cf dk[t]! dk[a]! = true → ltOf cf dk[s]! dk[a]! = true) := by
    intro s t h1 h2 h3 h4
    rw [hgB t (by omega) h3] at h4
    rw [hgB s h1 (by omega)]
    cases hh : ltOf cf B[s - m]! dk[a]! with
    | true => rfl
    | false =>
      have h5 := O.trans dk[a]! B[s - m]! B[t - m]! (le_yes hh) (srt_get O hS (s - m) (t - m) (by omega) (by omega))
      exact (le_off h4 h5).elim
  have HF : Aside (∀ i, m ≤ i → i ≤ b → (∀ t, m ≤ t → t < i → ltOf cf dk[t]! dk[a]! = true) → (∀ t, i ≤ t → t < b → ltOf cf dk[t]! dk[a]! = false) → movR P B Q x (i - m) = dE) := by
    intro i h1 h2 h3 h4
    have := mrg_one_left (le := leOf (ltOf cf)) x B (i - m) (by omega) (fun t ht => by
      have := h3 (m + t) (by omega) (by omega)
      rw [hgB _ (by omega) (by omega), hga, show m + t - m = t by omega] at this
      exact le_no this) (fun h => by
      have := h4 i (Nat.le_refl _) (by omega)
      rw [hgB _ h1 (by omega), hga] at this
      exact le_yes this)
    rw [hdE, this, movR]
    simp
  have HX : Aside (∀ k, k < B.length → Sort.swp (movR P B Q x k) (a + k) (a + k + 1) = movR P B Q x (k + 1)) := fun k hk => movR_next P B Q x k a (a + k) hP hk rfl
  have HZ : Aside (∀ k, (movR P B Q x k).size = n) := fun k => by rw [movR_size]; simp only [List.length_append, List.length_cons, List.length_nil] at hn; omega
  have H0 : Aside (dk = movR P B Q x 0) := by show _ = _; rw [hdk]; exact movR_zero P B Q x
  obtain ⟨l, hl⟩ : ∃ l, l = B.length := ⟨_, rfl⟩
  rw [← hl] at HX
  have hlb : m + l = b := by omega
  have S0 : Aside (SW enc w0 blk off dk w) := S
  have HC : Aside (CmpLays1 Try.prog g cb enc cf blk off d0.size w0) := hcmp
  have ema : (m : Int) - (a : Int) = 1 := by omega
  clear S hdE hdk hgB hga hn hP hB hS hl hcmp O
  have mixed : Try.prog.follows .mixedOrders = true := by kernel_rfl
  have hcl0 := R.hO.cells
  simp only [Value.cells] at hcl0
  have hst := R.hO.store Try.prog
  go_enter Try.func84, Try.ntmps84
  go_wp2
  go_loopg [10, 11] (b - m) (fun g1 vi vj wr => ∃ i j : Nat, vi = .int .i64 i ∧ vj = .int .i64 j ∧ m ≤ i ∧ i ≤ j ∧ j ≤ b ∧ j - i ≤ g1 ∧ Aside (SW enc w0 blk off dk wr) ∧ Aside (∀ t, m ≤ t → t < i → ltOf cf dk[t]! dk[a]! = true) ∧ Aside (∀ t, j ≤ t → t < b → ltOf cf dk[t]! dk[a]! = false))
  case atStart => exact ⟨m, b, rfl, rfl, Nat.le_refl _, by omega, Nat.le_refl _, Nat.le_refl _, S0, fun t h1 h2 => by omega, fun t h1 h2 => by omega⟩
  case round =>
    clear S0
    obtain ⟨i, j, rfl, rfl, hmi, hij, hjb, hg1, S1, HI, HJ⟩ := hrel
    by_cases hlt : i < j
    · have hltz : (i : Int) < (j : Int) := by omega
      obtain ⟨h, hh⟩ : ∃ h, h = (i + j) / 2 := ⟨_, rfl⟩
      have hh1 : i ≤ h := by omega
      have hh2 : h < j := by omega
      have eh : ((i : Int) + (j : Int)) / 2 = (h : Int) := by omega
      clear hh
      cases hlv : ltOf cf dk[h]! dk[a]! with
      | true =>
        obtain ⟨aNk20, haNk20⟩ : ∃ q, q = h := ⟨_, rfl⟩
        have eak20 : ((h : Int)).toNat = aNk20 := by omega
        have pak20 : (0 : Int) ≤ (h : Int) := by omega
        have bak20 : (h : Int) < (n : Int) := by omega
        have rak20 : IntKind.i64.wrap ((h : Int)) = (h : Int) := by rw [IntKind.wrap_i64]; omega
        obtain ⟨cNk20, hcNk20⟩ : ∃ q, q = a := ⟨_, rfl⟩
        have eck20 : ((a : Int)).toNat = cNk20 := by omega
        have pck20 : (0 : Int) ≤ (a : Int) := by omega
        have bck20 : (a : Int) < (n : Int) := by omega
        have rck20 : IntKind.i64.wrap ((a : Int)) = (a : Int) := by rw [IntKind.wrap_i64]; omega
        obtain ⟨xk20, hxk20⟩ : ∃ xx, xx = (dk)[h]! := ⟨_, rfl⟩
        obtain ⟨yk20, hyk20⟩ : ∃ xx, xx = (dk)[a]! := ⟨_, rfl⟩
        have lak20 := S1.out.cl R (by rw [hszk]; omega) (h) (by rw [hszk]; omega)
        have lck20 := S1.out.cl R (by rw [hszk]; omega) (a) (by rw [hszk]; omega)
        rw [← hxk20, ← haNk20] at lak20
        rw [← hyk20, ← hcNk20] at lck20
        have hck20 := S1.out.cmp HC.out (by rw [hszk]; omega) xk20 yk20
        have hvk20 : cf xk20 yk20 < 0 := by rw [hxk20, hyk20]; exact of_decide_eq_true hlv
        have hdk20 : decide (cf xk20 yk20 < 0) = true := decide_eq_true hvk20
        clear hxk20 hyk20 haNk20 hcNk20
        go_wp2_with fail
        go_quiet_grown (first | (go_at_fn g; refine Calls.grown_of (hck20 _ _)))
        have S2 : Aside (SW enc w0 blk off (dk) (grow (wr.drewN nq) osq)) := S1.out.grown nq osq
        clear lak20 lck20 hck20 S1
        generalize grow (wr.drewN nq) osq = w2 at S2 ⊢
        clear nq osq
        clear eak20 eck20
        go_wp2
        go_roundg (j - (h + 1))
        case measure => omega
        case rel => exact ⟨h + 1, j, by go_num, rfl, by omega, by omega, hjb, Nat.le_refl _, S2, fun t h1 h2 => HM.out t h h1 (by omega) (by omega) hlv, HJ⟩
      | false =>
        obtain ⟨aNk21, haNk21⟩ : ∃ q, q = h := ⟨_, rfl⟩
        have eak21 : ((h : Int)).toNat = aNk21 := by omega
        have pak21 : (0 : Int) ≤ (h : Int) := by omega
        have bak21 : (h : Int) < (n : Int) := by omega
        have rak21 : IntKind.i64.wrap ((h : Int)) = (h : Int) := by rw [IntKind.wrap_i64]; omega
        obtain ⟨cNk21, hcNk21⟩ : ∃ q, q = a := ⟨_, rfl⟩
        have eck21 : ((a : Int)).toNat = cNk21 := by omega
        have pck21 : (0 : Int) ≤ (a : Int) := by omega
        have bck21 : (a : Int) < (n : Int) := by omega
        have rck21 : IntKind.i64.wrap ((a : Int)) = (a : Int) := by rw [IntKind.wrap_i64]; omega
        obtain ⟨xk21, hxk21⟩ : ∃ xx, xx = (dk)[h]! := ⟨_, rfl⟩
        obtain ⟨yk21, hyk21⟩ : ∃ xx, xx = (dk)[a]! := ⟨_, rfl⟩
        have lak21 := S1.out.cl R (by rw [hszk]; omega) (h) (by rw [hszk]; omega)
        have lck21 := S1.out.cl R (by rw [hszk]; omega) (a) (by rw [hszk]; omega)
        rw [← hxk21, ← haNk21] at lak21
        rw [← hyk21, ← hcNk21] at lck21
        have hck21 := S1.out.cmp HC.out (by rw [hszk]; omega) xk21 yk21
        have hvk21 : ¬ cf xk21 yk21 < 0 := by rw [hxk21, hyk21]; exact of_decide_eq_false hlv
        have hdk21 : decide (cf xk21 yk21 < 0) = false := decide_eq_false hvk21
        clear hxk21 hyk21 haNk21 hcNk21
        go_wp2_with fail
        go_quiet_grown (first | (go_at_fn g; refine Calls.grown_of (hck21 _ _)))
        have S2 : Aside (SW enc w0 blk off (dk) (grow (wr.drewN nq) osq)) := S1.out.grown nq osq
        clear lak21 lck21 hck21 S1
        generalize grow (wr.drewN nq) osq = w2 at S2 ⊢
        clear nq osq
        clear eak21 eck21
        go_wp2
        go_roundg (h - i)
        case measure => omega
        case rel =>
          refine ⟨i, h, rfl, rfl, hmi, hh1, by omega, Nat.le_refl _, S2, HI, fun t h1 h2 => ?_⟩
          cases ht : ltOf cf dk[t]! dk[a]! with
          | false => rfl
          | true => have := HM.out h t (by omega) h1 h2 ht; rw [hlv] at this; exact absurd this (by simp)
    · have hltz : ¬ (i : Int) < (j : Int) := by omega
      have hij2 : j = i := by omega
      subst hij2
      have HE := HF.out j hmi hjb HI.out HJ.out
      have HE : Aside (movR P B Q x (j - m) = dE) := HE
      obtain ⟨i1, hi1⟩ : ∃ q, q + 1 = j := ⟨j - 1, by omega⟩
      have ei1 : (j : Int) - 1 = (i1 : Int) := by omega
      have wi1 : IntKind.i64.wrap (i1 : Int) = (i1 : Int) := by rw [IntKind.wrap_i64]; omega
      have S1 : Aside (SW enc w0 blk off (movR P B Q x 0) wr) := H0.out ▸ S1.out
      clear HI HJ HM HF H0 hltz
      go_wp2
      go_loopg [13] (i1 - a) (fun g2 vk wr2 => ∃ k q : Nat, vk = .int .i64 k ∧ k = a + q ∧ k ≤ i1 ∧ i1 - k ≤ g2 ∧ Aside (SW enc w0 blk off (movR P B Q x q) wr2))
      case atStart => exact ⟨a, 0, rfl, rfl, by omega, Nat.le_refl _, S1⟩
      case round =>
        clear S1
        obtain ⟨k, q, rfl, hkq, hki, hg2, SK⟩ := hrel
        by_cases hkl : k < i1
        · have hklz : (k : Int) < (i1 : Int) := by omega
          have hsk := HZ.out q
          have HXq : Aside (Sort.swp (movR P B Q x q) k (k + 1) = movR P B Q x (q + 1)) := by have := HX.out q (by omega); rw [← hkq] at this; exact this
          have HKQ : Hid (k = a + q) := hkq
          clear hkq
          obtain ⟨aNk22, haNk22⟩ : ∃ q, q = k := ⟨_, rfl⟩
          have eak22 : ((k : Int)).toNat = aNk22 := by omega
          have pak22 : (0 : Int) ≤ (k : Int) := by omega
          have bak22 : (k : Int) < (n : Int) := by omega
          have rak22 : IntKind.i64.wrap ((k : Int)) = (k : Int) := by rw [IntKind.wrap_i64]; omega
          obtain ⟨cNk22, hcNk22⟩ : ∃ q, q = k + 1 := ⟨_, rfl⟩
          have eck22 : ((k : Int) + 1).toNat = cNk22 := by omega
          have pck22 : (0 : Int) ≤ (k : Int) + 1 := by omega
          have bck22 : (k : Int) + 1 < (n : Int) := by omega
          have rck22 : IntKind.i64.wrap ((k : Int) + 1) = (k : Int) + 1 := by rw [IntKind.wrap_i64]; omega
          obtain ⟨xk22, hxk22⟩ : ∃ xx, xx = (movR P B Q x q)[k]! := ⟨_, rfl⟩
          obtain ⟨yk22, hyk22⟩ : ∃ xx, xx = (movR P B Q x q)[k + 1]! := ⟨_, rfl⟩
          have S3 : Aside (SW enc w0 blk off (Sort.swp (movR P B Q x q) (k) (k + 1)) ((wr.setCell ⟨blk, off + aNk22, none⟩ (enc yk22)).setCell ⟨blk, off + cNk22, none⟩ (enc xk22)).drew) := by rw [haNk22, hcNk22, hxk22, hyk22]; exact SK.out.swapped R (k) (k + 1) (by rw [hsk]; omega) (by rw [hsk]; omega)
          have cak22 := SK.out.c1 R (by rw [hsk]; omega) (k) (by rw [hsk]; omega)
          have cck22 := SK.out.c1 R (by rw [hsk]; omega) (k + 1) (by rw [hsk]; omega)
          have fak22 := SK.out.f1 R (by rw [hsk]; omega) (k) (by rw [hsk]; omega)
          have fck22 := SK.out.f1 R (by rw [hsk]; omega) (k + 1) (by rw [hsk]; omega)
          obtain ⟨uk22, cdk22⟩ := SK.out.c2 R (by rw [hsk]; omega) (k) (k + 1) (by rw [hsk]; omega) (by rw [hsk]; omega) (enc yk22)
          rw [← hcNk22, ← haNk22] at cdk22
          rw [← hxk22, ← haNk22] at cak22
          rw [← hyk22, ← hcNk22] at cck22
          rw [← haNk22] at fak22
          rw [← hcNk22] at fck22
          clear SK hxk22 hyk22 haNk22 hcNk22
          go_wp2_with fail
          go_big_region_o
          clear cak22 cck22 cdk22 fak22 fck22
          generalize ((wr.setCell ⟨blk, off + aNk22, none⟩ (enc yk22)).setCell ⟨blk, off + cNk22, none⟩ (enc xk22)).drew = w3 at S3 ⊢
          clear eak22 eck22
          go_wp2
          go_roundg (i1 - (k + 1))
          case measure => omega
          case rel => exact ⟨k + 1, q + 1, by go_num, by rw [HKQ.out]; omega, by omega, Nat.le_refl _, by rw [← HXq.out]; exact S3⟩
        · have hklz : ¬ (k : Int) < (i1 : Int) := by omega
          have hq : q = j - m := by omega
          subst hq
          go_wp2
          (try simp only [Exit.inBlock, Exit.then])
          refine bodyPost_ret (results_none rfl _ _ _) rfl ?_
          exact ⟨rfl, by rw [← HE.out]; exact SK.out⟩

set_option maxHeartbeats 8000000 in
set_option maxRecDepth 1000000 in
theorem symRF (cf : α → α → Int) (O : Ord (leOf (ltOf cf))) (g : Nat) (cb : Array Value) (eg : ∀ args w, (callFunc g args).run Try.prog w = .ok (.enter g args) w) (blk off cap n : Nat) (d0 : Array α) (w0 : World)
    (hcmp : CmpLays1 Try.prog g cb enc cf blk off d0.size w0) (R : Row1 enc w0 blk off d0) (hs0 : d0.size = n) (hsz : n < 4611686018427387904) (a m b : Nat) (P A Q : List α) (y : α) (w : World)
    (hP : P.length = a) (hA : a + A.length = m) (hb : m + 1 = b) (hn : (P ++ A ++ [y] ++ Q).length = n) (hA0 : 2 ≤ A.length) (hS : Srt (leOf (ltOf cf)) A) (S : SW enc w0 blk off (P ++ A ++ [y] ++ Q).toArray w) :
    Calls Try.prog 84 #[.slice (some ⟨blk, off, none⟩) n cap, .int .i64 a, .int .i64 m, .int .i64 b, .func (.func g) #[] cb] w fun e w' => e = .returned (.tuple #[]) ∧ SW enc w0 blk off (P ++ mrg (leOf (ltOf cf)) A [y] ++ Q).toArray w' := by
  obtain ⟨dE, hdE⟩ : ∃ d, d = (P ++ mrg (leOf (ltOf cf)) A [y] ++ Q).toArray := ⟨_, rfl⟩
  rw [← hdE]
  obtain ⟨dk, hdk⟩ : ∃ d, d = (P ++ A ++ [y] ++ Q).toArray := ⟨_, rfl⟩
  rw [← hdk] at S
  have hszk : dk.size = n := by rw [hdk]; simpa using hn
  have hbn : b ≤ n := by simp only [List.length_append, List.length_cons, List.length_nil] at hn; omega
  have hgA : ∀ t, a ≤ t → t < m → dk[t]! = A[t - a]! := fun t h1 h2 => by rw [hdk]; exact get_A P A [y] Q a m hP hA t h1 h2
  have hga : dk[m]! = y := by rw [hdk, get_B P A [y] Q a m b hP hA (by simpa using hb) m (Nat.le_refl _) (by omega)]; simp
  have HM : Aside (∀ s t, a ≤ s → s ≤ t → t < m → ltOf cf dk[m]! dk[s]! = true → ltOf cf dk[m]! dk[t]! = true) := by
    intro s t h1 h2 h3 h4
    rw [hgA s h1 (by omega)] at h4
    rw [hgA t (by omega) h3]
    cases hh : ltOf cf dk[m]! A[t - a]! with
    | true => rfl
    | false =>
      have h5 := O.trans A[s - a]! A[t - a]! dk[m]! (srt_get O hS (s - a) (t - a) (by omega) (by omega)) (le_yes hh)
      exact (le_off h4 h5).elim
  have HF : Aside (∀ i, a ≤ i → i ≤ m → (∀ t, a ≤ t → t < i → ltOf cf dk[m]! dk[t]! = false) → (∀ t, i ≤ t → t < m → ltOf cf dk[m]! dk[t]! = true) → movR P A Q y (i - a) = dE) := by
    intro i h1 h2 h3 h4
    have := mrg_one_right (le := leOf (ltOf cf)) y A (i - a) (by omega) (fun t ht => by
      have := h3 (a + t) (by omega) (by omega)
      rw [hga, hgA _ (by omega) (by omega), show a + t - a = t by omega] at this
      exact le_yes this) (fun h => by
      have := h4 i (Nat.le_refl _) (by omega)
      rw [hga, hgA _ h1 (by omega)] at this
      exact le_no this)
    rw [hdE, this, movR]
    simp
  have HX : Aside (∀ k, k < A.length → Sort.swp (movR P A Q y (k + 1)) (a + k + 1) (a + k) = movR P A Q y k) := fun k hk => movR_back P A Q y k a (a + k + 1) hP hk rfl
  have HZ : Aside (∀ k, (movR P A Q y k).size = n) := fun k => by rw [movR_size]; simp only [List.length_append, List.length_cons, List.length_nil] at hn; omega
  obtain ⟨l, hl⟩ : ∃ l, l = A.length := ⟨_, rfl⟩
  have H0 : Aside (dk = movR P A Q y l) := by show _ = _; rw [hdk]; exact movR_all P A Q y l hl.symm
  rw [← hl] at HX
  have hlb : a + l = m := by omega
  have S0 : Aside (SW enc w0 blk off dk w) := S
  have HC : Aside (CmpLays1 Try.prog g cb enc cf blk off d0.size w0) := hcmp
  have ema : (m : Int) - (a : Int) = (l : Int) := by omega
  have eb1 : ((l : Int) == 1) = false := by simp; omega
  have eb2 : decide ((l : Int) = 1) = false := decide_eq_false (by omega)
  have ebm : (b : Int) - (m : Int) = 1 := by omega
  clear S hdE hdk hgA hga hn hP hA hS hl hA0 hcmp O
  have mixed : Try.prog.follows .mixedOrders = true := by kernel_rfl
  have hcl0 := R.hO.cells
  simp only [Value.cells] at hcl0
  have hst := R.hO.store Try.prog
  go_enter Try.func84, Try.ntmps84
  go_wp2
  go_loopg [14, 15] (m - a) (fun g1 vi vj wr => ∃ i j : Nat, vi = .int .i64 i ∧ vj = .int .i64 j ∧ a ≤ i ∧ i ≤ j ∧ j ≤ m ∧ j - i ≤ g1 ∧ Aside (SW enc w0 blk off dk wr) ∧ Aside (∀ t, a ≤ t → t < i → ltOf cf dk[m]! dk[t]! = false) ∧ Aside (∀ t, j ≤ t → t < m → ltOf cf dk[m]! dk[t]! = true))
  case atStart => exact ⟨a, m, rfl, rfl, Nat.le_refl _, by omega, Nat.le_refl _, Nat.le_refl _, S0, fun t h1 h2 => by omega, fun t h1 h2 => by omega⟩
  case round =>
    clear S0
    obtain ⟨i, j, rfl, rfl, hmi, hij, hjb, hg1, S1, HI, HJ⟩ := hrel
    by_cases hlt : i < j
    · have hltz : (i : Int) < (j : Int) := by omega
      obtain ⟨h, hh⟩ : ∃ h, h = (i + j) / 2 := ⟨_, rfl⟩
      have hh1 : i ≤ h := by omega
      have hh2 : h < j := by omega
      have eh : ((i : Int) + (j : Int)) / 2 = (h : Int) := by omega
      clear hh
      cases hlv : ltOf cf dk[m]! dk[h]! with
      | false =>
        obtain ⟨aNk23, haNk23⟩ : ∃ q, q = m := ⟨_, rfl⟩
        have eak23 : ((m : Int)).toNat = aNk23 := by omega
        have pak23 : (0 : Int) ≤ (m : Int) := by omega
        have bak23 : (m : Int) < (n : Int) := by omega
        have rak23 : IntKind.i64.wrap ((m : Int)) = (m : Int) := by rw [IntKind.wrap_i64]; omega
        obtain ⟨cNk23, hcNk23⟩ : ∃ q, q = h := ⟨_, rfl⟩
        have eck23 : ((h : Int)).toNat = cNk23 := by omega
        have pck23 : (0 : Int) ≤ (h : Int) := by omega
        have bck23 : (h : Int) < (n : Int) := by omega
        have rck23 : IntKind.i64.wrap ((h : Int)) = (h : Int) := by rw [IntKind.wrap_i64]; omega
        obtain ⟨xk23, hxk23⟩ : ∃ xx, xx = (dk)[m]! := ⟨_, rfl⟩
        obtain ⟨yk23, hyk23⟩ : ∃ xx, xx = (dk)[h]! := ⟨_, rfl⟩
        have lak23 := S1.out.cl R (by rw [hszk]; omega) (m) (by rw [hszk]; omega)
        have lck23 := S1.out.cl R (by rw [hszk]; omega) (h) (by rw [hszk]; omega)
        rw [← hxk23, ← haNk23] at lak23
        rw [← hyk23, ← hcNk23] at lck23
        have hck23 := S1.out.cmp HC.out (by rw [hszk]; omega) xk23 yk23
        have hvk23 : ¬ cf xk23 yk23 < 0 := by rw [hxk23, hyk23]; exact of_decide_eq_false hlv
        have hdk23 : decide (cf xk23 yk23 < 0) = false := decide_eq_false hvk23
        clear hxk23 hyk23 haNk23 hcNk23
        go_wp2_with fail
        go_quiet_grown (first | (go_at_fn g; refine Calls.grown_of (hck23 _ _)))
        have S2 : Aside (SW enc w0 blk off (dk) (grow (wr.drewN nq) osq)) := S1.out.grown nq osq
        clear lak23 lck23 hck23 S1
        generalize grow (wr.drewN nq) osq = w2 at S2 ⊢
        clear nq osq
        clear eak23 eck23
        go_wp2
        go_roundg (j - (h + 1))
        case measure => omega
        case rel =>
          refine ⟨h + 1, j, by go_num, rfl, by omega, by omega, hjb, Nat.le_refl _, S2, fun t h1 h2 => ?_, HJ⟩
          cases ht : ltOf cf dk[m]! dk[t]! with
          | false => rfl
          | true => have := HM.out t h h1 (by omega) (by omega) ht; rw [hlv] at this; exact absurd this (by simp)
      | true =>
        obtain ⟨aNk24, haNk24⟩ : ∃ q, q = m := ⟨_, rfl⟩
        have eak24 : ((m : Int)).toNat = aNk24 := by omega
        have pak24 : (0 : Int) ≤ (m : Int) := by omega
        have bak24 : (m : Int) < (n : Int) := by omega
        have rak24 : IntKind.i64.wrap ((m : Int)) = (m : Int) := by rw [IntKind.wrap_i64]; omega
        obtain ⟨cNk24, hcNk24⟩ : ∃ q, q = h := ⟨_, rfl⟩
        have eck24 : ((h : Int)).toNat = cNk24 := by omega
        have pck24 : (0 : Int) ≤ (h : Int) := by omega
        have bck24 : (h : Int) < (n : Int) := by omega
        have rck24 : IntKind.i64.wrap ((h : Int)) = (h : Int) := by rw [IntKind.wrap_i64]; omega
        obtain ⟨xk24, hxk24⟩ : ∃ xx, xx = (dk)[m]! := ⟨_, rfl⟩
        obtain ⟨yk24, hyk24⟩ : ∃ xx, xx = (dk)[h]! := ⟨_, rfl⟩
        have lak24 := S1.out.cl R (by rw [hszk]; omega) (m) (by rw [hszk]; omega)
        have lck24 := S1.out.cl R (by rw [hszk]; omega) (h) (by rw [hszk]; omega)
        rw [← hxk24, ← haNk24] at lak24
        rw [← hyk24, ← hcNk24] at lck24
        have hck24 := S1.out.cmp HC.out (by rw [hszk]; omega) xk24 yk24
        have hvk24 : cf xk24 yk24 < 0 := by rw [hxk24, hyk24]; exact of_decide_eq_true hlv
        have hdk24 : decide (cf xk24 yk24 < 0) = true := decide_eq_true hvk24
        clear hxk24 hyk24 haNk24 hcNk24
        go_wp2_with fail
        go_quiet_grown (first | (go_at_fn g; refine Calls.grown_of (hck24 _ _)))
        have S2 : Aside (SW enc w0 blk off (dk) (grow (wr.drewN nq) osq)) := S1.out.grown nq osq
        clear lak24 lck24 hck24 S1
        generalize grow (wr.drewN nq) osq = w2 at S2 ⊢
        clear nq osq
        clear eak24 eck24
        go_wp2
        go_roundg (h - i)
        case measure => omega
        case rel => exact ⟨i, h, rfl, rfl, hmi, hh1, by omega, Nat.le_refl _, S2, HI, fun t h1 h2 => HM.out h t (by omega) h1 h2 hlv⟩
    · have hltz : ¬ (i : Int) < (j : Int) := by omega
      have hij2 : j = i := by omega
      subst hij2
      have HE : Aside (movR P A Q y (j - a) = dE) := HF.out j hmi hjb HI.out HJ.out
      have S1 : Aside (SW enc w0 blk off (movR P A Q y l) wr) := H0.out ▸ S1.out
      clear HI HJ HM HF H0 hltz
      go_wp2
      go_loopg [17] (m - j) (fun g2 vk wr2 => ∃ k q : Nat, vk = .int .i64 k ∧ k = a + q ∧ j ≤ k ∧ k ≤ m ∧ k - j ≤ g2 ∧ Aside (SW enc w0 blk off (movR P A Q y q) wr2))
      case atStart => exact ⟨m, l, rfl, by omega, hjb, Nat.le_refl _, Nat.le_refl _, S1⟩
      case round =>
        clear S1
        obtain ⟨k, q, rfl, hkq, hjk, hkm, hg2, SK⟩ := hrel
        by_cases hkl : j < k
        · have hklz : (j : Int) < (k : Int) := by omega
          have hkld : decide ((k : Int) > (j : Int)) = true := decide_eq_true (by omega)
          obtain ⟨kp, hkp⟩ : ∃ r, r + 1 = k := ⟨k - 1, by omega⟩
          have ekp : (k : Int) - 1 = (kp : Int) := by omega
          have wkp : IntKind.i64.wrap (kp : Int) = (kp : Int) := by rw [IntKind.wrap_i64]; omega
          have hsk := HZ.out q
          have HXq : Aside (Sort.swp (movR P A Q y q) k kp = movR P A Q y (q - 1)) := by
            have := HX.out (q - 1) (by omega)
            rw [show q - 1 + 1 = q by omega, show a + (q - 1) + 1 = k by omega, show a + (q - 1) = kp by omega] at this
            exact this
          have HKQ : Hid (k = a + q) := hkq
          clear hkq
          have hkn : k < n := by omega
          have hkpn : kp < n := by omega
          have HKP : Hid (kp + 1 = k) := hkp
          clear hkp
          obtain ⟨aNk25, haNk25⟩ : ∃ q, q = k := ⟨_, rfl⟩
          have eak25 : ((k : Int)).toNat = aNk25 := by omega
          have pak25 : (0 : Int) ≤ (k : Int) := by omega
          have bak25 : (k : Int) < (n : Int) := by omega
          have rak25 : IntKind.i64.wrap ((k : Int)) = (k : Int) := by rw [IntKind.wrap_i64]; omega
          obtain ⟨cNk25, hcNk25⟩ : ∃ q, q = kp := ⟨_, rfl⟩
          have eck25 : ((kp : Int)).toNat = cNk25 := by omega
          have pck25 : (0 : Int) ≤ (kp : Int) := by omega
          have bck25 : (kp : Int) < (n : Int) := by omega
          have rck25 : IntKind.i64.wrap ((kp : Int)) = (kp : Int) := by rw [IntKind.wrap_i64]; omega
          obtain ⟨xk25, hxk25⟩ : ∃ xx, xx = (movR P A Q y q)[k]! := ⟨_, rfl⟩
          obtain ⟨yk25, hyk25⟩ : ∃ xx, xx = (movR P A Q y q)[kp]! := ⟨_, rfl⟩
          have S3 : Aside (SW enc w0 blk off (Sort.swp (movR P A Q y q) (k) (kp)) ((wr.setCell ⟨blk, off + aNk25, none⟩ (enc yk25)).setCell ⟨blk, off + cNk25, none⟩ (enc xk25)).drew) := by rw [haNk25, hcNk25, hxk25, hyk25]; exact SK.out.swapped R (k) (kp) (by rw [hsk]; omega) (by rw [hsk]; omega)
          have cak25 := SK.out.c1 R (by rw [hsk]; omega) (k) (by rw [hsk]; omega)
          have cck25 := SK.out.c1 R (by rw [hsk]; omega) (kp) (by rw [hsk]; omega)
          have fak25 := SK.out.f1 R (by rw [hsk]; omega) (k) (by rw [hsk]; omega)
          have fck25 := SK.out.f1 R (by rw [hsk]; omega) (kp) (by rw [hsk]; omega)
          obtain ⟨uk25, cdk25⟩ := SK.out.c2 R (by rw [hsk]; omega) (k) (kp) (by rw [hsk]; omega) (by rw [hsk]; omega) (enc yk25)
          rw [← hcNk25, ← haNk25] at cdk25
          rw [← hxk25, ← haNk25] at cak25
          rw [← hyk25, ← hcNk25] at cck25
          rw [← haNk25] at fak25
          rw [← hcNk25] at fck25
          clear SK hxk25 hyk25 haNk25 hcNk25
          go_wp2_with fail
          go_big_region_o
          clear cak25 cck25 cdk25 fak25 fck25
          generalize ((wr.setCell ⟨blk, off + aNk25, none⟩ (enc yk25)).setCell ⟨blk, off + cNk25, none⟩ (enc xk25)).drew = w3 at S3 ⊢
          clear eak25 eck25
          go_wp2
          go_roundg (kp - j)
          case measure => have := HKP.out; omega
          case rel => exact ⟨kp, q - 1, by first | rfl | go_num, by have := HKQ.out; have := HKP.out; omega, by have := HKP.out; omega, by have := HKP.out; omega, Nat.le_refl _, by rw [← HXq.out]; exact S3⟩
        · have hklz : ¬ (j : Int) < (k : Int) := by omega
          have hkld : decide ((k : Int) > (j : Int)) = false := decide_eq_false (by omega)
          have hq : q = j - a := by omega
          subst hq
          go_wp2
          (try simp only [Exit.inBlock, Exit.then])
          refine bodyPost_ret (results_none rfl _ _ _) rfl ?_
          exact ⟨rfl, by rw [← HE.out]; exact SK.out⟩
end Go.Proofs.Ytknibmehbplpbaa

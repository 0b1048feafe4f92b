/-
  Proved here: slices.symMergeCmpFunc at string: two sorted lists that follow one another are merged.
-/
import Derived.Shelf.SlSortCmp.Kit1
import Derived.Sort.WalkA
import Derived.Sort.WalkB2
import Derived.Sort.WalkB12
import Derived.Deep.LoopGhost
import Derived.Test.YtknibmehbplpbaaSortAS
import Derived.Test.YtknibmehbplpbaaSortMath3
namespace Go.Proofs.Ytknibmehbplpbaa
open Go.Shelf Go.RowKit Go.Lib Go.Sort
variable {α : Type} [Inhabited α] {enc : α → Value}

set_option maxHeartbeats 8000000 in
set_option maxRecDepth 1000000 in
theorem symLS (cf : α → α → Int) (O : Ord (leOf (ltOf cf))) (g : Nat) (cb : Array Value) (eg : ∀ args w, (callFunc g args).run Try.prog w = .ok (.enter g args) w) (blk off cap n : Nat) (d0 : Array α) (w0 : World)
    (hcmp : CmpLays1 Try.prog g cb enc cf blk off d0.size w0) (R : Row1 enc w0 blk off d0) (hs0 : d0.size = n) (hsz : n < 4611686018427387904) (a m b : Nat) (P B Q : List α) (x : α) (w : World)
    (hP : P.length = a) (hm : a + 1 = m) (hB : m + B.length = b) (hn : (P ++ [x] ++ B ++ Q).length = n) (hS : Srt (leOf (ltOf cf)) B) (S : SW enc w0 blk off (P ++ [x] ++ B ++ Q).toArray w) :
    Calls Try.prog 82 #[.slice (some ⟨blk, off, none⟩) n cap, .int .i64 a, .int .i64 m, .int .i64 b, .func (.func g) #[] cb] w fun e w' => e = .returned (.tuple #[]) ∧ SW enc w0 blk off (P ++ mrg (leOf (ltOf cf)) [x] B ++ Q).toArray w' := by
  obtain ⟨dE, hdE⟩ : ∃ d, d = (P ++ mrg (leOf (ltOf cf)) [x] B ++ Q).toArray := ⟨_, rfl⟩
  rw [← hdE]
  obtain ⟨dk, hdk⟩ : ∃ d, d = (P ++ [x] ++ B ++ Q).toArray := ⟨_, rfl⟩
  rw [← hdk] at S
  have hszk : dk.size = n := by rw [hdk]; simpa using hn
  have hbn : b ≤ n := by simp only [List.length_append, List.length_cons, List.length_nil] at hn; omega
  have hgB : ∀ t, m ≤ t → t < b → dk[t]! = B[t - m]! := fun t h1 h2 => by rw [hdk]; exact get_B P [x] B Q a m b hP (by simpa using hm) hB t h1 h2
  have hga : dk[a]! = x := by rw [hdk, get_A P [x] B Q a m hP (by simpa using hm) a (Nat.le_refl _) (by omega)]; simp
  have HM : Aside (∀ s t, m ≤ s → s ≤ t → t < b → ltOf cf dk[t]! dk[a]! = true → ltOf cf dk[s]! dk[a]! = true) := by
    intro s t h1 h2 h3 h4
    rw [hgB t (by omega) h3] at h4
    rw [hgB s h1 (by omega)]
    cases hh : ltOf cf B[s - m]! dk[a]! with
    | true => rfl
    | false =>
      have h5 := O.trans dk[a]! B[s - m]! B[t - m]! (le_yes hh) (srt_get O hS (s - m) (t - m) (by omega) (by omega))
      exact (le_off h4 h5).elim
  have HF : Aside (∀ i, m ≤ i → i ≤ b → (∀ t, m ≤ t → t < i → ltOf cf dk[t]! dk[a]! = true) → (∀ t, i ≤ t → t < b → ltOf cf dk[t]! dk[a]! = false) → movR P B Q x (i - m) = dE) := by
    intro i h1 h2 h3 h4
    have := mrg_one_left (le := leOf (ltOf cf)) x B (i - m) (by omega) (fun t ht => by
      have := h3 (m + t) (by omega) (by omega)
      rw [hgB _ (by omega) (by omega), hga, show m + t - m = t by omega] at this
      exact le_no this) (fun h => by
      have := h4 i (Nat.le_refl _) (by omega)
      rw [hgB _ h1 (by omega), hga] at this
      exact le_yes this)
    rw [hdE, this, movR]
    simp
  have HX : Aside (∀ k, k < B.length → Sort.swp (movR P B Q x k) (a + k) (a + k + 1) = movR P B Q x (k + 1)) := fun k hk => movR_next P B Q x k a (a + k) hP hk rfl
  have HZ : Aside (∀ k, (movR P B Q x k).size = n) := fun k => by rw [movR_size]; simp only [List.length_append, List.length_cons, List.length_nil] at hn; omega
  have H0 : Aside (dk = movR P B Q x 0) := by show _ = _; rw [hdk]; exact movR_zero P B Q x
  obtain ⟨l, hl⟩ : ∃ l, l = B.length := ⟨_, rfl⟩
  rw [← hl] at HX
  have hlb : m + l = b := by omega
  have S0 : Aside (SW enc w0 blk off dk w) := S
  have HC : Aside (CmpLays1 Try.prog g cb enc cf blk off d0.size w0) := hcmp
  have ema : (m : Int) - (a : Int) = 1 := by omega
  clear S hdE hdk hgB hga hn hP hB hS hl hcmp O
  have mixed : Try.prog.follows .mixedOrders = true := by kernel_rfl
  have hcl0 := R.hO.cells
  simp only [Value.cells] at hcl0
  have hst := R.hO.store Try.prog
  go_enter Try.func82, Try.ntmps82
  go_wp2
  go_loopg [10, 11] (b - m) (fun g1 vi vj wr => ∃ i j : Nat, vi = .int .i64 i ∧ vj = .int .i64 j ∧ m ≤ i ∧ i ≤ j ∧ j ≤ b ∧ j - i ≤ g1 ∧ Aside (SW enc w0 blk off dk wr) ∧ Aside (∀ t, m ≤ t → t < i → ltOf cf dk[t]! dk[a]! = true) ∧ Aside (∀ t, j ≤ t → t < b → ltOf cf dk[t]! dk[a]! = false))
  case atStart => exact ⟨m, b, rfl, rfl, Nat.le_refl _, by omega, Nat.le_refl _, Nat.le_refl _, S0, fun t h1 h2 => by omega, fun t h1 h2 => by omega⟩
  case round =>
    clear S0
    obtain ⟨i, j, rfl, rfl, hmi, hij, hjb, hg1, S1, HI, HJ⟩ := hrel
    by_cases hlt : i < j
    · have hltz : (i : Int) < (j : Int) := by omega
      obtain ⟨h, hh⟩ : ∃ h, h = (i + j) / 2 := ⟨_, rfl⟩
      have hh1 : i ≤ h := by omega
      have hh2 : h < j := by omega
      have eh : ((i : Int) + (j : Int)) / 2 = (h : Int) := by omega
      clear hh
      cases hlv : ltOf cf dk[h]! dk[a]! with
      | true =>
        obtain ⟨aNk11, haNk11⟩ : ∃ q, q = h := ⟨_, rfl⟩
        have eak11 : ((h : Int)).toNat = aNk11 := by omega
        have pak11 : (0 : Int) ≤ (h : Int) := by omega
        have bak11 : (h : Int) < (n : Int) := by omega
        have rak11 : IntKind.i64.wrap ((h : Int)) = (h : Int) := by rw [IntKind.wrap_i64]; omega
        obtain ⟨cNk11, hcNk11⟩ : ∃ q, q = a := ⟨_, rfl⟩
        have eck11 : ((a : Int)).toNat = cNk11 := by omega
        have pck11 : (0 : Int) ≤ (a : Int) := by omega
        have bck11 : (a : Int) < (n : Int) := by omega
        have rck11 : IntKind.i64.wrap ((a : Int)) = (a : Int) := by rw [IntKind.wrap_i64]; omega
        obtain ⟨xk11, hxk11⟩ : ∃ xx, xx = (dk)[h]! := ⟨_, rfl⟩
        obtain ⟨yk11, hyk11⟩ : ∃ xx, xx = (dk)[a]! := ⟨_, rfl⟩
        have lak11 := S1.out.cl R (by rw [hszk]; omega) (h) (by rw [hszk]; omega)
        have lck11 := S1.out.cl R (by rw [hszk]; omega) (a) (by rw [hszk]; omega)
        rw [← hxk11, ← haNk11] at lak11
        rw [← hyk11, ← hcNk11] at lck11
        have hck11 := S1.out.cmp HC.out (by rw [hszk]; omega) xk11 yk11
        have hvk11 : cf xk11 yk11 < 0 := by rw [hxk11, hyk11]; exact of_decide_eq_true hlv
        have hdk11 : decide (cf xk11 yk11 < 0) = true := decide_eq_true hvk11
        clear hxk11 hyk11 haNk11 hcNk11
        go_wp2_with fail
        go_quiet_grown (first | (go_at_fn g; refine Calls.grown_of (hck11 _ _)))
        have S2 : Aside (SW enc w0 blk off (dk) (grow (wr.drewN nq) osq)) := S1.out.grown nq osq
        clear lak11 lck11 hck11 S1
        generalize grow (wr.drewN nq) osq = w2 at S2 ⊢
        clear nq osq
        clear eak11 eck11
        go_wp2
        go_roundg (j - (h + 1))
        case measure => omega
        case rel => exact ⟨h + 1, j, by go_num, rfl, by omega, by omega, hjb, Nat.le_refl _, S2, fun t h1 h2 => HM.out t h h1 (by omega) (by omega) hlv, HJ⟩
      | false =>
        obtain ⟨aNk12, haNk12⟩ : ∃ q, q = h := ⟨_, rfl⟩
        have eak12 : ((h : Int)).toNat = aNk12 := by omega
        have pak12 : (0 : Int) ≤ (h : Int) := by omega
        have bak12 : (h : Int) < (n : Int) := by omega
        have rak12 : IntKind.i64.wrap ((h : Int)) = (h : Int) := by rw [IntKind.wrap_i64]; omega
        obtain ⟨cNk12, hcNk12⟩ : ∃ q, q = a := ⟨_, rfl⟩
        have eck12 : ((a : Int)).toNat = cNk12 := by omega
        have pck12 : (0 : Int) ≤ (a : Int) := by omega
        have bck12 : (a : Int) < (n : Int) := by omega
        have rck12 : IntKind.i64.wrap ((a : Int)) = (a : Int) := by rw [IntKind.wrap_i64]; omega
        obtain ⟨xk12, hxk12⟩ : ∃ xx, xx = (dk)[h]! := ⟨_, rfl⟩
        obtain ⟨yk12, hyk12⟩ : ∃ xx, xx = (dk)[a]! := ⟨_, rfl⟩
        have lak12 := S1.out.cl R (by rw [hszk]; omega) (h) (by rw [hszk]; omega)
        have lck12 := S1.out.cl R (by rw [hszk]; omega) (a) (by rw [hszk]; omega)
        rw [← hxk12, ← haNk12] at lak12
        rw [← hyk12, ← hcNk12] at lck12
        have hck12 := S1.out.cmp HC.out (by rw [hszk]; omega) xk12 yk12
        have hvk12 : ¬ cf xk12 yk12 < 0 := by rw [hxk12, hyk12]; exact of_decide_eq_false hlv
        have hdk12 : decide (cf xk12 yk12 < 0) = false := decide_eq_false hvk12
        clear hxk12 hyk12 haNk12 hcNk12
        go_wp2_with fail
        go_quiet_grown (first | (go_at_fn g; refine Calls.grown_of (hck12 _ _)))
        have S2 : Aside (SW enc w0 blk off (dk) (grow (wr.drewN nq) osq)) := S1.out.grown nq osq
        clear lak12 lck12 hck12 S1
        generalize grow (wr.drewN nq) osq = w2 at S2 ⊢
        clear nq osq
        clear eak12 eck12
        go_wp2
        go_roundg (h - i)
        case measure => omega
        case rel =>
          refine ⟨i, h, rfl, rfl, hmi, hh1, by omega, Nat.le_refl _, S2, HI, fun t h1 h2 => ?_⟩
          cases ht : ltOf cf dk[t]! dk[a]! with
          | false => rfl
          | true => have := HM.out h t (by omega) h1 h2 ht; rw [hlv] at this; exact absurd this (by simp)
    · have hltz : ¬ (i : Int) < (j : Int) := by omega
      have hij2 : j = i := by omega
      subst hij2
      have HE := HF.out j hmi hjb HI.out HJ.out
      have HE : Aside (movR P B Q x (j - m) = dE) := HE
      obtain ⟨i1, hi1⟩ : ∃ q, q + 1 = j := ⟨j - 1, by omega⟩
      have ei1 : (j : Int) - 1 = (i1 : Int) := by omega
      have wi1 : IntKind.i64.wrap (i1 : Int) = (i1 : Int) := by rw [IntKind.wrap_i64]; omega
      have S1 : Aside (SW enc w0 blk off (movR P B Q x 0) wr) := H0.out ▸ S1.out
      clear HI HJ HM HF H0 hltz
      go_wp2
      go_loopg [13] (i1 - a) (fun g2 vk wr2 => ∃ k q : Nat, vk = .int .i64 k ∧ k = a + q ∧ k ≤ i1 ∧ i1 - k ≤ g2 ∧ Aside (SW enc w0 blk off (movR P B Q x q) wr2))
      case atStart => exact ⟨a, 0, rfl, rfl, by omega, Nat.le_refl _, S1⟩
      case round =>
        clear S1
        obtain ⟨k, q, rfl, hkq, hki, hg2, SK⟩ := hrel
        by_cases hkl : k < i1
        · have hklz : (k : Int) < (i1 : Int) := by omega
          have hsk := HZ.out q
          have HXq : Aside (Sort.swp (movR P B Q x q) k (k + 1) = movR P B Q x (q + 1)) := by have := HX.out q (by omega); rw [← hkq] at this; exact this
          have HKQ : Hid (k = a + q) := hkq
          clear hkq
          obtain ⟨aNk13, haNk13⟩ : ∃ q, q = k := ⟨_, rfl⟩
          have eak13 : ((k : Int)).toNat = aNk13 := by omega
          have pak13 : (0 : Int) ≤ (k : Int) := by omega
          have bak13 : (k : Int) < (n : Int) := by omega
          have rak13 : IntKind.i64.wrap ((k : Int)) = (k : Int) := by rw [IntKind.wrap_i64]; omega
          obtain ⟨cNk13, hcNk13⟩ : ∃ q, q = k + 1 := ⟨_, rfl⟩
          have eck13 : ((k : Int) + 1).toNat = cNk13 := by omega
          have pck13 : (0 : Int) ≤ (k : Int) + 1 := by omega
          have bck13 : (k : Int) + 1 < (n : Int) := by omega
          have rck13 : IntKind.i64.wrap ((k : Int) + 1) = (k : Int) + 1 := by rw [IntKind.wrap_i64]; omega
          obtain ⟨xk13, hxk13⟩ : ∃ xx, xx = (movR P B Q x q)[k]! := ⟨_, rfl⟩
          obtain ⟨yk13, hyk13⟩ : ∃ xx, xx = (movR P B Q x q)[k + 1]! := ⟨_, rfl⟩
          have S3 : Aside (SW enc w0 blk off (Sort.swp (movR P B Q x q) (k) (k + 1)) ((wr.setCell ⟨blk, off + aNk13, none⟩ (enc yk13)).setCell ⟨blk, off + cNk13, none⟩ (enc xk13)).drew) := by rw [haNk13, hcNk13, hxk13, hyk13]; exact SK.out.swapped R (k) (k + 1) (by rw [hsk]; omega) (by rw [hsk]; omega)
          have cak13 := SK.out.c1 R (by rw [hsk]; omega) (k) (by rw [hsk]; omega)
          have cck13 := SK.out.c1 R (by rw [hsk]; omega) (k + 1) (by rw [hsk]; omega)
          have fak13 := SK.out.f1 R (by rw [hsk]; omega) (k) (by rw [hsk]; omega)
          have fck13 := SK.out.f1 R (by rw [hsk]; omega) (k + 1) (by rw [hsk]; omega)
          obtain ⟨uk13, cdk13⟩ := SK.out.c2 R (by rw [hsk]; omega) (k) (k + 1) (by rw [hsk]; omega) (by rw [hsk]; omega) (enc yk13)
          rw [← hcNk13, ← haNk13] at cdk13
          rw [← hxk13, ← haNk13] at cak13
          rw [← hyk13, ← hcNk13] at cck13
          rw [← haNk13] at fak13
          rw [← hcNk13] at fck13
          clear SK hxk13 hyk13 haNk13 hcNk13
          go_wp2_with fail
          go_big_region_o
          clear cak13 cck13 cdk13 fak13 fck13
          generalize ((wr.setCell ⟨blk, off + aNk13, none⟩ (enc yk13)).setCell ⟨blk, off + cNk13, none⟩ (enc xk13)).drew = w3 at S3 ⊢
          clear eak13 eck13
          go_wp2
          go_roundg (i1 - (k + 1))
          case measure => omega
          case rel => exact ⟨k + 1, q + 1, by go_num, by rw [HKQ.out]; omega, by omega, Nat.le_refl _, by rw [← HXq.out]; exact S3⟩
        · have hklz : ¬ (k : Int) < (i1 : Int) := by omega
          have hq : q = j - m := by omega
          subst hq
          go_wp2
          (try simp only [Exit.inBlock, Exit.then])
          refine bodyPost_ret (results_none rfl _ _ _) rfl ?_
          exact ⟨rfl, by rw [← HE.out]; exact SK.out⟩

set_option maxHeartbeats 8000000 in
set_option maxRecDepth 1000000 in
theorem symRS (cf : α → α → Int) (O : Ord (leOf (ltOf cf))) (g : Nat) (cb : Array Value) (eg : ∀ args w, (callFunc g args).run Try.prog w = .ok (.enter g args) w) (blk off cap n : Nat) (d0 : Array α) (w0 : World)
    (hcmp : CmpLays1 Try.prog g cb enc cf blk off d0.size w0) (R : Row1 enc w0 blk off d0) (hs0 : d0.size = n) (hsz : n < 4611686018427387904) (a m b : Nat) (P A Q : List α) (y : α) (w : World)
    (hP : P.length = a) (hA : a + A.length = m) (hb : m + 1 = b) (hn : (P ++ A ++ [y] ++ Q).length = n) (hA0 : 2 ≤ A.length) (hS : Srt (leOf (ltOf cf)) A) (S : SW enc w0 blk off (P ++ A ++ [y] ++ Q).toArray w) :
    Calls Try.prog 82 #[.slice (some ⟨blk, off, none⟩) n cap, .int .i64 a, .int .i64 m, .int .i64 b, .func (.func g) #[] cb] w fun e w' => e = .returned (.tuple #[]) ∧ SW enc w0 blk off (P ++ mrg (leOf (ltOf cf)) A [y] ++ Q).toArray w' := by
  obtain ⟨dE, hdE⟩ : ∃ d, d = (P ++ mrg (leOf (ltOf cf)) A [y] ++ Q).toArray := ⟨_, rfl⟩
  rw [← hdE]
  obtain ⟨dk, hdk⟩ : ∃ d, d = (P ++ A ++ [y] ++ Q).toArray := ⟨_, rfl⟩
  rw [← hdk] at S
  have hszk : dk.size = n := by rw [hdk]; simpa using hn
  have hbn : b ≤ n := by simp only [List.length_append, List.length_cons, List.length_nil] at hn; omega
  have hgA : ∀ t, a ≤ t → t < m → dk[t]! = A[t - a]! := fun t h1 h2 => by rw [hdk]; exact get_A P A [y] Q a m hP hA t h1 h2
  have hga : dk[m]! = y := by rw [hdk, get_B P A [y] Q a m b hP hA (by simpa using hb) m (Nat.le_refl _) (by omega)]; simp
  have HM : Aside (∀ s t, a ≤ s → s ≤ t → t < m → ltOf cf dk[m]! dk[s]! = true → ltOf cf dk[m]! dk[t]! = true) := by
    intro s t h1 h2 h3 h4
    rw [hgA s h1 (by omega)] at h4
    rw [hgA t (by omega) h3]
    cases hh : ltOf cf dk[m]! A[t - a]! with
    | true => rfl
    | false =>
      have h5 := O.trans A[s - a]! A[t - a]! dk[m]! (srt_get O hS (s - a) (t - a) (by omega) (by omega)) (le_yes hh)
      exact (le_off h4 h5).elim
  have HF : Aside (∀ i, a ≤ i → i ≤ m → (∀ t, a ≤ t → t < i → ltOf cf dk[m]! dk[t]! = false) → (∀ t, i ≤ t → t < m → ltOf cf dk[m]! dk[t]! = true) → movR P A Q y (i - a) = dE) := by
    intro i h1 h2 h3 h4
    have := mrg_one_right (le := leOf (ltOf cf)) y A (i - a) (by omega) (fun t ht => by
      have := h3 (a + t) (by omega) (by omega)
      rw [hga, hgA _ (by omega) (by omega), show a + t - a = t by omega] at this
      exact le_yes this) (fun h => by
      have := h4 i (Nat.le_refl _) (by omega)
      rw [hga, hgA _ h1 (by omega)] at this
      exact le_no this)
    rw [hdE, this, movR]
    simp
  have HX : Aside (∀ k, k < A.length → Sort.swp (movR P A Q y (k + 1)) (a + k + 1) (a + k) = movR P A Q y k) := fun k hk => movR_back P A Q y k a (a + k + 1) hP hk rfl
  have HZ : Aside (∀ k, (movR P A Q y k).size = n) := fun k => by rw [movR_size]; simp only [List.length_append, List.length_cons, List.length_nil] at hn; omega
  obtain ⟨l, hl⟩ : ∃ l, l = A.length := ⟨_, rfl⟩
  have H0 : Aside (dk = movR P A Q y l) := by show _ = _; rw [hdk]; exact movR_all P A Q y l hl.symm
  rw [← hl] at HX
  have hlb : a + l = m := by omega
  have S0 : Aside (SW enc w0 blk off dk w) := S
  have HC : Aside (CmpLays1 Try.prog g cb enc cf blk off d0.size w0) := hcmp
  have ema : (m : Int) - (a : Int) = (l : Int) := by omega
  have eb1 : ((l : Int) == 1) = false := by simp; omega
  have eb2 : decide ((l : Int) = 1) = false := decide_eq_false (by omega)
  have ebm : (b : Int) - (m : Int) = 1 := by omega
  clear S hdE hdk hgA hga hn hP hA hS hl hA0 hcmp O
  have mixed : Try.prog.follows .mixedOrders = true := by kernel_rfl
  have hcl0 := R.hO.cells
  simp only [Value.cells] at hcl0
  have hst := R.hO.store Try.prog
  go_enter Try.func82, Try.ntmps82
  go_wp2
  go_loopg [14, 15] (m - a) (fun g1 vi vj wr => ∃ i j : Nat, vi = .int .i64 i ∧ vj = .int .i64 j ∧ a ≤ i ∧ i ≤ j ∧ j ≤ m ∧ j - i ≤ g1 ∧ Aside (SW enc w0 blk off dk wr) ∧ Aside (∀ t, a ≤ t → t < i → ltOf cf dk[m]! dk[t]! = false) ∧ Aside (∀ t, j ≤ t → t < m → ltOf cf dk[m]! dk[t]! = true))
  case atStart => exact ⟨a, m, rfl, rfl, Nat.le_refl _, by omega, Nat.le_refl _, Nat.le_refl _, S0, fun t h1 h2 => by omega, fun t h1 h2 => by omega⟩
  case round =>
    clear S0
    obtain ⟨i, j, rfl, rfl, hmi, hij, hjb, hg1, S1, HI, HJ⟩ := hrel
    by_cases hlt : i < j
    · have hltz : (i : Int) < (j : Int) := by omega
      obtain ⟨h, hh⟩ : ∃ h, h = (i + j) / 2 := ⟨_, rfl⟩
      have hh1 : i ≤ h := by omega
      have hh2 : h < j := by omega
      have eh : ((i : Int) + (j : Int)) / 2 = (h : Int) := by omega
      clear hh
      cases hlv : ltOf cf dk[m]! dk[h]! with
      | false =>
        obtain ⟨aNk14, haNk14⟩ : ∃ q, q = m := ⟨_, rfl⟩
        have eak14 : ((m : Int)).toNat = aNk14 := by omega
        have pak14 : (0 : Int) ≤ (m : Int) := by omega
        have bak14 : (m : Int) < (n : Int) := by omega
        have rak14 : IntKind.i64.wrap ((m : Int)) = (m : Int) := by rw [IntKind.wrap_i64]; omega
        obtain ⟨cNk14, hcNk14⟩ : ∃ q, q = h := ⟨_, rfl⟩
        have eck14 : ((h : Int)).toNat = cNk14 := by omega
        have pck14 : (0 : Int) ≤ (h : Int) := by omega
        have bck14 : (h : Int) < (n : Int) := by omega
        have rck14 : IntKind.i64.wrap ((h : Int)) = (h : Int) := by rw [IntKind.wrap_i64]; omega
        obtain ⟨xk14, hxk14⟩ : ∃ xx, xx = (dk)[m]! := ⟨_, rfl⟩
        obtain ⟨yk14, hyk14⟩ : ∃ xx, xx = (dk)[h]! := ⟨_, rfl⟩
        have lak14 := S1.out.cl R (by rw [hszk]; omega) (m) (by rw [hszk]; omega)
        have lck14 := S1.out.cl R (by rw [hszk]; omega) (h) (by rw [hszk]; omega)
        rw [← hxk14, ← haNk14] at lak14
        rw [← hyk14, ← hcNk14] at lck14
        have hck14 := S1.out.cmp HC.out (by rw [hszk]; omega) xk14 yk14
        have hvk14 : ¬ cf xk14 yk14 < 0 := by rw [hxk14, hyk14]; exact of_decide_eq_false hlv
        have hdk14 : decide (cf xk14 yk14 < 0) = false := decide_eq_false hvk14
        clear hxk14 hyk14 haNk14 hcNk14
        go_wp2_with fail
        go_quiet_grown (first | (go_at_fn g; refine Calls.grown_of (hck14 _ _)))
        have S2 : Aside (SW enc w0 blk off (dk) (grow (wr.drewN nq) osq)) := S1.out.grown nq osq
        clear lak14 lck14 hck14 S1
        generalize grow (wr.drewN nq) osq = w2 at S2 ⊢
        clear nq osq
        clear eak14 eck14
        go_wp2
        go_roundg (j - (h + 1))
        case measure => omega
        case rel =>
          refine ⟨h + 1, j, by go_num, rfl, by omega, by omega, hjb, Nat.le_refl _, S2, fun t h1 h2 => ?_, HJ⟩
          cases ht : ltOf cf dk[m]! dk[t]! with
          | false => rfl
          | true => have := HM.out t h h1 (by omega) (by omega) ht; rw [hlv] at this; exact absurd this (by simp)
      | true =>
        obtain ⟨aNk15, haNk15⟩ : ∃ q, q = m := ⟨_, rfl⟩
        have eak15 : ((m : Int)).toNat = aNk15 := by omega
        have pak15 : (0 : Int) ≤ (m : Int) := by omega
        have bak15 : (m : Int) < (n : Int) := by omega
        have rak15 : IntKind.i64.wrap ((m : Int)) = (m : Int) := by rw [IntKind.wrap_i64]; omega
        obtain ⟨cNk15, hcNk15⟩ : ∃ q, q = h := ⟨_, rfl⟩
        have eck15 : ((h : Int)).toNat = cNk15 := by omega
        have pck15 : (0 : Int) ≤ (h : Int) := by omega
        have bck15 : (h : Int) < (n : Int) := by omega
        have rck15 : IntKind.i64.wrap ((h : Int)) = (h : Int) := by rw [IntKind.wrap_i64]; omega
        obtain ⟨xk15, hxk15⟩ : ∃ xx, xx = (dk)[m]! := ⟨_, rfl⟩
        obtain ⟨yk15, hyk15⟩ : ∃ xx, xx = (dk)[h]! := ⟨_, rfl⟩
        have lak15 := S1.out.cl R (by rw [hszk]; omega) (m) (by rw [hszk]; omega)
        have lck15 := S1.out.cl R (by rw [hszk]; omega) (h) (by rw [hszk]; omega)
        rw [← hxk15, ← haNk15] at lak15
        rw [← hyk15, ← hcNk15] at lck15
        have hck15 := S1.out.cmp HC.out (by rw [hszk]; omega) xk15 yk15
        have hvk15 : cf xk15 yk15 < 0 := by rw [hxk15, hyk15]; exact of_decide_eq_true hlv
        have hdk15 : decide (cf xk15 yk15 < 0) = true := decide_eq_true hvk15
        clear hxk15 hyk15 haNk15 hcNk15
        go_wp2_with fail
        go_quiet_grown (first | (go_at_fn g; refine Calls.grown_of (hck15 _ _)))
        have S2 : Aside (SW enc w0 blk off (dk) (grow (wr.drewN nq) osq)) := S1.out.grown nq osq
        clear lak15 lck15 hck15 S1
        generalize grow (wr.drewN nq) osq = w2 at S2 ⊢
        clear nq osq
        clear eak15 eck15
        go_wp2
        go_roundg (h - i)
        case measure => omega
        case rel => exact ⟨i, h, rfl, rfl, hmi, hh1, by omega, Nat.le_refl _, S2, HI, fun t h1 h2 => HM.out h t (by omega) h1 h2 hlv⟩
    · have hltz : ¬ (i : Int) < (j : Int) := by omega
      have hij2 : j = i := by omega
      subst hij2
      have HE : Aside (movR P A Q y (j - a) = dE) := HF.out j hmi hjb HI.out HJ.out
      have S1 : Aside (SW enc w0 blk off (movR P A Q y l) wr) := H0.out ▸ S1.out
      clear HI HJ HM HF H0 hltz
      go_wp2
      go_loopg [17] (m - j) (fun g2 vk wr2 => ∃ k q : Nat, vk = .int .i64 k ∧ k = a + q ∧ j ≤ k ∧ k ≤ m ∧ k - j ≤ g2 ∧ Aside (SW enc w0 blk off (movR P A Q y q) wr2))
      case atStart => exact ⟨m, l, rfl, by omega, hjb, Nat.le_refl _, Nat.le_refl _, S1⟩
      case round =>
        clear S1
        obtain ⟨k, q, rfl, hkq, hjk, hkm, hg2, SK⟩ := hrel
        by_cases hkl : j < k
        · have hklz : (j : Int) < (k : Int) := by omega
          have hkld : decide ((k : Int) > (j : Int)) = true := decide_eq_true (by omega)
          obtain ⟨kp, hkp⟩ : ∃ r, r + 1 = k := ⟨k - 1, by omega⟩
          have ekp : (k : Int) - 1 = (kp : Int) := by omega
          have wkp : IntKind.i64.wrap (kp : Int) = (kp : Int) := by rw [IntKind.wrap_i64]; omega
          have hsk := HZ.out q
          have HXq : Aside (Sort.swp (movR P A Q y q) k kp = movR P A Q y (q - 1)) := by
            have := HX.out (q - 1) (by omega)
            rw [show q - 1 + 1 = q by omega, show a + (q - 1) + 1 = k by omega, show a + (q - 1) = kp by omega] at this
            exact this
          have HKQ : Hid (k = a + q) := hkq
          clear hkq
          have hkn : k < n := by omega
          have hkpn : kp < n := by omega
          have HKP : Hid (kp + 1 = k) := hkp
          clear hkp
          obtain ⟨aNk16, haNk16⟩ : ∃ q, q = k := ⟨_, rfl⟩
          have eak16 : ((k : Int)).toNat = aNk16 := by omega
          have pak16 : (0 : Int) ≤ (k : Int) := by omega
          have bak16 : (k : Int) < (n : Int) := by omega
          have rak16 : IntKind.i64.wrap ((k : Int)) = (k : Int) := by rw [IntKind.wrap_i64]; omega
          obtain ⟨cNk16, hcNk16⟩ : ∃ q, q = kp := ⟨_, rfl⟩
          have eck16 : ((kp : Int)).toNat = cNk16 := by omega
          have pck16 : (0 : Int) ≤ (kp : Int) := by omega
          have bck16 : (kp : Int) < (n : Int) := by omega
          have rck16 : IntKind.i64.wrap ((kp : Int)) = (kp : Int) := by rw [IntKind.wrap_i64]; omega
          obtain ⟨xk16, hxk16⟩ : ∃ xx, xx = (movR P A Q y q)[k]! := ⟨_, rfl⟩
          obtain ⟨yk16, hyk16⟩ : ∃ xx, xx = (movR P A Q y q)[kp]! := ⟨_, rfl⟩
          have S3 : Aside (SW enc w0 blk off (Sort.swp (movR P A Q y q) (k) (kp)) ((wr.setCell ⟨blk, off + aNk16, none⟩ (enc yk16)).setCell ⟨blk, off + cNk16, none⟩ (enc xk16)).drew) := by rw [haNk16, hcNk16, hxk16, hyk16]; exact SK.out.swapped R (k) (kp) (by rw [hsk]; omega) (by rw [hsk]; omega)
          have cak16 := SK.out.c1 R (by rw [hsk]; omega) (k) (by rw [hsk]; omega)
          have cck16 := SK.out.c1 R (by rw [hsk]; omega) (kp) (by rw [hsk]; omega)
          have fak16 := SK.out.f1 R (by rw [hsk]; omega) (k) (by rw [hsk]; omega)
          have fck16 := SK.out.f1 R (by rw [hsk]; omega) (kp) (by rw [hsk]; omega)
          obtain ⟨uk16, cdk16⟩ := SK.out.c2 R (by rw [hsk]; omega) (k) (kp) (by rw [hsk]; omega) (by rw [hsk]; omega) (enc yk16)
          rw [← hcNk16, ← haNk16] at cdk16
          rw [← hxk16, ← haNk16] at cak16
          rw [← hyk16, ← hcNk16] at cck16
          rw [← haNk16] at fak16
          rw [← hcNk16] at fck16
          clear SK hxk16 hyk16 haNk16 hcNk16
          go_wp2_with fail
          go_big_region_o
          clear cak16 cck16 cdk16 fak16 fck16
          generalize ((wr.setCell ⟨blk, off + aNk16, none⟩ (enc yk16)).setCell ⟨blk, off + cNk16, none⟩ (enc xk16)).drew = w3 at S3 ⊢
          clear eak16 eck16
          go_wp2
          go_roundg (kp - j)
          case measure => have := HKP.out; omega
          case rel => exact ⟨kp, q - 1, by first | rfl | go_num, by have := HKQ.out; have := HKP.out; omega, by have := HKP.out; omega, by have := HKP.out; omega, Nat.le_refl _, by rw [← HXq.out]; exact S3⟩
        · have hklz : ¬ (j : Int) < (k : Int) := by omega
          have hkld : decide ((k : Int) > (j : Int)) = false := decide_eq_false (by omega)
          have hq : q = j - a := by omega
          subst hq
          go_wp2
          (try simp only [Exit.inBlock, Exit.then])
          refine bodyPost_ret (results_none rfl _ _ _) rfl ?_
          exact ⟨rfl, by rw [← HE.out]; exact SK.out⟩
end Go.Proofs.Ytknibmehbplpbaa

/-
  Proved here: slices.symMergeCmpFunc at int: two sorted lists that follow one another are merged.
-/
import Derived.Shelf.SlSortCmp.Kit1
import Derived.Sort.WalkA
import Derived.Sort.WalkB2
import Derived.Sort.WalkB12
import Derived.Deep.LoopGhost
import Derived.Test.YthdpomgpcblpeaaGreatSortMath3All
namespace Go.Proofs.YthdpomgpcblpeaaGreat
open Go.Shelf Go.RowKit Go.Lib Go.Sort
variable {α : Type} [Inhabited α] {enc : α → Value}

set_option maxHeartbeats 8000000 in
set_option maxRecDepth 1000000 in
theorem symLI (cf : α → α → Int) (O : Ord (leOf (ltOf cf))) (g : Nat) (cb : Array Value) (eg : ∀ args w, (callFunc g args).run Tryz.prog w = .ok (.enter g args) w) (blk off cap n : Nat) (d0 : Array α) (w0 : World)
    (hcmp : CmpLays1 Tryz.prog g cb enc cf blk off d0.size w0) (R : Row1 enc w0 blk off d0) (hs0 : d0.size = n) (hsz : n < 4611686018427387904) (a m b : Nat) (P B Q : List α) (x : α) (w : World)
    (hP : P.length = a) (hm : a + 1 = m) (hB : m + B.length = b) (hn : (P ++ [x] ++ B ++ Q).length = n) (hS : Srt (leOf (ltOf cf)) B) (S : SW enc w0 blk off (P ++ [x] ++ B ++ Q).toArray w) :
    Calls Tryz.prog 114 #[.slice (some ⟨blk, off, none⟩) n cap, .int .i64 a, .int .i64 m, .int .i64 b, .func (.func g) #[] cb] w fun e w' => e = .returned (.tuple #[]) ∧ SW enc w0 blk off (P ++ mrg (leOf (ltOf cf)) [x] B ++ Q).toArray w' := by
  obtain ⟨dE, hdE⟩ : ∃ d, d = (P ++ mrg (leOf (ltOf cf)) [x] B ++ Q).toArray := ⟨_, rfl⟩
  rw [← hdE]
  obtain ⟨dk, hdk⟩ : ∃ d, d = (P ++ [x] ++ B ++ Q).toArray := ⟨_, rfl⟩
  rw [← hdk] at S
  have hszk : dk.size = n := by rw [hdk]; simpa using hn
  have hbn : b ≤ n := by simp only [List.length_append, List.length_cons, List.length_nil] at hn; omega
  have hgB : ∀ t, m ≤ t → t < b → dk[t]! = B[t - m]! := fun t h1 h2 => by rw [hdk]; exact get_B P [x] B Q a m b hP (by simpa using hm) hB t h1 h2
  have hga : dk[a]! = x := by rw [hdk, get_A P [x] B Q a m hP (by simpa using hm) a (Nat.le_refl _) (by omega)]; simp
  have HM : Aside (∀ s t, m ≤ s → s ≤ t → t < b → ltOf cf dk[t]! dk[a]! = true → ltOf cf dk[s]! dk[a]! = true) := by
    intro s t h1 h2 h3 h4
    rw [hgB t (by omega) h3] at h4
    rw [hgB s h1 (by omega)]
    cases hh : ltOf cf B[s - m]! dk[a]! with
    | true => rfl
    | false =>
      have h5 := O.trans dk[a]! B[s - m]! B[t - m]! (le_yes hh) (srt_get O hS (s - m) (t - m) (by omega) (by omega))
      exact (le_off h4 h5).elim
  have HF : Aside (∀ i, m ≤ i → i ≤ b → (∀ t, m ≤ t → t < i → ltOf cf dk[t]! dk[a]! = true) → (∀ t, i ≤ t → t < b → ltOf cf dk[t]! dk[a]! = false) → movR P B Q x (i - m) = dE) := by
    intro i h1 h2 h3 h4
    have := mrg_one_left (le := leOf (ltOf cf)) x B (i - m) (by omega) (fun t ht => by
      have := h3 (m + t) (by omega) (by omega)
      rw [hgB _ (by omega) (by omega), hga, show m + t - m = t by omega] at this
      exact le_no this) (fun h => by
      have := h4 i (Nat.le_refl _) (by omega)
      rw [hgB _ h1 (by omega), hga] at this
      exact le_yes this)
    rw [hdE, this, movR]
    simp
  have HX : Aside (∀ k, k < B.length → Sort.swp (movR P B Q x k) (a + k) (a + k + 1) = movR P B Q x (k + 1)) := fun k hk => movR_next P B Q x k a (a + k) hP hk rfl
  have HZ : Aside (∀ k, (movR P B Q x k).size = n) := fun k => by rw [movR_size]; simp only [List.length_append, List.length_cons, List.length_nil] at hn; omega
  have H0 : Aside (dk = movR P B Q x 0) := by show _ = _; rw [hdk]; exact movR_zero P B Q x
  obtain ⟨l, hl⟩ : ∃ l, l = B.length := ⟨_, rfl⟩
  rw [← hl] at HX
  have hlb : m + l = b := by omega
  have S0 : Aside (SW enc w0 blk off dk w) := S
  have HC : Aside (CmpLays1 Tryz.prog g cb enc cf blk off d0.size w0) := hcmp
  have ema : (m : Int) - (a : Int) = 1 := by omega
  clear S hdE hdk hgB hga hn hP hB hS hl hcmp O
  have mixed : Tryz.prog.follows .mixedOrders = true := by kernel_rfl
  have hcl0 := R.hO.cells
  simp only [Value.cells] at hcl0
  have hst := R.hO.store Tryz.prog
  go_enter Tryz.func114, Tryz.ntmps114
  go_wp2
  go_loopg [10, 11] (b - m) (fun g1 vi vj wr => ∃ i j : Nat, vi = .int .i64 i ∧ vj = .int .i64 j ∧ m ≤ i ∧ i ≤ j ∧ j ≤ b ∧ j - i ≤ g1 ∧ Aside (SW enc w0 blk off dk wr) ∧ Aside (∀ t, m ≤ t → t < i → ltOf cf dk[t]! dk[a]! = true) ∧ Aside (∀ t, j ≤ t → t < b → ltOf cf dk[t]! dk[a]! = false))
  case atStart => exact ⟨m, b, rfl, rfl, Nat.le_refl _, by omega, Nat.le_refl _, Nat.le_refl _, S0, fun t h1 h2 => by omega, fun t h1 h2 => by omega⟩
  case round =>
    clear S0
    obtain ⟨i, j, rfl, rfl, hmi, hij, hjb, hg1, S1, HI, HJ⟩ := hrel
    by_cases hlt : i < j
    · have hltz : (i : Int) < (j : Int) := by omega
      obtain ⟨h, hh⟩ : ∃ h, h = (i + j) / 2 := ⟨_, rfl⟩
      have hh1 : i ≤ h := by omega
      have hh2 : h < j := by omega
      have eh : ((i : Int) + (j : Int)) / 2 = (h : Int) := by omega
      clear hh
      cases hlv : ltOf cf dk[h]! dk[a]! with
      | true =>
        obtain ⟨aNk2, haNk2⟩ : ∃ q, q = h := ⟨_, rfl⟩
        have eak2 : ((h : Int)).toNat = aNk2 := by omega
        have pak2 : (0 : Int) ≤ (h : Int) := by omega
        have bak2 : (h : Int) < (n : Int) := by omega
        have rak2 : IntKind.i64.wrap ((h : Int)) = (h : Int) := by rw [IntKind.wrap_i64]; omega
        obtain ⟨cNk2, hcNk2⟩ : ∃ q, q = a := ⟨_, rfl⟩
        have eck2 : ((a : Int)).toNat = cNk2 := by omega
        have pck2 : (0 : Int) ≤ (a : Int) := by omega
        have bck2 : (a : Int) < (n : Int) := by omega
        have rck2 : IntKind.i64.wrap ((a : Int)) = (a : Int) := by rw [IntKind.wrap_i64]; omega
        obtain ⟨xk2, hxk2⟩ : ∃ xx, xx = (dk)[h]! := ⟨_, rfl⟩
        obtain ⟨yk2, hyk2⟩ : ∃ xx, xx = (dk)[a]! := ⟨_, rfl⟩
        have lak2 := S1.out.cl R (by rw [hszk]; omega) (h) (by rw [hszk]; omega)
        have lck2 := S1.out.cl R (by rw [hszk]; omega) (a) (by rw [hszk]; omega)
        rw [← hxk2, ← haNk2] at lak2
        rw [← hyk2, ← hcNk2] at lck2
        have hck2 := S1.out.cmp HC.out (by rw [hszk]; omega) xk2 yk2
        have hvk2 : cf xk2 yk2 < 0 := by rw [hxk2, hyk2]; exact of_decide_eq_true hlv
        have hdk2 : decide (cf xk2 yk2 < 0) = true := decide_eq_true hvk2
        clear hxk2 hyk2 haNk2 hcNk2
        go_wp2_with fail
        go_quiet_grown (first | (go_at_fn g; refine Calls.grown_of (hck2 _ _)))
        have S2 : Aside (SW enc w0 blk off (dk) (grow (wr.drewN nq) osq)) := S1.out.grown nq osq
        clear lak2 lck2 hck2 S1
        generalize grow (wr.drewN nq) osq = w2 at S2 ⊢
        clear nq osq
        clear eak2 eck2
        go_wp2
        go_roundg (j - (h + 1))
        case measure => omega
        case rel => exact ⟨h + 1, j, by go_num, rfl, by omega, by omega, hjb, Nat.le_refl _, S2, fun t h1 h2 => HM.out t h h1 (by omega) (by omega) hlv, HJ⟩
      | false =>
        obtain ⟨aNk3, haNk3⟩ : ∃ q, q = h := ⟨_, rfl⟩
        have eak3 : ((h : Int)).toNat = aNk3 := by omega
        have pak3 : (0 : Int) ≤ (h : Int) := by omega
        have bak3 : (h : Int) < (n : Int) := by omega
        have rak3 : IntKind.i64.wrap ((h : Int)) = (h : Int) := by rw [IntKind.wrap_i64]; omega
        obtain ⟨cNk3, hcNk3⟩ : ∃ q, q = a := ⟨_, rfl⟩
        have eck3 : ((a : Int)).toNat = cNk3 := by omega
        have pck3 : (0 : Int) ≤ (a : Int) := by omega
        have bck3 : (a : Int) < (n : Int) := by omega
        have rck3 : IntKind.i64.wrap ((a : Int)) = (a : Int) := by rw [IntKind.wrap_i64]; omega
        obtain ⟨xk3, hxk3⟩ : ∃ xx, xx = (dk)[h]! := ⟨_, rfl⟩
        obtain ⟨yk3, hyk3⟩ : ∃ xx, xx = (dk)[a]! := ⟨_, rfl⟩
        have lak3 := S1.out.cl R (by rw [hszk]; omega) (h) (by rw [hszk]; omega)
        have lck3 := S1.out.cl R (by rw [hszk]; omega) (a) (by rw [hszk]; omega)
        rw [← hxk3, ← haNk3] at lak3
        rw [← hyk3, ← hcNk3] at lck3
        have hck3 := S1.out.cmp HC.out (by rw [hszk]; omega) xk3 yk3
        have hvk3 : ¬ cf xk3 yk3 < 0 := by rw [hxk3, hyk3]; exact of_decide_eq_false hlv
        have hdk3 : decide (cf xk3 yk3 < 0) = false := decide_eq_false hvk3
        clear hxk3 hyk3 haNk3 hcNk3
        go_wp2_with fail
        go_quiet_grown (first | (go_at_fn g; refine Calls.grown_of (hck3 _ _)))
        have S2 : Aside (SW enc w0 blk off (dk) (grow (wr.drewN nq) osq)) := S1.out.grown nq osq
        clear lak3 lck3 hck3 S1
        generalize grow (wr.drewN nq) osq = w2 at S2 ⊢
        clear nq osq
        clear eak3 eck3
        go_wp2
        go_roundg (h - i)
        case measure => omega
        case rel =>
          refine ⟨i, h, rfl, rfl, hmi, hh1, by omega, Nat.le_refl _, S2, HI, fun t h1 h2 => ?_⟩
          cases ht : ltOf cf dk[t]! dk[a]! with
          | false => rfl
          | true => have := HM.out h t (by omega) h1 h2 ht; rw [hlv] at this; exact absurd this (by simp)
    · have hltz : ¬ (i : Int) < (j : Int) := by omega
      have hij2 : j = i := by omega
      subst hij2
      have HE := HF.out j hmi hjb HI.out HJ.out
      have HE : Aside (movR P B Q x (j - m) = dE) := HE
      obtain ⟨i1, hi1⟩ : ∃ q, q + 1 = j := ⟨j - 1, by omega⟩
      have ei1 : (j : Int) - 1 = (i1 : Int) := by omega
      have wi1 : IntKind.i64.wrap (i1 : Int) = (i1 : Int) := by rw [IntKind.wrap_i64]; omega
      have S1 : Aside (SW enc w0 blk off (movR P B Q x 0) wr) := H0.out ▸ S1.out
      clear HI HJ HM HF H0 hltz
      go_wp2
      go_loopg [13] (i1 - a) (fun g2 vk wr2 => ∃ k q : Nat, vk = .int .i64 k ∧ k = a + q ∧ k ≤ i1 ∧ i1 - k ≤ g2 ∧ Aside (SW enc w0 blk off (movR P B Q x q) wr2))
      case atStart => exact ⟨a, 0, rfl, rfl, by omega, Nat.le_refl _, S1⟩
      case round =>
        clear S1
        obtain ⟨k, q, rfl, hkq, hki, hg2, SK⟩ := hrel
        by_cases hkl : k < i1
        · have hklz : (k : Int) < (i1 : Int) := by omega
          have hsk := HZ.out q
          have HXq : Aside (Sort.swp (movR P B Q x q) k (k + 1) = movR P B Q x (q + 1)) := by have := HX.out q (by omega); rw [← hkq] at this; exact this
          have HKQ : Hid (k = a + q) := hkq
          clear hkq
          obtain ⟨aNk4, haNk4⟩ : ∃ q, q = k := ⟨_, rfl⟩
          have eak4 : ((k : Int)).toNat = aNk4 := by omega
          have pak4 : (0 : Int) ≤ (k : Int) := by omega
          have bak4 : (k : Int) < (n : Int) := by omega
          have rak4 : IntKind.i64.wrap ((k : Int)) = (k : Int) := by rw [IntKind.wrap_i64]; omega
          obtain ⟨cNk4, hcNk4⟩ : ∃ q, q = k + 1 := ⟨_, rfl⟩
          have eck4 : ((k : Int) + 1).toNat = cNk4 := by omega
          have pck4 : (0 : Int) ≤ (k : Int) + 1 := by omega
          have bck4 : (k : Int) + 1 < (n : Int) := by omega
          have rck4 : IntKind.i64.wrap ((k : Int) + 1) = (k : Int) + 1 := by rw [IntKind.wrap_i64]; omega
          obtain ⟨xk4, hxk4⟩ : ∃ xx, xx = (movR P B Q x q)[k]! := ⟨_, rfl⟩
          obtain ⟨yk4, hyk4⟩ : ∃ xx, xx = (movR P B Q x q)[k + 1]! := ⟨_, rfl⟩
          have S3 : Aside (SW enc w0 blk off (Sort.swp (movR P B Q x q) (k) (k + 1)) ((wr.setCell ⟨blk, off + aNk4, none⟩ (enc yk4)).setCell ⟨blk, off + cNk4, none⟩ (enc xk4)).drew) := by rw [haNk4, hcNk4, hxk4, hyk4]; exact SK.out.swapped R (k) (k + 1) (by rw [hsk]; omega) (by rw [hsk]; omega)
          have cak4 := SK.out.c1 R (by rw [hsk]; omega) (k) (by rw [hsk]; omega)
          have cck4 := SK.out.c1 R (by rw [hsk]; omega) (k + 1) (by rw [hsk]; omega)
          have fak4 := SK.out.f1 R (by rw [hsk]; omega) (k) (by rw [hsk]; omega)
          have fck4 := SK.out.f1 R (by rw [hsk]; omega) (k + 1) (by rw [hsk]; omega)
          obtain ⟨uk4, cdk4⟩ := SK.out.c2 R (by rw [hsk]; omega) (k) (k + 1) (by rw [hsk]; omega) (by rw [hsk]; omega) (enc yk4)
          rw [← hcNk4, ← haNk4] at cdk4
          rw [← hxk4, ← haNk4] at cak4
          rw [← hyk4, ← hcNk4] at cck4
          rw [← haNk4] at fak4
          rw [← hcNk4] at fck4
          clear SK hxk4 hyk4 haNk4 hcNk4
          go_wp2_with fail
          go_big_region_o
          clear cak4 cck4 cdk4 fak4 fck4
          generalize ((wr.setCell ⟨blk, off + aNk4, none⟩ (enc yk4)).setCell ⟨blk, off + cNk4, none⟩ (enc xk4)).drew = w3 at S3 ⊢
          clear eak4 eck4
          go_wp2
          go_roundg (i1 - (k + 1))
          case measure => omega
          case rel => exact ⟨k + 1, q + 1, by go_num, by rw [HKQ.out]; omega, by omega, Nat.le_refl _, by rw [← HXq.out]; exact S3⟩
        · have hklz : ¬ (k : Int) < (i1 : Int) := by omega
          have hq : q = j - m := by omega
          subst hq
          go_wp2
          (try simp only [Exit.inBlock, Exit.then])
          refine bodyPost_ret (results_none rfl _ _ _) rfl ?_
          exact ⟨rfl, by rw [← HE.out]; exact SK.out⟩

set_option maxHeartbeats 8000000 in
set_option maxRecDepth 1000000 in
theorem symRI (cf : α → α → Int) (O : Ord (leOf (ltOf cf))) (g : Nat) (cb : Array Value) (eg : ∀ args w, (callFunc g args).run Tryz.prog w = .ok (.enter g args) w) (blk off cap n : Nat) (d0 : Array α) (w0 : World)
    (hcmp : CmpLays1 Tryz.prog g cb enc cf blk off d0.size w0) (R : Row1 enc w0 blk off d0) (hs0 : d0.size = n) (hsz : n < 4611686018427387904) (a m b : Nat) (P A Q : List α) (y : α) (w : World)
    (hP : P.length = a) (hA : a + A.length = m) (hb : m + 1 = b) (hn : (P ++ A ++ [y] ++ Q).length = n) (hA0 : 2 ≤ A.length) (hS : Srt (leOf (ltOf cf)) A) (S : SW enc w0 blk off (P ++ A ++ [y] ++ Q).toArray w) :
    Calls Tryz.prog 114 #[.slice (some ⟨blk, off, none⟩) n cap, .int .i64 a, .int .i64 m, .int .i64 b, .func (.func g) #[] cb] w fun e w' => e = .returned (.tuple #[]) ∧ SW enc w0 blk off (P ++ mrg (leOf (ltOf cf)) A [y] ++ Q).toArray w' := by
  obtain ⟨dE, hdE⟩ : ∃ d, d = (P ++ mrg (leOf (ltOf cf)) A [y] ++ Q).toArray := ⟨_, rfl⟩
  rw [← hdE]
  obtain ⟨dk, hdk⟩ : ∃ d, d = (P ++ A ++ [y] ++ Q).toArray := ⟨_, rfl⟩
  rw [← hdk] at S
  have hszk : dk.size = n := by rw [hdk]; simpa using hn
  have hbn : b ≤ n := by simp only [List.length_append, List.length_cons, List.length_nil] at hn; omega
  have hgA : ∀ t, a ≤ t → t < m → dk[t]! = A[t - a]! := fun t h1 h2 => by rw [hdk]; exact get_A P A [y] Q a m hP hA t h1 h2
  have hga : dk[m]! = y := by rw [hdk, get_B P A [y] Q a m b hP hA (by simpa using hb) m (Nat.le_refl _) (by omega)]; simp
  have HM : Aside (∀ s t, a ≤ s → s ≤ t → t < m → ltOf cf dk[m]! dk[s]! = true → ltOf cf dk[m]! dk[t]! = true) := by
    intro s t h1 h2 h3 h4
    rw [hgA s h1 (by omega)] at h4
    rw [hgA t (by omega) h3]
    cases hh : ltOf cf dk[m]! A[t - a]! with
    | true => rfl
    | false =>
      have h5 := O.trans A[s - a]! A[t - a]! dk[m]! (srt_get O hS (s - a) (t - a) (by omega) (by omega)) (le_yes hh)
      exact (le_off h4 h5).elim
  have HF : Aside (∀ i, a ≤ i → i ≤ m → (∀ t, a ≤ t → t < i → ltOf cf dk[m]! dk[t]! = false) → (∀ t, i ≤ t → t < m → ltOf cf dk[m]! dk[t]! = true) → movR P A Q y (i - a) = dE) := by
    intro i h1 h2 h3 h4
    have := mrg_one_right (le := leOf (ltOf cf)) y A (i - a) (by omega) (fun t ht => by
      have := h3 (a + t) (by omega) (by omega)
      rw [hga, hgA _ (by omega) (by omega), show a + t - a = t by omega] at this
      exact le_yes this) (fun h => by
      have := h4 i (Nat.le_refl _) (by omega)
      rw [hga, hgA _ h1 (by omega)] at this
      exact le_no this)
    rw [hdE, this, movR]
    simp
  have HX : Aside (∀ k, k < A.length → Sort.swp (movR P A Q y (k + 1)) (a + k + 1) (a + k) = movR P A Q y k) := fun k hk => movR_back P A Q y k a (a + k + 1) hP hk rfl
  have HZ : Aside (∀ k, (movR P A Q y k).size = n) := fun k => by rw [movR_size]; simp only [List.length_append, List.length_cons, List.length_nil] at hn; omega
  obtain ⟨l, hl⟩ : ∃ l, l = A.length := ⟨_, rfl⟩
  have H0 : Aside (dk = movR P A Q y l) := by show _ = _; rw [hdk]; exact movR_all P A Q y l hl.symm
  rw [← hl] at HX
  have hlb : a + l = m := by omega
  have S0 : Aside (SW enc w0 blk off dk w) := S
  have HC : Aside (CmpLays1 Tryz.prog g cb enc cf blk off d0.size w0) := hcmp
  have ema : (m : Int) - (a : Int) = (l : Int) := by omega
  have eb1 : ((l : Int) == 1) = false := by simp; omega
  have eb2 : decide ((l : Int) = 1) = false := decide_eq_false (by omega)
  have ebm : (b : Int) - (m : Int) = 1 := by omega
  clear S hdE hdk hgA hga hn hP hA hS hl hA0 hcmp O
  have mixed : Tryz.prog.follows .mixedOrders = true := by kernel_rfl
  have hcl0 := R.hO.cells
  simp only [Value.cells] at hcl0
  have hst := R.hO.store Tryz.prog
  go_enter Tryz.func114, Tryz.ntmps114
  go_wp2
  go_loopg [14, 15] (m - a) (fun g1 vi vj wr => ∃ i j : Nat, vi = .int .i64 i ∧ vj = .int .i64 j ∧ a ≤ i ∧ i ≤ j ∧ j ≤ m ∧ j - i ≤ g1 ∧ Aside (SW enc w0 blk off dk wr) ∧ Aside (∀ t, a ≤ t → t < i → ltOf cf dk[m]! dk[t]! = false) ∧ Aside (∀ t, j ≤ t → t < m → ltOf cf dk[m]! dk[t]! = true))
  case atStart => exact ⟨a, m, rfl, rfl, Nat.le_refl _, by omega, Nat.le_refl _, Nat.le_refl _, S0, fun t h1 h2 => by omega, fun t h1 h2 => by omega⟩
  case round =>
    clear S0
    obtain ⟨i, j, rfl, rfl, hmi, hij, hjb, hg1, S1, HI, HJ⟩ := hrel
    by_cases hlt : i < j
    · have hltz : (i : Int) < (j : Int) := by omega
      obtain ⟨h, hh⟩ : ∃ h, h = (i + j) / 2 := ⟨_, rfl⟩
      have hh1 : i ≤ h := by omega
      have hh2 : h < j := by omega
      have eh : ((i : Int) + (j : Int)) / 2 = (h : Int) := by omega
      clear hh
      cases hlv : ltOf cf dk[m]! dk[h]! with
      | false =>
        obtain ⟨aNk5, haNk5⟩ : ∃ q, q = m := ⟨_, rfl⟩
        have eak5 : ((m : Int)).toNat = aNk5 := by omega
        have pak5 : (0 : Int) ≤ (m : Int) := by omega
        have bak5 : (m : Int) < (n : Int) := by omega
        have rak5 : IntKind.i64.wrap ((m : Int)) = (m : Int) := by rw [IntKind.wrap_i64]; omega
        obtain ⟨cNk5, hcNk5⟩ : ∃ q, q = h := ⟨_, rfl⟩
        have eck5 : ((h : Int)).toNat = cNk5 := by omega
        have pck5 : (0 : Int) ≤ (h : Int) := by omega
        have bck5 : (h : Int) < (n : Int) := by omega
        have rck5 : IntKind.i64.wrap ((h : Int)) = (h : Int) := by rw [IntKind.wrap_i64]; omega
        obtain ⟨xk5, hxk5⟩ : ∃ xx, xx = (dk)[m]! := ⟨_, rfl⟩
        obtain ⟨yk5, hyk5⟩ : ∃ xx, xx = (dk)[h]! := ⟨_, rfl⟩
        have lak5 := S1.out.cl R (by rw [hszk]; omega) (m) (by rw [hszk]; omega)
        have lck5 := S1.out.cl R (by rw [hszk]; omega) (h) (by rw [hszk]; omega)
        rw [← hxk5, ← haNk5] at lak5
        rw [← hyk5, ← hcNk5] at lck5
        have hck5 := S1.out.cmp HC.out (by rw [hszk]; omega) xk5 yk5
        have hvk5 : ¬ cf xk5 yk5 < 0 := by rw [hxk5, hyk5]; exact of_decide_eq_false hlv
        have hdk5 : decide (cf xk5 yk5 < 0) = false := decide_eq_false hvk5
        clear hxk5 hyk5 haNk5 hcNk5
        go_wp2_with fail
        go_quiet_grown (first | (go_at_fn g; refine Calls.grown_of (hck5 _ _)))
        have S2 : Aside (SW enc w0 blk off (dk) (grow (wr.drewN nq) osq)) := S1.out.grown nq osq
        clear lak5 lck5 hck5 S1
        generalize grow (wr.drewN nq) osq = w2 at S2 ⊢
        clear nq osq
        clear eak5 eck5
        go_wp2
        go_roundg (j - (h + 1))
        case measure => omega
        case rel =>
          refine ⟨h + 1, j, by go_num, rfl, by omega, by omega, hjb, Nat.le_refl _, S2, fun t h1 h2 => ?_, HJ⟩
          cases ht : ltOf cf dk[m]! dk[t]! with
          | false => rfl
          | true => have := HM.out t h h1 (by omega) (by omega) ht; rw [hlv] at this; exact absurd this (by simp)
      | true =>
        obtain ⟨aNk6, haNk6⟩ : ∃ q, q = m := ⟨_, rfl⟩
        have eak6 : ((m : Int)).toNat = aNk6 := by omega
        have pak6 : (0 : Int) ≤ (m : Int) := by omega
        have bak6 : (m : Int) < (n : Int) := by omega
        have rak6 : IntKind.i64.wrap ((m : Int)) = (m : Int) := by rw [IntKind.wrap_i64]; omega
        obtain ⟨cNk6, hcNk6⟩ : ∃ q, q = h := ⟨_, rfl⟩
        have eck6 : ((h : Int)).toNat = cNk6 := by omega
        have pck6 : (0 : Int) ≤ (h : Int) := by omega
        have bck6 : (h : Int) < (n : Int) := by omega
        have rck6 : IntKind.i64.wrap ((h : Int)) = (h : Int) := by rw [IntKind.wrap_i64]; omega
        obtain ⟨xk6, hxk6⟩ : ∃ xx, xx = (dk)[m]! := ⟨_, rfl⟩
        obtain ⟨yk6, hyk6⟩ : ∃ xx, xx = (dk)[h]! := ⟨_, rfl⟩
        have lak6 := S1.out.cl R (by rw [hszk]; omega) (m) (by rw [hszk]; omega)
        have lck6 := S1.out.cl R (by rw [hszk]; omega) (h) (by rw [hszk]; omega)
        rw [← hxk6, ← haNk6] at lak6
        rw [← hyk6, ← hcNk6] at lck6
        have hck6 := S1.out.cmp HC.out (by rw [hszk]; omega) xk6 yk6
        have hvk6 : cf xk6 yk6 < 0 := by rw [hxk6, hyk6]; exact of_decide_eq_true hlv
        have hdk6 : decide (cf xk6 yk6 < 0) = true := decide_eq_true hvk6
        clear hxk6 hyk6 haNk6 hcNk6
        go_wp2_with fail
        go_quiet_grown (first | (go_at_fn g; refine Calls.grown_of (hck6 _ _)))
        have S2 : Aside (SW enc w0 blk off (dk) (grow (wr.drewN nq) osq)) := S1.out.grown nq osq
        clear lak6 lck6 hck6 S1
        generalize grow (wr.drewN nq) osq = w2 at S2 ⊢
        clear nq osq
        clear eak6 eck6
        go_wp2
        go_roundg (h - i)
        case measure => omega
        case rel => exact ⟨i, h, rfl, rfl, hmi, hh1, by omega, Nat.le_refl _, S2, HI, fun t h1 h2 => HM.out h t (by omega) h1 h2 hlv⟩
    · have hltz : ¬ (i : Int) < (j : Int) := by omega
      have hij2 : j = i := by omega
      subst hij2
      have HE : Aside (movR P A Q y (j - a) = dE) := HF.out j hmi hjb HI.out HJ.out
      have S1 : Aside (SW enc w0 blk off (movR P A Q y l) wr) := H0.out ▸ S1.out
      clear HI HJ HM HF H0 hltz
      go_wp2
      go_loopg [17] (m - j) (fun g2 vk wr2 => ∃ k q : Nat, vk = .int .i64 k ∧ k = a + q ∧ j ≤ k ∧ k ≤ m ∧ k - j ≤ g2 ∧ Aside (SW enc w0 blk off (movR P A Q y q) wr2))
      case atStart => exact ⟨m, l, rfl, by omega, hjb, Nat.le_refl _, Nat.le_refl _, S1⟩
      case round =>
        clear S1
        obtain ⟨k, q, rfl, hkq, hjk, hkm, hg2, SK⟩ := hrel
        by_cases hkl : j < k
        · have hklz : (j : Int) < (k : Int) := by omega
          have hkld : decide ((k : Int) > (j : Int)) = true := decide_eq_true (by omega)
          obtain ⟨kp, hkp⟩ : ∃ r, r + 1 = k := ⟨k - 1, by omega⟩
          have ekp : (k : Int) - 1 = (kp : Int) := by omega
          have wkp : IntKind.i64.wrap (kp : Int) = (kp : Int) := by rw [IntKind.wrap_i64]; omega
          have hsk := HZ.out q
          have HXq : Aside (Sort.swp (movR P A Q y q) k kp = movR P A Q y (q - 1)) := by
            have := HX.out (q - 1) (by omega)
            rw [show q - 1 + 1 = q by omega, show a + (q - 1) + 1 = k by omega, show a + (q - 1) = kp by omega] at this
            exact this
          have HKQ : Hid (k = a + q) := hkq
          clear hkq
          have hkn : k < n := by omega
          have hkpn : kp < n := by omega
          have HKP : Hid (kp + 1 = k) := hkp
          clear hkp
          obtain ⟨aNk7, haNk7⟩ : ∃ q, q = k := ⟨_, rfl⟩
          have eak7 : ((k : Int)).toNat = aNk7 := by omega
          have pak7 : (0 : Int) ≤ (k : Int) := by omega
          have bak7 : (k : Int) < (n : Int) := by omega
          have rak7 : IntKind.i64.wrap ((k : Int)) = (k : Int) := by rw [IntKind.wrap_i64]; omega
          obtain ⟨cNk7, hcNk7⟩ : ∃ q, q = kp := ⟨_, rfl⟩
          have eck7 : ((kp : Int)).toNat = cNk7 := by omega
          have pck7 : (0 : Int) ≤ (kp : Int) := by omega
          have bck7 : (kp : Int) < (n : Int) := by omega
          have rck7 : IntKind.i64.wrap ((kp : Int)) = (kp : Int) := by rw [IntKind.wrap_i64]; omega
          obtain ⟨xk7, hxk7⟩ : ∃ xx, xx = (movR P A Q y q)[k]! := ⟨_, rfl⟩
          obtain ⟨yk7, hyk7⟩ : ∃ xx, xx = (movR P A Q y q)[kp]! := ⟨_, rfl⟩
          have S3 : Aside (SW enc w0 blk off (Sort.swp (movR P A Q y q) (k) (kp)) ((wr.setCell ⟨blk, off + aNk7, none⟩ (enc yk7)).setCell ⟨blk, off + cNk7, none⟩ (enc xk7)).drew) := by rw [haNk7, hcNk7, hxk7, hyk7]; exact SK.out.swapped R (k) (kp) (by rw [hsk]; omega) (by rw [hsk]; omega)
          have cak7 := SK.out.c1 R (by rw [hsk]; omega) (k) (by rw [hsk]; omega)
          have cck7 := SK.out.c1 R (by rw [hsk]; omega) (kp) (by rw [hsk]; omega)
          have fak7 := SK.out.f1 R (by rw [hsk]; omega) (k) (by rw [hsk]; omega)
          have fck7 := SK.out.f1 R (by rw [hsk]; omega) (kp) (by rw [hsk]; omega)
          obtain ⟨uk7, cdk7⟩ := SK.out.c2 R (by rw [hsk]; omega) (k) (kp) (by rw [hsk]; omega) (by rw [hsk]; omega) (enc yk7)
          rw [← hcNk7, ← haNk7] at cdk7
          rw [← hxk7, ← haNk7] at cak7
          rw [← hyk7, ← hcNk7] at cck7
          rw [← haNk7] at fak7
          rw [← hcNk7] at fck7
          clear SK hxk7 hyk7 haNk7 hcNk7
          go_wp2_with fail
          go_big_region_o
          clear cak7 cck7 cdk7 fak7 fck7
          generalize ((wr.setCell ⟨blk, off + aNk7, none⟩ (enc yk7)).setCell ⟨blk, off + cNk7, none⟩ (enc xk7)).drew = w3 at S3 ⊢
          clear eak7 eck7
          go_wp2
          go_roundg (kp - j)
          case measure => have := HKP.out; omega
          case rel => exact ⟨kp, q - 1, by first | rfl | go_num, by have := HKQ.out; have := HKP.out; omega, by have := HKP.out; omega, by have := HKP.out; omega, Nat.le_refl _, by rw [← HXq.out]; exact S3⟩
        · have hklz : ¬ (j : Int) < (k : Int) := by omega
          have hkld : decide ((k : Int) > (j : Int)) = false := decide_eq_false (by omega)
          have hq : q = j - a := by omega
          subst hq
          go_wp2
          (try simp only [Exit.inBlock, Exit.then])
          refine bodyPost_ret (results_none rfl _ _ _) rfl ?_
          exact ⟨rfl, by rw [← HE.out]; exact SK.out⟩
end Go.Proofs.YthdpomgpcblpeaaGreat

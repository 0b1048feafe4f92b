/-
  Proved here: a ring of texts that tells what was done: Sum, Product and Power of package ring by it, and without a ring; the document's Words.
-/
import Derived.Test.YtjickncdhajdgaaGreatRingD
import Derived.Test.YtjickncdhajdgaaGreatRowG
import Derived.Shelf.Abstract
import Derived.Deep.LoopGhost
namespace Go.Proofs.YtjickncdhajdgaaGreat
open Go.RowKit
theorem take_snocW {α : Type} {L : List α} {k : Nat} {x : α} (h : L[k]? = some x) : L.take (k + 1) = L.take k ++ [x] := by
  rw [List.take_add_one, h]; rfl
theorem infoW : (Tryz.prog.info? 9).map (fun i => (i.zero, i.size, i.bytes)) = some (some (.string ⟨#[]⟩), 1, 16) := by kernel_rfl
theorem infoW_parts : ∃ i : TypeInfo, Tryz.prog.info? 9 = some i ∧ i.zero = some (.string ⟨#[]⟩) ∧ i.size = 1 ∧ i.bytes = 16 := by
  have h := infoW
  cases hi : Tryz.prog.info? 9 with
  | none => rw [hi] at h; simp at h
  | some i =>
    rw [hi] at h
    simp only [Option.map_some, Option.some.injEq, Prod.mk.injEq] at h
    exact ⟨i, rfl, h.1, h.2.1, h.2.2⟩
theorem oneW : ∀ s : ByteArray, (Value.string s).oneCell' = true := fun _ => rfl
/-- one step told -/
def wrapS (sg s x : ByteArray) : ByteArray := (((⟨#[40]⟩ ++ s) ++ sg) ++ x) ++ ⟨#[41]⟩
def wdF (first sg : ByteArray) (l : List ByteArray) : ByteArray := l.foldl (fun s x => wrapS sg s x) first
theorem wdF_snoc (f sg : ByteArray) (l : List ByteArray) (x : ByteArray) : wdF f sg (l ++ [x]) = wrapS sg (wdF f sg l) x := by unfold wdF; rw [List.foldl_append]; rfl
theorem wrapS_size (sg s x : ByteArray) : (wrapS sg s x).size = s.size + sg.size + x.size + 2 := by
  unfold wrapS
  simp only [ByteArray.size_append]
  have h1 : (ByteArray.mk #[40]).size = 1 := rfl
  have h2 : (ByteArray.mk #[41]).size = 1 := rfl
  omega
theorem wdF_size0 {sg : ByteArray} (hs : sg.size = 1) : ∀ (l : List ByteArray) (f : ByteArray), (∀ x ∈ l, x.size ≤ 20) → (wdF f sg l).size ≤ f.size + l.length * 23
  | [], f, _ => by show f.size ≤ _; omega
  | x :: l, f, h => by
    have h1 := wdF_size0 hs l (wrapS sg f x) fun y hy => h y (List.mem_cons_of_mem _ hy)
    have h2 := h x (List.mem_cons_self ..)
    rw [wrapS_size] at h1
    show (wdF (wrapS sg f x) sg l).size ≤ _
    simp only [List.length_cons]
    omega
theorem wdF_size {f sg : ByteArray} (hf : f.size = 1) (hs : sg.size = 1) (l : List ByteArray) (h : ∀ x ∈ l, x.size ≤ 20) : (wdF f sg l).size ≤ 1 + l.length * 23 := by
  have := wdF_size0 hs l f h
  omega
theorem mWordsZero (w : World) : (Go.method 241 26 (.agg #[]) "Zero").run Tryz.prog w = .ok (104, .agg #[]) w := by kernel_rfl
theorem entWordsZero : ∀ args w, (callFunc 104 args).run Tryz.prog w = .ok (.enter 104 args) w := enters_of Tryz.func104 (by kernel_rfl) rfl
theorem mWordsOne (w : World) : (Go.method 241 26 (.agg #[]) "One").run Tryz.prog w = .ok (103, .agg #[]) w := by kernel_rfl
theorem entWordsOne : ∀ args w, (callFunc 103 args).run Tryz.prog w = .ok (.enter 103 args) w := enters_of Tryz.func103 (by kernel_rfl) rfl
theorem mWordsAdd (w : World) : (Go.method 241 26 (.agg #[]) "Add").run Tryz.prog w = .ok (101, .agg #[]) w := by kernel_rfl
theorem entWordsAdd : ∀ args w, (callFunc 101 args).run Tryz.prog w = .ok (.enter 101 args) w := enters_of Tryz.func101 (by kernel_rfl) rfl
theorem mWordsMul (w : World) : (Go.method 241 26 (.agg #[]) "Mul").run Tryz.prog w = .ok (102, .agg #[]) w := by kernel_rfl
theorem entWordsMul : ∀ args w, (callFunc 102 args).run Tryz.prog w = .ok (.enter 102 args) w := enters_of Tryz.func102 (by kernel_rfl) rfl
set_option maxRecDepth 1000000 in
set_option maxHeartbeats 8000000 in
theorem wordsZero (w : World) : Calls Tryz.prog 104 #[.agg #[]] w fun e w' => e = .returned (.string ⟨#[48]⟩) ∧ Below w.heap.size w w' := by
  have HB : Hid (∀ o, Below w.heap.size w (w.alloc o)) := fun o => belowA w o
  go_enter Tryz.func104, Tryz.ntmps104
  go_wp2
  go_ret
  exact ⟨rfl, HB.out _⟩
set_option maxRecDepth 1000000 in
set_option maxHeartbeats 8000000 in
theorem wordsOne (w : World) : Calls Tryz.prog 103 #[.agg #[]] w fun e w' => e = .returned (.string ⟨#[49]⟩) ∧ Below w.heap.size w w' := by
  have HB : Hid (∀ o, Below w.heap.size w (w.alloc o)) := fun o => belowA w o
  go_enter Tryz.func103, Tryz.ntmps103
  go_wp2
  go_ret
  exact ⟨rfl, HB.out _⟩
set_option maxRecDepth 1000000 in
set_option maxHeartbeats 8000000 in
theorem wordsAdd (a b : ByteArray) (w : World) (ha : a.size ≤ 1000000) (hb : b.size ≤ 1000000) : Calls Tryz.prog 101 #[.agg #[], .string a, .string b] w fun e w' => e = .returned (.string (wrapS ⟨#[43]⟩ a b)) ∧ Below w.heap.size w w' := by
  have HB : Hid (∀ o, Below w.heap.size w (w.alloc o)) := fun o => belowA w o
  have h1 : (ByteArray.mk #[40]).size = 1 := rfl
  have h2 : (ByteArray.mk #[41]).size = 1 := rfl
  have h3 : (⟨#[43]⟩ : ByteArray).size = 1 := rfl
  have z1 : ((⟨#[40]⟩ : ByteArray) ++ a).size ≤ 1000001 := by rw [ByteArray.size_append]; omega
  have z2 : (((⟨#[40]⟩ : ByteArray) ++ a) ++ ⟨#[43]⟩).size ≤ 1000002 := by rw [ByteArray.size_append]; omega
  have z3 : ((((⟨#[40]⟩ : ByteArray) ++ a) ++ ⟨#[43]⟩) ++ b).size ≤ 2000002 := by rw [ByteArray.size_append]; omega
  go_enter Tryz.func101, Tryz.ntmps101
  go_wp2
  go_ret
  exact ⟨rfl, HB.out _⟩
set_option maxRecDepth 1000000 in
set_option maxHeartbeats 8000000 in
theorem wordsMul (a b : ByteArray) (w : World) (ha : a.size ≤ 1000000) (hb : b.size ≤ 1000000) : Calls Tryz.prog 102 #[.agg #[], .string a, .string b] w fun e w' => e = .returned (.string (wrapS ⟨#[42]⟩ a b)) ∧ Below w.heap.size w w' := by
  have HB : Hid (∀ o, Below w.heap.size w (w.alloc o)) := fun o => belowA w o
  have h1 : (ByteArray.mk #[40]).size = 1 := rfl
  have h2 : (ByteArray.mk #[41]).size = 1 := rfl
  have h3 : (⟨#[42]⟩ : ByteArray).size = 1 := rfl
  have z1 : ((⟨#[40]⟩ : ByteArray) ++ a).size ≤ 1000001 := by rw [ByteArray.size_append]; omega
  have z2 : (((⟨#[40]⟩ : ByteArray) ++ a) ++ ⟨#[42]⟩).size ≤ 1000002 := by rw [ByteArray.size_append]; omega
  have z3 : ((((⟨#[40]⟩ : ByteArray) ++ a) ++ ⟨#[42]⟩) ++ b).size ≤ 2000002 := by rw [ByteArray.size_append]; omega
  go_enter Tryz.func102, Tryz.ntmps102
  go_wp2
  go_ret
  exact ⟨rfl, HB.out _⟩
set_option maxRecDepth 1000000 in
set_option maxHeartbeats 8000000 in
theorem sumW (v : Value) (L : List ByteArray) (w : World) (hv : RG Value.string w v L) (hz : L.length ≤ 1100) (hx : ∀ x ∈ L, x.size ≤ 20) : Calls Tryz.prog 5 #[.iface 26 (.agg #[]), v] w fun e w' => e = .returned (.string (wdF ⟨#[48]⟩ ⟨#[43]⟩ L)) ∧ Below w.heap.size w w' := by
  have hv0 := hv
  obtain ⟨ao, cap, rfl, hc, hm, -, -⟩ := hv
  unfold maxLen at hm
  obtain ⟨n, hn⟩ : ∃ n, L.length = n := ⟨_, rfl⟩
  rw [hn] at hc hv0 hz ⊢
  have HN : Hid (L.length = n) := hn
  have HC : Hid (∀ W, Below w.heap.size w W → ∀ i, i < n → ∃ x gg o, L[i]? = some x ∧ ao = some ⟨gg, o, none⟩ ∧ W.cell? ⟨gg, o + i, none⟩ = some (.string x)) := fun W h i hi => (hv0.below (Nat.le_refl _) h).at hi
  have HX : Hid (∀ x ∈ L, x.size ≤ 20) := hx
  have HSZ : Hid (∀ i, i ≤ n → (wdF ⟨#[48]⟩ ⟨#[43]⟩ (L.take i)).size ≤ 100000) := fun i hi => by
    have h := wdF_size (f := ⟨#[48]⟩) (sg := ⟨#[43]⟩) rfl rfl (L.take i) (fun x hx => HX.out x (List.mem_of_mem_take hx))
    rw [List.length_take] at h
    have : min i L.length ≤ 1100 := by omega
    omega
  clear hn hv0 hx
  have hm0 := mWordsZero
  have hm1 := mWordsAdd
  have he0 := entWordsZero
  have he1 := entWordsAdd
  have CC : Hid _ := wordsZero w
  go_enter Tryz.func5, Tryz.ntmps5
  go_wp2_with fail
  refine Calls.mono CC.out ?_
  rintro e w1 ⟨rfl, b1⟩
  have HB : Hid (Below w.heap.size w w1) := b1
  clear CC b1
  go_wp2
  go_loopg [6, 16] n (fun g1 v6 v16 wr => ∃ (i : Nat) (s : ByteArray), v6 = .string s ∧ v16 = .int .i64 i ∧ i ≤ n ∧ n - i ≤ g1 ∧ Hid (s = wdF ⟨#[48]⟩ ⟨#[43]⟩ (L.take i)) ∧ Hid (Below w.heap.size w wr))
  case atStart => exact ⟨0, _, rfl, rfl, Nat.zero_le _, by omega, rfl, HB⟩
  case round =>
    clear HB
    obtain ⟨i, s, rfl, rfl, hin, hg1, HS, HB⟩ := hrel
    have hss : s.size ≤ 100000 := by rw [HS.out]; exact HSZ.out i hin
    by_cases hlt : i < n
    · have hltz : (i : Int) < (n : Int) := by omega
      obtain ⟨x, gg, o, hxx, e1, c1⟩ := HC.out _ HB.out i hlt
      subst e1
      have hxs : x.size ≤ 20 := HX.out x (List.mem_of_getElem? hxx)
      have HS2 : Hid (wrapS ⟨#[43]⟩ s x = wdF ⟨#[48]⟩ ⟨#[43]⟩ (L.take (i + 1))) := by show _ = _; rw [take_snocW hxx, wdF_snoc, ← HS.out]
      have CC : Hid _ := wordsAdd s x wr (by omega) (by omega)
      clear hxx
      go_wp2_with fail
      refine Calls.mono CC.out ?_
      rintro e w2 ⟨rfl, b2⟩
      have HB2 : Hid (Below w.heap.size w w2) := bstep HB.out b2
      obtain ⟨s2, hs2⟩ : ∃ s2, s2 = wrapS ⟨#[43]⟩ s x := ⟨_, rfl⟩
      rw [← hs2] at HS2 ⊢
      clear CC b2 c1 hs2
      go_wp2
      go_roundg (n - (i + 1))
      case measure => omega
      case rel => exact ⟨i + 1, _, rfl, by go_num, by omega, Nat.le_refl _, HS2, HB2⟩
    · have hltz : ¬ (i : Int) < (n : Int) := by omega
      have HE : Hid (s = wdF ⟨#[48]⟩ ⟨#[43]⟩ L) := by show _ = _; rw [HS.out, List.take_of_length_le (by rw [HN.out]; omega)]
      clear HS
      go_wp2
      go_ret
      exact ⟨by rw [← HE.out]; rfl, HB.out⟩
set_option maxRecDepth 1000000 in
set_option maxHeartbeats 8000000 in
theorem sumWNil (v : Value) (w : World) : Calls Tryz.prog 5 #[.nilIface, v] w fun e w' => e = .returned (.string ⟨#[]⟩) ∧ Below w.heap.size w w' := by
  have HB : Hid (Below w.heap.size w w) := Below.refl _ _
  go_enter Tryz.func5, Tryz.ntmps5
  go_wp2
  go_ret
  exact ⟨rfl, HB.out⟩
set_option maxRecDepth 1000000 in
set_option maxHeartbeats 8000000 in
theorem prodW (v : Value) (L : List ByteArray) (w : World) (hv : RG Value.string w v L) (hz : L.length ≤ 1100) (hx : ∀ x ∈ L, x.size ≤ 20) : Calls Tryz.prog 6 #[.iface 26 (.agg #[]), v] w fun e w' => e = .returned (.string (wdF ⟨#[49]⟩ ⟨#[42]⟩ L)) ∧ Below w.heap.size w w' := by
  have hv0 := hv
  obtain ⟨ao, cap, rfl, hc, hm, -, -⟩ := hv
  unfold maxLen at hm
  obtain ⟨n, hn⟩ : ∃ n, L.length = n := ⟨_, rfl⟩
  rw [hn] at hc hv0 hz ⊢
  have HN : Hid (L.length = n) := hn
  have HC : Hid (∀ W, Below w.heap.size w W → ∀ i, i < n → ∃ x gg o, L[i]? = some x ∧ ao = some ⟨gg, o, none⟩ ∧ W.cell? ⟨gg, o + i, none⟩ = some (.string x)) := fun W h i hi => (hv0.below (Nat.le_refl _) h).at hi
  have HX : Hid (∀ x ∈ L, x.size ≤ 20) := hx
  have HSZ : Hid (∀ i, i ≤ n → (wdF ⟨#[49]⟩ ⟨#[42]⟩ (L.take i)).size ≤ 100000) := fun i hi => by
    have h := wdF_size (f := ⟨#[49]⟩) (sg := ⟨#[42]⟩) rfl rfl (L.take i) (fun x hx => HX.out x (List.mem_of_mem_take hx))
    rw [List.length_take] at h
    have : min i L.length ≤ 1100 := by omega
    omega
  clear hn hv0 hx
  have hm0 := mWordsOne
  have hm1 := mWordsMul
  have he0 := entWordsOne
  have he1 := entWordsMul
  have CC : Hid _ := wordsOne w
  go_enter Tryz.func6, Tryz.ntmps6
  go_wp2_with fail
  refine Calls.mono CC.out ?_
  rintro e w1 ⟨rfl, b1⟩
  have HB : Hid (Below w.heap.size w w1) := b1
  clear CC b1
  go_wp2
  go_loopg [6, 16] n (fun g1 v6 v16 wr => ∃ (i : Nat) (s : ByteArray), v6 = .string s ∧ v16 = .int .i64 i ∧ i ≤ n ∧ n - i ≤ g1 ∧ Hid (s = wdF ⟨#[49]⟩ ⟨#[42]⟩ (L.take i)) ∧ Hid (Below w.heap.size w wr))
  case atStart => exact ⟨0, _, rfl, rfl, Nat.zero_le _, by omega, rfl, HB⟩
  case round =>
    clear HB
    obtain ⟨i, s, rfl, rfl, hin, hg1, HS, HB⟩ := hrel
    have hss : s.size ≤ 100000 := by rw [HS.out]; exact HSZ.out i hin
    by_cases hlt : i < n
    · have hltz : (i : Int) < (n : Int) := by omega
      obtain ⟨x, gg, o, hxx, e1, c1⟩ := HC.out _ HB.out i hlt
      subst e1
      have hxs : x.size ≤ 20 := HX.out x (List.mem_of_getElem? hxx)
      have HS2 : Hid (wrapS ⟨#[42]⟩ s x = wdF ⟨#[49]⟩ ⟨#[42]⟩ (L.take (i + 1))) := by show _ = _; rw [take_snocW hxx, wdF_snoc, ← HS.out]
      have CC : Hid _ := wordsMul s x wr (by omega) (by omega)
      clear hxx
      go_wp2_with fail
      refine Calls.mono CC.out ?_
      rintro e w2 ⟨rfl, b2⟩
      have HB2 : Hid (Below w.heap.size w w2) := bstep HB.out b2
      obtain ⟨s2, hs2⟩ : ∃ s2, s2 = wrapS ⟨#[42]⟩ s x := ⟨_, rfl⟩
      rw [← hs2] at HS2 ⊢
      clear CC b2 c1 hs2
      go_wp2
      go_roundg (n - (i + 1))
      case measure => omega
      case rel => exact ⟨i + 1, _, rfl, by go_num, by omega, Nat.le_refl _, HS2, HB2⟩
    · have hltz : ¬ (i : Int) < (n : Int) := by omega
      have HE : Hid (s = wdF ⟨#[49]⟩ ⟨#[42]⟩ L) := by show _ = _; rw [HS.out, List.take_of_length_le (by rw [HN.out]; omega)]
      clear HS
      go_wp2
      go_ret
      exact ⟨by rw [← HE.out]; rfl, HB.out⟩
set_option maxRecDepth 1000000 in
set_option maxHeartbeats 8000000 in
theorem prodWNil (v : Value) (w : World) : Calls Tryz.prog 6 #[.nilIface, v] w fun e w' => e = .returned (.string ⟨#[]⟩) ∧ Below w.heap.size w w' := by
  have HB : Hid (Below w.heap.size w w) := Below.refl _ _
  go_enter Tryz.func6, Tryz.ntmps6
  go_wp2
  go_ret
  exact ⟨rfl, HB.out⟩
set_option maxRecDepth 1000000 in
set_option maxHeartbeats 8000000 in
theorem wordsR (f sg : ByteArray) (hf : f.size = 1) (hsg : sg.size = 1) (v : Value) (L : List ByteArray) (w : World) (hv : RG Value.string w v L) (hz : L.length ≤ 1100) (hx : ∀ x ∈ L, x.size ≤ 20) : Calls Tryz.prog 8 #[.string f, .string sg, v] w fun e w' => e = .returned (.string (wdF f sg L)) ∧ Below w.heap.size w w' := by
  have hv0 := hv
  obtain ⟨ao, cap, rfl, hc, hm, -, -⟩ := hv
  unfold maxLen at hm
  obtain ⟨n, hn⟩ : ∃ n, L.length = n := ⟨_, rfl⟩
  rw [hn] at hc hv0 hz ⊢
  have HN : Hid (L.length = n) := hn
  have HC : Hid (∀ W, Below w.heap.size w W → ∀ i, i < n → ∃ x gg o, L[i]? = some x ∧ ao = some ⟨gg, o, none⟩ ∧ W.cell? ⟨gg, o + i, none⟩ = some (.string x)) := fun W h i hi => (hv0.below (Nat.le_refl _) h).at hi
  have HX : Hid (∀ x ∈ L, x.size ≤ 20) := hx
  have HSZ : Hid (∀ i, i ≤ n → (wdF f sg (L.take i)).size ≤ 100000) := fun i hi => by
    have h := wdF_size (f := f) (sg := sg) hf hsg (L.take i) (fun x hx => HX.out x (List.mem_of_mem_take hx))
    rw [List.length_take] at h
    have : min i L.length ≤ 1100 := by omega
    omega
  clear hn hv0 hx
  have h1 : (ByteArray.mk #[40]).size = 1 := rfl
  have h2 : (ByteArray.mk #[41]).size = 1 := rfl
  have HB : Hid (Below w.heap.size w w) := Below.refl _ _
  go_enter Tryz.func8, Tryz.ntmps8
  go_wp2
  go_loopg [7, 8] n (fun g1 v6 v16 wr => ∃ (i : Nat) (s : ByteArray), v6 = .string s ∧ v16 = .int .i64 i ∧ i ≤ n ∧ n - i ≤ g1 ∧ Hid (s = wdF f sg (L.take i)) ∧ w = wr)
  case atStart => exact ⟨0, _, rfl, rfl, Nat.zero_le _, by omega, rfl, rfl⟩
  case round =>
    obtain ⟨i, s, rfl, rfl, hin, hg1, HS, rfl⟩ := hrel
    have hss : s.size ≤ 100000 := by rw [HS.out]; exact HSZ.out i hin
    by_cases hlt : i < n
    · have hltz : (i : Int) < (n : Int) := by omega
      obtain ⟨x, gg, o, hxx, e1, c1⟩ := HC.out _ HB.out i hlt
      subst e1
      have hxs : x.size ≤ 20 := HX.out x (List.mem_of_getElem? hxx)
      have HS2 : Hid (wrapS sg s x = wdF f sg (L.take (i + 1))) := by show _ = _; rw [take_snocW hxx, wdF_snoc, ← HS.out]
      have z1 : ((⟨#[40]⟩ : ByteArray) ++ s).size ≤ 100001 := by rw [ByteArray.size_append]; omega
      have z2 : (((⟨#[40]⟩ : ByteArray) ++ s) ++ sg).size ≤ 100002 := by rw [ByteArray.size_append]; omega
      have z3 : ((((⟨#[40]⟩ : ByteArray) ++ s) ++ sg) ++ x).size ≤ 100022 := by rw [ByteArray.size_append]; omega
      clear hxx
      go_wp2
      go_roundg (n - (i + 1))
      case measure => omega
      case rel => exact ⟨i + 1, _, rfl, by go_num, by omega, Nat.le_refl _, HS2, rfl⟩
    · have hltz : ¬ (i : Int) < (n : Int) := by omega
      have HE : Hid (s = wdF f sg L) := by show _ = _; rw [HS.out, List.take_of_length_le (by rw [HN.out]; omega)]
      clear HS
      go_wp2
      go_ret
      exact ⟨by rw [← HE.out]; rfl, HB.out⟩
set_option maxRecDepth 1000000 in
set_option maxHeartbeats 8000000 in
theorem powW (a : ByteArray) (n : Nat) (w : World) (ha : a.size ≤ 20) (hn6 : n ≤ 1024) : Calls Tryz.prog 7 #[.iface 26 (.agg #[]), .string a, .int .i64 n] w fun e w' => e = .returned (.tuple #[.string (wdF ⟨#[49]⟩ ⟨#[42]⟩ (List.replicate n a)), .int .i64 0]) ∧ Below w.heap.size w w' := by
  have HSZ : Hid (∀ i, i ≤ n → (wdF ⟨#[49]⟩ ⟨#[42]⟩ (List.replicate i a)).size ≤ 100000) := fun i hi => by
    have h := wdF_size (f := ⟨#[49]⟩) (sg := ⟨#[42]⟩) rfl rfl (List.replicate i a) (fun x hx => by rw [List.eq_of_mem_replicate hx]; exact ha)
    rw [List.length_replicate] at h
    omega
  have hm0 := mWordsOne
  have hm1 := mWordsMul
  have he0 := entWordsOne
  have he1 := entWordsMul
  have hn0 : ¬ (n : Int) < 0 := by omega
  have hn1 : ¬ (n : Int) > 1024 := by omega
  have CC : Hid _ := wordsOne w
  go_enter Tryz.func7, Tryz.ntmps7
  go_wp2_with fail
  refine Calls.mono CC.out ?_
  rintro e w1 ⟨rfl, b1⟩
  have HB : Hid (Below w.heap.size w w1) := b1
  clear CC b1
  go_wp2
  go_loopg [9, 23] n (fun g1 v6 v16 wr => ∃ (i : Nat) (s : ByteArray), v6 = .string s ∧ v16 = .int .i64 i ∧ i ≤ n ∧ n - i ≤ g1 ∧ Hid (s = wdF ⟨#[49]⟩ ⟨#[42]⟩ (List.replicate i a)) ∧ Hid (Below w.heap.size w wr))
  case atStart => exact ⟨0, _, rfl, rfl, Nat.zero_le _, by omega, rfl, HB⟩
  case round =>
    clear HB
    obtain ⟨i, s, rfl, rfl, hin, hg1, HS, HB⟩ := hrel
    have hss : s.size ≤ 100000 := by rw [HS.out]; exact HSZ.out i hin
    by_cases hlt : i < n
    · have hltz : (i : Int) < (n : Int) := by omega
      have HS2 : Hid (wrapS ⟨#[42]⟩ s a = wdF ⟨#[49]⟩ ⟨#[42]⟩ (List.replicate (i + 1) a)) := by show _ = _; rw [List.replicate_succ', wdF_snoc, ← HS.out]
      have CC : Hid _ := wordsMul s a wr (by omega) (by omega)
      go_wp2_with fail
      refine Calls.mono CC.out ?_
      rintro e w2 ⟨rfl, b2⟩
      have HB2 : Hid (Below w.heap.size w w2) := bstep HB.out b2
      obtain ⟨s2, hs2⟩ : ∃ s2, s2 = wrapS ⟨#[42]⟩ s a := ⟨_, rfl⟩
      rw [← hs2] at HS2 ⊢
      clear CC b2 hs2
      go_wp2
      go_roundg (n - (i + 1))
      case measure => omega
      case rel => exact ⟨i + 1, _, rfl, by go_num, by omega, Nat.le_refl _, HS2, HB2⟩
    · have hltz : ¬ (i : Int) < (n : Int) := by omega
      have hie : i = n := by omega
      subst hie
      go_wp2
      go_ret2
      exact ⟨by rw [← HS.out]; rfl, HB.out⟩
set_option maxRecDepth 1000000 in
set_option maxHeartbeats 8000000 in
theorem powWno (a : ByteArray) (n : Int) (hn : n < 0 ∨ 1024 < n) (w : World) : Calls Tryz.prog 7 #[.iface 26 (.agg #[]), .string a, .int .i64 n] w fun e w' => e = .returned (.tuple #[.string ⟨#[]⟩, .int .i64 3]) ∧ Below w.heap.size w w' := by
  have HB : Hid (Below w.heap.size w w) := Below.refl _ _
  by_cases h0 : n < 0
  · have h1 : decide (n < 0) = true := decide_eq_true h0
    go_enter Tryz.func7, Tryz.ntmps7
    go_wp2
    go_ret2
    exact ⟨rfl, HB.out⟩
  · have h1 : n > 1024 := by omega
    clear hn
    go_enter Tryz.func7, Tryz.ntmps7
    go_wp2
    go_ret2
    exact ⟨rfl, HB.out⟩
set_option maxRecDepth 1000000 in
set_option maxHeartbeats 8000000 in
theorem powWnil (a : ByteArray) (n : Int) (w : World) : Calls Tryz.prog 7 #[.nilIface, .string a, .int .i64 n] w fun e w' => e = .returned (.tuple #[.string ⟨#[]⟩, .int .i64 2]) ∧ Below w.heap.size w w' := by
  have HB : Hid (Below w.heap.size w w) := Below.refl _ _
  go_enter Tryz.func7, Tryz.ntmps7
  go_wp2
  go_ret2
  exact ⟨rfl, HB.out⟩
end Go.Proofs.YtjickncdhajdgaaGreat

/-
  Proved here: the keys of a set, sorted.
  Proved here, plain mathematics: what steps lead to from some points, and how a search with a stack finds it.
-/
import Derived.Test.YtmgbhbdcnciccaaDagMu
import Derived.Test.YtmgbhbdcnciccaaDagSl
namespace Go.Proofs.Ytmgbhbdcnciccaa
set_option linter.unusedVariables false
open Go.RowKit Go.Maps Go.Sort Go.Shelf
theorem keysD (W : World) (b : Nat) : Calls Try.prog 56 #[.map (some b)] W fun e w' => e = .returned (.func (.func 66) #[] #[.pointer (some ⟨W.heap.size, 0, none⟩)]) ∧ w' = W.alloc (.cells #[.map (some b)] 75) :=
  (callsIn_wide (n := 5)).1 (AnyZI.keys_in Try.keysA Fence.wide 5 trivial rfl (some b) W)
/-- slices.Sort's two contracts, at the fence that asks nothing. -/
theorem sortsD (m : Nat) : AnyZI.SortsIn Try.prog Try.sortedA_ren Fence.wide m :=
  ⟨fun blk off cap ss W hH hblk hsz => callsIn_wide.2 (AnyM.slices_Sort_int Try.sortA blk off cap ss W hH hblk hsz), fun p cap W => callsIn_wide.2 (AnyM.slices_Sort_int_none Try.sortA p cap W)⟩
theorem sorted_lt {ss : List Int} (hn : ss.Nodup) : (ss.mergeSort (fun x y => decide (x ≤ y))).Pairwise (· < ·) := by
  have tr : ∀ a b c : Int, decide (a ≤ b) = true → decide (b ≤ c) = true → decide (a ≤ c) = true := fun a b c h1 h2 => by simp only [decide_eq_true_eq] at *; exact Int.le_trans h1 h2
  have tot : ∀ a b : Int, (decide (a ≤ b) || decide (b ≤ a)) = true := fun a b => by simp only [Bool.or_eq_true, decide_eq_true_eq]; exact Int.le_total a b
  have h1 := List.pairwise_mergeSort tr tot ss
  have h2 : (ss.mergeSort (fun x y => decide (x ≤ y))).Nodup := (List.mergeSort_perm ss _).nodup_iff.2 hn
  refine (h1.and h2).imp (fun {a b} h => ?_)
  obtain ⟨h3, h4⟩ := h
  simp only [decide_eq_true_eq] at h3
  have h5 : a ≠ b := h4
  omega
theorem sortedD (W : World) (b nn : Nat) (Z : List Int) (h : MpU W b nn Z) (hn : nn ≤ 1000000) :
    Calls Try.prog 55 #[.func (.func 66) #[] #[.pointer (some ⟨W.heap.size, 0, none⟩)]] (W.alloc (.cells #[.map (some b)] 75)) fun e w' =>
      ∃ tv R, e = .returned tv ∧ OG (Value.int .i64) W.heap.size 3 w' tv R ∧ R.Pairwise (· < ·) ∧ (∀ x, x ∈ R ↔ x ∈ Z) ∧ Below W.heap.size W w' := by
  obtain ⟨D, hD, h3⟩ := h
  obtain ⟨k1, k2, k3⟩ := keys_mem hD
  have hbl := hD.lt
  have hseq : SeqGives Fence.wide 2 Try.prog 66 #[.pointer (some ⟨W.heap.size, 0, none⟩)] encZ (fun ss => ss.Perm (intKeys D)) (Maps.size D) (W.alloc (.cells #[.map (some b)] 75)) :=
    AnyZI.keys_gives (ρ := Try.keysA_ren) { Try.keysA with } Fence.wide _ trivial rfl (by omega) W.heap.size b nn D _ (by simp) (by simp) (by
      obtain ⟨es, clock, hb, Ft, hs, hD2⟩ := hD
      exact ⟨es, clock, (Below.heap_alloc _ _ b hbl).trans hb, Ft, hs, hD2⟩)
  have cS := AnyZI.sorted_in Try.sortedA Fence.wide 5 trivial trivial trivial trivial rfl (by omega) (sortsD _) (enters_of Try.func65 (by kernel_rfl) rfl) 66 #[.pointer (some ⟨W.heap.size, 0, none⟩)] trivial (enters_of Try.func66 (by kernel_rfl) rfl) _ _ (by unfold maxLen; omega) (by omega) _ hseq
  change CallsIn _ _ Try.prog 55 _ _ _ at cS
  refine Calls.mono ((callsIn_wide (n := 5)).1 cS) ?_
  rintro e w' ⟨v, ss, rfl, hp, hrow, _, hb⟩
  have hpm := List.mergeSort_perm ss (fun x y : Int => decide (x ≤ y))
  refine ⟨v, ss.mergeSort (fun x y => decide (x ≤ y)), rfl, ?_, sorted_lt (hp.nodup_iff.2 k1), fun x => ?_, ?_⟩
  · show w'.ownsRow W.heap.size _ 1 v (ss.mergeSort (fun x y => decide (x ≤ y))).length _
    rw [hpm.length_eq]
    exact ownsRow_base_a hrow (by simp)
  · rw [hpm.mem_iff, hp.mem_iff, k2 x, h3 x]; simp
  · exact ((Below.refl _ W).alloc (Nat.le_refl _) _).trans (hb.mono (by simp))
end Go.Proofs.Ytmgbhbdcnciccaa

namespace Go.Proofs.Ytmgbhbdcnciccaa
set_option linter.unusedVariables false
/-- Just so many steps lead from one to another. -/
def Rn (C : List (List Int)) : Nat → Int → Int → Prop
  | 0, x, y => x = y
  | m + 1, x, y => ∃ z ∈ C.getD x.toNat [], Rn C m z y
/-- Steps lead there from one of some points. -/
def RchP (C : List (List Int)) (pts : List Int) (y : Int) : Prop := ∃ x ∈ pts, ∃ m, Rn C m x y
theorem rn_snoc {C : List (List Int)} : ∀ (m : Nat) (x y z : Int), Rn C m x y → z ∈ C.getD y.toNat [] → Rn C (m + 1) x z
  | 0, x, y, z, h, hz => by have e : x = y := h
                            subst e; exact ⟨z, hz, rfl⟩
  | m + 1, x, y, z, ⟨u, hu, h⟩, hz => ⟨u, hu, rn_snoc m u y z h hz⟩
theorem rn_trans {C : List (List Int)} : ∀ (m k : Nat) (x y z : Int), Rn C m x y → Rn C k y z → Rn C (m + k) x z
  | 0, k, x, y, z, h, hz => by have e : x = y := h
                               subst e; rw [Nat.zero_add]; exact hz
  | m + 1, k, x, y, z, ⟨u, hu, h⟩, hz => by rw [Nat.succ_add]; exact ⟨u, hu, rn_trans m k u y z h hz⟩
/-- Between two rounds: Z have been seen, K is the stack. -/
structure ReI (C : List (List Int)) (n : Nat) (pts Z K : List Int) : Prop where
  zn : Pts n Z
  kp : ∀ x ∈ K, 0 ≤ x ∧ x < (n : Int)
  snd : ∀ x, x ∈ Z ∨ x ∈ K → RchP C pts x
  cov : ∀ x ∈ pts, x ∈ Z ∨ x ∈ K
  cls : ∀ x ∈ Z, ∀ y ∈ C.getD x.toNat [], y ∈ Z ∨ y ∈ K
  len : K.length ≤ pts.length + Z.length * 100000
theorem ReI.start {C : List (List Int)} {n : Nat} {pts : List Int} (h : ∀ x ∈ pts, 0 ≤ x ∧ x < (n : Int)) : ReI C n pts [] pts :=
  ⟨⟨List.nodup_nil, by simp⟩, h, fun x hx => by
    rcases hx with e | e
    · simp at e
    · exact ⟨x, e, 0, rfl⟩, fun x hx => Or.inr hx, by simp, by simp⟩
theorem ReI.seen {C : List (List Int)} {n : Nat} {pts Z K : List Int} {x : Int} (h : ReI C n pts Z (K ++ [x])) (hx : x ∈ Z) : ReI C n pts Z K := by
  have mv : ∀ y, y ∈ Z ∨ y ∈ K ++ [x] → y ∈ Z ∨ y ∈ K := fun y hy => by
    rcases hy with e | e
    · exact Or.inl e
    · rcases List.mem_append.1 e with e | e
      · exact Or.inr e
      · rw [List.mem_singleton] at e; subst e; exact Or.inl hx
  refine ⟨h.zn, fun y hy => h.kp y (List.mem_append_left _ hy), fun y hy => h.snd y (hy.imp id (List.mem_append_left _)), fun y hy => mv y (h.cov y hy), fun y hy z hz => mv z (h.cls y hy z hz), ?_⟩
  have := h.len
  rw [List.length_append, List.length_singleton] at this
  omega
theorem ReI.new {C : List (List Int)} {n : Nat} {pts Z K : List Int} {x : Int} (h : ReI C n pts Z (K ++ [x])) (hx : x ∉ Z) (hw : ∀ y ∈ C.getD x.toNat [], 0 ≤ y ∧ y < (n : Int)) (hl : (C.getD x.toNat []).length ≤ 100000) : ReI C n pts (Z ++ [x]) (K ++ C.getD x.toNat []) := by
  have hxp := h.kp x (by simp)
  have mv : ∀ y, y ∈ Z ∨ y ∈ K ++ [x] → y ∈ Z ++ [x] ∨ y ∈ K ++ C.getD x.toNat [] := fun y hy => by
    rcases hy with e | e
    · exact Or.inl (List.mem_append_left _ e)
    · rcases List.mem_append.1 e with e | e
      · exact Or.inr (List.mem_append_left _ e)
      · exact Or.inl (List.mem_append_right _ e)
  have hrx := h.snd x (Or.inr (by simp))
  have hz2 : Pts n (Z ++ [x]) := by
    have e : x = ((x.toNat : Nat) : Int) := by omega
    rw [e] at hx ⊢
    exact h.zn.snoc (by omega) hx
  refine ⟨hz2, fun y hy => ?_, fun y hy => ?_, fun y hy => mv y (h.cov y hy), fun y hy z hz => ?_, ?_⟩
  · rcases List.mem_append.1 hy with e | e
    · exact h.kp y (List.mem_append_left _ e)
    · exact hw y e
  · rcases hy with e | e
    · rcases List.mem_append.1 e with e | e
      · exact h.snd y (Or.inl e)
      · rw [List.mem_singleton] at e; subst e; exact hrx
    · rcases List.mem_append.1 e with e | e
      · exact h.snd y (Or.inr (List.mem_append_left _ e))
      · obtain ⟨p, hp, m, hm⟩ := hrx
        exact ⟨p, hp, m + 1, rn_snoc m p x y hm e⟩
  · rcases List.mem_append.1 hy with e | e
    · exact mv z (h.cls y e z hz)
    · rw [List.mem_singleton] at e; subst e; exact Or.inr (List.mem_append_right _ hz)
  · have := h.len
    simp only [List.length_append, List.length_singleton] at this ⊢
    omega
theorem ReI.done {C : List (List Int)} {n : Nat} {pts Z : List Int} (h : ReI C n pts Z []) (y : Int) : y ∈ Z ↔ RchP C pts y := by
  have nz : ∀ y, y ∈ Z ∨ y ∈ ([] : List Int) → y ∈ Z := fun y hy => hy.resolve_right (by simp)
  constructor
  · exact fun hy => h.snd y (Or.inl hy)
  · rintro ⟨x, hx, m, hm⟩
    have key : ∀ (m : Nat) (x : Int), x ∈ Z → Rn C m x y → y ∈ Z := by
      intro m
      induction m with
      | zero => intro x hx h; have e : x = y := h
                subst e; exact hx
      | succ m ih =>
        rintro x hx ⟨z, hz, h2⟩
        exact ih z (nz z (h.cls x hx z hz)) h2
    exact key m x (nz x (h.cov x hx)) hm
end Go.Proofs.Ytmgbhbdcnciccaa

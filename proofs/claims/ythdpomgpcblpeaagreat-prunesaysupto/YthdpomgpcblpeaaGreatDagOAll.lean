/-
  Proved here: the keys of a set, sorted.
  Proved here, plain mathematics: what steps lead to from some points, and how a search with a stack finds it.
  Proved here: package dag's arePoints: are all of a list among the first numbers?
-/
import Derived.Test.YthdpomgpcblpeaaGreatDagMuAll
import Derived.Test.YthdpomgpcblpeaaGreatDagSl
import Derived.Test.YthdpomgpcblpeaaGreatDagKAll
namespace Go.Proofs.YthdpomgpcblpeaaGreat
set_option linter.unusedVariables false
open Go.RowKit Go.Maps Go.Sort Go.Shelf
theorem keysD (W : World) (b : Nat) : Calls Tryz.prog 49 #[.map (some b)] W fun e w' => e = .returned (.func (.func 65) #[] #[.pointer (some ⟨W.heap.size, 0, none⟩)]) ∧ w' = W.alloc (.cells #[.map (some b)] 64) :=
  (callsIn_wide (n := 5)).1 (AnyZI.keys_in Tryz.keysA Fence.wide 5 trivial rfl (some b) W)
/-- slices.Sort's two contracts, at the fence that asks nothing. -/
theorem sortsD (m : Nat) : AnyZI.SortsIn Tryz.prog Tryz.sortedA_ren Fence.wide m :=
  ⟨fun blk off cap ss W hH hblk hsz => callsIn_wide.2 (AnyM.slices_Sort_int Tryz.sortA blk off cap ss W hH hblk hsz), fun p cap W => callsIn_wide.2 (AnyM.slices_Sort_int_none Tryz.sortA p cap W)⟩
theorem sorted_lt {ss : List Int} (hn : ss.Nodup) : (ss.mergeSort (fun x y => decide (x ≤ y))).Pairwise (· < ·) := by
  have tr : ∀ a b c : Int, decide (a ≤ b) = true → decide (b ≤ c) = true → decide (a ≤ c) = true := fun a b c h1 h2 => by simp only [decide_eq_true_eq] at *; exact Int.le_trans h1 h2
  have tot : ∀ a b : Int, (decide (a ≤ b) || decide (b ≤ a)) = true := fun a b => by simp only [Bool.or_eq_true, decide_eq_true_eq]; exact Int.le_total a b
  have h1 := List.pairwise_mergeSort tr tot ss
  have h2 : (ss.mergeSort (fun x y => decide (x ≤ y))).Nodup := (List.mergeSort_perm ss _).nodup_iff.2 hn
  refine (h1.and h2).imp (fun {a b} h => ?_)
  obtain ⟨h3, h4⟩ := h
  simp only [decide_eq_true_eq] at h3
  have h5 : a ≠ b := h4
  omega
theorem sortedD (W : World) (b nn : Nat) (Z : List Int) (h : MpU W b nn Z) (hn : nn ≤ 1000000) :
    Calls Tryz.prog 48 #[.func (.func 65) #[] #[.pointer (some ⟨W.heap.size, 0, none⟩)]] (W.alloc (.cells #[.map (some b)] 64)) fun e w' =>
      ∃ tv R, e = .returned tv ∧ OG (Value.int .i64) W.heap.size 3 w' tv R ∧ R.Pairwise (· < ·) ∧ (∀ x, x ∈ R ↔ x ∈ Z) ∧ Below W.heap.size W w' := by
  obtain ⟨D, hD, h3⟩ := h
  obtain ⟨k1, k2, k3⟩ := keys_mem hD
  have hbl := hD.lt
  have hseq : SeqGives Fence.wide 2 Tryz.prog 65 #[.pointer (some ⟨W.heap.size, 0, none⟩)] encZ (fun ss => ss.Perm (intKeys D)) (Maps.size D) (W.alloc (.cells #[.map (some b)] 64)) :=
    AnyZI.keys_gives (ρ := Tryz.keysA_ren) { Tryz.keysA with } Fence.wide _ trivial rfl (by omega) W.heap.size b nn D _ (by simp) (by simp) (by
      obtain ⟨es, clock, hb, Ft, hs, hD2⟩ := hD
      exact ⟨es, clock, (Below.heap_alloc _ _ b hbl).trans hb, Ft, hs, hD2⟩)
  have cS := AnyZI.sorted_in Tryz.sortedA Fence.wide 5 trivial trivial trivial trivial rfl (by omega) (sortsD _) (enters_of Tryz.func64 (by kernel_rfl) rfl) 65 #[.pointer (some ⟨W.heap.size, 0, none⟩)] trivial (enters_of Tryz.func65 (by kernel_rfl) rfl) _ _ (by unfold maxLen; omega) (by omega) _ hseq
  change CallsIn _ _ Tryz.prog 48 _ _ _ at cS
  refine Calls.mono ((callsIn_wide (n := 5)).1 cS) ?_
  rintro e w' ⟨v, ss, rfl, hp, hrow, _, hb⟩
  have hpm := List.mergeSort_perm ss (fun x y : Int => decide (x ≤ y))
  refine ⟨v, ss.mergeSort (fun x y => decide (x ≤ y)), rfl, ?_, sorted_lt (hp.nodup_iff.2 k1), fun x => ?_, ?_⟩
  · show w'.ownsRow W.heap.size _ 1 v (ss.mergeSort (fun x y => decide (x ≤ y))).length _
    rw [hpm.length_eq]
    exact ownsRow_base_a hrow (by simp)
  · rw [hpm.mem_iff, hp.mem_iff, k2 x, h3 x]; simp
  · exact ((Below.refl _ W).alloc (Nat.le_refl _) _).trans (hb.mono (by simp))
end Go.Proofs.YthdpomgpcblpeaaGreat

namespace Go.Proofs.YthdpomgpcblpeaaGreat
set_option linter.unusedVariables false
/-- Just so many steps lead from one to another. -/
def Rn (C : List (List Int)) : Nat → Int → Int → Prop
  | 0, x, y => x = y
  | m + 1, x, y => ∃ z ∈ C.getD x.toNat [], Rn C m z y
/-- Steps lead there from one of some points. -/
def RchP (C : List (List Int)) (pts : List Int) (y : Int) : Prop := ∃ x ∈ pts, ∃ m, Rn C m x y
theorem rn_snoc {C : List (List Int)} : ∀ (m : Nat) (x y z : Int), Rn C m x y → z ∈ C.getD y.toNat [] → Rn C (m + 1) x z
  | 0, x, y, z, h, hz => by have e : x = y := h
                            subst e; exact ⟨z, hz, rfl⟩
  | m + 1, x, y, z, ⟨u, hu, h⟩, hz => ⟨u, hu, rn_snoc m u y z h hz⟩
theorem rn_trans {C : List (List Int)} : ∀ (m k : Nat) (x y z : Int), Rn C m x y → Rn C k y z → Rn C (m + k) x z
  | 0, k, x, y, z, h, hz => by have e : x = y := h
                               subst e; rw [Nat.zero_add]; exact hz
  | m + 1, k, x, y, z, ⟨u, hu, h⟩, hz => by rw [Nat.succ_add]; exact ⟨u, hu, rn_trans m k u y z h hz⟩
/-- Between two rounds: Z have been seen, K is the stack. -/
structure ReI (C : List (List Int)) (n : Nat) (pts Z K : List Int) : Prop where
  zn : Pts n Z
  kp : ∀ x ∈ K, 0 ≤ x ∧ x < (n : Int)
  snd : ∀ x, x ∈ Z ∨ x ∈ K → RchP C pts x
  cov : ∀ x ∈ pts, x ∈ Z ∨ x ∈ K
  cls : ∀ x ∈ Z, ∀ y ∈ C.getD x.toNat [], y ∈ Z ∨ y ∈ K
  len : K.length ≤ pts.length + Z.length * 100000
theorem ReI.start {C : List (List Int)} {n : Nat} {pts : List Int} (h : ∀ x ∈ pts, 0 ≤ x ∧ x < (n : Int)) : ReI C n pts [] pts :=
  ⟨⟨List.nodup_nil, by simp⟩, h, fun x hx => by
    rcases hx with e | e
    · simp at e
    · exact ⟨x, e, 0, rfl⟩, fun x hx => Or.inr hx, by simp, by simp⟩
theorem ReI.seen {C : List (List Int)} {n : Nat} {pts Z K : List Int} {x : Int} (h : ReI C n pts Z (K ++ [x])) (hx : x ∈ Z) : ReI C n pts Z K := by
  have mv : ∀ y, y ∈ Z ∨ y ∈ K ++ [x] → y ∈ Z ∨ y ∈ K := fun y hy => by
    rcases hy with e | e
    · exact Or.inl e
    · rcases List.mem_append.1 e with e | e
      · exact Or.inr e
      · rw [List.mem_singleton] at e; subst e; exact Or.inl hx
  refine ⟨h.zn, fun y hy => h.kp y (List.mem_append_left _ hy), fun y hy => h.snd y (hy.imp id (List.mem_append_left _)), fun y hy => mv y (h.cov y hy), fun y hy z hz => mv z (h.cls y hy z hz), ?_⟩
  have := h.len
  rw [List.length_append, List.length_singleton] at this
  omega
theorem ReI.new {C : List (List Int)} {n : Nat} {pts Z K : List Int} {x : Int} (h : ReI C n pts Z (K ++ [x])) (hx : x ∉ Z) (hw : ∀ y ∈ C.getD x.toNat [], 0 ≤ y ∧ y < (n : Int)) (hl : (C.getD x.toNat []).length ≤ 100000) : ReI C n pts (Z ++ [x]) (K ++ C.getD x.toNat []) := by
  have hxp := h.kp x (by simp)
  have mv : ∀ y, y ∈ Z ∨ y ∈ K ++ [x] → y ∈ Z ++ [x] ∨ y ∈ K ++ C.getD x.toNat [] := fun y hy => by
    rcases hy with e | e
    · exact Or.inl (List.mem_append_left _ e)
    · rcases List.mem_append.1 e with e | e
      · exact Or.inr (List.mem_append_left _ e)
      · exact Or.inl (List.mem_append_right _ e)
  have hrx := h.snd x (Or.inr (by simp))
  have hz2 : Pts n (Z ++ [x]) := by
    have e : x = ((x.toNat : Nat) : Int) := by omega
    rw [e] at hx ⊢
    exact h.zn.snoc (by omega) hx
  refine ⟨hz2, fun y hy => ?_, fun y hy => ?_, fun y hy => mv y (h.cov y hy), fun y hy z hz => ?_, ?_⟩
  · rcases List.mem_append.1 hy with e | e
    · exact h.kp y (List.mem_append_left _ e)
    · exact hw y e
  · rcases hy with e | e
    · rcases List.mem_append.1 e with e | e
      · exact h.snd y (Or.inl e)
      · rw [List.mem_singleton] at e; subst e; exact hrx
    · rcases List.mem_append.1 e with e | e
      · exact h.snd y (Or.inr (List.mem_append_left _ e))
      · obtain ⟨p, hp, m, hm⟩ := hrx
        exact ⟨p, hp, m + 1, rn_snoc m p x y hm e⟩
  · rcases List.mem_append.1 hy with e | e
    · exact mv z (h.cls y e z hz)
    · rw [List.mem_singleton] at e; subst e; exact Or.inr (List.mem_append_right _ hz)
  · have := h.len
    simp only [List.length_append, List.length_singleton] at this ⊢
    omega
theorem ReI.done {C : List (List Int)} {n : Nat} {pts Z : List Int} (h : ReI C n pts Z []) (y : Int) : y ∈ Z ↔ RchP C pts y := by
  have nz : ∀ y, y ∈ Z ∨ y ∈ ([] : List Int) → y ∈ Z := fun y hy => hy.resolve_right (by simp)
  constructor
  · exact fun hy => h.snd y (Or.inl hy)
  · rintro ⟨x, hx, m, hm⟩
    have key : ∀ (m : Nat) (x : Int), x ∈ Z → Rn C m x y → y ∈ Z := by
      intro m
      induction m with
      | zero => intro x hx h; have e : x = y := h
                subst e; exact hx
      | succ m ih =>
        rintro x hx ⟨z, hz, h2⟩
        exact ih z (nz z (h.cls x hx z hz)) h2
    exact key m x (nz x (h.cov x hx)) hm
end Go.Proofs.YthdpomgpcblpeaaGreat

namespace Go.Proofs.YthdpomgpcblpeaaGreat
set_option linter.unusedVariables false
open Go.RowKit
theorem cell_drewD {w : World} {p : Addr} {v : Value} (h : w.cell? p = some v) (q : Nat) : (w.drewN q).cell? p = some v := by
  unfold World.cell? at h ⊢
  rw [heap_drewG]
  exact h
/-- No point. -/
def noPt (n x : Int) : Bool := decide (x < 0) || decide (n ≤ x)
def noPts (n : Int) (zs : List Int) : Bool := zs.any (noPt n)
set_option maxRecDepth 100000 in
set_option maxHeartbeats 800000 in
theorem noPtD (cb : Nat) (n x : Int) (w : World) (hc : w.cell? ⟨cb, 0, none⟩ = some (.int .i64 n)) : Calls Tryz.prog 62 #[.int .i64 x, .pointer (some ⟨cb, 0, none⟩)] w fun e w' => e = .returned (.bool (noPt n x)) ∧ w' = w := by
  by_cases h : x < 0
  · have hr : noPt n x = true := by simp [noPt, h]
    rw [hr]
    clear hr
    go_enter Tryz.func62, Tryz.ntmps62
    go_wp2
    go_ret
    exact ⟨rfl, rfl⟩
  · have hr : noPt n x = decide (n ≤ x) := by simp [noPt, h]
    rw [hr]
    clear hr
    go_enter Tryz.func62, Tryz.ntmps62
    go_wp2
    go_ret
    exact ⟨rfl, rfl⟩
set_option maxRecDepth 100000 in
set_option maxHeartbeats 1600000 in
theorem indexFD (cb : Nat) (m : Int) (v : Value) (zs : List Int) (w : World) (hv : RG (Value.int .i64) w v zs) (hcb : w.cell? ⟨cb, 0, none⟩ = some (.int .i64 m)) :
    Calls Tryz.prog 86 #[v, .func (.func 62) #[] #[.pointer (some ⟨cb, 0, none⟩)]] w fun e w' => ∃ r, e = .returned (.int .i64 r) ∧ Found r (noPts m zs) ∧ ∃ q, w' = w.drewN q := by
  obtain ⟨ao, cap, rfl, hc, hm, hnil, hcell⟩ := hv
  clear hnil
  unfold maxLen at hm
  obtain ⟨n, hn⟩ : ∃ n, zs.length = n := ⟨_, rfl⟩
  rw [hn] at hc ⊢
  have HN : Hid (zs.length = n) := hn
  have HC : Hid (∀ i x, zs[i]? = some x → ∃ g o, ao = some ⟨g, o, none⟩ ∧ w.cell? ⟨g, o + i, none⟩ = some (Value.int .i64 x)) := hcell
  clear hn hcell
  go_enter Tryz.func86, Tryz.ntmps86
  go_wp2
  go_loopw [8] (fun t wr => ∃ k : Nat, k ≤ n ∧ t = .int .i64 k ∧ noPts m (zs.take k) = false ∧ ∃ q, wr = w.drewN q) (fun t _ => n - (intOf t).toNat)
  case atStart => exact ⟨0, Nat.zero_le _, rfl, rfl, 0, rfl⟩
  case round =>
    obtain ⟨k, hk, rfl, hno, q, rfl⟩ := hrel
    by_cases hkn : k < n
    · obtain ⟨x, hx0⟩ : ∃ x, zs[k]? = some x := ⟨_, List.getElem?_eq_getElem (by rw [HN.out]; exact hkn)⟩
      obtain ⟨b, off, rfl, hc0⟩ := HC.out k x hx0
      have hlt : (k : Int) < (n : Int) := by omega
      have hst : noPts m (zs.take (k + 1)) = (noPts m (zs.take k) || noPt m (zs.getD k 0)) := any_take (by rw [HN.out]; exact hkn)
      have hyes : noPt m (zs.getD k 0) = true → noPts m zs = true := any_at (by rw [HN.out]; exact hkn)
      have e0 : zs.getD k 0 = x := by rw [List.getD_eq_getElem?_getD, hx0]; rfl
      rw [e0] at hst hyes
      rw [hno, Bool.false_or] at hst
      have HS : Hid (noPts m (zs.take (k + 1)) = noPt m x) := hst
      have HY : Hid (noPt m x = true → noPts m zs = true) := hyes
      have cq : ∀ q, (w.drewN q).cell? ⟨cb, 0, none⟩ = some (.int .i64 m) := fun q => cell_drewD hcb q
      have HB : Hid (∀ q, Calls Tryz.prog 62 #[.int .i64 x, .pointer (some ⟨cb, 0, none⟩)] (w.drewN q) fun e w' => e = .returned (.bool (noPt m x)) ∧ w' = w.drewN q) := fun q => noPtD cb m x (w.drewN q) (cq q)
      clear hst hyes e0 hx0 cq
      by_cases hx : noPt m x = true
      · go_wp2_with (go_at_call 62; refine (HB.out _).mono ?_; rintro e w' ⟨rfl, rfl⟩)
        go_ret
        exact ⟨_, rfl, ⟨fun _ => ⟨by omega, by omega⟩, fun h => absurd (HY.out hx) (by rw [h]; exact Bool.false_ne_true)⟩, _, rfl⟩
      · have hx : noPt m x = false := by simpa using hx
        go_wp2_with (go_at_call 62; refine (HB.out _).mono ?_; rintro e w' ⟨rfl, rfl⟩)
        go_roundw
        case rel => exact ⟨k + 1, by omega, by go_num, by rw [HS.out]; exact hx, _, rfl⟩
        case measure => simp [intOf]; omega
    · have hge : ¬ (k : Int) < (n : Int) := by omega
      go_wp2
      go_ret
      have hkn' : k = zs.length := by rw [HN.out]; omega
      rw [hkn', List.take_length] at hno
      exact ⟨-1, rfl, ⟨fun h => absurd h (by rw [hno]; exact Bool.false_ne_true), fun _ => rfl⟩, q, rfl⟩
set_option maxHeartbeats 400000 in
theorem containsFD (cb : Nat) (m : Int) (v : Value) (zs : List Int) (w : World) (hv : RG (Value.int .i64) w v zs) (hcb : w.cell? ⟨cb, 0, none⟩ = some (.int .i64 m)) :
    Calls Tryz.prog 61 #[v, .func (.func 62) #[] #[.pointer (some ⟨cb, 0, none⟩)]] w fun e w' => e = .returned (.bool (noPts m zs)) ∧ ∃ q, w' = w.drewN q := by
  have h1 := indexFD cb m v zs w hv hcb
  obtain ⟨ao, cap, rfl, -⟩ := hv
  go_enter Tryz.func61, Tryz.ntmps61
  go_wp2_with (go_at_call 86; refine h1.mono ?_; rintro e w' ⟨r, rfl, hf, q, rfl⟩)
  go_ret
  exact ⟨by rw [← hf.dec]; rfl, q, rfl⟩
set_option maxRecDepth 100000 in
set_option maxHeartbeats 800000 in
theorem arePointsD (m : Int) (v : Value) (zs : List Int) (w : World) (hv : RG (Value.int .i64) w v zs) :
    Calls Tryz.prog 46 #[.int .i64 m, v] w fun e w' => e = .returned (.bool (!noPts m zs)) ∧ Below w.heap.size w w' := by
  obtain ⟨W1, hW1⟩ : ∃ W1, W1 = w.alloc (.cells #[.int .i64 m] 3) := ⟨_, rfl⟩
  obtain ⟨g, hg⟩ : ∃ g, g = w.heap.size := ⟨_, rfl⟩
  have b0 : Below w.heap.size w W1 := by rw [hW1]; exact belowB w _
  have hcb : W1.cell? ⟨g, 0, none⟩ = some (.int .i64 m) := by rw [hW1, hg, World.cell?_alloc_at _ _ _ _ rfl]; rfl
  have C : Hid _ := containsFD g m v zs W1 (hv.below (Nat.le_refl _) b0) hcb
  have HB : Hid (Below w.heap.size w W1) := b0
  obtain ⟨ao, cap, rfl, -⟩ := hv
  have HW1 : Hid (W1 = w.alloc (.cells #[.int .i64 m] 3)) := hW1
  have HG : Hid (g = w.heap.size) := hg
  clear hW1 hg b0 hcb
  go_enter Tryz.func46, Tryz.ntmps46
  go_upto_region 1 with fail
  rw [← HW1.out, ← HG.out]
  clear HW1
  go_wp2_with fail
  refine Calls.mono C.out ?_
  rintro e y ⟨rfl, q, rfl⟩
  go_wp2
  go_ret
  exact ⟨rfl, below_drewN HB.out q⟩
end Go.Proofs.YthdpomgpcblpeaaGreat

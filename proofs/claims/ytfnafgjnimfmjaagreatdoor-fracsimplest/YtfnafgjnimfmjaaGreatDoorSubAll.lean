/-
  Proved here: plain facts on numbers and their limbs to the base 2^32. No condition.
  Proved here: plain facts on numbers that lie in memory, limb by limb, and on rows that a call made for itself. No condition.
  Proved here: what the small readers of a number's limbs answer.
  Proved here: plain facts on the lowest limbs of a number, on carries and on the order of numbers. No condition.
  Proved here: what Cmp answers.
  Proved here: what an append to a row of the call's own keeps of the other rows. No condition but those of the given laws on append.
  Proved here: plain facts on several rows of a call's own that lie apart.
  Proved here: what stays as it was while numbers are gone on with, one by one.
  Proved here: what the small makers of numbers answer.
  Proved here: what Add answers.
  Proved here: what blend and Sub answer.
  Proved here: plain facts on a row of a product. No condition.
  Proved here: what addTimes and Mul answer.
  Proved here: plain facts on shifts of numbers and of their limbs. No condition.
  Proved here: what lift and drop answer.
  Proved here: a limb is put behind a row of the call's own; small facts on such rows.
  Proved here: what Shift answers, and what the plain way's Bit answers.
  Proved here: how many bits a number has, by either way.
  Proved here: what the plain way's Norm answers.
  Proved here: what blend answers.
  Proved here: what fresh and Norm answer.
  Proved here: what Sub, fresh and Norm answer.
-/
import Derived.WalkKit
import Derived.Below
import Derived.BigQuiet
import Derived.Test.YtfnafgjnimfmjaaGreatDoorRows
import Derived.WalkSpells
import Derived.WalkLawsBesides
import Derived.ArgAppend
import Derived.Laws.Bits64b
import Derived.Laws.BitsAllLaws
import Derived.Lib.BitFns
import Derived.Laws.AppendOwnNone
import Derived.Laws.CopyOwn
namespace Go.Proofs.YtfnafgjnimfmjaaGreatDoor
set_option maxRecDepth 100000
set_option maxHeartbeats 12800000
def val : List Nat → Nat
 | [] => 0
 | x :: r => x + 4294967296 * val r
def limbs (xs : List Nat) : Prop := ∀ x ∈ xs, x < 4294967296
def digs : Nat → Nat → List Nat
 | 0, _ => []
 | f + 1, n => if n = 0 then [] else n % 4294967296 :: digs f (n / 4294967296)
def lim (n : Nat) : List Nat := digs n n

theorem digs_zero (f : Nat) : digs f 0 = [] := by cases f <;> simp [digs]
theorem digs_fuel : ∀ (f g n : Nat), n ≤ f → n ≤ g → digs f n = digs g n
 | 0, g, n, hf, _ => by
  have : n = 0 := by omega
  subst this; rw [digs_zero, digs_zero]
 | f + 1, 0, n, _, hg => by
  have : n = 0 := by omega
  subst this; rw [digs_zero, digs_zero]
 | f + 1, g + 1, n, hf, hg => by
  simp only [digs]
  by_cases h : n = 0
  · simp [h]
  · rw [if_neg h, if_neg h, digs_fuel f g (n / 4294967296) (by omega) (by omega)]
theorem lim_zero : lim 0 = [] := rfl
theorem lim_pos {n : Nat} (h : n ≠ 0) : lim n = n % 4294967296 :: lim (n / 4294967296) := by
 unfold lim
 match n, h with
 | n + 1, h =>
  rw [digs, if_neg h]
  rw [digs_fuel n ((n + 1) / 4294967296) ((n + 1) / 4294967296) (by omega) (by omega)]
theorem lim_step (n : Nat) : val (lim n) = n ∧ limbs (lim n) := by
 induction n using Nat.strongRecOn with
 | ind n ih =>
  by_cases h : n = 0
  · subst h; exact ⟨rfl, by intro x hx; simp [lim_zero] at hx⟩
  ·
   have := ih (n / 4294967296) (by omega)
   rw [lim_pos h]
   refine ⟨by simp only [val]; rw [this.1]; omega, ?_⟩
   intro x hx
   rcases List.mem_cons.1 hx with rfl | hx
   · omega
   · exact this.2 x hx
theorem val_lim (n : Nat) : val (lim n) = n := (lim_step n).1
theorem limbs_lim (n : Nat) : limbs (lim n) := (lim_step n).2
theorem limbs_nil : limbs [] := by intro x hx; simp at hx
theorem limbs_cons {x : Nat} {r : List Nat} : limbs (x :: r) ↔ x < 4294967296 ∧ limbs r := by
 constructor
 · intro h; exact ⟨h x (by simp), fun y hy => h y (by simp [hy])⟩
 ·
  intro h y hy
  rcases List.mem_cons.1 hy with rfl | hy
  · exact h.1
  · exact h.2 y hy
theorem val_append (a b : List Nat) : val (a ++ b) = val a + 4294967296 ^ a.length * val b := by
 induction a with
 | nil => simp [val]
 | cons x r ih =>
  simp only [List.cons_append, val, ih, List.length_cons, Nat.pow_succ]
  rw [Nat.mul_add, Nat.add_assoc, ← Nat.mul_assoc, Nat.mul_comm 4294967296 (4294967296 ^ r.length)]
theorem val_lt {xs : List Nat} (h : limbs xs) : val xs < 4294967296 ^ xs.length := by
 induction xs with
 | nil => simp [val]
 | cons x r ih =>
  have hr := ih (limbs_cons.1 h).2
  have hx := (limbs_cons.1 h).1
  simp only [val, List.length_cons, Nat.pow_succ]
  omega
theorem val_zeros : ∀ {xs : List Nat}, (∀ x ∈ xs, x = 0) → val xs = 0
 | [], _ => rfl
 | x :: r, h => by
  simp only [val]
  rw [h x (by simp), val_zeros (xs := r) fun y hy => h y (by simp [hy])]
theorem lim_val_cons {x : Nat} {r : List Nat} (hx : x < 4294967296) (h : x + 4294967296 * val r ≠ 0) : lim (val (x :: r)) = x :: lim (val r) := by
 simp only [val]
 rw [lim_pos h]
 rw [show (x + 4294967296 * val r) % 4294967296 = x by omega, show (x + 4294967296 * val r) / 4294967296 = val r by omega]
theorem val_pos_of_last : ∀ {xs : List Nat} (h : xs ≠ []), xs.getLast h ≠ 0 → val xs ≠ 0
 | [x], _, hl => by simpa [val] using hl
 | x :: y :: r, _, hl => by
  have := val_pos_of_last (xs := y :: r) (by simp) (by simpa using hl)
  have h1 : val (x :: y :: r) = x + 4294967296 * val (y :: r) := rfl
  omega
theorem lim_of_last : ∀ {xs : List Nat}, limbs xs → (∀ h : xs ≠ [], xs.getLast h ≠ 0) → lim (val xs) = xs
 | [], _, _ => rfl
 | x :: r, hb, hl => by
  have hx := limbs_cons.1 hb
  have hne := val_pos_of_last (xs := x :: r) (by simp) (hl (by simp))
  rw [lim_val_cons hx.1 hne]
  rw [lim_of_last hx.2]
  intro hr
  have := hl (by simp)
  rwa [List.getLast_cons hr] at this
theorem val_take_zeros {xs : List Nat} {k : Nat} (hk : k ≤ xs.length) (hz : ∀ j, k ≤ j → j < xs.length → xs.getD j 0 = 0) : val (xs.take k) = val xs := by
 have e : xs = xs.take k ++ xs.drop k := (List.take_append_drop k xs).symm
 conv => rhs; rw [e, val_append]
 rw [val_zeros (xs := xs.drop k)]
 · simp
 ·
  intro y hy
  obtain ⟨i, hi, rfl⟩ := List.getElem_of_mem hy
  have := hz (k + i) (by omega) (by simp at hi; omega)
  simp only [List.length_drop] at hi
  rw [List.getD_eq_getElem?_getD, List.getElem?_eq_getElem (by omega)] at this
  simpa using this
theorem limbs_take {xs : List Nat} (h : limbs xs) (k : Nat) : limbs (xs.take k) := fun x hx => h x (List.mem_of_mem_take hx)
theorem limbs_drop {xs : List Nat} (h : limbs xs) (k : Nat) : limbs (xs.drop k) := fun x hx => h x (List.mem_of_mem_drop hx)
theorem take_trim {xs : List Nat} (hb : limbs xs) {k : Nat} (hk : k ≤ xs.length) (hz : ∀ j, k ≤ j → j < xs.length → xs.getD j 0 = 0) (hl : 0 < k → xs.getD (k - 1) 0 ≠ 0) :
  xs.take k = lim (val xs) := by
 rw [← val_take_zeros hk hz]
 refine (lim_of_last (limbs_take hb k) ?_).symm
 intro hne
 have hk0 : 0 < k := by
  rcases Nat.eq_zero_or_pos k with h | h
  · subst h; simp at hne
  · exact h
 have := hl hk0
 rw [List.getLast_eq_getElem]
 rw [List.getD_eq_getElem?_getD, List.getElem?_eq_getElem (by omega)] at this
 simp only [List.length_take, Nat.min_eq_left hk]
 simpa using this
theorem limb_lt {xs : List Nat} (h : limbs xs) (j : Nat) : xs.getD j 0 < 4294967296 := by
 rw [List.getD_eq_getElem?_getD]
 rcases Nat.lt_or_ge j xs.length with hj | hj
 · rw [List.getElem?_eq_getElem hj]; exact h _ (List.getElem_mem hj)
 · rw [List.getElem?_eq_none hj]; simp
theorem lim_len_le : ∀ {k n : Nat}, n < 4294967296 ^ k → (lim n).length ≤ k
 | 0, n, h => by
  have : n = 0 := by simpa using h
  subst this; simp [lim_zero]
 | k + 1, n, h => by
  by_cases h0 : n = 0
  · subst h0; simp [lim_zero]
  ·
   rw [lim_pos h0]
   have : n / 4294967296 < 4294967296 ^ k := by rw [Nat.pow_succ] at h; omega
   have := lim_len_le this
   simp only [List.length_cons]; omega
theorem lim_lt_of_len {k n : Nat} (h : (lim n).length ≤ k) : n < 4294967296 ^ k := by
 have h1 := val_lt (limbs_lim n)
 rw [val_lim] at h1
 exact Nat.lt_of_lt_of_le h1 (Nat.pow_le_pow_right (by decide) h)
theorem getD_lim_two (n : Nat) (h : n < 18446744073709551616) : (lim n).getD 0 0 = n % 4294967296 ∧ (lim n).getD 1 0 = n / 4294967296 := by
 by_cases h0 : n = 0
 · subst h0; simp [lim_zero]
 ·
  rw [lim_pos h0]
  refine ⟨by simp, ?_⟩
  by_cases h1 : n / 4294967296 = 0
  · rw [h1]; simp [lim_zero]
  · rw [lim_pos h1]; simp; omega
open Go.RowKit

def U (x : Nat) : Value := .int .u32 (x : Int)
def cutTo : Value → Nat → Value
 | .slice a _ c, k => .slice a k c
 | v, _ => v
def Num (w : World) (v : Value) (xs : List Nat) : Prop :=
 limbs xs ∧ ∃ ao cap, v = .slice ao xs.length cap ∧ xs.length ≤ cap ∧ cap ≤ maxLen ∧ (ao = none → cap = 0) ∧
  ∀ j, j < xs.length → ∃ b off, ao = some ⟨b, off, none⟩ ∧ w.cell? ⟨b, off + j, none⟩ = some (U (xs.getD j 0))
def Own (B e : Nat) (w : World) (v : Value) (xs : List Nat) : Prop := limbs xs ∧ w.ownsRow B e 1 v xs.length (xs.map U)

theorem Num.cut {w : World} {v : Value} {xs : List Nat} (h : Num w v xs) {k : Nat} (hk : k ≤ xs.length) : Num w (cutTo v k) (xs.take k) := by
 obtain ⟨hb, ao, cap, rfl, h1, h2, h3, h4⟩ := h
 refine ⟨limbs_take hb k, ao, cap, by simp [cutTo, Nat.min_eq_left hk], by simp; omega, h2, h3, fun j hj => ?_⟩
 simp only [List.length_take] at hj
 obtain ⟨b, off, e, hc⟩ := h4 j (by omega)
 refine ⟨b, off, e, ?_⟩
 rw [hc, List.getD_eq_getElem?_getD, List.getD_eq_getElem?_getD, List.getElem?_take_of_lt (by omega)]
theorem Own.cut {B e : Nat} {w : World} {v : Value} {xs : List Nat} (h : Own B e w v xs) {k : Nat} (hk : k ≤ xs.length) : Own B e w (cutTo v k) (xs.take k) := by
 obtain ⟨hb, hl, h2⟩ := h
 refine ⟨limbs_take hb k, by simp, ?_⟩
 rcases h2 with ⟨rfl, h0⟩ | ⟨g, cap, cur, rfl, h3, h4, h5, h6, h7, h8⟩
 ·
  left
  have : k = 0 := by omega
  subst this
  exact ⟨rfl, by simp⟩
 ·
  right
  refine ⟨g, cap, cur, by simp [cutTo, Nat.min_eq_left hk], h3, h4, by simp; omega, h6, h7, ?_⟩
  simp only [Nat.mul_one] at h8 ⊢
  rw [List.length_take, Nat.min_eq_left hk, List.map_take, ← h8, List.take_take, Nat.min_eq_left hk]
theorem Own.num {B e : Nat} {w : World} {v : Value} {xs : List Nat} (h : Own B e w v xs) : Num w v xs := by
 obtain ⟨hb, h⟩ := h
 refine ⟨hb, ?_⟩
 have hw := h
 rcases h.2 with ⟨rfl, h0⟩ | ⟨g, cap, cur, rfl, h3, h4, h5, h6, h7, h8⟩
 · refine ⟨none, 0, by rw [h0], by omega, by simp [maxLen], fun _ => rfl, fun j hj => by omega⟩
 ·
  refine ⟨some ⟨g, 0, none⟩, cap, rfl, h5, h6, fun e => by simp at e, fun j hj => ⟨g, 0, rfl, ?_⟩⟩
  rw [Nat.zero_add, World.ownsRow.cellAt hw j (by simpa using hj), List.getElem?_map, List.getD_eq_getElem?_getD, List.getElem?_eq_getElem hj]
  rfl
theorem Num.below {B : Nat} {w w' : World} {v : Value} {xs : List Nat} (h : Num w v xs) (hB : w.heap.size ≤ B) (hb : Below B w w') : Num w' v xs := by
 obtain ⟨h0, ao, cap, rfl, h1, h2, h3, h4⟩ := h
 refine ⟨h0, ao, cap, rfl, h1, h2, h3, fun j hj => ?_⟩
 obtain ⟨b, off, e, hc⟩ := h4 j hj
 refine ⟨b, off, e, ?_⟩
 rw [hb.cell (p := ⟨b, off + j, none⟩) (Nat.lt_of_lt_of_le (block_lt_of_cell hc) hB), hc]
theorem Own.below {B e : Nat} {w w' : World} {v : Value} {xs : List Nat} (h : Own B e w v xs) (hb : Below w.heap.size w w') : Own B e w' v xs := by
 obtain ⟨h0, h1, h2⟩ := h
 refine ⟨h0, h1, ?_⟩
 rcases h2 with h2 | ⟨g, cap, cur, rfl, h3, h4, h5⟩
 · exact Or.inl h2
 · exact Or.inr ⟨g, cap, cur, rfl, h3, by rw [hb.block g (Array.getElem?_eq_some_iff.1 h4).1]; exact h4, h5⟩
theorem Own.mono {B B' e : Nat} {w : World} {v : Value} {xs : List Nat} (h : Own B e w v xs) (hB : B' ≤ B) : Own B' e w v xs := by
 obtain ⟨h0, h1, h2⟩ := h
 refine ⟨h0, h1, ?_⟩
 rcases h2 with h2 | ⟨g, cap, cur, rfl, h3, h5⟩
 · exact Or.inl h2
 · exact Or.inr ⟨g, cap, cur, rfl, by omega, h5⟩
theorem Own.block {B e : Nat} {w : World} {v : Value} {xs : List Nat} (h : Own B e w v xs) : ∀ k, v.ownBlock = some k → B ≤ k ∧ k < w.heap.size := World.ownsRow.lt h.2

theorem heap_drewN (w : World) (n : Nat) : (w.drewN n).heap = w.heap := by
 induction n generalizing w with
 | zero => rfl
 | succ n ih => exact ih w.drew
theorem Num.same {w w' : World} {v : Value} {xs : List Nat} (h : Num w v xs) (e : w'.heap = w.heap) : Num w' v xs := by
 obtain ⟨h0, ao, cap, rfl, h1, h2, h3, h4⟩ := h
 refine ⟨h0, ao, cap, rfl, h1, h2, h3, fun j hj => ?_⟩
 obtain ⟨b, off, e', hc⟩ := h4 j hj
 exact ⟨b, off, e', by rw [← hc]; exact World.cell?_of_block (by rw [e])⟩
theorem Own.same {B e : Nat} {w w' : World} {v : Value} {xs : List Nat} (h : Own B e w v xs) (he : w'.heap = w.heap) : Own B e w' v xs := by
 obtain ⟨h0, h1, h2⟩ := h
 exact ⟨h0, h1, by rw [he]; exact h2⟩
theorem Num.of_nil (w : World) : Num w (.slice none 0 0) [] := ⟨limbs_nil, none, 0, rfl, by simp, by simp [maxLen], fun _ => rfl, fun j hj => by simp at hj⟩
theorem Own.of_nil (B e : Nat) (w : World) : Own B e w (.slice none 0 0) [] := ⟨limbs_nil, World.ownsRow_nil _ _ _ _⟩
theorem Own.lit {B : Nat} (e : Nat) (w : World) (cs : Array Value) (xs : List Nat) (hb : limbs xs) (hB : B ≤ w.heap.size) (hm : xs.length ≤ maxLen) (hc : cs.toList = xs.map U) :
  Own B e (w.alloc (.cells cs e)) (.slice (some ⟨w.heap.size, 0, none⟩) xs.length xs.length) xs := by
 refine ⟨hb, by simp, Or.inr ⟨w.heap.size, xs.length, cs, rfl, hB, heap_alloc_new w _, Nat.le_refl _, hm, ?_, ?_⟩⟩
 ·
  have := congrArg List.length hc
  simpa using this
 · rw [hc]; exact List.take_of_length_le (by simp)
theorem Num.open_ {w : World} {v : Value} {xs : List Nat} (h : Num w v xs) : limbs xs ∧ ∃ ao cap, v = .slice ao xs.length cap ∧ xs.length ≤ cap ∧ cap ≤ 9223372036854775807 ∧ (ao = none → cap = 0) ∧
 ∀ j, j < xs.length → ∃ b off, ao = some ⟨b, off, none⟩ ∧ w.cell? ⟨b, off + j, none⟩ = some (.int .u32 ((xs.getD j 0 : Nat) : Int)) := h
open Go.RowKit

theorem trim_any (v : Value) (xs : List Nat) (w : World) (h : Num w v xs) :
  Calls Tryz.prog 89 #[v] w fun e w' => (∃ k, k ≤ xs.length ∧ xs.take k = lim (val xs) ∧ e = .returned (cutTo v k)) ∧ w' = w := by
 obtain ⟨hb, ao, cap, rfl, hc, hm, hnil, hcell⟩ := h.open_
 clear h
 obtain ⟨n, hn⟩ : ∃ n, xs.length = n := ⟨_, rfl⟩
 rw [hn] at hc ⊢
 have HN : Hid (xs.length = n) := hn
 clear hn
 go_enter Tryz.func89, Tryz.ntmps89
 go_wp2
 go_loop [3] (fun t => ∃ k : Nat, k ≤ n ∧ t = .int .i64 k ∧ (∀ j, k ≤ j → j < n → xs.getD j 0 = 0)) (fun t => (intOf t).toNat)
 case atStart => exact ⟨n, Nat.le_refl _, rfl, fun j h1 h2 => by omega⟩
 case round =>
  obtain ⟨k, hk, rfl, hz⟩ := hrel
  have HZ : Hid (∀ j, k ≤ j → j < n → xs.getD j 0 = 0) := hz
  clear hz
  by_cases hk0 : 0 < k
  ·
   obtain ⟨b, off, rfl, hc0⟩ := hcell (k - 1) (by rw [HN.out]; omega)
   obtain ⟨x, hx⟩ : ∃ x, x = xs.getD (k - 1) 0 := ⟨_, rfl⟩
   rw [← hx] at hc0
   have HX : Hid (x = xs.getD (k - 1) 0) := hx
   clear hx hcell hnil
   by_cases hx0 : x = 0
   ·
    have ht : ((x : Int) == 0) = true := by simp [hx0]
    have HX0 : Hid (x = 0) := hx0
    clear hx0
    go_wp2
    go_round
    case rel =>
     refine ⟨k - 1, by omega, by congr 1; omega, fun j h1 h2 => ?_⟩
     by_cases hj : j = k - 1
     · rw [hj, ← HX.out, HX0.out]
     · exact HZ.out j (by omega) h2
    case measure => simp [intOf]; omega
   ·
    have ht : ((x : Int) == 0) = false := by simp [hx0]
    have HX0 : Hid (x ≠ 0) := hx0
    clear hx0
    go_wp2
    go_ret
    exact ⟨⟨k, hk, take_trim hb (by rw [HN.out]; omega) (by rw [HN.out]; exact HZ.out) (fun _ => by rw [← HX.out]; exact HX0.out), rfl⟩, rfl⟩
  ·
   have hk1 : k = 0 := by omega
   subst hk1
   have hgt : ¬ (0 : Int) < ((0 : Nat) : Int) := by omega
   have HF : xs.take 0 = lim (val xs) := take_trim hb (by omega) (by rw [HN.out]; exact HZ.out) (fun h => by omega)
   have HF' : Hid (xs.take 0 = lim (val xs)) := HF
   clear HF hcell
   rcases ao with _ | a
   ·
    have := hnil rfl
    subst this
    have hn0 : n = 0 := by omega
    subst hn0
    go_wp2
    go_ret
    exact ⟨⟨HF'.out.symm, rfl⟩, rfl⟩
   ·
    clear hnil
    obtain ⟨b, off, spot⟩ := a
    go_wp2
    go_ret
    exact ⟨⟨0, by omega, HF'.out, rfl⟩, rfl⟩
theorem limb_any (v : Value) (xs : List Nat) (i : Int) (w : World) (h : Num w v xs) (hi : 0 ≤ i) :
  Calls Tryz.prog 115 #[v, .int .i64 i] w fun e w' => e = .returned (.int .u64 ((xs.getD i.toNat 0 : Nat) : Int)) ∧ w' = w := by
 obtain ⟨hb, ao, cap, rfl, hc, hm, hnil, hcell⟩ := h.open_
 clear h
 obtain ⟨k, rfl⟩ := Int.eq_ofNat_of_zero_le hi
 have hlt := limb_lt hb k
 by_cases hk : k < xs.length
 ·
  obtain ⟨b, off, rfl, hc0⟩ := hcell k hk
  rw [Int.toNat_natCast]
  obtain ⟨x, hx⟩ : ∃ x, x = xs.getD k 0 := ⟨_, rfl⟩
  rw [← hx] at hc0 hlt ⊢
  clear hx hcell hnil hb
  go_enter Tryz.func115, Tryz.ntmps115
  go_wp2
  go_ret
  exact ⟨rfl, rfl⟩
 ·
  have hg : xs.getD k 0 = 0 := by rw [List.getD_eq_getElem?_getD, List.getElem?_eq_none (by omega)]; rfl
  rw [Int.toNat_natCast, hg]
  clear hcell hnil hb hlt hg
  have hge : ((xs.length : Nat) : Int) ≤ (k : Int) := by omega
  go_enter Tryz.func115, Tryz.ntmps115
  go_wp2
  go_ret
  exact ⟨rfl, rfl⟩

def low (xs : List Nat) (i : Nat) : Nat := val (xs.take i)
theorem low_zero (xs : List Nat) : low xs 0 = 0 := rfl
theorem low_nil (i : Nat) : low [] i = 0 := by simp [low, val]
theorem low_cons (x : Nat) (r : List Nat) (i : Nat) : low (x :: r) (i + 1) = x + 4294967296 * low r i := rfl
theorem low_all {xs : List Nat} {i : Nat} (h : xs.length ≤ i) : low xs i = val xs := by rw [low, List.take_of_length_le h]
theorem low_succ : ∀ (xs : List Nat) (i : Nat), low xs (i + 1) = low xs i + 4294967296 ^ i * xs.getD i 0
 | [], i => by simp [low_nil]
 | x :: r, 0 => by simp [low, val]
 | x :: r, i + 1 => by
  rw [low_cons, low_cons, low_succ r i, List.getD_cons_succ, Nat.pow_succ, Nat.mul_add, Nat.mul_comm (4294967296 ^ i) 4294967296, Nat.mul_assoc, Nat.add_assoc]
theorem low_lt {xs : List Nat} (h : limbs xs) (i : Nat) : low xs i < 4294967296 ^ i := by
 have h1 := val_lt (limbs_take h i)
 refine Nat.lt_of_lt_of_le h1 (Nat.pow_le_pow_right (by decide) ?_)
 simp [List.length_take]; omega
theorem low_set_ge (zs : List Nat) (i k x : Nat) (h : i ≤ k) : low (zs.set k x) i = low zs i := by
 rw [low, low, List.take_set, List.set_eq_of_length_le (by simp [List.length_take]; omega)]
theorem getD_set_eq (l : List Nat) (k x : Nat) (h : k < l.length) : (l.set k x).getD k 0 = x := by simp [List.getD, h]
theorem getD_set_off (l : List Nat) (k q x : Nat) (h : q ≠ k) : (l.set k x).getD q 0 = l.getD q 0 := by
 simp only [List.getD_eq_getElem?_getD]
 rw [List.getElem?_set_ne (by omega)]
theorem low_set_succ (zs : List Nat) (i x : Nat) (h : i < zs.length) : low (zs.set i x) (i + 1) = low zs i + 4294967296 ^ i * x := by
 rw [low_succ, low_set_ge _ _ _ _ (Nat.le_refl _), getD_set_eq _ _ _ h]
theorem low_congr : ∀ {xs ys : List Nat} {i : Nat}, (∀ j, j < i → xs.getD j 0 = ys.getD j 0) → low xs i = low ys i
 | xs, ys, 0, _ => rfl
 | xs, ys, i + 1, h => by rw [low_succ, low_succ, low_congr (i := i) fun j hj => h j (by omega), h i (by omega)]
theorem carry_eq (P c : Nat) : P * (c % 4294967296) + P * 4294967296 * (c / 4294967296) = P * c := by
 rw [Nat.mul_assoc, ← Nat.mul_add, Nat.mod_add_div]
theorem getD_ge {xs : List Nat} {j : Nat} (h : xs.length ≤ j) : xs.getD j 0 = 0 := by rw [List.getD_eq_getElem?_getD, List.getElem?_eq_none h]; rfl

theorem add_step {xs ys zs : List Nat} {i c : Nat} (hi : i < zs.length) (h : low zs i + 4294967296 ^ i * c = low xs i + low ys i) :
  low (zs.set i ((c + (xs.getD i 0 + ys.getD i 0)) % 4294967296)) (i + 1) + 4294967296 ^ (i + 1) * ((c + (xs.getD i 0 + ys.getD i 0)) / 4294967296) = low xs (i + 1) + low ys (i + 1) := by
 rw [low_set_succ _ _ _ hi, low_succ, low_succ, Nat.pow_succ]
 have := carry_eq (4294967296 ^ i) (c + (xs.getD i 0 + ys.getD i 0))
 rw [Nat.mul_add, Nat.mul_add] at this
 omega
theorem add_done {xs ys zs : List Nat} {n c : Nat} (hx : limbs xs) (hy : limbs ys) (hxn : xs.length < n) (hyn : ys.length < n) (hz : zs.length = n) (h : low zs n + 4294967296 ^ n * c = low xs n + low ys n) : val zs = val xs + val ys := by
 rw [low_all (by omega), low_all (by omega), low_all (by omega)] at h
 have h1 := val_lt hx
 have h2 := val_lt hy
 have h3 : 4294967296 ^ xs.length ≤ 4294967296 ^ (n - 1) := Nat.pow_le_pow_right (by decide) (by omega)
 have h4 : 4294967296 ^ ys.length ≤ 4294967296 ^ (n - 1) := Nat.pow_le_pow_right (by decide) (by omega)
 have h5 : 4294967296 ^ n = 4294967296 ^ (n - 1) * 4294967296 := by rw [← Nat.pow_succ]; congr 1; omega
 rcases Nat.eq_zero_or_pos c with hc | hc
 · subst hc; simpa using h
 ·
  have : 4294967296 ^ n * 1 ≤ 4294967296 ^ n * c := Nat.mul_le_mul_left _ hc
  omega
theorem val_tail (xs : List Nat) : val xs = xs.getD 0 0 + 4294967296 * val xs.tail := by cases xs <;> simp [val]
theorem getD_tail (xs : List Nat) (j : Nat) : xs.tail.getD j 0 = xs.getD (j + 1) 0 := by cases xs <;> simp
theorem limbs_tail {xs : List Nat} (h : limbs xs) : limbs xs.tail := fun x hx => h x (List.mem_of_mem_tail hx)
theorem val_congr : ∀ (n : Nat) {xs ys : List Nat}, xs.length ≤ n → ys.length ≤ n → (∀ j, xs.getD j 0 = ys.getD j 0) → val xs = val ys
 | n, xs, ys, h1, h2, h => by
  rw [← low_all h1, ← low_all h2]
  exact low_congr fun j _ => h j
theorem val_lt_top : ∀ (i : Nat) {xs ys : List Nat}, limbs xs → limbs ys → (∀ j, i < j → xs.getD j 0 = ys.getD j 0) → xs.getD i 0 < ys.getD i 0 → val xs < val ys
 | 0, xs, ys, hx, hy, h, hlt => by
  have e : val xs.tail = val ys.tail := val_congr (max xs.length ys.length) (by simp; omega) (by simp; omega) fun j => by rw [getD_tail, getD_tail]; exact h (j + 1) (by omega)
  rw [val_tail xs, val_tail ys, e]; omega
 | i + 1, xs, ys, hx, hy, h, hlt => by
  have := val_lt_top i (limbs_tail hx) (limbs_tail hy) (fun j hj => by rw [getD_tail, getD_tail]; exact h (j + 1) (by omega)) (by rw [getD_tail, getD_tail]; exact hlt)
  rw [val_tail xs, val_tail ys]
  have h0 := limb_lt hx 0
  omega
theorem lt_of_lim_len {a b : Nat} (h : (lim b).length < (lim a).length) : b < a := by
 rcases Nat.lt_or_ge b a with h1 | h1
 · exact h1
 ·
  have h2 := lim_lt_of_len (k := (lim b).length) (n := b) (Nat.le_refl _)
  have := lim_len_le (Nat.lt_of_le_of_lt h1 h2)
  omega
def cmpN (a b : Nat) : Int := if a < b then -1 else if a = b then 0 else 1
theorem cmpN_lt {a b : Nat} (h : a < b) : cmpN a b = -1 := by simp [cmpN, h]
theorem cmpN_eq (a : Nat) : cmpN a a = 0 := by simp [cmpN]
theorem cmpN_gt {a b : Nat} (h : b < a) : cmpN a b = 1 := by unfold cmpN; rw [if_neg (by omega), if_neg (by omega)]
theorem cmpN_cases (a b : Nat) : (a < b ∧ cmpN a b = -1) ∨ (a = b ∧ cmpN a b = 0) ∨ (b < a ∧ cmpN a b = 1) := by
 rcases Nat.lt_trichotomy a b with h | h | h
 · exact Or.inl ⟨h, cmpN_lt h⟩
 · exact Or.inr (Or.inl ⟨h, by rw [h]; exact cmpN_eq b⟩)
 · exact Or.inr (Or.inr ⟨h, cmpN_gt h⟩)
theorem blend_step {xs ys zs : List Nat} {i u v p m b d : Nat} (hi : i < zs.length)
  (h : low xs i * u + 4294967296 ^ i * (m + b) = low ys i * v + low zs i + 4294967296 ^ i * p) (b' : Nat)
  (hd : (p + xs.getD i 0 * u) % 4294967296 + 4294967296 * b' = (m + ys.getD i 0 * v) % 4294967296 + b + d) :
  low xs (i + 1) * u + 4294967296 ^ (i + 1) * ((m + ys.getD i 0 * v) / 4294967296 + b') = low ys (i + 1) * v + low (zs.set i d) (i + 1) + 4294967296 ^ (i + 1) * ((p + xs.getD i 0 * u) / 4294967296) := by
 rw [low_set_succ _ _ _ hi, low_succ, low_succ, Nat.pow_succ]
 generalize hP : 4294967296 ^ i = P at *
 generalize hX : xs.getD i 0 = x at *
 generalize hY : ys.getD i 0 = y at *
 have e1 := carry_eq P (p + x * u)
 have e2 := carry_eq P (m + y * v)
 have e3 : P * ((p + x * u) % 4294967296 + 4294967296 * b') = P * ((m + y * v) % 4294967296 + b + d) := by rw [hd]
 rw [Nat.mul_add, Nat.mul_add, Nat.mul_add] at e3
 rw [Nat.mul_add, ← Nat.mul_assoc P x u] at e1
 rw [Nat.mul_add, ← Nat.mul_assoc P y v] at e2
 rw [Nat.mul_add] at h
 rw [Nat.add_mul, Nat.add_mul, Nat.mul_add (P * 4294967296), Nat.mul_assoc P 4294967296 b']
 omega
theorem blend_done {xs ys zs : List Nat} {n u v p m b : Nat} (hz : limbs zs) (hzl : zs.length = n) (hxn : xs.length ≤ n) (hyn : ys.length ≤ n) (h1 : val ys * v ≤ val xs * u) (h2 : val xs * u - val ys * v < 4294967296 ^ n)
  (h : low xs n * u + 4294967296 ^ n * (m + b) = low ys n * v + low zs n + 4294967296 ^ n * p) : val zs = val xs * u - val ys * v := by
 rw [low_all hxn, low_all hyn, low_all (by omega)] at h
 have hz2 := val_lt hz
 rw [hzl] at hz2
 generalize 4294967296 ^ n = P at *
 have h3 : (val xs * u - val ys * v) + P * (m + b) = val zs + P * p := by omega
 have h4 : ((val xs * u - val ys * v) + P * (m + b)) % P = (val zs + P * p) % P := by rw [h3]
 rw [Nat.add_mul_mod_self_left, Nat.add_mul_mod_self_left, Nat.mod_eq_of_lt h2, Nat.mod_eq_of_lt hz2] at h4
 exact h4.symm
theorem times_step {zs s : List Nat} {xs : List Nat} {i by_ c : Nat} (hi : i < zs.length) (h : low zs i + 4294967296 ^ i * c = low s i + low xs i * by_) (hs : zs.getD i 0 = s.getD i 0) :
  low (zs.set i ((c + (xs.getD i 0 * by_ + zs.getD i 0)) % 4294967296)) (i + 1) + 4294967296 ^ (i + 1) * ((c + (xs.getD i 0 * by_ + zs.getD i 0)) / 4294967296) = low s (i + 1) + low xs (i + 1) * by_ := by
 rw [low_set_succ _ _ _ hi, low_succ, low_succ, Nat.pow_succ, hs]
 have := carry_eq (4294967296 ^ i) (c + (xs.getD i 0 * by_ + s.getD i 0))
 rw [Nat.mul_add, Nat.mul_add, ← Nat.mul_assoc] at this
 rw [Nat.add_mul]
 omega
theorem val_split (zs : List Nat) (k : Nat) (h : k ≤ zs.length) : val zs = low zs k + 4294967296 ^ k * val (zs.drop k) := by
 conv => lhs; rw [← List.take_append_drop k zs, val_append]
 rw [List.length_take, Nat.min_eq_left h]; rfl
theorem drop_set_add (zs : List Nat) (off i x : Nat) : (zs.set (off + i) x).drop off = (zs.drop off).set i x := by
 rw [List.drop_set, if_neg (by omega)]
 congr 1; omega
theorem getD_drop (zs : List Nat) (off i : Nat) : (zs.drop off).getD i 0 = zs.getD (off + i) 0 := by
 rw [List.getD_eq_getElem?_getD, List.getD_eq_getElem?_getD, List.getElem?_drop]
open Go.RowKit

theorem side_t (w : World) : Calls Tryz.prog 90 #[.bool true] w fun e w' => e = .returned (.int .i64 1) ∧ w' = w := by
 go_enter Tryz.func90, Tryz.ntmps90
 go_wp2
 go_ret
 exact ⟨rfl, rfl⟩
theorem side_f (w : World) : Calls Tryz.prog 90 #[.bool false] w fun e w' => e = .returned (.int .i64 (-1)) ∧ w' = w := by
 go_enter Tryz.func90, Tryz.ntmps90
 go_wp2
 go_ret
 exact ⟨rfl, rfl⟩
theorem Num.ao {w : World} {v : Value} {xs : List Nat} (h : Num w v xs) : ∃ ao cap, v = .slice ao xs.length cap ∧ xs.length ≤ cap ∧ cap ≤ 9223372036854775807 := by
 obtain ⟨_, ao, cap, h1, h2, h3, _⟩ := h
 exact ⟨ao, cap, h1, h2, h3⟩
theorem cmp_any (u v : Value) (xs ys : List Nat) (w : World) (hu : Num w u xs) (hv : Num w v ys) :
  Calls Tryz.prog 55 #[u, v] w fun e w' => e = .returned (.int .i64 (cmpN (val xs) (val ys))) ∧ ∃ q, w' = w.drewN q := by
 obtain ⟨ao, cap, rfl, hl1, hm1⟩ := hu.ao
 obtain ⟨bo, dap, rfl, hl2, hm2⟩ := hv.ao
 go_enter Tryz.func55, Tryz.ntmps55
 go_wp2_with fail
 refine (trim_any _ _ _ hu).mono ?_
 rintro e w1 ⟨⟨k, hk, hk2, rfl⟩, rfl⟩
 go_wp2_with fail
 refine (trim_any _ _ _ hv).mono ?_
 rintro e w1 ⟨⟨m, hm, hm3, rfl⟩, rfl⟩
 simp only [cutTo]
 have hkl : k = (lim (val xs)).length := by rw [← hk2, List.length_take, Nat.min_eq_left hk]
 have hml : m = (lim (val ys)).length := by rw [← hm3, List.length_take, Nat.min_eq_left hm]
 have nu := hu.cut hk
 have nv := hv.cut hm
 rw [hk2] at nu
 rw [hm3] at nv
 simp only [cutTo] at nu nv
 have hle1 : k ≤ 9223372036854775807 := by omega
 have hle2 : m ≤ 9223372036854775807 := by omega
 clear hu hv hk2 hm3
 by_cases hkm : k = m
 ·
  have hne : ((k : Int) != (m : Int)) = false := by simp [hkm]
  have HKM : Hid (k = m) := hkm
  obtain ⟨bx, aox, capx, ex, hcx, _, _, cx⟩ := nu.open_
  obtain ⟨by_, aoy, capy, ey, hcy, _, _, cy⟩ := nv.open_
  simp only [Value.slice.injEq] at ex ey
  obtain ⟨rfl, hq1, rfl⟩ := ex
  obtain ⟨rfl, hq2, rfl⟩ := ey
  clear hq1 hq2
  generalize hX : lim (val xs) = X at *
  generalize hY : lim (val ys) = Y at *
  have HVX : Hid (val xs = val X) := by show _ = _; rw [← hX, val_lim]
  have HVY : Hid (val ys = val Y) := by show _ = _; rw [← hY, val_lim]
  have HKL : Hid (k = X.length) := hkl
  have HML : Hid (m = Y.length) := hml
  clear hX hY hkl hml hkm nu nv hk hm
  go_wp2
  go_loopw [5] (fun t wr => ∃ i : Nat, i ≤ k ∧ t = .int .i64 ((i : Int) - 1) ∧ (∀ j, i ≤ j → X.getD j 0 = Y.getD j 0) ∧ ∃ q, wr = w1.drewN q) (fun t _ => (intOf t + 1).toNat)
  case atStart => exact ⟨k, Nat.le_refl _, rfl, fun j hj => by rw [getD_ge (by have := HKL.out; omega), getD_ge (by have := HML.out; have := HKM.out; omega)], 0, rfl⟩
  case round =>
   obtain ⟨i, hi, rfl, hz, q, hq⟩ := hrel
   have HZ : Hid (∀ j, i ≤ j → X.getD j 0 = Y.getD j 0) := hz
   have HQ : Hid (wr = w1.drewN q) := hq
   have hhp : wr.heap = w1.heap := by rw [hq, heap_drewN]
   clear hz hq
   by_cases hi0 : 0 < i
   ·
    have hge : (0 : Int) ≤ (i : Int) - 1 := by omega
    obtain ⟨b, off, rfl, hcx0⟩ := cx (i - 1) (by have := HKL.out; omega)
    obtain ⟨b', off', rfl, hcy0⟩ := cy (i - 1) (by have := HML.out; have := HKM.out; omega)
    have c0 : wr.cell? ⟨b, off + (i - 1), none⟩ = some (.int .u32 ((X.getD (i - 1) 0 : Nat) : Int)) := by rw [← hcx0]; exact World.cell?_of_block (by rw [hhp])
    have c1 : wr.cell? ⟨b', off' + (i - 1), none⟩ = some (.int .u32 ((Y.getD (i - 1) 0 : Nat) : Int)) := by rw [← hcy0]; exact World.cell?_of_block (by rw [hhp])
    obtain ⟨x, hx⟩ : ∃ x, x = X.getD (i - 1) 0 := ⟨_, rfl⟩
    obtain ⟨y, hy⟩ : ∃ y, y = Y.getD (i - 1) 0 := ⟨_, rfl⟩
    rw [← hx] at c0
    rw [← hy] at c1
    have HX : Hid (x = X.getD (i - 1) 0) := hx
    have HY : Hid (y = Y.getD (i - 1) 0) := hy
    have him : i ≤ m := by have := HKM.out; omega
    clear hx hy cx cy hcx0 hcy0 hhp
    by_cases hxy : x = y
    ·
     have hne2 : ((x : Int) != (y : Int)) = false := by simp [hxy]
     have HXY : Hid (x = y) := hxy
     clear hxy
     go_wp2
     go_quiet (fail)
     go_wp2
     go_roundw
     case rel =>
      refine ⟨i - 1, by omega, by congr 1; omega, fun j hj => ?_, _, by rw [HQ.out, World.drewN_drewN]⟩
      by_cases hj2 : j = i - 1
      · rw [hj2, ← HX.out, ← HY.out]; exact HXY.out
      · exact HZ.out j (by omega)
     case measure => simp [intOf]; omega
    ·
     have hne2 : ((x : Int) != (y : Int)) = true := by simp; omega
     have top : ∀ j, i - 1 < j → X.getD j 0 = Y.getD j 0 := fun j hj => HZ.out j (by omega)
     by_cases hlt : x < y
     ·
      have hgd : decide (y < x) = false := by simp; omega
      have HR : Hid (cmpN (val xs) (val ys) = -1) := by
       show _ = _
       rw [HVX.out, HVY.out]
       exact cmpN_lt (val_lt_top (i - 1) bx by_ top (by rw [← HX.out, ← HY.out]; exact hlt))
      clear hxy hlt top HZ
      go_wp2
      go_quiet (fail)
      go_wp2
      have d0 : (wr.drewN nq).cell? ⟨b, off + (i - 1), none⟩ = some (.int .u32 (x : Int)) := by rw [← c0]; exact World.cell?_of_block (by rw [heap_drewN])
      have d1 : (wr.drewN nq).cell? ⟨b', off' + (i - 1), none⟩ = some (.int .u32 (y : Int)) := by rw [← c1]; exact World.cell?_of_block (by rw [heap_drewN])
      have HW : Hid (wr.drewN nq = w1.drewN (q + nq)) := by show _ = _; rw [HQ.out, World.drewN_drewN]
      clear c0 c1
      generalize wr.drewN nq = W at *
      go_quiet ((go_at_call 90; exact Calls.quiet_of_same (side_f _)))
      go_wp2
      go_ret
      exact ⟨by rw [HR.out]; rfl, _, by rw [HW.out, World.drewN_drewN]⟩
     ·
      have hgd : decide (y < x) = true := by simp; omega
      have HR : Hid (cmpN (val xs) (val ys) = 1) := by
       show _ = _
       rw [HVX.out, HVY.out]
       exact cmpN_gt (val_lt_top (i - 1) by_ bx (fun j hj => (top j hj).symm) (by rw [← HX.out, ← HY.out]; omega))
      clear hxy hlt top HZ
      go_wp2
      go_quiet (fail)
      go_wp2
      have d0 : (wr.drewN nq).cell? ⟨b, off + (i - 1), none⟩ = some (.int .u32 (x : Int)) := by rw [← c0]; exact World.cell?_of_block (by rw [heap_drewN])
      have d1 : (wr.drewN nq).cell? ⟨b', off' + (i - 1), none⟩ = some (.int .u32 (y : Int)) := by rw [← c1]; exact World.cell?_of_block (by rw [heap_drewN])
      have HW : Hid (wr.drewN nq = w1.drewN (q + nq)) := by show _ = _; rw [HQ.out, World.drewN_drewN]
      clear c0 c1
      generalize wr.drewN nq = W at *
      go_quiet ((go_at_call 90; exact Calls.quiet_of_same (side_t _)))
      go_wp2
      go_ret
      exact ⟨by rw [HR.out]; rfl, _, by rw [HW.out, World.drewN_drewN]⟩
   ·
    have hi1 : i = 0 := by omega
    subst hi1
    have HR : Hid (cmpN (val xs) (val ys) = 0) := by
     show _ = _
     rw [HVX.out, HVY.out, val_congr k (by have := HKL.out; omega) (by have := HML.out; have := HKM.out; omega) (fun j => HZ.out j (by omega))]
     exact cmpN_eq _
    clear cx cy hhp
    go_wp2
    go_ret
    exact ⟨by rw [HR.out]; rfl, q, HQ.out⟩
 ·
  have hne : ((k : Int) != (m : Int)) = true := by simp; omega
  by_cases hlt : k < m
  ·
   have hgd : decide (m < k) = false := by simp; omega
   have HR : Hid (cmpN (val xs) (val ys) = -1) := cmpN_lt (lt_of_lim_len (by omega))
   clear hkl hml hkm nu nv hlt
   go_wp2_with fail
   refine (side_f _).mono ?_
   rintro e w2 ⟨rfl, rfl⟩
   go_wp2
   go_ret
   exact ⟨by rw [HR.out]; rfl, 0, rfl⟩
  ·
   have hgd : decide (m < k) = true := by simp; omega
   have HR : Hid (cmpN (val xs) (val ys) = 1) := cmpN_gt (lt_of_lim_len (by omega))
   clear hkl hml hkm nu nv hlt
   go_wp2_with fail
   refine (side_t _).mono ?_
   rintro e w2 ⟨rfl, rfl⟩
   go_wp2
   go_ret
   exact ⟨by rw [HR.out]; rfl, 0, rfl⟩
open Go.RowKit

def Keeps (w w' : World) (v : Value) (n : Nat) : Prop := ∀ b e u k ys, w.ownsRow b e 1 u k ys → (u.ownBlock = v.ownBlock → k ≤ n) → w'.ownsRow b e 1 u k ys

theorem keeps_none {w w' : World} {v : Value} {n : Nat} (hg : w.grownBy w' none) : Keeps w w' v n := fun b e u k ys h _ => by
 rcases hu : u.ownBlock with _ | g
 · exact h.kept hg (Or.inl hu)
 · exact h.kept hg (Or.inr (by rw [hu]; simp))
theorem keeps_fits {w w' : World} {base e g n m cap : Nat} {xs news : List Value} (h : w.ownsRow base e 1 (.slice (some ⟨g, 0, none⟩) n cap) n xs)
  (h' : w'.ownsRow base e 1 (.slice (some ⟨g, 0, none⟩) (n + m) cap) (n + m) (xs ++ news)) (hg : w.grownBy w' (some g)) : Keeps w w' (.slice (some ⟨g, 0, none⟩) n cap) n := fun b e2 u k ys hu hk => by
 by_cases hb : u.ownBlock = some g
 ·
  have hkn := hk hb
  obtain ⟨hl, hu⟩ := hu
  rcases hu with ⟨rfl, _⟩ | ⟨g2, cap2, cur, rfl, hb2, hh, hkc, hcm, hcs, ht⟩
  · simp [Value.ownBlock] at hb
  ·
   simp only [Value.ownBlock, Option.some.injEq] at hb
   subst hb
   rcases h.2 with ⟨h, _⟩ | ⟨g3, cap3, cur3, h3, hb3, hh3, hkc3, hcm3, hcs3, ht3⟩
   · simp at h
   rcases h'.2 with ⟨h', _⟩ | ⟨g4, cap4, cur4, h4, hb4, hh4, hkc4, hcm4, hcs4, ht4⟩
   · simp at h'
   simp only [Value.slice.injEq, Option.some.injEq, Addr.mk.injEq, and_true, true_and] at h3 h4
   obtain ⟨rfl, rfl⟩ := h3
   obtain ⟨rfl, rfl⟩ := h4
   rw [hh] at hh3
   simp only [Option.some.injEq, Obj.cells.injEq, and_true] at hh3
   obtain ⟨rfl, rfl⟩ := hh3
   refine ⟨hl, Or.inr ⟨g2, cap2, cur4, rfl, hb2, hh4, hkc, hcm, by omega, ?_⟩⟩
   simp only [Nat.mul_one] at ht ht3 ht4 hl ⊢
   have e1 : (cur4.toList.take (n + m)).take k = (xs ++ news).take k := by rw [ht4]
   rw [List.take_take, Nat.min_eq_left (by omega), List.take_append_of_le_length (by rw [← ht3, List.length_take, Array.length_toList]; omega)] at e1
   rw [e1, ← ht3, List.take_take, Nat.min_eq_left hkn, ht]
 ·
  rcases hu' : u.ownBlock with _ | g'
  · exact hu.kept hg (Or.inl hu')
  · exact hu.kept hg (Or.inr (by rw [hu'] at hb ⊢; exact hb))
theorem wpList_push {P : Program} (w : World) {ops : Array Oper} {rest : List Oper} {o : Oper} {a : Act} {Q : Exit → Act → World → Prop}
  (hg : o.guard = none) (s x : Operand) (t : TypeId) (hop : o.op = Op.call { callee := Callee.builtin Builtin.append, args := #[s, x], argTypes := #[t, t] })
  (base : Nat) (e : TypeId) (i : TypeInfo) (z : Value) (bytes : Nat) (h1 : P.underlying t = some (.slice e)) (h2 : P.info? e = some i) (h3 : i.zero = some z) (h4 : i.size = 1) (h5 : i.bytes = bytes) (h6 : z.cells.size = 1)
  (v : Value) (n : Nat) (xs : List Value) (hs : a.eval s = v) (hown : w.ownsRow base e 1 v n xs)
  (ad : Addr) (m c : Nat) (news : List Value) (hx : a.eval x = .slice (some ad) m c) (hn : news.length = m * 1) (hc : ∀ j u, news[j]? = some u → w.cell? (ad.add j) = some u) (h1c : ∀ u ∈ news, u.oneCell' = true)
  (hm : 0 < m) (b1 : n + m ≤ maxLen) (b2 : (n + m) * bytes ≤ 140737488355328) (hbase : base ≤ w.heap.size)
  (hK : ∀ v' w', w'.ownsRow base e 1 v' (n + m) (xs ++ news) → w.grownBy w' v.ownBlock → Keeps w w' v n → (v'.ownBlock = v.ownBlock ∨ ∀ g, v'.ownBlock = some g → w.heap.size ≤ g) → wpList P ops Q rest (a.put o.dst v') w') :
  wpList P ops Q (o :: rest) a w := by
 have hown0 := hown
 have grow : ∀ v' w', w'.ownsRow w.heap.size e 1 v' (n + m) (xs ++ news) → w.grownBy w' none → wpList P ops Q rest (a.put o.dst v') w' := by
  intro v' w' ho hgr
  refine hK v' w' ?_ ⟨hgr.os, hgr.tape, hgr.output, hgr.size, fun k hk _ => hgr.block k hk (by simp)⟩ (keeps_none hgr) (Or.inr fun g hg => (World.ownsRow.lt ho g hg).1)
  refine ⟨ho.1, ?_⟩
  rcases ho.2 with h | ⟨g, cap, cur, e1, e2, e3⟩
  · exact Or.inl h
  · exact Or.inr ⟨g, cap, cur, e1, by omega, e3⟩
 rcases hown.2 with ⟨rfl, hn0⟩ | ⟨g, cap, cur, rfl, hb, hh, hnc, hcm, hcs, ht⟩
 ·
  subst hn0
  have hx0 : xs = [] := by have := hown.1; simpa using this
  subst hx0
  exact wpList_append_grows w hg s x t hop e i z 1 bytes h1 h2 h3 h4 h5 h6 (by decide) none 0 0 [] hs (fun _ => ⟨rfl, rfl⟩) (by simp) (fun b h => by simp at h) ad m c news hx hn hc h1c (by omega) b1 b2 grow
 ·
  by_cases hr : n + m ≤ cap
  ·
   refine wpList_append_fits w hg s x t hop base e i 1 h1 h2 h4 g n cap xs hs hown ad m c news hx hn hc h1c hr ?_
   intro w' ho hgr
   exact hK _ w' ho hgr (keeps_fits hown ho hgr) (Or.inl rfl)
  ·
   refine wpList_append_grows w hg s x t hop e i z 1 bytes h1 h2 h3 h4 h5 h6 (by decide) (some ⟨g, 0, none⟩) n cap xs hs (fun h => by simp at h) hown.1 ?_ ad m c news hx hn hc h1c (by omega) b1 b2 grow
   intro b hb' j u hj
   simp only [Option.some.injEq] at hb'
   subst hb'
   rw [Addr.add_lit, Nat.zero_add, World.ownsRow.cellAt hown0 j ?_, hj]
   have := (List.getElem?_eq_some_iff.1 hj).1
   rw [hown.1] at this
   exact this
open Go.RowKit

def at_ (l : List Value) (i : Nat) : Value := l.getD i (.slice none 0 0)
def Fam (B : Nat) (w : World) (gs : List Value) (ys : Nat → List Nat) : Prop := ∀ j, j < gs.length → Own B 37 w (at_ gs j) (ys j)
def Dist (gs : List Value) : Prop := ∀ i j, i < gs.length → j < gs.length → i ≠ j → (at_ gs i).ownBlock = none ∨ (at_ gs i).ownBlock ≠ (at_ gs j).ownBlock
def upd (ys : Nat → List Nat) (i : Nat) (l : List Nat) : Nat → List Nat := fun j => if j = i then l else ys j

theorem limbs_set {xs : List Nat} (h : limbs xs) (k x : Nat) (hx : x < 4294967296) : limbs (xs.set k x) := fun y hy => by
 rcases List.mem_or_eq_of_mem_set hy with h' | h'
 · exact h y h'
 · omega
theorem Own.set {B e g n cap : Nat} {w : World} {xs : List Nat} (h : Own B e w (.slice (some ⟨g, 0, none⟩) n cap) xs) (hn : xs.length = n) (k x : Nat) (hx : x < 4294967296) :
  Own B e (w.setCell ⟨g, k, none⟩ (U x)) (.slice (some ⟨g, 0, none⟩) n cap) (xs.set k x) := by
 subst hn
 refine ⟨limbs_set h.1 k x hx, ?_⟩
 have := (World.ownsRow.stored h.2 k (U x)).1
 rw [List.length_set, List.map_set]
 exact this
theorem Own.other {B e : Nat} {w : World} {v : Value} {xs : List Nat} (h : Own B e w v xs) {g k : Nat} (u : Value) (hne : v.ownBlock = none ∨ v.ownBlock ≠ some g) : Own B e (w.setCell ⟨g, k, none⟩ u) v xs := by
 obtain ⟨h0, h1, h2⟩ := h
 refine ⟨h0, h1, ?_⟩
 rcases h2 with h2 | ⟨g', cap, cur, rfl, h3, h4, h5⟩
 · exact Or.inl h2
 ·
  refine Or.inr ⟨g', cap, cur, rfl, h3, ?_, h5⟩
  rw [heap_setCell_other]
  · exact h4
  ·
   simp [Value.ownBlock] at hne
   exact hne
theorem Fam.set {B : Nat} {w : World} {gs : List Value} {ys : Nat → List Nat} (h : Fam B w gs ys) (hd : Dist gs) {i g n cap : Nat} (hi : i < gs.length) (hv : at_ gs i = .slice (some ⟨g, 0, none⟩) n cap) (hn : (ys i).length = n) (k x : Nat) (hx : x < 4294967296) :
  Fam B (w.setCell ⟨g, k, none⟩ (U x)) gs (upd ys i ((ys i).set k x)) := fun j hj => by
 unfold upd
 by_cases hji : j = i
 ·
  subst hji
  rw [if_pos rfl, hv]
  have := h j hj
  rw [hv] at this
  exact this.set hn k x hx
 ·
  rw [if_neg hji]
  refine (h j hj).other (U x) ?_
  have := hd j i hj hi hji
  rw [hv] at this
  exact this
theorem Own.heap {B e g n cap : Nat} {w : World} {xs : List Nat} (h : Own B e w (.slice (some ⟨g, 0, none⟩) n cap) xs) : B ≤ g ∧ n = xs.length ∧ ∃ cur, w.heap[g]? = some (.cells cur e (0, 0)) ∧ xs.length ≤ cap ∧ cur.size = cap ∧ cur.toList.take xs.length = xs.map U := by
 rcases h.2.2 with ⟨h, _⟩ | ⟨g', cap', cur, h1, h3, h4, h5, h6, h7, h8⟩
 · simp at h
 ·
  simp only [Value.slice.injEq, Option.some.injEq, Addr.mk.injEq, and_true] at h1
  obtain ⟨rfl, rfl, rfl⟩ := h1
  exact ⟨h3, rfl, cur, h4, h5, by simpa using h7, by simpa using h8⟩
theorem Own.shape {B e : Nat} {w : World} {v : Value} {xs : List Nat} (h : Own B e w v xs) : (v = .slice none 0 0 ∧ xs = []) ∨ ∃ g cap, v = .slice (some ⟨g, 0, none⟩) xs.length cap ∧ xs.length ≤ cap ∧ cap ≤ 9223372036854775807 := by
 rcases h.2.2 with ⟨h1, h2⟩ | ⟨g', cap', cur, h1, h3, h4, h5, h6, h7, h8⟩
 · exact Or.inl ⟨h1, List.eq_nil_of_length_eq_zero h2⟩
 · exact Or.inr ⟨g', cap', h1, h5, h6⟩
theorem Own.cell {B e g n cap : Nat} {w : World} {xs : List Nat} (h : Own B e w (.slice (some ⟨g, 0, none⟩) n cap) xs) {k : Nat} (hk : k < xs.length) : w.cell? ⟨g, k, none⟩ = some (.int .u32 ((xs.getD k 0 : Nat) : Int)) ∧ w.frozen? ⟨g, k, none⟩ = false := by
 obtain ⟨_, hn, cur, h1, h2, h3, h4⟩ := h.heap
 refine ⟨?_, frozen_of_row w g k cur e h1⟩
 rw [cell_of_row w g k cur e _ h1]
 have h5 : cur.toList[k]? = (xs.map U)[k]? := by rw [← h4, List.getElem?_take_of_lt hk]
 rw [Array.getElem?_toList] at h5
 rw [h5, List.getElem?_map, List.getElem?_eq_getElem hk, List.getD_eq_getElem?_getD, List.getElem?_eq_getElem hk]
 rfl
theorem eq_replicate {l : List Nat} {n x : Nat} (hl : l.length = n) (h : ∀ q, q < n → l.getD q 0 = x) : l = List.replicate n x := by
 apply List.ext_getElem
 · simp [hl]
 ·
  intro q h1 h2
  have := h q (by omega)
  rw [List.getD_eq_getElem?_getD, List.getElem?_eq_getElem h1] at this
  simpa using this
structure Bex (gs : List Value) (w w' : World) : Prop where
 os : w'.os = w.os
 tape : w'.tape = w.tape
 output : w'.output = w.output
 size : w.heap.size ≤ w'.heap.size
 block : ∀ k, k < w.heap.size → (∀ j, j < gs.length → (at_ gs j).ownBlock ≠ some k) → w'.heap[k]? = w.heap[k]?
def May (gs : List Value) (w : World) (k : Nat) : Prop := (∃ j, j < gs.length ∧ (at_ gs j).ownBlock = some k) ∨ w.heap.size ≤ k
theorem Bex.same {gs : List Value} {w w' : World} (h : Below w.heap.size w w') : Bex gs w w' := ⟨h.os, h.tape, h.output, h.size, fun k hk _ => h.block k hk⟩
theorem Bex.alloc {gs : List Value} {w w' : World} (h : Bex gs w w') (o : Obj) : Bex gs w (w'.alloc o) :=
 ⟨h.os, h.tape, h.output, by simp; have := h.size; omega, fun k hk hj => by rw [Below.heap_alloc _ _ _ (Nat.lt_of_lt_of_le hk h.size)]; exact h.block k hk hj⟩
theorem Bex.setCell {gs : List Value} {w w' : World} (h : Bex gs w w') {p : Addr} (hp : May gs w p.block) (u : Value) : Bex gs w (w'.setCell p u) :=
 ⟨h.os, h.tape, h.output, by simp [World.setCell]; exact h.size, fun k hk hj => by
  rw [heap_setCell_other]
  · exact h.block k hk hj
  ·
   intro e
   rcases hp with ⟨j, h1, h2⟩ | h2
   · exact hj j h1 (by rw [h2, e])
   · omega⟩
theorem Bex.grown {gs : List Value} {w wr w' : World} {row : Option Nat} (h : Bex gs w wr) (hg : wr.grownBy w' row) (hr : ∀ k, row = some k → May gs w k) : Bex gs w w' :=
 ⟨hg.os.trans h.os, hg.tape.trans h.tape, hg.output.trans h.output, Nat.le_trans h.size hg.size, fun k hk hj => by
  rw [hg.block k (Nat.lt_of_lt_of_le hk h.size) (fun e => ?_)]
  · exact h.block k hk hj
  ·
   rcases hr k e.symm with ⟨j, h1, h2⟩ | h2
   · exact hj j h1 h2
   · omega⟩
theorem Bex.below {B : Nat} {gs : List Value} {w w' : World} (h : Bex gs w w') (hB : B ≤ w.heap.size) (hgs : ∀ j k, j < gs.length → (at_ gs j).ownBlock = some k → B ≤ k) : Below B w w' :=
 ⟨h.os, h.tape, h.output, h.size, fun k hk => h.block k (by omega) (fun j hj e => by have := hgs j k hj e; omega)⟩
theorem Own.bex {B e : Nat} {gs : List Value} {w w' : World} {v : Value} {xs : List Nat} (h : Own B e w v xs) (hb : Bex gs w w') (hd : ∀ j, j < gs.length → (at_ gs j).ownBlock = none ∨ (at_ gs j).ownBlock ≠ v.ownBlock) : Own B e w' v xs := by
 obtain ⟨h0, h1, h2⟩ := h
 refine ⟨h0, h1, ?_⟩
 rcases h2 with h2 | ⟨g, cap, cur, rfl, h3, h4, h5⟩
 · exact Or.inl h2
 ·
  refine Or.inr ⟨g, cap, cur, rfl, h3, ?_, h5⟩
  rw [hb.block g (Array.getElem?_eq_some_iff.1 h4).1 (fun j hj e => ?_)]
  · exact h4
  ·
   rcases hd j hj with h | h
   · rw [h] at e; simp at e
   · exact h (by rw [e]; rfl)
theorem Own.ao {B e : Nat} {w : World} {v : Value} {xs : List Nat} (h : Own B e w v xs) : ∃ ao cap, v = .slice ao xs.length cap ∧ (0 < xs.length → ∃ g, ao = some ⟨g, 0, none⟩) ∧ xs.length ≤ cap ∧ cap ≤ 9223372036854775807 := by
 rcases h.shape with ⟨rfl, rfl⟩ | ⟨g, cap, rfl, h1, h2⟩
 · exact ⟨none, 0, rfl, fun h => by simp at h, by simp, by omega⟩
 · exact ⟨_, cap, rfl, fun _ => ⟨g, rfl⟩, h1, h2⟩
theorem getD_set_self (l : List Nat) (k x : Nat) (h : k < l.length) : (l.set k x).getD k 0 = x := by simp [List.getD, h]
theorem getD_set_ne (l : List Nat) (k q x : Nat) (h : q ≠ k) : (l.set k x).getD q 0 = l.getD q 0 := by
 simp only [List.getD_eq_getElem?_getD]
 rw [List.getElem?_set_ne (by omega)]
open Go.RowKit

def marks (len : Nat → Nat) (j : Nat) : List Nat := List.replicate (len j) (1000 + j)
theorem own_types {w : World} {b b' e e' k k' : Nat} {u u' : Value} {ys ys' : List Value} (h : w.ownsRow b e 1 u k ys) (h' : w.ownsRow b' e' 1 u' k' ys') (hne : e ≠ e') : u.ownBlock = none ∨ u.ownBlock ≠ u'.ownBlock := by
 rcases h.2 with ⟨rfl, _⟩ | ⟨g, cap, cur, rfl, _, hh, _⟩
 · exact Or.inl rfl
 ·
  right
  rcases h'.2 with ⟨rfl, _⟩ | ⟨g', cap', cur', rfl, _, hh', _⟩
  · simp [Value.ownBlock]
  ·
   simp only [Value.ownBlock, ne_eq, Option.some.injEq]
   intro he
   subst he
   rw [hh] at hh'
   simp only [Option.some.injEq, Obj.cells.injEq, and_true] at hh'
   exact hne hh'.2
theorem own_none {w : World} {b e k : Nat} {u : Value} {ys : List Value} (h : w.ownsRow b e 1 u k ys) (hn : u.ownBlock = none) : k = 0 := by
 rcases h.2 with ⟨_, h0⟩ | ⟨g, cap, cur, rfl, _⟩
 · exact h0
 · simp [Value.ownBlock] at hn
theorem short_of {w : World} {b e k n : Nat} {u v : Value} {ys : List Value} (h : w.ownsRow b e 1 u k ys) (hd : v.ownBlock = none ∨ v.ownBlock ≠ u.ownBlock) (he : u.ownBlock = v.ownBlock) : k ≤ n := by
 rcases hd with hd | hd
 · have := own_none h (by rw [he, hd]); omega
 · exact absurd he.symm hd
theorem apart_symm {u v : Value} (h : u.ownBlock = none ∨ u.ownBlock ≠ v.ownBlock) : v.ownBlock = none ∨ v.ownBlock ≠ u.ownBlock := by
 rcases hv : v.ownBlock with _ | g
 · exact Or.inl rfl
 ·
  right
  rcases h with h | h
  · rw [h]; simp
  · rw [hv] at h; exact fun e => h e.symm
theorem below_of_grown {B : Nat} {w w' : World} {v : Value} (hg : w.grownBy w' v.ownBlock) (hB : B ≤ w.heap.size) (hv : ∀ k, v.ownBlock = some k → B ≤ k) : Below B w w' := (Below.refl B w).grown hg hB hv

theorem at_snoc_lt {ls : List Value} {v : Value} {i j : Nat} (hl : ls.length = i) (hj : j < i) : at_ (ls ++ [v]) j = at_ ls j := by
 unfold at_
 rw [List.getD_eq_getElem?_getD, List.getD_eq_getElem?_getD, List.getElem?_append_left (by omega)]
theorem at_snoc_eq {ls : List Value} {v : Value} {i : Nat} (hl : ls.length = i) : at_ (ls ++ [v]) i = v := by
 unfold at_
 rw [List.getD_eq_getElem?_getD, List.getElem?_append_right (by omega)]
 simp [hl]
theorem Own.alloc {B e : Nat} {w : World} {v : Value} {xs : List Nat} (h : Own B e w v xs) (o : Obj) : Own B e (w.alloc o) v xs := ⟨h.1, h.2.alloc o⟩
theorem Num.alloc {w : World} {v : Value} {xs : List Nat} (h : Num w v xs) (o : Obj) : Num (w.alloc o) v xs := h.below (Nat.le_refl _) ((Below.refl _ _).alloc (Nat.le_refl _) o)
theorem apart_later {B B' e e' : Nat} {w w' : World} {u v : Value} {xs ys : List Nat} (h : Own B e w u xs) (h' : Own B' e' w' v ys) (hB : w.heap.size ≤ B') : u.ownBlock = none ∨ u.ownBlock ≠ v.ownBlock := by
 rcases hu : u.ownBlock with _ | g
 · exact Or.inl rfl
 ·
  right
  rcases hv : v.ownBlock with _ | g'
  · simp
  ·
   have := (h.block g hu).2
   have := (h'.block g' hv).1
   simp only [ne_eq, Option.some.injEq]; omega
open Go.RowKit

theorem Tryz.infoU : (Tryz.prog.info? 37).map (fun i => (i.zero, i.size, i.bytes)) = some (some (.int .u32 0), 1, 4) := by kernel_rfl

theorem val_two (u : Nat) : val [u % 4294967296, u / 4294967296] = u := by simp [val]; omega

theorem of_any (u : Nat) (w : World) (hu : u < 18446744073709551616) :
  Calls Tryz.prog 56 #[.int .u64 (u : Int)] w fun e w' => ∃ v, e = .returned v ∧ Own w.heap.size 37 w' v (lim u) ∧ Below w.heap.size w w' := by
 have hb : limbs [u % 4294967296, u / 4294967296] := by
  intro x hx
  simp at hx
  omega
 have how := Own.lit (B := w.heap.size) 37 w #[.int .u32 ((u : Int) % 4294967296), .int .u32 ((u : Int) / 4294967296)] [u % 4294967296, u / 4294967296] hb (Nat.le_refl _) (by simp [maxLen]) (by simp [U])
 have hbel : Below w.heap.size w (w.alloc (.cells #[.int .u32 ((u : Int) % 4294967296), .int .u32 ((u : Int) / 4294967296)] 37)) := (Below.refl _ _).alloc (Nat.le_refl _) _
 go_enter Tryz.func56, Tryz.ntmps56
 go_wp2_with fail
 refine (trim_any _ _ _ how.num).mono ?_
 rintro e w' ⟨⟨k, hk, hk2, rfl⟩, rfl⟩
 have how2 := how.cut hk
 rw [hk2, val_two] at how2
 clear how hk2 hb
 go_wp2
 go_ret
 exact ⟨_, rfl, how2, hbel⟩
theorem or_high (x y : Nat) (hx : x < 4294967296) (hy : y < 4294967296) : bits BinOp.or IntKind.u64 (x : Int) ((y : Int) * 4294967296) = ((x + 4294967296 * y : Nat) : Int) := by
 have h := bits_or_u64_nat x (y * 4294967296) (by omega) (by omega)
 rw [show ((y : Int) * 4294967296) = ((y * 4294967296 : Nat) : Int) by omega, h]
 congr 1
 have h2 := Nat.shiftLeft_add_eq_or_of_lt (i := 32) (b := x) (by simpa using hx) y
 rw [Nat.shiftLeft_eq, show (2 ^ 32 : Nat) = 4294967296 from rfl] at h2
 rw [Nat.or_comm, ← h2]; omega
theorem or_halves (V : Nat) (h : V < 18446744073709551616) : bits BinOp.or IntKind.u64 ((V : Int) % 4294967296) ((V : Int) / 4294967296 * 4294967296) = (V : Int) := by
 have hor := or_high (V % 4294967296) (V / 4294967296) (by omega) (by omega)
 rw [Int.natCast_emod, Int.natCast_ediv] at hor
 refine hor.trans ?_
 omega
open Go.RowKit

theorem own_made {B e n : Nat} {w : World} {v : Value} (h : w.ownsRow B e 1 v n (madeCells #[Value.int .u32 0] n).toList) : Own B e w v (List.replicate n 0) := by
 refine ⟨fun x hx => by have := List.eq_of_mem_replicate hx; omega, ?_⟩
 rw [toList_madeCells_one] at h
 rw [List.map_replicate, List.length_replicate]
 exact h
def Made' (B : Nat) (w : World) (xs : List Nat) (en : Ending) (w' : World) : Prop := ∃ v, en = .returned v ∧ Own B 37 w' v xs ∧ Below B w w'

theorem add_any (u v : Value) (xs ys : List Nat) (w : World) (hu : Num w u xs) (hv : Num w v ys) (hbx : xs.length ≤ 1099511627776) (hby : ys.length ≤ 1099511627776) :
  Calls Tryz.prog 85 #[u, v] w fun e w' => Made' w.heap.size w (lim (val xs + val ys)) e w' := by
 obtain ⟨ao, cap, rfl, hl1, hm1⟩ := hu.ao
 obtain ⟨bo, dap, rfl, hl2, hm2⟩ := hv.ao
 obtain ⟨i0, hi, hz0, hz1, hz2⟩ := info_parts Tryz.infoU
 go_enter Tryz.func85, Tryz.ntmps85
 go_wp2_with fail
 refine (trim_any _ _ _ hu).mono ?_
 rintro e w1 ⟨⟨k, hk, hk2, rfl⟩, rfl⟩
 go_wp2_with fail
 refine (trim_any _ _ _ hv).mono ?_
 rintro e w1 ⟨⟨m, hm, hm3, rfl⟩, rfl⟩
 simp only [cutTo]
 have hkl : k = (lim (val xs)).length := by rw [← hk2, List.length_take, Nat.min_eq_left hk]
 have hml : m = (lim (val ys)).length := by rw [← hm3, List.length_take, Nat.min_eq_left hm]
 have nu := hu.cut hk
 have nv := hv.cut hm
 rw [hk2] at nu
 rw [hm3] at nv
 simp only [cutTo] at nu nv
 have hle1 : k ≤ 1099511627776 := by omega
 have hle2 : m ≤ 1099511627776 := by omega
 have HE : Hid (val xs + val ys = val (lim (val xs)) + val (lim (val ys))) := by show _ = _; rw [val_lim, val_lim]
 generalize hX : lim (val xs) = X at *
 generalize hY : lim (val ys) = Y at *
 have HKL : Hid (k = X.length) := hkl
 have HML : Hid (m = Y.length) := hml
 clear hX hY hkl hml hu hv hk2 hm3 hk hm
 have pre : ∃ n : Nat, k < n ∧ m < n ∧ n ≤ 1099511627777 ∧ ((k < m ∧ n = m + 1) ∨ (¬ k < m ∧ n = k + 1)) := by
  by_cases h : k < m
  · exact ⟨m + 1, by omega, by omega, by omega, Or.inl ⟨h, rfl⟩⟩
  · exact ⟨k + 1, by omega, by omega, by omega, Or.inr ⟨h, rfl⟩⟩
 obtain ⟨n, hn1, hn2, hn3, hcase⟩ := pre
 rcases hcase with ⟨hkm, hn⟩ | ⟨hkm, hn⟩
 all_goals
  have HNN : Hid (n = _) := hn
  clear hn
  go_wp2_with (at_make; refine wpList_make_full _ rfl _ _ 23 rfl w1.heap.size 37 i0 (.int .u32 0) 1 Tryz.underlying23 hi hz0 hz1 _ _ _ _ n rfl rfl (by have := HNN.out; omega) (by have := HNN.out; omega) (by rw [hz2]; omega) (by unfold maxLen; omega) (Nat.le_refl _) ?_)
  intro w2 ho2 hg2
  have how := own_made ho2
  have hbel : Below w1.heap.size w1 w2 := (Below.refl w1.heap.size w1).grown hg2 (Nat.le_refl _) (by intro k hk; simp at hk)
  have HXL : Hid (X.length < n) := by show _ < _; rw [← HKL.out]; exact hn1
  have HYL : Hid (Y.length < n) := by show _ < _; rw [← HML.out]; exact hn2
  clear ho2 hg2 HNN hn1 hn2
  obtain ⟨g, hg⟩ : ∃ g, g = w1.heap.size := ⟨_, rfl⟩
  have HB : Hid (Below w1.heap.size w1 w2 ∧ Own w1.heap.size 37 w2 (.slice (some ⟨g, 0, none⟩) n n) (List.replicate n 0)) := by rw [hg]; exact ⟨hbel, how⟩
  rw [← hg] 
  clear hg hbel how
  go_wp2
  go_loopw [6, 21] (fun c t wr => ∃ (i cN : Nat) (zs : List Nat), i ≤ n ∧ t = .int .i64 i ∧ c = .int .u64 cN ∧ cN ≤ 1 ∧ zs.length = n ∧ Own w1.heap.size 37 wr (.slice (some ⟨g, 0, none⟩) n n) zs ∧ low zs i + 4294967296 ^ i * cN = low X i + low Y i ∧ Below w1.heap.size w1 wr) (fun _ t _ => n - (intOf t).toNat)
  case atStart => exact ⟨0, 0, List.replicate n 0, Nat.zero_le _, rfl, rfl, by omega, by simp, HB.out.2, by simp [low_zero], HB.out.1⟩
  case round =>
   obtain ⟨i, c, zs, hin, rfl, rfl, hc1, hzl, how, hinv, hbel⟩ := hrel
   have HZ : Hid (zs.length = n) := hzl
   have HI : Hid (low zs i + 4294967296 ^ i * c = low X i + low Y i) := hinv
   clear hzl hinv HB
   have nu2 := nu.below (Nat.le_refl _) hbel
   have nv2 := nv.below (Nat.le_refl _) hbel
   by_cases hlt : i < n
   ·
    have hlt' : (i : Int) < (n : Int) := by omega
    have hx0 := limb_lt nu.1 i
    have hy0 := limb_lt nv.1 i
    obtain ⟨x, hx⟩ : ∃ x, x = X.getD i 0 := ⟨_, rfl⟩
    obtain ⟨y, hy⟩ : ∃ y, y = Y.getD i 0 := ⟨_, rfl⟩
    have HX : Hid (x = X.getD i 0) := hx
    have HY : Hid (y = Y.getD i 0) := hy
    rw [← hx] at hx0
    rw [← hy] at hy0
    obtain ⟨hcz, hfz⟩ := how.cell (k := i) (by rw [HZ.out]; exact hlt)
    obtain ⟨z, hz⟩ : ∃ z, z = zs.getD i 0 := ⟨_, rfl⟩
    rw [← hz] at hcz
    have hset := how.set HZ.out i ((c + (x + y)) % 4294967296) (by omega)
    have hU : U ((c + (x + y)) % 4294967296) = .int .u32 (((c : Int) + ((x : Int) + (y : Int))) % 4294967296) := by simp [U]
    rw [hU] at hset
    have hbel2 : Below w1.heap.size w1 (wr.setCell ⟨g, i, none⟩ (.int .u32 (((c : Int) + ((x : Int) + (y : Int))) % 4294967296))) := hbel.setCell (by exact how.heap.1) _
    clear hx hy hz how hbel hU
    go_wp2_with fail
    refine (limb_any _ _ _ _ nu2 (by omega)).mono ?_
    rintro e w3 ⟨rfl, rfl⟩
    rw [Int.toNat_natCast, ← HX.out]
    go_wp2_with fail
    refine (limb_any _ _ _ _ nv2 (by omega)).mono ?_
    rintro e w4 ⟨rfl, rfl⟩
    rw [Int.toNat_natCast, ← HY.out]
    clear nu2 nv2
    go_wp2
    go_roundw
    case rel => exact ⟨i + 1, (c + (x + y)) / 4294967296, _, by omega, by go_num, by go_num, by omega, by rw [List.length_set]; exact HZ.out, hset, by rw [HX.out, HY.out]; exact add_step (by rw [HZ.out]; exact hlt) HI.out, hbel2⟩
    case measure => simp [intOf]; omega
   ·
    have hlt' : ¬ (i : Int) < (n : Int) := by omega
    have hin' : i = n := by omega
    have HV : Hid (val zs = val xs + val ys) := by
     show _ = _
     rw [HE.out]
     exact add_done nu.1 nv.1 HXL.out HYL.out HZ.out (by rw [← hin']; exact HI.out)
    clear hin' nu2 nv2
    go_wp2_with fail
    refine (trim_any _ _ _ how.num).mono ?_
    rintro e w3 ⟨⟨k3, hk3, hk4, rfl⟩, rfl⟩
    have how2 := how.cut hk3
    rw [hk4, HV.out] at how2
    clear how hk4
    go_wp2
    go_ret
    exact ⟨_, rfl, how2, hbel⟩
open Go.RowKit

theorem and_mask (a : Nat) (h : a < 18446744073709551616) : bits BinOp.and IntKind.u64 (a : Int) 4294967295 = ((a % 4294967296 : Nat) : Int) := by
 have := bits_and_u64_nat a 4294967295 h (by decide)
 rw [show ((4294967295 : Nat) : Int) = 4294967295 from rfl] at this
 rw [this]
 congr 1
 exact Nat.and_two_pow_sub_one_eq_mod a 32
theorem sub_wrap (P M b : Nat) (hP : P < 4294967296) (hM : M < 4294967296) (hb : b ≤ 1) : ∃ D1 D b' dl : Nat, IntKind.u64.wrap ((P : Int) - (M : Int)) = (D1 : Int) ∧ IntKind.u64.wrap ((D1 : Int) - (b : Int)) = (D : Int) ∧ D < 18446744073709551616 ∧
  ((D : Int) % 4294967296) = (dl : Int) ∧ ((D : Int) / 9223372036854775808) = (b' : Int) ∧ b' ≤ 1 ∧ dl < 4294967296 ∧ P + 4294967296 * b' = M + b + dl := by
 by_cases h1 : M ≤ P
 ·
  by_cases h2 : M + b ≤ P
  · exact ⟨P - M, P - M - b, 0, P - M - b, by rw [IntKind.wrap_u64]; omega, by rw [IntKind.wrap_u64]; omega, by omega, by omega, by omega, by omega, by omega, by omega⟩
  · refine ⟨0, 18446744073709551615, 1, 4294967295, by rw [IntKind.wrap_u64]; omega, by rw [IntKind.wrap_u64]; omega, by omega, by omega, by omega, by omega, by omega, by omega⟩
 · exact ⟨18446744073709551616 + P - M, 18446744073709551616 + P - M - b, 1, 4294967296 + P - M - b, by rw [IntKind.wrap_u64]; omega, by rw [IntKind.wrap_u64]; omega, by omega, by omega, by omega, by omega, by omega, by omega⟩
theorem mul_bound {x u : Nat} (hx : x < 4294967296) (hu : u < 4294967296) : x * u ≤ 18446744065119617025 := by
 have : x * u ≤ 4294967295 * 4294967295 := Nat.mul_le_mul (by omega) (by omega)
 omega

theorem val_zero_of {zs : List Nat} (h : ∀ j, zs.getD j 0 = 0) : val zs = 0 := by
 rw [val_congr zs.length (ys := []) (Nat.le_refl _) (by simp) (fun j => by rw [h j]; simp)]
 rfl
theorem mul_step {zs zs' X : List Nat} {i k c b : Nat} (hl : zs'.length = zs.length) (hik : i + k < zs.length) (hz : ∀ j, i + k ≤ j → zs.getD j 0 = 0) (hs : ∀ j, j < i ∨ i + k ≤ j → zs'.getD j 0 = zs.getD j 0)
  (h : low (zs'.drop i) k + 4294967296 ^ k * c = low (zs.drop i) k + val X * b) : val (zs'.set (i + k) c) = val zs + 4294967296 ^ i * (val X * b) := by
 have e1 : low (zs'.set (i + k) c) i = low zs i := by
  rw [low_set_ge _ _ _ _ (by omega)]
  exact low_congr fun j hj => hs j (Or.inl hj)
 have e2 : val ((zs'.set (i + k) c).drop i) = low (zs'.drop i) k + 4294967296 ^ k * c := by
  rw [drop_set_add, val_split _ k (by simp; omega), low_set_ge _ _ _ _ (Nat.le_refl _)]
  congr 2
  rw [List.drop_set, if_neg (by omega), Nat.sub_self, List.drop_drop, val_tail, getD_set_eq _ _ _ (by simp; omega)]
  rw [val_zero_of (zs := ((zs'.drop (i + k)).set 0 c).tail)]
  · simp
  ·
   intro j
   rw [getD_tail, getD_set_off _ _ _ _ (by omega), getD_drop, hs _ (Or.inr (by omega)), hz _ (by omega)]
 have e3 : val (zs.drop i) = low (zs.drop i) k := by
  rw [val_split _ k (by simp; omega), val_zero_of (zs := (zs.drop i).drop k), Nat.mul_zero, Nat.add_zero]
  intro j
  rw [getD_drop, getD_drop]
  exact hz _ (by omega)
 rw [val_split (zs'.set (i + k) c) i (by simp; omega), e1, e2, h, val_split zs i (by omega), e3, Nat.mul_add, Nat.add_assoc]
theorem mul_row {X Y : List Nat} {i v : Nat} (h : v = val X * low Y i) : v + 4294967296 ^ i * (val X * Y.getD i 0) = val X * low Y (i + 1) := by
 rw [h, low_succ, Nat.mul_add]
 congr 1
 rw [← Nat.mul_assoc, ← Nat.mul_assoc, Nat.mul_comm (4294967296 ^ i)]
theorem mul_zeros {zs zs' : List Nat} {i k c : Nat} (hz : ∀ j, i + k ≤ j → zs.getD j 0 = 0) (hs : ∀ j, j < i ∨ i + k ≤ j → zs'.getD j 0 = zs.getD j 0) : ∀ j, i + 1 + k ≤ j → (zs'.set (i + k) c).getD j 0 = 0 := fun j hj => by
 rw [getD_set_off _ _ _ _ (by omega), hs j (Or.inr (by omega)), hz j (by omega)]
open Go.RowKit

def Cells (w : World) (g : Nat) (zs : List Nat) : Prop := limbs zs ∧ w.heap[g]? = some (.cells (zs.map U).toArray 37 (0, 0))
theorem Own.cells {B g n : Nat} {w : World} {zs : List Nat} (h : Own B 37 w (.slice (some ⟨g, 0, none⟩) n n) zs) : Cells w g zs := by
 obtain ⟨_, hn, cur, h1, h2, h3, h4⟩ := h.heap
 refine ⟨h.1, ?_⟩
 rw [h1]
 congr 2
 rw [← h4, List.take_of_length_le (by rw [Array.length_toList]; omega)]
theorem Cells.own {B g : Nat} {w : World} {zs : List Nat} (h : Cells w g zs) (hB : B ≤ g) (hm : zs.length ≤ 9223372036854775807) : Own B 37 w (.slice (some ⟨g, 0, none⟩) zs.length zs.length) zs :=
 ⟨h.1, by simp, Or.inr ⟨g, zs.length, _, rfl, hB, h.2, Nat.le_refl _, hm, by simp, by simp only [Nat.mul_one]; exact List.take_of_length_le (by simp)⟩⟩
theorem Cells.cell {g k : Nat} {w : World} {zs : List Nat} (h : Cells w g zs) (hk : k < zs.length) : w.cell? ⟨g, k, none⟩ = some (.int .u32 ((zs.getD k 0 : Nat) : Int)) ∧ w.frozen? ⟨g, k, none⟩ = false := by
 refine ⟨?_, frozen_of_row w g k _ _ h.2⟩
 rw [cell_of_row w g k _ _ _ h.2]
 simp [List.getD, hk, U]
theorem Cells.set {g : Nat} {w : World} {zs : List Nat} (h : Cells w g zs) (k x : Nat) (hx : x < 4294967296) : Cells (w.setCell ⟨g, k, none⟩ (U x)) g (zs.set k x) := by
 refine ⟨limbs_set h.1 k x hx, ?_⟩
 rw [heap_setCell_same w g k _ _ _ h.2, List.map_set]
 simp
def TimesEnd (w0 : World) (g off n : Nat) (zs X : List Nat) (b : Nat) (e : Ending) (w' : World) : Prop :=
 ∃ (zs' : List Nat) (c : Nat), e = .returned (.int .u32 (c : Int)) ∧ c < 4294967296 ∧ zs'.length = zs.length ∧ Cells w' g zs' ∧ Below w0.heap.size w0 w' ∧
  (∀ j, j < off ∨ off + n ≤ j → zs'.getD j 0 = zs.getD j 0) ∧ low (zs'.drop off) n + 4294967296 ^ n * c = low (zs.drop off) n + val X * b
theorem top_sum {t c z : Nat} (ht : t ≤ 18446744065119617025) (hc : c < 4294967296) (hz : z < 4294967296) : c + (t + z) ≤ 18446744073709551615 := by omega

theorem addTimes_any (a : Value) (X zs : List Nat) (g off m cap : Nat) (bI : Int) (w0 w : World) (ha : Num w0 a X) (hg : w0.heap.size ≤ g) (hb : Below w0.heap.size w0 w) (hc : Cells w g zs)
  (hoff : off + X.length ≤ zs.length) (hm : X.length ≤ m) (hmc : m ≤ cap) (hcm : cap ≤ 9223372036854775807) (hb0 : 0 ≤ bI) (hb1 : bI < 4294967296) :
  Calls Tryz.prog 117 #[.slice (some ⟨g, off, none⟩) m cap, a, .int .u32 bI] w fun e w' => TimesEnd w0 g off X.length zs X bI.toNat e w' := by
 obtain ⟨b, rfl⟩ := Int.eq_ofNat_of_zero_le hb0
 rw [Int.toNat_natCast]
 obtain ⟨hbx, ao, capa, rfl, hca, hma, _, hcell⟩ := ha.open_
 obtain ⟨n, hn⟩ : ∃ n, n = X.length := ⟨_, rfl⟩
 rw [← hn] at hoff hm hca ⊢
 have HN : Hid (n = X.length) := hn
 have HC0 : Hid (Cells w g zs) := hc
 have HB0 : Hid (Below w0.heap.size w0 w) := hb
 clear hn ha hc hb hb0
 go_enter Tryz.func117, Tryz.ntmps117
 go_wp2
 go_loopw [7, 12] (fun cv t wr => ∃ (i c : Nat) (ys : List Nat), i ≤ n ∧ t = .int .i64 i ∧ cv = .int .u64 c ∧ c < 4294967296 ∧ ys.length = zs.length ∧ Cells wr g ys ∧ Below w0.heap.size w0 wr ∧ (∀ j, j < off ∨ off + i ≤ j → ys.getD j 0 = zs.getD j 0) ∧ low (ys.drop off) i + 4294967296 ^ i * c = low (zs.drop off) i + low X i * b) (fun _ t _ => n - (intOf t).toNat)
 case atStart => exact ⟨0, 0, zs, Nat.zero_le _, rfl, rfl, by omega, rfl, HC0.out, HB0.out, fun _ _ => rfl, by simp [low_zero]⟩
 case round =>
  obtain ⟨i, c, ys, hin, rfl, rfl, hc1, hyl, hcs, hbel, hout, hinv⟩ := hrel
  have HY : Hid (ys.length = zs.length) := hyl
  have HI : Hid (low (ys.drop off) i + 4294967296 ^ i * c = low (zs.drop off) i + low X i * b) := hinv
  have HO : Hid (∀ j, j < off ∨ off + i ≤ j → ys.getD j 0 = zs.getD j 0) := hout
  clear hyl hinv hout
  by_cases hlt : i < n
  ·
   have hlt' : (i : Int) < (n : Int) := by omega
   have hlm' : (i : Int) < (m : Int) := by omega
   obtain ⟨bb, bo, rfl, hx1⟩ := hcell i (by rw [← HN.out]; exact hlt)
   have cx : wr.cell? ⟨bb, bo + i, none⟩ = some (.int .u32 ((X.getD i 0 : Nat) : Int)) := by rw [hbel.cell (p := ⟨bb, bo + i, none⟩) (block_lt_of_cell hx1)]; exact hx1
   obtain ⟨cz, hfz⟩ := hcs.cell (k := off + i) (by rw [HY.out]; omega)
   have hx0 := limb_lt hbx i
   have hz0 := limb_lt hcs.1 (off + i)
   obtain ⟨x, hx⟩ : ∃ x, x = X.getD i 0 := ⟨_, rfl⟩
   obtain ⟨z, hz⟩ : ∃ z, z = ys.getD (off + i) 0 := ⟨_, rfl⟩
   rw [← hx] at cx hx0
   rw [← hz] at cz hz0
   have HX : Hid (x = X.getD i 0) := hx
   have HZ : Hid (z = ys.getD (off + i) 0) := hz
   have tb := mul_bound hx0 (show b < 4294967296 by omega)
   obtain ⟨t, ht⟩ : ∃ t, t = x * b := ⟨_, rfl⟩
   rw [← ht] at tb
   have et : (x : Int) * (b : Int) = (t : Int) := by rw [ht]; exact (Int.natCast_mul x b).symm
   have HT : Hid (t = x * b) := ht
   have hts := top_sum tb hc1 hz0
   have hset := hcs.set (off + i) ((c + (t + z)) % 4294967296) (by omega)
   have hU : U ((c + (t + z)) % 4294967296) = .int .u32 (((c : Int) + ((t : Int) + (z : Int))) % 4294967296) := by simp [U]
   have hbel2 := hbel.setCell (p := ⟨g, off + i, none⟩) (by exact hg) (U ((c + (t + z)) % 4294967296))
   rw [hU] at hset hbel2
   clear hx hz ht hcs hbel hU hcell hx1
   go_wp2
   go_roundw
   case rel =>
    refine ⟨i + 1, (c + (t + z)) / 4294967296, _, by omega, by go_num, by go_num, by omega, by rw [List.length_set]; exact HY.out, hset, hbel2, fun j hj => ?_, ?_⟩
    · rw [getD_set_off _ _ _ _ (by omega)]; exact HO.out j (by omega)
    ·
     rw [drop_set_add, HT.out, HX.out, HZ.out, ← getD_drop]
     refine times_step (by simp; rw [HY.out]; omega) HI.out ?_
     rw [getD_drop, getD_drop]
     exact HO.out _ (by omega)
   case measure => simp [intOf]; omega
  ·
   have hlt' : ¬ (i : Int) < (n : Int) := by omega
   have hin' : i = n := by omega
   have HE : Hid (∃ (zs' : List Nat) (c' : Nat), Ending.returned (.int .u32 (c : Int)) = .returned (.int .u32 (c' : Int)) ∧ c' < 4294967296 ∧ zs'.length = zs.length ∧ Cells wr g zs' ∧ Below w0.heap.size w0 wr ∧ (∀ j, j < off ∨ off + n ≤ j → zs'.getD j 0 = zs.getD j 0) ∧ low (zs'.drop off) n + 4294967296 ^ n * c' = low (zs.drop off) n + val X * b) := by
    refine ⟨ys, c, rfl, hc1, HY.out, hcs, hbel, by rw [← hin']; exact HO.out, ?_⟩
    have := HI.out
    rw [hin', low_all (xs := X) (by rw [HN.out]; omega)] at this
    exact this
   clear hin' hcs hbel hcell HI HO
   go_wp2
   go_ret
   exact HE.out
theorem mul_any (u v : Value) (xs ys : List Nat) (w : World) (hu : Num w u xs) (hv : Num w v ys) (hbx : xs.length ≤ 1099511627776) (hby : ys.length ≤ 1099511627776) :
  Calls Tryz.prog 87 #[u, v] w fun e w' => Made' w.heap.size w (lim (val xs * val ys)) e w' := by
 obtain ⟨ao, cap, rfl, hl1, hm1⟩ := hu.ao
 obtain ⟨bo, dap, rfl, hl2, hm2⟩ := hv.ao
 obtain ⟨i0, hi, hz0, hz1, hz2⟩ := info_parts Tryz.infoU
 go_enter Tryz.func87, Tryz.ntmps87
 go_wp2_with fail
 refine (trim_any _ _ _ hu).mono ?_
 rintro e w1 ⟨⟨k, hk, hk2, rfl⟩, rfl⟩
 go_wp2_with fail
 refine (trim_any _ _ _ hv).mono ?_
 rintro e w1 ⟨⟨m, hm, hm3, rfl⟩, rfl⟩
 simp only [cutTo]
 have hkl : k = (lim (val xs)).length := by rw [← hk2, List.length_take, Nat.min_eq_left hk]
 have hml : m = (lim (val ys)).length := by rw [← hm3, List.length_take, Nat.min_eq_left hm]
 have nu := hu.cut hk
 have nv := hv.cut hm
 rw [hk2] at nu
 rw [hm3] at nv
 simp only [cutTo] at nu nv
 have hle1 : k ≤ 1099511627776 := by omega
 have hle2 : m ≤ 1099511627776 := by omega
 have HE : Hid (val xs * val ys = val (lim (val xs)) * val (lim (val ys))) := by show _ = _; rw [val_lim, val_lim]
 generalize hX : lim (val xs) = X at *
 generalize hY : lim (val ys) = Y at *
 have HKL : Hid (k = X.length) := hkl
 have HML : Hid (m = Y.length) := hml
 clear hX hY hkl hml hu hv hk2 hm3 hk hm
 by_cases hk0 : k = 0
 ·
  have hkt : ((k : Int) == 0) = true := by simp [hk0]
  have hX0 : X = [] := List.eq_nil_of_length_eq_zero (by rw [← HKL.out]; exact hk0)
  have HR : Hid (Made' w1.heap.size w1 (lim (val xs * val ys)) (.returned (.slice none 0 0)) w1) := ⟨_, rfl, by rw [HE.out, hX0]; simp only [val, Nat.zero_mul]; exact Own.of_nil _ _ _, Below.refl _ _⟩
  clear hX0 hk0 nu nv
  go_wp2
  go_ret
  exact HR.out
 ·
  have hkt : ((k : Int) == 0) = false := by simp; omega
  by_cases hm0 : m = 0
  ·
   have hmt : ((m : Int) == 0) = true := by simp [hm0]
   have hY0 : Y = [] := List.eq_nil_of_length_eq_zero (by rw [← HML.out]; exact hm0)
   have HR : Hid (Made' w1.heap.size w1 (lim (val xs * val ys)) (.returned (.slice none 0 0)) w1) := ⟨_, rfl, by rw [HE.out, hY0]; simp only [val, Nat.mul_zero]; exact Own.of_nil _ _ _, Below.refl _ _⟩
   clear hY0 hk0 hm0 nu nv
   go_wp2
   go_ret
   exact HR.out
  ·
   have hmt : ((m : Int) == 0) = false := by simp; omega
   obtain ⟨n, hn⟩ : ∃ n, n = k + m := ⟨_, rfl⟩
   have HNN : Hid (n = k + m) := hn
   have hn1 : k < n := by omega
   have hn2 : m < n := by omega
   have hn3 : n ≤ 2199023255552 := by omega
   clear hn
   go_wp2_with (at_make; refine wpList_make_full _ rfl _ _ 23 rfl w1.heap.size 37 i0 (.int .u32 0) 1 Tryz.underlying23 hi hz0 hz1 _ _ _ _ n rfl rfl (by have := HNN.out; omega) (by have := HNN.out; omega) (by rw [hz2]; omega) (by unfold maxLen; omega) (Nat.le_refl _) ?_)
   intro w2 ho2 hg2
   have how := own_made ho2
   have hbel : Below w1.heap.size w1 w2 := (Below.refl w1.heap.size w1).grown hg2 (Nat.le_refl _) (by intro k hk; simp at hk)
   obtain ⟨g, hg⟩ : ∃ g, g = w1.heap.size := ⟨_, rfl⟩
   have HB : Hid (Below w1.heap.size w1 w2 ∧ Cells w2 g (List.replicate n 0)) := by rw [hg]; exact ⟨hbel, how.cells⟩
   have HG : Hid (w1.heap.size ≤ g) := by show _ ≤ _; omega
   rw [← hg]
   clear hg hbel how ho2 hg2
   go_wp2
   go_loopw [28] (fun t wr => ∃ (i : Nat) (zs : List Nat), i ≤ m ∧ t = .int .i64 i ∧ zs.length = n ∧ Cells wr g zs ∧ Below w1.heap.size w1 wr ∧ (∀ j, i + k ≤ j → zs.getD j 0 = 0) ∧ val zs = val X * low Y i) (fun t _ => m - (intOf t).toNat)
   case atStart => exact ⟨0, List.replicate n 0, Nat.zero_le _, rfl, by simp, HB.out.2, HB.out.1, fun j _ => by rw [List.getD_eq_getElem?_getD, List.getElem?_replicate]; split <;> rfl, by rw [low_zero, Nat.mul_zero]; exact val_zeros fun x hx => List.eq_of_mem_replicate hx⟩
   case round =>
    clear HB
    obtain ⟨i, zs, hin, rfl, hzl, hcs, hbel, hzero, hval⟩ := hrel
    have HZ : Hid (zs.length = n) := hzl
    have HV : Hid (val zs = val X * low Y i) := hval
    have HZZ : Hid (∀ j, i + k ≤ j → zs.getD j 0 = 0) := hzero
    clear hzl hval hzero
    by_cases hlt : i < m
    ·
     have hlt' : (i : Int) < (m : Int) := by omega
     have hik : i + k ≤ n := by have := HNN.out; omega
     have hik2 : i + k < n := by have := HNN.out; omega
     obtain ⟨hby_, bo', dap', ey, _, _, _, cy⟩ := nv.open_
     simp only [Value.slice.injEq] at ey
     obtain ⟨rfl, hq1, rfl⟩ := ey
     obtain ⟨bb, bof, rfl, hy1⟩ := cy i (by rw [← HML.out]; exact hlt)
     have cyy : wr.cell? ⟨bb, bof + i, none⟩ = some (.int .u32 ((Y.getD i 0 : Nat) : Int)) := by rw [hbel.cell (p := ⟨bb, bof + i, none⟩) (block_lt_of_cell hy1)]; exact hy1
     have hy0 := limb_lt nv.1 i
     obtain ⟨y, hy⟩ : ∃ y, y = Y.getD i 0 := ⟨_, rfl⟩
     rw [← hy] at cyy hy0
     have HY : Hid (y = Y.getD i 0) := hy
     clear hy hq1 cy hy1
     go_wp2_with fail
     refine (addTimes_any _ X zs g i k (n - i) _ w1 _ nu HG.out hbel hcs (by rw [HZ.out, ← HKL.out]; exact hik) (by rw [← HKL.out]; omega) (by omega) (by omega) (by omega) (by omega)).mono ?_
     rintro e w3 ⟨zs', c, rfl, hc, hzl', hcs', hbel', hs', hinv'⟩
     rw [← HKL.out] at hs' hinv'
     rw [Int.toNat_natCast] at hinv'
     have HS' : Hid (∀ j, j < i ∨ i + k ≤ j → zs'.getD j 0 = zs.getD j 0) := hs'
     have HI' : Hid (low (zs'.drop i) k + 4294967296 ^ k * c = low (zs.drop i) k + val X * y) := hinv'
     have HZ' : Hid (zs'.length = zs.length) := hzl'
     obtain ⟨hcz, hfz⟩ := hcs'.cell (k := i + k) (by rw [HZ'.out, HZ.out]; exact hik2)
     obtain ⟨z, hz⟩ : ∃ z, z = zs'.getD (i + k) 0 := ⟨_, rfl⟩
     rw [← hz] at hcz
     have hset := hcs'.set (i + k) c hc
     have hbel2 := hbel'.setCell (p := ⟨g, i + k, none⟩) (by exact HG.out) (U c)
     rw [show U c = .int .u32 (c : Int) from rfl] at hset hbel2
     have HR : Hid (val (zs'.set (i + k) c) = val X * low Y (i + 1)) := by
      show _ = _
      rw [mul_step HZ'.out (by rw [HZ.out]; exact hik2) HZZ.out HS'.out HI'.out, HY.out]
      exact mul_row HV.out
     have HR2 : Hid (∀ j, i + 1 + k ≤ j → (zs'.set (i + k) c).getD j 0 = 0) := mul_zeros HZZ.out HS'.out
     clear hcs hbel hs' hinv' hzl' hcs' hbel' hz HI' HS'
     go_wp2
     go_roundw
     case rel => exact ⟨i + 1, _, by omega, by go_num, by rw [List.length_set, HZ'.out]; exact HZ.out, hset, hbel2, HR2.out, HR.out⟩
     case measure => simp [intOf]; omega
    ·
     have hlt' : ¬ (i : Int) < (m : Int) := by omega
     have him : i = m := by omega
     have HF : Hid (val zs = val xs * val ys) := by
      show _ = _
      rw [HE.out, HV.out, him, low_all (by rw [← HML.out]; omega)]
     have how : Own w1.heap.size 37 wr (.slice (some ⟨g, 0, none⟩) n n) zs := by
      have := hcs.own HG.out (by rw [HZ.out]; omega)
      rw [HZ.out] at this
      exact this
     clear him hcs
     go_wp2_with fail
     refine (trim_any _ _ _ how.num).mono ?_
     rintro e w3 ⟨⟨k3, hk3, hk4, rfl⟩, rfl⟩
     have how2 := how.cut hk3
     rw [hk4, HF.out] at how2
     clear how hk4
     go_wp2
     go_ret
     exact ⟨_, rfl, how2, hbel⟩

theorem B_split {r : Nat} (hr : r ≤ 32) : 4294967296 = 2 ^ r * 2 ^ (32 - r) := by
 rw [← Nat.pow_add, show r + (32 - r) = 32 by omega]
theorem val_drop (X : List Nat) (hX : limbs X) (k : Nat) (hk : k ≤ X.length) : val (X.drop k) = val X / 4294967296 ^ k := by
 rw [val_split X k hk, Nat.add_mul_div_left _ _ (Nat.pow_pos (by decide)), Nat.div_eq_of_lt (low_lt hX k), Nat.zero_add]
theorem limb_digit {X : List Nat} (hX : limbs X) (k : Nat) : X.getD k 0 = val X / 4294967296 ^ k % 4294967296 := by
 rcases Nat.lt_or_ge k X.length with hk | hk
 · rw [← val_drop X hX k (by omega), val_tail, getD_drop, Nat.add_zero, Nat.add_mul_mod_self_left, Nat.mod_eq_of_lt (limb_lt hX k)]
 · rw [getD_ge hk, Nat.div_eq_of_lt (Nat.lt_of_lt_of_le (val_lt hX) (Nat.pow_le_pow_right (by decide) hk))]
theorem two_limbs {X : List Nat} (hX : limbs X) (k : Nat) : ∃ R, val X / 4294967296 ^ k = X.getD k 0 + 4294967296 * X.getD (k + 1) 0 + 4294967296 * 4294967296 * R := by
 refine ⟨val X / 4294967296 ^ (k + 1 + 1), ?_⟩
 have h1 := limb_digit hX k
 have h2 := limb_digit hX (k + 1)
 have e1 : val X / 4294967296 ^ (k + 1) = val X / 4294967296 ^ k / 4294967296 := by rw [Nat.pow_succ, Nat.div_div_eq_div_mul]
 have e2 : val X / 4294967296 ^ (k + 1 + 1) = val X / 4294967296 ^ (k + 1) / 4294967296 := by rw [Nat.pow_succ _ (k + 1), Nat.div_div_eq_div_mul]
 rw [h1, h2, e2, e1]
 omega
theorem drop_digit {X : List Nat} (hX : limbs X) (k off : Nat) (ho : off ≤ 32) : (X.getD k 0 + 4294967296 * X.getD (k + 1) 0) / 2 ^ off % 4294967296 = val X / 4294967296 ^ k / 2 ^ off % 4294967296 := by
 obtain ⟨R, hR⟩ := two_limbs hX k
 have hp : 0 < 2 ^ off := Nat.two_pow_pos off
 rw [hR]
 have e : 4294967296 * 4294967296 * R = 2 ^ off * (4294967296 * (2 ^ (32 - off) * R)) := by
  conv => lhs; rw [B_split ho]
  conv => rhs; rw [B_split ho]
  simp only [Nat.mul_comm, Nat.mul_left_comm]
 rw [e, Nat.add_mul_div_left _ _ hp, Nat.add_mul_mod_self_left]
theorem drop_step {Z zs : List Nat} {i off : Nat} (hZ : limbs Z) (ho : off ≤ 32) (hi : i < zs.length) (h : low zs i = val Z / 2 ^ off % 4294967296 ^ i) :
  low (zs.set i ((Z.getD i 0 + 4294967296 * Z.getD (i + 1) 0) / 2 ^ off % 4294967296)) (i + 1) = val Z / 2 ^ off % 4294967296 ^ (i + 1) := by
 rw [low_set_succ _ _ _ hi, h, drop_digit hZ i off ho, Nat.mod_pow_succ]
 congr 2
 rw [Nat.div_div_eq_div_mul, Nat.div_div_eq_div_mul, Nat.mul_comm]
theorem drop_done {Z zs : List Nat} {off : Nat} (hZ : limbs Z) (hl : zs.length = Z.length) (h : low zs zs.length = val Z / 2 ^ off % 4294967296 ^ zs.length) : val zs = val Z / 2 ^ off := by
 rw [low_all (Nat.le_refl _)] at h
 rw [h]
 apply Nat.mod_eq_of_lt
 rw [hl]
 exact Nat.lt_of_le_of_lt (Nat.div_le_self _ _) (val_lt hZ)
theorem or_lift {c t off : Nat} (ho : off ≤ 32) (hc : c < 2 ^ off) : c ||| (t * 2 ^ off % 4294967296) = c + t * 2 ^ off % 4294967296 := by
 have e : t * 2 ^ off % 4294967296 = t % 2 ^ (32 - off) * 2 ^ off := by
  conv => lhs; rw [B_split ho, Nat.mul_comm t]
  rw [Nat.mul_mod_mul_left, Nat.mul_comm]
 rw [e, Nat.or_comm]
 have := Nat.shiftLeft_add_eq_or_of_lt hc (t % 2 ^ (32 - off))
 rw [Nat.shiftLeft_eq] at this
 omega
theorem lift_fits {c x off : Nat} (ho : off ≤ 32) (hc : c < 2 ^ off) : c + x * 2 ^ off % 4294967296 < 4294967296 := by
 have e : x * 2 ^ off % 4294967296 = x % 2 ^ (32 - off) * 2 ^ off := by
  conv => lhs; rw [B_split ho, Nat.mul_comm x]
  rw [Nat.mul_mod_mul_left, Nat.mul_comm]
 rw [e]
 have h1 : x % 2 ^ (32 - off) < 2 ^ (32 - off) := Nat.mod_lt _ (Nat.two_pow_pos _)
 have h2 : (x % 2 ^ (32 - off) + 1) * 2 ^ off ≤ 2 ^ (32 - off) * 2 ^ off := Nat.mul_le_mul_right _ h1
 rw [Nat.mul_comm (2 ^ (32 - off)), ← B_split ho, Nat.add_mul] at h2
 omega
theorem lift_high {x off : Nat} (hx : x < 4294967296) : x * 2 ^ off / 4294967296 < 2 ^ off := by
 apply Nat.div_lt_of_lt_mul
 exact Nat.mul_lt_mul_of_pos_right hx (Nat.two_pow_pos off)
theorem lift_step {X zs : List Nat} {i s off c : Nat} (hi : i + s + 1 < zs.length) (h : low zs (i + s) + 4294967296 ^ (i + s) * c = 4294967296 ^ s * (low X i * 2 ^ off)) (y : Nat) :
  low ((zs.set (i + s) (c + X.getD i 0 * 2 ^ off % 4294967296)).set (i + s + 1) y) (i + 1 + s) + 4294967296 ^ (i + 1 + s) * (X.getD i 0 * 2 ^ off / 4294967296) = 4294967296 ^ s * (low X (i + 1) * 2 ^ off) := by
 rw [show i + 1 + s = i + s + 1 by omega, low_set_ge _ _ _ _ (Nat.le_refl _), low_set_succ _ _ _ (by omega), low_succ, Nat.pow_succ]
 have e := carry_eq (4294967296 ^ (i + s)) (X.getD i 0 * 2 ^ off)
 have e2 : 4294967296 ^ (i + s) * (X.getD i 0 * 2 ^ off) = 4294967296 ^ s * (4294967296 ^ i * X.getD i 0 * 2 ^ off) := by
  rw [Nat.pow_add]
  simp only [Nat.mul_assoc, Nat.mul_comm, Nat.mul_left_comm]
 rw [Nat.mul_add, Nat.add_mul, Nat.mul_add]
 omega
theorem lift_done {X zs : List Nat} {k s off c : Nat} (hk : k = X.length) (hl : zs.length = k + s + 1) (hc : zs.getD (k + s) 0 = c) (h : low zs (k + s) + 4294967296 ^ (k + s) * c = 4294967296 ^ s * (low X k * 2 ^ off)) : val zs = val X * 2 ^ (32 * s + off) := by
 have e := low_succ zs (k + s)
 rw [low_all (by omega), hc, h, low_all (by omega)] at e
 rw [e, Nat.pow_add, show 2 ^ (32 * s) = 4294967296 ^ s by rw [Nat.pow_mul]]
 simp only [Nat.mul_assoc, Nat.mul_comm, Nat.mul_left_comm]
theorem val_set_add (zs : List Nat) (k d : Nat) (hk : k < zs.length) : val (zs.set k (zs.getD k 0 + d)) = val zs + 4294967296 ^ k * d := by
 have e1 := val_split (zs.set k (zs.getD k 0 + d)) (k + 1) (by simp; omega)
 have e2 := val_split zs (k + 1) (by omega)
 rw [low_set_succ _ _ _ hk, List.drop_set_of_lt (by omega)] at e1
 rw [low_succ] at e2
 rw [e1, e2, Nat.mul_add]
 omega
def shl (v : Nat) (n : Int) : Nat := if 0 ≤ n then v * 2 ^ n.toNat else v / 2 ^ (-n).toNat
theorem bit_digit {xs : List Nat} (hx : limbs xs) (k r : Nat) (hr : r < 32) : xs.getD k 0 / 2 ^ r % 2 = val xs / 2 ^ (32 * k + r) % 2 := by
 rw [limb_digit hx k, Nat.pow_add, Nat.pow_mul, show (2 : Nat) ^ 32 = 4294967296 from rfl, ← Nat.div_div_eq_div_mul]
 generalize val xs / 4294967296 ^ k = Y
 have hd := Nat.div_add_mod Y 4294967296
 conv => rhs; rw [← hd]
 generalize Y / 4294967296 = q
 rw [show 4294967296 * q = 2 ^ r * (2 * (2 ^ (31 - r) * q)) by
  conv => lhs; rw [show (4294967296 : Nat) = 2 ^ r * (2 * 2 ^ (31 - r)) by rw [← Nat.pow_succ', ← Nat.pow_add, show r + (31 - r + 1) = 32 by omega]]
  simp only [Nat.mul_assoc]]
 rw [Nat.add_comm, Nat.add_mul_div_left _ _ (Nat.two_pow_pos r), Nat.add_mul_mod_self_left]
theorem pow_place (i : Nat) : 2 ^ i = 4294967296 ^ (i / 32) * 2 ^ (i % 32) := by
 rw [show (4294967296 : Nat) = 2 ^ 32 from rfl, ← Nat.pow_mul, ← Nat.pow_add]
 congr 1
 omega
open Go.RowKit

def LiftEnd (w : World) (L v : Nat) (en : Ending) (w' : World) : Prop :=
 ∃ zs : List Nat, en = .returned (.slice (some ⟨w.heap.size, 0, none⟩) L L) ∧ zs.length = L ∧ Cells w' w.heap.size zs ∧ val zs = v ∧ Below w.heap.size w w'
theorem getD_zeros (n j : Nat) : (List.replicate n 0).getD j 0 = 0 := by rw [List.getD_eq_getElem?_getD, List.getElem?_replicate]; split <;> rfl

theorem lift_any (v : Value) (X : List Nat) (n : Nat) (w : World) (h : Num w v X) (hlen : X.length ≤ 549755813888) (hn : n ≤ 1000000) :
  Calls Tryz.prog 146 #[v, .int .i64 (n : Int)] w fun e w' => LiftEnd w (X.length + n / 32 + 1) (val X * 2 ^ n) e w' := by
 obtain ⟨hbx, ao, cap, rfl, hca, hma, _, hcell⟩ := h.open_
 obtain ⟨i0, hi, hz0, hz1, hz2⟩ := info_parts Tryz.infoU
 obtain ⟨k, hk⟩ : ∃ k, k = X.length := ⟨_, rfl⟩
 obtain ⟨s, hs⟩ : ∃ s, s = n / 32 := ⟨_, rfl⟩
 obtain ⟨off, ho⟩ : ∃ off, off = n % 32 := ⟨_, rfl⟩
 have e1 : (n : Int) / 32 = (s : Int) := by omega
 have e2 : (n : Int) % 32 = (off : Int) := by omega
 have hs1 : s ≤ 31250 := by omega
 have ho1 : off ≤ 31 := by omega
 have HE : Hid (val X * 2 ^ n = val X * 2 ^ (32 * s + off)) := by show _ = _; rw [show n = 32 * s + off by omega]
 rw [← hs]
 rw [← hk] at hlen hca ⊢
 have HK : Hid (k = X.length) := hk
 clear hk hs ho h
 obtain ⟨L, hL⟩ : ∃ L, L = k + s + 1 := ⟨_, rfl⟩
 have HL : Hid (L = k + s + 1) := hL
 have hL1 : k + s < L := by omega
 have hL2 : L ≤ 1099511627776 := by omega
 rw [← hL]
 clear hL
 go_enter Tryz.func146, Tryz.ntmps146
 go_wp2_with (at_make; refine wpList_make_full _ rfl _ _ 23 rfl w.heap.size 37 i0 (.int .u32 0) 1 Tryz.underlying23 hi hz0 hz1 _ _ _ _ L rfl rfl (by have := HL.out; omega) (by have := HL.out; omega) (by rw [hz2]; omega) (by unfold maxLen; omega) (Nat.le_refl _) ?_)
 intro w2 ho2 hg2
 have how := own_made ho2
 have hbel : Below w.heap.size w w2 := (Below.refl w.heap.size w).grown hg2 (Nat.le_refl _) (by intro k hk; simp at hk)
 obtain ⟨g, hg⟩ : ∃ g, g = w.heap.size := ⟨_, rfl⟩
 have HB : Hid (Below w.heap.size w w2 ∧ Cells w2 g (List.replicate L 0)) := by rw [hg]; exact ⟨hbel, how.cells⟩
 have HG : Hid (g = w.heap.size) := hg
 rw [← hg]
 clear hg hbel how ho2 hg2
 go_wp2
 go_loopw [23] (fun t wr => ∃ (i : Nat) (zs : List Nat), i ≤ k ∧ t = .int .i64 i ∧ zs.length = L ∧ Cells wr g zs ∧ Below w.heap.size w wr ∧ zs.getD (i + s) 0 < 2 ^ off ∧ (∀ j, i + s < j → zs.getD j 0 = 0) ∧ low zs (i + s) + 4294967296 ^ (i + s) * zs.getD (i + s) 0 = 4294967296 ^ s * (low X i * 2 ^ off)) (fun t _ => k - (intOf t).toNat)
 case atStart =>
  refine ⟨0, List.replicate L 0, Nat.zero_le _, rfl, by simp, HB.out.2, HB.out.1, by rw [getD_zeros]; exact Nat.two_pow_pos _, fun j _ => getD_zeros _ _, ?_⟩
  rw [getD_zeros, low_zero]
  simp only [Nat.zero_mul, Nat.mul_zero, Nat.add_zero]
  exact val_zeros fun x hx => List.eq_of_mem_replicate (List.mem_of_mem_take hx)
 case round =>
  clear HB
  obtain ⟨i, zs, hin, rfl, hzl, hcs, hbel, hc, hzero, hinv⟩ := hrel
  have HZ : Hid (zs.length = L) := hzl
  have HZZ : Hid (∀ j, i + s < j → zs.getD j 0 = 0) := hzero
  have HI : Hid (low zs (i + s) + 4294967296 ^ (i + s) * zs.getD (i + s) 0 = 4294967296 ^ s * (low X i * 2 ^ off)) := hinv
  clear hzl hzero hinv
  by_cases hlt : i < k
  ·
   have hlt' : (i : Int) < (k : Int) := by omega
   have hi1 : i + s < L := by omega
   have hi2 : i + s + 1 < L := by omega
   obtain ⟨bb, bo, rfl, hx1⟩ := hcell i (by rw [← HK.out]; exact hlt)
   have cx : wr.cell? ⟨bb, bo + i, none⟩ = some (.int .u32 ((X.getD i 0 : Nat) : Int)) := by rw [hbel.cell (p := ⟨bb, bo + i, none⟩) (block_lt_of_cell hx1)]; exact hx1
   have hx0 := limb_lt hbx i
   obtain ⟨x, hx⟩ : ∃ x, x = X.getD i 0 := ⟨_, rfl⟩
   rw [← hx] at cx hx0
   have HX : Hid (x = X.getD i 0) := hx
   obtain ⟨c0, hf0⟩ := hcs.cell (k := i + s) (by rw [HZ.out]; exact hi1)
   obtain ⟨c1, hf1⟩ := hcs.cell (k := i + s + 1) (by rw [HZ.out]; exact hi2)
   rw [HZZ.out (i + s + 1) (by omega)] at c1
   obtain ⟨c, hcc⟩ : ∃ c, c = zs.getD (i + s) 0 := ⟨_, rfl⟩
   rw [← hcc] at c0 hc
   have HC : Hid (c = zs.getD (i + s) 0) := hcc
   have tb : x * 2 ^ off ≤ 18446744065119617025 := mul_bound hx0 (Nat.lt_of_le_of_lt (Nat.pow_le_pow_right (by decide) ho1) (by decide))
   have ho32 : off ≤ 32 := by omega
   have hor := or_lift (t := x) ho32 hc
   have hfit := lift_fits (x := x) ho32 hc
   have hhi := lift_high (off := off) hx0
   obtain ⟨t, ht⟩ : ∃ t, t = x * 2 ^ off := ⟨_, rfl⟩
   have et : (x : Int) * 2 ^ off = (t : Int) := by rw [ht]; simp
   have HT : Hid (t = x * 2 ^ off) := ht
   rw [← ht] at tb hor hfit hhi
   have hc32 : c < 4294967296 := by omega
   have eor : bits BinOp.or IntKind.u32 (c : Int) ((t : Int) % 4294967296) = ((c + t % 4294967296 : Nat) : Int) := by
    have := u32_or_nat c (t % 4294967296) hc32 (by omega)
    rw [hor] at this
    exact this
   have hset := (hcs.set (i + s) (c + t % 4294967296) hfit).set (i + s + 1) (t / 4294967296) (by omega)
   have hbel2 := (hbel.setCell (p := ⟨g, i + s, none⟩) (by show _ ≤ g; rw [HG.out]; exact Nat.le_refl _) (U (c + t % 4294967296))).setCell (p := ⟨g, i + s + 1, none⟩) (by show _ ≤ g; rw [HG.out]; exact Nat.le_refl _) (U (t / 4294967296))
   have HHI : Hid (t / 4294967296 < 2 ^ off) := hhi
   have HCL : Hid (c < 2 ^ off) := hc
   clear hx hcc ht hcs hbel hx1 hcell hor hhi hc
   rw [show U (t / 4294967296) = .int .u32 ((t : Int) / 4294967296) by simp [U], show U (c + t % 4294967296) = .int .u32 ((c : Int) + (t : Int) % 4294967296) by simp [U]] at hset hbel2
   rw [Int.natCast_add, Int.natCast_emod] at eor
   go_wp2
   go_roundw
   case rel =>
    refine ⟨i + 1, _, by omega, by go_num, by rw [List.length_set, List.length_set]; exact HZ.out, hset, hbel2, ?_, fun j hj => ?_, ?_⟩
    · rw [show i + 1 + s = i + s + 1 by omega, getD_set_eq _ _ _ (by rw [List.length_set, HZ.out]; exact hi2)]; exact HHI.out
    · rw [getD_set_off _ _ _ _ (by omega), getD_set_off _ _ _ _ (by omega)]; exact HZZ.out j (by omega)
    ·
     conv => lhs; rw [show i + 1 + s = i + s + 1 by omega]
     rw [getD_set_eq _ _ _ (by rw [List.length_set, HZ.out]; exact hi2), HT.out, HX.out, show i + s + 1 = i + 1 + s by omega]
     have := lift_step (X := X) (off := off) (c := c) (by rw [HZ.out]; exact hi2) (by rw [HC.out]; exact HI.out) (X.getD i 0 * 2 ^ off / 4294967296)
     rw [show i + s + 1 = i + 1 + s by omega] at this
     exact this
   case measure => simp [intOf]; omega
  ·
   have hlt' : ¬ (i : Int) < (k : Int) := by omega
   have hik : i = k := by omega
   have HR : Hid (LiftEnd w L (val X * 2 ^ n) (.returned (.slice (some ⟨g, 0, none⟩) L L)) wr) := by
    have hI := HI.out
    rw [hik] at hI
    exact ⟨zs, by rw [HG.out], HZ.out, by rw [← HG.out]; exact hcs, by rw [HE.out]; exact lift_done HK.out (by rw [HZ.out]; exact HL.out) rfl hI, hbel⟩
   clear hik hcs hbel hc hcell
   go_wp2
   go_ret
   exact HR.out
theorem or_limbs {x y : Nat} (hx : x < 4294967296) (hy : y < 4294967296) : bits BinOp.or IntKind.u64 (x : Int) ((y : Int) * 4294967296) = ((x + 4294967296 * y : Nat) : Int) := or_high x y hx hy

theorem drop_any (v : Value) (X : List Nat) (n : Nat) (w : World) (h : Num w v X) (hlen : X.length ≤ 549755813888) (hn : n ≤ 1000000) :
  Calls Tryz.prog 150 #[v, .int .i64 (n : Int)] w fun e w' => Made' w.heap.size w (lim (val X / 2 ^ n)) e w' := by
 obtain ⟨hbx, ao, cap, rfl, hca, hma, _, _⟩ := h.open_
 obtain ⟨i0, hi, hz0, hz1, hz2⟩ := info_parts Tryz.infoU
 obtain ⟨k, hk⟩ : ∃ k, k = X.length := ⟨_, rfl⟩
 obtain ⟨s, hs⟩ : ∃ s, s = n / 32 := ⟨_, rfl⟩
 obtain ⟨off, ho⟩ : ∃ off, off = n % 32 := ⟨_, rfl⟩
 have e1 : (n : Int) / 32 = (s : Int) := by omega
 have e2 : (n : Int) % 32 = (off : Int) := by omega
 have hs1 : s ≤ 31250 := by omega
 have ho1 : off ≤ 31 := by omega
 have HE : Hid (val X / 2 ^ n = val X / 4294967296 ^ s / 2 ^ off) := by
  show _ = _
  rw [Nat.div_div_eq_div_mul, show n = 32 * s + off by omega, Nat.pow_add, Nat.pow_mul]
 rw [← hk] at hlen hca h ⊢
 have HK : Hid (k = X.length) := hk
 clear hk hs ho
 by_cases hsk : k ≤ s
 ·
  have hge : (k : Int) ≤ (s : Int) := by omega
  have HR : Hid (Made' w.heap.size w (lim (val X / 2 ^ n)) (.returned (.slice none 0 0)) w) := by
   refine ⟨_, rfl, ?_, Below.refl _ _⟩
   rw [HE.out, Nat.div_eq_of_lt (Nat.lt_of_lt_of_le (val_lt hbx) (Nat.pow_le_pow_right (by decide) (by rw [← HK.out]; exact hsk))), Nat.zero_div]
   exact Own.of_nil _ _ _
  clear h
  go_enter Tryz.func150, Tryz.ntmps150
  go_wp2
  go_ret
  exact HR.out
 ·
  have hge : ¬ (k : Int) ≤ (s : Int) := by omega
  obtain ⟨L, hL⟩ : ∃ L, L = k - s := ⟨_, rfl⟩
  have HL : Hid (L = k - s) := hL
  have hL2 : L ≤ 1099511627776 := by omega
  have hLs : L + s = k := by omega
  have HLS : Hid (L + s = k) := hLs
  clear hL hLs
  go_enter Tryz.func150, Tryz.ntmps150
  go_wp2_with (at_make; refine wpList_make_full _ rfl _ _ 23 rfl w.heap.size 37 i0 (.int .u32 0) 1 Tryz.underlying23 hi hz0 hz1 _ _ _ _ L rfl rfl (by have := HL.out; omega) (by have := HL.out; omega) (by rw [hz2]; omega) (by unfold maxLen; omega) (Nat.le_refl _) ?_)
  intro w2 ho2 hg2
  have how := own_made ho2
  have hbel : Below w.heap.size w w2 := (Below.refl w.heap.size w).grown hg2 (Nat.le_refl _) (by intro k hk; simp at hk)
  obtain ⟨g, hg⟩ : ∃ g, g = w.heap.size := ⟨_, rfl⟩
  have HB : Hid (Below w.heap.size w w2 ∧ Cells w2 g (List.replicate L 0)) := by rw [hg]; exact ⟨hbel, how.cells⟩
  have HG : Hid (g = w.heap.size) := hg
  rw [← hg]
  clear hg hbel how ho2 hg2
  go_wp2
  go_loopw [25] (fun t wr => ∃ (i : Nat) (zs : List Nat), i ≤ L ∧ t = .int .i64 i ∧ zs.length = L ∧ Cells wr g zs ∧ Below w.heap.size w wr ∧ low zs i = val (X.drop s) / 2 ^ off % 4294967296 ^ i) (fun t _ => L - (intOf t).toNat)
  case atStart => exact ⟨0, List.replicate L 0, Nat.zero_le _, rfl, by simp, HB.out.2, HB.out.1, by rw [low_zero, Nat.pow_zero, Nat.mod_one]⟩
  case round =>
   clear HB
   obtain ⟨i, zs, hin, rfl, hzl, hcs, hbel, hinv⟩ := hrel
   have HZ : Hid (zs.length = L) := hzl
   have HI : Hid (low zs i = val (X.drop s) / 2 ^ off % 4294967296 ^ i) := hinv
   clear hzl hinv
   by_cases hlt : i < L
   ·
    have hlt' : (i : Int) < (L : Int) := by omega
    have nu2 := h.below (Nat.le_refl _) hbel
    have hx0 := limb_lt hbx (i + s)
    have hy0 := limb_lt hbx (i + s + 1)
    obtain ⟨x, hx⟩ : ∃ x, x = X.getD (i + s) 0 := ⟨_, rfl⟩
    obtain ⟨y, hy⟩ : ∃ y, y = X.getD (i + s + 1) 0 := ⟨_, rfl⟩
    have HX : Hid (x = X.getD (i + s) 0) := hx
    have HY : Hid (y = X.getD (i + s + 1) 0) := hy
    have EX : Hid (X.getD ((i : Int) + (s : Int)).toNat 0 = x) := by show _ = _; rw [hx]; congr 1
    have EY : Hid (X.getD ((i : Int) + (s : Int) + 1).toNat 0 = y) := by show _ = _; rw [hy]; congr 1
    rw [← hx] at hx0
    rw [← hy] at hy0
    obtain ⟨cz, hfz⟩ := hcs.cell (k := i) (by rw [HZ.out]; exact hlt)
    obtain ⟨z, hz⟩ : ∃ z, z = zs.getD i 0 := ⟨_, rfl⟩
    rw [← hz] at cz
    have eor := or_limbs hx0 hy0
    obtain ⟨T, hT⟩ : ∃ T, T = x + 4294967296 * y := ⟨_, rfl⟩
    rw [← hT] at eor
    have hT1 : T < 18446744073709551616 := by omega
    obtain ⟨D, hD⟩ : ∃ D, D = T / 2 ^ off := ⟨_, rfl⟩
    have eD : (T : Int) / 2 ^ off = (D : Int) := by rw [hD]; simp
    have hD1 : D < 18446744073709551616 := by rw [hD]; exact Nat.lt_of_le_of_lt (Nat.div_le_self _ _) hT1
    have HD : Hid (D = (X.getD (i + s) 0 + 4294967296 * X.getD (i + s + 1) 0) / 2 ^ off) := by show _ = _; rw [hD, hT, hx, hy]
    have hset := hcs.set i (D % 4294967296) (by omega)
    have hbel2 := hbel.setCell (p := ⟨g, i, none⟩) (by show _ ≤ g; rw [HG.out]; exact Nat.le_refl _) (U (D % 4294967296))
    rw [show U (D % 4294967296) = .int .u32 ((D : Int) % 4294967296) by simp [U]] at hset hbel2
    clear hx hy hz hT hD hcs hbel
    go_wp2_with fail
    refine (limb_any _ _ _ _ nu2 (by omega)).mono ?_
    rintro e w3 ⟨rfl, rfl⟩
    rw [EX.out]
    go_wp2_with fail
    refine (limb_any _ _ _ _ nu2 (by omega)).mono ?_
    rintro e w4 ⟨rfl, rfl⟩
    rw [EY.out]
    clear nu2
    go_wp2
    go_roundw
    case rel =>
     refine ⟨i + 1, _, by omega, by go_num, by rw [List.length_set]; exact HZ.out, hset, hbel2, ?_⟩
     have := drop_step (limbs_drop hbx s) (show off ≤ 32 by omega) (by rw [HZ.out]; exact hlt) HI.out
     rw [getD_drop, getD_drop, show s + i = i + s by omega, show s + (i + 1) = i + s + 1 by omega, ← HD.out] at this
     exact this
    case measure => simp [intOf]; omega
   ·
    have hlt' : ¬ (i : Int) < (L : Int) := by omega
    have hiL : i = L := by omega
    have how : Own w.heap.size 37 wr (.slice (some ⟨g, 0, none⟩) L L) zs := by
     have := hcs.own (B := w.heap.size) (by rw [HG.out]; exact Nat.le_refl _) (by rw [HZ.out]; omega)
     rw [HZ.out] at this
     exact this
    have HV : Hid (val zs = val X / 2 ^ n) := by
     show _ = _
     have hI := HI.out
     rw [hiL, ← HZ.out] at hI
     rw [HE.out, ← val_drop X hbx s (by rw [← HK.out]; omega)]
     exact drop_done (limbs_drop hbx s) (by rw [HZ.out, List.length_drop, ← HK.out]; exact HL.out) hI
    clear hiL hcs
    go_wp2_with fail
    refine (trim_any _ _ _ how.num).mono ?_
    rintro e w3 ⟨⟨k3, hk3, hk4, rfl⟩, rfl⟩
    have how2 := how.cut hk3
    rw [hk4, HV.out] at how2
    clear how hk4
    go_wp2
    go_ret
    exact ⟨_, rfl, how2, hbel⟩
open Go.RowKit

theorem lim_short {w : World} {v : Value} {xs : List Nat} (h : Num w v xs) : (lim (val xs)).length ≤ xs.length := by
 have h1 := lim_len_le (val_lt h.1)
 exact h1
theorem val_snoc (zs : List Nat) (d : Nat) : val (zs ++ [d]) = val zs + 4294967296 ^ zs.length * d := by
 rw [val_append]; simp [val]
theorem limbs_snoc {zs : List Nat} (h : limbs zs) {d : Nat} (hd : d < 4294967296) : limbs (zs ++ [d]) := fun x hx => by
 rcases List.mem_append.1 hx with h1 | h1
 · exact h x h1
 · simp at h1; omega
theorem push_own {B : Nat} {w w' wr : World} {v v' : Value} {zs : List Nat} {d : Nat} {o : Obj} (hv : Own B 37 wr v zs) (hbel : Below B w wr) (hB : B ≤ wr.heap.size) (hd : d < 4294967296)
  (ho : w'.ownsRow B 37 1 v' (zs.length + 1) (zs.map U ++ [U d])) (hg : (wr.alloc o).grownBy w' v.ownBlock) :
  Own B 37 w' v' (zs ++ [d]) ∧ Below B w w' ∧ B ≤ w'.heap.size := by
 have hsz : (wr.alloc o).heap.size = wr.heap.size + 1 := by simp
 have hbel2 : Below B (wr.alloc o) w' := below_of_grown hg (by omega) (fun g e => (hv.block g e).1)
 refine ⟨⟨limbs_snoc hv.1 hd, ?_⟩, (hbel.alloc hB o).trans hbel2, by have := hbel2.size; omega⟩
 rw [List.length_append, List.map_append]
 exact ho
theorem Own.sl {B e : Nat} {w : World} {v : Value} {xs : List Nat} (h : Own B e w v xs) : ∃ ao k cap, v = .slice ao k cap := by
 obtain ⟨ao, cap, h, _⟩ := h.ao
 exact ⟨ao, _, cap, h⟩
open Go.RowKit

open Go.RowKit

def bl (n : Nat) : Nat := if n = 0 then 0 else n.log2 + 1
theorem bl_zero : bl 0 = 0 := rfl
theorem bl_unique {n m : Nat} (h1 : 2 ^ m ≤ n) (h2 : n < 2 ^ (m + 1)) : bl n = m + 1 := by
 have h0 : n ≠ 0 := by have := Nat.two_pow_pos m; omega
 have a := (Nat.le_log2 h0).2 h1
 have b := (Nat.log2_lt h0).2 h2
 unfold bl
 rw [if_neg h0]
 omega
theorem bl_bounds {n : Nat} (h : n ≠ 0) : ∃ m, bl n = m + 1 ∧ 2 ^ m ≤ n ∧ n < 2 ^ (m + 1) :=
 ⟨n.log2, by unfold bl; rw [if_neg h], (Nat.le_log2 h).1 (Nat.le_refl _), (Nat.log2_lt h).1 (Nat.lt_succ_self _)⟩
theorem bl_half {t : Nat} (h : t ≠ 0) : bl t = 1 + bl (t / 2) := by
 by_cases h1 : t = 1
 · subst h1; decide
 ·
  obtain ⟨m, e, h2, h3⟩ := bl_bounds (n := t / 2) (by omega)
  rw [e, bl_unique (m := m + 1)]
  · omega
  · rw [Nat.pow_succ]; omega
  · rw [Nat.pow_succ]; omega
theorem pow_limb (k : Nat) : 4294967296 ^ k = 2 ^ (32 * k) := by rw [Nat.pow_mul]
theorem bl_top {r k t : Nat} (hr : r < 4294967296 ^ k) (ht : t ≠ 0) : bl (r + 4294967296 ^ k * t) = 32 * k + bl t := by
 obtain ⟨m, e, h2, h3⟩ := bl_bounds ht
 rw [e]
 refine bl_unique (m := 32 * k + m) ?_ ?_
 ·
  rw [Nat.pow_add, ← pow_limb]
  have := Nat.mul_le_mul_left (4294967296 ^ k) h2
  omega
 ·
  rw [show 32 * k + m + 1 = 32 * k + (m + 1) by omega, Nat.pow_add, ← pow_limb]
  have h4 : t + 1 ≤ 2 ^ (m + 1) := h3
  have := Nat.mul_le_mul_left (4294967296 ^ k) h4
  rw [Nat.mul_add, Nat.mul_one] at this
  omega
theorem bl_bitLen : ∀ (x : Nat), x < 18446744073709551616 → Lib.bitLen x = bl x := by
 intro x
 induction x using Nat.strongRecOn with
 | ind x ih =>
  intro hx
  by_cases h0 : x = 0
  · subst h0; rfl
  · rw [Lib.bitLen_half x h0 hx, ih (x / 2) (by omega) (by omega), bl_half h0]
theorem bl_le32 {x : Nat} (h : x < 4294967296) : bl x ≤ 32 := by
 rw [← bl_bitLen x (by omega)]
 exact Lib.bitLen_le x 32 (by omega) h
theorem lim_last {n : Nat} (h : n ≠ 0) : ∃ k t, (lim n).length = k + 1 ∧ (lim n).getD k 0 = t ∧ t ≠ 0 ∧ t < 4294967296 ∧ bl n = 32 * k + bl t := by
 have hne : lim n ≠ [] := by rw [lim_pos h]; simp
 obtain ⟨k, hk⟩ : ∃ k, (lim n).length = k + 1 := ⟨(lim n).length - 1, by have := List.length_pos_iff.2 hne; omega⟩
 have hs := low_succ (lim n) k
 rw [low_all (by omega), val_lim] at hs
 have hlo := low_lt (limbs_lim n) k
 have ht : (lim n).getD k 0 ≠ 0 := by
  intro h0
  rw [h0, Nat.mul_zero, Nat.add_zero] at hs
  have := lim_len_le (k := k) (n := n) (by omega)
  omega
 refine ⟨k, _, hk, rfl, ht, limb_lt (limbs_lim n) k, ?_⟩
 conv => lhs; rw [hs]
 exact bl_top hlo ht
theorem len32_any (x : Int) (w : World) (h0 : 0 ≤ x) (h1 : x ≤ 4294967295) :
  Calls Tryz.prog 105 #[.int .u32 x] w fun e w' => e = .returned (.int .i64 (bl x.toNat : Nat)) ∧ w' = w := by
 rw [← bl_bitLen x.toNat (by omega)]
 by_cases c1 : x < 256
 ·
  have i0 : 0 ≤ x := by omega
  have i1 : x ≤ 255 := by omega
  have c2 : x < 65536 := by omega
  have hl := Lib.len8_of x i0 i1
  have hb := Lib.bitLen_le8' x i0 i1
  go_enter Tryz.func105, Tryz.ntmps105
  go_wp2
  go_ret
  refine ⟨congrArg Ending.returned (congrArg (Value.int IntKind.i64) ?_), rfl⟩
  rfl
 ·
  by_cases c2 : x < 65536
  ·
   have i0 : 0 ≤ x / 256 := by omega
   have i1 : x / 256 ≤ 255 := by omega
   have hl := Lib.len8_of (x / 256) i0 i1
   have hb := Lib.bitLen_le8' (x / 256) i0 i1
   have HE : Hid ((Lib.bitLen x.toNat : Int) = 8 + (Lib.bitLen (x / 256).toNat : Int)) := by
    show _ = _
    rw [Lib.bitLen_shift8 x.toNat (by omega) (by omega), show (x / 256).toNat = x.toNat / 256 by omega]
    omega
   obtain ⟨r, hr⟩ : ∃ r, r = Lib.bitLen (x / 256).toNat := ⟨_, rfl⟩
   rw [← hr] at hl hb
   have HR : Hid (r = Lib.bitLen (x / 256).toNat) := hr
   clear hr
   go_enter Tryz.func105, Tryz.ntmps105
   go_wp2
   go_ret
   refine ⟨congrArg Ending.returned (congrArg (Value.int IntKind.i64) ?_), rfl⟩
   rw [HE.out, ← HR.out]
  ·
   by_cases c3 : x / 65536 < 256
   ·
    have i0 : 0 ≤ x / 65536 := by omega
    have i1 : x / 65536 ≤ 255 := by omega
    have hl := Lib.len8_of (x / 65536) i0 i1
    have hb := Lib.bitLen_le8' (x / 65536) i0 i1
    have HE : Hid ((Lib.bitLen x.toNat : Int) = 16 + (Lib.bitLen (x / 65536).toNat : Int)) := by
     show _ = _
     rw [Lib.bitLen_shift16 x.toNat (by omega) (by omega), show (x / 65536).toNat = x.toNat / 65536 by omega]
     omega
    obtain ⟨r, hr⟩ : ∃ r, r = Lib.bitLen (x / 65536).toNat := ⟨_, rfl⟩
    rw [← hr] at hl hb
    have HR : Hid (r = Lib.bitLen (x / 65536).toNat) := hr
    clear hr
    go_enter Tryz.func105, Tryz.ntmps105
    go_wp2
    go_ret
    refine ⟨congrArg Ending.returned (congrArg (Value.int IntKind.i64) ?_), rfl⟩
    rw [HE.out, ← HR.out]
   ·
    have i0 : 0 ≤ x / 65536 / 256 := by omega
    have i1 : x / 65536 / 256 ≤ 255 := by omega
    have hl := Lib.len8_of (x / 65536 / 256) i0 i1
    have hb := Lib.bitLen_le8' (x / 65536 / 256) i0 i1
    have HE : Hid ((Lib.bitLen x.toNat : Int) = 24 + (Lib.bitLen (x / 65536 / 256).toNat : Int)) := by
     show _ = _
     rw [Lib.bitLen_shift24 x.toNat (by omega) (by omega), show (x / 65536 / 256).toNat = x.toNat / 16777216 by omega]
     omega
    obtain ⟨r, hr⟩ : ∃ r, r = Lib.bitLen (x / 65536 / 256).toNat := ⟨_, rfl⟩
    rw [← hr] at hl hb
    have HR : Hid (r = Lib.bitLen (x / 65536 / 256).toNat) := hr
    clear hr
    go_enter Tryz.func105, Tryz.ntmps105
    go_wp2
    go_ret
    refine ⟨congrArg Ending.returned (congrArg (Value.int IntKind.i64) ?_), rfl⟩
    rw [HE.out, ← HR.out]
theorem bits_any (v : Value) (xs : List Nat) (w : World) (h : Num w v xs) (hlen : xs.length ≤ 1099511627776) :
  Calls Tryz.prog 70 #[v] w fun e w' => e = .returned (.int .i64 (bl (val xs) : Nat)) ∧ w' = w := by
 obtain ⟨ao, cap, rfl, hl1, hm1⟩ := h.ao
 go_enter Tryz.func70, Tryz.ntmps70
 go_wp2_with fail
 refine (trim_any _ _ _ h).mono ?_
 rintro e w1 ⟨⟨k, hk, hk2, rfl⟩, rfl⟩
 simp only [cutTo]
 have hkl : k = (lim (val xs)).length := by rw [← hk2, List.length_take, Nat.min_eq_left hk]
 have nu := h.cut hk
 rw [hk2] at nu
 simp only [cutTo] at nu
 have hle1 : k ≤ 1099511627776 := by omega
 clear h hk2
 by_cases h0 : val xs = 0
 ·
  rw [h0, lim_zero] at hkl
  have hk0 : ((k : Int) == 0) = true := by simp [hkl]
  have HB : Hid (bl (val xs) = 0) := by show _ = _; rw [h0]; rfl
  clear hkl nu h0
  go_wp2
  go_ret
  exact ⟨by rw [HB.out]; rfl, rfl⟩
 ·
  obtain ⟨m, t, e1, e2, ht, ht2, e3⟩ := lim_last h0
  have hkm : k = m + 1 := by omega
  have hk0 : ((k : Int) == 0) = false := by simp; omega
  obtain ⟨_, aox, capx, ex, _, _, _, cx⟩ := nu.open_
  simp only [Value.slice.injEq] at ex
  obtain ⟨rfl, hq1, rfl⟩ := ex
  obtain ⟨b, off, rfl, hc0⟩ := cx m (by omega)
  rw [e2] at hc0
  have HB : Hid (bl (val xs) = 32 * m + bl t) := e3
  have hb32 := bl_le32 ht2
  have HKM : Hid (k = m + 1) := hkm
  subst hkm
  clear e1 e2 e3 hkl hq1 cx nu h0
  go_wp2_with fail
  refine (len32_any _ _ (by omega) (by omega)).mono ?_
  rintro e w2 ⟨rfl, rfl⟩
  rw [Int.toNat_natCast]
  obtain ⟨bt, hbt⟩ : ∃ bt, bt = bl t := ⟨_, rfl⟩
  rw [← hbt] at hb32 ⊢
  have HBT : Hid (bt = bl t) := hbt
  clear hbt
  go_wp2
  go_ret
  refine ⟨congrArg Ending.returned (congrArg (Value.int IntKind.i64) ?_), rfl⟩
  rw [HB.out, ← HBT.out]
  omega
open Go.RowKit

def Made (B e : Nat) (w : World) (xs : List Nat) (en : Ending) (w' : World) : Prop := ∃ v, en = .returned v ∧ Own B e w' v xs ∧ Below B w w'

theorem own_copied {B e : Nat} {w' : World} {v : Value} {xs ys : List Nat} {n : Nat} (hy : xs.take n = ys) (hn : n ≤ xs.length) (hb : limbs xs) (h : w'.ownsRow B e 1 v n ((xs.map U).take n)) : Own B e w' v ys := by
 have hl : ys.length = n := by rw [← hy, List.length_take, Nat.min_eq_left hn]
 refine ⟨by rw [← hy]; exact limbs_take hb n, ?_⟩
 rw [hl, ← hy, List.map_take]
 exact h
theorem norm_ref (v : Value) (xs : List Nat) (w : World) (h : Num w v xs) (hlen : xs.length ≤ 1099511627776) :
  Calls Tryz.prog 98 #[v] w fun e w' => Made w.heap.size 37 w (lim (val xs)) e w' := by
 obtain ⟨hb, ao, cap, rfl, hc, hm, hnil, hcell⟩ := h.open_
 clear h
 obtain ⟨n, hn⟩ : ∃ n, xs.length = n := ⟨_, rfl⟩
 rw [hn] at hc hlen ⊢
 have HN : Hid (xs.length = n) := hn
 clear hn
 obtain ⟨i0, hi, hz0, hz1, hz2⟩ := info_parts Tryz.infoU
 go_enter Tryz.func98, Tryz.ntmps98
 go_wp2
 go_loop [3] (fun t => ∃ k : Nat, k ≤ n ∧ t = .int .i64 k ∧ (∀ j, k ≤ j → j < n → xs.getD j 0 = 0)) (fun t => (intOf t).toNat)
 case atStart => exact ⟨n, Nat.le_refl _, rfl, fun j h1 h2 => by omega⟩
 case round =>
  obtain ⟨k, hk, rfl, hz⟩ := hrel
  have HZ : Hid (∀ j, k ≤ j → j < n → xs.getD j 0 = 0) := hz
  clear hz
  by_cases hk0 : 0 < k
  ·
   obtain ⟨b, off, rfl, hc0⟩ := hcell (k - 1) (by rw [HN.out]; omega)
   obtain ⟨x, hx⟩ : ∃ x, x = xs.getD (k - 1) 0 := ⟨_, rfl⟩
   rw [← hx] at hc0
   have HX : Hid (x = xs.getD (k - 1) 0) := hx
   clear hx hnil
   by_cases hx0 : x = 0
   ·
    have ht : ((x : Int) == 0) = true := by simp [hx0]
    have HX0 : Hid (x = 0) := hx0
    clear hx0 hcell
    go_wp2
    go_round
    case rel =>
     refine ⟨k - 1, by omega, by congr 1; omega, fun j h1 h2 => ?_⟩
     by_cases hj : j = k - 1
     · rw [hj, ← HX.out, HX0.out]
     · exact HZ.out j (by omega) h2
    case measure => simp [intOf]; omega
   ·
    have ht : ((x : Int) == 0) = false := by simp [hx0]
    have HX0 : Hid (x ≠ 0) := hx0
    clear hx0
    have HF : Hid (xs.take k = lim (val xs)) := take_trim hb (by rw [HN.out]; omega) (by rw [HN.out]; exact HZ.out) (fun _ => by rw [← HX.out]; exact HX0.out)
    have HC : Hid (∀ j u, ((xs.take k).map U)[j]? = some u → w.cell? ((⟨b, off, none⟩ : Addr).add j) = some u) := by
     intro j u hj
     rw [List.getElem?_map] at hj
     obtain ⟨y, hy, rfl⟩ := Option.map_eq_some_iff.1 hj
     obtain ⟨hjk, hy⟩ := List.getElem?_eq_some_iff.1 hy
     simp only [List.length_take] at hjk
     obtain ⟨b', off', he, hc'⟩ := hcell j (by omega)
     simp only [Option.some.injEq, Addr.mk.injEq] at he
     obtain ⟨rfl, rfl, _⟩ := he
     rw [List.getElem_take] at hy
     subst hy
     rw [Addr.add_lit]
     rw [hc', List.getD_eq_getElem?_getD, List.getElem?_eq_getElem (by omega)]
     rfl
    have HL : Hid (((xs.take k).map U).length = k * 1) := by show _ = _; rw [List.length_map, List.length_take, HN.out]; omega
    have H1 : Hid (∀ u ∈ (xs.take k).map U, u.oneCell' = true) := by intro u hu; obtain ⟨y, _, rfl⟩ := List.mem_map.1 hu; rfl
    clear hcell
    go_wp2_with (at_builtin; refine wpList_append_own _ rfl _ _ 23 rfl w.heap.size 37 i0 (.int .u32 0) 1 4 Tryz.underlying23 hi hz0 hz1 hz2 rfl (by decide) _ _ _ rfl (World.ownsRow_nil _ _ _ _) ⟨b, off, none⟩ k cap ((xs.take k).map U) rfl HL.out HC.out H1.out (by unfold maxLen; omega) (by omega) (Nat.le_refl _) ?_)
    intro v' w1 hown hgr _
    have how := own_copied (by exact HF.out) (by rw [HN.out]; exact hk) hb hown
    have hbel := (Below.refl w.heap.size w).grown hgr (Nat.le_refl _) (by intro k hk; simp [Value.ownBlock] at hk)
    clear hown hgr HC
    go_wp2
    go_ret
    exact ⟨_, rfl, how, hbel⟩
  ·
   have hk1 : k = 0 := by omega
   subst hk1
   have hgt : ¬ (0 : Int) < ((0 : Nat) : Int) := by omega
   have HF : Hid (xs.take 0 = lim (val xs)) := take_trim hb (by omega) (by rw [HN.out]; exact HZ.out) (fun h => by omega)
   have HO : Hid (Made w.heap.size 37 w (lim (val xs)) (.returned (.slice none 0 0)) w) := ⟨_, rfl, by rw [← HF.out]; exact Own.of_nil _ _ _, Below.refl _ _⟩
   clear hcell
   rcases ao with _ | a
   ·
    have := hnil rfl
    subst this
    have hn0 : n = 0 := by omega
    subst hn0
    go_wp2
    go_ret
    exact HO.out
   ·
    clear hnil
    obtain ⟨b, off, spot⟩ := a
    go_wp2
    go_ret
    exact HO.out
open Go.RowKit

theorem blend_any (a b : Value) (xs ys : List Nat) (uI vI : Int) (w : World) (ha : Num w a xs) (hb : Num w b ys) (hu0 : 0 ≤ uI) (hu1 : uI < 4294967296) (hv0 : 0 ≤ vI) (hv1 : vI < 4294967296)
  (hbx : xs.length ≤ 1099511627776) (hby : ys.length ≤ 1099511627776) (h1 : val ys * vI.toNat ≤ val xs * uI.toNat) (h2 : val xs * uI.toNat - val ys * vI.toNat < 4294967296 ^ (max xs.length ys.length)) :
  Calls Tryz.prog 116 #[a, .int .u64 uI, b, .int .u64 vI] w fun e w' => Made' w.heap.size w (lim (val xs * uI.toNat - val ys * vI.toNat)) e w' := by
 obtain ⟨u, rfl⟩ := Int.eq_ofNat_of_zero_le hu0
 obtain ⟨v, rfl⟩ := Int.eq_ofNat_of_zero_le hv0
 rw [Int.toNat_natCast, Int.toNat_natCast] at h1 h2 ⊢
 obtain ⟨ao, cap, rfl, hl1, hm1⟩ := ha.ao
 obtain ⟨bo, dap, rfl, hl2, hm2⟩ := hb.ao
 obtain ⟨i0, hi, hz0, hz1, hz2⟩ := info_parts Tryz.infoU
 obtain ⟨k, hk⟩ : ∃ k, k = xs.length := ⟨_, rfl⟩
 obtain ⟨m, hm⟩ : ∃ m, m = ys.length := ⟨_, rfl⟩
 have pre : ∃ n : Nat, n = max xs.length ys.length ∧ k ≤ n ∧ m ≤ n ∧ n ≤ 1099511627776 ∧ ((k < m ∧ n = m) ∨ (¬ k < m ∧ n = k)) := by
  by_cases h : k < m
  · exact ⟨m, by omega, by omega, by omega, by omega, Or.inl ⟨h, rfl⟩⟩
  · exact ⟨k, by omega, by omega, by omega, by omega, Or.inr ⟨h, rfl⟩⟩
 obtain ⟨n, hnm, hn1, hn2, hn3, hcase⟩ := pre
 rw [← hnm] at h2
 rw [← hk] at ha hl1 hbx ⊢
 rw [← hm] at hb hl2 hby ⊢
 have HKL : Hid (k = xs.length) := hk
 have HML : Hid (m = ys.length) := hm
 have H1 : Hid (val ys * v ≤ val xs * u) := h1
 have H2 : Hid (val xs * u - val ys * v < 4294967296 ^ n) := h2
 clear hk hm h1 h2 hnm hu0 hv0
 rcases hcase with ⟨hkm, hn⟩ | ⟨hkm, hn⟩
 all_goals
  have HNN : Hid (n = _) := hn
  clear hn
  go_enter Tryz.func116, Tryz.ntmps116
  go_wp2_with (at_make; refine wpList_make_full _ rfl _ _ 23 rfl w.heap.size 37 i0 (.int .u32 0) 1 Tryz.underlying23 hi hz0 hz1 _ _ _ _ n rfl rfl (by have := HNN.out; omega) (by have := HNN.out; omega) (by rw [hz2]; omega) (by unfold maxLen; omega) (Nat.le_refl _) ?_)
  intro w2 ho2 hg2
  have how := own_made ho2
  have hbel : Below w.heap.size w w2 := (Below.refl w.heap.size w).grown hg2 (Nat.le_refl _) (by intro k hk; simp at hk)
  clear ho2 hg2 HNN
  obtain ⟨g, hg⟩ : ∃ g, g = w.heap.size := ⟨_, rfl⟩
  have HB : Hid (Below w.heap.size w w2 ∧ Own w.heap.size 37 w2 (.slice (some ⟨g, 0, none⟩) n n) (List.replicate n 0)) := by rw [hg]; exact ⟨hbel, how⟩
  rw [← hg]
  clear hg hbel how
  go_wp2
  go_loopw [10, 11, 12, 23] (fun pv mv bv t wr => ∃ (i p m b : Nat) (zs : List Nat), i ≤ n ∧ t = .int .i64 i ∧ pv = .int .u64 p ∧ mv = .int .u64 m ∧ bv = .int .u64 b ∧ p < 4294967296 ∧ m < 4294967296 ∧ b ≤ 1 ∧ zs.length = n ∧ Own w.heap.size 37 wr (.slice (some ⟨g, 0, none⟩) n n) zs ∧ low xs i * u + 4294967296 ^ i * (m + b) = low ys i * v + low zs i + 4294967296 ^ i * p ∧ Below w.heap.size w wr) (fun _ _ _ t _ => n - (intOf t).toNat)
  case atStart => exact ⟨0, 0, 0, 0, List.replicate n 0, Nat.zero_le _, rfl, rfl, rfl, rfl, by omega, by omega, by omega, by simp, HB.out.2, by simp [low_zero], HB.out.1⟩
  case round =>
   obtain ⟨i, p, mm, bb, zs, hin, rfl, rfl, rfl, rfl, hp, hmm, hbb, hzl, how, hinv, hbel⟩ := hrel
   have HZ : Hid (zs.length = n) := hzl
   have HI : Hid (low xs i * u + 4294967296 ^ i * (mm + bb) = low ys i * v + low zs i + 4294967296 ^ i * p) := hinv
   clear hzl hinv HB
   have nu2 := ha.below (Nat.le_refl _) hbel
   have nv2 := hb.below (Nat.le_refl _) hbel
   by_cases hlt : i < n
   ·
    have hlt' : (i : Int) < (n : Int) := by omega
    have hx0 := limb_lt ha.1 i
    have hy0 := limb_lt hb.1 i
    obtain ⟨x, hx⟩ : ∃ x, x = xs.getD i 0 := ⟨_, rfl⟩
    obtain ⟨y, hy⟩ : ∃ y, y = ys.getD i 0 := ⟨_, rfl⟩
    have HX : Hid (x = xs.getD i 0) := hx
    have HY : Hid (y = ys.getD i 0) := hy
    rw [← hx] at hx0
    rw [← hy] at hy0
    have tb := mul_bound hx0 (show u < 4294967296 by omega)
    have sb := mul_bound hy0 (show v < 4294967296 by omega)
    obtain ⟨t, ht⟩ : ∃ t, t = x * u := ⟨_, rfl⟩
    obtain ⟨s, hs⟩ : ∃ s, s = y * v := ⟨_, rfl⟩
    rw [← ht] at tb
    rw [← hs] at sb
    have et : (x : Int) * (u : Int) = (t : Int) := by rw [ht]; exact (Int.natCast_mul x u).symm
    have es : (y : Int) * (v : Int) = (s : Int) := by rw [hs]; exact (Int.natCast_mul y v).symm
    have HT : Hid (t = x * u) := ht
    have HS : Hid (s = y * v) := hs
    have ep := and_mask (p + t) (by omega)
    have em := and_mask (mm + s) (by omega)
    obtain ⟨PP, hPP⟩ : ∃ PP, PP = (p + t) % 4294967296 := ⟨_, rfl⟩
    obtain ⟨MM, hMM⟩ : ∃ MM, MM = (mm + s) % 4294967296 := ⟨_, rfl⟩
    rw [← hPP, Int.natCast_add] at ep
    rw [← hMM, Int.natCast_add] at em
    obtain ⟨D1, D, b', dl, e1, e2, hD, e3, e4, hb', hdl, heq⟩ := sub_wrap PP MM bb (by omega) (by omega) hbb
    have HPP : Hid (PP = (p + t) % 4294967296) := hPP
    have HMM : Hid (MM = (mm + s) % 4294967296) := hMM
    have HEQ : Hid (PP + 4294967296 * b' = MM + bb + dl) := heq
    obtain ⟨hcz, hfz⟩ := how.cell (k := i) (by rw [HZ.out]; exact hlt)
    obtain ⟨z, hz⟩ : ∃ z, z = zs.getD i 0 := ⟨_, rfl⟩
    rw [← hz] at hcz
    have hset := how.set HZ.out i dl hdl
    have hbel2 : Below w.heap.size w (wr.setCell ⟨g, i, none⟩ (U dl)) := hbel.setCell (by exact how.heap.1) _
    rw [show U dl = .int .u32 (dl : Int) from rfl] at hset hbel2
    clear hx hy hz how hbel ht hs hPP hMM heq
    go_wp2_with fail
    refine (limb_any _ _ _ _ nu2 (by omega)).mono ?_
    rintro e w3 ⟨rfl, rfl⟩
    rw [Int.toNat_natCast, ← HX.out]
    go_wp2_with fail
    refine (limb_any _ _ _ _ nv2 (by omega)).mono ?_
    rintro e w4 ⟨rfl, rfl⟩
    rw [Int.toNat_natCast, ← HY.out]
    clear nu2 nv2
    go_wp2
    go_roundw
    case rel => exact ⟨i + 1, (p + t) / 4294967296, (mm + s) / 4294967296, b', _, by omega, by go_num, by go_num, by go_num, by go_num, by omega, by omega, hb', by rw [List.length_set]; exact HZ.out, hset, by rw [HT.out, HS.out, HX.out, HY.out]; exact blend_step (by rw [HZ.out]; exact hlt) HI.out b' (by rw [← HX.out, ← HY.out, ← HT.out, ← HS.out, ← HPP.out, ← HMM.out]; exact HEQ.out), hbel2⟩
    case measure => simp [intOf]; omega
   ·
    have hlt' : ¬ (i : Int) < (n : Int) := by omega
    have hin' : i = n := by omega
    have HV : Hid (val zs = val xs * u - val ys * v) := blend_done how.1 HZ.out (by rw [← HKL.out]; omega) (by rw [← HML.out]; omega) H1.out H2.out (by rw [← hin']; exact HI.out)
    clear hin' nu2 nv2
    go_wp2_with fail
    refine (trim_any _ _ _ how.num).mono ?_
    rintro e w3 ⟨⟨k3, hk3, hk4, rfl⟩, rfl⟩
    have how2 := how.cut hk3
    rw [hk4, HV.out] at how2
    clear how hk4
    go_wp2
    go_ret
    exact ⟨_, rfl, how2, hbel⟩
open Go.RowKit

theorem lim_len_of_lt {a b : Nat} (h : a ≤ b) : (lim a).length ≤ (lim b).length := lim_len_le (Nat.lt_of_le_of_lt h (lim_lt_of_len (Nat.le_refl _)))
theorem Tryz.sizeU : (Tryz.prog.info? 37).map (·.size) = some 1 := by kernel_rfl
theorem splice_all {L cs : List Value} (h : cs.length = L.length) : splice L 0 cs = cs := by
 simp only [splice, List.take_zero, List.nil_append, Nat.zero_add]
 rw [List.drop_of_length_le (by omega), List.append_nil]
theorem fresh_any (v : Value) (xs : List Nat) (w : World) (h : Num w v xs) (hlen : xs.length ≤ 1099511627776) :
  Calls Tryz.prog 104 #[v] w fun e w' => Made' w.heap.size w xs e w' := by
 obtain ⟨hb, ao, cap, rfl, hc, hm, hnil, hcell⟩ := h.open_
 obtain ⟨n, hn⟩ : ∃ n, xs.length = n := ⟨_, rfl⟩
 rw [hn] at hc hlen h ⊢
 have HN : Hid (xs.length = n) := hn
 obtain ⟨i0, hi, hz0, hz1, hz2⟩ := info_parts Tryz.infoU
 have HC : Hid (∀ w2, Below w.heap.size w w2 → 0 < (xs.map U).length → ∃ ad, ao = some ad ∧ ∀ j u, (xs.map U)[j]? = some u → w2.cell? (ad.add j) = some u) := by
  intro w2 hb2 hp
  obtain ⟨b, off, rfl, _⟩ := hcell 0 (by simpa using hp)
  refine ⟨⟨b, off, none⟩, rfl, fun j u hj => ?_⟩
  rw [List.getElem?_map] at hj
  obtain ⟨y, hy, rfl⟩ := Option.map_eq_some_iff.1 hj
  obtain ⟨hjk, hy⟩ := List.getElem?_eq_some_iff.1 hy
  obtain ⟨b', off', he, hc'⟩ := hcell j (by omega)
  simp only [Option.some.injEq, Addr.mk.injEq] at he
  obtain ⟨rfl, rfl, _⟩ := he
  subst hy
  rw [Addr.add_lit, hb2.cell (p := ⟨b, off + j, none⟩) (block_lt_of_cell hc'), hc', List.getD_eq_getElem?_getD, List.getElem?_eq_getElem (by omega)]
  rfl
 have HL : Hid ((xs.map U).length = Nat.min n n) := by show _ = _; rw [List.length_map, HN.out]; simp
 have H1 : Hid (∀ u ∈ xs.map U, u.oneCell' = true) := by intro u hu; obtain ⟨y, _, rfl⟩ := List.mem_map.1 hu; rfl
 clear hcell hnil hn h
 go_enter Tryz.func104, Tryz.ntmps104
 go_wp2_with (at_make; refine wpList_make_full _ rfl _ _ 23 rfl w.heap.size 37 i0 (.int .u32 0) 1 Tryz.underlying23 hi hz0 hz1 _ _ _ _ n rfl rfl (by omega) (by omega) (by rw [hz2]; omega) (by unfold maxLen; omega) (Nat.le_refl _) ?_)
 intro w2 ho2 hg2
 have how := own_made ho2
 have hbel : Below w.heap.size w w2 := (Below.refl w.heap.size w).grown hg2 (Nat.le_refl _) (by intro k hk; simp at hk)
 obtain ⟨hq1, hq2, cur, hcur, hq3, hcs, hct⟩ := how.heap
 clear hq1 hq2 hq3 hct
 obtain ⟨L, hL⟩ : ∃ L : List Value, cur = L.toArray := ⟨cur.toList, by simp⟩
 subst hL
 have hLl : L.length = n := by simpa using hcs
 have HLL : Hid (L.length = n) := hLl
 have HCUR : Hid (w2.heap[w.heap.size]? = some (.cells L.toArray 37 (0, 0))) := hcur
 clear ho2 hg2 how hcur hcs hLl
 go_wp2_with (refine wpList_copy_splice rfl _ _ 23 23 rfl 37 Tryz.underlying23 Tryz.sizeU _ _ _ _ _ _ rfl rfl w.heap.size 0 L 37 HCUR.out (xs.map U) HL.out (fun hp => ⟨rfl, HC.out w2 hbel hp⟩) (by rw [HLL.out, List.length_map, HN.out]; omega) H1.out w.heap.size w hbel (Nat.le_refl _) ?_)
 intro w3 hh3 hb3
 have HO : Hid (Own w.heap.size 37 w3 (.slice (some ⟨w.heap.size, 0, none⟩) n n) xs) := by
  have h3 := hh3.out
  rw [splice_all (by rw [HLL.out, List.length_map, HN.out])] at h3
  refine ⟨hb, by rw [List.length_map]; omega, Or.inr ⟨w.heap.size, n, _, by rw [HN.out], Nat.le_refl _, h3, by rw [HN.out]; omega, by unfold maxLen; omega, by simp [HN.out], ?_⟩⟩
  rw [HN.out]
  exact List.take_of_length_le (by simp [HN.out])
 clear hh3 HCUR HC H1 HL hbel
 go_wp2
 go_ret
 exact ⟨_, rfl, HO.out, hb3⟩
theorem norm_any (v : Value) (xs : List Nat) (w : World) (h : Num w v xs) (hlen : xs.length ≤ 1099511627776) :
  Calls Tryz.prog 69 #[v] w fun e w' => Made' w.heap.size w (lim (val xs)) e w' := by
 go_enter Tryz.func69, Tryz.ntmps69
 go_wp2_with fail
 refine (trim_any _ _ _ h).mono ?_
 rintro e w1 ⟨⟨k, hk, hk2, rfl⟩, rfl⟩
 have nu := h.cut hk
 rw [hk2] at nu
 have hlx : (lim (val xs)).length ≤ 1099511627776 := by rw [← hk2, List.length_take]; omega
 clear h hk2
 go_wp2_with fail
 refine (fresh_any _ _ _ nu hlx).mono ?_
 rintro e w2 ⟨v2, rfl, ho, hb⟩
 clear nu hlx
 go_wp2
 go_ret
 exact ⟨_, rfl, ho, hb⟩
open Go.RowKit


def SubEnd (B : Nat) (w : World) (xs : List Nat) (en : Ending) (w' : World) : Prop := ∃ v, en = .returned (.tuple #[v, .bool true]) ∧ Own B 37 w' v xs ∧ Below B w w'

theorem sub_yes (u v : Value) (xs ys : List Nat) (w : World) (hu : Num w u xs) (hv : Num w v ys) (hbx : xs.length ≤ 1099511627776) (hby : ys.length ≤ 1099511627776) (hle : val ys ≤ val xs) :
  Calls Tryz.prog 86 #[u, v] w fun e w' => SubEnd w.heap.size w (lim (val xs - val ys)) e w' := by
 obtain ⟨ao, cap, rfl, hl1, hm1⟩ := hu.ao
 obtain ⟨bo, dap, rfl, hl2, hm2⟩ := hv.ao
 go_enter Tryz.func86, Tryz.ntmps86
 go_wp2_with fail
 refine (trim_any _ _ _ hu).mono ?_
 rintro e w1 ⟨⟨k, hk, hk2, rfl⟩, rfl⟩
 go_wp2_with fail
 refine (trim_any _ _ _ hv).mono ?_
 rintro e w1 ⟨⟨m, hm, hm3, rfl⟩, rfl⟩
 simp only [cutTo]
 have nu := hu.cut hk
 have nv := hv.cut hm
 rw [hk2] at nu
 rw [hm3] at nv
 simp only [cutTo] at nu nv
 have hlx : (lim (val xs)).length ≤ 1099511627776 := by rw [← hk2, List.length_take]; omega
 have hly : (lim (val ys)).length ≤ 1099511627776 := by rw [← hm3, List.length_take]; omega
 clear hu hv hk2 hm3 hk hm
 go_wp2_with fail
 refine (cmp_any _ _ _ _ _ nu nv).mono ?_
 rintro e w2 ⟨rfl, q, hq⟩
 have hnl : ¬ cmpN (val (lim (val xs))) (val (lim (val ys))) < 0 := by
  rw [val_lim, val_lim]
  rcases cmpN_cases (val xs) (val ys) with h | h | h <;> omega
 obtain ⟨c, hc⟩ : ∃ c, c = cmpN (val (lim (val xs))) (val (lim (val ys))) := ⟨_, rfl⟩
 rw [← hc] at hnl ⊢
 have hb2 : Below w1.heap.size w1 w2 := by rw [hq]; exact below_drewN (Below.refl _ _) q
 have hs2 : w2.heap.size = w1.heap.size := by rw [hq, heap_drewN]
 have nu2 := nu.below (Nat.le_refl _) hb2
 have nv2 := nv.below (Nat.le_refl _) hb2
 have HS : Hid (w2.heap.size = w1.heap.size) := hs2
 clear hc nu nv hq hs2
 go_wp2_with fail
 refine (blend_any _ _ _ _ 1 1 _ nu2 nv2 (by omega) (by omega) (by omega) (by omega) hlx hly ?_ ?_).mono ?_
 · rw [val_lim, val_lim]; simpa using hle
 ·
  rw [val_lim, val_lim]
  simp only [Int.toNat_one, Nat.mul_one]
  refine Nat.lt_of_le_of_lt (Nat.sub_le _ _) (lim_lt_of_len (Nat.le_max_left _ _))
 rintro e w3 ⟨v3, rfl, ho3, hb3⟩
 rw [val_lim, val_lim] at ho3
 simp only [Int.toNat_one, Nat.mul_one] at ho3
 rw [HS.out] at ho3 hb3
 have hb4 := hb2.trans hb3
 clear hb2 hb3 nu2 nv2
 go_wp2
 go_ret2
 exact ⟨_, rfl, ho3, hb4⟩
theorem sub_no (u v : Value) (xs ys : List Nat) (w : World) (hu : Num w u xs) (hv : Num w v ys) (hle : val xs < val ys) :
  Calls Tryz.prog 86 #[u, v] w fun e w' => e = .returned (.tuple #[.slice none 0 0, .bool false]) ∧ ∃ q, w' = w.drewN q := by
 obtain ⟨ao, cap, rfl, hl1, hm1⟩ := hu.ao
 obtain ⟨bo, dap, rfl, hl2, hm2⟩ := hv.ao
 go_enter Tryz.func86, Tryz.ntmps86
 go_wp2_with fail
 refine (trim_any _ _ _ hu).mono ?_
 rintro e w1 ⟨⟨k, hk, hk2, rfl⟩, rfl⟩
 go_wp2_with fail
 refine (trim_any _ _ _ hv).mono ?_
 rintro e w1 ⟨⟨m, hm, hm3, rfl⟩, rfl⟩
 simp only [cutTo]
 have nu := hu.cut hk
 have nv := hv.cut hm
 rw [hk2] at nu
 rw [hm3] at nv
 simp only [cutTo] at nu nv
 clear hu hv hk2 hm3 hk hm
 go_wp2_with fail
 refine (cmp_any _ _ _ _ _ nu nv).mono ?_
 rintro e w2 ⟨rfl, q, hq⟩
 have HQ : Hid (w2 = w1.drewN q) := hq
 have hc : cmpN (val (lim (val xs))) (val (lim (val ys))) = -1 := by rw [val_lim, val_lim]; exact cmpN_lt hle
 rw [hc]
 clear hc nu nv hq
 go_wp2
 go_ret2
 exact ⟨rfl, q, HQ.out⟩
end Go.Proofs.YtfnafgjnimfmjaaGreatDoor

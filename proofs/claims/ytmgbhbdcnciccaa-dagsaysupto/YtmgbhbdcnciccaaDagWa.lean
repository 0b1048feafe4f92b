/-
  Proved here: the document's walks: whether a walk of just so many steps leads back.
-/
import Derived.Test.YtmgbhbdcnciccaaDagCyP
import Derived.Test.YtmgbhbdcnciccaaDagN
namespace Go.Proofs.Ytmgbhbdcnciccaa
set_option linter.unusedVariables false
open Go.RowKit
/-- A row of yes and no. -/
def rowB (N : Nat) (f : Nat → Bool) : List Bool := (List.range N).map f
theorem rowB_len (N : Nat) (f : Nat → Bool) : (rowB N f).length = N := by simp [rowB]
theorem rowB_get {N : Nat} {f : Nat → Bool} {v : Nat} (h : v < N) : (rowB N f)[v]? = some (f v) := by
  unfold rowB
  rw [List.getElem?_map, List.getElem?_range h]; rfl
theorem rowB_congr {N : Nat} {f g : Nat → Bool} (h : ∀ v, v < N → f v = g v) : rowB N f = rowB N g := by
  unfold rowB
  exact List.map_congr_left fun v hv => h v (by simpa using hv)
theorem rowB_none {N : Nat} {f : Nat → Bool} {v : Nat} (h : ¬ v < N) : (rowB N f)[v]? = none := List.getElem?_eq_none (by rw [rowB_len]; omega)
theorem rowB_set {N : Nat} {f : Nat → Bool} {v : Nat} (b : Bool) : (rowB N f).set v b = rowB N (fun u => if u = v then b else f u) := by
  apply List.ext_getElem?
  intro u
  rw [List.getElem?_set, rowB_len]
  by_cases hu : u < N
  · rw [rowB_get hu, rowB_get hu]
    by_cases e : v = u
    · subst e; simp [hu]
    · rw [if_neg e, if_neg (fun e2 => e e2.symm)]
  · rw [rowB_none hu, rowB_none hu]
    by_cases e : v = u
    · subst e; simp [hu]
    · rw [if_neg e]
theorem rowB_no (N : Nat) : List.replicate N false = rowB N (fun _ => false) := by
  apply List.ext_getElem?
  intro u
  by_cases hu : u < N
  · rw [rowB_get hu, List.getElem?_replicate, if_pos hu]
  · rw [rowB_none hu, List.getElem?_eq_none (by rw [List.length_replicate]; omega)]
/-- The next row, while points are gone through: point v's first k parents. -/
def nxB (P : List (List Int)) (s : Nat) (f : Nat → Bool) (v k u : Nat) : Bool :=
  if u < v then decide (s ≤ u) && (P.getD u []).any (fun p => decide ((s : Int) ≤ p) && f p.toNat) else if u = v then ((P.getD u []).take k).any (fun p => decide ((s : Int) ≤ p) && f p.toNat) else false
theorem nxB_start (P : List (List Int)) (s : Nat) (f : Nat → Bool) (u : Nat) : nxB P s f s 0 u = false := by
  unfold nxB
  by_cases h : u < s
  · rw [if_pos h, decide_eq_false (by omega)]; rfl
  · rw [if_neg h]
    split <;> simp
theorem nxB_next {P : List (List Int)} {s : Nat} {f : Nat → Bool} {v k : Nat} (hv : s ≤ v) (hk : (P.getD v []).length ≤ k) (u : Nat) : nxB P s f v k u = nxB P s f (v + 1) 0 u := by
  unfold nxB
  by_cases h : u < v
  · rw [if_pos h, if_pos (by omega)]
  · rw [if_neg h]
    by_cases e : u = v
    · subst e
      rw [if_pos rfl, if_pos (by omega), List.take_of_length_le hk, decide_eq_true hv, Bool.true_and]
    · rw [if_neg e, if_neg (by omega)]
      split
      · simp
      · rfl
theorem nxB_step {P : List (List Int)} {s : Nat} {f : Nat → Bool} {v k : Nat} {p : Int} (hp : (P.getD v [])[k]? = some p) (u : Nat) : (if u = v then (nxB P s f v k v || (decide ((s : Int) ≤ p) && f p.toNat)) else nxB P s f v k u) = nxB P s f v (k + 1) u := by
  unfold nxB
  by_cases e : u = v
  · subst e
    rw [if_pos rfl, if_neg (by omega), if_pos rfl, if_neg (by omega), if_pos rfl, List.take_add_one, hp, List.any_append]
    simp
  · rw [if_neg e]
    split
    · rfl
    · simp
theorem nxB_end {P : List (List Int)} {s i N u : Nat} (hu : u < N) : nxB P s (fun v => wkB P s i v) N 0 u = wkB P s (i + 1) u := by
  unfold nxB
  rw [if_pos hu]
  conv => rhs; unfold wkB
set_option maxRecDepth 100000 in
set_option maxHeartbeats 12800000 in
theorem walksD (pv : Value) (pvs : List Value) (P : List (List Int)) (w : World) (h : RRD w pv pvs P) (N : Nat) (hn : P.length = N) (hb : N ≤ 100000) (hP : WfP P) (s n : Nat) (hs : s < N) (hnb : n ≤ 100000) :
    Calls Try.prog 57 #[pv, .int .i64 (s : Int), .int .i64 (n : Int)] w fun e w' => ∃ g, e = .returned (.slice (some ⟨g, 0, none⟩) N N) ∧ OG Value.bool w.heap.size 4 w' (.slice (some ⟨g, 0, none⟩) N N) (rowB N (wkB P s n)) ∧ Below w.heap.size w w' := by
  obtain ⟨i1, hi1, hs0, hs1, hs2⟩ := info_parts Try.infoBD
  obtain ⟨po, pn, pc, rfl⟩ : ∃ o n c, pv = .slice o n c := by obtain ⟨ao, cap, e⟩ := h.out.sl; exact ⟨_, _, _, e⟩
  obtain rfl : pn = N := by rw [← hn, ← h.len, h.out.len]
  have HR : Hid (∀ W, Below w.heap.size w W → RRD W (.slice po pn pc) pvs P) := fun W hW => h.below (Nat.le_refl _) hW
  have HN : Hid (P.length = pn) := hn
  have HWF : Hid (WfP P) := hP
  have made : ∀ (u : World), OG Value.bool u.heap.size 4 (u.alloc (.cells (Array.replicate pn (.bool false)) 4)) (.slice (some ⟨u.heap.size, 0, none⟩) pn pn) (rowB pn (fun _ => false)) := fun u => by
    rw [← rowB_no]; exact OG.made (enc := Value.bool) u _ pn false (by unfold maxLen; omega)
  have HMD : Hid _ := made
  have hsz : (s : Int) < (pn : Int) := by omega
  obtain ⟨W1, hW1⟩ : ∃ W, W = w.alloc (.cells (Array.replicate pn (.bool false)) 4) := ⟨_, rfl⟩
  obtain ⟨g0, hg0⟩ : ∃ g, g = w.heap.size := ⟨_, rfl⟩
  have ho1 := made w
  rw [← hW1, ← hg0] at ho1
  have hc1 := ho1.cell (rowB_get (f := fun _ => false) hs)
  have hset := (ho1.set (rowB_len _ _) s true).1
  rw [rowB_set, hg0] at hset
  obtain ⟨W2, hW2⟩ : ∃ W, W = W1.setCell ⟨g0, s, none⟩ (.bool true) := ⟨_, rfl⟩
  have HO2 : Hid (OG Value.bool w.heap.size 4 W2 (.slice (some ⟨g0, 0, none⟩) pn pn) (rowB pn (wkB P s 0))) := by
    show OG _ _ _ _ _ _
    have e : rowB pn (wkB P s 0) = rowB pn (fun u => if u = s then true else false) := rowB_congr fun v _ => by unfold wkB; by_cases e : v = s <;> simp [e]
    rw [e, hW2, hg0]; exact hset
  have HB2 : Hid (Below w.heap.size w W2) := by
    show Below _ _ _
    have b1 : Below w.heap.size w W1 := by rw [hW1]; exact belowB _ _
    rw [hW2]; exact b1.setCell (p := ⟨g0, s, none⟩) (by rw [hg0]; exact Nat.le_refl _) _
  have HW1 : Hid (W1 = w.alloc (.cells (Array.replicate pn (.bool false)) 4)) := hW1
  have HG0 : Hid (g0 = w.heap.size) := hg0
  have HW2 : Hid (W2 = W1.setCell ⟨g0, s, none⟩ (.bool true)) := hW2
  obtain ⟨hc2, hc3⟩ := hc1
  clear h hn hP made ho1 hset hW1 hg0 hW2
  go_enter Try.func57, Try.ntmps57
  go_upto_region 2 with (at_make; refine wpList_madeD _ rfl _ _ 55 rfl 4 i1 (.bool false) rfl Try.underlying55 hi1 hs0 hs1 _ _ pn rfl rfl (by rw [hs2]; omega) (by omega) ?_)
  rw [← HW1.out, ← HG0.out]
  clear HW1 HG0
  go_wp2
  rw [← HW2.out]
  clear HW2 hc2 hc3
  go_loopg [7, 8, 9, 10, 11, 12] n (fun g1 v7 v8 _v9 _v10 _v11 _v12 wr => ∃ (i g : Nat), v8 = .int .i64 i ∧ v7 = .slice (some ⟨g, 0, none⟩) pn pn ∧ i ≤ n ∧ n - i ≤ g1 ∧ Hid (OG Value.bool w.heap.size 4 wr (.slice (some ⟨g, 0, none⟩) pn pn) (rowB pn (wkB P s i))) ∧ Hid (Below w.heap.size w wr))
  case atStart => exact ⟨0, g0, rfl, rfl, by omega, by omega, HO2, HB2⟩
  case round =>
    clear HO2 HB2
    obtain ⟨i, g, rfl, rfl, hin, hg1, HO, HB⟩ := hrel
    by_cases hlt : i < n
    · have hltz : (i : Int) < (n : Int) := by omega
      obtain ⟨W3, hW3⟩ : ∃ W, W = wr.alloc (.cells (Array.replicate pn (.bool false)) 4) := ⟨_, rfl⟩
      obtain ⟨g3', hg3⟩ : ∃ g, g = wr.heap.size := ⟨_, rfl⟩
      have hb3 : Below wr.heap.size wr W3 := by rw [hW3]; exact belowB _ _
      have HN3 : Hid (OG Value.bool wr.heap.size 4 W3 (.slice (some ⟨g3', 0, none⟩) pn pn) (rowB pn (nxB P s (wkB P s i) s 0))) := by
        show OG _ _ _ _ _ _
        have := HMD.out wr
        rw [← hW3, ← hg3] at this
        rw [rowB_congr (fun v _ => nxB_start P s (wkB P s i) v), ← hg3]
        exact this
      have HA3 : Hid (OG Value.bool w.heap.size 4 W3 (.slice (some ⟨g, 0, none⟩) pn pn) (rowB pn (wkB P s i))) := HO.out.below hb3
      have HB3 : Hid (Below w.heap.size w W3) := HB.out.trans (hb3.mono HB.out.size)
      have HGL : Hid (g < wr.heap.size) := (HO.out.lt g rfl).2
      have HSZ : Hid (w.heap.size ≤ wr.heap.size) := HB.out.size
      have HW3 : Hid (W3 = wr.alloc (.cells (Array.replicate pn (.bool false)) 4)) := hW3
      have HG3 : Hid (g3' = wr.heap.size) := hg3
      obtain ⟨sz, hsz3⟩ : ∃ z, z = wr.heap.size := ⟨_, rfl⟩
      rw [← hsz3] at HN3 HGL HSZ
      clear hW3 hg3 hb3 hsz3 HO HB
      go_upto_region 7 with (at_make; refine wpList_madeD _ rfl _ _ 55 rfl 4 i1 (.bool false) rfl Try.underlying55 hi1 hs0 hs1 _ _ pn rfl rfl (by rw [hs2]; omega) (by omega) ?_)
      rw [← HW3.out, ← HG3.out]
      clear HW3 HG3
      go_wp2
      go_loopg [10, 11, 12] pn (fun g2 v10 _v11 _v12 wq => ∃ v : Nat, v10 = .int .i64 v ∧ s ≤ v ∧ v ≤ pn ∧ pn - v ≤ g2 ∧ Hid (OG Value.bool sz 4 wq (.slice (some ⟨g3', 0, none⟩) pn pn) (rowB pn (nxB P s (wkB P s i) v 0))) ∧ Hid (OG Value.bool w.heap.size 4 wq (.slice (some ⟨g, 0, none⟩) pn pn) (rowB pn (wkB P s i))) ∧ Hid (Below w.heap.size w wq))
      case atStart => exact ⟨s, rfl, Nat.le_refl _, by omega, by omega, HN3, HA3, HB3⟩
      case round =>
        clear HN3 HA3 HB3
        obtain ⟨v, rfl, hsv, hvn, hg2, HN4, HA4, HB4⟩ := hrel
        by_cases hlv : v < pn
        · have hlvz : (v : Int) < (pn : Int) := by omega
          obtain ⟨x, gp, op, hx1, rfl, hx2w⟩ := (HR.out w (Below.refl _ _)).out.at hlv
          have HXR : Hid (∀ W, Below w.heap.size w W → RG (Value.int .i64) W x (P.getD v [])) := fun W hW => (HR.out W hW).inn v x hx1
          obtain ⟨xo, xn, xc, rfl⟩ : ∃ o n c, x = .slice o n c := by obtain ⟨ao, cap, e⟩ := (HXR.out w (Below.refl _ _)).sl; exact ⟨_, _, _, e⟩
          have hxr := (HXR.out w (Below.refl _ _)).room
          unfold maxLen at hxr
          have HXN : Hid ((P.getD v []).length = xn) := (HXR.out w (Below.refl _ _)).len
          have HXC : Hid (∀ W, Below w.heap.size w W → W.cell? ⟨gp, op + v, none⟩ = some (.slice xo xn xc)) := fun W hW => keepR hW hx2w
          clear hx1 hx2w
          go_wp2
          go_loopg [11, 12] xn (fun g3 v11 _v12 wq => ∃ k : Nat, v11 = .int .i64 k ∧ k ≤ xn ∧ xn - k ≤ g3 ∧ Hid (OG Value.bool sz 4 wq (.slice (some ⟨g3', 0, none⟩) pn pn) (rowB pn (nxB P s (wkB P s i) v k))) ∧ Hid (OG Value.bool w.heap.size 4 wq (.slice (some ⟨g, 0, none⟩) pn pn) (rowB pn (wkB P s i))) ∧ Hid (Below w.heap.size w wq))
          case atStart => exact ⟨0, rfl, by omega, by omega, HN4, HA4, HB4⟩
          case round =>
            clear HN4 HA4 HB4
            obtain ⟨k, rfl, hkn, hg4, HN5, HA5, HB5⟩ := hrel
            have hx2 := HXC.out wr HB5.out
            by_cases hlk : k < xn
            · have hlkz : (k : Int) < (xn : Int) := by omega
              obtain ⟨y, gx, ox, hy1, rfl, hy2⟩ := (HXR.out wr HB5.out).at hlk
              obtain ⟨p, rfl, hp⟩ := HWF.out v y (List.mem_of_getElem? hy1)
              rw [HN.out] at hp
              have hpz : (p : Int) < (pn : Int) := by omega
              obtain ⟨b0, hb0⟩ : ∃ b, b = nxB P s (wkB P s i) v k v := ⟨_, rfl⟩
              obtain ⟨c0, hc0⟩ : ∃ c, c = wkB P s i p := ⟨_, rfl⟩
              have hnc := HN5.out.cell (rowB_get (f := nxB P s (wkB P s i) v k) hlv)
              rw [← hb0] at hnc
              obtain ⟨hn1, hn2⟩ := hnc
              have hac := (HA5.out.cell (rowB_get (f := wkB P s i) hp)).1
              rw [← hc0] at hac
              have HSET : Hid (∀ b : Bool, b = (b0 || (decide ((s : Int) ≤ (p : Int)) && c0)) → OG Value.bool sz 4 (wr.setCell ⟨g3', v, none⟩ (.bool b)) (.slice (some ⟨g3', 0, none⟩) pn pn) (rowB pn (nxB P s (wkB P s i) v (k + 1)))) := fun b hb => by
                have h1 := (HN5.out.set (rowB_len _ _) v b).1
                rw [rowB_set] at h1
                have e : rowB pn (nxB P s (wkB P s i) v (k + 1)) = rowB pn (fun u => if u = v then b else nxB P s (wkB P s i) v k u) := rowB_congr fun u _ => by
                  rw [← nxB_step hy1 u, hb, hb0, hc0, Int.toNat_natCast]
                rw [e]; exact h1
              have HGG : Hid (g ≠ g3') := fun e => by have := (HN5.out.lt g3' rfl).1; have := HGL.out; omega
              have HAS : Hid (∀ b : Bool, OG Value.bool w.heap.size 4 (wr.setCell ⟨g3', v, none⟩ (.bool b)) (.slice (some ⟨g, 0, none⟩) pn pn) (rowB pn (wkB P s i))) := fun b => HA5.out.of_blocks fun q hq => Below.heap_setCell _ _ _ _ (fun e => HGG.out (by
                have e1 : g = q := by simpa [Value.ownBlock] using hq
                rw [e1]; exact e))
              have HBS : Hid (∀ b : Bool, Below w.heap.size w (wr.setCell ⟨g3', v, none⟩ (.bool b))) := fun b => HB5.out.setCell (p := ⟨g3', v, none⟩) (Nat.le_trans HSZ.out (HN5.out.lt g3' rfl).1) _
              clear hy1 hb0 hc0
              rcases b0 with _ | _
              · by_cases hps : (s : Int) ≤ (p : Int)
                · have hps2 : (p : Int) ≥ (s : Int) := hps
                  rcases c0 with _ | _
                  · have HN6 := HSET.out false (by simp [hps])
                    have HA6 := HAS.out false
                    have HB6 := HBS.out false
                    obtain ⟨WN, hWN⟩ : ∃ W, W = wr.setCell ⟨g3', v, none⟩ (.bool false) := ⟨_, rfl⟩
                    rw [← hWN] at HN6 HA6 HB6
                    have HN7 : Hid (OG Value.bool sz 4 WN (.slice (some ⟨g3', 0, none⟩) pn pn) (rowB pn (nxB P s (wkB P s i) v (k + 1)))) := HN6
                    have HA7 : Hid (OG Value.bool w.heap.size 4 WN (.slice (some ⟨g, 0, none⟩) pn pn) (rowB pn (wkB P s i))) := HA6
                    have HB7 : Hid (Below w.heap.size w WN) := HB6
                    have HWN : Hid (WN = wr.setCell ⟨g3', v, none⟩ (.bool false)) := hWN
                    clear hWN HN6 HA6 HB6 HSET HAS HBS HN5 HA5 HB5
                    go_wp2
                    rw [← HWN.out]
                    clear HWN hn1 hn2 hac hx2 hy2
                    go_roundg (xn - (k + 1))
                    case measure => omega
                    case rel => exact ⟨k + 1, by first | rfl | go_num, by omega, Nat.le_refl _, HN7, HA7, HB7⟩
                  · have HN6 := HSET.out true (by simp [Int.ofNat_le.1 hps])
                    have HA6 := HAS.out true
                    have HB6 := HBS.out true
                    obtain ⟨WN, hWN⟩ : ∃ W, W = wr.setCell ⟨g3', v, none⟩ (.bool true) := ⟨_, rfl⟩
                    rw [← hWN] at HN6 HA6 HB6
                    have HN7 : Hid (OG Value.bool sz 4 WN (.slice (some ⟨g3', 0, none⟩) pn pn) (rowB pn (nxB P s (wkB P s i) v (k + 1)))) := HN6
                    have HA7 : Hid (OG Value.bool w.heap.size 4 WN (.slice (some ⟨g, 0, none⟩) pn pn) (rowB pn (wkB P s i))) := HA6
                    have HB7 : Hid (Below w.heap.size w WN) := HB6
                    have HWN : Hid (WN = wr.setCell ⟨g3', v, none⟩ (.bool true)) := hWN
                    clear hWN HN6 HA6 HB6 HSET HAS HBS HN5 HA5 HB5
                    go_wp2
                    rw [← HWN.out]
                    clear HWN hn1 hn2 hac hx2 hy2
                    go_roundg (xn - (k + 1))
                    case measure => omega
                    case rel => exact ⟨k + 1, by first | rfl | go_num, by omega, Nat.le_refl _, HN7, HA7, HB7⟩
                · have hps2 : ¬ (p : Int) ≥ (s : Int) := hps
                  have HN6 := HSET.out false (by simp ; omega)
                  have HA6 := HAS.out false
                  have HB6 := HBS.out false
                  obtain ⟨WN, hWN⟩ : ∃ W, W = wr.setCell ⟨g3', v, none⟩ (.bool false) := ⟨_, rfl⟩
                  rw [← hWN] at HN6 HA6 HB6
                  have HN7 : Hid (OG Value.bool sz 4 WN (.slice (some ⟨g3', 0, none⟩) pn pn) (rowB pn (nxB P s (wkB P s i) v (k + 1)))) := HN6
                  have HA7 : Hid (OG Value.bool w.heap.size 4 WN (.slice (some ⟨g, 0, none⟩) pn pn) (rowB pn (wkB P s i))) := HA6
                  have HB7 : Hid (Below w.heap.size w WN) := HB6
                  have HWN : Hid (WN = wr.setCell ⟨g3', v, none⟩ (.bool false)) := hWN
                  clear hWN HN6 HA6 HB6 HSET HAS HBS HN5 HA5 HB5
                  go_wp2
                  rw [← HWN.out]
                  clear HWN hn1 hn2 hac hx2 hy2
                  go_roundg (xn - (k + 1))
                  case measure => omega
                  case rel => exact ⟨k + 1, by first | rfl | go_num, by omega, Nat.le_refl _, HN7, HA7, HB7⟩
              · have HN6 := HSET.out true (by simp )
                have HA6 := HAS.out true
                have HB6 := HBS.out true
                obtain ⟨WN, hWN⟩ : ∃ W, W = wr.setCell ⟨g3', v, none⟩ (.bool true) := ⟨_, rfl⟩
                rw [← hWN] at HN6 HA6 HB6
                have HN7 : Hid (OG Value.bool sz 4 WN (.slice (some ⟨g3', 0, none⟩) pn pn) (rowB pn (nxB P s (wkB P s i) v (k + 1)))) := HN6
                have HA7 : Hid (OG Value.bool w.heap.size 4 WN (.slice (some ⟨g, 0, none⟩) pn pn) (rowB pn (wkB P s i))) := HA6
                have HB7 : Hid (Below w.heap.size w WN) := HB6
                have HWN : Hid (WN = wr.setCell ⟨g3', v, none⟩ (.bool true)) := hWN
                clear hWN HN6 HA6 HB6 HSET HAS HBS HN5 HA5 HB5
                go_wp2
                rw [← HWN.out]
                clear HWN hn1 hn2 hac hx2 hy2
                go_roundg (xn - (k + 1))
                case measure => omega
                case rel => exact ⟨k + 1, by first | rfl | go_num, by omega, Nat.le_refl _, HN7, HA7, HB7⟩
            · have hlkz : ¬ (k : Int) < (xn : Int) := by omega
              have HN6 : Hid (OG Value.bool sz 4 wr (.slice (some ⟨g3', 0, none⟩) pn pn) (rowB pn (nxB P s (wkB P s i) (v + 1) 0))) := by
                show OG _ _ _ _ _ _
                rw [← rowB_congr (fun u _ => nxB_next (P := P) (f := wkB P s i) hsv (k := k) (by rw [HXN.out]; omega) u)]
                exact HN5.out
              clear HN5
              go_wp2
              go_roundg (pn - (v + 1))
              case measure => omega
              case rel => exact ⟨v + 1, by first | rfl | go_num, by omega, by omega, Nat.le_refl _, HN6, HA5, HB5⟩
        · have hlvz : ¬ (v : Int) < (pn : Int) := by omega
          obtain rfl : v = pn := by omega
          have HN6 : Hid (OG Value.bool w.heap.size 4 wr (.slice (some ⟨g3', 0, none⟩) v v) (rowB v (wkB P s (i + 1)))) := by
            show OG _ _ _ _ _ _
            rw [← rowB_congr (fun u hu => nxB_end (P := P) (s := s) (i := i) hu)]
            exact HN4.out.mono HSZ.out
          clear HN4 HA4
          go_wp2
          go_roundg (n - (i + 1))
          case measure => omega
          case rel => exact ⟨i + 1, g3', by first | rfl | go_num, rfl, by omega, Nat.le_refl _, HN6, HB4⟩
    · have hltz : ¬ (i : Int) < (n : Int) := by omega
      obtain rfl : i = n := by omega
      go_wp2
      go_ret
      exact ⟨g, rfl, HO.out, HB.out⟩
end Go.Proofs.Ytmgbhbdcnciccaa

/-
  Proved here: rows of numbers that are a call's own, appended to; a list of ints that was handed in; the law's bases.
-/
import Derived.Test.YtfanomoijjjcmaaRadE
import Derived.Test.YtfanomoijjjcmaaRadBackM
import Derived.OwnWalk
import Derived.OpenShut
namespace Go.Proofs.Ytfanomoijjjcmaa
open Go.RowKit Go.Shelf

/-- A row of numbers of the call's own. -/
def OwnK (k : IntKind) (B e : Nat) (w : World) (v : Value) (zs : List Int) : Prop := w.ownsRow B e 1 v zs.length (zs.map (Value.int k))
theorem OwnK.of_nil (k : IntKind) (B e : Nat) (w : World) : OwnK k B e w (.slice none 0 0) [] := World.ownsRow_nil _ _ _ _
theorem OwnK.below {k : IntKind} {B e : Nat} {w w' : World} {v : Value} {zs : List Int} (h : OwnK k B e w v zs) (hb : Below w.heap.size w w') : OwnK k B e w' v zs := by
  obtain ⟨h1, h2⟩ := h
  refine ⟨h1, ?_⟩
  rcases h2 with h2 | ⟨g, cap, cur, rfl, h3, h4, h5⟩
  · exact Or.inl h2
  · exact Or.inr ⟨g, cap, cur, rfl, h3, by rw [hb.block g (Array.getElem?_eq_some_iff.1 h4).1]; exact h4, h5⟩
theorem OwnK.sl {k : IntKind} {B e : Nat} {w : World} {v : Value} {zs : List Int} (h : OwnK k B e w v zs) : ∃ ao cap, v = .slice ao zs.length cap ∧ (0 < zs.length → ∃ g, B ≤ g ∧ ao = some ⟨g, 0, none⟩) ∧ zs.length ≤ cap ∧ cap ≤ maxLen ∧ (ao = none → cap = 0) := by
  rcases h.2 with ⟨rfl, h0⟩ | ⟨g, cap, cur, rfl, h3, h4, h5, h6, h7, h8⟩
  · exact ⟨none, 0, by rw [h0], fun h => by omega, by omega, by simp, fun _ => rfl⟩
  · exact ⟨_, cap, rfl, fun _ => ⟨g, h3, rfl⟩, h5, h6, fun h => by simp at h⟩
theorem OwnK.push {k : IntKind} {B e : Nat} {w w' wr : World} {v v' : Value} {zs : List Int} {z : Int} {o : Obj} (hv : OwnK k B e wr v zs) (hbel : Below B w wr) (hB : B ≤ wr.heap.size)
    (ho : w'.ownsRow B e 1 v' (zs.length + 1) (zs.map (Value.int k) ++ [.int k z])) (hg : (wr.alloc o).grownBy w' v.ownBlock) :
    OwnK k B e w' v' (zs ++ [z]) ∧ Below B w w' ∧ B ≤ w'.heap.size := by
  have hsz : (wr.alloc o).heap.size = wr.heap.size + 1 := by simp
  have hbel2 : Below B (wr.alloc o) w' := (Below.refl B (wr.alloc o)).grown hg (by omega) (fun g e => (World.ownsRow.lt hv g e).1)
  refine ⟨?_, (hbel.alloc hB o).trans hbel2, by have := hbel2.size; omega⟩
  unfold OwnK
  rw [List.length_append, List.map_append]
  exact ho
theorem rk_of_ints {W : World} {x : Addr} {len cap : Nat} {zs : List Int} (hl : len ≤ cap) (hm : cap ≤ maxLen) (hz : zs.length = cap)
    (hcell : ∀ i, i < zs.length → W.cell? (x.add i) = some (.int .i64 (zs.getD i 0))) (hwz : ∀ n ∈ zs, (Lit.int .i64 n).wf = true) : ∃ ys, ys.length = len ∧ RK .i64 W (.slice (some x) len cap) ys := by
  have hlen : (zs.take len).length = len := by simp; omega
  have hget : ∀ i, i < len → (zs.take len).getD i 0 = zs.getD i 0 := fun i hi => by
    rw [List.getD_eq_getElem?_getD, List.getD_eq_getElem?_getD, List.getElem?_take_of_lt hi]
  refine ⟨zs.take len, hlen, some x, cap, by rw [hlen], by rw [hlen]; exact hl, hm, fun h => by simp at h, fun i hi => ?_, fun i hi => ?_⟩
  · rw [hlen] at hi
    rw [hget i hi]
    have hiz : i < zs.length := by omega
    have h1 := hwz _ (List.getElem_mem hiz)
    have h1 : IntKind.i64.min ≤ zs[i] ∧ zs[i] ≤ IntKind.i64.max := by simpa [Lit.wf] using h1
    rw [List.getD_eq_getElem?_getD, List.getElem?_eq_getElem hiz]
    exact h1
  · rw [hlen] at hi
    have hc := hcell i (by omega)
    obtain ⟨b, off, spot⟩ := x
    have hspot : spot = none := by
      have := World.cell?_spot (hcell 0 (by omega))
      simpa [Addr.add] using this
    subst hspot
    refine ⟨b, off, rfl, ?_⟩
    rw [Addr.add_lit] at hc
    rw [hc, hget i hi]
theorem bs_take (l : List Int) (i : Nat) (h : i < 7) (h2 : i < l.length) : (bs l).take (i + 1) = (bs l).take i ++ [l.getD i 0 % 9 + 1] := by
  have hb : i < (bs l).length := by simp [bs]; omega
  rw [List.take_succ_eq_append_getElem hb]
  congr 1
  have := bs_get l i hb
  rw [List.getD_eq_getElem?_getD, List.getElem?_eq_getElem hb] at this
  simpa using this
theorem rem_nine (z : Int) : -9 < z.tmod 9 ∧ z.tmod 9 < 9 ∧ (z.tmod 9 < 0 → z.tmod 9 + 9 = z % 9) ∧ (0 ≤ z.tmod 9 → z.tmod 9 = z % 9) := by
  rcases Int.le_total 0 z with h | h
  · rw [Int.tmod_eq_emod_of_nonneg h]; omega
  · obtain ⟨y, rfl⟩ : ∃ y, z = -y := ⟨-z, by omega⟩
    rw [Int.neg_tmod, Int.tmod_eq_emod_of_nonneg (by omega)]; omega
theorem cell_oneR (w : World) (v : Value) (e : Nat) : ∀ j u, [v][j]? = some u → (w.alloc (.cells #[v] e)).cell? ((⟨w.heap.size, 0, none⟩ : Addr).add j) = some u := by
  intro j u hj
  match j, hj with
  | 0, hj =>
    simp only [List.getElem?_cons_zero, Option.some.injEq] at hj
    subst hj
    rw [Addr.add_lit, World.cell?_alloc_at _ _ _ _ rfl]; rfl
  | n + 1, hj => simp at hj
set_option maxRecDepth 100000 in
set_option maxHeartbeats 1600000 in
theorem bases_any (v : Value) (l : List Int) (w : World) (hv : RK .i64 w v l) :
    Calls Try.prog 21 #[v] w fun e w' => ∃ u, e = .returned u ∧ OwnK .i64 w.heap.size 3 w' u (bs l) ∧ Below w.heap.size w w' := by
  have hv' := fun w' (h : Below w.heap.size w w') => hv.below (Nat.le_refl _) h
  obtain ⟨ao, cap, rfl, hc, hm, hnil, hbd, hcell⟩ := hv
  clear hnil hcell
  unfold maxLen at hm
  obtain ⟨i0, hi, hz0, hz1, hz2⟩ := info_parts Try.infoI
  obtain ⟨n, hn⟩ : ∃ n, l.length = n := ⟨_, rfl⟩
  rw [hn] at hc hv' ⊢
  have HN : Hid (l.length = n) := hn
  clear hn
  go_enter Try.func21, Try.ntmps21
  go_wp2
  go_loopw [3, 4] (fun u t wr => ∃ k : Nat, k ≤ 7 ∧ k ≤ n ∧ t = .int .i64 k ∧ OwnK .i64 w.heap.size 3 wr u ((bs l).take k) ∧ Below w.heap.size w wr ∧ w.heap.size ≤ wr.heap.size) (fun _ t _ => 7 - (intOf t).toNat)
  case atStart => exact ⟨0, by omega, Nat.zero_le _, rfl, OwnK.of_nil _ _ _ _, Below.refl _ _, Nat.le_refl _⟩
  case round =>
    obtain ⟨k, hk7, hkn, rfl, how, hbel, hB1⟩ := hrel
    by_cases hlt : k < n
    · have hltI : (k : Int) < (n : Int) := by omega
      by_cases h7 : k < 7
      · have h7I : (k : Int) < 7 := by omega
        obtain ⟨ao', cap', e', -, -, -, -, hcell⟩ := hv' wr hbel
        simp only [Value.slice.injEq] at e'
        obtain ⟨rfl, -, rfl⟩ := e'
        obtain ⟨b, off, rfl, hc0⟩ := hcell k (by rw [HN.out]; exact hlt)
        obtain ⟨hx1, hx2⟩ := hbd k (by rw [HN.out]; exact hlt)
        rw [min_i64] at hx1
        rw [max_i64] at hx2
        have HT : Hid ((bs l).take (k + 1) = (bs l).take k ++ [l.getD k 0 % 9 + 1]) := bs_take l k h7 (by rw [HN.out]; exact hlt)
        have hlk : ((bs l).take k).length = k := by rw [List.length_take]; have : (bs l).length = min 7 l.length := by simp [bs]
                                                    rw [this, HN.out]; omega
        have HO : Hid (wr.ownsRow w.heap.size 3 1 u3 k (((bs l).take k).map (Value.int .i64))) := by have := how; unfold OwnK at this; rw [hlk] at this; exact this
        have HH : Hid (OwnK .i64 w.heap.size 3 wr u3 ((bs l).take k)) := how
        have HL : Hid (((bs l).take k).length = k) := hlk
        clear hcell hbd hv' how hlk
        generalize l.getD k 0 = x at *
        obtain ⟨r1, r2, r3, r4⟩ := rem_nine x
        have hB3 : ∀ o, w.heap.size ≤ (wr.alloc o).heap.size := fun o => by simp; omega
        obtain ⟨y, hy⟩ : ∃ y, x.tmod 9 = y := ⟨_, rfl⟩
        rw [hy] at r1 r2 r3 r4
        have HR3 : Hid (y < 0 → y + 9 = x % 9) := r3
        have HR4 : Hid (0 ≤ y → y = x % 9) := r4
        clear r3 r4
        by_cases hneg : y < 0
        · go_wp2_with (at_builtin; refine wpList_append_own _ rfl _ _ 25 rfl w.heap.size 3 i0 (.int .i64 0) 1 8 Try.underlying25 hi hz0 hz1 hz2 rfl (by decide) _ k (((bs l).take k).map (Value.int .i64)) rfl (HO.out.alloc _) ⟨wr.heap.size, 0, none⟩ 1 1 [.int .i64 (y + 9 + 1)] rfl rfl (cell_oneR _ _ _) (fun u hu => by simp at hu; subst hu; rfl) (by unfold maxLen; omega) (by omega) (hB3 _) ?_)
          intro v' w1 ho hgr _
          have R := HH.out.push hbel hB1 (z := y + 9 + 1) (by rw [HL.out, List.map_take]; exact ho) hgr
          rw [HR3.out hneg, ← HT.out] at R
          clear ho hgr HH HO
          go_wp2
          go_roundw
          case rel => exact ⟨k + 1, by omega, by omega, by go_num, R.1, R.2.1, R.2.2⟩
          case measure => simp [intOf]; omega
        · go_wp2_with (at_builtin; refine wpList_append_own _ rfl _ _ 25 rfl w.heap.size 3 i0 (.int .i64 0) 1 8 Try.underlying25 hi hz0 hz1 hz2 rfl (by decide) _ k (((bs l).take k).map (Value.int .i64)) rfl (HO.out.alloc _) ⟨wr.heap.size, 0, none⟩ 1 1 [.int .i64 (y + 1)] rfl rfl (cell_oneR _ _ _) (fun u hu => by simp at hu; subst hu; rfl) (by unfold maxLen; omega) (by omega) (hB3 _) ?_)
          intro v' w1 ho hgr _
          have R := HH.out.push hbel hB1 (z := y + 1) (by rw [HL.out, List.map_take]; exact ho) hgr
          rw [HR4.out (by omega), ← HT.out] at R
          clear ho hgr HH HO
          go_wp2
          go_roundw
          case rel => exact ⟨k + 1, by omega, by omega, by go_num, R.1, R.2.1, R.2.2⟩
          case measure => simp [intOf]; omega
      · have h7I : ¬ (k : Int) < 7 := by omega
        have hall : (bs l).take k = bs l := List.take_of_length_le (by have := (bs_len l).1; omega)
        rw [hall] at how
        clear hv' hbd hall
        go_wp2
        go_ret
        exact ⟨_, rfl, how, hbel⟩
    · have hltI : ¬ (k : Int) < (n : Int) := by omega
      have hall : (bs l).take k = bs l := List.take_of_length_le (by have := (bs_len l).2; have := HN.out; omega)
      rw [hall] at how
      clear hv' hbd hall
      go_wp2
      go_ret
      exact ⟨_, rfl, how, hbel⟩
end Go.Proofs.Ytfanomoijjjcmaa

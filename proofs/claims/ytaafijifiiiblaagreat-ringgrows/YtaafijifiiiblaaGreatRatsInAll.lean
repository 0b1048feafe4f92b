/-
  Proved here: a slice of limbs that was handed in is a number that can be read.
  Proved here: a fraction that is handed in by value, opened. No condition.
  Proved here: a list of fractions that is handed in, opened. No condition.
-/
import Derived.Test.YtaafijifiiiblaaGreatTrimAll
import Derived.OpenShut
import Derived.ProofKit
import Derived.ShutString
import Derived.ChangeOld
import Derived.Lib.SmallJoins
import Derived.Test.YtaafijifiiiblaaGreatSimp1All
import Derived.Deep.Slices
namespace Go.Proofs.YtaafijifiiiblaaGreat
open Go.RowKit

theorem num_of_ints {W : World} {x : Addr} {len cap : Nat} {zs : List Int} (hl : len ≤ cap) (hm : cap ≤ maxLen) (hz : zs.length = cap)
    (hcell : ∀ i, i < zs.length → W.cell? (x.add i) = some (.int .u32 (zs.getD i 0))) (hwz : ∀ n ∈ zs, (Lit.int .u32 n).wf = true) : ∃ xs, Num W (.slice (some x) len cap) xs := by
  have hlen : ((zs.take len).map Int.toNat).length = len := by simp; omega
  refine ⟨(zs.take len).map Int.toNat, ?_, some x, cap, by rw [hlen], by rw [hlen]; exact hl, hm, fun h => by simp at h, fun j hj => ?_⟩
  · intro y hy
    obtain ⟨z, hz', rfl⟩ := List.mem_map.1 hy
    have := bounds_u32 (hwz z (List.mem_of_mem_take hz'))
    omega
  · rw [hlen] at hj
    have hc := hcell j (by omega)
    obtain ⟨b, off, spot⟩ := x
    have hspot : spot = none := by
      have := World.cell?_spot (hcell 0 (by omega))
      simpa [Addr.add] using this
    subst hspot
    refine ⟨b, off, rfl, ?_⟩
    rw [Addr.add_lit] at hc
    rw [hc]
    have hjz : j < zs.length := by omega
    have hb := bounds_u32 (hwz _ (List.getElem_mem hjz))
    simp only [List.getD_eq_getElem?_getD, List.getElem?_eq_getElem hjz, List.getElem?_map, List.getElem?_take_of_lt hj, Option.map_some, Option.getD_some, U]
    rw [Int.toNat_of_nonneg hb.1]
end Go.Proofs.YtaafijifiiiblaaGreat

namespace Go.Proofs.YtaafijifiiiblaaGreat
open Go.ChangeShapes Go.WideShapes Go.ChangeAt Go.RowKit

theorem open_nat {H : Type} {enc : TypeId × Value → H} {W : World} {n : Nat} {c : Value} {y : DataW H × List MemPlace} (h : DataW.trod enc Tryz.prog W 0 (fun _ => true) true n 23 [c] = some y) : ∃ ao l cap xs, c = .slice ao l cap ∧ Num W (.slice ao l cap) xs := by
  rcases open_ints Tryz.underlying23 Tryz.underlying100 (by kernel_rfl) h with ⟨hcs, _⟩ | ⟨x, l, c, zs, hcs, _, hl, hm, hz, _, hcell, hwz⟩
  · simp only [List.cons.injEq, and_true] at hcs
    exact ⟨_, _, _, [], hcs, Num.of_nil _⟩
  · simp only [List.cons.injEq, and_true] at hcs
    obtain ⟨xs, hn⟩ := num_of_ints hl hm (by simpa using hz) hcell hwz
    exact ⟨_, _, _, xs, hcs, hn⟩
set_option maxRecDepth 100000 in
theorem open_rat {H : Type} {enc : TypeId × Value → H} {W : World} {b0 : Nat} {r : Reach} {v : Value} {d : DataW H} {p : List MemPlace} (hv : Value.okWide Tryz.prog W r b0 27 v) (h : DataW.Trod enc Tryz.prog W 0 (fun _ => true) true 27 v d p) :
    ∃ n ao bo al ac bl bc xs ys, v = .agg #[.bool n, .slice ao al ac, .slice bo bl bc] ∧ Num W (.slice ao al ac) xs ∧ Num W (.slice bo bl bc) ys := by
  obtain ⟨cs, rfl, hsz⟩ := okWide_struct Tryz.underlying27 hv
  obtain ⟨c0, c1, c2, rfl⟩ := Joins.array3 (hsz.trans (show Tryz.prog.cellsOf 27 = 3 by kernel_rfl))
  obtain ⟨fuel, hf⟩ := h
  obtain ⟨y0, y1, n, _, _, h0, h1⟩ := trod_struct2 Tryz.underlying27 hf
  have e0 : Tryz.prog.cellsOf 25 = 2 := by kernel_rfl
  have e1 : Tryz.prog.cellsOf 23 = 1 := by kernel_rfl
  have e2 : Tryz.prog.cellsOf 4 = 1 := by kernel_rfl
  have k0 : DataW.trod enc Tryz.prog W 0 (fun _ => true) true n 25 [c0, c1] = some y0 := by simpa [Value.cells, e0] using h0
  have k1 : DataW.trod enc Tryz.prog W 0 (fun _ => true) true n 23 [c2] = some y1 := by simpa [Value.cells, e1] using h1
  obtain ⟨z0, z1, n2, _, _, m0, m1⟩ := trod_struct2 Tryz.underlying25 k0
  have l0 : DataW.trod enc Tryz.prog W 0 (fun _ => true) true n2 4 [c0] = some z0 := by simpa [e2] using m0
  have l1 : DataW.trod enc Tryz.prog W 0 (fun _ => true) true n2 23 [c1] = some z1 := by simpa [e1] using m1
  obtain ⟨g, eg, _⟩ := DataW.trod_bool Tryz.underlying4 l0
  simp only [List.cons.injEq, and_true] at eg
  obtain ⟨ao, al, ac, xs, rfl, hx⟩ := open_nat l1
  obtain ⟨bo, bl, bc, ys, rfl, hy⟩ := open_nat k1
  subst eg
  exact ⟨g, ao, bo, al, ac, bl, bc, xs, ys, rfl, hx, hy⟩
end Go.Proofs.YtaafijifiiiblaaGreat

namespace Go.Proofs.YtaafijifiiiblaaGreat
open Go.ChangeShapes Go.WideShapes Go.ChangeAt Go.RowKit

set_option maxRecDepth 100000 in
theorem open_rat_cells {H : Type} {enc : TypeId × Value → H} {W : World} {n : Nat} {cs : List Value} {y : DataW H × List MemPlace} (hf : DataW.trod enc Tryz.prog W 0 (fun _ => true) true n 27 cs = some y) :
    ∃ f : FV, cs = f.cells ∧ f.At W := by
  obtain ⟨y0, y1, n, _, hl, h0, h1⟩ := trod_struct2 Tryz.underlying27 hf
  rw [show Tryz.prog.cellsOf 27 = 3 by kernel_rfl] at hl
  match cs, hl with
  | [c0, c1, c2], _ =>
    have e0 : Tryz.prog.cellsOf 25 = 2 := by kernel_rfl
    have e1 : Tryz.prog.cellsOf 23 = 1 := by kernel_rfl
    have e2 : Tryz.prog.cellsOf 4 = 1 := by kernel_rfl
    have k0 : DataW.trod enc Tryz.prog W 0 (fun _ => true) true n 25 [c0, c1] = some y0 := by simpa [e0] using h0
    have k1 : DataW.trod enc Tryz.prog W 0 (fun _ => true) true n 23 [c2] = some y1 := by simpa [e1] using h1
    obtain ⟨z0, z1, n2, _, _, m0, m1⟩ := trod_struct2 Tryz.underlying25 k0
    have l0 : DataW.trod enc Tryz.prog W 0 (fun _ => true) true n2 4 [c0] = some z0 := by simpa [e2] using m0
    have l1 : DataW.trod enc Tryz.prog W 0 (fun _ => true) true n2 23 [c1] = some z1 := by simpa [e1] using m1
    obtain ⟨g, eg, _⟩ := DataW.trod_bool Tryz.underlying4 l0
    simp only [List.cons.injEq, and_true] at eg
    obtain ⟨ao, al, ac, xs, rfl, hx⟩ := open_nat l1
    obtain ⟨bo, bl, bc, ys, rfl, hy⟩ := open_nat k1
    subst eg
    exact ⟨⟨g, ao, al, ac, bo, bl, bc, xs, ys⟩, rfl, hx, hy⟩
theorem open_rats {H : Type} {enc : TypeId × Value → H} {W : World} {lo : Option Addr} {len cap : Nat} {d : DataW H} {p : List MemPlace} (h : DataW.Trod enc Tryz.prog W 0 (fun _ => true) true 36 (.slice lo len cap) d p) :
    ∃ F : Nat → FV, FRow W lo len F ∧ len ≤ maxLen := by
  obtain ⟨fuel, hf⟩ := h
  rcases Deep.open_slice Tryz.underlying36 hf with ⟨hcs, _⟩ | ⟨a, l, c, m, n, D, Pl, hcs, _, hl, hm, hmm, _, hx⟩
  · simp [Value.cells] at hcs
    obtain ⟨rfl, rfl, rfl⟩ := hcs
    exact ⟨fun _ => default, FRow.nil _ _ _, by unfold maxLen; omega⟩
  · simp [Value.cells] at hcs
    obtain ⟨rfl, rfl, rfl⟩ := hcs
    rw [show Tryz.prog.cellsOf 27 = 3 by kernel_rfl] at hx
    rw [if_pos rfl] at hmm
    obtain ⟨b, off, spot⟩ := a
    have key : ∀ i, i < len → ∃ f : FV, (∃ b' off', (some ⟨b, off, spot⟩ : Option Addr) = some ⟨b', off', none⟩ ∧ W.cell? ⟨b', off' + i * 3, none⟩ = some (.bool f.n) ∧ W.cell? ⟨b', off' + i * 3 + 1, none⟩ = some (.slice f.ao f.al f.ac) ∧ W.cell? ⟨b', off' + i * 3 + 2, none⟩ = some (.slice f.bo f.bl f.bc)) ∧ f.At W := by
      intro i hi
      have hs : spot = none := by
        obtain ⟨cs', h1, h2⟩ := hx 0 (by omega)
        obtain ⟨f, rfl, _⟩ := open_rat_cells h2
        have := (World.cells?_some h1).2.2 0 (by decide)
        have := World.cell?_spot (show W.cell? (((⟨b, off, spot⟩ : Addr).add (0 * 3)).add 0) = some (.bool f.n) from this)
        simpa [Addr.add] using this
      subst hs
      obtain ⟨cs', h1, h2⟩ := hx i (by omega)
      obtain ⟨f, rfl, hA⟩ := open_rat_cells h2
      have hc := (World.cells?_some h1).2.2
      have c : ∀ j u, j < 3 → f.cells[j]? = some u → W.cell? ⟨b, off + i * 3 + j, none⟩ = some u := fun j u hj hu => by
        have := hc j hj
        rw [Addr.add_lit, Addr.add_lit, hu] at this
        exact this
      exact ⟨f, ⟨b, off, rfl, c 0 _ (by decide) rfl, c 1 _ (by decide) rfl, c 2 _ (by decide) rfl⟩, hA⟩
    obtain ⟨F, hF⟩ := Deep.choose_lt key
    exact ⟨F, fun i hi => hF i hi, by omega⟩
end Go.Proofs.YtaafijifiiiblaaGreat

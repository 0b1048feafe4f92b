/-
  Proved here: what Int of package whole answers of a number that is an int.
  Proved here: what the plain way's ten answers.
-/
import Derived.Test.YtcbfhakolfcmgaaDoorWholeX3
import Derived.Test.YtcbfhakolfcmgaaDoorAlive0All
import Derived.Test.YtcbfhakolfcmgaaDoorDivBy
import Derived.Test.YtcbfhakolfcmgaaDoorRefParseAll
import Derived.Test.YtcbfhakolfcmgaaDoorLift
namespace Go.Proofs.YtcbfhakolfcmgaaDoor
open Go.RowKit

set_option maxRecDepth 100000 in
set_option maxHeartbeats 3200000 in
theorem c_int {a : Value} {x : Int} {w : World} (ha : INum w a x) (h1 : -9223372036854775808 ≤ x) (h2 : x ≤ 9223372036854775807) :
    Calls Tryd.prog 7 #[a] w fun e w' => e = .returned (.tuple #[.int .i64 x, .bool true]) ∧ Below w.heap.size w w' := by
  obtain ⟨na, ao, al, ac, xs, rfl, u, l, hz⟩ := ha
  have u1 := u.below (Nat.le_refl _) (belowA w (.cells #[.bool na, .slice ao al ac] 25))
  have HE : Hid (Below w.heap.size w (w.alloc (.cells #[.bool na, .slice ao al ac] 25))) := belowA _ _
  obtain ⟨V, hV⟩ : ∃ V, V = val xs := ⟨_, rfl⟩
  have hva : V = x.natAbs := by rw [hV, ← hz, zv_abs]
  have HU := uint_yes _ _ _ u1 (by rw [← hV, hva]; omega)
  rw [← hV] at HU
  cases na
  · have hx : x = (V : Int) := by rw [← hz, hV]; rfl
    have HX : Hid ((V : Int) = x) := hx.symm
    have hv1 : (V : Int) ≤ 9223372036854775807 := by omega
    have hv2 : V ≤ 9223372036854775807 := by omega
    clear hx hva hV hz u u1 l
    go_enter Tryd.func7, Tryd.ntmps7
    go_wp2_with fail
    refine HU.mono ?_
    rintro e w2 ⟨rfl, rfl⟩
    clear HU
    go_wp2_with fail
    go_ret2
    exact ⟨by rw [← HX.out]; rfl, HE.out⟩
  · have hx : x = -(V : Int) := by rw [← hz, hV]; rfl
    have HX : Hid (-(V : Int) = x) := hx.symm
    have hv1 : (V : Int) ≤ 9223372036854775808 := by omega
    have hv2 : V ≤ 9223372036854775808 := by omega
    obtain ⟨U, hU⟩ : ∃ U : Int, U = IntKind.u64.wrap (-(V : Int)) := ⟨_, rfl⟩
    have e1 : IntKind.u64.wrap (-(V : Int)) = U := hU.symm
    have e2 : IntKind.i64.wrap U = x := by rw [hU, IntKind.wrap_u64, IntKind.wrap_i64]; omega
    clear hx hva hV hz u u1 l hU
    go_enter Tryd.func7, Tryd.ntmps7
    go_wp2_with fail
    refine HU.mono ?_
    rintro e w2 ⟨rfl, rfl⟩
    clear HU
    go_wp2_with fail
    go_ret2
    exact ⟨rfl, HE.out⟩
end Go.Proofs.YtcbfhakolfcmgaaDoor

namespace Go.Proofs.YtcbfhakolfcmgaaDoor
open Go.RowKit

/-- What ten leaves. -/
def TenEnd (w : World) (v : Nat) (e : Ending) (w' : World) : Prop :=
  ∃ o, e = .returned (.tuple #[o, .int .i64 ((v % 10 : Nat) : Int)]) ∧ Own w.heap.size 64 w' o (lim (v / 10)) ∧ Below w.heap.size w w'

set_option maxRecDepth 100000 in
set_option maxHeartbeats 1600000 in
theorem ten_ref (u : Value) (xs : List Nat) (w : World) (h : Num w u xs) (hlen : xs.length ≤ 1000000) :
    Calls Tryd.prog 75 #[u] w fun e w' => TenEnd w (val xs) e w' := by
  obtain ⟨hbx, ao, cap, rfl, hca, hma, _, hcell⟩ := h.open_
  obtain ⟨i0, hi, hz0, hz1, hz2⟩ := info_parts Tryd.infoU
  obtain ⟨n, hn⟩ : ∃ n, n = xs.length := ⟨_, rfl⟩
  rw [← hn] at hlen hca ⊢
  have HN : Hid (n = xs.length) := hn
  clear hn h
  go_enter Tryd.func75, Tryd.ntmps75
  go_wp2_with (at_make; refine wpList_make_full _ rfl _ _ 23 rfl w.heap.size 64 i0 (.int .u32 0) 1 Tryd.underlying23 hi hz0 hz1 _ _ _ _ n rfl rfl (by omega) (by omega) (by rw [hz2]; omega) (by unfold maxLen; omega) (Nat.le_refl _) ?_)
  intro w2 ho2 hg2
  have how := own_made ho2
  have hbel : Below w.heap.size w w2 := (Below.refl w.heap.size w).grown hg2 (Nat.le_refl _) (by intro k hk; simp at hk)
  obtain ⟨g, hg⟩ : ∃ g, g = w.heap.size := ⟨_, rfl⟩
  have HB : Hid (Below w.heap.size w w2 ∧ Cells w2 g (List.replicate n 0)) := by rw [hg]; exact ⟨hbel, how.cells⟩
  have HG : Hid (g = w.heap.size) := hg
  rw [← hg]
  clear hg hbel how ho2 hg2
  go_wp2
  go_loopw [5, 6] (fun lv t wr => ∃ (i l : Nat) (ys : List Nat), i ≤ n ∧ t = .int .i64 ((i : Int) - 1) ∧ lv = .int .u64 l ∧ l < 10 ∧ ys.length = n ∧ Cells wr g ys ∧ Below w.heap.size w wr ∧ val (ys.drop i) * 10 + l = val (xs.drop i)) (fun _ t _ => (intOf t + 1).toNat)
  case atStart =>
    refine ⟨n, 0, List.replicate n 0, Nat.le_refl _, rfl, rfl, by omega, by simp, HB.out.2, HB.out.1, ?_⟩
    rw [List.drop_of_length_le (by simp), List.drop_of_length_le (by rw [← HN.out]; exact Nat.le_refl _)]
    simp [val]
  case round =>
    clear HB
    obtain ⟨i, l, ys, hin, rfl, rfl, hlb, hyl, hcs, hbel, hinv⟩ := hrel
    have HY : Hid (ys.length = n) := hyl
    have HI : Hid (val (ys.drop i) * 10 + l = val (xs.drop i)) := hinv
    clear hyl hinv
    by_cases hi0 : 0 < i
    · obtain ⟨j, rfl⟩ : ∃ j, i = j + 1 := ⟨i - 1, by omega⟩
      rw [show ((j + 1 : Nat) : Int) - 1 = (j : Int) by omega]
      have hge : (0 : Int) ≤ (j : Int) := by omega
      have hjn : (j : Int) < (n : Int) := by omega
      obtain ⟨bb, bo, rfl, hx1⟩ := hcell j (by rw [← HN.out]; omega)
      have cx : wr.cell? ⟨bb, bo + j, none⟩ = some (.int .u32 ((xs.getD j 0 : Nat) : Int)) := by rw [hbel.cell (p := ⟨bb, bo + j, none⟩) (block_lt_of_cell hx1)]; exact hx1
      have hx0 := limb_lt hbx j
      obtain ⟨z, hz⟩ : ∃ z, z = xs.getD j 0 := ⟨_, rfl⟩
      rw [← hz] at cx hx0
      have HZ : Hid (z = xs.getD j 0) := hz
      obtain ⟨cz, hfz⟩ := hcs.cell (k := j) (by rw [HY.out]; omega)
      obtain ⟨y, hy⟩ : ∃ y, y = ys.getD j 0 := ⟨_, rfl⟩
      rw [← hy] at cz
      have hT1 : l * 4294967296 + z ≤ 42949672959 := by omega
      have hset := hcs.set j ((l * 4294967296 + z) / 10) (by omega)
      have hbel2 := hbel.setCell (p := ⟨g, j, none⟩) (by show _ ≤ g; rw [HG.out]; exact Nat.le_refl _) (U ((l * 4294967296 + z) / 10))
      rw [show U ((l * 4294967296 + z) / 10) = .int .u32 (((l : Int) * 4294967296 + (z : Int)) / 10) by simp [U]] at hset hbel2
      clear hz hy hcs hbel hcell hx1
      go_wp2
      go_roundw
      case rel =>
        refine ⟨j, (l * 4294967296 + z) % 10, _, by omega, by go_num, by go_num, by omega, by rw [List.length_set]; exact HY.out, hset, hbel2, ?_⟩
        exact div_by_step (by rw [HY.out]; omega) HI.out (by rw [← HZ.out]; omega)
      case measure => simp [intOf]
    · have hi1 : i = 0 := by omega
      subst hi1
      have hge : ¬ (0 : Int) ≤ ((0 : Nat) : Int) - 1 := by omega
      have hfin := HI.out
      rw [List.drop_zero, List.drop_zero] at hfin
      have h1 : val xs % 10 = l := by omega
      have h2 : val ys = val xs / 10 := by omega
      have hny : Num wr (.slice (some ⟨g, 0, none⟩) n n) ys := by
        have := (hcs.own (B := 0) (Nat.zero_le _) (by rw [HY.out]; omega)).num
        rw [HY.out] at this; exact this
      have HH : Hid (val xs % 10 = l ∧ val ys = val xs / 10) := ⟨h1, h2⟩
      clear h1 h2 hfin hcs hcell
      go_wp2_with fail
      refine (norm_ref _ _ _ hny (by rw [HY.out]; omega)).mono ?_
      rintro e w3 ⟨o, rfl, hoo, hb3⟩
      rw [HH.out.2] at hoo
      have HE : Hid (TenEnd w (val xs) (.returned (.tuple #[o, .int .i64 (l : Int)])) w3) := ⟨o, by rw [HH.out.1], hoo.mono hbel.size, hbel.trans (hb3.mono hbel.size)⟩
      clear hoo hb3 hbel hny
      go_wp2_with fail
      go_ret2
      exact HE.out
end Go.Proofs.YtcbfhakolfcmgaaDoor

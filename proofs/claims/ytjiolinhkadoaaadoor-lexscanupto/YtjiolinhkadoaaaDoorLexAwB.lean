/-
  Proved here: the law's awake.
-/
import Derived.Test.YtjiolinhkadoaaaDoorLexAwA
import Derived.Test.YtjiolinhkadoaaaDoorLexTold
import Derived.Test.YtjiolinhkadoaaaDoorLexScB
import Derived.Test.YtjiolinhkadoaaaDoorLexQ
namespace Go.Proofs.YtjiolinhkadoaaaDoor
open Go.RowKit
theorem nm_one : isNm ⟨#[97, 49]⟩ = true := by
  unfold isNm
  rw [runEnd_C]
  kernel_rfl
theorem nm_two : isNm ⟨#[49, 97]⟩ = false := by
  unfold isNm
  rw [runEnd_C]
  kernel_rfl
theorem q_one : quoteF ⟨#[97]⟩ = ⟨#[34, 97, 34]⟩ := by
  unfold quoteF
  rw [if_neg]
  · kernel_rfl
  · rintro ⟨j, hj, h⟩
    have hj' : j < 1 := hj
    obtain rfl : j = 0 := by omega
    exact absurd h (by decide)
set_option maxRecDepth 100000 in
set_option maxHeartbeats 3200000 in
theorem awake_yes (m : Int) (w : World) (hm : w.cell? ⟨1, 0, none⟩ = some (.int .i64 m)) (hg : ErrT w) :
    Calls Tryd.prog 9 #[] w fun e w' => e = .returned (.bool true) ∧ Below w.heap.size w w' := by
  have s1 := fun w hm => scan_any ⟨#[97, 10, 34, 120, 92, 34, 121, 34, 59, 32, 47, 47, 32, 115, 111]⟩ m w (by decide) hm
  have s2 := fun w hm => scan_any ⟨#[49, 46, 53, 101, 45, 51, 44, 50, 101]⟩ m w (by decide) hm
  unfold ScEnd at s1 s2
  rw [all_one] at s1
  rw [all_two] at s2
  go_enter Tryd.func9, Tryd.ntmps9
  go_wp2_with fail
  refine (s1 _ hm).mono ?_
  rintro e w1 ⟨b1, ⟨_, v, rfl, hr⟩ | ⟨_, _, _, _, _, h, _⟩⟩
  rotate_left
  · cases h
  have hm1 := keepB2 b1 hm
  have hg1 : ErrT w1 := keepB2 b1 hg
  obtain ⟨g, cap, rfl⟩ := Joins.ownsRow_form hr (by decide)
  clear s1
  go_wp2_with fail
  refine (s2 _ hm1).mono ?_
  rintro e w2 ⟨b2, ⟨h, _⟩ | ⟨c, li, co, wd, fb, h, hfb, rfl, hF⟩⟩
  · cases h
  simp only [Option.some.injEq, Prod.mk.injEq] at h
  obtain ⟨rfl, rfl, rfl, rfl⟩ := h
  have hg2 : ErrT w2 := keepB2 b2 hg1
  have ht := told_flt fb _ _ _ _ w2 hF (by decide) hg2
  clear s2
  go_wp2_with fail
  refine ht.mono ?_
  rintro e w3 ⟨rfl, b3⟩
  clear ht
  obtain ⟨X, hX⟩ : ∃ X, w3.alloc (.cells #[.int .i64 22, .int .i64 1, .int .i64 8, .string ⟨#[50, 101]⟩] 26) = X := ⟨_, rfl⟩
  have bX : Below w3.heap.size w3 X := by rw [← hX]; exact belowA1 _ _
  have hfX : FtC X w3.heap.size (.int .i64 22) (.int .i64 1) (.int .i64 8) (.string ⟨#[50, 101]⟩) := by rw [← hX]; exact ftc_new _ rfl
  have bb : Below w1.heap.size w1 X := bstep1 (bstep1 b2 b3) bX
  have hcell : ∀ j v, ([Out.tok 1 ⟨#[97]⟩ 1 1 1, .tok 3 ⟨#[120, 34, 121]⟩ 2 1 8, .tok 4 ⟨#[59]⟩ 2 7 9, .tok 0 ⟨#[]⟩ 2 14 15].flatMap tokCells)[j]? = some v → X.cell? ⟨g, j, none⟩ = some v := by
    intro j v hj
    have hlt : j < 4 * 4 := (List.getElem?_eq_some_iff.1 hj).1
    exact keepB2 bb (by rw [hr.cellAt j hlt]; exact hj)
  have y4 := hcell 4 _ rfl
  have y5 := hcell 5 _ rfl
  have y6 := hcell 6 _ rfl
  have y7 := hcell 7 _ rfl
  have y12 := hcell 12 _ rfl
  have y13 := hcell 13 _ rfl
  have y14 := hcell 14 _ rfl
  have y15 := hcell 15 _ rfl
  obtain ⟨z0, z1, z2, z3⟩ := hfX.cells
  have HB : Hid (Below w.heap.size w X) := bstep1 b1 bb
  have n1 := fun w => lexName_any ⟨#[97, 49]⟩ w (by decide)
  have n2 := fun w => lexName_any ⟨#[49, 97]⟩ w (by decide)
  have q1 := fun w => quote_any ⟨#[97]⟩ w (by decide)
  rw [nm_one] at n1
  rw [nm_two] at n2
  rw [q_one] at q1
  clear hcell hr hfX bX bb b1 b2 b3 hF hm hm1 hg hg1 hg2
  go_wp2_with fail
  refine (n1 _).mono ?_
  rintro e w5 ⟨rfl, rfl⟩
  clear n1
  go_wp2_with fail
  refine (n2 _).mono ?_
  rintro e w6 ⟨rfl, rfl⟩
  clear n2
  go_wp2_with fail
  refine (q1 _).mono ?_
  rintro e w7 ⟨rfl, b7⟩
  go_wp2
  go_ret
  exact ⟨rfl, bstep1 HB.out b7⟩
end Go.Proofs.YtjiolinhkadoaaaDoor

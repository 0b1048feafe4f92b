/-
  Proved here: RingPlain's own walk.
-/
import Derived.Test.YtaafijifiiiblaaGreatRingEAll
namespace Go.Proofs.YtaafijifiiiblaaGreat
open Go.RowKit
set_option maxRecDepth 1000000 in
set_option maxHeartbeats 32000000 in
theorem ringPlain_top (a b : Int) (x y : Nat) (p q : Bool) (w : World) :
    Calls Tryz.prog 5 #[.int .i64 a, .int .i64 b, .float .f64 x, .float .f64 y, .bool p, .bool q] w fun e w' => e = .returned (.bool true) ∧ Below w.heap.size w w' := by
  have hra := fun w => run_addV 53 x y Tryz.prog w
  have hrm := fun w => run_mulV 53 x y Tryz.prog w
  have hz0 : (FloatKind.f64.format.order 0 0 == some .eq) = true := by decide +kernel
  have hz1 : (FloatKind.f64.format.order 4607182418800017408 4607182418800017408 == some .eq) = true := by decide +kernel
  have CC : Hid _ := awake12 w
  go_enter Tryz.func5, Tryz.ntmps5
  go_wp2_with fail
  refine Calls.mono CC.out ?_
  rintro e x1 ⟨rfl, b1⟩
  have HB1 : Hid (Below w.heap.size w x1) := b1
  clear CC b1
  have CC : Hid _ := intsZero (((x1.alloc (.cells #[] 54)).alloc (.cells #[] 55)).alloc (.cells #[] 56))
  go_wp2_with fail
  refine Calls.mono CC.out ?_
  rintro e x2 ⟨rfl, b2⟩
  have HB2 : Hid (Below w.heap.size w x2) := bstep (bstep (bstep (bstep HB1.out (belowA _ _)) (belowA _ _)) (belowA _ _)) b2
  clear CC b2 HB1
  have CC : Hid _ := intsOne x2
  go_wp2_with fail
  refine Calls.mono CC.out ?_
  rintro e x3 ⟨rfl, b3⟩
  have HB3 : Hid (Below w.heap.size w x3) := bstep HB2.out b3
  clear CC b3 HB2
  have CC : Hid _ := intsAdd a b x3
  go_wp2_with fail
  refine Calls.mono CC.out ?_
  rintro e x4 ⟨rfl, b4⟩
  have HB4 : Hid (Below w.heap.size w x4) := bstep HB3.out b4
  clear CC b4 HB3
  have CC : Hid _ := intsMul a b x4
  go_wp2_with fail
  refine Calls.mono CC.out ?_
  rintro e x5 ⟨rfl, b5⟩
  have HB5 : Hid (Below w.heap.size w x5) := bstep HB4.out b5
  clear CC b5 HB4
  have CC : Hid _ := intsSame a b x5
  go_wp2_with fail
  refine Calls.mono CC.out ?_
  rintro e x6 ⟨rfl, b6⟩
  have HB6 : Hid (Below w.heap.size w x6) := bstep HB5.out b6
  clear CC b6 HB5
  have CC : Hid _ := intsSame a a x6
  go_wp2_with fail
  refine Calls.mono CC.out ?_
  rintro e x7 ⟨rfl, b7⟩
  have HB7 : Hid (Below w.heap.size w x7) := bstep HB6.out b7
  clear CC b7 HB6
  have CC : Hid _ := floatsZero x7
  go_wp2_with fail
  refine Calls.mono CC.out ?_
  rintro e x8 ⟨rfl, b8⟩
  have HB8 : Hid (Below w.heap.size w x8) := bstep HB7.out b8
  clear CC b8 HB7
  have CC : Hid _ := floatsOne x8
  go_wp2_with fail
  refine Calls.mono CC.out ?_
  rintro e x9 ⟨rfl, b9⟩
  have HB9 : Hid (Below w.heap.size w x9) := bstep HB8.out b9
  clear CC b9 HB8
  have CC : Hid _ := floatsAdd x y x9
  go_wp2_with fail
  refine Calls.mono CC.out ?_
  rintro e x10 ⟨r1, rfl, hr1, b10⟩
  have HB10 : Hid (Below w.heap.size w x10) := bstep HB9.out b10
  clear CC b10 HB9
  have HR1 : Hid (Padd x y r1) := hr1
  clear hr1
  have CC : Hid _ := exact12 ((Padd.two HR1.out (addV_p x y x10))) (addW x y x10)
  go_wp2_with fail
  refine Calls.mono CC.out ?_
  rintro e x11 ⟨rfl, b11⟩
  have HB11 : Hid (Below w.heap.size w x11) := bstep (bstep HB10.out (addW_below x y _)) b11
  clear CC b11 HB10
  have CC : Hid _ := floatsMul x y x11
  go_wp2_with fail
  refine Calls.mono CC.out ?_
  rintro e x12 ⟨r2, rfl, hr2, b12⟩
  have HB12 : Hid (Below w.heap.size w x12) := bstep HB11.out b12
  clear CC b12 HB11
  have HR2 : Hid (Pmul x y r2) := hr2
  clear hr2
  have CC : Hid _ := exact12 ((Pmul.two HR2.out (mulV_p x y x12))) (mulW x y x12)
  go_wp2_with fail
  refine Calls.mono CC.out ?_
  rintro e x13 ⟨rfl, b13⟩
  have HB13 : Hid (Below w.heap.size w x13) := bstep (bstep HB12.out (mulW_below x y _)) b13
  clear CC b13 HB12
  have CC : Hid _ := floatsSame x y x13
  go_wp2_with fail
  refine Calls.mono CC.out ?_
  rintro e x14 ⟨rfl, b14⟩
  have HB14 : Hid (Below w.heap.size w x14) := bstep HB13.out b14
  clear CC b14 HB13
  have CC : Hid _ := floatF12 x y x14
  go_wp2_with fail
  refine Calls.mono CC.out ?_
  rintro e x15 ⟨rfl, b15⟩
  have HB15 : Hid (Below w.heap.size w x15) := bstep HB14.out b15
  clear CC b15 HB14
  have CC : Hid _ := (by have h := floatsSame x x x15; rw [feq_self] at h; exact h)
  go_wp2_with fail
  refine Calls.mono CC.out ?_
  rintro e x16 ⟨rfl, b16⟩
  have HB16 : Hid (Below w.heap.size w x16) := bstep HB15.out b16
  clear CC b16 HB15
  have CC : Hid _ := boolsZero x16
  go_wp2_with fail
  refine Calls.mono CC.out ?_
  rintro e x17 ⟨rfl, b17⟩
  have HB17 : Hid (Below w.heap.size w x17) := bstep HB16.out b17
  clear CC b17 HB16
  have CC : Hid _ := boolsOne x17
  go_wp2_with fail
  refine Calls.mono CC.out ?_
  rintro e x18 ⟨rfl, b18⟩
  have HB18 : Hid (Below w.heap.size w x18) := bstep HB17.out b18
  clear CC b18 HB17
  cases p <;> cases q
  · have CC : Hid _ := boolsAdd false false x18
    go_wp2_with fail
    refine Calls.mono CC.out ?_
    rintro e x19 ⟨rfl, b19⟩
    have HB19 : Hid (Below w.heap.size w x19) := bstep HB18.out b19
    clear CC b19 HB18
    have CC : Hid _ := boolsMul false false x19
    go_wp2_with fail
    refine Calls.mono CC.out ?_
    rintro e x20 ⟨rfl, b20⟩
    have HB20 : Hid (Below w.heap.size w x20) := bstep HB19.out b20
    clear CC b20 HB19
    have CC : Hid _ := boolsSame false false x20
    go_wp2_with fail
    refine Calls.mono CC.out ?_
    rintro e x21 ⟨rfl, b21⟩
    have HB21 : Hid (Below w.heap.size w x21) := bstep HB20.out b21
    clear CC b21 HB20
    go_wp2
    go_ret
    exact ⟨rfl, HB21.out⟩
  · have CC : Hid _ := boolsAdd false true x18
    go_wp2_with fail
    refine Calls.mono CC.out ?_
    rintro e x19 ⟨rfl, b19⟩
    have HB19 : Hid (Below w.heap.size w x19) := bstep HB18.out b19
    clear CC b19 HB18
    have CC : Hid _ := boolsMul false true x19
    go_wp2_with fail
    refine Calls.mono CC.out ?_
    rintro e x20 ⟨rfl, b20⟩
    have HB20 : Hid (Below w.heap.size w x20) := bstep HB19.out b20
    clear CC b20 HB19
    have CC : Hid _ := boolsSame false true x20
    go_wp2_with fail
    refine Calls.mono CC.out ?_
    rintro e x21 ⟨rfl, b21⟩
    have HB21 : Hid (Below w.heap.size w x21) := bstep HB20.out b21
    clear CC b21 HB20
    go_wp2
    go_ret
    exact ⟨rfl, HB21.out⟩
  · have CC : Hid _ := boolsAdd true false x18
    go_wp2_with fail
    refine Calls.mono CC.out ?_
    rintro e x19 ⟨rfl, b19⟩
    have HB19 : Hid (Below w.heap.size w x19) := bstep HB18.out b19
    clear CC b19 HB18
    have CC : Hid _ := boolsMul true false x19
    go_wp2_with fail
    refine Calls.mono CC.out ?_
    rintro e x20 ⟨rfl, b20⟩
    have HB20 : Hid (Below w.heap.size w x20) := bstep HB19.out b20
    clear CC b20 HB19
    have CC : Hid _ := boolsSame true false x20
    go_wp2_with fail
    refine Calls.mono CC.out ?_
    rintro e x21 ⟨rfl, b21⟩
    have HB21 : Hid (Below w.heap.size w x21) := bstep HB20.out b21
    clear CC b21 HB20
    go_wp2
    go_ret
    exact ⟨rfl, HB21.out⟩
  · have CC : Hid _ := boolsAdd true true x18
    go_wp2_with fail
    refine Calls.mono CC.out ?_
    rintro e x19 ⟨rfl, b19⟩
    have HB19 : Hid (Below w.heap.size w x19) := bstep HB18.out b19
    clear CC b19 HB18
    have CC : Hid _ := boolsMul true true x19
    go_wp2_with fail
    refine Calls.mono CC.out ?_
    rintro e x20 ⟨rfl, b20⟩
    have HB20 : Hid (Below w.heap.size w x20) := bstep HB19.out b20
    clear CC b20 HB19
    have CC : Hid _ := boolsSame true true x20
    go_wp2_with fail
    refine Calls.mono CC.out ?_
    rintro e x21 ⟨rfl, b21⟩
    have HB21 : Hid (Below w.heap.size w x21) := bstep HB20.out b21
    clear CC b21 HB20
    go_wp2
    go_ret
    exact ⟨rfl, HB21.out⟩
end Go.Proofs.YtaafijifiiiblaaGreat

/-
  Proved here: NearOrder of any four floats returns true, and writes nothing that was there.
-/
import Derived.Test.YtnlajeinegampaaNearC
namespace Go.Proofs.Ytnlajeinegampaa
open Go.RowKit

theorem same_nan {d e : Ieee.Datum} (h1 : d.isNaN = true) (h2 : e.isNaN = true) : SameDat d e := by
  cases d <;> cases e <;> simp_all [SameDat, Ieee.Datum.isNaN]
theorem ordRef2 {d f : Ieee.Datum} (x y : Nat) (w : World) (hx : x < 18446744073709551616) (hy : y < 18446744073709551616) (sx : SameDat (Ieee.double.read x) d) (sy : SameDat (Ieee.double.read y) f) :
    Calls Try.prog 21 #[.float .f64 x, .float .f64 y] w fun e w' => e = .returned (.int .i64 (ordD d f)) ∧ w' = w := by
  have h := ordRef x y w hx hy
  rw [sx.ordD sy] at h
  exact h

set_option maxRecDepth 100000 in
set_option maxHeartbeats 6400000 in
theorem nearOrder_top (a b s t : Nat) (w : World) (ha : (Lit.float .f64 a).wf = true) (hb : (Lit.float .f64 b).wf = true) (_ : (Lit.float .f32 s).wf = true) (_ : (Lit.float .f32 t).wf = true) :
    Calls Try.prog 6 #[.float .f64 a, .float .f64 b, .float .f32 s, .float .f32 t] w fun e w' => e = .returned (.bool true) ∧ Below w.heap.size w w' := by
  replace ha : a < 18446744073709551616 := by simpa [Lit.wf] using ha
  replace hb : b < 18446744073709551616 := by simpa [Lit.wf] using hb
  have k1 := fun w => ordfD a b w ha hb
  have k2 := fun w => ordRef a b w ha hb
  have k3 := fun w => ordfM b a w hb ha
  have k4 := fun w => ordRef b a w hb ha
  have k5 := fun w => ordfS s t w
  have k6 := fun w => ordfH t s w
  generalize ordD (Ieee.double.read a) (Ieee.double.read b) = r1 at *
  generalize ordD (Ieee.double.read b) (Ieee.double.read a) = r2 at *
  have f1 : (r1 == r1) = true := by simp
  have f2 : (r2 == r2) = true := by simp
  cases hs : (Ieee.single.read s).isNaN
  · cases ht : (Ieee.single.read t).isNaN
    · have cs : ∀ w, (convert 44 38 (.float .f32 s)).run Try.prog w = .ok (.float .f64 (cnv s)) w := fun w => run_convert_float_float _ _ _ _ _ _ _ (by kernel_rfl) Try.underlying38 (cnv_bits hs)
      have ds : SameDat (Ieee.double.read (cnv s)) (Ieee.single.read s) := conv_same hs
      have ct : ∀ w, (convert 44 38 (.float .f32 t)).run Try.prog w = .ok (.float .f64 (cnv t)) w := fun w => run_convert_float_float _ _ _ _ _ _ _ (by kernel_rfl) Try.underlying38 (cnv_bits ht)
      have dt : SameDat (Ieee.double.read (cnv t)) (Ieee.single.read t) := conv_same ht
      generalize Ieee.single.read s = u at *
      generalize Ieee.single.read t = v at *
      have k7 := fun x y w hx hy sx sy => ordRef2 (d := u) (f := v) x y w hx hy sx sy
      have k8 := fun x y w hx hy sx sy => ordRef2 (d := v) (f := u) x y w hx hy sx sy
      generalize ordD u v = r3 at *
      generalize ordD v u = r4 at *
      have f3 : (r3 == r3) = true := by simp
      have f4 : (r4 == r4) = true := by simp
      clear hs ht
      go_enter Try.func6, Try.ntmps6
      go_wp2_with fail
      refine (k1 _).mono ?_
      rintro e w' ⟨rfl, rfl⟩
      go_wp2_with fail
      refine (k2 _).mono ?_
      rintro e w' ⟨rfl, rfl⟩
      go_wp2_with fail
      refine (k3 _).mono ?_
      rintro e w' ⟨rfl, rfl⟩
      go_wp2_with fail
      refine (k4 _).mono ?_
      rintro e w' ⟨rfl, rfl⟩
      go_wp2_with fail
      refine (k5 _).mono ?_
      rintro e w' ⟨rfl, rfl⟩
      go_wp2_with fail
      refine (k7 _ _ _ (cnv_lt s) (cnv_lt t) ds dt).mono ?_
      rintro e w' ⟨rfl, rfl⟩
      go_wp2_with fail
      refine (k6 _).mono ?_
      rintro e w' ⟨rfl, rfl⟩
      go_wp2_with fail
      refine (k8 _ _ _ (cnv_lt t) (cnv_lt s) dt ds).mono ?_
      rintro e w' ⟨rfl, rfl⟩
      clear k1 k2 k3 k4 k5 k6 k7 k8 cs ct ds dt
      go_wp2
      go_ret
      exact ⟨rfl, Below.refl _ _⟩
    · have cs : ∀ w, (convert 44 38 (.float .f32 s)).run Try.prog w = .ok (.float .f64 (cnv s)) w := fun w => run_convert_float_float _ _ _ _ _ _ _ (by kernel_rfl) Try.underlying38 (cnv_bits hs)
      have ds : SameDat (Ieee.double.read (cnv s)) (Ieee.single.read s) := conv_same hs
      have ct : ∀ w, (convert 44 38 (.float .f32 t)).run Try.prog w = .ok (.float .f64 (nanC t w)) w.drew := fun w => run_conv_nan _ t w (by kernel_rfl) ht
      have dt : ∀ w, SameDat (Ieee.double.read (nanC t w)) (Ieee.single.read t) := fun w => same_nan (nanC_nan t w) ht
      generalize Ieee.single.read s = u at *
      generalize Ieee.single.read t = v at *
      have k7 := fun x y w hx hy sx sy => ordRef2 (d := u) (f := v) x y w hx hy sx sy
      have k8 := fun x y w hx hy sx sy => ordRef2 (d := v) (f := u) x y w hx hy sx sy
      generalize ordD u v = r3 at *
      generalize ordD v u = r4 at *
      have f3 : (r3 == r3) = true := by simp
      have f4 : (r4 == r4) = true := by simp
      clear hs ht
      go_enter Try.func6, Try.ntmps6
      go_wp2_with fail
      refine (k1 _).mono ?_
      rintro e w' ⟨rfl, rfl⟩
      go_wp2_with fail
      refine (k2 _).mono ?_
      rintro e w' ⟨rfl, rfl⟩
      go_wp2_with fail
      refine (k3 _).mono ?_
      rintro e w' ⟨rfl, rfl⟩
      go_wp2_with fail
      refine (k4 _).mono ?_
      rintro e w' ⟨rfl, rfl⟩
      go_wp2_with fail
      refine (k5 _).mono ?_
      rintro e w' ⟨rfl, rfl⟩
      go_wp2_with fail
      refine (k7 _ _ _ (cnv_lt s) (nanC_lt t _) ds (dt _)).mono ?_
      rintro e w' ⟨rfl, rfl⟩
      go_wp2_with fail
      refine (k6 _).mono ?_
      rintro e w' ⟨rfl, rfl⟩
      go_wp2_with fail
      refine (k8 _ _ _ (nanC_lt t _) (cnv_lt s) (dt _) ds).mono ?_
      rintro e w' ⟨rfl, rfl⟩
      clear k1 k2 k3 k4 k5 k6 k7 k8 cs ct ds dt
      go_wp2
      go_ret
      exact ⟨rfl, ((Below.refl _ _).drew).drew⟩
  · cases ht : (Ieee.single.read t).isNaN
    · have cs : ∀ w, (convert 44 38 (.float .f32 s)).run Try.prog w = .ok (.float .f64 (nanC s w)) w.drew := fun w => run_conv_nan _ s w (by kernel_rfl) hs
      have ds : ∀ w, SameDat (Ieee.double.read (nanC s w)) (Ieee.single.read s) := fun w => same_nan (nanC_nan s w) hs
      have ct : ∀ w, (convert 44 38 (.float .f32 t)).run Try.prog w = .ok (.float .f64 (cnv t)) w := fun w => run_convert_float_float _ _ _ _ _ _ _ (by kernel_rfl) Try.underlying38 (cnv_bits ht)
      have dt : SameDat (Ieee.double.read (cnv t)) (Ieee.single.read t) := conv_same ht
      generalize Ieee.single.read s = u at *
      generalize Ieee.single.read t = v at *
      have k7 := fun x y w hx hy sx sy => ordRef2 (d := u) (f := v) x y w hx hy sx sy
      have k8 := fun x y w hx hy sx sy => ordRef2 (d := v) (f := u) x y w hx hy sx sy
      generalize ordD u v = r3 at *
      generalize ordD v u = r4 at *
      have f3 : (r3 == r3) = true := by simp
      have f4 : (r4 == r4) = true := by simp
      clear hs ht
      go_enter Try.func6, Try.ntmps6
      go_wp2_with fail
      refine (k1 _).mono ?_
      rintro e w' ⟨rfl, rfl⟩
      go_wp2_with fail
      refine (k2 _).mono ?_
      rintro e w' ⟨rfl, rfl⟩
      go_wp2_with fail
      refine (k3 _).mono ?_
      rintro e w' ⟨rfl, rfl⟩
      go_wp2_with fail
      refine (k4 _).mono ?_
      rintro e w' ⟨rfl, rfl⟩
      go_wp2_with fail
      refine (k5 _).mono ?_
      rintro e w' ⟨rfl, rfl⟩
      go_wp2_with fail
      refine (k7 _ _ _ (nanC_lt s _) (cnv_lt t) (ds _) dt).mono ?_
      rintro e w' ⟨rfl, rfl⟩
      go_wp2_with fail
      refine (k6 _).mono ?_
      rintro e w' ⟨rfl, rfl⟩
      go_wp2_with fail
      refine (k8 _ _ _ (cnv_lt t) (nanC_lt s _) dt (ds _)).mono ?_
      rintro e w' ⟨rfl, rfl⟩
      clear k1 k2 k3 k4 k5 k6 k7 k8 cs ct ds dt
      go_wp2
      go_ret
      exact ⟨rfl, ((Below.refl _ _).drew).drew⟩
    · have cs : ∀ w, (convert 44 38 (.float .f32 s)).run Try.prog w = .ok (.float .f64 (nanC s w)) w.drew := fun w => run_conv_nan _ s w (by kernel_rfl) hs
      have ds : ∀ w, SameDat (Ieee.double.read (nanC s w)) (Ieee.single.read s) := fun w => same_nan (nanC_nan s w) hs
      have ct : ∀ w, (convert 44 38 (.float .f32 t)).run Try.prog w = .ok (.float .f64 (nanC t w)) w.drew := fun w => run_conv_nan _ t w (by kernel_rfl) ht
      have dt : ∀ w, SameDat (Ieee.double.read (nanC t w)) (Ieee.single.read t) := fun w => same_nan (nanC_nan t w) ht
      generalize Ieee.single.read s = u at *
      generalize Ieee.single.read t = v at *
      have k7 := fun x y w hx hy sx sy => ordRef2 (d := u) (f := v) x y w hx hy sx sy
      have k8 := fun x y w hx hy sx sy => ordRef2 (d := v) (f := u) x y w hx hy sx sy
      generalize ordD u v = r3 at *
      generalize ordD v u = r4 at *
      have f3 : (r3 == r3) = true := by simp
      have f4 : (r4 == r4) = true := by simp
      clear hs ht
      go_enter Try.func6, Try.ntmps6
      go_wp2_with fail
      refine (k1 _).mono ?_
      rintro e w' ⟨rfl, rfl⟩
      go_wp2_with fail
      refine (k2 _).mono ?_
      rintro e w' ⟨rfl, rfl⟩
      go_wp2_with fail
      refine (k3 _).mono ?_
      rintro e w' ⟨rfl, rfl⟩
      go_wp2_with fail
      refine (k4 _).mono ?_
      rintro e w' ⟨rfl, rfl⟩
      go_wp2_with fail
      refine (k5 _).mono ?_
      rintro e w' ⟨rfl, rfl⟩
      go_wp2_with fail
      refine (k7 _ _ _ (nanC_lt s _) (nanC_lt t _) (ds _) (dt _)).mono ?_
      rintro e w' ⟨rfl, rfl⟩
      go_wp2_with fail
      refine (k6 _).mono ?_
      rintro e w' ⟨rfl, rfl⟩
      go_wp2_with fail
      refine (k8 _ _ _ (nanC_lt t _) (nanC_lt s _) (dt _) (ds _)).mono ?_
      rintro e w' ⟨rfl, rfl⟩
      clear k1 k2 k3 k4 k5 k6 k7 k8 cs ct ds dt
      go_wp2
      go_ret
      exact ⟨rfl, ((((Below.refl _ _).drew).drew).drew).drew⟩
end Go.Proofs.Ytnlajeinegampaa

/-
  Proved here: NatOf of any uint64 returns true, and writes nothing that was there.
-/
import Derived.Test.YtgccibbbahpgpabApart
import Derived.OpenShut
namespace Go.Proofs.Ytgccibbbahpgpab
open Go.RowKit

set_option maxRecDepth 100000 in
set_option maxHeartbeats 2000000 in
theorem natOf_walk (u : Nat) (hu : u < 18446744073709551616) (w : World) :
    Calls Try.prog 3 #[.int .u64 (u : Int)] w fun e w' => e = .returned (.bool true) ∧ Below w.heap.size w w' := by
  have hq : ((u : Int) == (u : Int)) = true := by simp
  go_enter Try.func3, Try.ntmps3
  go_wp2_with fail
  refine (of_ref u _ hu).mono ?_
  rintro e w1 ⟨r, rfl, ho1, hb1⟩
  go_wp2_with fail
  refine (of_any u _ hu).mono ?_
  rintro e w2 ⟨v2, rfl, ho2, hb2⟩
  go_wp2_with fail
  refine (uint_yes _ _ _ ho2.num (by rw [val_lim]; exact hu)).mono ?_
  rintro e w2' ⟨rfl, rfl⟩
  rw [val_lim]
  go_wp2_with fail
  refine (of_any u _ hu).mono ?_
  rintro e w3 ⟨v3, rfl, ho3, hb3⟩
  go_wp2_with fail
  refine (of_any u _ hu).mono ?_
  rintro e w4 ⟨v4, rfl, ho4, hb4⟩
  have s1 := hb1.size
  have s2 := hb2.size
  have s3 := hb3.size
  have s4 := hb4.size
  have hd34 := apart_later ho3 ho4 (Nat.le_refl _)
  have hB4 : Below w.heap.size w w4 := ((hb1.trans (hb2.mono s1)).trans (hb3.mono (by omega))).trans (hb4.mono (by omega))
  have o3 : Own w.heap.size 32 w4 v3 (lim u) := (ho3.below hb4).mono (by omega)
  have o4 : Own w.heap.size 32 w4 v4 (lim u) := ho4.mono (by omega)
  have n1 : Num w4 r (lim u) := ((ho1.num.below (Nat.le_refl _) hb2).below (Nat.le_refl _) hb3).below (Nat.le_refl _) hb4
  have hl : (lim u).length ≤ 1099511627776 := Nat.le_trans (lim_len_le (k := 2) hu) (by decide)
  clear ho1 ho2 ho3 ho4 hb1 hb2 hb3 hb4 s1 s2 s3
  obtain ⟨a3, c3, e3, _⟩ := o3.ao
  obtain ⟨a4, c4, e4, _⟩ := o4.ao
  obtain ⟨ar, cr, er, _⟩ : ∃ ao cap, r = .slice ao (lim u).length cap ∧ True := by obtain ⟨_, ao, cap, h, _⟩ := n1; exact ⟨ao, cap, h, trivial⟩
  obtain ⟨n, hn⟩ : ∃ n, n = (lim u).length := ⟨_, rfl⟩
  rw [← hn] at e3 e4 er
  clear hn
  subst e3 e4 er
  have hd : Dist [.slice a3 n c3, .slice a4 n c4] := by
    intro i j hi hj hne
    simp only [List.length_cons, List.length_nil] at hi hj
    have : (i = 0 ∧ j = 1) ∨ (i = 1 ∧ j = 0) := by omega
    rcases this with ⟨rfl, rfl⟩ | ⟨rfl, rfl⟩
    · exact hd34
    · exact apart_symm hd34
  go_wp2_with fail
  refine (apart_yes w.heap.size w4.heap.size (w4.heap.size + 1) 2 [.slice a3 n c3, .slice a4 n c4] [.slice ar n cr, .slice ar n cr] (fun _ => lim u) _ ?_ ?_ rfl rfl ?_ ?_ ?_ ?_ hd ?_ ?_).mono ?_
  · have := hB4.size; simp; omega
  · exact hB4.size
  · decide
  · exact heap_alloc2_old w4 _ _
  · exact heap_alloc2_new w4 _ _
  · intro j hj
    simp only [List.length_cons, List.length_nil] at hj
    have : j = 0 ∨ j = 1 := by omega
    rcases this with rfl | rfl
    · exact (o3.alloc _).alloc _
    · exact (o4.alloc _).alloc _
  · intro j hj
    have : j = 0 ∨ j = 1 := by omega
    rcases this with rfl | rfl
    · exact (n1.alloc _).alloc _
    · exact (n1.alloc _).alloc _
  · intro j hj
    exact hl
  rintro e w5 ⟨rfl, hb5⟩
  have hB5 : Below w.heap.size w w5 := ((hB4.alloc hB4.size _).alloc (by simp; have := hB4.size; omega) _).trans hb5
  clear o3 o4 n1 hd hd34 hb5
  go_wp2
  go_ret
  exact ⟨rfl, hB5⟩

theorem natOf_top (a : Int) (w : World) (h : (Lit.int .u64 a).wf = true) :
    Calls Try.prog 3 #[.int .u64 a] w fun e w' => e = .returned (.bool true) ∧ Below w.heap.size w w' := by
  have hb : 0 ≤ a ∧ a ≤ 18446744073709551615 := bounds_u64 h
  obtain ⟨u, rfl⟩ := Int.eq_ofNat_of_zero_le hb.1
  exact natOf_walk u (by omega) w
end Go.Proofs.Ytgccibbbahpgpab

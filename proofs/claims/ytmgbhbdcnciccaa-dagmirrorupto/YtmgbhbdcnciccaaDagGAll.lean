/-
  Proved here: container/heap's Push over a line of points.
  Proved here: container/heap's Pop over a line of points.
-/
import Derived.Test.YtmgbhbdcnciccaaDagE
namespace Go.Proofs.Ytmgbhbdcnciccaa
set_option linter.unusedVariables false
open Go.RowKit
theorem LnC.of {B : Nat} {w w' : World} {rb : Nat} {a b c d v v' : Value} {L M : List Int} (h : LnC B w rb a b c d v L) {g : Nat} (hv : v'.ownBlock = some g) (hne : g ≠ rb) (hvv : v' = v) (ho : OG (Value.int .i64) B 3 w' v' M) (hg : w.grownBy w' (some g)) : LnC B w' rb a b c d v' M :=
  ⟨by subst hvv; unfold RsC; rw [hg.block rb h.lt (fun e => hne (by have h := e; simp at h; omega))]; exact h.box, ho⟩
set_option maxRecDepth 100000 in
set_option maxHeartbeats 3200000 in
theorem heapPush (B rb : Nat) (a b c d v : Value) (L : List Int) (x : Int) (w : World) (h : LnC B w rb a b c d v L) (hB : B ≤ w.heap.size) (hl : L.length < 1000000) :
    Calls Try.prog 49 #[.iface 68 (.pointer (some ⟨rb, 4, none⟩)), .iface 3 (.int .i64 x)] w fun e w' => e = .returned (.tuple #[]) ∧ ∃ ng cap, LnC B w' rb a b c d (.slice (some ⟨ng, 0, none⟩) (L.length + 1) cap) (upL (L ++ [x]) L.length) ∧ (v.ownBlock = some ng ∨ ng ≥ w.heap.size) ∧ FrP (LnS rb v) w w' := by
  have HL : Hid (LnC B w rb a b c d v L) := h
  obtain ⟨l, hl0⟩ : ∃ l, L.length = l := ⟨_, rfl⟩
  have HLN : Hid (L.length = l) := hl0
  have CP : Hid _ := lnPush B rb a b c d v L x w h hB hl
  rw [hl0] at hl ⊢
  have m1 := mLnPush w rb 4
  have e1 := entLnPush
  have e2 := entLnLen
  clear h hl0
  go_enter Try.func49, Try.ntmps49
  go_wp2_with fail
  refine Calls.mono CP.out ?_
  rintro e y ⟨rfl, ng, cap, hy1, hy2, hy3⟩
  clear CP m1
  rw [HLN.out] at hy1
  have HY : Hid (LnC B y rb a b c d (.slice (some ⟨ng, 0, none⟩) (l + 1) cap) (L ++ [x])) := hy1
  have HF : Hid ((v.ownBlock = some ng ∨ ng ≥ w.heap.size) ∧ FrP (LnS rb v) w y) := ⟨hy2, hy3⟩
  have cl := hy1.box.cell
  have m2 := mLnLen y rb 4 _ cl
  have CL : Hid _ := lnLen (some ⟨ng, 0, none⟩) (l + 1) cap y
  have CU : Hid _ := upH B rb ng (l + 1) cap l a b c d (L ++ [x]) y hy1.box hy1.row (by omega) (by omega)
  clear cl hy1 hy2 hy3
  have r1 : ((l + 1 : Nat) : Int) - 1 = (l : Int) := by omega
  go_wp2_with fail
  refine Calls.mono CL.out ?_
  rintro e z ⟨rfl, rfl⟩
  go_wp2_with fail
  refine Calls.mono CU.out ?_
  rintro e z ⟨rfl, hz1, hz2⟩
  have HZ : Hid (LnC B z rb a b c d (.slice (some ⟨ng, 0, none⟩) (l + 1) cap) (upL (L ++ [x]) l) ∧ FrP (LnS rb v) w z) := by
    have hne : ng ≠ rb := fun e => HY.out.ne (by rw [e]; rfl)
    refine ⟨HY.out.of rfl hne rfl hz1 hz2, HF.out.2.tr (FrP.of_grown hz2) (fun q hq e => ?_)⟩
    have e' : ng = q := by simpa using e
    subst e'
    rcases HF.out.1 with e2 | e2
    · exact Or.inr e2
    · omega
  clear CL CU m2 hz1 hz2 HY
  go_wp2
  go_end0
  exact ⟨rfl, _, _, HZ.out.1, HF.out.1, HZ.out.2⟩
end Go.Proofs.Ytmgbhbdcnciccaa

namespace Go.Proofs.Ytmgbhbdcnciccaa
set_option linter.unusedVariables false
open Go.RowKit
theorem OG.cutD {α : Type} {enc : α → Value} {B e g n cap m : Nat} {w : World} {C : List α} (h : OG enc B e w (.slice (some ⟨g, 0, none⟩) n cap) C) (hm : m ≤ C.length) : OG enc B e w (.slice (some ⟨g, 0, none⟩) m cap) (C.take m) := by
  obtain ⟨h1, h2⟩ := h
  refine ⟨by simp, ?_⟩
  rcases h2 with ⟨e1, _⟩ | ⟨g', cap', cur, e1, h3, h4, h5, h6, h7, h8⟩
  · simp at e1
  · simp only [Value.slice.injEq, Option.some.injEq, Addr.mk.injEq, and_true] at e1
    obtain ⟨rfl, rfl, rfl⟩ := e1
    refine .inr ⟨g, cap, cur, by rw [List.length_take, Nat.min_eq_left hm], h3, h4, by rw [List.length_take]; omega, h6, h7, ?_⟩
    rw [List.length_take, Nat.min_eq_left hm, Nat.mul_one, List.map_take, ← h8, List.take_take, Nat.mul_one, Nat.min_eq_left hm]
set_option maxRecDepth 100000 in
set_option maxHeartbeats 3200000 in
theorem lnPop (B rb g n cap : Nat) (a b c d : Value) (L : List Int) (w : World) (h : LnC B w rb a b c d (.slice (some ⟨g, 0, none⟩) (n + 1) cap) L) (hn : n < 1000000) :
    Calls Try.prog 111 #[.pointer (some ⟨rb, 4, none⟩)] w fun e w' => ∃ z, e = .returned (.iface 3 (.int .i64 z)) ∧ LnC B w' rb a b c d (.slice (some ⟨g, 0, none⟩) n cap) (L.take n) ∧ FrP (LnS rb (.slice (some ⟨g, 0, none⟩) (n + 1) cap)) w w' := by
  have hl : L.length = n + 1 := h.row.rg.len
  obtain ⟨hr1, hr2, -⟩ := h.row.rg.room
  unfold maxLen at hr2
  have HR : Hid (LnC B (w.setCell ⟨rb, 4, none⟩ (.slice (some ⟨g, 0, none⟩) n cap)) rb a b c d (.slice (some ⟨g, 0, none⟩) n cap) (L.take n) ∧ FrP (LnS rb (.slice (some ⟨g, 0, none⟩) (n + 1) cap)) w (w.setCell ⟨rb, 4, none⟩ (.slice (some ⟨g, 0, none⟩) n cap))) :=
    ⟨⟨h.box.put _, (h.row.cutD (m := n) (by omega)).of_blocks fun q hq => Below.heap_setCell _ _ _ _ (fun e => h.ne (by have e2 : q = rb := e; rw [← e2]; exact hq))⟩, (FrP.refl _ _).put _ _ (fun _ => Or.inl rfl)⟩
  obtain ⟨z, hz⟩ : ∃ z, L[n]? = some z := ⟨_, List.getElem?_eq_getElem (by omega)⟩
  have ce := (h.row.cell hz).1
  have cl := h.box.cell
  have cf := h.box.thaw 4
  have r1 : ((n + 1 : Nat) : Int) - 1 = (n : Int) := by omega
  have hnz : (n : Int) < ((n + 1 : Nat) : Int) := by omega
  have hnc : (n : Int) ≤ (cap : Int) := by omega
  clear h hz hl
  go_enter Try.func111, Try.ntmps111
  go_wp2
  go_ret
  exact ⟨_, rfl, HR.out⟩
set_option maxRecDepth 100000 in
set_option maxHeartbeats 3200000 in
theorem heapPop (B rb g n cap : Nat) (a b c d : Value) (L : List Int) (w : World) (h : LnC B w rb a b c d (.slice (some ⟨g, 0, none⟩) (n + 1) cap) L) (hn : n < 1000000) :
    Calls Try.prog 51 #[.iface 68 (.pointer (some ⟨rb, 4, none⟩))] w fun e w' => ∃ z, e = .returned (.iface 3 (.int .i64 z)) ∧ LnC B w' rb a b c d (.slice (some ⟨g, 0, none⟩) n cap) ((dnL (swp L 0 n) 0 n).take n) ∧ FrP (LnS rb (.slice (some ⟨g, 0, none⟩) (n + 1) cap)) w w' := by
  have HL : Hid (LnC B w rb a b c d (.slice (some ⟨g, 0, none⟩) (n + 1) cap) L) := h
  have hne : Hid (g ≠ rb) := fun e => h.ne (by rw [e]; rfl)
  have cl := h.box.cell
  have m1 := mLnLen w rb 4 _ cl
  have e1 := entLnLen
  have e2 := entLnSwap
  have e3 := entLnPop
  have CL : Hid _ := lnLen (some ⟨g, 0, none⟩) (n + 1) cap w
  have CS : Hid _ := lnSwap B g (n + 1) cap L 0 n w h.row (by omega) (by omega)
  have r1 : ((n + 1 : Nat) : Int) - 1 = (n : Int) := by omega
  have m2 := mLnSwap w rb 4 _ cl
  clear h cl
  go_enter Try.func51, Try.ntmps51
  go_wp2_with fail
  refine Calls.mono CL.out ?_
  rintro e z ⟨rfl, rfl⟩
  go_wp2_with fail
  refine Calls.mono CS.out ?_
  rintro e y ⟨rfl, hy1, hy2⟩
  clear CL CS m1 m2
  have HY : Hid (LnC B y rb a b c d (.slice (some ⟨g, 0, none⟩) (n + 1) cap) (swp L 0 n)) := HL.out.of rfl hne.out rfl hy1 hy2
  have HF : Hid (FrP (LnS rb (.slice (some ⟨g, 0, none⟩) (n + 1) cap)) z y) := (FrP.of_grown hy2).mono (fun q _ e => Or.inr e)
  have CD : Hid _ := downH B rb g (n + 1) cap 0 n a b c d (swp L 0 n) y HY.out.box HY.out.row (by omega) (by omega) (by omega)
  clear hy1 hy2 HL
  go_wp2_with fail
  refine Calls.mono CD.out ?_
  rintro e x ⟨r, rfl, hx1, hx2⟩
  clear CD
  have HX : Hid (LnC B x rb a b c d (.slice (some ⟨g, 0, none⟩) (n + 1) cap) (dnL (swp L 0 n) 0 n)) := HY.out.of rfl hne.out rfl hx1 hx2
  have HF2 : Hid (FrP (LnS rb (.slice (some ⟨g, 0, none⟩) (n + 1) cap)) z x) := HF.out.tr (FrP.of_grown hx2) (fun q _ e => Or.inr e)
  have CP : Hid _ := lnPop B rb g n cap a b c d (dnL (swp L 0 n) 0 n) x HX.out hn
  have m3 := mLnPop x rb 4
  clear hx1 hx2 HY HF
  go_wp2_with fail
  refine Calls.mono CP.out ?_
  rintro e u ⟨p, rfl, hu1, hu2⟩
  have HR : Hid (LnC B u rb a b c d (.slice (some ⟨g, 0, none⟩) n cap) ((dnL (swp L 0 n) 0 n).take n) ∧ FrP (LnS rb (.slice (some ⟨g, 0, none⟩) (n + 1) cap)) z u) := ⟨hu1, HF2.out.tr hu2 (fun _ _ e => e)⟩
  clear CP m3 hu1 hu2 HX HF2
  go_wp2
  go_ret
  exact ⟨_, rfl, HR.out⟩
end Go.Proofs.Ytmgbhbdcnciccaa

/-
  Proved here: what Parse of package whole answers.
-/
import Derived.Test.YtmcnpiajnehnlabDoorWholeM
import Derived.Test.YtmcnpiajnehnlabDoorParse
namespace Go.Proofs.YtmcnpiajnehnlabDoor
open Go.RowKit

/-- A stroke ahead. -/
def strk (s : ByteArray) : Bool := decide (0 < s.size) && ((s.extract 0 1).toList == [45])

set_option maxRecDepth 100000 in
set_option maxHeartbeats 3200000 in
theorem cut_any' (s : ByteArray) (w : World) (hs : s.size ≤ 1000000) :
    Calls Tryd.prog 37 #[.string s, .string ⟨#[45]⟩] w fun e w' => e = .returned (.tuple #[.string (if strk s then s.extract 1 s.size else s), .bool (strk s)]) ∧ w' = w := by
  by_cases h0 : 0 < s.size
  · cases hb : ((s.extract 0 1).toList == [45])
    · have HK : Hid (strk s = false) := by show _ = _; unfold strk; rw [hb]; simp
      rw [HK.out, if_neg (by decide)]
      have h1 : (1 : Int) ≤ (s.size : Int) := by omega
      go_enter Tryd.func37, Tryd.ntmps37
      go_wp2
      go_ret2
      exact ⟨rfl, rfl⟩
    · have HK : Hid (strk s = true) := by show _ = _; unfold strk; rw [hb, decide_eq_true h0]; rfl
      rw [HK.out, if_pos rfl]
      have h1 : (1 : Int) ≤ (s.size : Int) := by omega
      go_enter Tryd.func37, Tryd.ntmps37
      go_wp2
      go_ret2
      exact ⟨rfl, rfl⟩
  · have HK : Hid (strk s = false) := by show _ = _; unfold strk; rw [decide_eq_false h0]; rfl
    rw [HK.out, if_neg (by decide)]
    have h1 : ¬ (1 : Int) ≤ (s.size : Int) := by omega
    go_enter Tryd.func37, Tryd.ntmps37
    go_wp2
    go_ret2
    exact ⟨rfl, rfl⟩
theorem results_ct {P : Program} {fn : Func} {p u : Tmp} {ty : TypeId} (h : fn.results = #[.cell p ty, .tmp u]) (tmps : Array Value) (w : World) (g : Nat) (t : TypeId) (cs : Array Value) (fr : Nat × Nat) (d : TypeDesc)
    (hp : tmps.getD p undef = .pointer (some ⟨g, 0, none⟩)) (hg : w.heap[g]? = some (.cells cs t fr))
    (hu : P.underlying ty = some d) (hd : (match d with | .struct _ | .array _ _ => true | _ => false) = true) (hi : (P.info? ty).map (·.size) = some cs.size) :
    (results fn tmps).run P w = .ok (.tuple #[.agg cs, tmps.getD u undef]) w := by
  have hp' : tmps[p]?.getD undef = .pointer (some ⟨g, 0, none⟩) := by simpa using hp
  simp [results, h, hp', asAddr, run_loadVar_row w g t ty cs fr d hg hu hd hi]
/-- The digits behind a stroke. -/
def tail (s : ByteArray) : ByteArray := if strk s then s.extract 1 s.size else s
theorem tail_size (s : ByteArray) : (tail s).size ≤ s.size := by
  unfold tail
  split
  · rw [ByteArray.size_extract]; omega
  · exact Nat.le_refl _

set_option maxRecDepth 100000 in
set_option maxHeartbeats 3200000 in
theorem c_parse (s : ByteArray) (w : World) (hs : s.size ≤ 1000000) :
    Calls Tryd.prog 22 #[.string s] w fun e w' => if DigOk (tail s) ∧ 0 < (tail s).size then ∃ v, e = .returned (.tuple #[v, .int .i64 0]) ∧ IOwn w.heap.size w' v (zv (strk s) (bval (dgs (tail s)))) ∧ Below w.heap.size w w'
      else e = .returned (.tuple #[.agg #[.bool false, .slice none 0 0], .int .i64 10]) ∧ Below w.heap.size w w' := by
  have hts := tail_size s
  obtain ⟨W1, hW1⟩ : ∃ W1, W1 = w.alloc (.cells #[.bool false, .slice none 0 0] 25) := ⟨_, rfl⟩
  have q0 : ICell W1 w.heap.size false (.slice none 0 0) := by rw [hW1]; exact icell_new _ rfl
  have hb : Below w.heap.size w W1 := by rw [hW1]; exact belowA _ _
  have hsz : w.heap.size < W1.heap.size := by rw [hW1]; simp
  have HW1 : Hid (W1 = w.alloc (.cells #[.bool false, .slice none 0 0] 25)) := hW1
  clear hW1
  obtain ⟨g, hg⟩ : ∃ g, g = w.heap.size := ⟨_, rfl⟩
  rw [← hg] at q0 hsz
  have HG : Hid (g = w.heap.size) := hg
  have hcut := cut_any' s W1 hs
  rw [show (if strk s = true then s.extract 1 s.size else s) = tail s from rfl] at hcut
  obtain ⟨t, ht⟩ : ∃ t, t = tail s := ⟨_, rfl⟩
  obtain ⟨k, hk⟩ : ∃ k, k = strk s := ⟨_, rfl⟩
  rw [← ht] at hcut hts ⊢
  rw [← hk] at hcut ⊢
  clear ht hk
  by_cases hd : DigOk t ∧ 0 < t.size
  · simp only [hd, if_true]
    obtain ⟨z, hz⟩ : ∃ z, z = zv k (bval (dgs t)) := ⟨_, rfl⟩
    have HZ : Hid (z = zv k (bval (dgs t))) := hz
    rw [← hz]
    clear hz
    go_enter Tryd.func22, Tryd.ntmps22
    go_wp2_with fail
    rw [← HW1.out, ← hg]
    clear HW1 hg
    refine hcut.mono ?_
    rintro e w2 ⟨rfl, rfl⟩
    clear hcut
    go_wp2_with fail
    refine (parse_any t _ (by omega)).mono ?_
    rintro e w3 ⟨u, rfl, hu, hb3⟩
    rw [if_pos hd]
    rw [if_pos hd] at hu
    obtain ⟨uo, ul, uc, rfl⟩ := hu.sl
    replace q0 := q0.below hb3
    replace hb := bstep hb hb3
    have HB : Hid (g < w2.heap.size) := hsz
    go_wp2_with fail
    refine (signed_any _ _ _ _ hu.num).mono ?_
    rintro e w4 ⟨rfl, hb4⟩
    rw [sign_eq, ← HZ.out]
    replace q0 := q0.below hb4
    replace hb := bstep hb hb4
    replace hu := hu.below hb4
    have hE := (int_done (w := w) (g := g) (z := z) rfl (by rw [HG.out]; exact Nat.le_refl _) (by rw [HZ.out, zv_abs]; exact hu) HB.out hb).i
    obtain ⟨v9, he9, ho9, hb9⟩ := hE
    cases he9
    have HE : Hid (∃ v, (Ending.returned (.tuple #[.agg #[.bool (decide (z < 0)), .slice uo ul uc], .int .i64 0])) = .returned (.tuple #[v, .int .i64 0]) ∧ IOwn w.heap.size ((w4.setCell ⟨g, 0, none⟩ (.bool (decide (z < 0)))).setCell ⟨g, 1, none⟩ (.slice uo ul uc)) v z ∧ Below w.heap.size w ((w4.setCell ⟨g, 0, none⟩ (.bool (decide (z < 0)))).setCell ⟨g, 1, none⟩ (.slice uo ul uc))) := ⟨_, rfl, ho9, hb9⟩
    have HW : Hid (ICell ((w4.setCell ⟨g, 0, none⟩ (.bool (decide (z < 0)))).setCell ⟨g, 1, none⟩ (.slice uo ul uc)) g (decide (z < 0)) (.slice uo ul uc)) := q0.write _ _
    obtain ⟨y0, y1⟩ := q0.cells
    have f0 := q0.thaw 0
    have f1 := q0.thaw 1
    clear q0 hb hu hb3 hb4 ho9 hb9 hsz hd
    go_wp2_with fail
    (try simp only [Exit.inBlock, Exit.then])
    exact bodyPost_ret (results_ct (p := 2) (u := 3) rfl _ _ g 25 _ (0, 0) _ rfl HW.out Tryd.underlying25 rfl (by kernel_rfl)) rfl HE.out
  · simp only [hd, if_false]
    go_enter Tryd.func22, Tryd.ntmps22
    go_wp2_with fail
    rw [← HW1.out, ← hg]
    clear HW1 hg
    refine hcut.mono ?_
    rintro e w2 ⟨rfl, rfl⟩
    clear hcut
    go_wp2_with fail
    refine (parse_any t _ (by omega)).mono ?_
    rintro e w3 ⟨u, rfl, hu, hb3⟩
    rw [if_neg hd]
    replace q0 := q0.below hb3
    replace hb := bstep hb hb3
    have HE : Hid (Below w.heap.size w ((w3.setCell ⟨g, 0, none⟩ (.bool false)).setCell ⟨g, 1, none⟩ (.slice none 0 0))) := iend2 hb (by rw [HG.out]; exact Nat.le_refl _)
    have HW : Hid (ICell ((w3.setCell ⟨g, 0, none⟩ (.bool false)).setCell ⟨g, 1, none⟩ (.slice none 0 0)) g false (.slice none 0 0)) := q0.write _ _
    obtain ⟨y0, y1⟩ := q0.cells
    have f0 := q0.thaw 0
    have f1 := q0.thaw 1
    clear q0 hb hu hb3 hsz hd
    go_wp2_with fail
    (try simp only [Exit.inBlock, Exit.then])
    exact bodyPost_ret (results_ct (p := 2) (u := 3) rfl _ _ g 25 _ (0, 0) _ rfl HW.out Tryd.underlying25 rfl (by kernel_rfl)) rfl ⟨rfl, HE.out⟩
end Go.Proofs.YtmcnpiajnehnlabDoor

/-
  Proved here: what the law's digits answers.
-/
import Derived.Test.YtboohobkjhianacDoorText
namespace Go.Proofs.YtboohobkjhianacDoor
open Go.RowKit

theorem strOf_bt {l : List Nat} {i : Nat} (hl : ∀ x ∈ l, x < 256) (hi : i < l.length) : bt (strOfNums (l.map fun (x : Nat) => (x : Int))) i = l.getD i 0 := by
  unfold bt
  rw [strOfNums_data, List.map_map, List.getD_eq_getElem?_getD, List.getElem?_map, List.getElem?_eq_getElem hi, List.getD_eq_getElem?_getD, List.getElem?_eq_getElem hi]
  have := hl _ (List.getElem_mem hi)
  simp
  omega
/-- What digits leaves. -/
def LDigEnd (w : World) (e : Ending) (w' : World) : Prop := ∃ r : ByteArray, e = .returned (.string r) ∧ DigOk r ∧ 0 < r.size ∧ r.size ≤ 300 ∧ Below w.heap.size w w'

set_option maxRecDepth 100000 in
set_option maxHeartbeats 3200000 in
theorem ldigits_any (s : ByteArray) (w : World) (hs : s.size ≤ maxLen) :
    Calls Tryd.prog 17 #[.string s] w fun e w' => LDigEnd w e w' := by
  obtain ⟨iY, hiY, hzY0, hzY1, hzY2⟩ := info_parts Tryd.infoY
  unfold maxLen at hs
  go_enter Tryd.func17, Tryd.ntmps17
  go_wp2
  go_loopw [3, 4] (fun ov iv wr => ∃ (i : Nat) (l : List Nat), i ≤ s.size ∧ i ≤ 300 ∧ iv = .int .i64 i ∧ l.length = i ∧ (∀ x ∈ l, 48 ≤ x ∧ x ≤ 57) ∧ OwnY w.heap.size wr ov l ∧ Below w.heap.size w wr) (fun _ iv _ => 300 - (intOf iv).toNat)
  case atStart => exact ⟨0, [], Nat.zero_le _, Nat.zero_le _, rfl, rfl, fun x hx => by simp at hx, OwnY.of_nil _ _, Below.refl _ _⟩
  case round =>
    obtain ⟨i, l, his, hi3, rfl, hll, hld, hoy, hbel⟩ := hrel
    have HLL : Hid (l.length = i) := hll
    have HLD : Hid (∀ x ∈ l, 48 ≤ x ∧ x ≤ 57) := hld
    have hbw : w.heap.size ≤ wr.heap.size := hbel.size
    clear hll hld
    by_cases hc : i < s.size ∧ i < 300
    · obtain ⟨hlt, hlt3⟩ := hc
      have hlt' : (i : Int) < (s.size : Int) := by omega
      have hlt3' : (i : Int) < 300 := by omega
      have hg := bt_get hlt
      have hb := bt_lt s i
      obtain ⟨c, hcc⟩ : ∃ c, c = bt s i := ⟨_, rfl⟩
      rw [← hcc] at hg hb
      obtain ⟨r, hr⟩ : ∃ r, r = c % 10 := ⟨_, rfl⟩
      have er : (c : Int) % 10 = (r : Int) := by omega
      have hr9 : r ≤ 9 := by omega
      clear hcc hr
      have HO : Hid (wr.ownsRow w.heap.size 5 1 u3 i (l.map Y)) := by show _; rw [← HLL.out]; exact hoy
      have hB3 : w.heap.size ≤ (wr.alloc (.cells #[.int .u8 (48 + (r : Int))] 5)).heap.size := by simp; omega
      go_wp2_with (at_builtin; refine wpList_push _ rfl _ _ 60 rfl w.heap.size 5 iY (.int .u8 0) 1 Tryd.underlying60 hiY hzY0 hzY1 hzY2 rfl _ i (l.map Y) rfl (HO.out.alloc _) ⟨wr.heap.size, 0, none⟩ 1 1 [.int .u8 (48 + (r : Int))] rfl rfl (cell_one_new _ _ _) (fun u hu => by simp at hu; subst hu; rfl) (by decide) (by unfold maxLen; omega) (by omega) hB3 ?_)
      intro v' w5 ho hgr _ _
      have R := push_ownY (d := 48 + r) hoy hbel hbw (by rw [HLL.out, show Y (48 + r) = .int .u8 (48 + (r : Int)) by unfold Y; congr 1]; exact ho) hgr
      clear ho hgr hoy hbel hbw HO hB3
      go_wp2
      go_roundw
      case rel =>
        refine ⟨i + 1, l ++ [48 + r], by omega, by omega, by go_num, by rw [List.length_append, HLL.out]; rfl, fun x hx => ?_, R.1, R.2.1⟩
        rcases List.mem_append.1 hx with h1 | h1
        · exact HLD.out x h1
        · simp at h1; omega
      case measure => simp [intOf]; omega
    · have key : ∀ (b1 b2 : Bool), True := fun _ _ => trivial
      have HNI : Hid (i = s.size ∨ i = 300) := by show _ ∨ _; omega
      have hfin : Hid (∀ W, W = wr → ∃ r : ByteArray, (i ≠ 0 → (strOfNums (l.map fun (x : Nat) => (x : Int))) = r) ∧ DigOk (strOfNums (l.map fun (x : Nat) => (x : Int)))) := fun W _ => by
        refine ⟨_, fun _ => rfl, fun j hj => ?_⟩
        rw [strOfNums_size, List.length_map] at hj
        rw [strOf_bt (fun x hx => by have := HLD.out x hx; omega) hj, List.getD_eq_getElem?_getD, List.getElem?_eq_getElem hj]
        exact HLD.out _ (List.getElem_mem hj)
      have HDK : Hid (DigOk (strOfNums (l.map fun (x : Nat) => (x : Int)))) := (hfin.out wr rfl).choose_spec.2
      clear hfin key
      have hsh : (u3 = .slice none 0 0 ∧ i = 0) ∨ ∃ g cp, u3 = .slice (some ⟨g, 0, none⟩) i cp := by
        rcases hoy.2 with ⟨h1, h2⟩ | ⟨g', cap', cur, h1, _⟩
        · rw [HLL.out] at h2; exact Or.inl ⟨h1, h2⟩
        · rw [HLL.out] at h1; exact Or.inr ⟨g', cap', h1⟩
      have HE0 : Hid (Below w.heap.size w wr) := hbel
      have hguard : (decide ((i : Int) < (s.size : Int)) && decide ((i : Int) < 300)) = false := by
        rcases HNI.out with h | h
        · rw [decide_eq_false (show ¬ (i : Int) < (s.size : Int) by omega)]; rfl
        · rw [decide_eq_false (show ¬ (i : Int) < 300 by omega)]; simp
      by_cases h0 : i = 0
      · subst h0
        have hlt' : ¬ ((0 : Nat) : Int) < (s.size : Int) := by rcases HNI.out with h | h <;> omega
        have HE : Hid (LDigEnd w (.returned (.string ⟨#[48]⟩)) wr) := ⟨_, rfl, by decide, by decide, by decide, HE0.out⟩
        clear hguard hbel hoy
        rcases hsh with ⟨rfl, _⟩ | ⟨g, cp, rfl⟩
        · go_wp2
          go_ret
          exact HE.out
        · go_wp2
          go_ret
          exact HE.out
      · have hsh2 : ∃ g cp, u3 = .slice (some ⟨g, 0, none⟩) i cp := by
          rcases hsh with ⟨_, h⟩ | h
          · exact absurd h h0
          · exact h
        obtain ⟨g, cp, rfl⟩ := hsh2
        have h0' : ((i : Int) == 0) = false := by simp; omega
        have hcv := run_convert_bytes_arg (P := Tryd.prog) wr 60 5 Tryd.underlying60 Tryd.underlying5 g 0 i cp (l.map fun (x : Nat) => (x : Int)) (by rw [List.length_map, HLL.out]) (fun j hj => by
          have := (hoy.cell (k := j) (by rw [HLL.out]; exact hj)).1
          rw [Nat.zero_add, this]
          congr 2
          rw [List.getD_eq_getElem?_getD, List.getD_eq_getElem?_getD, List.getElem?_map]
          cases l[j]? <;> rfl) 9 Tryd.underlying9
        obtain ⟨S, hS⟩ : ∃ S, S = strOfNums (l.map fun (x : Nat) => (x : Int)) := ⟨_, rfl⟩
        rw [← hS] at hcv
        have HE : Hid (LDigEnd w (.returned (.string S)) wr) := ⟨S, rfl, by rw [hS]; exact HDK.out, by rw [hS, strOfNums_size, List.length_map, HLL.out]; omega, by rw [hS, strOfNums_size, List.length_map, HLL.out]; omega, HE0.out⟩
        clear hS hoy hbel hsh hguard
        rcases HNI.out with h | h
        · have hlt' : ¬ (i : Int) < (s.size : Int) := by omega
          clear h
          go_wp2
          go_ret
          exact HE.out
        · have hlt3' : ¬ (i : Int) < 300 := by omega
          clear h
          by_cases hlt : i < s.size
          · have hlt' : (i : Int) < (s.size : Int) := by omega
            go_wp2
            go_ret
            exact HE.out
          · have hlt' : ¬ (i : Int) < (s.size : Int) := by omega
            go_wp2
            go_ret
            exact HE.out
end Go.Proofs.YtboohobkjhianacDoor

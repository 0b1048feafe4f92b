/-
  Proved here: the law LexNamed, walked.
-/
import Derived.Test.YtjiolinhkadoaaaDoorLexAwB
import Derived.Test.YtjiolinhkadoaaaDoorLexNamedM
namespace Go.Proofs.YtjiolinhkadoaaaDoor
open Go.RowKit
theorem toList_inj {a b : ByteArray} (h : a.toList = b.toList) : a = b := by
  rw [ByteArray.toList_eq, ByteArray.toList_eq] at h
  exact ByteArray.ext (Array.toList_inj.1 h)
set_option maxRecDepth 100000 in
set_option maxHeartbeats 3200000 in
theorem lexNamed_top (s : ByteArray) (w : World) (m : Int) (hm : w.cell? ⟨1, 0, none⟩ = some (.int .i64 m)) (hg : ErrT w) (hs : s.size ≤ 1048576) (_ : s.size ≤ maxLen) :
    Calls Tryd.prog 8 #[.string s] w fun e w' => e = .returned (.bool true) ∧ Below w.heap.size w w' := by
  have ha := awake_yes m w hm hg
  have n1 := fun w => lexName_any s w (by omega)
  have s1 := fun w hm => scan_any s m w (by omega) hm
  have hno := @named_no s
  have hyes := @named_yes s
  generalize isNm s = b at *
  go_enter Tryd.func8, Tryd.ntmps8
  go_wp2_with fail
  refine ha.mono ?_
  rintro e w1 ⟨rfl, b1⟩
  have hm1 := keepB2 b1 hm
  clear ha hm hg
  go_wp2_with fail
  refine (s1 _ hm1).mono ?_
  rintro e w2 ⟨b2, ⟨hf, v, rfl, hr⟩ | ⟨c, li, co, wd, fb, hf, _, rfl, _⟩⟩
  · have HB : Hid (Below w.heap.size w w2) := bstep1 b1 b2
    have HF : Hid (fltOf (allF s 0) = none) := hf
    clear s1 hm1 b1 b2 hf
    obtain ⟨al, hal⟩ : ∃ al, al = allF s 0 := ⟨_, rfl⟩
    rw [← hal] at hr hyes hno HF
    clear hal
    by_cases h2 : al.length = 2
    · obtain ⟨o1, o2, rfl⟩ : ∃ o1 o2, al = [o1, o2] := by
        match al, h2 with
        | [o1, o2], _ => exact ⟨o1, o2, rfl⟩
      have ht := fltOf_none _ HF.out
      cases o1 with
      | flt c li co wd => exact absurd (ht _ List.mem_cons_self) (fun h => by cases h)
      | tok k ms li co j =>
        cases o2 with
        | flt c li co wd => exact absurd (ht _ (List.mem_cons_of_mem _ List.mem_cons_self)) (fun h => by cases h)
        | tok k2 ms2 li2 co2 j2 =>
          obtain ⟨g, cap, rfl⟩ := Joins.ownsRow_form hr (Nat.succ_pos _)
          have y0 := hr.cellAt 0 (by simp)
          have y1 := hr.cellAt 1 (by simp)
          have y2 := hr.cellAt 2 (by simp)
          have y3 := hr.cellAt 3 (by simp)
          simp only [List.flatMap_cons, tokCells, List.cons_append, List.getElem?_cons_zero, List.getElem?_cons_succ] at y0 y1 y2 y3
          simp only [List.length_cons, List.length_nil, Nat.reduceAdd]
          clear hr ht HF h2
          cases b with
          | true =>
            have h := hyes rfl
            simp only [List.cons.injEq, Out.tok.injEq, and_true] at h
            obtain ⟨⟨rfl, rfl, rfl, rfl, _⟩, _⟩ := h
            clear hyes hno
            go_wp2_with (go_at_call 17; refine (n1 _).mono ?_; rintro e w3 ⟨rfl, rfl⟩)
            go_ret
            exact ⟨rfl, HB.out⟩
          | false =>
            have h := hno rfl rfl
            clear hyes hno
            by_cases hk : k = 1
            · have hms : ¬ ms.toList = s.toList := fun e => h ⟨hk, toList_inj e⟩
              clear h
              subst hk
              go_wp2_with (go_at_call 17; refine (n1 _).mono ?_; rintro e w3 ⟨rfl, rfl⟩)
              go_ret
              exact ⟨rfl, HB.out⟩
            · clear h
              go_wp2_with (go_at_call 17; refine (n1 _).mono ?_; rintro e w3 ⟨rfl, rfl⟩)
              go_ret
              exact ⟨rfl, HB.out⟩
    · have hb : b = false := by
        cases b with
        | false => rfl
        | true => exact absurd (by rw [hyes rfl]; rfl) h2
      subst hb
      obtain ⟨n, hn⟩ : ∃ n, n = al.length := ⟨_, rfl⟩
      rw [← hn] at hr h2
      obtain ⟨ao, cap, rfl⟩ : ∃ ao cap, v = .slice ao n cap := by
        rcases Joins.ownsRow_forms hr with ⟨h, h0⟩ | ⟨g, cap, h⟩
        · exact ⟨_, _, by rw [h, h0]⟩
        · exact ⟨_, _, h⟩
      have hz : ¬ (n : Int) = 2 := by omega
      clear hr hyes hno hn h2
      go_wp2_with (go_at_call 17; refine (n1 _).mono ?_; rintro e w3 ⟨rfl, rfl⟩)
      go_ret
      exact ⟨rfl, HB.out⟩
  · have HB : Hid (Below w.heap.size w w2) := bstep1 b1 b2
    have hb : b = false := by
      cases b with
      | false => rfl
      | true => rw [hyes rfl] at hf; cases hf
    subst hb
    clear s1 hm1 b1 b2 hf hyes hno
    go_wp2_with (go_at_call 17; refine (n1 _).mono ?_; rintro e w3 ⟨rfl, rfl⟩)
    go_ret
    exact ⟨rfl, HB.out⟩
end Go.Proofs.YtjiolinhkadoaaaDoor

/-
  Proved here: the law's edges: edges as a list of numbers.
-/
import Derived.Test.YtpokgdepopcppaaDagW
import Derived.Test.YtpokgdepopcppaaDagX
namespace Go.Proofs.Ytpokgdepopcppaa
set_option linter.unusedVariables false
open Go.RowKit
/-- A row of edges that can be read. -/
def RE (w : World) (v : Value) (es : List (Int × Int)) : Prop := ∃ ao cap, v = .slice ao es.length cap ∧ es.length ≤ cap ∧ cap ≤ maxLen ∧ ∀ i e, es[i]? = some e → ∃ g, ao = some ⟨g, 0, none⟩ ∧ w.cell? ⟨g, i * 2, none⟩ = some (.int .i64 e.1) ∧ w.cell? ⟨g, i * 2 + 1, none⟩ = some (.int .i64 e.2)
theorem flE_get {es : List (Int × Int)} {i : Nat} {e : Int × Int} (h : es[i]? = some e) : (flE es)[i * 2]? = some (.int .i64 e.1) ∧ (flE es)[i * 2 + 1]? = some (.int .i64 e.2) := by
  induction es generalizing i with
  | nil => simp at h
  | cons x es ih =>
    cases i with
    | zero => simp at h; subst h; exact ⟨rfl, rfl⟩
    | succ i =>
      have h' : es[i]? = some e := by simpa using h
      obtain ⟨h1, h2⟩ := ih h'
      have e1 : flE (x :: es) = .int .i64 x.1 :: .int .i64 x.2 :: flE es := rfl
      rw [e1, show (i + 1) * 2 = i * 2 + 1 + 1 by omega]
      exact ⟨by simpa using h1, by simpa using h2⟩
theorem OE.re {B : Nat} {w : World} {v : Value} {es : List (Int × Int)} (h : OE B w v es) : RE w v es := by
  rcases h.2 with ⟨e, h0⟩ | ⟨g, cap, cur, e, h3, h4, h5, h6, h7, h8⟩
  · exact ⟨none, 0, by rw [h0]; exact e, by omega, by unfold maxLen; omega, fun i x hx => by rw [List.length_eq_zero_iff.1 h0] at hx; simp at hx⟩
  · refine ⟨_, cap, e, h5, h6, fun i x hx => ⟨g, rfl, ?_⟩⟩
    obtain ⟨f1, f2⟩ := flE_get hx
    have hi : i < es.length := (List.getElem?_eq_some_iff.1 hx).1
    rw [← h8, List.getElem?_take_of_lt (by omega)] at f1 f2
    rw [cell_of_row w g _ _ _ _ h4, cell_of_row w g _ _ _ _ h4]
    exact ⟨by simpa using f1, by simpa using f2⟩
/-- Edges as numbers. -/
def edI (es : List (Int × Int)) : List Int := es.flatMap (fun e => [e.1, e.2])
theorem edI_len (es : List (Int × Int)) : (edI es).length = 2 * es.length := by
  induction es with
  | nil => rfl
  | cons e es ih => simp [edI] at ih ⊢; omega
theorem edI_step {es : List (Int × Int)} {i : Nat} {e : Int × Int} (h : es[i]? = some e) : edI (es.take (i + 1)) = edI (es.take i) ++ [e.1, e.2] := by
  rw [List.take_add_one, h]; simp [edI]
set_option maxRecDepth 100000 in
set_option maxHeartbeats 6400000 in
theorem edgesI (v : Value) (es : List (Int × Int)) (w : World) (h : RE w v es) (hl : es.length ≤ 100000) :
    Calls Try.prog 17 #[v] w fun e w' => ∃ tv, e = .returned tv ∧ OG (Value.int .i64) w.heap.size 3 w' tv (edI es) ∧ Below w.heap.size w w' := by
  obtain ⟨i0, hi, hz0, hz1, hz2⟩ := info_parts Try.infoI
  obtain ⟨ao, cap, rfl, hc1, hc2, hcell⟩ := h
  unfold maxLen at hc2
  obtain ⟨n, hn⟩ : ∃ n, es.length = n := ⟨_, rfl⟩
  rw [hn] at hl hc1 ⊢
  have HN : Hid (es.length = n) := hn
  have HC : Hid (∀ i e, es[i]? = some e → ∃ g, ao = some ⟨g, 0, none⟩ ∧ w.cell? ⟨g, i * 2, none⟩ = some (.int .i64 e.1) ∧ w.cell? ⟨g, i * 2 + 1, none⟩ = some (.int .i64 e.2)) := hcell
  clear hn hcell
  go_enter Try.func17, Try.ntmps17
  go_wp2
  go_loopg [3, 4] n (fun g1 v3 v4 wr => ∃ (i : Nat) (vo : Option Addr) (vn vc : Nat), v3 = .slice vo vn vc ∧ v4 = .int .i64 i ∧ i ≤ n ∧ n - i ≤ g1 ∧ Hid (OG (Value.int .i64) w.heap.size 3 wr (.slice vo vn vc) (edI (es.take i))) ∧ Hid (Below w.heap.size w wr))
  case atStart => exact ⟨0, none, 0, 0, rfl, rfl, by omega, by omega, OG.nil _ _ _, Below.refl _ _⟩
  case round =>
    obtain ⟨i, vo, vn, vc, rfl, rfl, hin, hg1, HO, HB⟩ := hrel
    by_cases hlt : i < n
    · have hltz : (i : Int) < (n : Int) := by omega
      obtain ⟨e, he⟩ : ∃ e, es[i]? = some e := ⟨_, List.getElem?_eq_getElem (by rw [HN.out]; exact hlt)⟩
      obtain ⟨a, b⟩ := e
      obtain ⟨g, rfl, h1, h2⟩ := HC.out i (a, b) he
      have ca : wr.cell? ⟨g, i * 2, none⟩ = some (.int .i64 a) := keepR HB.out h1
      have cb2 : wr.cell? ⟨g, i * 2 + 1, none⟩ = some (.int .i64 b) := keepR HB.out h2
      have HST : Hid (edI (es.take (i + 1)) = edI (es.take i) ++ [a, b]) := edI_step he
      have HLN : Hid ((edI (es.take i)).length = 2 * i) := by show _ = _; rw [edI_len, List.length_take, HN.out, Nat.min_eq_left hin]
      have HCA : Hid (w.cell? ⟨g, i * 2, none⟩ = some (.int .i64 a) ∧ w.cell? ⟨g, i * 2 + 1, none⟩ = some (.int .i64 b)) := ⟨h1, h2⟩
      clear he h1 h2
      go_upto_region 5 with fail
      have KEEP : ∀ u, Below wr.heap.size wr u → L4.AllL u [(5, fun w' => w'.cell? ⟨g, i * 2, none⟩ = some (.int .i64 a)), (10, fun w' => w'.cell? ⟨g, i * 2 + 1, none⟩ = some (.int .i64 b))] := fun u hu => ⟨keepR hu ca, keepR hu cb2, trivial⟩
      refine L4.region_late [(5, fun w' => w'.cell? ⟨g, i * 2, none⟩ = some (.int .i64 a)), (10, fun w' => w'.cell? ⟨g, i * 2 + 1, none⟩ = some (.int .i64 b))] (by kernel_rfl) ?_
      have B : Below wr.heap.size wr wr.drew := (Below.refl _ _).drew
      obtain ⟨w1, hw1⟩ : ∃ u, u = wr.drew := ⟨_, rfl⟩
      rw [← hw1] at B ⊢
      clear hw1
      have hHeld := KEEP _ B
      refine L4.late_free 0 (v := .slice vo vn vc) rfl (by kernel_rfl) (by kernel_rfl) (by kernel_rfl) (by kernel_rfl) (by kernel_rfl) (by kernel_rfl) (fun _ _ _ h => h) (Or.inl ⟨by rfl, ?_⟩) hHeld ?_
      · (intro u _; go_simp)
      (try simp only [Act.put, List.setIfInBounds_toArray, List.set_cons_zero, List.set_cons_succ])
      refine L4.late_free 1 (v := .slice (some ⟨g, 0, none⟩) n cap) rfl (by kernel_rfl) (by kernel_rfl) (by kernel_rfl) (by kernel_rfl) (by kernel_rfl) (by kernel_rfl) (fun _ _ _ h => h) (Or.inl ⟨by rfl, ?_⟩) hHeld ?_
      · (intro u _; go_simp)
      (try simp only [Act.put, List.setIfInBounds_toArray, List.set_cons_zero, List.set_cons_succ])
      refine L4.late_free 2 (v := .int .i64 ((i : Nat) : Int)) rfl (by kernel_rfl) (by kernel_rfl) (by kernel_rfl) (by kernel_rfl) (by kernel_rfl) (by kernel_rfl) (fun _ _ _ h => h) (Or.inl ⟨by rfl, ?_⟩) hHeld ?_
      · (intro u _; go_simp)
      (try simp only [Act.put, List.setIfInBounds_toArray, List.set_cons_zero, List.set_cons_succ])
      refine L4.late_free 3 (v := .pointer (some ⟨g, i * 2, none⟩)) rfl (by kernel_rfl) (by kernel_rfl) (by kernel_rfl) (by kernel_rfl) (by kernel_rfl) (by kernel_rfl) (fun _ _ _ h => h) (Or.inl ⟨by rfl, ?_⟩) hHeld ?_
      · (intro u _; go_simp)
      (try simp only [Act.put, List.setIfInBounds_toArray, List.set_cons_zero, List.set_cons_succ])
      refine L4.late_free 4 (v := .pointer (some ⟨g, i * 2, none⟩)) rfl (by kernel_rfl) (by kernel_rfl) (by kernel_rfl) (by kernel_rfl) (by kernel_rfl) (by kernel_rfl) (fun _ _ _ h => h) (Or.inl ⟨by rfl, ?_⟩) hHeld ?_
      · (intro u _; go_simp)
      (try simp only [Act.put, List.setIfInBounds_toArray, List.set_cons_zero, List.set_cons_succ])
      refine L4.late_take 5 (v := .int .i64 a) rfl (by kernel_rfl) (List.Mem.head _) (by kernel_rfl) (by kernel_rfl) (by kernel_rfl) (by kernel_rfl) (fun _ _ _ h => h) (Or.inl ⟨by rfl, ?_⟩) hHeld ?_
      · (intro u hu; (try dsimp only at hu); go_split_ands; go_simp)
      (try simp only [Act.put, List.setIfInBounds_toArray, List.set_cons_zero, List.set_cons_succ])
      refine L4.late_free 6 (v := .slice (some ⟨g, 0, none⟩) n cap) rfl (by kernel_rfl) (by kernel_rfl) (by kernel_rfl) (by kernel_rfl) (by kernel_rfl) (by kernel_rfl) (fun _ _ _ h => h) (Or.inl ⟨by rfl, ?_⟩) hHeld ?_
      · (intro u _; go_simp)
      (try simp only [Act.put, List.setIfInBounds_toArray, List.set_cons_zero, List.set_cons_succ])
      refine L4.late_free 7 (v := .int .i64 ((i : Nat) : Int)) rfl (by kernel_rfl) (by kernel_rfl) (by kernel_rfl) (by kernel_rfl) (by kernel_rfl) (by kernel_rfl) (fun _ _ _ h => h) (Or.inl ⟨by rfl, ?_⟩) hHeld ?_
      · (intro u _; go_simp)
      (try simp only [Act.put, List.setIfInBounds_toArray, List.set_cons_zero, List.set_cons_succ])
      refine L4.late_free 8 (v := .pointer (some ⟨g, i * 2, none⟩)) rfl (by kernel_rfl) (by kernel_rfl) (by kernel_rfl) (by kernel_rfl) (by kernel_rfl) (by kernel_rfl) (fun _ _ _ h => h) (Or.inl ⟨by rfl, ?_⟩) hHeld ?_
      · (intro u _; go_simp)
      (try simp only [Act.put, List.setIfInBounds_toArray, List.set_cons_zero, List.set_cons_succ])
      refine L4.late_free 9 (v := .pointer (some ⟨g, i * 2 + 1, none⟩)) rfl (by kernel_rfl) (by kernel_rfl) (by kernel_rfl) (by kernel_rfl) (by kernel_rfl) (by kernel_rfl) (fun _ _ _ h => h) (Or.inl ⟨by rfl, ?_⟩) hHeld ?_
      · (intro u _; go_simp)
      (try simp only [Act.put, List.setIfInBounds_toArray, List.set_cons_zero, List.set_cons_succ])
      refine L4.late_take 10 (v := .int .i64 b) rfl (by kernel_rfl) (List.Mem.tail _ (List.Mem.head _)) (by kernel_rfl) (by kernel_rfl) (by kernel_rfl) (by kernel_rfl) (fun _ _ _ h => h) (Or.inl ⟨by rfl, ?_⟩) hHeld ?_
      · (intro u hu; (try dsimp only at hu); go_split_ands; go_simp)
      (try simp only [Act.put, List.setIfInBounds_toArray, List.set_cons_zero, List.set_cons_succ])
      refine L4.late_step 11 (by kernel_rfl) rfl (fun K hK => ?_)
      go_simp
      obtain ⟨y2, hy2⟩ : ∃ u, u = w1.alloc (.cells #[.int .i64 a, .int .i64 b] 3) := ⟨_, rfl⟩
      obtain ⟨gb, hgb⟩ : ∃ u, u = w1.heap.size := ⟨_, rfl⟩
      rw [← hy2, ← hgb]
      have c2 : Below w1.heap.size w1 y2 := by rw [hy2]; exact belowB _ _
      have cb : y2.cell? ⟨gb, 0, none⟩ = some (.int .i64 a) ∧ y2.cell? ⟨gb, 1, none⟩ = some (.int .i64 b) := ⟨by rw [hy2, hgb, World.cell?_alloc_at _ _ _ _ rfl]; rfl, by rw [hy2, hgb, World.cell?_alloc_at _ _ _ _ rfl]; rfl⟩
      clear hy2 hgb
      have B := B.trans (c2.mono B.size)
      clear c2 hHeld
      have hHeld := KEEP _ B
      refine hK.out _ _ (L4.AllL.kept hHeld) ?_
      clear hK K
      (try simp only [Act.put, List.setIfInBounds_toArray, List.set_cons_zero, List.set_cons_succ])
      refine L4.late_step 12 (by kernel_rfl) rfl (fun K hK => ?_)
      refine want_yesD rfl ?_
      have hown := HO.out.below B
      have hown' : y2.ownsRow w.heap.size 3 1 (.slice vo vn vc) (2 * i) ((edI (es.take i)).map (Value.int .i64)) := by have := hown; unfold OG at this; rw [HLN.out] at this; exact this
      refine wp_append_lies _ _ _ 24 rfl w.heap.size 3 i0 (.int .i64 0) 1 8 Try.underlying24 hi hz0 hz1 hz2 rfl (by decide) (.slice vo vn vc) (2 * i) _ rfl hown' ⟨gb, 0, none⟩ 2 2 [.int .i64 a, .int .i64 b] rfl rfl (fun j u hj => by match j, hj with
        | 0, hj => simp at hj; subst hj; rw [Addr.add_lit, Nat.add_zero]; exact cb.1
        | 1, hj => simp at hj; subst hj; rw [Addr.add_lit]; exact cb.2) (by simp [Value.oneCell']) (by decide) (by unfold maxLen; omega) (by omega) (Nat.le_trans HB.out.size B.size) _ rfl ?_
      intro ng ncap y3 ho2 hg2 hgg hlt9
      have HO2 : Hid (OG (Value.int .i64) w.heap.size 3 y3 (.slice (some ⟨ng, 0, none⟩) (2 * i + 2) ncap) (edI (es.take (i + 1)))) := by show OG _ _ _ _ _ _; rw [HST.out]; unfold OG; rw [List.length_append, HLN.out, List.map_append]; exact ho2
      have HB2 : Hid (Below w.heap.size w y3) := (HB.out.trans (B.mono HB.out.size)).trans ⟨hg2.os, hg2.tape, hg2.output, hg2.size, fun q hq => hg2.block q (Nat.lt_of_lt_of_le hq (Nat.le_trans HB.out.size B.size)) (fun e => by have := (HO.out.lt q e.symm).1; omega)⟩
      have ca9 : y3.cell? ⟨g, i * 2, none⟩ = some (.int .i64 a) := keepR HB2.out HCA.out.1
      have cb9 : y3.cell? ⟨g, i * 2 + 1, none⟩ = some (.int .i64 b) := keepR HB2.out HCA.out.2
      clear hHeld hown hown' ho2 hg2 hgg hlt9 B cb
      have hHeld : L4.AllL y3 [(5, fun w' => w'.cell? ⟨g, i * 2, none⟩ = some (.int .i64 a)), (10, fun w' => w'.cell? ⟨g, i * 2 + 1, none⟩ = some (.int .i64 b))] := ⟨ca9, cb9, trivial⟩
      refine hK.out _ _ (L4.AllL.kept hHeld) ?_
      clear hK K
      (try simp only [Act.put, List.setIfInBounds_toArray, List.set_cons_zero, List.set_cons_succ])
      refine L4.late_step 13 (by kernel_rfl) rfl (fun K hK => ?_)
      go_simp
      refine hK.out _ _ (L4.AllL.kept hHeld) ?_
      clear hK K
      (try simp only [Act.put, List.setIfInBounds_toArray, List.set_cons_zero, List.set_cons_succ])
      refine L4.late_done (by kernel_rfl) ?_ _
      clear KEEP hHeld HO HB ca cb2 ca9 cb9 HCA HST HLN
      go_wp2
      go_roundg (n - (i + 1))
      case measure => omega
      case rel => exact ⟨i + 1, _, _, _, rfl, by first | rfl | go_num, by omega, Nat.le_refl _, HO2, HB2⟩
    · have hltz : ¬ (i : Int) < (n : Int) := by omega
      have HE : Hid (OG (Value.int .i64) w.heap.size 3 wr (.slice vo vn vc) (edI es)) := by
        have := HO.out
        rw [List.take_of_length_le (by rw [HN.out]; omega)] at this
        exact this
      clear HO
      go_wp2
      go_ret
      exact ⟨_, rfl, HE.out, HB.out⟩
end Go.Proofs.Ytpokgdepopcppaa

/-
  Proved here: a table that may be, out of any one: the law's mended.
-/
import Derived.Test.YtjlmignafhhjhaaFacM
namespace Go.Proofs.Ytjlmignafhhjhaa
set_option linter.unusedVariables false
open Go.RowKit Go.Shelf Go.Lib Go.Sort
/-- A variable's size by its number. -/
def szm (v : Int) : Int := v % 3 + 1
theorem szm_bd (v : Int) : 1 ≤ szm v ∧ szm v ≤ 3 := by unfold szm; omega
/-- What mended leaves. -/
def MnE (w : World) (e : Ending) (w' : World) : Prop :=
  ∃ o1 n1 c1 o2 n2 c2 o3 n3 c3 V C, e = .returned (.agg #[.slice o1 n1 c1, .slice o2 n2 c2, .slice o3 n3 c3]) ∧ RG (Value.int .i64) w' (.slice o1 n1 c1) V ∧ RG (Value.int .i64) w' (.slice o2 n2 c2) (V.map szm) ∧ RG (Value.int .i64) w' (.slice o3 n3 c3) C ∧
    Rise V ∧ (∀ x ∈ V, 0 ≤ x ∧ x < 8) ∧ V.length ≤ 8 ∧ (C.length : Int) = pr (V.map szm) ∧ C.length ≤ 6561 ∧ Below w.heap.size w w'
theorem rise_snoc {V : List Int} {x : Int} (h : Rise V) (hx : ∀ y ∈ V, y < x) : Rise (V ++ [x]) := List.pairwise_append.2 ⟨h, List.pairwise_singleton _ _, fun a ha b hb => by rw [List.mem_singleton] at hb; subst hb; exact hx a ha⟩
theorem pow3 : ∀ v : Nat, v ≤ 8 → 3 ^ v ≤ 6561 := by decide
set_option maxRecDepth 100000 in
set_option maxHeartbeats 12800000 in
theorem mended_any (s z c : Value) (xs cs : List Int) (w : World) (hs : RG (Value.int .i64) w s xs) (hc : RG (Value.int .i64) w c cs) (hb : ∀ q ∈ xs, -9223372036854775808 ≤ q ∧ q ≤ 9223372036854775807) :
    Calls Try.prog 29 #[.agg #[s, z, c]] w (MnE w) := by
  obtain ⟨so, sc, rfl, hs1, hs2, -, hscell⟩ := hs
  obtain ⟨co, cc, rfl, hc1, hc2, -, hccell⟩ := hc
  unfold maxLen at hs2 hc2
  obtain ⟨W1, hW1⟩ : ∃ W1, W1 = ((w.alloc (.cells #[.slice so xs.length sc, z, .slice co cs.length cc] 34)).alloc (.cells #[.slice none 0 0, .slice none 0 0, .slice none 0 0] 34)).alloc (.cells #[.bool false, .bool false, .bool false, .bool false, .bool false, .bool false, .bool false, .bool false] 123) := ⟨_, rfl⟩
  obtain ⟨g, hg⟩ : ∃ g, g = w.heap.size := ⟨_, rfl⟩
  have qa : BCell 34 W1 g (.slice so xs.length sc) z (.slice co cs.length cc) := by rw [hW1]; exact ((BCell.new w hg.symm).step _).step _
  have qr : BCell 34 W1 (g + 1) (.slice none 0 0) (.slice none 0 0) (.slice none 0 0) := by rw [hW1]; exact (BCell.new _ (by simp [hg])).step _
  have qi : W1.heap[g + 2]? = some (.cells ((List.replicate 8 false).map Value.bool).toArray 123 (0, 0)) := by
    have := heap_alloc_new ((w.alloc (.cells #[.slice so xs.length sc, z, .slice co cs.length cc] 34)).alloc (.cells #[.slice none 0 0, .slice none 0 0, .slice none 0 0] 34)) (.cells #[.bool false, .bool false, .bool false, .bool false, .bool false, .bool false, .bool false, .bool false] 123)
    rw [World.size_alloc, World.size_alloc, ← hg] at this
    rw [hW1]; exact this
  have b0 : Below w.heap.size w W1 := by rw [hW1]; exact bstepB (bstepB (belowB w _) (belowB _ _)) (belowB _ _)
  have z0 : W1.heap.size = g + 3 := by rw [hW1]; simp [hg]
  have HSC : Hid (∀ i x, xs[i]? = some x → ∃ g o, so = some ⟨g, o, none⟩ ∧ w.cell? ⟨g, o + i, none⟩ = some (Value.int .i64 x)) := hscell
  have HCC : Hid (∀ i x, cs[i]? = some x → ∃ g o, co = some ⟨g, o, none⟩ ∧ w.cell? ⟨g, o + i, none⟩ = some (Value.int .i64 x)) := hccell
  have HBD : Hid (∀ q ∈ xs, -9223372036854775808 ≤ q ∧ q ≤ 9223372036854775807) := hb
  obtain ⟨n, hn⟩ : ∃ n, xs.length = n := ⟨_, rfl⟩
  obtain ⟨m, hm⟩ : ∃ n, cs.length = n := ⟨_, rfl⟩
  rw [hn] at hs1 hW1 qa ⊢
  rw [hm] at hc1 hW1 qa ⊢
  have HN : Hid (xs.length = n ∧ cs.length = m) := ⟨hn, hm⟩
  have HG : Hid (g = w.heap.size) := hg
  have HZ0 : Hid (W1.heap.size = g + 3) := z0
  have HB : Hid (Below w.heap.size w W1) := b0
  have HQA : Hid (BCell 34 W1 g (.slice so n sc) z (.slice co m cc)) := qa
  have HQR : Hid (BCell 34 W1 (g + 1) (.slice none 0 0) (.slice none 0 0) (.slice none 0 0)) := qr
  have HQI : Hid (W1.heap[g + 2]? = some (.cells ((List.replicate 8 false).map Value.bool).toArray 123 (0, 0))) := qi
  have HW1 : Hid (W1 = ((w.alloc (.cells #[.slice so n sc, z, .slice co m cc] 34)).alloc (.cells #[.slice none 0 0, .slice none 0 0, .slice none 0 0] 34)).alloc (.cells #[.bool false, .bool false, .bool false, .bool false, .bool false, .bool false, .bool false, .bool false] 123)) := hW1
  clear hW1 hg qa qr qi b0 z0 hscell hccell hb hn hm
  have HBX : Hid (∀ W, GrS W1 W [g + 2] → Below w.heap.size w W ∧ BCell 34 W g (.slice so n sc) z (.slice co m cc) ∧ BCell 34 W (g + 1) (.slice none 0 0) (.slice none 0 0) (.slice none 0 0)) := fun W h => by
    have hG := HG.out; have hZ := HZ0.out
    refine ⟨HB.out.trans (h.below (by simp; omega) HB.out.size), ?_, ?_⟩
    · unfold BCell; rw [h.block g HQA.out.lt (by simp)]; exact HQA.out
    · unfold BCell; rw [h.block (g + 1) HQR.out.lt (by simp)]; exact HQR.out
  go_enter Try.func29, Try.ntmps29
  go_upto_region 2 with fail
  rw [← HG.out]
  simp only [Nat.add_assoc, Nat.reduceAdd]
  rw [← HW1.out]
  clear HW1
  go_wp2
  go_loopg [4, 5] 4 (fun g1 v4 _v5 wr => ∃ i : Nat, v4 = .int .i64 i ∧ i ≤ 4 ∧ 4 - i ≤ g1 ∧ Hid (∃ D : List Bool, D.length = 8 ∧ wr.heap[g + 2]? = some (.cells (D.map Value.bool).toArray 123 (0, 0)) ∧ GrS W1 wr [g + 2]))
  case atStart => exact ⟨0, rfl, by omega, by omega, ⟨_, by simp, HQI.out, GrS.refl _ _⟩⟩
  case round =>
    clear HQI
    obtain ⟨i, rfl, hi4, hg1, HI⟩ := hrel
    obtain ⟨D, hD, hrow, hgs⟩ := HI.out
    obtain ⟨bw, qa, qr⟩ := HBX.out _ hgs
    obtain ⟨ca0, ca1, ca2⟩ := qa.cells
    by_cases hlt : i < n ∧ i < 4
    · obtain ⟨hin, hi4'⟩ := hlt
      have h1 : (i : Int) < (n : Int) := by omega
      have h2 : (i : Int) < 4 := by omega
      obtain ⟨x, hx⟩ : ∃ x, xs[i]? = some x := ⟨_, List.getElem?_eq_getElem (by rw [HN.out.1]; exact hin)⟩
      obtain ⟨sg, sof, rfl, cx⟩ := HSC.out i x hx
      have cx1 := keepR bw cx
      have hxb := HBD.out x (List.mem_of_getElem? hx)
      obtain ⟨r, hr⟩ : ∃ r, x.tmod 8 = r := ⟨_, rfl⟩
      have hr1 : -8 < r ∧ r < 8 := by rw [← hr]; have := Int.tmod_lt_of_pos x (b := 8) (by decide); have := Int.lt_tmod_of_pos x (b := 8) (by decide); omega
      have hwr : IntKind.i64.wrap r = r := by rw [IntKind.wrap_i64]; omega
      have HNX : Hid (∀ j : Nat, j < 8 → ∃ D : List Bool, D.length = 8 ∧ (wr.setCell ⟨g + 2, j, none⟩ (.bool true)).heap[g + 2]? = some (.cells (D.map Value.bool).toArray 123 (0, 0)) ∧ GrS W1 (wr.setCell ⟨g + 2, j, none⟩ (.bool true)) [g + 2]) := fun j hj => ⟨D.set j true, by rw [List.length_set]; exact hD, rows_set hrow true, hgs.set (by simp) _ _⟩
      have HCE : Hid (∀ j : Nat, j < 8 → (∃ b, wr.cell? ⟨g + 2, j, none⟩ = some (.bool b)) ∧ wr.frozen? ⟨g + 2, j, none⟩ = false) := fun j hj => ⟨⟨D[j]'(by omega), rows_cell hrow (List.getElem?_eq_getElem (by omega))⟩, frozen_of_row _ _ _ _ _ hrow⟩
      clear HI hD hrow hgs bw qa qr cx hx
      by_cases hneg : r < 0
      · obtain ⟨j, hj⟩ : ∃ j : Nat, r + 8 = (j : Int) := ⟨(r + 8).toNat, by omega⟩
        have hj8 : j < 8 := by omega
        have hjz : (j : Int) < 8 := by omega
        have hw8 : IntKind.i64.wrap ((j : Int)) = (j : Int) := by rw [IntKind.wrap_i64]; omega
        obtain ⟨⟨ob, cj⟩, fj⟩ := HCE.out j hj8
        have HN2 : Hid _ := HNX.out j hj8
        clear HNX HCE
        go_wp2
        go_roundg (4 - (i + 1))
        case measure => omega
        case rel => exact ⟨i + 1, by go_num, by omega, Nat.le_refl _, HN2⟩
      · obtain ⟨j, hj⟩ : ∃ j : Nat, r = (j : Int) := ⟨r.toNat, by omega⟩
        subst hj
        have hj8 : j < 8 := by omega
        have hjz : (j : Int) < 8 := by omega
        obtain ⟨⟨ob, cj⟩, fj⟩ := HCE.out j hj8
        have HN2 : Hid _ := HNX.out j hj8
        clear HNX HCE
        go_wp2
        go_roundg (4 - (i + 1))
        case measure => omega
        case rel => exact ⟨i + 1, by go_num, by omega, Nat.le_refl _, HN2⟩
    · obtain ⟨W2, hW2⟩ : ∃ u, u = wr.alloc (.cells #[.slice none 0 0, .slice none 0 0, .slice none 0 0] 34) := ⟨_, rfl⟩
      obtain ⟨go, hgo⟩ : ∃ u, u = wr.heap.size := ⟨_, rfl⟩
      have HW2 : Hid (W2 = wr.alloc (.cells #[.slice none 0 0, .slice none 0 0, .slice none 0 0] 34)) := hW2
      have HGO : Hid (go = wr.heap.size) := hgo
      have b2 : Below wr.heap.size wr W2 := by rw [hW2]; exact belowB _ _
      have HBI : Hid (BCell 34 W2 go (.slice none 0 0) (.slice none 0 0) (.slice none 0 0)) := by show BCell _ _ _ _ _ _; rw [hW2]; exact BCell.new _ hgo.symm
      have hgo2 : go < W2.heap.size := by rw [hW2, hgo]; simp
      have hsz : g + 3 ≤ go := by rw [hgo]; have := HZ0.out; have := hgs.size; omega
      have hgs2 := hgs.then b2
      obtain ⟨bw2, qa2, qr2⟩ := HBX.out _ hgs2
      have HROW : Hid (W2.heap[g + 2]? = some (.cells (D.map Value.bool).toArray 123 (0, 0)) ∧ D.length = 8) := ⟨(b2.block _ (Array.getElem?_eq_some_iff.1 hrow).1).trans hrow, hD⟩
      have HBW2 : Hid (Below w.heap.size w W2) := bw2
      have HQA2 : Hid (BCell 34 W2 g (.slice so n sc) z (.slice co m cc)) := qa2
      have HQR2 : Hid (BCell 34 W2 (g + 1) (.slice none 0 0) (.slice none 0 0) (.slice none 0 0)) := qr2
      have HM0 : Hid (MdC W2 go (.slice none 0 0) (.slice none 0 0) (.slice none 0 0) [] [] [] W2) := ⟨GrS.refl _ _, HBI.out, OG.nil _ _ _, OG.nil _ _ _, OG.nil _ _ _, fun q h => by simp [Value.ownBlock] at h, fun q h => by simp [Value.ownBlock] at h, fun q h => by simp [Value.ownBlock] at h⟩
      have HORD : Hid (g + 3 ≤ go ∧ go < W2.heap.size ∧ w.heap.size = g) := ⟨hsz, hgo2, HG.out.symm⟩
      have HOL : Hid (∀ W, GrS W2 W [go] → Below w.heap.size w W ∧ BCell 34 W g (.slice so n sc) z (.slice co m cc) ∧ BCell 34 W (g + 1) (.slice none 0 0) (.slice none 0 0) (.slice none 0 0) ∧ W.heap[g + 2]? = some (.cells (D.map Value.bool).toArray 123 (0, 0))) := fun W h => by
        have hO := HORD.out
        refine ⟨HBW2.out.trans (h.below (by simp; omega) HBW2.out.size), ?_, ?_, ?_⟩
        · unfold BCell; rw [h.block g HQA2.out.lt (by simp; omega)]; exact HQA2.out
        · unfold BCell; rw [h.block (g + 1) HQR2.out.lt (by simp; omega)]; exact HQR2.out
        · rw [h.block (g + 2) (Array.getElem?_eq_some_iff.1 HROW.out.1).1 (by simp; omega)]; exact HROW.out.1
      have hcond : (decide ((i : Int) < (n : Int)) && decide ((i : Int) < 4)) = false := by
        by_cases h1 : i < n
        · have : ¬ i < 4 := fun h => hlt ⟨h1, h⟩
          rw [decide_eq_false (p := (i : Int) < 4) (by omega), Bool.and_false]
        · rw [decide_eq_false (p := (i : Int) < (n : Int)) (by omega), Bool.false_and]
      obtain ⟨i0, hi, hz0, hz1', hz2'⟩ := info_parts infoI
      clear hW2 hgo b2 hgs2 bw2 qa2 qr2 HI hD hrow hgs bw qa qr hsz HBX HQA HQR HB
      have hfin : i < n → ¬ (i : Int) < 4 := fun h1 h2 => hlt ⟨h1, by omega⟩
      clear hlt
      by_cases h1 : i < n
      all_goals
        first
          | (have h2 := hfin h1
             have h1z : (i : Int) < (n : Int) := by omega)
          | (have h1z : ¬ (i : Int) < (n : Int) := by omega)
        clear hfin hcond
        go_upto_region 10 with fail
        rw [← HW2.out, ← HGO.out]
        clear HW2 HGO ca0 ca1 ca2 h1z
        go_wp2
        go_loopg [7, 8] 8 (fun g2 v7 v8 wr => ∃ (v nn : Nat) (o1 : Option Addr) (n1 c1 : Nat) (o2 : Option Addr) (n2 c2 : Nat) (V : List Int), v8 = .int .i64 v ∧ v7 = .int .i64 nn ∧ v ≤ 8 ∧ 8 - v ≤ g2 ∧ nn ≤ 3 ^ v ∧ Hid (MdC W2 go (.slice o1 n1 c1) (.slice o2 n2 c2) (.slice none 0 0) V (V.map szm) [] wr ∧ Rise V ∧ (∀ x ∈ V, 0 ≤ x ∧ x < (v : Int)) ∧ V.length ≤ v ∧ (nn : Int) = pr (V.map szm)))
        case atStart => exact ⟨0, 1, none, 0, 0, none, 0, 0, [], rfl, rfl, by omega, by omega, by decide, HM0.out, List.Pairwise.nil, (fun x h => by cases h), Nat.le_refl _, rfl⟩
        case round =>
          clear HM0
          obtain ⟨v, nn, o1, n1, c1, o2, n2, c2, V, rfl, rfl, hv8, hg2, hnn, HI⟩ := hrel
          obtain ⟨hM, hR, hV, hVl, hpr⟩ := HI.out
          clear HI
          obtain ⟨bw, qa, qr, hrow⟩ := HOL.out _ hM.grs
          by_cases hlt2 : v < 8
          · have hlt2z : (v : Int) < 8 := by omega
            obtain ⟨b, hbv⟩ : ∃ b, D[v]? = some b := ⟨_, List.getElem?_eq_getElem (by rw [HROW.out.2]; exact hlt2)⟩
            have cv := rows_cell hrow hbv
            have h3 := pow3 v hv8
            clear hbv
            cases b with
            | false =>
              have HN3 : Hid (MdC W2 go (.slice o1 n1 c1) (.slice o2 n2 c2) (.slice none 0 0) V (V.map szm) [] wr ∧ Rise V ∧ (∀ x ∈ V, 0 ≤ x ∧ x < ((v + 1 : Nat) : Int)) ∧ V.length ≤ v + 1 ∧ (nn : Int) = pr (V.map szm)) := ⟨hM, hR, fun x hx => by have := hV x hx; omega, by omega, hpr⟩
              have hnn2 : nn ≤ 3 ^ (v + 1) := Nat.le_trans hnn (Nat.pow_le_pow_right (by decide) (by omega))
              clear hM hR hV hVl hpr bw qa qr hrow h3
              go_wp2
              go_roundg (8 - (v + 1))
              case measure => omega
              case rel => exact ⟨v + 1, nn, _, _, _, _, _, _, V, by go_num, rfl, by omega, Nat.le_refl _, hnn2, HN3⟩
            | true =>
              obtain ⟨cg0, cg1, cg2⟩ := hM.box.cells
              have fg0 := hM.box.thaw 0
              have HM : Hid (MdC W2 go (.slice o1 n1 c1) (.slice o2 n2 c2) (.slice none 0 0) V (V.map szm) [] wr) := hM
              have HV : Hid (Rise V ∧ (∀ x ∈ V, 0 ≤ x ∧ x < (v : Int)) ∧ V.length ≤ v ∧ (nn : Int) = pr (V.map szm)) := ⟨hR, hV, hVl, hpr⟩
              have hszw : W2.heap.size ≤ wr.heap.size := hM.grs.size
              obtain ⟨WA, hWA⟩ : ∃ u, u = wr.alloc (.cells #[.int .i64 (v : Int)] 3) := ⟨_, rfl⟩
              have hMA := hM.below (W' := WA) (by rw [hWA]; exact belowB _ _)
              obtain ⟨gb, hgb⟩ : ∃ u, u = wr.heap.size := ⟨_, rfl⟩
              have cb : WA.cell? ⟨gb, 0, none⟩ = some (.int .i64 (v : Int)) := by rw [hWA, hgb, World.cell?_alloc_at _ _ _ _ rfl]; rfl
              have HCB : Hid (WA.cell? ⟨gb, 0, none⟩ = some (.int .i64 (v : Int))) := cb
              have HWA : Hid (WA = wr.alloc (.cells #[.int .i64 (v : Int)] 3)) := hWA
              have HGB : Hid (gb = wr.heap.size) := hgb
              have HMA : Hid (MdC W2 go (.slice o1 n1 c1) (.slice o2 n2 c2) (.slice none 0 0) V (V.map szm) [] WA) := hMA
              have hszA : W2.heap.size ≤ WA.heap.size := hMA.grs.size
              clear hM hR hV hVl hpr bw qa qr hrow hWA hgb cb hMA
              go_wp2_with (at_builtin; rw [← HWA.out, ← HGB.out]; refine wpList_push1 _ rfl _ _ 22 rfl W2.heap.size 3 i0 Try.underlying22 hi hz0 hz1' hz2' _ V rfl HMA.out.r1 gb _ rfl HCB.out (by have := HV.out; omega) hszA ?_)
              intro ng nk nc WB ho hg hgg hlt9
              have hO := HORD.out
              have hgoA : (Value.slice o1 n1 c1).ownBlock ≠ some go := fun e => by have := (HMA.out.r1.lt go e).1; omega
              have qB : BCell 34 WB go (.slice o1 n1 c1) (.slice o2 n2 c2) (.slice none 0 0) := by unfold BCell; rw [hg.block go HMA.out.box.lt (fun e => hgoA e.symm)]; exact HMA.out.box
              have HM1 : Hid (MdC W2 go (.slice (some ⟨ng, 0, none⟩) nk nc) (.slice o2 n2 c2) (.slice none 0 0) (V ++ [(v : Int)]) (V.map szm) [] (WB.setCell ⟨go, 0, none⟩ (.slice (some ⟨ng, 0, none⟩) nk nc))) := HMA.out.push1 hO.2.1 ho hg hgg
              obtain ⟨kb0, kb1, kb2⟩ := qB.cells
              have kf := qB.thaw 0
              clear ho hg hgg hlt9 hgoA qB HMA HCB HWA HGB hszA cg0 cg1 cg2 fg0 HM hO
              go_upto_region 16 with fail
              obtain ⟨W5, hW5⟩ : ∃ u, u = WB.setCell ⟨go, 0, none⟩ (.slice (some ⟨ng, 0, none⟩) nk nc) := ⟨_, rfl⟩
              rw [← hW5] at HM1 ⊢
              clear hW5 kb0 kb1 kb2 kf cv
              obtain ⟨k3, hk3⟩ : ∃ k : Nat, v % 3 = k := ⟨_, rfl⟩
              have hk3l : k3 < 3 := by omega
              have htm : (v : Int).tmod 3 = (k3 : Int) := by rw [Int.tmod_eq_emod_of_nonneg (by omega)]; omega
              have hsm : szm (v : Int) = (k3 : Int) + 1 := by unfold szm; omega
              have hw3 : IntKind.i64.wrap (k3 : Int) = (k3 : Int) := by rw [IntKind.wrap_i64]; omega
              have hw4 : IntKind.i64.wrap ((k3 : Int) + 1) = (k3 : Int) + 1 := by rw [IntKind.wrap_i64]; omega
              have HSM : Hid (szm (v : Int) = (k3 : Int) + 1) := hsm
              obtain ⟨WC, hWC⟩ : ∃ u, u = W5.alloc (.cells #[.int .i64 ((k3 : Int) + 1)] 3) := ⟨_, rfl⟩
              have hMC := HM1.out.below (W' := WC) (by rw [hWC]; exact belowB _ _)
              obtain ⟨gb, hgb⟩ : ∃ u, u = W5.heap.size := ⟨_, rfl⟩
              have cb : WC.cell? ⟨gb, 0, none⟩ = some (.int .i64 ((k3 : Int) + 1)) := by rw [hWC, hgb, World.cell?_alloc_at _ _ _ _ rfl]; rfl
              have HCB : Hid (WC.cell? ⟨gb, 0, none⟩ = some (.int .i64 ((k3 : Int) + 1))) := cb
              have HWC : Hid (WC = W5.alloc (.cells #[.int .i64 ((k3 : Int) + 1)] 3)) := hWC
              have HGB : Hid (gb = W5.heap.size) := hgb
              have HMC : Hid (MdC W2 go (.slice (some ⟨ng, 0, none⟩) nk nc) (.slice o2 n2 c2) (.slice none 0 0) (V ++ [(v : Int)]) (V.map szm) [] WC) := hMC
              have hszC : W2.heap.size ≤ WC.heap.size := hMC.grs.size
              obtain ⟨cg0, cg1, cg2⟩ := HM1.out.box.cells
              clear hWC hgb cb hMC hsm hk3
              go_wp2_with (at_builtin; rw [← HWC.out, ← HGB.out]; refine wpList_push1 _ rfl _ _ 22 rfl W2.heap.size 3 i0 Try.underlying22 hi hz0 hz1' hz2' _ (V.map szm) rfl HMC.out.r2 gb _ rfl HCB.out (by have := HV.out; rw [List.length_map]; omega) hszC ?_)
              intro mg mk mc WD ho hg hgg hlt9
              have hO := HORD.out
              have hgoC : (Value.slice o2 n2 c2).ownBlock ≠ some go := fun e => by have := (HMC.out.r2.lt go e).1; omega
              have qD : BCell 34 WD go (.slice (some ⟨ng, 0, none⟩) nk nc) (.slice o2 n2 c2) (.slice none 0 0) := by unfold BCell; rw [hg.block go HMC.out.box.lt (fun e => hgoC e.symm)]; exact HMC.out.box
              have HM2 : Hid (MdC W2 go (.slice (some ⟨ng, 0, none⟩) nk nc) (.slice (some ⟨mg, 0, none⟩) mk mc) (.slice none 0 0) (V ++ [(v : Int)]) (V.map szm ++ [(k3 : Int) + 1]) [] (WD.setCell ⟨go, 1, none⟩ (.slice (some ⟨mg, 0, none⟩) mk mc))) := HMC.out.push2 hO.2.1 ho hg hgg
              obtain ⟨kb0, kb1, kb2⟩ := qD.cells
              have kf := qD.thaw 1
              clear ho hg hgg hlt9 hgoC qD HMC HCB HWC HGB hszC cg0 cg1 cg2 HM1 hO
              go_upto_region 17 with fail
              obtain ⟨W6, hW6⟩ : ∃ u, u = WD.setCell ⟨go, 1, none⟩ (.slice (some ⟨mg, 0, none⟩) mk mc) := ⟨_, rfl⟩
              rw [← hW6] at HM2 ⊢
              clear hW6 kb0 kb1 kb2 kf
              obtain ⟨pn, hpn⟩ : ∃ p : Nat, nn * (k3 + 1) = p := ⟨_, rfl⟩
              have hpnz : (nn : Int) * ((k3 : Int) + 1) = (pn : Int) := by rw [← hpn]; simp
              have hpn3 : pn ≤ 3 ^ (v + 1) := by rw [← hpn, Nat.pow_succ]; exact Nat.mul_le_mul hnn (by omega)
              have hpn4 := pow3 (v + 1) (by omega)
              have hw5 : IntKind.i64.wrap (pn : Int) = (pn : Int) := by rw [IntKind.wrap_i64]; omega
              have HN3 : Hid (MdC W2 go (.slice (some ⟨ng, 0, none⟩) nk nc) (.slice (some ⟨mg, 0, none⟩) mk mc) (.slice none 0 0) (V ++ [(v : Int)]) ((V ++ [(v : Int)]).map szm) [] W6 ∧ Rise (V ++ [(v : Int)]) ∧ (∀ x ∈ V ++ [(v : Int)], 0 ≤ x ∧ x < ((v + 1 : Nat) : Int)) ∧ (V ++ [(v : Int)]).length ≤ v + 1 ∧ (pn : Int) = pr ((V ++ [(v : Int)]).map szm)) := by
                obtain ⟨hR, hV, hVl, hpr⟩ := HV.out
                refine ⟨?_, rise_snoc hR fun y hy => (hV y hy).2, fun x hx => ?_, by simp; omega, ?_⟩
                · rw [List.map_append, List.map_cons, List.map_nil, HSM.out]; exact HM2.out
                · rcases List.mem_append.1 hx with h | h
                  · have := hV x h; omega
                  · rw [List.mem_singleton] at h; subst h; omega
                · rw [List.map_append, pr_append, List.map_cons, List.map_nil, ← hpr, HSM.out, ← hpnz]; simp [pr]
              clear HM2 HV HSM hpn hpn4
              go_wp2
              go_roundg (8 - (v + 1))
              case measure => omega
              case rel => exact ⟨v + 1, pn, _, _, _, _, _, _, _, by go_num, rfl, by omega, Nat.le_refl _, hpn3, HN3⟩
          · have hlt2z : ¬ (v : Int) < 8 := by omega
            have hve : v = 8 := by omega
            subst hve
            have hn6 := Nat.le_trans hnn (pow3 8 (by omega))
            have HFX : Hid (Rise V ∧ (∀ x ∈ V, 0 ≤ x ∧ x < 8) ∧ V.length ≤ 8 ∧ (nn : Int) = pr (V.map szm)) := ⟨hR, hV, hVl, hpr⟩
            have HM3 : Hid (MdC W2 go (.slice o1 n1 c1) (.slice o2 n2 c2) (.slice none 0 0) V (V.map szm) [] wr) := hM
            obtain ⟨ZV, hZV⟩ : ∃ ZV, V.map szm = ZV := ⟨_, rfl⟩
            have HZV : Hid (V.map szm = ZV) := hZV
            rw [hZV] at HM3
            clear hM hR hV hVl hpr bw qa qr hrow hnn hZV
            go_wp2
            go_loopg [9, 10] nn (fun g3 v9 _v10 wr => ∃ (k : Nat) (o3 : Option Addr) (n3 c3 : Nat) (C : List Int), v9 = .int .i64 k ∧ k ≤ nn ∧ nn - k ≤ g3 ∧ Hid (MdC W2 go (.slice o1 n1 c1) (.slice o2 n2 c2) (.slice o3 n3 c3) V ZV C wr ∧ C.length = k))
            case atStart => exact ⟨0, none, 0, 0, [], rfl, by omega, by omega, HM3.out, rfl⟩
            case round =>
              clear HM3
              obtain ⟨k, o3, n3, c3, C, rfl, hkn, hg3, HI⟩ := hrel
              obtain ⟨hM, hCl⟩ := HI.out
              clear HI
              obtain ⟨bw, qa, qr, -⟩ := HOL.out _ hM.grs
              by_cases hlt3 : k < nn
              · have hlt3z : (k : Int) < (nn : Int) := by omega
                obtain ⟨ca0, ca1, ca2⟩ := qa.cells
                have HMk : Hid (MdC W2 go (.slice o1 n1 c1) (.slice o2 n2 c2) (.slice o3 n3 c3) V ZV C wr) := hM
                have HCl : Hid (C.length = k) := hCl
                have HPU : Hid (∀ (sv : Int) (W9 : World) (a : Act), a.tmps.getD 10 undef = .int .i64 sv → True) := fun _ _ _ _ => trivial
                have hGEN : ∀ (x : Int) (wx : World), Below wr.heap.size wr wx → MdC W2 go (.slice o1 n1 c1) (.slice o2 n2 c2) (.slice o3 n3 c3) V ZV C wx := fun x wx b => HMk.out.below b
                have HGEN : Hid (∀ (x : Int) (wx : World), Below wr.heap.size wr wx → MdC W2 go (.slice o1 n1 c1) (.slice o2 n2 c2) (.slice o3 n3 c3) V ZV C wx) := hGEN
                clear hM hCl qr hGEN HPU
                by_cases hm0 : 0 < m
                · have hm0z : (0 : Int) < (m : Int) := by omega
                  obtain ⟨r, hr⟩ : ∃ r : Nat, k % m = r := ⟨_, rfl⟩
                  have hrm : r < m := by rw [← hr]; exact Nat.mod_lt _ hm0
                  have hrz : (r : Int) < (m : Int) := by omega
                  have htm : (k : Int).tmod (m : Int) = (r : Int) := by rw [Int.tmod_eq_emod_of_nonneg (by omega), ← hr]; omega
                  have hmne : ¬ m = 0 := by omega
                  have hmb : ((m : Int) == 0) = false := by simp; omega
                  have hwm : IntKind.i64.wrap (r : Int) = (r : Int) := by rw [IntKind.wrap_i64]; omega
                  obtain ⟨x, hx⟩ : ∃ x, cs[r]? = some x := ⟨_, List.getElem?_eq_getElem (by rw [HN.out.2]; exact hrm)⟩
                  obtain ⟨cg, cof, rfl, cx⟩ := HCC.out r x hx
                  have cx1 := keepR bw cx
                  clear hr hx cx bw qa
                  go_upto_region 23 with fail
  
                  have KEEP : ∀ u, Below wr.heap.size wr u → L4.AllL u [(1, fun w' => w'.cell? ⟨g, 2, none⟩ = some (.slice (some ⟨cg, cof, none⟩) m cc)), (4, fun w' => w'.cell? ⟨g, 2, none⟩ = some (.slice (some ⟨cg, cof, none⟩) m cc)), (8, fun w' => w'.cell? ⟨cg, cof + r, none⟩ = some (.int .i64 x))] := fun u hu => ⟨keepR hu ca2, keepR hu ca2, keepR hu cx1, trivial⟩
                  refine L4.region_late [(1, fun w' => w'.cell? ⟨g, 2, none⟩ = some (.slice (some ⟨cg, cof, none⟩) m cc)), (4, fun w' => w'.cell? ⟨g, 2, none⟩ = some (.slice (some ⟨cg, cof, none⟩) m cc)), (8, fun w' => w'.cell? ⟨cg, cof + r, none⟩ = some (.int .i64 x))] (by kernel_rfl) ?_
                  have B : Below wr.heap.size wr wr.drew := (Below.refl _ _).drew
                  obtain ⟨w1, hw1⟩ : ∃ u, u = wr.drew := ⟨_, rfl⟩
                  rw [← hw1] at B ⊢
                  clear hw1
                  have hHeld := KEEP _ B
                  refine L4.late_free 0 (v := .pointer (some ⟨g, 2, none⟩)) rfl (by kernel_rfl) (by kernel_rfl) (by kernel_rfl) (by kernel_rfl) (by kernel_rfl) (by kernel_rfl) (fun _ _ _ h => h) (Or.inl ⟨by rfl, ?_⟩) hHeld ?_
                  · (intro u _; go_simp)
                  (try simp only [Act.put, List.setIfInBounds_toArray, List.set_cons_zero, List.set_cons_succ])
                  refine L4.late_take 1 (v := .slice (some ⟨cg, cof, none⟩) m cc) rfl (by kernel_rfl) (List.Mem.head _) (by kernel_rfl) (by kernel_rfl) (by kernel_rfl) (by kernel_rfl) (fun _ _ _ h => h) (Or.inl ⟨by rfl, ?_⟩) hHeld ?_
                  · (intro u hu; (try dsimp only at hu); go_split_ands; go_simp)
                  (try simp only [Act.put, List.setIfInBounds_toArray, List.set_cons_zero, List.set_cons_succ])
                  refine L4.late_free 2 (v := .int .i64 ((k : Nat) : Int)) rfl (by kernel_rfl) (by kernel_rfl) (by kernel_rfl) (by kernel_rfl) (by kernel_rfl) (by kernel_rfl) (fun _ _ _ h => h) (Or.inl ⟨by rfl, ?_⟩) hHeld ?_
                  · (intro u _; go_simp)
                  (try simp only [Act.put, List.setIfInBounds_toArray, List.set_cons_zero, List.set_cons_succ])
                  refine L4.late_free 3 (v := .pointer (some ⟨g, 2, none⟩)) rfl (by kernel_rfl) (by kernel_rfl) (by kernel_rfl) (by kernel_rfl) (by kernel_rfl) (by kernel_rfl) (fun _ _ _ h => h) (Or.inl ⟨by rfl, ?_⟩) hHeld ?_
                  · (intro u _; go_simp)
                  (try simp only [Act.put, List.setIfInBounds_toArray, List.set_cons_zero, List.set_cons_succ])
                  refine L4.late_take 4 (v := .slice (some ⟨cg, cof, none⟩) m cc) rfl (by kernel_rfl) (List.Mem.tail _ (List.Mem.head _)) (by kernel_rfl) (by kernel_rfl) (by kernel_rfl) (by kernel_rfl) (fun _ _ _ h => h) (Or.inl ⟨by rfl, ?_⟩) hHeld ?_
                  · (intro u hu; (try dsimp only at hu); go_split_ands; go_simp)
                  (try simp only [Act.put, List.setIfInBounds_toArray, List.set_cons_zero, List.set_cons_succ])
                  refine L4.late_free 5 (v := .int .i64 ((m : Nat) : Int)) rfl (by kernel_rfl) (by kernel_rfl) (by kernel_rfl) (by kernel_rfl) (by kernel_rfl) (by kernel_rfl) (fun _ _ _ h => h) (Or.inl ⟨by rfl, ?_⟩) hHeld ?_
                  · (intro u _; go_simp)
                  (try simp only [Act.put, List.setIfInBounds_toArray, List.set_cons_zero, List.set_cons_succ])
                  refine L4.late_free 6 (v := .int .i64 ((r : Nat) : Int)) rfl (by kernel_rfl) (by kernel_rfl) (by kernel_rfl) (by kernel_rfl) (by kernel_rfl) (by kernel_rfl) (fun _ _ _ h => h) (Or.inl ⟨by rfl, ?_⟩) hHeld ?_
                  · (intro u _; go_simp)
                  (try simp only [Act.put, List.setIfInBounds_toArray, List.set_cons_zero, List.set_cons_succ])
                  refine L4.late_free 7 (v := .pointer (some ⟨cg, cof + r, none⟩)) rfl (by kernel_rfl) (by kernel_rfl) (by kernel_rfl) (by kernel_rfl) (by kernel_rfl) (by kernel_rfl) (fun _ _ _ h => h) (Or.inl ⟨by rfl, ?_⟩) hHeld ?_
                  · (intro u _; go_simp)
                  (try simp only [Act.put, List.setIfInBounds_toArray, List.set_cons_zero, List.set_cons_succ])
                  refine L4.late_take 8 (v := .int .i64 x) rfl (by kernel_rfl) (List.Mem.tail _ (List.Mem.tail _ (List.Mem.head _))) (by kernel_rfl) (by kernel_rfl) (by kernel_rfl) (by kernel_rfl) (fun _ _ _ h => h) (Or.inl ⟨by rfl, ?_⟩) hHeld ?_
                  · (intro u hu; (try dsimp only at hu); go_split_ands; go_simp)
                  (try simp only [Act.put, List.setIfInBounds_toArray, List.set_cons_zero, List.set_cons_succ])
                  refine L4.late_step 9 (by kernel_rfl) rfl (fun K hK => ?_)
                  go_simp
                  refine hK.out _ _ (L4.AllL.kept hHeld) ?_
                  clear hK K
                  (try simp only [Act.put, List.setIfInBounds_toArray, List.set_cons_zero, List.set_cons_succ])
                  refine L4.late_done (by kernel_rfl) ?_ _
                  clear hHeld KEEP
                  clear ca0 ca1 ca2 cx1
                  have HMx := HGEN.out 0 w1 B
                  obtain ⟨cg0, cg1, cg2⟩ := HMx.box.cells
                  obtain ⟨WA, hWA⟩ : ∃ u, u = w1.alloc (.cells #[.int .i64 x] 3) := ⟨_, rfl⟩
                  have hMA := HMx.below (W' := WA) (by rw [hWA]; exact belowB _ _)
                  obtain ⟨gb, hgb⟩ : ∃ u, u = w1.heap.size := ⟨_, rfl⟩
                  have cb : WA.cell? ⟨gb, 0, none⟩ = some (.int .i64 x) := by rw [hWA, hgb, World.cell?_alloc_at _ _ _ _ rfl]; rfl
                  have HCB : Hid (WA.cell? ⟨gb, 0, none⟩ = some (.int .i64 x)) := cb
                  have HWA : Hid (WA = w1.alloc (.cells #[.int .i64 x] 3)) := hWA
                  have HGB : Hid (gb = w1.heap.size) := hgb
                  have HMA : Hid (MdC W2 go (.slice o1 n1 c1) (.slice o2 n2 c2) (.slice o3 n3 c3) V ZV C WA) := hMA
                  have hszA : W2.heap.size ≤ WA.heap.size := hMA.grs.size
                  clear hWA hgb cb hMA HMx HGEN HMk
                  go_wp2_with (at_builtin; rw [← HWA.out, ← HGB.out]; refine wpList_push1 _ rfl _ _ 22 rfl W2.heap.size 3 i0 Try.underlying22 hi hz0 hz1' hz2' _ C rfl HMA.out.r3 gb _ rfl HCB.out (by rw [HCl.out]; omega) hszA ?_)
                  intro ng nk nc WB ho hg hgg hlt9
                  have hO := HORD.out
                  have hgoA : (Value.slice o3 n3 c3).ownBlock ≠ some go := fun e => by have := (HMA.out.r3.lt go e).1; omega
                  have qB : BCell 34 WB go (.slice o1 n1 c1) (.slice o2 n2 c2) (.slice o3 n3 c3) := by unfold BCell; rw [hg.block go HMA.out.box.lt (fun e => hgoA e.symm)]; exact HMA.out.box
                  have HM1 : Hid (MdC W2 go (.slice o1 n1 c1) (.slice o2 n2 c2) (.slice (some ⟨ng, 0, none⟩) nk nc) V ZV (C ++ [x]) (WB.setCell ⟨go, 2, none⟩ (.slice (some ⟨ng, 0, none⟩) nk nc)) ∧ (C ++ [x]).length = k + 1) := ⟨HMA.out.push3 hO.2.1 ho hg hgg, by rw [List.length_append, HCl.out]; rfl⟩
                  obtain ⟨kb0, kb1, kb2⟩ := qB.cells
                  have kf := qB.thaw 2
                  clear ho hg hgg hlt9 hgoA qB HMA HCB HWA HGB hszA cg0 cg1 cg2 hO
                  go_wp2
                  go_roundg (nn - (k + 1))
                  case measure => omega
                  case rel => exact ⟨k + 1, _, _, _, _, by go_num, by omega, Nat.le_refl _, HM1⟩
                · have hm0z : ¬ (0 : Int) < (m : Int) := by omega
                  have hwk : IntKind.i64.wrap ((k : Int) + 1) = (k : Int) + 1 := by rw [IntKind.wrap_i64]; omega
                  clear bw qa
                  go_upto_region 24 with fail
                  clear ca0 ca1 ca2
                  have HMx := HGEN.out 0 wr (Below.refl _ _)
                  obtain ⟨cg0, cg1, cg2⟩ := HMx.box.cells
                  obtain ⟨WA, hWA⟩ : ∃ u, u = wr.alloc (.cells #[.int .i64 ((k : Int) + 1)] 3) := ⟨_, rfl⟩
                  have hMA := HMx.below (W' := WA) (by rw [hWA]; exact belowB _ _)
                  obtain ⟨gb, hgb⟩ : ∃ u, u = wr.heap.size := ⟨_, rfl⟩
                  have cb : WA.cell? ⟨gb, 0, none⟩ = some (.int .i64 ((k : Int) + 1)) := by rw [hWA, hgb, World.cell?_alloc_at _ _ _ _ rfl]; rfl
                  have HCB : Hid (WA.cell? ⟨gb, 0, none⟩ = some (.int .i64 ((k : Int) + 1))) := cb
                  have HWA : Hid (WA = wr.alloc (.cells #[.int .i64 ((k : Int) + 1)] 3)) := hWA
                  have HGB : Hid (gb = wr.heap.size) := hgb
                  have HMA : Hid (MdC W2 go (.slice o1 n1 c1) (.slice o2 n2 c2) (.slice o3 n3 c3) V ZV C WA) := hMA
                  have hszA : W2.heap.size ≤ WA.heap.size := hMA.grs.size
                  clear hWA hgb cb hMA HMx HGEN HMk
                  go_wp2_with (at_builtin; rw [← HWA.out, ← HGB.out]; refine wpList_push1 _ rfl _ _ 22 rfl W2.heap.size 3 i0 Try.underlying22 hi hz0 hz1' hz2' _ C rfl HMA.out.r3 gb _ rfl HCB.out (by rw [HCl.out]; omega) hszA ?_)
                  intro ng nk nc WB ho hg hgg hlt9
                  have hO := HORD.out
                  have hgoA : (Value.slice o3 n3 c3).ownBlock ≠ some go := fun e => by have := (HMA.out.r3.lt go e).1; omega
                  have qB : BCell 34 WB go (.slice o1 n1 c1) (.slice o2 n2 c2) (.slice o3 n3 c3) := by unfold BCell; rw [hg.block go HMA.out.box.lt (fun e => hgoA e.symm)]; exact HMA.out.box
                  have HM1 : Hid (MdC W2 go (.slice o1 n1 c1) (.slice o2 n2 c2) (.slice (some ⟨ng, 0, none⟩) nk nc) V ZV (C ++ [((k : Int) + 1)]) (WB.setCell ⟨go, 2, none⟩ (.slice (some ⟨ng, 0, none⟩) nk nc)) ∧ (C ++ [((k : Int) + 1)]).length = k + 1) := ⟨HMA.out.push3 hO.2.1 ho hg hgg, by rw [List.length_append, HCl.out]; rfl⟩
                  obtain ⟨kb0, kb1, kb2⟩ := qB.cells
                  have kf := qB.thaw 2
                  clear ho hg hgg hlt9 hgoA qB HMA HCB HWA HGB hszA cg0 cg1 cg2 hO
                  go_wp2
                  go_roundg (nn - (k + 1))
                  case measure => omega
                  case rel => exact ⟨k + 1, _, _, _, _, by go_num, by omega, Nat.le_refl _, HM1⟩
              · have hlt3z : ¬ (k : Int) < (nn : Int) := by omega
                have hke : k = nn := by omega
                subst hke
                obtain ⟨cg0, cg1, cg2⟩ := hM.box.cells
                obtain ⟨r0, r1, r2⟩ := qr.cells
                have f0 := qr.thaw 0
                have f1 := qr.thaw 1
                have f2 := qr.thaw 2
                obtain ⟨WF, hWF⟩ : ∃ u, u = ((wr.setCell ⟨g + 1, 0, none⟩ (.slice o1 n1 c1)).setCell ⟨g + 1, 1, none⟩ (.slice o2 n2 c2)).setCell ⟨g + 1, 2, none⟩ (.slice o3 n3 c3) := ⟨_, rfl⟩
                have hoth : ∀ q, q ≠ g + 1 → WF.heap[q]? = wr.heap[q]? := fun q hq => by rw [hWF, Below.heap_setCell _ _ _ _ hq, Below.heap_setCell _ _ _ _ hq, Below.heap_setCell _ _ _ _ hq]
                have HWF : Hid (BCell 34 WF (g + 1) (.slice o1 n1 c1) (.slice o2 n2 c2) (.slice o3 n3 c3)) := by show BCell _ _ _ _ _ _; rw [hWF]; exact qr.write _ _ _
                have HEQ : Hid (WF = ((wr.setCell ⟨g + 1, 0, none⟩ (.slice o1 n1 c1)).setCell ⟨g + 1, 1, none⟩ (.slice o2 n2 c2)).setCell ⟨g + 1, 2, none⟩ (.slice o3 n3 c3)) := hWF
                have HRES : Hid (MnE w (.returned (.agg #[.slice o1 n1 c1, .slice o2 n2 c2, .slice o3 n3 c3])) WF) := by
                  have hO := HORD.out
                  obtain ⟨hR, hV, hVl, hpr⟩ := HFX.out
                  refine ⟨_, _, _, _, _, _, _, _, _, V, C, rfl, (hM.r1.of_blocks fun q hq => hoth q (by have := (hM.r1.lt q hq).1; omega)).rg, ?_, (hM.r3.of_blocks fun q hq => hoth q (by have := (hM.r3.lt q hq).1; omega)).rg, hR, hV, hVl, by rw [hCl]; exact hpr, by rw [hCl]; exact hn6, ?_⟩
                  · rw [HZV.out]; exact (hM.r2.of_blocks fun q hq => hoth q (by have := (hM.r2.lt q hq).1; omega)).rg
                  · rw [hWF]
                    exact ((bw.setCell (p := ⟨g + 1, 0, none⟩) (by show w.heap.size ≤ g + 1; omega) _).setCell (p := ⟨g + 1, 1, none⟩) (by show w.heap.size ≤ g + 1; omega) _).setCell (p := ⟨g + 1, 2, none⟩) (by show w.heap.size ≤ g + 1; omega) _
                clear hM hCl bw qa qr hWF hoth
                go_wp2_with fail
                (try simp only [Exit.inBlock, Exit.then])
                rw [← HEQ.out]
                exact bodyPost_ret (results_cell_row rfl _ _ (g + 1) 34 _ (0, 0) _ rfl HWF.out Try.underlying34 rfl (by kernel_rfl)) rfl HRES.out
end Go.Proofs.Ytjlmignafhhjhaa

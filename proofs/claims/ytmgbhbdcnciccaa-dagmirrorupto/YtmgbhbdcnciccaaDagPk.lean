/-
  Proved here: an append of one number to a row of the call's own, and what of the old row can still be read behind it.
-/
import Derived.Test.YtmgbhbdcnciccaaDagMp
namespace Go.Proofs.Ytmgbhbdcnciccaa
set_option linter.unusedVariables false
open Go.RowKit
theorem wp_pushK {P : Program} {w : World} {o : Oper} {a : Act} {K : Act → World → Prop} {Q : Exit → Act → World → Prop} (s x : Operand) (t : TypeId) (hop : o.op = .call { callee := .builtin .append, args := #[s, x], argTypes := #[t, t] })
    (B e : Nat) (i : TypeInfo) (h1 : P.underlying t = some (.slice e)) (h2 : P.info? e = some i) (h3 : i.zero = some (.int .i64 0)) (h4 : i.size = 1) (h5 : i.bytes = 8)
    (g n cap : Nat) (L : List Int) (hs : a.eval s = .slice (some ⟨g, 0, none⟩) n cap) (hown : OG (Value.int .i64) B e w (.slice (some ⟨g, 0, none⟩) n cap) L) (gb : Nat) (z : Int) (hx : a.eval x = .slice (some ⟨gb, 0, none⟩) 1 1) (cb : w.cell? ⟨gb, 0, none⟩ = some (.int .i64 z)) (hl : L.length ≤ 1000000) (hB : B ≤ w.heap.size)
    (hK : ∀ ng nc w', OG (Value.int .i64) B e w' (.slice (some ⟨ng, 0, none⟩) (n + 1) nc) (L ++ [z]) → w.grownBy w' (some g) → (ng = g ∨ ng = w.heap.size) → (∀ i, i < n → w'.cell? ⟨g, i, none⟩ = w.cell? ⟨g, i, none⟩) → K (a.put o.dst (.slice (some ⟨ng, 0, none⟩) (n + 1) nc)) w') : o.wp P a w K Q := by
  have hn := hown.rg.len
  rcases hown.2 with ⟨e1, _⟩ | ⟨g', cap', cur, e1, hb1, hb2, hb3, hb4, hb5, hb6⟩
  · simp at e1
  · simp only [Value.slice.injEq, Option.some.injEq, Addr.mk.injEq, and_true] at e1
    obtain ⟨rfl, hn2, rfl⟩ := e1
    rw [Nat.mul_one] at hb5 hb6
    rw [hn] at hb3 hb6
    have fin : ∀ ng nc w', (Builtin.append_ #[t, t] o.type #[.slice (some ⟨g, 0, none⟩) n cap, .slice (some ⟨gb, 0, none⟩) 1 1]).run P w = .ok (.slice (some ⟨ng, 0, none⟩) (n + 1) nc) w' → OG (Value.int .i64) B e w' (.slice (some ⟨ng, 0, none⟩) (n + 1) nc) (L ++ [z]) → w.grownBy w' (some g) → (ng = g ∨ ng = w.heap.size) → (∀ i, i < n → w'.cell? ⟨g, i, none⟩ = w.cell? ⟨g, i, none⟩) → o.wp P a w K Q := by
      intro ng nc w' hr h2 h3 h4 h6
      unfold Oper.wp execOp
      simp only [hop, resolve, invoke, builtin, Sem.run_bind, Sem.run_pure, Result.andThen_ok, List.map_toArray, List.map_cons, List.map_nil, hs, hx, hr]
      exact hK ng nc w' h2 h3 h4 h6
    by_cases hroom : n + 1 ≤ cap
    · have hr := run_append_at (P := P) w t o.type e i h1 h2 h4 g 0 n cap cur hb2 gb _ cb rfl hroom (by omega)
      rw [Nat.zero_add] at hr
      have hnew : OG (Value.int .i64) B e (w.setRow g (cur.toList.take n ++ [Value.int .i64 z] ++ cur.toList.drop (n + 1)).toArray) (.slice (some ⟨g, 0, none⟩) (n + 1) cap) (L ++ [z]) := by
        have hcl : n ≤ cur.toList.length := by rw [Array.length_toList]; omega
        have htl : (cur.toList.take n).length = n := by rw [List.length_take]; omega
        refine ⟨by simp, Or.inr ⟨g, cap, _, by simp [hn], hb1, setRow_heap w g cur _ e _ hb2, by rw [List.length_append, List.length_singleton, hn]; exact hroom, hb4, ?_, ?_⟩⟩
        · simp only [List.size_toArray, List.length_append, List.length_take, List.length_drop, Array.length_toList, List.length_singleton]
          omega
        · rw [Nat.mul_one, List.length_append, List.length_singleton, hn, List.map_append]
          show ((cur.toList.take n ++ [Value.int .i64 z]) ++ cur.toList.drop (n + 1)).take (n + 1) = _
          rw [hb6]
          exact List.take_left' (by simp [hn])
      refine fin _ _ _ hr hnew ⟨rfl, rfl, rfl, by simp, fun k _ hk => setRow_other w g k _ (fun e => hk (by rw [e]))⟩ (Or.inl rfl) (fun i hi => ?_)
      obtain ⟨y, hx1⟩ : ∃ y, L[i]? = some y := ⟨_, List.getElem?_eq_getElem (by rw [hn]; exact hi)⟩
      rw [(hown.cell hx1).1]
      exact (hnew.cell (by rw [List.getElem?_append_left (by rw [hn]; exact hi)]; exact hx1)).1
    · have holds : ∀ j u, (L.map (Value.int .i64))[j]? = some u → w.cell? ((⟨g, 0, none⟩ : Addr).add j) = some u := fun j u hj => by
        rw [List.getElem?_map] at hj
        cases hj2 : L[j]? with
        | none => rw [hj2] at hj; simp at hj
        | some y => rw [hj2] at hj; simp at hj; subst hj; rw [Addr.add_lit, Nat.zero_add]; exact (hown.cell hj2).1
      have hr := run_append_grow (P := P) w t o.type e i (.int .i64 0) h1 h2 h3 ⟨g, 0, none⟩ n cap (L.map (Value.int .i64)) (by simp [h4, hn]) holds ⟨gb, 0, none⟩ 1 1 [.int .i64 z] (by simp [h4]) (fun j u hj => by
        match j, hj with
        | 0, hj => simp at hj; subst hj; rw [Addr.add_lit, Nat.add_zero]; exact cb) (by omega) (by omega) (growslice_fits (by omega) (by rw [h5]; omega))
      have hge := grownCap_ge w (n + 1) cap e
      have hcm2 : grownCap w (n + 1) cap e ≤ maxLen := grownCap_le_maxLen w (n + 1) cap e (by unfold maxLen; omega)
      refine fin _ _ _ hr ⟨by simp, Or.inr ⟨w.heap.size, _, _, by simp [hn], hB, heap_alloc_new w.drew _, by rw [List.length_append, List.length_singleton, hn]; exact hge, hcm2, ?_, ?_⟩⟩ ⟨rfl, rfl, rfl, by simp, fun k hk _ => (heap_alloc_old w.drew _ hk)⟩ (Or.inr rfl) (fun i hi => ?_)
      · simp only [Array.size_append, List.size_toArray, size_zeroCells, List.length_map, List.length_singleton]
        rw [show (Value.int .i64 0).cells.size = 1 from rfl, Nat.mul_one]
        omega
      · rw [Nat.mul_one, List.length_append, List.length_singleton, hn, List.map_append]
        simp only [Array.toList_append, List.append_assoc]
        rw [← List.append_assoc]
        exact List.take_left' (by simp [hn])
      · have hgl := (Array.getElem?_eq_some_iff.1 hb2).1
        have hb9 : (w.drew.alloc (.cells ((L.map (Value.int .i64)).toArray ++ [Value.int .i64 z].toArray ++ Builtin.zeroCells (Value.int .i64 0).cells (grownCap w (n + 1) cap e - (n + 1))) e)).heap[g]? = w.heap[g]? := heap_alloc_old w.drew _ hgl
        exact World.cell?_of_block hb9
end Go.Proofs.Ytmgbhbdcnciccaa

/-
  Proved here: rows written full and gone on with, one by one: what stands.
-/
import Derived.Test.YtmgbhbdcnciccaaDagAnAll
import Derived.Test.YtmgbhbdcnciccaaDagPkAll
namespace Go.Proofs.Ytmgbhbdcnciccaa
set_option linter.unusedVariables false
open Go.RowKit
theorem wpList_pushS {P : Program} (w : World) {ops : Array Oper} {rest : List Oper} {o : Oper} {a : Act} {Q : Exit → Act → World → Prop} (hg : o.guard = none) (s x : Operand) (t : TypeId) (hop : o.op = .call { callee := .builtin .append, args := #[s, x], argTypes := #[t, t] })
    (B e : Nat) (i : TypeInfo) (h1 : P.underlying t = some (.slice e)) (h2 : P.info? e = some i) (h3 : i.zero = some (.int .i64 0)) (h4 : i.size = 1) (h5 : i.bytes = 8)
    (mo : Option Addr) (n cap : Nat) (L : List Int) (hs : a.eval s = .slice mo n cap) (hown : OG (Value.int .i64) B e w (.slice mo n cap) L) (gb : Nat) (z : Int) (hx : a.eval x = .slice (some ⟨gb, 0, none⟩) 1 1) (cb : w.cell? ⟨gb, 0, none⟩ = some (.int .i64 z)) (hl : L.length ≤ 1000000) (hB : B ≤ w.heap.size)
    (hK : ∀ ng nc w', OG (Value.int .i64) B e w' (.slice (some ⟨ng, 0, none⟩) (n + 1) nc) (L ++ [z]) → w.grownBy w' (Value.slice mo n cap).ownBlock → ((Value.slice mo n cap).ownBlock = some ng ∨ ng = w.heap.size) → (∀ g, (Value.slice mo n cap).ownBlock = some g → ∀ i, i < n → w'.cell? ⟨g, i, none⟩ = w.cell? ⟨g, i, none⟩) → wpList P ops Q rest (a.put o.dst (.slice (some ⟨ng, 0, none⟩) (n + 1) nc)) w') : wpList P ops Q (o :: rest) a w := by
  have hn := hown.rg.len
  rcases hown.2 with ⟨e1, e2⟩ | ⟨g', cap', cur, e1, _⟩
  · simp only [Value.slice.injEq] at e1
    obtain ⟨rfl, rfl, rfl⟩ := e1
    refine wpList_pushD w (fun _ => rfl) hg s x t hop B e i (.int .i64 0) 8 h1 h2 h3 h4 h5 rfl _ L hs hown gb z hx cb (by unfold maxLen; omega) (by omega) hB ?_
    intro ng n' ncap w' ho hg' hng hlt
    have e3 : n' = 0 + 1 := by have := ho.rg.len; rw [List.length_append, e2] at this; exact this.symm
    subst e3
    exact hK ng ncap w' ho hg' hng (fun g hg => by simp [Value.ownBlock] at hg)
  · simp only [Value.slice.injEq] at e1
    obtain ⟨rfl, rfl, rfl⟩ := e1
    refine wpList_plain hg fun K hK' => ?_
    refine wp_pushK s x t hop B e i h1 h2 h3 h4 h5 g' _ cap L hs hown gb z hx cb hl hB ?_
    intro ng nc w' ho hg' hng hcl
    refine hK' _ _ (hK ng nc w' ho hg' (hng.imp (fun e => by rw [e]; rfl) id) (fun g hg => ?_))
    have e4 : g' = g := by simpa [Value.ownBlock] using hg
    subst e4
    exact hcl
/-- The rows while they are written full. -/
def spF (f : Nat → List Int) (mark : Int) (i k j : Nat) : List Int :=
  if j < i then List.replicate (f j).length (mark - (j : Int)) else if j = i then List.replicate k (mark - (i : Int)) ++ (f j).drop k else f j
/-- The rows written full. -/
def spE (f : Nat → List Int) (mark : Int) (j : Nat) : List Int := List.replicate (f j).length (mark - (j : Int))
theorem spF_len {f : Nat → List Int} {mark : Int} {i k : Nat} (hk : k ≤ (f i).length) (j : Nat) : (spF f mark i k j).length = (f j).length := by
  unfold spF
  split
  · simp
  · split
    · rename_i e; subst e; simp; omega
    · rfl
theorem spF_start (f : Nat → List Int) (mark : Int) (j : Nat) : spF f mark 0 0 j = f j := by
  unfold spF
  rw [if_neg (by omega)]
  split <;> simp
theorem spF_at {f : Nat → List Int} {mark : Int} {i k : Nat} (hk : k < (f i).length) : (spF f mark i k i).set k (mark - (i : Int)) = spF f mark i (k + 1) i := by
  unfold spF
  rw [if_neg (by omega), if_pos rfl, if_neg (by omega), if_pos rfl, List.set_append_right _ _ (by simp)]
  rw [List.length_replicate, Nat.sub_self, List.drop_eq_getElem_cons hk, List.set_cons_zero, List.replicate_succ', List.append_assoc]
  rfl
theorem spF_other {f : Nat → List Int} {mark : Int} {i k j : Nat} (h : j ≠ i) : spF f mark i k j = spF f mark i (k + 1) j := by
  unfold spF
  split
  · rfl
  · simp
theorem spF_next {f : Nat → List Int} {mark : Int} {i k : Nat} (hk : (f i).length = k) (j : Nat) : spF f mark i k j = spF f mark (i + 1) 0 j := by
  unfold spF
  by_cases h : j < i
  · rw [if_pos h, if_pos (by omega)]
  · rw [if_neg h]
    by_cases e : j = i
    · subst e
      rw [if_pos rfl, if_pos (by omega), List.drop_of_length_le (by omega), List.append_nil, hk]
    · rw [if_neg e, if_neg (by omega)]
      split <;> simp
theorem spF_end {f : Nat → List Int} {mark : Int} {n j : Nat} (h : j < n) : spF f mark n 0 j = spE f mark j := by
  unfold spF spE
  rw [if_pos h]
/-- While the rows are written full. -/
structure SpI (B : Nat) (w0 w : World) (v : Value) (rvs : List Value) (f : Nat → List Int) : Prop where
  row : OG id B 24 w v rvs
  inn : ∀ (j : Nat) (u : Value), rvs[j]? = some u → OG (Value.int .i64) B 3 w u (f j)
  frm : FrP (InR rvs) w0 w
theorem SpI.congr {B : Nat} {w0 w : World} {v : Value} {rvs : List Value} {f f' : Nat → List Int} (h : SpI B w0 w v rvs f) (e : ∀ j, j < rvs.length → f j = f' j) : SpI B w0 w v rvs f' :=
  ⟨h.row, fun j u hu => by rw [← e j (List.getElem?_eq_some_iff.1 hu).1]; exact h.inn j u hu, h.frm⟩
theorem SpI.set {B : Nat} {w0 w : World} {v : Value} {rvs : List Value} {f f' : Nat → List Int} (h : SpI B w0 w v rvs f) (hs : SepR rvs) {i g un uc : Nat} (hi : rvs[i]? = some (.slice (some ⟨g, 0, none⟩) un uc)) (k : Nat) (z : Int) (h1 : f' i = (f i).set k z) (h2 : ∀ j, j ≠ i → f' j = f j) : SpI B w0 (w.setCell ⟨g, k, none⟩ (.int .i64 z)) v rvs f' := by
  have hu := h.inn i _ hi
  have hset := (hu.set hu.rg.len k z).1
  refine ⟨h.row.of_blocks fun q hq => Below.heap_setCell _ _ _ _ (fun e => hu.neO h.row (by decide) (q := g) rfl (by rw [hq, e])), fun j u hj => ?_, h.frm.put ⟨g, k, none⟩ _ (fun _ => ⟨i, _, hi, rfl⟩)⟩
  by_cases e : j = i
  · subst e
    rw [hi] at hj
    simp only [Option.some.injEq] at hj
    subst hj
    rw [h1]; exact hset
  · rw [h2 j e]
    exact (h.inn j u hj).of_blocks fun q hq => Below.heap_setCell _ _ _ _ (fun e2 => hs i j _ u (fun e3 => e e3.symm) hi hj g rfl (by rw [hq, e2]))
/-- While the rows are gone on with: those not begun with are the call's own, all can be read. -/
structure SqI (B : Nat) (w0 w : World) (v : Value) (rvs : List Value) (f : Nat → List Int) (i : Nat) : Prop where
  row : OG id B 24 w v rvs
  own : ∀ (j : Nat) (u : Value), i ≤ j → rvs[j]? = some u → OG (Value.int .i64) B 3 w u (f j)
  inn : ∀ (j : Nat) (u : Value), rvs[j]? = some u → RG (Value.int .i64) w u (f j)
  frm : FrP (InR rvs) w0 w
theorem SpI.on {B : Nat} {w0 w : World} {v : Value} {rvs : List Value} {f : Nat → List Int} (h : SpI B w0 w v rvs f) : SqI B w0 w v rvs f 0 := ⟨h.row, fun j u _ hu => h.inn j u hu, fun j u hu => (h.inn j u hu).rg, h.frm⟩
/-- While one row is gone on with. -/
structure SrI (B : Nat) (w0 w : World) (v : Value) (rvs : List Value) (f : Nat → List Int) (i : Nat) (u m : Value) (k : Nat) : Prop where
  rest : SqI B w0 w v rvs f (i + 1)
  pil : OG (Value.int .i64) B 3 w m (f i ++ List.replicate k 7)
  plc : ∀ q, m.ownBlock = some q → u.ownBlock = some q ∨ w0.heap.size ≤ q
theorem SqI.one {B : Nat} {w0 w : World} {v : Value} {rvs : List Value} {f : Nat → List Int} {i : Nat} {u : Value} (h : SqI B w0 w v rvs f i) (hu : rvs[i]? = some u) : SrI B w0 w v rvs f i u u 0 :=
  ⟨⟨h.row, fun j x hj hx => h.own j x (by omega) hx, h.inn, h.frm⟩, by rw [List.replicate_zero, List.append_nil]; exact h.own i u (Nat.le_refl _) hu, fun q hq => Or.inl hq⟩
theorem SqI.below {B : Nat} {w0 w w' : World} {v : Value} {rvs : List Value} {f : Nat → List Int} {i : Nat} (h : SqI B w0 w v rvs f i) (b : Below w.heap.size w w') : SqI B w0 w' v rvs f i :=
  ⟨h.row.below b, fun j u hj hu => (h.own j u hj hu).below b, fun j u hu => (h.inn j u hu).below (Nat.le_refl _) b, h.frm.tr (FrP.of_below (S := fun _ => False) b) (fun _ _ e => e.elim)⟩
theorem SrI.below {B : Nat} {w0 w w' : World} {v : Value} {rvs : List Value} {f : Nat → List Int} {i : Nat} {u m : Value} {k : Nat} (h : SrI B w0 w v rvs f i u m k) (b : Below w.heap.size w w') : SrI B w0 w' v rvs f i u m k := ⟨h.rest.below b, h.pil.below b, h.plc⟩
theorem SrI.push {B : Nat} {w0 w w' : World} {v : Value} {rvs : List Value} {f : Nat → List Int} {i : Nat} {uo mo : Option Addr} {un uc n cap k ng nc : Nat} (h : SrI B w0 w v rvs f i (.slice uo un uc) (.slice mo n cap) k) (hs : SepR rvs) (hu : rvs[i]? = some (.slice uo un uc)) (hz : ∀ g o, uo = some ⟨g, o, none⟩ → o = 0) (hlt : ∀ q, InR rvs q → q < w0.heap.size)
    (ho : OG (Value.int .i64) B 3 w' (.slice (some ⟨ng, 0, none⟩) (n + 1) nc) ((f i ++ List.replicate k 7) ++ [7])) (hg : w.grownBy w' (Value.slice mo n cap).ownBlock) (hng : (Value.slice mo n cap).ownBlock = some ng ∨ ng = w.heap.size) (hc : ∀ g, (Value.slice mo n cap).ownBlock = some g → ∀ i, i < n → w'.cell? ⟨g, i, none⟩ = w.cell? ⟨g, i, none⟩) : SrI B w0 w' v rvs f i (.slice uo un uc) (.slice (some ⟨ng, 0, none⟩) (n + 1) nc) (k + 1) := by
  have oth : ∀ j x, j ≠ i → rvs[j]? = some x → ∀ q, x.ownBlock = some q → (Value.slice mo n cap).ownBlock ≠ some q := fun j x hj hx q hq e => by
    rcases h.plc q e with e2 | e2
    · exact hs j i x _ hj hx hu q hq e2
    · have := hlt q ⟨j, x, hx, hq⟩; omega
  have hsz := h.rest.frm.size
  have inh : ∀ q, InR rvs q → q < w.heap.size := fun q hq => Nat.lt_of_lt_of_le (hlt q hq) hsz
  refine ⟨⟨h.rest.row.of_blocks fun q hq => hg.block q (h.rest.row.lt q hq).2 (fun e => h.pil.neO h.rest.row (by decide) e.symm hq), fun j x hj hx => (h.rest.own j x hj hx).of_blocks fun q hq => hg.block q (inh q ⟨j, x, hx, hq⟩) (fun e => oth j x (by omega) hx q hq e.symm), fun j x hx => ?_, ?_⟩, ?_, fun q hq => ?_⟩
  · by_cases hj : j = i
    · subst hj
      have hr := h.rest.inn j x hx
      rw [hu] at hx
      simp only [Option.some.injEq] at hx
      subst hx
      obtain ⟨ao, c2, e1, r1, r2, r3, r5⟩ := hr
      simp only [Value.slice.injEq] at e1
      obtain ⟨rfl, rfl, rfl⟩ := e1
      refine ⟨uo, uc, rfl, r1, r2, r3, fun t y hy => ?_⟩
      obtain ⟨g, o, e2, hcl⟩ := r5 t y hy
      have e0 := hz g o e2
      subst e0
      refine ⟨g, 0, e2, ?_⟩
      by_cases em : (Value.slice mo n cap).ownBlock = some g
      · have hn : ((f j) ++ List.replicate k 7).length = n := h.pil.rg.len
        have ht := (List.getElem?_eq_some_iff.1 hy).1
        rw [List.length_append] at hn
        rw [Nat.zero_add] at hcl ⊢
        rw [hc g em t (by omega)]; exact hcl
      · have hgl : g < w.heap.size := inh g ⟨j, _, hu, by rw [e2]; rfl⟩
        rw [← hcl]
        exact World.cell?_of_block (hg.block g hgl (fun e => em e.symm))
    · exact (h.rest.inn j x hx).of_blocks fun q hq => hg.block q (inh q ⟨j, x, hx, hq⟩) (fun e => oth j x hj hx q hq e.symm)
  · exact h.rest.frm.tr (FrP.of_grown hg) (fun q hq e => by
      rcases h.plc q e with e2 | e2
      · exact ⟨i, _, hu, e2⟩
      · omega)
  · rw [List.replicate_succ', ← List.append_assoc]; exact ho
  · have e1 : ng = q := by simpa [Value.ownBlock] using hq
    subst e1
    rcases hng with e2 | e2
    · exact h.plc _ e2
    · exact Or.inr (by rw [e2]; exact hsz)
end Go.Proofs.Ytmgbhbdcnciccaa

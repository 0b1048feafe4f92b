/-
  Proved here: an append of any row that can be read to a row of the call's own.
-/
import Derived.Test.YtphbbkckigdgoaaRadF
import Derived.Laws.AppendOwnNone
namespace Go.Proofs.Ytphbbkckigdgoaa
open Go.RowKit Go.Shelf

theorem grown_refl (w : World) (r : Option Nat) : w.grownBy w r := ⟨rfl, rfl, rfl, Nat.le_refl _, fun _ _ _ => rfl⟩
theorem wpList_appK {P : Program} (w : World) {ops : Array Oper} {rest : List Oper} {o : Oper} {a : Act} {Q : Exit → Act → World → Prop}
    (hg : o.guard = none) (s x : Operand) (t : TypeId) (hop : o.op = Op.call { callee := Callee.builtin Builtin.append, args := #[s, x], argTypes := #[t, t] })
    (k : IntKind) (B : Nat) (e : TypeId) (i : TypeInfo) (bytes : Nat) (h1 : P.underlying t = some (.slice e)) (h2 : P.info? e = some i) (h3 : i.zero = some (.int k 0)) (h4 : i.size = 1) (h5 : i.bytes = bytes)
    (v u : Value) (zs ys : List Int) (hs : a.eval s = v) (hown : OwnK k B e w v zs) (hx : a.eval x = u) (hu : RK k w u ys) (b1 : zs.length + ys.length ≤ maxLen) (b2 : (zs.length + ys.length) * bytes ≤ 140737488355328) (hB : B ≤ w.heap.size)
    (hK : ∀ v' w', OwnK k B e w' v' (zs ++ ys) → w.grownBy w' v.ownBlock → wpList P ops Q rest (a.put o.dst v') w') : wpList P ops Q (o :: rest) a w := by
  obtain ⟨ao, cap, rfl, hc, hm, hnil, hbd, hcell⟩ := hu
  rcases ao with _ | ad
  · have hcz := hnil rfl
    have hys : ys = [] := List.eq_nil_of_length_eq_zero (by omega)
    subst hys
    subst hcz
    exact wpList_append_own_none hg s x t hop B e i 1 h1 h2 v zs.length (zs.map (Value.int k)) hs hown hx (hK _ _ (by rw [List.append_nil]; exact hown) (grown_refl _ _))
  · have HC : ∀ j u, (ys.map (Value.int k))[j]? = some u → w.cell? (ad.add j) = some u := by
      intro j u hj
      rw [List.getElem?_map] at hj
      obtain ⟨y, hy, rfl⟩ := Option.map_eq_some_iff.1 hj
      obtain ⟨hjk, hy⟩ := List.getElem?_eq_some_iff.1 hy
      obtain ⟨b', off', he, hc'⟩ := hcell j (by omega)
      simp only [Option.some.injEq] at he
      subst he
      subst hy
      rw [Addr.add_lit, hc', List.getD_eq_getElem?_getD, List.getElem?_eq_getElem (by omega)]
      rfl
    refine wpList_append_own w hg s x t hop B e i (.int k 0) 1 bytes h1 h2 h3 h4 h5 rfl (by decide) v zs.length (zs.map (Value.int k)) hs hown ad ys.length cap (ys.map (Value.int k)) hx (by simp) HC (by intro u hu; obtain ⟨y, _, rfl⟩ := List.mem_map.1 hu; rfl) b1 b2 hB ?_
    intro v' w' ho hgr _
    refine hK v' w' ?_ hgr
    unfold OwnK
    rw [List.length_append, List.map_append]
    exact ho
theorem OwnK.grown {k : IntKind} {B e : Nat} {w w' wr : World} {v : Value} {zs : List Int} (hv : OwnK k B e wr v zs) (hbel : Below B w wr) (hB : B ≤ wr.heap.size) (hg : wr.grownBy w' v.ownBlock) : Below B w w' :=
  hbel.trans ((Below.refl B wr).grown hg hB (fun g e => (World.ownsRow.lt hv g e).1))
end Go.Proofs.Ytphbbkckigdgoaa

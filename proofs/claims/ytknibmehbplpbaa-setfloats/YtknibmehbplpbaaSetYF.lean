/-
  Proved here: Join of sets of floats; the document's HasFloat; two lists of floats held against each other; lists of floats that were handed in; an append of one thing that tells whether the row moved.
-/
import Derived.Test.YtknibmehbplpbaaSetXF
import Derived.Test.YtknibmehbplpbaaSetDocJ
import Derived.Test.YtknibmehbplpbaaPush
import Derived.Laws.Externs
import Derived.Deep.Slices
namespace Go.Proofs.Ytknibmehbplpbaa
open Go.Shelf Go.RowKit Go.Lib Go.Sort
theorem sxJoinF {v u : Value} {a b : List Nat} {k j : Nat} {w : World} (h : SXF w v (ofD (ltOf cfF) a) k) (h2 : SXF w u (ofD (ltOf cfF) b) j) (hk : k ≤ 50000) (hj : j ≤ 50000) : Calls Try.prog 29 #[.agg #[v], .agg #[u]] w fun e w' => SEF w (ofD (ltOf cfF) (a ++ b)) (k + j) e w' := by
  refine (setJoinF v u _ _ w h.rg h2.rg h2.rs (by have := h.len; omega) (by have := h2.len; omega)).mono ?_
  rintro e w' ⟨x, rfl, hr, hb⟩
  have e1 : joinF (ofD (ltOf cfF) a) (ofD (ltOf cfF) b) = ofD (ltOf cfF) (a ++ b) := by
    unfold joinF
    rw [jn_insA ordF smF_lt fndF (fun L x k => by unfold fndF; cases L[k]? <;> rfl) _ _ h.rs h2.rs, insA_ofD ordF h.rs, ofD_app]
  have hl : (joinF (ofD (ltOf cfF) a) (ofD (ltOf cfF) b)).length ≤ k + j := Nat.le_trans (jn_len _ _) (by have := h.len; have := h2.len; omega)
  rw [e1] at hr hl
  exact seF hr.rg (rs_ofD ordF _) hl hb
theorem float_cell {Hh : Type} {enc : TypeId × Value → Hh} {P : Program} {w : World} {base : Nat} {spare : Nat → Bool} {held : Bool} {e : TypeId} {n : Nat} {v : Value} {x : DataW Hh × List MemPlace} (he : P.underlying e = some (.float .f64)) (h : DataW.trod enc P w base spare held n e [v] = some x) : ∃ b, v = .float .f64 b := by
  cases n with
  | zero => simp [DataW.trod] at h
  | succ n =>
    cases v <;> simp [DataW.trod, he] at h
    rename_i k b
    by_cases hk : k = FloatKind.f64
    · subst hk; exact ⟨b, rfl⟩
    · simp_all
theorem rg_of_floats {W : World} {x : Addr} {len cap : Nat} (hl : len ≤ cap) (hm : cap ≤ maxLen)
    (hcell : ∀ i, i < cap → ∃ b, W.cell? (x.add i) = some (.float .f64 b)) : ∃ ys : List Nat, ys.length = len ∧ RG (Value.float .f64) W (.slice (some x) len cap) ys := by
  obtain ⟨f, hf⟩ : ∃ f : Nat → Nat, ∀ i, i < cap → W.cell? (x.add i) = some (.float .f64 (f i)) := by
    refine ⟨fun i => if h : i < cap then (hcell i h).choose else 0, fun i hi => ?_⟩
    simp only [hi, dif_pos]
    exact (hcell i hi).choose_spec
  have hlen : ((List.range len).map f).length = len := by simp
  refine ⟨(List.range len).map f, hlen, some x, cap, by rw [hlen], by rw [hlen]; exact hl, hm, fun h => by simp at h, fun i y hy => ?_⟩
  have hi : i < len := by have := (List.getElem?_eq_some_iff.1 hy).1; omega
  have hc := hf i (by omega)
  obtain ⟨b, off, spot⟩ := x
  have hspot : spot = none := by
    have := World.cell?_spot (hf 0 (by omega))
    simpa [Addr.add] using this
  subst hspot
  refine ⟨b, off, rfl, ?_⟩
  rw [Addr.add_lit] at hc
  rw [List.getElem?_map, List.getElem?_range hi] at hy
  simp only [Option.map_some, Option.some.injEq] at hy
  rw [hc, hy]
/-- An append of one thing to a row of the call's own: the row stays where it was, or lies in new memory. -/
theorem wpList_pushG {α : Type} {enc : α → Value} {P : Program} (w : World) {ops : Array Oper} {rest : List Oper} {o : Oper} {a : Act} {Q : Exit → Act → World → Prop} (hone : ∀ x, (enc x).oneCell' = true)
    (hg : o.guard = none) (s x : Operand) (t : TypeId) (hop : o.op = Op.call { callee := Callee.builtin Builtin.append, args := #[s, x], argTypes := #[t, t] })
    (B : Nat) (e : TypeId) (i : TypeInfo) (z : Value) (bytes : Nat) (h1 : P.underlying t = some (.slice e)) (h2 : P.info? e = some i) (h3 : i.zero = some z) (h4 : i.size = 1) (h5 : i.bytes = bytes) (h6 : z.cells.size = 1)
    (v : Value) (g : Nat) (zs : List α) (y : α) (hs : a.eval s = v) (hown : OG enc B e w v zs) (hx : a.eval x = .slice (some ⟨g, 0, none⟩) 1 1) (hc : w.cell? ⟨g, 0, none⟩ = some (enc y)) (b1 : zs.length + 1 ≤ maxLen) (b2 : (zs.length + 1) * bytes ≤ 140737488355328) (hB : B ≤ w.heap.size)
    (hK : ∀ v' w', OG enc B e w' v' (zs ++ [y]) → w.grownBy w' v.ownBlock → (v'.ownBlock = v.ownBlock ∨ ∀ g, v'.ownBlock = some g → w.heap.size ≤ g) → wpList P ops Q rest (a.put o.dst v') w') : wpList P ops Q (o :: rest) a w := by
  refine wpList_push w hg s x t hop B e i z bytes h1 h2 h3 h4 h5 h6 v zs.length (zs.map enc) hs hown ⟨g, 0, none⟩ 1 1 [enc y] hx (by simp) ?_ ?_ (by omega) b1 b2 hB ?_
  · intro j u hj
    cases j with
    | zero => cases hj; rw [Addr.add_lit]; exact hc
    | succ j => simp at hj
  · intro u hu
    rw [List.mem_singleton.1 hu]
    exact hone y
  · intro v' w' ho hgr _ hd
    refine hK v' w' ?_ hgr hd
    unfold OG
    rw [List.length_append, List.map_append]
    exact ho
set_option maxHeartbeats 8000000 in
set_option maxRecDepth 1000000 in
theorem rHasF (v : Value) (L : List Nat) (x : Nat) (w : World) (hv : RG (Value.float .f64) w v L) : Calls Try.prog 28 #[v, .float .f64 x] w fun e w' => e = .returned (.bool (hasF L x)) ∧ w' = w := by
  obtain ⟨ao, cap, rfl, hc, hm, -, hcell⟩ := hv
  unfold maxLen at hm
  obtain ⟨n, hn⟩ : ∃ n, L.length = n := ⟨_, rfl⟩
  rw [hn] at hc ⊢
  have HN : Hid (L.length = n) := hn
  have HC : Hid (∀ i x, L[i]? = some x → ∃ g o, ao = some ⟨g, o, none⟩ ∧ w.cell? ⟨g, o + i, none⟩ = some (.float .f64 x)) := hcell
  clear hn hcell
  obtain ⟨bb, hbb⟩ : ∃ b, b = hasF L x := ⟨_, rfl⟩
  rw [← hbb]
  have HB : Hid (bb = (L.drop 0).any fun y => smF y x) := hbb
  clear hbb
  go_enter Try.func28, Try.ntmps28
  go_wp2
  go_loopg [5] n (fun g1 v wr => ∃ i : Nat, v = .int .i64 i ∧ i ≤ n ∧ n - i ≤ g1 ∧ Hid (bb = (L.drop i).any fun y => smF y x) ∧ w = wr)
  case atStart => exact ⟨0, rfl, Nat.zero_le _, by omega, HB, rfl⟩
  case round =>
    clear HB
    obtain ⟨i, rfl, hin, hg1, HB, rfl⟩ := hrel
    by_cases hlt : i < n
    · have hltz : (i : Int) < (n : Int) := by omega
      obtain ⟨y, hy⟩ : ∃ x, L[i]? = some x := ⟨_, List.getElem?_eq_getElem (by rw [HN.out]; exact hlt)⟩
      obtain ⟨g, o, rfl, hc0⟩ := HC.out i y hy
      have HB2 : Hid (bb = (smF y x || (L.drop (i + 1)).any fun y => smF y x)) := by have := HB.out; rw [drop_cons hy, List.any_cons] at this; exact this
      have HSM : Hid (smF y x = (!ltOf cfF y x && !ltOf cfF x y)) := smF_lt y x
      have C1 := beforeF y x
      have C2 := beforeF x y
      clear hy HB
      cases h1 : ltOf cfF y x with
      | true =>
        rw [h1] at C1
        have HB3 : Hid (bb = (L.drop (i + 1)).any fun y => smF y x) := by have := HB2.out; rw [HSM.out, h1] at this; exact this
        clear HB2 HSM C2
        go_wp2_with (go_at_call 52; refine (C1 _).mono ?_; rintro e w' ⟨rfl, rfl⟩)
        go_roundg (n - (i + 1))
        case measure => omega
        case rel => exact ⟨i + 1, by go_num, by omega, Nat.le_refl _, HB3, rfl⟩
      | false =>
        rw [h1] at C1
        cases h2 : ltOf cfF x y with
        | true =>
          rw [h2] at C2
          have HB3 : Hid (bb = (L.drop (i + 1)).any fun y => smF y x) := by have := HB2.out; rw [HSM.out, h1, h2] at this; exact this
          clear HB2 HSM
          go_wp2_with fail
          refine (C1 _).mono ?_
          rintro e w' ⟨rfl, rfl⟩
          go_wp2_with fail
          refine (C2 _).mono ?_
          rintro e w' ⟨rfl, rfl⟩
          clear C1 C2
          go_wp2
          go_roundg (n - (i + 1))
          case measure => omega
          case rel => exact ⟨i + 1, by go_num, by omega, Nat.le_refl _, HB3, rfl⟩
        | false =>
          rw [h2] at C2
          have HB3 : Hid (bb = true) := by have := HB2.out; rw [HSM.out, h1, h2] at this; exact this
          clear HB2 HSM
          go_wp2_with fail
          refine (C1 _).mono ?_
          rintro e w' ⟨rfl, rfl⟩
          go_wp2_with fail
          refine (C2 _).mono ?_
          rintro e w' ⟨rfl, rfl⟩
          clear C1 C2
          go_wp2
          go_ret
          exact ⟨by rw [HB3.out]; rfl, rfl⟩
    · have hltz : ¬ (i : Int) < (n : Int) := by omega
      have HB3 : Hid (bb = false) := by have := HB.out; rw [List.drop_of_length_le (by rw [HN.out]; omega)] at this; exact this
      clear HB
      go_wp2
      go_ret
      exact ⟨by rw [HB3.out]; rfl, rfl⟩
set_option maxHeartbeats 8000000 in
set_option maxRecDepth 1000000 in
theorem alikeF (x : Nat) (w : World) : Calls Try.prog 58 #[.float .f64 x, .float .f64 x] w fun e w' => e = .returned (.bool true) ∧ w' = w := by
  have hb : ∀ w, (callFunc 75 #[.float .f64 x]).run Try.prog w = .ok (.value (.int .u64 (x : Int))) w := run_f64bits x
  go_enter Try.func58, Try.ntmps58
  go_wp2
  go_ret
  exact ⟨rfl, rfl⟩
set_option maxHeartbeats 8000000 in
set_option maxRecDepth 1000000 in
theorem floatsF (v u : Value) (L : List Nat) (w : World) (hv : RG (Value.float .f64) w v L) (hu : RG (Value.float .f64) w u L) : Calls Try.prog 25 #[v, u] w fun e w' => e = .returned (.bool true) ∧ Below w.heap.size w w' := by
  obtain ⟨ao, cap, rfl, hc, hm, -, hcell⟩ := hv
  obtain ⟨bo, cap2, rfl, hc2, hm2, -, hcell2⟩ := hu
  unfold maxLen at hm hm2
  obtain ⟨n, hn⟩ : ∃ n, L.length = n := ⟨_, rfl⟩
  rw [hn] at hc hc2 ⊢
  have HN : Hid (L.length = n) := hn
  have HC : Hid (∀ i x, L[i]? = some x → ∃ g o, ao = some ⟨g, o, none⟩ ∧ w.cell? ⟨g, o + i, none⟩ = some (.float .f64 x)) := hcell
  have HC2 : Hid (∀ i x, L[i]? = some x → ∃ g o, bo = some ⟨g, o, none⟩ ∧ w.cell? ⟨g, o + i, none⟩ = some (.float .f64 x)) := hcell2
  clear hn hcell hcell2
  go_enter Try.func25, Try.ntmps25
  go_wp2
  go_loopg [5] n (fun g1 v wr => ∃ i : Nat, v = .int .i64 i ∧ i ≤ n ∧ n - i ≤ g1 ∧ Hid (∃ q, wr = w.drewN q))
  case atStart => exact ⟨0, rfl, Nat.zero_le _, by omega, 0, rfl⟩
  case round =>
    obtain ⟨i, rfl, hin, hg1, HQ⟩ := hrel
    have hcw : ∀ a, wr.cell? a = w.cell? a := fun a => by obtain ⟨q, rfl⟩ := HQ.out; exact World.cell?_of_block (by rw [heap_drewG])
    by_cases hlt : i < n
    · have hltz : (i : Int) < (n : Int) := by omega
      obtain ⟨y, hy⟩ : ∃ x, L[i]? = some x := ⟨_, List.getElem?_eq_getElem (by rw [HN.out]; exact hlt)⟩
      obtain ⟨g, o, rfl, hc0⟩ := HC.out i y hy
      obtain ⟨g', o', rfl, hc1⟩ := HC2.out i y hy
      have d0 : wr.cell? ⟨g, o + i, none⟩ = some (.float .f64 y) := by rw [hcw]; exact hc0
      have d1 : wr.cell? ⟨g', o' + i, none⟩ = some (.float .f64 y) := by rw [hcw]; exact hc1
      clear hy hcw hc0 hc1
      have CA := alikeF y
      go_wp2_with fail
      go_quiet ((go_at_call 58; exact Calls.quiet_of_same (CA _)))
      have HQ2 : Hid (∃ q, wr.drewN nq = w.drewN q) := by obtain ⟨q, rfl⟩ := HQ.out; exact ⟨_, World.drewN_drewN ..⟩
      clear CA d0 d1 HQ
      generalize wr.drewN nq = wq at HQ2 ⊢
      clear nq
      go_wp2
      go_roundg (n - (i + 1))
      case measure => omega
      case rel => exact ⟨i + 1, by go_num, by omega, Nat.le_refl _, HQ2⟩
    · have hltz : ¬ (i : Int) < (n : Int) := by omega
      have HE : Hid (Below w.heap.size w wr) := by obtain ⟨q, rfl⟩ := HQ.out; exact below_drewN (Below.refl _ _) q
      clear hcw HQ
      go_wp2
      go_ret
      exact ⟨rfl, HE.out⟩
end Go.Proofs.Ytknibmehbplpbaa

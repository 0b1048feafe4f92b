/-
  Proved here: the law's flood.
-/
import Derived.Test.YtcoiapgfaibkgaaGreatMbB
namespace Go.Proofs.YtcoiapgfaibkgaaGreat
set_option linter.unusedVariables false
open Go.RowKit Go.Shelf Go.Sort Go.Lib
theorem OG.qg {B e : Nat} {w : World} {v : Value} {L : List Int} (h : OG (Value.int .i64) B e w v L) : (v = .slice none 0 0 ∧ L = []) ∨ QG B e w v L := by
  rcases h.2 with ⟨h1, h2⟩ | ⟨g, cap, cur, rfl, h3, h4, h5, h6, h7, h8⟩
  · exact Or.inl ⟨h1, List.eq_nil_of_length_eq_zero h2⟩
  · exact Or.inr ⟨g, 0, cap, cur, rfl, h3, h4, h5, h6, by omega, by simpa using h8⟩
/-- What a flood comes to. -/
inductive FlP (M : Nat → Nat → Bool) (n : Nat) (G F : List Int) : Nat → Prop
  | start {x : Nat} : (x : Int) ∈ F → (x : Int) ∉ G → FlP M n G F x
  | step {u v : Nat} : FlP M n G F u → u < n → v < n → M u v = true → (v : Int) ∉ G → FlP M n G F v
structure FlI (M : Nat → Nat → Bool) (n : Nat) (G F F1 : List Int) (f : Nat → Bool) (T : List Int) (ex : Nat → Prop) : Prop where
  snd : ∀ v, v < n → f v = true → FlP M n G F v
  pts : ∀ t ∈ T, ∃ p : Nat, t = (p : Int) ∧ p < n ∧ f p = true
  don : ∀ v, v < n → f v = true → (v : Int) ∈ T ∨ ex v ∨ ∀ x, x < n → M v x = true → (x : Int) ∉ G → f x = true
  frm : ∀ x : Nat, (x : Int) ∈ F1 → (x : Int) ∉ G → f x = true
def fuP (f : Nat → Bool) (v : Nat) : Nat → Bool := fun u => if u = v then true else f u
theorem fuP_le {f : Nat → Bool} {v u : Nat} (h : f u = true) : fuP f v u = true := by unfold fuP; split <;> simp [h]
theorem FlI.add {M : Nat → Nat → Bool} {n : Nat} {G F F1 : List Int} {f : Nat → Bool} {T : List Int} {ex : Nat → Prop} (h : FlI M n G F F1 f T ex) {v : Nat} (hv : v < n) (hp : FlP M n G F v) : FlI M n G F F1 (fuP f v) (T ++ [(v : Int)]) ex := by
  have key : ∀ u, fuP f v u = true → u = v ∨ f u = true := fun u hu => by
    unfold fuP at hu
    by_cases e : u = v
    · exact Or.inl e
    · rw [if_neg e] at hu; exact Or.inr hu
  refine ⟨fun u hu hf => ?_, fun t ht => ?_, fun u hu hf => ?_, fun x hx hg => fuP_le (h.frm x hx hg)⟩
  · rcases key u hf with rfl | h1
    · exact hp
    · exact h.snd u hu h1
  · rcases List.mem_append.1 ht with h1 | h1
    · obtain ⟨p, e, hl, hf⟩ := h.pts t h1
      exact ⟨p, e, hl, fuP_le hf⟩
    · exact ⟨v, List.mem_singleton.1 h1, hv, by simp [fuP]⟩
  · rcases key u hf with rfl | h1
    · exact Or.inl (List.mem_append_right _ (List.mem_singleton.2 rfl))
    · rcases h.don u hu h1 with h2 | h2 | h2
      · exact Or.inl (List.mem_append_left _ h2)
      · exact Or.inr (Or.inl h2)
      · exact Or.inr (Or.inr fun x hx hm hg => fuP_le (h2 x hx hm hg))
theorem FlI.more {M : Nat → Nat → Bool} {n : Nat} {G F F1 : List Int} {f : Nat → Bool} {T : List Int} {ex : Nat → Prop} (h : FlI M n G F F1 f T ex) (x : Nat) (hx : (x : Int) ∈ G ∨ f x = true) : FlI M n G F (F1 ++ [(x : Int)]) f T ex :=
  ⟨h.snd, h.pts, h.don, fun y hy hg => by
    rcases List.mem_append.1 hy with h1 | h1
    · exact h.frm y h1 hg
    · have e : y = x := by have := List.mem_singleton.1 h1; omega
      subst e
      exact hx.resolve_left hg⟩
theorem FlI.pop {M : Nat → Nat → Bool} {n : Nat} {G F F1 : List Int} {f : Nat → Bool} {T : List Int} {u : Nat} (h : FlI M n G F F1 f ((u : Int) :: T) (fun _ => False)) : FlI M n G F F1 f T (fun v => v = u) :=
  ⟨h.snd, fun t ht => h.pts t (List.mem_cons_of_mem _ ht), fun v hv hf => by
    rcases h.don v hv hf with h1 | h1 | h1
    · rcases List.mem_cons.1 h1 with h2 | h2
      · exact Or.inr (Or.inl (by omega))
      · exact Or.inl h2
    · exact h1.elim
    · exact Or.inr (Or.inr h1), h.frm⟩
theorem FlI.shut {M : Nat → Nat → Bool} {n : Nat} {G F F1 : List Int} {f : Nat → Bool} {T : List Int} {u : Nat} (h : FlI M n G F F1 f T (fun v => v = u)) (hu : ∀ x, x < n → M u x = true → (x : Int) ∉ G → f x = true) : FlI M n G F F1 f T (fun _ => False) :=
  ⟨h.snd, h.pts, fun v hv hf => by
    rcases h.don v hv hf with h1 | rfl | h1
    · exact Or.inl h1
    · exact Or.inr (Or.inr hu)
    · exact Or.inr (Or.inr h1), h.frm⟩
/-- How many are not come to. -/
def unr (f : Nat → Bool) : Nat → Nat
  | 0 => 0
  | n + 1 => unr f n + if f n = true then 0 else 1
theorem unr_le (f : Nat → Bool) : ∀ n, unr f n ≤ n
  | 0 => Nat.le_refl _
  | n + 1 => by have := unr_le f n; unfold unr; split <;> omega
theorem unr_out (f : Nat → Bool) (v : Nat) : ∀ n, n ≤ v → unr (fuP f v) n = unr f n
  | 0, _ => rfl
  | n + 1, h => by
    have e : fuP f v n = f n := by unfold fuP; rw [if_neg (by omega)]
    unfold unr
    rw [unr_out f v n (by omega), e]
theorem unr_up (f : Nat → Bool) (v : Nat) (hf : f v = false) : ∀ n, v < n → unr (fuP f v) n + 1 = unr f n
  | n + 1, h => by
    by_cases e : v = n
    · subst e
      unfold unr
      rw [unr_out f v v (Nat.le_refl _), hf]
      simp [fuP]
    · have e2 : fuP f v n = f n := by unfold fuP; rw [if_neg (by omega)]
      have := unr_up f v hf n (by omega)
      unfold unr
      rw [e2]; omega
theorem rowB_up (n : Nat) (f : Nat → Bool) (v : Nat) : rowB n (fun u => if u = v then true else f u) = rowB n (fuP f v) := rfl
/-- What a flood leaves. -/
structure FlE (M : Nat → Nat → Bool) (n : Nat) (G F : List Int) (f : Nat → Bool) : Prop where
  snd : ∀ v, v < n → f v = true → FlP M n G F v
  frm : ∀ x : Nat, (x : Int) ∈ F → (x : Int) ∉ G → f x = true
  shut : ∀ u v, u < n → v < n → f u = true → M u v = true → (v : Int) ∉ G → f v = true
set_option maxRecDepth 1000000 in
set_option maxHeartbeats 12800000 in
theorem flood16 (B0 gm n : Nat) (cvs : List Value) (M : Nat → Nat → Bool) (fv qv : Value) (F G : List Int) (w : World) (hm : MbC B0 w gm n n cvs M) (hn : n ≤ 100) (hf : RG (Value.int .i64) w fv F) (hF : ∀ x ∈ F, ∃ p : Nat, x = (p : Int) ∧ p < n) (hq : RG (Value.int .i64) w qv G) :
    Calls Tryz.prog 25 #[.slice (some ⟨gm, 0, none⟩) n n, fv, qv] w fun e w' => ∃ gr, e = .returned (.slice (some ⟨gr, 0, none⟩) n n) ∧ (∃ f, OG Value.bool w.heap.size 4 w' (.slice (some ⟨gr, 0, none⟩) n n) (rowB n f) ∧ FlE M n G F f) ∧ Below w.heap.size w w' := by
  obtain ⟨i0, hi, hz0, hz1, hz2⟩ := info_parts Tryz.infoI
  obtain ⟨ib, hib, hs0, hs1, hs2⟩ := info_parts Tryz.infoBD
  obtain ⟨qo, qn, qc, rfl⟩ : ∃ o n c, qv = .slice o n c := by obtain ⟨ao, cap, e⟩ := hq.sl; exact ⟨_, _, _, e⟩
  obtain ⟨fo, fn, fc, rfl⟩ : ∃ o n c, fv = .slice o n c := by obtain ⟨ao, cap, e⟩ := hf.sl; exact ⟨_, _, _, e⟩
  have hfnm : fn ≤ 9223372036854775807 := by have := hf.room.1; have := hf.room.2.1; unfold maxLen at *; omega
  have HMB : Hid (∀ W, Below w.heap.size w W → MbC B0 W gm n n cvs M) := fun W hW => hm.below hW
  have HF : Hid (∀ W, Below w.heap.size w W → RG (Value.int .i64) W (.slice fo fn fc) F) := fun W hW => hf.below (Nat.le_refl _) hW
  have HQ : Hid (∀ W, Below w.heap.size w W → RG (Value.int .i64) W (.slice qo qn qc) G) := fun W hW => hq.below (Nat.le_refl _) hW
  have HFN : Hid (F.length = fn) := hf.len
  have HFP : Hid (∀ x ∈ F, ∃ p : Nat, x = (p : Int) ∧ p < n) := hF
  obtain ⟨W1, hW1⟩ : ∃ W, W = w.alloc (.cells (Array.replicate n (.bool false)) 4) := ⟨_, rfl⟩
  obtain ⟨gr, hgr⟩ : ∃ g, g = w.heap.size := ⟨_, rfl⟩
  have hb1 : Below w.heap.size w W1 := by rw [hW1]; exact belowB _ _
  have HO1 : Hid (OG Value.bool w.heap.size 4 W1 (.slice (some ⟨gr, 0, none⟩) n n) (rowB n (fun _ => false))) := by
    show OG _ _ _ _ _ _
    rw [← rowB_no, hW1, hgr]
    exact OG.made (enc := Value.bool) w _ n false (by unfold maxLen; omega)
  have HB1 : Hid (Below w.heap.size w W1) := hb1
  have HSZ : Hid (gr < W1.heap.size) := (HO1.out.lt gr rfl).2
  have HWG : Hid (w.heap.size ≤ gr) := by show _ ≤ _; rw [hgr]; exact Nat.le_refl _
  have HI1 : Hid (FlI M n G F (F.take 0) (fun _ => false) [] (fun _ => False)) := ⟨fun v _ h => by simp at h, fun t h => by simp at h, fun v _ h => by simp at h, fun x h => by simp at h⟩
  have HU1 : Hid (unr (fun _ => false) n + ([] : List Int).length ≤ n) := by show _ ≤ _; simpa using unr_le _ n
  have HW1 : Hid (W1 = w.alloc (.cells (Array.replicate n (.bool false)) 4)) := hW1
  have HGR : Hid (gr = w.heap.size) := hgr
  clear hm hf hF hq hW1 hgr hb1
  go_enter Tryz.func25, Tryz.ntmps25
  go_upto_region 2 with (at_make; refine wpList_madeD _ rfl _ _ 41 rfl 4 ib (.bool false) rfl Tryz.underlying41 hib hs0 hs1 _ _ n rfl rfl (by rw [hs2]; omega) (by omega) ?_)
  rw [← HW1.out, ← HGR.out]
  clear HW1 HGR
  obtain ⟨B1, hB1⟩ : ∃ B, B = W1.heap.size := ⟨_, rfl⟩
  rw [← hB1] at HSZ
  have HWB : Hid (w.heap.size ≤ B1) := by show _ ≤ _; rw [hB1]; exact HB1.out.size
  have HB1S : Hid (B1 ≤ W1.heap.size) := by show _ ≤ _; rw [hB1]; exact Nat.le_refl _
  clear hB1
  go_wp2
  go_loopg [8, 9] fn (fun g1 v8 v9 wr => ∃ (i : Nat) (f : Nat → Bool) (T : List Int) (lo : Option Addr) (ln lc : Nat), v9 = .int .i64 i ∧ v8 = .slice lo ln lc ∧ i ≤ fn ∧ fn - i ≤ g1 ∧ Hid (OG (Value.int .i64) B1 3 wr (.slice lo ln lc) T) ∧ Hid (OG Value.bool w.heap.size 4 wr (.slice (some ⟨gr, 0, none⟩) n n) (rowB n f)) ∧ Hid (FlI M n G F (F.take i) f T (fun _ => False)) ∧ Hid (unr f n + T.length ≤ n) ∧ Hid (Below w.heap.size w wr) ∧ Hid (B1 ≤ wr.heap.size))
  case atStart => exact ⟨0, _, [], none, 0, 0, rfl, rfl, by omega, by omega, OG.nil _ _ _, HO1, HI1, HU1, HB1, HB1S⟩
  case round =>
    clear HO1 HI1 HU1 HB1 HB1S
    obtain ⟨i, f, T, lo, ln, lc, rfl, rfl, hin, hg1, HL, HO, HI, HU, HB, HS⟩ := hrel
    by_cases hlt : i < fn
    · have hltz : (i : Int) < (fn : Int) := by omega
      obtain ⟨x, gx, ox, hx1, rfl, hx2⟩ := (HF.out wr HB.out).at hlt
      have hxF := List.mem_of_getElem? hx1
      obtain ⟨p, rfl, hp⟩ := HFP.out x hxF
      have hpz : (p : Int) < (n : Int) := by omega
      have CH : Hid _ := has16 (.slice qo qn qc) G (p : Int) wr (HQ.out wr HB.out)
      obtain ⟨b, hb⟩ : ∃ b, b = decide ((p : Int) ∈ G) := ⟨_, rfl⟩
      rw [← hb] at CH
      have HBB : Hid (b = decide ((p : Int) ∈ G)) := hb
      have HTK : Hid (F.take (i + 1) = F.take i ++ [(p : Int)]) := by show _ = _; rw [List.take_add_one, hx1]; rfl
      have HXF : Hid ((p : Int) ∈ F) := hxF
      obtain ⟨d, hd⟩ : ∃ d, d = f p := ⟨_, rfl⟩
      obtain ⟨hc1, hc2⟩ := HO.out.cell (rowB_get (f := f) hp)
      rw [← hd] at hc1
      have HD : Hid (d = f p) := hd
      clear hb hx1 hxF hd
      go_wp2_with fail
      refine Calls.mono CH.out ?_
      rintro e y ⟨rfl, hy⟩
      rw [hy]
      clear CH hy y
      cases b with
      | true =>
        have HI2 : Hid (FlI M n G F (F.take (i + 1)) f T (fun _ => False)) := by show FlI _ _ _ _ _ _ _ _; rw [HTK.out]; exact HI.out.more p (Or.inl (of_decide_eq_true HBB.out.symm))
        clear HI
        go_wp2
        clear hc1 hc2 hx2
        go_roundg (fn - (i + 1))
        case measure => omega
        case rel => exact ⟨i + 1, f, T, _, _, _, by first | rfl | go_num, rfl, by omega, Nat.le_refl _, HL, HO, HI2, HU, HB, HS⟩
      | false =>
        cases d with
        | true =>
          have HI2 : Hid (FlI M n G F (F.take (i + 1)) f T (fun _ => False)) := by show FlI _ _ _ _ _ _ _ _; rw [HTK.out]; exact HI.out.more p (Or.inr HD.out.symm)
          clear HI
          go_wp2
          clear hc1 hc2 hx2
          go_roundg (fn - (i + 1))
          case measure => omega
          case rel => exact ⟨i + 1, f, T, _, _, _, by first | rfl | go_num, rfl, by omega, Nat.le_refl _, HL, HO, HI2, HU, HB, HS⟩
        | false =>
          have hpg : (p : Int) ∉ G := of_decide_eq_false HBB.out.symm
          have hnew := HI.out.add hp (FlP.start HXF.out hpg)
          have HI2 : Hid (FlI M n G F (F.take (i + 1)) (fuP f p) (T ++ [(p : Int)]) (fun _ => False)) := by show FlI _ _ _ _ _ _ _ _; rw [HTK.out]; exact hnew.more p (Or.inr (by simp [fuP]))
          have HU2 : Hid (unr (fuP f p) n + (T ++ [(p : Int)]).length ≤ n) := by
            show _ ≤ _
            have h1 := unr_up f p HD.out.symm n hp
            have h2 := HU.out
            rw [List.length_append, List.length_singleton]; omega
          have hset := (HO.out.set (rowB_len _ _) p true).1
          rw [rowB_set, rowB_up] at hset
          obtain ⟨W2, hW2⟩ : ∃ W, W = wr.setCell ⟨gr, p, none⟩ (.bool true) := ⟨_, rfl⟩
          change OG Value.bool w.heap.size 4 (wr.setCell ⟨gr, p, none⟩ (.bool true)) _ _ at hset
          rw [← hW2] at hset
          have hb2 : Below w.heap.size w W2 := by rw [hW2]; exact HB.out.setCell (p := ⟨gr, p, none⟩) HWG.out _
          have hs2 : B1 ≤ W2.heap.size := by have := HS.out; rw [hW2]; simpa using this
          have hl2 : OG (Value.int .i64) B1 3 W2 (.slice lo ln lc) T := by
            rw [hW2]
            exact HL.out.of_blocks fun q hq => Below.heap_setCell _ _ _ _ (fun e => by have h1 := (HL.out.lt q hq).1; have h2 := HSZ.out; have e1 : q = gr := e; omega)
          have hxx : W2.cell? ⟨gx, ox + i, none⟩ = some (.int .i64 (p : Int)) := by
            obtain ⟨x3, gx3, ox3, h1, h2, h3⟩ := (HF.out W2 hb2).at hlt
            simp only [Option.some.injEq, Addr.mk.injEq, and_true] at h2
            obtain ⟨rfl, rfl⟩ := h2
            have h4 : x3 = (p : Int) := by
              obtain ⟨x4, gx4, ox4, h5, h6, h7⟩ := (HF.out wr HB.out).at hlt
              simp only [Option.some.injEq, Addr.mk.injEq, and_true] at h6
              obtain ⟨rfl, rfl⟩ := h6
              have h8 : some (Value.int .i64 x4) = some (.int .i64 (p : Int)) := h7.symm.trans hx2
              have h9 : x3 = x4 := by rw [h1] at h5; simpa using h5
              rw [h9]; simpa using h8
            rw [← h4]; exact h3
          have HTL : Hid (T.length ≤ 100) := by have := HU.out; show _ ≤ _; omega
          have HO2 : Hid (OG Value.bool w.heap.size 4 W2 (.slice (some ⟨gr, 0, none⟩) n n) (rowB n (fuP f p))) := hset
          have HL2 : Hid (OG (Value.int .i64) B1 3 W2 (.slice lo ln lc) T) := hl2
          have HB2 : Hid (Below w.heap.size w W2) := hb2
          have HS2 : Hid (B1 ≤ W2.heap.size) := hs2
          have HW2 : Hid (W2 = wr.setCell ⟨gr, p, none⟩ (.bool true)) := hW2
          clear hpg hnew hset hW2 hb2 hs2 hl2 HI HU HO HL HB HS
          go_upto_region 8 with fail
          rw [← HW2.out]
          clear HW2 hc1 hc2 hx2
          obtain ⟨WA, hWA⟩ : ∃ W, W = W2.alloc (.cells #[.int .i64 (p : Int)] 3) := ⟨_, rfl⟩
          obtain ⟨gb, hgb⟩ : ∃ g, g = W2.heap.size := ⟨_, rfl⟩
          have HBA : Hid (Below W2.heap.size W2 WA) := by show Below _ _ _; rw [hWA]; exact belowB _ _
          have HCB : Hid (WA.cell? ⟨gb, 0, none⟩ = some (.int .i64 (p : Int))) := by show _ = _; rw [hWA, hgb, World.cell?_alloc_at _ _ _ _ rfl]; rfl
          have HWA : Hid (WA = W2.alloc (.cells #[.int .i64 (p : Int)] 3)) := hWA
          have HGB : Hid (gb = W2.heap.size) := hgb
          clear hWA hgb
          go_wp2_with (at_builtin; rw [← HWA.out, ← HGB.out]; refine wpList_pushD _ (fun _ => rfl) rfl _ _ 23 rfl B1 3 i0 (.int .i64 0) 8 Tryz.underlying23 hi hz0 hz1 hz2 rfl _ T rfl (HL2.out.below HBA.out) gb (p : Int) rfl HCB.out (by have := HTL.out; unfold maxLen; omega) (by have := HTL.out; omega) (Nat.le_trans HS2.out HBA.out.size) ?_)
          intro ng tm ncap W3 ho hg9 hng _
          have HO3 : Hid (OG Value.bool w.heap.size 4 W3 (.slice (some ⟨gr, 0, none⟩) n n) (rowB n (fuP f p))) := (HO2.out.below HBA.out).of_blocks fun q hq => hg9.block q (Nat.lt_of_lt_of_le (HO2.out.lt q hq).2 HBA.out.size) (fun e => by
            have h1 := (HL2.out.lt q e.symm).1
            have e1 : gr = q := by simpa [Value.ownBlock] using hq
            have := HSZ.out
            omega)
          have HB3 : Hid (Below w.heap.size w W3) := by
            show Below _ _ _
            have b1 := bstepB HB2.out HBA.out
            exact ⟨hg9.os.trans b1.os, hg9.tape.trans b1.tape, hg9.output.trans b1.output, Nat.le_trans b1.size hg9.size, fun q hq => (hg9.block q (Nat.lt_of_lt_of_le hq b1.size) (fun e => by have := (HL2.out.lt q e.symm).1; have := HWB.out; omega)).trans (b1.block q hq)⟩
          have HS3 : Hid (B1 ≤ W3.heap.size) := Nat.le_trans (Nat.le_trans HS2.out HBA.out.size) hg9.size
          have HL3 : Hid (OG (Value.int .i64) B1 3 W3 (.slice (some ⟨ng, 0, none⟩) tm ncap) (T ++ [(p : Int)])) := ho
          clear ho hg9 hng HL2 HO2 HB2 HS2 HBA HCB HWA HGB HTL hxx
          go_wp2
          go_roundg (fn - (i + 1))
          case measure => omega
          case rel => exact ⟨i + 1, _, _, _, _, _, by first | rfl | go_num, rfl, by omega, Nat.le_refl _, HL3, HO3, HI2, HU2, HB3, HS3⟩
    · have hltz : ¬ (i : Int) < (fn : Int) := by omega
      have HI2 : Hid (FlI M n G F F f T (fun _ => False)) := by
        have h1 := HI.out
        rwa [List.take_of_length_le (by rw [HFN.out]; omega)] at h1
      have HQG : Hid ((Value.slice lo ln lc = .slice none 0 0 ∧ T = []) ∨ QG B1 3 wr (.slice lo ln lc) T) := HL.out.qg
      have HLN : Hid (T.length = ln) := HL.out.rg.len
      clear HI HL
      go_wp2
      go_loopg [8, 10, 11] n (fun g1 v8 _v10 _v11 wq => ∃ (f : Nat → Bool) (T : List Int) (lo : Option Addr) (ln lc : Nat), v8 = .slice lo ln lc ∧ unr f n + T.length ≤ g1 ∧ unr f n + T.length ≤ n ∧ Hid ((Value.slice lo ln lc = .slice none 0 0 ∧ T = []) ∨ QG B1 3 wq (.slice lo ln lc) T) ∧ Hid (T.length = ln) ∧ Hid (OG Value.bool w.heap.size 4 wq (.slice (some ⟨gr, 0, none⟩) n n) (rowB n f)) ∧ Hid (FlI M n G F F f T (fun _ => False)) ∧ Hid (Below w.heap.size w wq) ∧ Hid (B1 ≤ wq.heap.size))
      case atStart => exact ⟨f, T, lo, ln, lc, rfl, HU.out, HU.out, HQG, HLN, HO, HI2, HB, HS⟩
      case round =>
        clear HQG HLN HO HI2 HB HS HU
        obtain ⟨f, T, lo, ln, lc, rfl, hg2, hun, HQG, HLN, HO, HI, HB, HS⟩ := hrel
        by_cases hlz : 0 < ln
        · have hlzz : (ln : Int) > 0 := by omega
          obtain ⟨x, T1, rfl⟩ : ∃ x T1, T = x :: T1 := by
            cases T with
            | nil => have := HLN.out; simp at this; omega
            | cons x T1 => exact ⟨x, T1, rfl⟩
          have hqg : QG B1 3 wr (.slice lo ln lc) (x :: T1) := by
            rcases HQG.out with ⟨-, h⟩ | h
            · simp at h
            · exact h
          obtain ⟨u, rfl, hu, hfu⟩ := HI.out.pts x (by simp)
          have huz : (u : Int) < (n : Int) := by omega
          obtain rfl : ln = T1.length + 1 := by rw [← HLN.out]; rfl
          obtain ⟨g0, o0, cap0, cur0, e0, hq1, hq2, hq3, hq4, hq5, hq6⟩ := id hqg
          simp only [Value.slice.injEq, List.length_cons, true_and] at e0
          obtain ⟨rfl, rfl⟩ := e0
          have hx2 : wr.cell? ⟨g0, o0, none⟩ = some (.int .i64 (u : Int)) := by
            obtain ⟨y, g', o', h1, h2, h3⟩ := hqg.rg.at (show 0 < T1.length + 1 by omega)
            simp only [Option.some.injEq, Addr.mk.injEq, and_true] at h2
            obtain ⟨rfl, rfl⟩ := h2
            have h4 : y = (u : Int) := by simpa using h1.symm
            rw [← h4]; exact h3
          have HQ5 : Hid (QG B1 3 wr (.slice (some ⟨g0, o0 + 1, none⟩) T1.length (lc - 1)) T1) := hqg.tail
          have HQ50 : Hid (lc = 1 → QG B1 3 wr (.slice (some ⟨g0, o0, none⟩) T1.length 0) T1) := fun e => by have := hqg; subst e; exact this.tail0
          have hb1 : (1 : Int) ≤ ((T1.length + 1 : Nat) : Int) := by omega
          have hwc : T1.length + 1 ≤ lc := hq3
          have hwm : lc ≤ 9223372036854775807 := by unfold maxLen at hq4; omega
          have h0z : (0 : Int) < ((T1.length + 1 : Nat) : Int) := by omega
          clear hqg hq1 hq2 hq3 hq4 hq5 hq6 HQG HLN
          have hpop := HI.out.pop
          have HM := HMB.out wr HB.out
          obtain ⟨gu, hgu, hou⟩ := HM.inn u hu
          have HGU : Hid (cvs[u]? = some (.slice (some ⟨gu, 0, none⟩) n n)) := hgu
          obtain ⟨m0, hm0⟩ : ∃ m, m = unr f n + (T1.length + 1) := ⟨_, rfl⟩
          have HML : Hid (unr f n + T1.length + 1 ≤ m0) := by show _ ≤ _; omega
          have hmn : m0 ≤ n := by rw [hm0]; exact hun
          have hmg := hg2
          rw [List.length_cons, ← hm0] at hmg
          have HI3 : Hid (FlI M n G F F f T1 (fun v => v = u)) := hpop
          have HCL : Hid (∀ x, x < 0 → M u x = true → (x : Int) ∉ G → f x = true) := fun x hx => absurd hx (Nat.not_lt_zero _)
          have HFU : Hid (FlP M n G F u) := HI.out.snd u hu hfu
          have HQ8 : Hid (∃ (o : Nat) (c : Nat), (lc = 1 → o = o0 ∧ c = 0) ∧ (lc ≠ 1 → o = o0 + 1 ∧ c = lc - 1) ∧ QG B1 3 wr (.slice (some ⟨g0, o, none⟩) T1.length c) T1) := by
            by_cases e : lc = 1
            · exact ⟨o0, 0, fun _ => ⟨rfl, rfl⟩, fun h => absurd e h, HQ50.out e⟩
            · exact ⟨o0 + 1, lc - 1, fun h => absurd h e, fun _ => ⟨rfl, rfl⟩, HQ5.out⟩
          clear hpop HM hgu hou hm0 hun hg2 HI HQ5 HQ50 hfu
          obtain ⟨oq, cq, hq1, hq0, hqq⟩ := HQ8.out
          have HQQ : Hid (QG B1 3 wr (.slice (some ⟨g0, oq, none⟩) T1.length cq) T1) := hqq
          clear HQ8 hqq
          obtain ⟨tl, htl⟩ : ∃ t, t = T1.length := ⟨_, rfl⟩
          rw [← htl] at HQQ hwc hb1 h0z hlzz ⊢
          have HTL : Hid (T1.length = tl) := htl.symm
          clear htl hlz
          by_cases hw1 : lc = 1
          case' pos =>
            obtain ⟨rfl, rfl⟩ := hq1 hw1
            subst hw1
            obtain rfl : tl = 0 := by omega
            clear hq1 hq0
            go_upto_region 12 with fail
          case' neg =>
            obtain ⟨rfl, rfl⟩ := hq0 hw1
            have hw2 : ¬ lc - 1 = 0 := by omega
            clear hq1 hq0
            go_upto_region 12 with fail
            clear hw2 hw1
          all_goals
            clear hb1 hwc hwm hlzz hx2
            try clear h0z
            go_wp2
            go_loopg [8, 11] n (fun g2 v8 v11 wq => ∃ (k : Nat) (f : Nat → Bool) (T : List Int) (lo : Option Addr) (ln lc : Nat), v11 = .int .i64 k ∧ v8 = .slice lo ln lc ∧ k ≤ n ∧ n - k ≤ g2 ∧ Hid (QG B1 3 wq (.slice lo ln lc) T) ∧ Hid (OG Value.bool w.heap.size 4 wq (.slice (some ⟨gr, 0, none⟩) n n) (rowB n f)) ∧ Hid (FlI M n G F F f T (fun v => v = u)) ∧ Hid (∀ x, x < k → M u x = true → (x : Int) ∉ G → f x = true) ∧ Hid (unr f n + T.length + 1 ≤ m0) ∧ Hid (Below w.heap.size w wq) ∧ Hid (B1 ≤ wq.heap.size))
            case atStart => exact ⟨0, f, T1, _, _, _, rfl, rfl, by omega, by omega, HQQ, HO, HI3, HCL, HML, HB, HS⟩
            case round =>
              clear HQQ HO HI3 HCL HML HB HS HTL
              obtain ⟨k, f, T, lo, ln, lc, rfl, rfl, hkn, hg4, HQQ, HO, HI, HCL, HML, HB, HS⟩ := hrel
              by_cases hlk : k < n
              · have hlkz : (k : Int) < (n : Int) := by omega
                have hM := HMB.out wr HB.out
                have hcu : wr.cell? ⟨gm, u, none⟩ = some (.slice (some ⟨gu, 0, none⟩) n n) := (hM.row.cell HGU.out).1
                obtain ⟨gu', hgu', hou⟩ := hM.inn u hu
                rw [HGU.out] at hgu'
                simp only [Option.some.injEq, Value.slice.injEq, Addr.mk.injEq, and_true] at hgu'
                subst hgu'
                obtain ⟨b0, hb0⟩ : ∃ b, b = M u k := ⟨_, rfl⟩
                obtain ⟨d0, hd0⟩ : ∃ d, d = f k := ⟨_, rfl⟩
                have hr1 := (hou.cell (rowB_get (f := M u) hlk)).1
                rw [← hb0] at hr1
                obtain ⟨hc1, hc2⟩ := HO.out.cell (rowB_get (f := f) hlk)
                rw [← hd0] at hc1
                have HB0 : Hid (b0 = M u k) := hb0
                have HD0 : Hid (d0 = f k) := hd0
                clear hM hou hb0 hd0
                have HSK : Hid ((b0 = false ∨ d0 = true ∨ (k : Int) ∈ G) → ∀ x, x < k + 1 → M u x = true → (x : Int) ∉ G → f x = true) := fun h x hx hm hg => by
                  by_cases e : x = k
                  · subst e
                    rcases h with h | h | h
                    · rw [HB0.out] at h; rw [h] at hm; simp at hm
                    · rw [← HD0.out]; exact h
                    · exact absurd h hg
                  · exact HCL.out x (by omega) hm hg
                cases b0 with
                | false =>
                  have HC2 : Hid (∀ x, x < k + 1 → M u x = true → (x : Int) ∉ G → f x = true) := HSK.out (Or.inl rfl)
                  clear HSK HCL
                  go_wp2
                  clear hcu hr1 hc1 hc2
                  go_roundg (n - (k + 1))
                  case measure => omega
                  case rel => exact ⟨k + 1, f, T, _, _, _, by first | rfl | go_num, rfl, by omega, Nat.le_refl _, HQQ, HO, HI, HC2, HML, HB, HS⟩
                | true =>
                  cases d0 with
                  | true =>
                    have HC2 : Hid (∀ x, x < k + 1 → M u x = true → (x : Int) ∉ G → f x = true) := HSK.out (Or.inr (Or.inl rfl))
                    clear HSK HCL
                    go_wp2
                    clear hcu hr1 hc1 hc2
                    go_roundg (n - (k + 1))
                    case measure => omega
                    case rel => exact ⟨k + 1, f, T, _, _, _, by first | rfl | go_num, rfl, by omega, Nat.le_refl _, HQQ, HO, HI, HC2, HML, HB, HS⟩
                  | false =>
                    have CH : Hid _ := has16 (.slice qo qn qc) G (k : Int) wr (HQ.out wr HB.out)
                    obtain ⟨b, hb⟩ : ∃ b, b = decide ((k : Int) ∈ G) := ⟨_, rfl⟩
                    rw [← hb] at CH
                    have HBB : Hid (b = decide ((k : Int) ∈ G)) := hb
                    clear hb
                    go_wp2_with fail
                    refine Calls.mono CH.out ?_
                    rintro e y ⟨rfl, hy⟩
                    rw [hy]
                    clear CH hy y
                    cases b with
                    | true =>
                      have HC2 : Hid (∀ x, x < k + 1 → M u x = true → (x : Int) ∉ G → f x = true) := HSK.out (Or.inr (Or.inr (of_decide_eq_true HBB.out.symm)))
                      clear HSK HCL
                      go_wp2
                      clear hcu hr1 hc1 hc2
                      go_roundg (n - (k + 1))
                      case measure => omega
                      case rel => exact ⟨k + 1, f, T, _, _, _, by first | rfl | go_num, rfl, by omega, Nat.le_refl _, HQQ, HO, HI, HC2, HML, HB, HS⟩
                    | false =>
                      have hkg : (k : Int) ∉ G := of_decide_eq_false HBB.out.symm
                      have HI4 : Hid (FlI M n G F F (fuP f k) (T ++ [(k : Int)]) (fun v => v = u)) := HI.out.add hlk (FlP.step HFU.out hu hlk HB0.out.symm hkg)
                      have HC2 : Hid (∀ x, x < k + 1 → M u x = true → (x : Int) ∉ G → fuP f k x = true) := fun x hx hm hg => by
                        by_cases e : x = k
                        · subst e; simp [fuP]
                        · exact fuP_le (HCL.out x (by omega) hm hg)
                      have HML2 : Hid (unr (fuP f k) n + (T ++ [(k : Int)]).length + 1 ≤ m0) := by
                        show _ ≤ _
                        have h1 := unr_up f k HD0.out.symm n hlk
                        have h2 := HML.out
                        rw [List.length_append, List.length_singleton]; omega
                      have HTL : Hid (T.length ≤ 1000000) := by have := HML.out; show _ ≤ _; omega
                      have hset := (HO.out.set (rowB_len _ _) k true).1
                      rw [rowB_set, rowB_up] at hset
                      obtain ⟨W2, hW2⟩ : ∃ W, W = wr.setCell ⟨gr, k, none⟩ (.bool true) := ⟨_, rfl⟩
                      change OG Value.bool w.heap.size 4 (wr.setCell ⟨gr, k, none⟩ (.bool true)) _ _ at hset
                      rw [← hW2] at hset
                      have HB2 : Hid (Below w.heap.size w W2) := by show Below _ _ _; rw [hW2]; exact HB.out.setCell (p := ⟨gr, k, none⟩) HWG.out _
                      have HS2 : Hid (B1 ≤ W2.heap.size) := by have := HS.out; show _ ≤ _; rw [hW2]; simpa using this
                      have HQ2 : Hid (QG B1 3 W2 (.slice lo ln lc) T) := by
                        show QG _ _ _ _ _
                        rw [hW2]
                        exact HQQ.out.of_blocks fun q hq => Below.heap_setCell _ _ _ _ (fun e => by have h1 := (HQQ.out.lt q hq).1; have h2 := HSZ.out; have e1 : q = gr := e; omega)
                      have HO2 : Hid (OG Value.bool w.heap.size 4 W2 (.slice (some ⟨gr, 0, none⟩) n n) (rowB n (fuP f k))) := hset
                      have HW2 : Hid (W2 = wr.setCell ⟨gr, k, none⟩ (.bool true)) := hW2
                      clear hkg hset hW2 HI HO HB HS HQQ HML HCL HSK
                      go_upto_region 17 with fail
                      rw [← HW2.out]
                      clear HW2 hcu hr1 hc1 hc2
                      obtain ⟨WA, hWA⟩ : ∃ W, W = W2.alloc (.cells #[.int .i64 (k : Int)] 3) := ⟨_, rfl⟩
                      obtain ⟨gb, hgb⟩ : ∃ g, g = W2.heap.size := ⟨_, rfl⟩
                      have HBA : Hid (Below W2.heap.size W2 WA) := by show Below _ _ _; rw [hWA]; exact belowB _ _
                      have HCB : Hid (WA.cell? ⟨gb, 0, none⟩ = some (.int .i64 (k : Int))) := by show _ = _; rw [hWA, hgb, World.cell?_alloc_at _ _ _ _ rfl]; rfl
                      have HWA : Hid (WA = W2.alloc (.cells #[.int .i64 (k : Int)] 3)) := hWA
                      have HGB : Hid (gb = W2.heap.size) := hgb
                      have HQA : Hid (QG B1 3 WA (.slice lo ln lc) T) := HQ2.out.of_blocks fun q hq => HBA.out.block q (HQ2.out.lt q hq).2
                      clear hWA hgb
                      go_wp2_with (at_builtin; rw [← HWA.out, ← HGB.out]; refine wpList_pushQ rfl _ _ 23 rfl B1 3 i0 Tryz.underlying23 hi hz0 hz1 hz2 _ T rfl HQA.out gb (k : Int) rfl HCB.out HTL.out (Nat.le_trans HS2.out HBA.out.size) ?_)
                      intro g4 o4 n4 c4 W3 ho hg9 hng
                      have HO3 : Hid (OG Value.bool w.heap.size 4 W3 (.slice (some ⟨gr, 0, none⟩) n n) (rowB n (fuP f k))) := (HO2.out.below HBA.out).of_blocks fun q hq => hg9.block q (Nat.lt_of_lt_of_le (HO2.out.lt q hq).2 HBA.out.size) (fun e => by
                        have h1 := (HQA.out.lt q e.symm).1
                        have e1 : gr = q := by simpa [Value.ownBlock] using hq
                        have := HSZ.out
                        omega)
                      have HB3 : Hid (Below w.heap.size w W3) := by
                        show Below _ _ _
                        have b1 := bstepB HB2.out HBA.out
                        exact ⟨hg9.os.trans b1.os, hg9.tape.trans b1.tape, hg9.output.trans b1.output, Nat.le_trans b1.size hg9.size, fun q hq => (hg9.block q (Nat.lt_of_lt_of_le hq b1.size) (fun e => by have := (HQA.out.lt q e.symm).1; have := HWB.out; omega)).trans (b1.block q hq)⟩
                      have HS3 : Hid (B1 ≤ W3.heap.size) := Nat.le_trans (Nat.le_trans HS2.out HBA.out.size) hg9.size
                      have HQ3 : Hid (QG B1 3 W3 (.slice (some ⟨g4, o4, none⟩) n4 c4) (T ++ [(k : Int)])) := ho
                      clear ho hg9 hng HQ2 HQA HO2 HB2 HS2 HBA HCB HWA HGB HTL
                      go_wp2
                      go_roundg (n - (k + 1))
                      case measure => omega
                      case rel => exact ⟨k + 1, _, _, _, _, _, by first | rfl | go_num, rfl, by omega, Nat.le_refl _, HQ3, HO3, HI4, HC2, HML2, HB3, HS3⟩
              · have hlkz : ¬ (k : Int) < (n : Int) := by omega
                have HI4 : Hid (FlI M n G F F f T (fun _ => False)) := HI.out.shut fun x hx hm hg => HCL.out x (by omega) hm hg
                have hml := HML.out
                have HQ4 : Hid ((Value.slice lo ln lc = .slice none 0 0 ∧ T = []) ∨ QG B1 3 wr (.slice lo ln lc) T) := Or.inr HQQ.out
                have HL4 : Hid (T.length = ln) := HQQ.out.rg.len
                obtain ⟨m1, hm1⟩ : ∃ m, m = unr f n + T.length := ⟨_, rfl⟩
                have h1 : unr f n + T.length ≤ m1 := by omega
                have h2 : unr f n + T.length ≤ n := by omega
                have h3 : m1 + 1 ≤ m0 := by omega
                have H1 : Hid (unr f n + T.length ≤ m1) := h1
                have H2 : Hid (unr f n + T.length ≤ n) := h2
                clear hml hm1 h1 h2 HQQ HI HCL HML
                go_wp2
                go_roundg m1
                case measure => omega
                case rel => exact ⟨f, T, lo, ln, lc, rfl, H1.out, H2.out, HQ4, HL4, HO, HI4, HB, HS⟩
        · have hlzz : ¬ (ln : Int) > 0 := by omega
          have hT : T = [] := List.eq_nil_of_length_eq_zero (by rw [HLN.out]; omega)
          subst hT
          have HE : Hid (∃ f, OG Value.bool w.heap.size 4 wr (.slice (some ⟨gr, 0, none⟩) n n) (rowB n f) ∧ FlE M n G F f) := ⟨f, HO.out, ⟨HI.out.snd, HI.out.frm, fun a b ha hb hf hm hg => by
            rcases HI.out.don a ha hf with h | h | h
            · simp at h
            · exact h.elim
            · exact h b hb hm hg⟩⟩
          clear HQG HLN HO HI HS hg2 hun hlz
          go_wp2
          go_ret
          exact ⟨gr, rfl, HE.out, HB.out⟩
end Go.Proofs.YtcoiapgfaibkgaaGreat

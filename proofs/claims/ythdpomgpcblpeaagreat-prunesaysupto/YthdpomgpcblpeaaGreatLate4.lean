/-
  Proved here: plain facts on a region that leaves its order open: what is read may be read first, though later operations of the region write there. No condition.
-/
import Derived.Test.YthdpomgpcblpeaaGreatMemAll
import Derived.Deep.RegionHeld3
namespace Go.Proofs.YthdpomgpcblpeaaGreat.L4
open Go.RowKit

section
variable {P : Program} {ops : Array Oper} {Q : Exit → Act → World → Prop} {md : Region.Mode} {S : World → Prop} {L : List (Nat × (World → Prop))}

/-- Number j waits for number i. -/
def pureB : Op → Bool
  | .build .. => true
  | .extract .. => true
  | .move .. => true
  | .slice .. => true
  | .binOp .. => true
  | .nilCheck .. => true
  | .call c => (match c.callee with | .builtin .len => true | _ => false)
  | .fieldAddr .. => true
  | .indexAddr .. => true
  | _ => false
/-- Number j waits for number i, and does more than to put values together. -/
def waitsB (md : Region.Mode) (ops : Array Oper) (j i : Nat) : Bool := match ops[j]? with | some o => !pureB o.op && o.after.any (fun e => Region.binds md e && e.on == i) | none => false
/-- Each condition holds, but where one that waits for its reader is done. -/
def Kept (md : Region.Mode) (ops : Array Oper) (done : Array Bool) (u : World) : List (Nat × (World → Prop)) → Prop
  | [] => True
  | p :: r => ((∃ k, done.getD k false = true ∧ waitsB md ops k p.1 = true) ∨ p.2 u) ∧ Kept md ops done u r
/-- All conditions hold. -/
def AllL (u : World) : List (Nat × (World → Prop)) → Prop
  | [] => True
  | p :: r => p.2 u ∧ AllL u r
theorem Kept.get {done : Array Bool} {u : World} : ∀ {L : List (Nat × (World → Prop))}, Kept md ops done u L → ∀ p ∈ L, (∃ k, done.getD k false = true ∧ waitsB md ops k p.1 = true) ∨ p.2 u
  | [], _, _, h => by cases h
  | q :: r, hk, p, h => by
    rcases List.mem_cons.1 h with h | h
    · rw [h]; exact hk.1
    · exact Kept.get hk.2 p h
theorem Kept.mk' {done : Array Bool} {u : World} : ∀ {L : List (Nat × (World → Prop))}, (∀ p ∈ L, (∃ k, done.getD k false = true ∧ waitsB md ops k p.1 = true) ∨ p.2 u) → Kept md ops done u L
  | [], _ => trivial
  | q :: r, h => ⟨h q (by simp), Kept.mk' fun p hp => h p (by simp [hp])⟩
theorem AllL.get {u : World} : ∀ {L : List (Nat × (World → Prop))}, AllL u L → ∀ p ∈ L, p.2 u
  | [], _, _, h => by cases h
  | q :: r, hk, p, h => by
    rcases List.mem_cons.1 h with h | h
    · rw [h]; exact hk.1
    · exact AllL.get hk.2 p h
theorem AllL.kept {done : Array Bool} {u : World} (h : AllL u L) : Kept md ops done u L := Kept.mk' fun p hp => Or.inr (h.get p hp)
/-- In whatever order: behind each operation what is still to be read stands. -/
def wpLate (P : Program) (md : Region.Mode) (ops : Array Oper) (Q : Exit → Act → World → Prop) (L : List (Nat × (World → Prop))) : Nat → Array Bool → Act → World → Prop
  | 0, done, a, w => Region.ready md ops done = [] ∧ Q .normal a w
  | n + 1, done, a, w => (Region.ready md ops done = [] → Q .normal a w) ∧
      ∀ j ∈ Region.ready md ops done, wpOp P ops Q j (fun b u => Kept md ops (done.setIfInBounds j true) u L ∧ wpLate P md ops Q L n (done.setIfInBounds j true) b u) a w
theorem wpLate.any : ∀ (n : Nat) (done : Array Bool) (a : Act) (w : World), wpLate P md ops Q L n done a w → wpAny P md ops Q n done a w
  | 0, _, _, _, h => h
  | n + 1, _, _, _, h => ⟨h.1, fun j hj => wpOp_mono (fun _ _ k => wpLate.any n _ _ _ k.2) (h.2 j hj)⟩
theorem region_late (L : List (Nat × (World → Prop))) {id : Nat} {a : Act} {w : World} (hm : P.follows .mixedOrders = true) (h : wpLate P .any ops Q L ops.size (Array.replicate ops.size false) a w.drew) : (Code.region id ops true).wp P Q a w :=
  wp_region_any hm (wpLate.any _ _ _ _ h)
theorem waits_no {i j : Nat} {o : Oper} (hj : ops[j]? = some o) (hno : ∀ e ∈ o.after, Region.binds md e = true → e.on ≠ i) : waitsB md ops j i = false := by
  unfold waitsB
  rw [hj]
  cases hc : o.after.any (fun e => Region.binds md e && e.on == i) with
  | false => show (!pureB o.op && o.after.any (fun e => Region.binds md e && e.on == i)) = false; rw [hc, Bool.and_false]
  | true =>
    simp only [Array.any_eq_true', Bool.and_eq_true, beq_iff_eq] at hc
    obtain ⟨e, he, hb, heq⟩ := hc
    exact absurd heq (hno e he hb)
theorem waits_yes {i j : Nat} (h : waitsB md ops j i = true) : ∃ o, ops[j]? = some o ∧ ∃ e ∈ o.after, Region.binds md e = true ∧ e.on = i := by
  unfold waitsB at h
  cases ho : ops[j]? with
  | none => rw [ho] at h; cases h
  | some o =>
    rw [ho] at h
    simp only [Array.any_eq_true', Bool.and_eq_true, beq_iff_eq] at h
    exact ⟨o, rfl, h.2⟩
/-- What is done waits for nothing that is not. -/
def Shut' (md : Region.Mode) (ops : Array Oper) (done : Array Bool) : Prop := ∀ k i, done.getD k false = true → waitsB md ops k i = true → done.getD i false = true
def shutB (md : Region.Mode) (ops : Array Oper) (done : Array Bool) : Bool := (List.range ops.size).all fun k => !done.getD k false || (match ops[k]? with | some o => o.after.all (fun e => !Region.binds md e || done.getD e.on false) | none => true)
theorem shut_of {done : Array Bool} (h : shutB md ops done = true) : Shut' md ops done := by
  intro k i hk hw
  obtain ⟨o, ho, e, he, hb, rfl⟩ := waits_yes hw
  unfold shutB at h
  rw [List.all_eq_true] at h
  have h1 := h k (List.mem_range.2 (Array.getElem?_eq_some_iff.1 ho).1)
  rw [ho, hk] at h1
  simp only [Bool.not_true, Bool.false_or, Array.all_eq_true_iff_forall_mem, Bool.or_eq_true, Bool.not_eq_true'] at h1
  rcases h1 e he with h2 | h2
  · rw [hb] at h2; cases h2
  · exact h2
theorem set_get {done : Array Bool} {i k : Nat} (h : (done.setIfInBounds i true).getD k false = true) : k = i ∨ done.getD k false = true := by
  rcases Nat.decEq i k with hne | he
  · rw [Go.getD_set_ne false hne] at h; exact Or.inr h
  · exact Or.inl he.symm
theorem Shut'.set {done : Array Bool} {j : Nat} (h : Shut' md ops done) (hj : j ∈ Region.ready md ops done) : Shut' md ops (done.setIfInBounds j true) := by
  intro k i hk hw
  apply getD_set_true
  rcases set_get hk with he | hk
  · rw [he] at hw
    obtain ⟨o, ho, e, hem, hb, rfl⟩ := waits_yes hw
    obtain ⟨_, o', ho', hall⟩ := mem_ready.1 hj
    rw [ho] at ho'
    cases ho'
    exact hall e hem hb
  · exact h k i hk hw

theorem late_first {i : Nat} {oi : Oper} {v : Value} (hi : ops[i]? = some oi) (hs : Region.noSelect ops = true) (hL : (i, S) ∈ L ∨ ∀ u, S u) (hn : ∀ p ∈ L, waitsB md ops i p.1 = false) (hii : waitsB md ops i i = false)
    (hQ : ∀ c a w, Q (.panic c) (a.put oi.dst v) w → Q (.panic c) a w) (n : Nat) :
    ∀ (done : Array Bool) (a : Act) (w : World), (∀ j oj, ops[j]? = some oj → j ≠ i → done.getD j true = false → (∀ e ∈ oj.after, Region.binds md e = true → e.on ≠ i) → oi.apart ops oj = true) →
      i ∈ Region.ready md ops done → Shut' md ops done → YieldsIf P ops S oi v a → S w → Kept md ops (done.setIfInBounds i true) w L → wpLate P md ops Q L n (done.setIfInBounds i true) (a.put oi.dst v) w → wpLate P md ops Q L (n + 1) done a w := by
  have hsel := Region.noSelect_spec hs
  induction n with
  | zero =>
    intro done a w _ hr _ hy hS hK H
    constructor
    · intro h; rw [h] at hr; cases hr
    · intro j hj
      rcases Nat.decEq j i with hne | he
      · exact absurd (ready_mono hj hne) (by rw [H.1]; simp)
      · rw [he]; exact hy.wpOp hi hS ⟨hK, H⟩
  | succ n ih =>
    intro done a w hf hr hsh hy hS hK H
    constructor
    · intro h; rw [h] at hr; cases hr
    · intro j hj
      rcases Nat.decEq j i with hne | he
      · obtain ⟨hun, oj, hoj, hall⟩ := mem_ready.1 hj
        have hi0 : done.getD i false = false := by
          have h0 := (mem_ready.1 hr).1
          rw [Array.getD_eq_getD_getElem?] at h0 ⊢
          cases hc : done[i]? with
          | none => rfl
          | some c => rw [hc] at h0; exact h0
        have hno : ∀ e ∈ oj.after, Region.binds md e = true → e.on ≠ i := by
          intro e he hb heq
          have h1 := hall e he hb
          rw [heq, hi0] at h1
          cases h1
        have hjw := waits_no hoj hno
        have k := wpOp_putIf hoj (hf j oj hoj hne hun hno) (fun cs b => hsel i oi cs b hi) (fun cs b => hsel j oj cs b hoj) hQ hy (H.2 j (ready_mono hj hne))
        refine wpOp_mono (fun b u m => ?_) k
        obtain ⟨m1, m2, m3⟩ := m
        have hSu : S u := by
          rcases hL with hL | hL
          case inr => exact hL u
          rcases m2.get (i, S) hL with ⟨p, hp, hpw⟩ | h
          · exfalso
            rcases set_get hp with e1 | hp
            · rw [e1] at hpw
              have h9 : waitsB md ops j i = true := hpw
              rw [hjw] at h9; cases h9
            · rcases set_get hp with e1 | hp
              · rw [e1] at hpw; have h9 : waitsB md ops i i = true := hpw; rw [hii] at h9; cases h9
              · have h9 := hsh p i hp hpw
                rw [hi0] at h9; cases h9
          · exact h
        refine ⟨Kept.mk' fun p hp => ?_, ih _ b u ?_ (ready_mono hr (Ne.symm hne)) (hsh.set hj) m1 hSu ?_ ?_⟩
        · rcases m2.get p hp with ⟨q, hq, hqw⟩ | h
          · left
            refine ⟨q, ?_, hqw⟩
            rw [Array.setIfInBounds_comm _ _ (Ne.symm hne)] at hq
            rcases set_get hq with e1 | hq
            · rw [e1, hn p hp] at hqw; cases hqw
            · exact hq
          · exact Or.inr h
        · intro p op hp hpi hpu hpn
          refine hf p op hp hpi ?_ hpn
          rcases Nat.decEq j p with hjp | hjp
          · rw [Go.getD_set_ne true hjp] at hpu; exact hpu
          · rw [← hjp]; exact hun
        · rw [Array.setIfInBounds_comm _ _ hne]; exact m2
        · rw [Array.setIfInBounds_comm _ _ hne]; exact m3
      · rw [he]; exact hy.wpOp hi hS ⟨hK, H⟩
end

section
variable {P : Program} {l : List Oper} {Q : Exit → Act → World → Prop} {md : Region.Mode} {S : World → Prop} {L : List (Nat × (World → Prop))}
/-- Number i waits for none of the readers. -/
def noneB (md : Region.Mode) (ops : Array Oper) (i : Nat) (rs : List Nat) : Bool := rs.all fun r => !waitsB md ops i r
theorem none_spec {ops : Array Oper} {i : Nat} (hn : noneB md ops i (L.map Prod.fst) = true) (p : Nat × (World → Prop)) (hp : p ∈ L) : waitsB md ops i p.1 = false := by
  unfold noneB at hn
  rw [List.all_eq_true] at hn
  have := hn p.1 (List.mem_map.2 ⟨p, hp, rfl⟩)
  simpa using this
/-- Number i, which hangs on no world, is taken first. -/
theorem late_free (i : Nat) {oi : Oper} {v : Value} {n : Nat} {done : Array Bool} {a : Act} {w : World} (hi : l[i]? = some oi) (hs : Region.noSelect l.toArray = true) (hn : noneB md l.toArray i (L.map Prod.fst) = true) (hii : waitsB md l.toArray i i = false) (hf : Region.free md l.toArray done i = true) (hr : (Region.ready md l.toArray done).contains i = true) (hsh : shutB md l.toArray done = true)
    (hQ : ∀ c a w, Q (.panic c) (a.put oi.dst v) w → Q (.panic c) a w) (hy : YieldsIf P l.toArray (fun _ => True) oi v a) (hA : AllL w L) (h : wpLate P md l.toArray Q L n (done.setIfInBounds i true) (a.put oi.dst v) w) : wpLate P md l.toArray Q L (n + 1) done a w :=
  have hi' : l.toArray[i]? = some oi := by rw [List.getElem?_toArray]; exact hi
  late_first hi' hs (Or.inr fun _ => trivial) (none_spec hn) hii hQ n done a w (Region.free_spec hi' hf) (by simpa using hr) (shut_of hsh) hy trivial hA.kept h
/-- Number i is taken first. -/
theorem late_take (i : Nat) {oi : Oper} {v : Value} {n : Nat} {done : Array Bool} {a : Act} {w : World} (hi : l[i]? = some oi) (hs : Region.noSelect l.toArray = true) (hL : (i, S) ∈ L) (hn : noneB md l.toArray i (L.map Prod.fst) = true) (hf : Region.free md l.toArray done i = true) (hr : (Region.ready md l.toArray done).contains i = true) (hsh : shutB md l.toArray done = true)
    (hQ : ∀ c a w, Q (.panic c) (a.put oi.dst v) w → Q (.panic c) a w) (hy : YieldsIf P l.toArray S oi v a) (hA : AllL w L) (h : wpLate P md l.toArray Q L n (done.setIfInBounds i true) (a.put oi.dst v) w) : wpLate P md l.toArray Q L (n + 1) done a w :=
  have hi' : l.toArray[i]? = some oi := by rw [List.getElem?_toArray]; exact hi
  late_first hi' hs (Or.inl hL) (none_spec hn) (none_spec hn (i, S) hL) hQ n done a w (Region.free_spec hi' hf) (by simpa using hr) (shut_of hsh) hy (hA.get _ hL) hA.kept h
/-- Number j alone may come up. -/
theorem late_step (j : Nat) {o : Oper} {n : Nat} {done : Array Bool} {a : Act} {w : World} (hr : Region.ready md l.toArray done = [j]) (ho : l[j]? = some o)
    (h : ∀ K' : Act → World → Prop, Shut (∀ b u, Kept md l.toArray (done.setIfInBounds j true) u L → wpLate P md l.toArray Q L n (done.setIfInBounds j true) b u → K' b u) → if Region.wanted o (yielded l.toArray a.tmps) = true then Oper.wp P o a w K' Q else K' (a.put o.dst undef) w) :
    wpLate P md l.toArray Q L (n + 1) done a w := by
  constructor
  · intro h0; rw [h0] at hr; cases hr
  · intro k hk
    rw [hr, List.mem_singleton] at hk
    subst hk
    exact wpOp_step (by rw [List.getElem?_toArray]; exact ho) (fun K' hK => h K' (fun b u h1 h2 => hK b u ⟨h1, h2⟩))
theorem late_done {done : Array Bool} {a : Act} {w : World} (hr : Region.ready md l.toArray done = []) (h : Q .normal a w) : ∀ n, wpLate P md l.toArray Q L n done a w
  | 0 => ⟨hr, h⟩
  | _ + 1 => ⟨fun _ => h, by rw [hr]; intro j hj; cases hj⟩
theorem late_two (j k : Nat) {o o2 : Oper} {n : Nat} {done : Array Bool} {a : Act} {w : World} (hr : Region.ready md l.toArray done = [j, k]) (ho : l[j]? = some o) (ho2 : l[k]? = some o2)
    (h : ∀ K' : Act → World → Prop, Shut (∀ b u, Kept md l.toArray (done.setIfInBounds j true) u L → wpLate P md l.toArray Q L n (done.setIfInBounds j true) b u → K' b u) → if Region.wanted o (yielded l.toArray a.tmps) = true then Oper.wp P o a w K' Q else K' (a.put o.dst undef) w)
    (h2 : ∀ K' : Act → World → Prop, Shut (∀ b u, Kept md l.toArray (done.setIfInBounds k true) u L → wpLate P md l.toArray Q L n (done.setIfInBounds k true) b u → K' b u) → if Region.wanted o2 (yielded l.toArray a.tmps) = true then Oper.wp P o2 a w K' Q else K' (a.put o2.dst undef) w) :
    wpLate P md l.toArray Q L (n + 1) done a w := by
  constructor
  · intro h0; rw [h0] at hr; cases hr
  · intro i hi
    rw [hr] at hi
    rcases List.mem_cons.1 hi with e | hi
    · subst e
      exact wpOp_step (by rw [List.getElem?_toArray]; exact ho) (fun K' hK => h K' (fun b u h1 h2 => hK b u ⟨h1, h2⟩))
    · rw [List.mem_singleton] at hi
      subst hi
      exact wpOp_step (by rw [List.getElem?_toArray]; exact ho2) (fun K' hK => h2 K' (fun b u h1 h2 => hK b u ⟨h1, h2⟩))
theorem late_three (i j k : Nat) {o o2 o3 : Oper} {n : Nat} {done : Array Bool} {a : Act} {w : World} (hr : Region.ready md l.toArray done = [i, j, k]) (ho : l[i]? = some o) (ho2 : l[j]? = some o2) (ho3 : l[k]? = some o3)
    (h : ∀ K' : Act → World → Prop, Shut (∀ b u, Kept md l.toArray (done.setIfInBounds i true) u L → wpLate P md l.toArray Q L n (done.setIfInBounds i true) b u → K' b u) → if Region.wanted o (yielded l.toArray a.tmps) = true then Oper.wp P o a w K' Q else K' (a.put o.dst undef) w)
    (h2 : ∀ K' : Act → World → Prop, Shut (∀ b u, Kept md l.toArray (done.setIfInBounds j true) u L → wpLate P md l.toArray Q L n (done.setIfInBounds j true) b u → K' b u) → if Region.wanted o2 (yielded l.toArray a.tmps) = true then Oper.wp P o2 a w K' Q else K' (a.put o2.dst undef) w)
    (h3 : ∀ K' : Act → World → Prop, Shut (∀ b u, Kept md l.toArray (done.setIfInBounds k true) u L → wpLate P md l.toArray Q L n (done.setIfInBounds k true) b u → K' b u) → if Region.wanted o3 (yielded l.toArray a.tmps) = true then Oper.wp P o3 a w K' Q else K' (a.put o3.dst undef) w) :
    wpLate P md l.toArray Q L (n + 1) done a w := by
  constructor
  · intro h0; rw [h0] at hr; cases hr
  · intro m hm
    rw [hr] at hm
    rcases List.mem_cons.1 hm with e | hm
    · subst e
      exact wpOp_step (by rw [List.getElem?_toArray]; exact ho) (fun K' hK => h K' (fun b u h1 h2 => hK b u ⟨h1, h2⟩))
    · rcases List.mem_cons.1 hm with e | hm
      · subst e
        exact wpOp_step (by rw [List.getElem?_toArray]; exact ho2) (fun K' hK => h2 K' (fun b u h1 h2 => hK b u ⟨h1, h2⟩))
      · rw [List.mem_singleton] at hm
        subst hm
        exact wpOp_step (by rw [List.getElem?_toArray]; exact ho3) (fun K' hK => h3 K' (fun b u h1 h2 => hK b u ⟨h1, h2⟩))
/-! The same, in fewer words. -/
theorem AllL.mv {w w' : World} (_ : AllL w L) (h : AllL w' L) : AllL w' L := h
theorem late_fr (i : Nat) {oi : Oper} {v : Value} {n : Nat} {done : Array Bool} {a : Act} {w : World} (hi : l[i]? = some oi) (hy : YieldsIf P l.toArray (fun _ => True) oi v a) (hA : AllL w L) (h : wpLate P md l.toArray Q L n (done.setIfInBounds i true) (a.put oi.dst v) w)
    (hs : Region.noSelect l.toArray = true := by kernel_rfl) (hn : noneB md l.toArray i (L.map Prod.fst) = true := by kernel_rfl) (hii : waitsB md l.toArray i i = false := by kernel_rfl) (hf : Region.free md l.toArray done i = true := by kernel_rfl) (hr : (Region.ready md l.toArray done).contains i = true := by kernel_rfl) (hsh : shutB md l.toArray done = true := by kernel_rfl)
    (hQ : ∀ c a w, Q (.panic c) (a.put oi.dst v) w → Q (.panic c) a w := by exact fun _ _ _ h => h) : wpLate P md l.toArray Q L (n + 1) done a w := late_free i hi hs hn hii hf hr hsh hQ hy hA h
theorem late_tk (i : Nat) {oi : Oper} {v : Value} {n : Nat} {done : Array Bool} {a : Act} {w : World} (hi : l[i]? = some oi) (hL : (i, S) ∈ L) (hy : YieldsIf P l.toArray S oi v a) (hA : AllL w L) (h : wpLate P md l.toArray Q L n (done.setIfInBounds i true) (a.put oi.dst v) w)
    (hs : Region.noSelect l.toArray = true := by kernel_rfl) (hn : noneB md l.toArray i (L.map Prod.fst) = true := by kernel_rfl) (hf : Region.free md l.toArray done i = true := by kernel_rfl) (hr : (Region.ready md l.toArray done).contains i = true := by kernel_rfl) (hsh : shutB md l.toArray done = true := by kernel_rfl)
    (hQ : ∀ c a w, Q (.panic c) (a.put oi.dst v) w → Q (.panic c) a w := by exact fun _ _ _ h => h) : wpLate P md l.toArray Q L (n + 1) done a w := late_take i hi hs hL hn hf hr hsh hQ hy hA h
theorem late_st (j : Nat) {o : Oper} {n : Nat} {done : Array Bool} {a : Act} {w : World} (ho : l[j]? = some o)
    (h : ∀ K' : Act → World → Prop, Shut (∀ b u, Kept md l.toArray (done.setIfInBounds j true) u L → wpLate P md l.toArray Q L n (done.setIfInBounds j true) b u → K' b u) → if Region.wanted o (yielded l.toArray a.tmps) = true then Oper.wp P o a w K' Q else K' (a.put o.dst undef) w)
    (hr : Region.ready md l.toArray done = [j] := by kernel_rfl) : wpLate P md l.toArray Q L (n + 1) done a w := late_step j hr ho h
theorem kpt {A B : Nat → Prop} {C : Prop} (k : Nat) (h1 : A k := by kernel_rfl) (h2 : B k := by kernel_rfl) : (∃ p, A p ∧ B p) ∨ C := Or.inl ⟨k, h1, h2⟩
theorem putA {α : Type} (l : List α) (i : Nat) (a : α) : l.toArray.setIfInBounds i a = (l.set i a).toArray := List.setIfInBounds_toArray ..
theorem putB {α : Type} (x : α) (l : List α) (a : α) : (x :: l).set 0 a = a :: l := List.set_cons_zero
theorem putC {α : Type} (x : α) (l : List α) (i : Nat) (a : α) : (x :: l).set (i + 1) a = x :: l.set i a := List.set_cons_succ
end
end Go.Proofs.YthdpomgpcblpeaaGreat.L4

/-
  Proved here, plain mathematics: walks from parent to parent among what is not out, how far points are, the shortest way back; what a search through the children, level by level, tells.
  Proved here: a map from numbers to numbers of the call's own, told as a function; a row of the call's own that begins behind the front of its block.
-/
import Derived.Test.YthdpomgpcblpeaaGreatDagKAll
import Derived.Maps.OwnSet
namespace Go.Proofs.YthdpomgpcblpeaaGreat
set_option linter.unusedVariables false
/-- A walk of just m steps, each to a parent that is not out, that ends at s. -/
def Wk (P : List (List Int)) (T : List Int) (s : Nat) : Nat → Nat → Prop
  | 0, v => v = s
  | m + 1, v => ∃ p : Nat, (p : Int) ∈ P.getD v [] ∧ (p : Int) ∉ T ∧ Wk P T s m p
/-- How far a point is. -/
def Dst (P : List (List Int)) (T : List Int) (s d v : Nat) : Prop := Wk P T s d v ∧ ∀ m, m < d → ¬ Wk P T s m v
/-- The shortest way back has so many points. -/
def MinC (P : List (List Int)) (T : List Int) (s L : Nat) : Prop := 1 ≤ L ∧ Wk P T s L s ∧ ∀ m, 1 ≤ m → m < L → ¬ Wk P T s m s
theorem MinC.uniq {P : List (List Int)} {T : List Int} {s L L' : Nat} (h : MinC P T s L) (h' : MinC P T s L') : L = L' := by
  rcases Nat.lt_trichotomy L L' with e | e | e
  · exact absurd h.2.1 (h'.2.2 L h.1 e)
  · exact e
  · exact absurd h'.2.1 (h.2.2 L' h'.1 e)
theorem Dst.uniq {P : List (List Int)} {T : List Int} {s d d' v : Nat} (h : Dst P T s d v) (h' : Dst P T s d' v) : d = d' := by
  rcases Nat.lt_trichotomy d d' with e | e | e
  · exact absurd h.1 (h'.2 d e)
  · exact e
  · exact absurd h'.1 (h.2 d' e)
/-- All parents are points. -/
def WfP (P : List (List Int)) : Prop := ∀ (i : Nat) (x : Int), x ∈ P.getD i [] → ∃ p : Nat, x = (p : Int) ∧ p < P.length
/-- Between two rounds of the search: Z have been looked at, Q wait; M tells how far; those that wait are at least far away. -/
structure BfsI (P : List (List Int)) (T : List Int) (s : Nat) (Z Q : List Int) (M : Int → Option Int) (far : Nat) : Prop where
  pts : Pts P.length (Z ++ Q)
  dom : ∀ x, (∃ c, M x = some c) ↔ x ∈ Z ++ Q
  snd : ∀ x c, M x = some c → ∃ v d : Nat, x = (v : Int) ∧ c = (d : Int) ∧ (v : Int) ∉ T ∧ Wk P T s d v ∧ d ≤ far + 1
  st : M (s : Int) = some 0
  que : ∀ x ∈ Q, ∃ d : Nat, M x = some (d : Int) ∧ far ≤ d
  mono : Q.Pairwise (fun x y => ∀ a b, M x = some a → M y = some b → a ≤ b)
  prc : ∀ v d : Nat, M (v : Int) = some (d : Int) → (v : Int) ∈ Z → d ≤ far ∧ (v : Int) ∉ P.getD s [] ∧ ∀ i : Nat, i < P.length → (v : Int) ∈ P.getD i [] → (i : Int) ∉ T → ∃ d' : Nat, M (i : Int) = some (d' : Int) ∧ d' ≤ d + 1
  fz : far ≤ Z.length
/-- While the children of the first one that waits are gone through. -/
structure BfsK (P : List (List Int)) (T : List Int) (s u : Nat) (Z Q : List Int) (pre : List Int) (M : Int → Option Int) (far : Nat) : Prop where
  inv : BfsI P T s Z ((u : Int) :: Q) M far
  mu : M (u : Int) = some (far : Int)
  ch : ∀ i : Nat, i < P.length → (i : Int) ∈ pre → (i : Int) ∉ T → ∃ d' : Nat, M (i : Int) = some (d' : Int) ∧ d' ≤ far + 1
  ns : (s : Int) ∉ pre
section
variable {P : List (List Int)} {T Z Q pre : List Int} {s u far : Nat} {M : Int → Option Int}
theorem BfsI.start (hs : s < P.length) (hT : (s : Int) ∉ T) : BfsI P T s [] [(s : Int)] (fun y => if y = (s : Int) then some 0 else none) 0 := by
  refine ⟨⟨by simp, fun x hx => ?_⟩, fun x => ?_, fun x c h => ?_, by simp, fun x hx => ?_, by simp, fun v d _ h => by simp at h, by simp⟩
  · simp at hx; omega
  · simp
  · by_cases e : x = (s : Int)
    · subst e; simp at h; subst h; exact ⟨s, 0, rfl, rfl, hT, rfl, by omega⟩
    · rw [if_neg e] at h; exact absurd h (by simp)
  · simp at hx; subst hx; exact ⟨0, by simp, Nat.le_refl _⟩
/-- Those that are at most so far are told. -/
theorem BfsI.cmp (h : BfsI P T s Z Q M far) (hP : WfP P) : ∀ (m v : Nat), v < P.length → (v : Int) ∉ T → Wk P T s m v → (m ≤ far ∨ Q = []) → ∃ d : Nat, M (v : Int) = some (d : Int) ∧ d ≤ m := by
  intro m
  induction m with
  | zero => intro v hv hT hw _; have e : v = s := hw
            subst e; exact ⟨0, h.st, Nat.le_refl _⟩
  | succ m ih =>
    rintro v hv hT ⟨p, hp, hpT, hw⟩ hm
    obtain ⟨p', e, hp'⟩ := hP v _ hp
    have e' : p = p' := by omega
    subst e'
    obtain ⟨d, hd, hle⟩ := ih p hp' hpT hw (hm.imp (fun h => by omega) id)
    have hz : (p : Int) ∈ Z := by
      rcases List.mem_append.1 ((h.dom _).1 ⟨_, hd⟩) with e | e
      · exact e
      · rcases hm with hm | hm
        · obtain ⟨d2, h2, h3⟩ := h.que _ e
          rw [hd] at h2
          simp only [Option.some.injEq] at h2
          omega
        · rw [hm] at e; simp at e
    obtain ⟨d', h1, h2⟩ := (h.prc p d hd hz).2.2 v hv hp hT
    exact ⟨d', h1, by omega⟩
/-- No way back through what has been looked at. -/
theorem BfsI.nob (h : BfsI P T s Z Q M far) (hP : WfP P) {m : Nat} (h1 : 1 ≤ m) (hm : m ≤ far ∨ Q = []) : ¬ Wk P T s m s := by
  obtain ⟨k, rfl⟩ : ∃ k, m = k + 1 := ⟨m - 1, by omega⟩
  rintro ⟨p, hp, hpT, hw⟩
  obtain ⟨p', e, hp'⟩ := hP s _ hp
  have e' : p = p' := by omega
  subst e'
  obtain ⟨d, hd, hle⟩ := h.cmp hP k p hp' hpT hw (hm.imp (fun h => by omega) id)
  have hz : (p : Int) ∈ Z := by
    rcases List.mem_append.1 ((h.dom _).1 ⟨_, hd⟩) with e | e
    · exact e
    · rcases hm with hm | hm
      · obtain ⟨d2, h2, h3⟩ := h.que _ e
        rw [hd] at h2
        simp only [Option.some.injEq] at h2
        omega
      · rw [hm] at e; simp at e
  exact (h.prc p d hd hz).2.1 hp
theorem BfsI.exact (h : BfsI P T s Z Q M far) (hP : WfP P) {x : Int} {c : Nat} (hc : c ≤ far) : M x = some (c : Int) ↔ ∃ v : Nat, x = (v : Int) ∧ v < P.length ∧ (v : Int) ∉ T ∧ Dst P T s c v := by
  constructor
  · intro hM
    obtain ⟨v, d, rfl, e, hT, hw, hd⟩ := h.snd _ _ hM
    have e' : c = d := by omega
    subst e'
    have hv : v < P.length := by have := h.pts.2 _ ((h.dom _).1 ⟨_, hM⟩); omega
    refine ⟨v, rfl, hv, hT, hw, fun m hm hw2 => ?_⟩
    obtain ⟨d2, h1, h2⟩ := h.cmp hP m v hv hT hw2 (Or.inl (by omega))
    rw [hM] at h1
    simp only [Option.some.injEq] at h1
    omega
  · rintro ⟨v, rfl, hv, hT, hw, hmin⟩
    obtain ⟨d, h1, h2⟩ := h.cmp hP c v hv hT hw (Or.inl hc)
    obtain ⟨v2, d2, e1, e2, _, hw2, _⟩ := h.snd _ _ h1
    have e3 : d = d2 := by omega
    have e4 : v = v2 := by omega
    subst e3; subst e4
    rcases Nat.lt_or_ge d c with e | e
    · exact absurd hw2 (hmin d e)
    · have : d = c := by omega
      rw [h1, this]
/-- A child is the goal: the shortest way back. -/
theorem BfsK.found (h : BfsK P T s u Z Q pre M far) (hP : WfP P) (hu : (u : Int) ∈ P.getD s []) : MinC P T s (far + 1) := by
  obtain ⟨v, d, e1, e2, hT, hw, _⟩ := h.inv.snd _ _ h.mu
  have e3 : far = d := by omega
  have e4 : u = v := by omega
  subst e3; subst e4
  exact ⟨by omega, ⟨u, hu, hT, hw⟩, fun m h1 h2 => h.inv.nob hP h1 (Or.inl (by omega))⟩
/-- A child that was seen, or is out. -/
theorem BfsK.skip (h : BfsK P T s u Z Q pre M far) {c : Nat} (hc : c ≠ s) (hs : (∃ x, M (c : Int) = some x) ∨ (c : Int) ∈ T) : BfsK P T s u Z Q (pre ++ [(c : Int)]) M far := by
  refine ⟨h.inv, h.mu, fun i hi hm hT => ?_, fun hm => ?_⟩
  · rcases List.mem_append.1 hm with e | e
    · exact h.ch i hi e hT
    · rw [List.mem_singleton] at e
      have e' : i = c := by omega
      subst e'
      rcases hs with ⟨x, hx⟩ | hs
      · obtain ⟨v, d, e1, e2, _, _, hd⟩ := h.inv.snd _ _ hx
        exact ⟨d, by rw [hx, e2], hd⟩
      · exact absurd hs hT
  · rcases List.mem_append.1 hm with e | e
    · exact h.ns e
    · rw [List.mem_singleton] at e; omega
/-- A new child. -/
theorem BfsK.put (h : BfsK P T s u Z Q pre M far) {c : Nat} (hcn : c < P.length) (hu : (u : Int) ∈ P.getD c []) (hc : c ≠ s) (hs : M (c : Int) = none) (hcT : (c : Int) ∉ T) :
    BfsK P T s u Z (Q ++ [(c : Int)]) (pre ++ [(c : Int)]) (fun y => if y = (c : Int) then some ((far + 1 : Nat) : Int) else M y) far := by
  have hne : ∀ x v, M x = some v → x ≠ (c : Int) := fun x v hx e => by rw [e, hs] at hx; exact absurd hx (by simp)
  have hold : ∀ x v, M x = some v → (if x = (c : Int) then some ((far + 1 : Nat) : Int) else M x) = some v := fun x v hx => by rw [if_neg (hne x v hx)]; exact hx
  have hcd : (c : Int) ∉ Z ++ (u : Int) :: Q := fun hm => by
    obtain ⟨v, hv⟩ := (h.inv.dom _).2 hm
    rw [hs] at hv; exact absurd hv (by simp)
  have hap : Z ++ (u : Int) :: (Q ++ [(c : Int)]) = (Z ++ (u : Int) :: Q) ++ [(c : Int)] := by simp
  obtain ⟨v, d, e1, e2, hT, hw, _⟩ := h.inv.snd _ _ h.mu
  have e3 : far = d := by omega
  have e4 : u = v := by omega
  subst e3; subst e4
  refine ⟨⟨by rw [hap]; exact h.inv.pts.snoc hcn hcd, fun x => ?_, fun x y hx => ?_, hold _ _ h.inv.st, fun x hx => ?_, ?_, fun v d hv hz => ?_, h.inv.fz⟩, hold _ _ h.mu, fun i hi hm hiT => ?_, fun hm => ?_⟩
  · rw [hap, List.mem_append, ← h.inv.dom, List.mem_singleton]
    constructor
    · rintro ⟨y, hy⟩
      by_cases e : x = (c : Int)
      · exact Or.inr e
      · rw [if_neg e] at hy; exact Or.inl ⟨y, hy⟩
    · rintro (⟨y, hy⟩ | e)
      · exact ⟨y, hold _ _ hy⟩
      · exact ⟨_, by rw [if_pos e]⟩
  · by_cases e : x = (c : Int)
    · rw [if_pos e] at hx
      simp only [Option.some.injEq] at hx
      exact ⟨c, far + 1, e, hx.symm, hcT, ⟨u, hu, hT, hw⟩, Nat.le_refl _⟩
    · rw [if_neg e] at hx; exact h.inv.snd x y hx
  · rcases List.mem_append.1 (show x ∈ ((u : Int) :: Q) ++ [(c : Int)] from hx) with e | e
    · obtain ⟨d2, h1, h2⟩ := h.inv.que x e
      exact ⟨d2, hold _ _ h1, h2⟩
    · rw [List.mem_singleton] at e; subst e
      exact ⟨far + 1, by rw [if_pos rfl], by omega⟩
  · show ((u : Int) :: Q ++ [(c : Int)]).Pairwise _
    rw [List.pairwise_append]
    have hback : ∀ x, x ∈ (u : Int) :: Q → ∀ a, (if x = (c : Int) then some ((far + 1 : Nat) : Int) else M x) = some a → M x = some a := fun x hx a ha => by
      rw [if_neg (fun e => hcd (List.mem_append_right _ (by rw [← e]; exact hx)))] at ha; exact ha
    refine ⟨?_, by simp, fun x hx y hy a b ha hb => ?_⟩
    · have := h.inv.mono
      refine List.Pairwise.imp_of_mem (fun {x y} hx hy hr a b ha hb => hr a b (hback x hx a ha) (hback y hy b hb)) this
    · rw [List.mem_singleton] at hy; subst hy
      rw [if_pos rfl] at hb
      simp only [Option.some.injEq] at hb
      obtain ⟨_, d2, _, e2, _, _, h2⟩ := h.inv.snd _ _ (hback x hx a ha)
      omega
  · have hvm : M (v : Int) = some (d : Int) := by
      rw [if_neg (fun e => hcd (List.mem_append_left _ (by rw [← e]; exact hz)))] at hv; exact hv
    obtain ⟨h1, h2, h3⟩ := h.inv.prc v d hvm hz
    refine ⟨h1, h2, fun i hi hp hiT => ?_⟩
    obtain ⟨d', h4, h5⟩ := h3 i hi hp hiT
    exact ⟨d', hold _ _ h4, h5⟩
  · rcases List.mem_append.1 hm with e | e
    · obtain ⟨d', h4, h5⟩ := h.ch i hi e hiT
      exact ⟨d', hold _ _ h4, h5⟩
    · rw [List.mem_singleton] at e
      exact ⟨far + 1, by rw [if_pos e], Nat.le_refl _⟩
  · rcases List.mem_append.1 hm with e | e
    · exact h.ns e
    · rw [List.mem_singleton] at e; omega
/-- The next one is looked at. -/
theorem BfsI.open (h : BfsI P T s Z ((u : Int) :: Q) M far) (hz : ∀ x c, M x = some c → c ≤ (Z.length : Int)) {d : Nat} (hd : M (u : Int) = some (d : Int)) : BfsK P T s u Z Q [] M d := by
  obtain ⟨d2, h1, h2⟩ := h.que (u : Int) (by simp)
  rw [hd] at h1
  simp only [Option.some.injEq] at h1
  have e : d = d2 := by omega
  subst e
  obtain ⟨_, d3, _, e3, _, _, h3⟩ := h.snd _ _ hd
  have e4 : d = d3 := by omega
  subst e4
  refine ⟨⟨h.pts, h.dom, fun x c hx => ?_, h.st, fun x hx => ?_, h.mono, fun v d' hv hz => ?_, ?_⟩, hd, fun i _ hm => by simp at hm, by simp⟩
  · obtain ⟨v, d', a1, a2, a3, a4, a5⟩ := h.snd x c hx
    exact ⟨v, d', a1, a2, a3, a4, by omega⟩
  · rcases List.mem_cons.1 hx with e | e
    · subst e; exact ⟨d, hd, Nat.le_refl _⟩
    · obtain ⟨d', a1, a2⟩ := h.que x (List.mem_cons_of_mem _ e)
      have := (List.pairwise_cons.1 h.mono).1 x e _ _ hd a1
      exact ⟨d', a1, by omega⟩
  · obtain ⟨a1, a2, a3⟩ := h.prc v d' hv hz
    exact ⟨by omega, a2, a3⟩
  · have := hz _ _ hd; omega
/-- All its children have been gone through. -/
theorem BfsK.done (h : BfsK P T s u Z Q pre M far) (hs : s < P.length) (hall : ∀ i : Nat, i < P.length → (u : Int) ∈ P.getD i [] → (i : Int) ∈ pre) : BfsI P T s (Z ++ [(u : Int)]) Q M far ∧ ∀ x c, M x = some c → c ≤ ((Z ++ [(u : Int)]).length : Int) := by
  have hap : Z ++ [(u : Int)] ++ Q = Z ++ (u : Int) :: Q := by simp
  refine ⟨⟨by rw [hap]; exact h.inv.pts, fun x => by rw [hap]; exact h.inv.dom x, h.inv.snd, h.inv.st, fun x hx => h.inv.que x (List.mem_cons_of_mem _ hx), (List.pairwise_cons.1 h.inv.mono).2, fun v d hv hz => ?_, ?_⟩, fun x c hx => ?_⟩
  · rcases List.mem_append.1 hz with e | e
    · exact h.inv.prc v d hv e
    · rw [List.mem_singleton] at e
      rw [e, h.mu] at hv
      simp only [Option.some.injEq] at hv
      have e2 : v = u := by omega
      subst e2
      have e3 : far = d := by omega
      subst e3
      exact ⟨Nat.le_refl _, fun hm => h.ns (hall s hs hm), fun i hi hp hiT => h.ch i hi (hall i hi hp) hiT⟩
  · rw [List.length_append]; have := h.inv.fz; omega
  · obtain ⟨v, d, _, e2, _, _, e3⟩ := h.inv.snd x c hx
    have := h.inv.fz
    rw [List.length_append, List.length_singleton]; omega
end
end Go.Proofs.YthdpomgpcblpeaaGreat

namespace Go.Proofs.YthdpomgpcblpeaaGreat
set_option linter.unusedVariables false
open Go.RowKit Go.Maps
theorem keyedI : Keyed Tryz.prog 3 := int_keyed Tryz.underlying3
theorem zeroI (w : World) : (zeroValue 3).run Tryz.prog w = .ok (.int .i64 0) w := by kernel_rfl
/-- Block b is a map of at most n entries that tells f. -/
def MpI (w : World) (b n : Nat) (f : Int → Option Int) : Prop :=
  ∃ D : DataW Unit, w.ownsMap Tryz.prog 3 (plainElem Tryz.prog 3) b n D ∧ ∀ x : Int, (f x = none → has D (.int .i64 x) = false) ∧ ∀ c, f x = some c → has D (.int .i64 x) = true ∧ D.atKey (.int .i64 x) (.lit (.int .i64 0)) = .lit (.int .i64 c)
theorem MpI.made (w : World) : MpI (w.alloc (.map #[] 0)) w.heap.size 0 (fun _ => none) :=
  ⟨_, World.ownsMap_made w _ _ _, fun x => ⟨fun _ => rfl, fun c h => by simp at h⟩⟩
theorem MpI.lt {w : World} {b n : Nat} {f : Int → Option Int} (h : MpI w b n f) : b < w.heap.size := by
  obtain ⟨D, hD, _⟩ := h; exact hD.lt
theorem MpI.of_block {w w' : World} {b n : Nat} {f : Int → Option Int} (h : MpI w b n f) (hb : w'.heap[b]? = w.heap[b]?) : MpI w' b n f := by
  obtain ⟨D, ⟨es, clock, h1, h2⟩, h3⟩ := h
  exact ⟨D, ⟨es, clock, hb.trans h1, h2⟩, h3⟩
theorem MpI.mono {w : World} {b n m : Nat} {f : Int → Option Int} (h : MpI w b n f) (hm : n ≤ m) : MpI w b m f := by
  obtain ⟨D, hD, h3⟩ := h; exact ⟨D, hD.mono hm, h3⟩
theorem MpI.congr {w : World} {b n : Nat} {f f' : Int → Option Int} (h : MpI w b n f) (e : ∀ x, f x = f' x) : MpI w b n f' := by
  obtain ⟨D, hD, h3⟩ := h; exact ⟨D, hD, fun x => by rw [← e x]; exact h3 x⟩
/-- A map is no row. -/
theorem MpI.ne {w : World} {b n : Nat} {f : Int → Option Int} (h : MpI w b n f) {q : Nat} {cs : Array Value} {t : Nat} {fr : Nat × Nat} (hq : w.heap[q]? = some (.cells cs t fr)) : b ≠ q := fun e => by
  obtain ⟨D, ⟨es, clock, h1, _⟩, _⟩ := h
  rw [e, hq] at h1
  simp at h1
section
variable {w : World} {ops : Array Oper} {rest : List Oper} {o : Oper} {a : Act} {Q : Exit → Act → World → Prop}
end
/-! A row of the call's own that begins somewhere in its block. -/
def QG (B e : Nat) (w : World) (v : Value) (zs : List Int) : Prop :=
  ∃ g o cap cur, v = .slice (some ⟨g, o, none⟩) zs.length cap ∧ B ≤ g ∧ w.heap[g]? = some (.cells cur e (0, 0)) ∧ zs.length ≤ cap ∧ cap ≤ maxLen ∧ o + cap ≤ cur.size ∧ (cur.toList.drop o).take zs.length = zs.map (Value.int .i64)
section
variable {B e : Nat} {w w' : World} {v : Value} {zs : List Int}
theorem QG.lt (h : QG B e w v zs) : ∀ q, v.ownBlock = some q → B ≤ q ∧ q < w.heap.size := by
  obtain ⟨g, o, cap, cur, rfl, h1, h2, _⟩ := h
  intro q hq
  have e1 : g = q := by simpa [Value.ownBlock] using hq
  subst e1
  exact ⟨h1, (Array.getElem?_eq_some_iff.1 h2).1⟩
theorem QG.of_blocks (h : QG B e w v zs) (hb : ∀ q, v.ownBlock = some q → w'.heap[q]? = w.heap[q]?) : QG B e w' v zs := by
  obtain ⟨g, o, cap, cur, rfl, h1, h2, h3⟩ := h
  exact ⟨g, o, cap, cur, rfl, h1, (hb g rfl).trans h2, h3⟩
theorem QG.blockE (h : QG B e w v zs) {q : Nat} (hq : v.ownBlock = some q) : ∃ cs, w.heap[q]? = some (.cells cs e (0, 0)) := by
  obtain ⟨g, o, cap, cur, rfl, h1, h2, _⟩ := h
  have e1 : g = q := by simpa [Value.ownBlock] using hq
  subst e1; exact ⟨_, h2⟩
theorem QG.one {x : Int} (hB : B ≤ w.heap.size) : QG B e (w.alloc (.cells #[.int .i64 x] e)) (.slice (some ⟨w.heap.size, 0, none⟩) 1 1) [x] :=
  ⟨w.heap.size, 0, 1, _, rfl, hB, heap_alloc_new w _, Nat.le_refl _, by unfold maxLen; omega, Nat.le_refl _, rfl⟩
theorem QG.rg (h : QG B e w v zs) : RG (Value.int .i64) w v zs := by
  obtain ⟨g, o, cap, cur, rfl, h1, h2, h3, h4, h5, h6⟩ := h
  refine ⟨_, cap, rfl, h3, h4, fun e => by simp at e, fun i x hx => ⟨g, o, rfl, ?_⟩⟩
  rw [cell_of_row w g _ _ _ _ h2]
  have hi : i < zs.length := (List.getElem?_eq_some_iff.1 hx).1
  have : ((cur.toList.drop o).take zs.length)[i]? = some (.int .i64 x) := by rw [h6, List.getElem?_map, hx]; rfl
  rw [List.getElem?_take_of_lt hi, List.getElem?_drop] at this
  simpa using this
theorem QG.tail {x : Int} {g o n cap : Nat} (h : QG B e w (.slice (some ⟨g, o, none⟩) n cap) (x :: zs)) : QG B e w (.slice (some ⟨g, o + 1, none⟩) (n - 1) (cap - 1)) zs := by
  obtain ⟨g', o', cap', cur, e1, h1, h2, h3, h4, h5, h6⟩ := h
  simp only [Value.slice.injEq, Option.some.injEq, Addr.mk.injEq, and_true] at e1
  obtain ⟨⟨rfl, rfl⟩, rfl, rfl⟩ := e1
  rw [List.length_cons] at h3 h6
  refine ⟨g, o + 1, cap - 1, cur, by simp, h1, h2, by omega, by omega, by omega, ?_⟩
  have hd : cur.toList.drop o = cur.toList.drop o := rfl
  rcases hc : cur.toList.drop o with _ | ⟨y, ys⟩
  · rw [hc] at h6; simp at h6
  · rw [hc] at h6
    simp only [List.take_succ_cons, List.map_cons, List.cons.injEq] at h6
    have : cur.toList.drop (o + 1) = ys := by rw [← List.drop_drop, hc]; rfl
    rw [this]; exact h6.2
theorem QG.tail0 {x : Int} {g o n : Nat} (h : QG B e w (.slice (some ⟨g, o, none⟩) n 1) (x :: zs)) : QG B e w (.slice (some ⟨g, o, none⟩) (n - 1) 0) zs := by
  obtain ⟨g', o', cap', cur, e1, h1, h2, h3, h4, h5, h6⟩ := h
  simp only [Value.slice.injEq, Option.some.injEq, Addr.mk.injEq, and_true] at e1
  obtain ⟨⟨rfl, rfl⟩, rfl, rfl⟩ := e1
  rw [List.length_cons] at h3
  have hz : zs = [] := List.eq_nil_of_length_eq_zero (by omega)
  subst hz
  exact ⟨g, o, 0, cur, by simp, h1, h2, by simp, by simp, by omega, by simp⟩
end
theorem run_append_at {P : Program} (w : World) (t ty e : TypeId) (i : TypeInfo) (ht : P.underlying t = some (.slice e)) (hi : P.info? e = some i) (h1 : i.size = 1)
    (g o sLen sCap : Nat) (cur : Array Value) (hg : w.heap[g]? = some (.cells cur e (0, 0))) (gb : Nat) (u : Value) (hb : w.cell? ⟨gb, 0, none⟩ = some u) (hu : u.oneCell' = true)
    (hroom : sLen + 1 ≤ sCap) (hfit : o + sLen + 1 ≤ cur.size) :
    (Builtin.append_ #[t, t] ty #[.slice (some ⟨g, o, none⟩) sLen sCap, .slice (some ⟨gb, 0, none⟩) 1 1]).run P w =
      .ok (.slice (some ⟨g, o, none⟩) (sLen + 1) sCap) (w.setRow g (cur.toList.take (o + sLen) ++ [u] ++ cur.toList.drop (o + sLen + 1)).toArray) := by
  have hf := run_firstCells_some (P := P) w i.size 1 ⟨gb, 0, none⟩ 1 1 [u] (by simp [h1]) (fun j x hj => by
    match j, hj with
    | 0, hj => simp at hj; subst hj; rw [Addr.add_lit, Nat.add_zero]; exact hb)
  have hst := run_storeCells_at P g (o + sLen) e [u] 0 cur w hg (by simpa using hfit) (by simpa using hu)
  simp only [Nat.add_zero, List.length_singleton] at hst
  rw [h1] at hf
  simp at hst
  simp [Builtin.append_, run_underlying ht, sizeOf, typeInfo, hi, Builtin.lenOf, hroom, hf, Addr.add_lit, h1, hst]
/-- An append of one number to such a row: it stays, or moves to the end. -/
theorem wpList_pushQ {P : Program} {w : World} {ops : Array Oper} {rest : List Oper} {o : Oper} {a : Act} {Q : Exit → Act → World → Prop} (hg : o.guard = none) (s x : Operand) (t : TypeId) (hop : o.op = .call { callee := .builtin .append, args := #[s, x], argTypes := #[t, t] })
    (B : Nat) (e : TypeId) (i : TypeInfo) (h1 : P.underlying t = some (.slice e)) (h2 : P.info? e = some i) (h3 : i.zero = some (.int .i64 0)) (h4 : i.size = 1) (h5 : i.bytes = 8)
    (v : Value) (L : List Int) (hs : a.eval s = v) (hown : QG B e w v L) (gb : Nat) (z : Int) (hx : a.eval x = .slice (some ⟨gb, 0, none⟩) 1 1) (cb : w.cell? ⟨gb, 0, none⟩ = some (.int .i64 z)) (hl : L.length ≤ 1000000) (hB : B ≤ w.heap.size)
    (hK : ∀ ng no nn nc w', QG B e w' (.slice (some ⟨ng, no, none⟩) nn nc) (L ++ [z]) → w.grownBy w' v.ownBlock → (v.ownBlock = some ng ∨ ng = w.heap.size) → wpList P ops Q rest (a.put o.dst (.slice (some ⟨ng, no, none⟩) nn nc)) w') : wpList P ops Q (o :: rest) a w := by
  refine wpList_plain hg fun K hK' => ?_
  obtain ⟨g, off, cap, cur, rfl, hb1, hb2, hb3, hb4, hb5, hb6⟩ := hown
  have fin : ∀ ng no nn nc w', (Builtin.append_ #[t, t] o.type #[.slice (some ⟨g, off, none⟩) L.length cap, .slice (some ⟨gb, 0, none⟩) 1 1]).run P w = .ok (.slice (some ⟨ng, no, none⟩) nn nc) w' → QG B e w' (.slice (some ⟨ng, no, none⟩) nn nc) (L ++ [z]) → w.grownBy w' (some g) → (ng = g ∨ ng = w.heap.size) → o.wp P a w K Q := by
    intro ng no nn nc w' hr h2 h3 h4
    unfold Oper.wp execOp
    simp only [hop, resolve, invoke, builtin, Sem.run_bind, Sem.run_pure, Result.andThen_ok, List.map_toArray, List.map_cons, List.map_nil, hs, hx, hr]
    exact hK' _ _ (hK ng no nn nc w' h2 h3 (h4.imp (fun e => by rw [e]; rfl) id))
  have hcm : ∀ u ∈ [Value.int .i64 z], u.oneCell' = true := by intro u hu; simp at hu; subst hu; rfl
  by_cases hroom : L.length + 1 ≤ cap
  · have hr := run_append_at (P := P) w t o.type e i h1 h2 h4 g off L.length cap cur hb2 gb _ cb rfl hroom (by omega)
    refine fin _ _ _ _ _ hr ⟨g, off, cap, _, by simp, hb1, setRow_heap w g cur _ e _ hb2, by simpa using hroom, hb4, ?_, ?_⟩ ⟨rfl, rfl, rfl, by simp, fun k _ hk => setRow_other w g k _ (fun e => hk (by rw [e]))⟩ (Or.inl rfl)
    · simp only [List.size_toArray, List.length_append, List.length_take, List.length_drop, Array.length_toList, List.length_singleton]
      omega
    · have hcl : off + cap ≤ cur.toList.length := by rw [Array.length_toList]; exact hb5
      have e1 : cur.toList.take (off + L.length) = cur.toList.take off ++ L.map (Value.int .i64) := by rw [List.take_add, hb6]
      have hl2 : (cur.toList.take off).length = off := by rw [List.length_take]; omega
      show (List.drop off (cur.toList.take (off + L.length) ++ [Value.int .i64 z] ++ cur.toList.drop (off + L.length + 1))).take (L ++ [z]).length = _
      rw [e1, List.append_assoc, List.append_assoc, List.drop_append_of_le_length (by rw [hl2]; exact Nat.le_refl _), List.drop_eq_nil_of_le (by rw [hl2]; exact Nat.le_refl _), List.nil_append, ← List.append_assoc, List.map_append]
      exact List.take_left' (by simp)
  · have holds : ∀ j u, (L.map (Value.int .i64))[j]? = some u → w.cell? ((⟨g, off, none⟩ : Addr).add j) = some u := fun j u hj => by
      have hq : QG B e w (.slice (some ⟨g, off, none⟩) L.length cap) L := ⟨g, off, cap, cur, rfl, hb1, hb2, hb3, hb4, hb5, hb6⟩
      rw [List.getElem?_map] at hj
      cases hj2 : L[j]? with
      | none => rw [hj2] at hj; simp at hj
      | some y =>
        rw [hj2] at hj; simp at hj; subst hj
        obtain ⟨ao, c2, e1, _, _, _, hc⟩ := hq.rg
        obtain ⟨g2, o2, e2, e3⟩ := hc j y hj2
        simp only [Value.slice.injEq] at e1
        rw [← e1.1] at e2
        simp only [Option.some.injEq, Addr.mk.injEq, and_true] at e2
        obtain ⟨rfl, rfl⟩ := e2
        rw [Addr.add_lit]; exact e3
    have hr := run_append_grow (P := P) w t o.type e i (.int .i64 0) h1 h2 h3 ⟨g, off, none⟩ L.length cap (L.map (Value.int .i64)) (by simp [h4]) holds ⟨gb, 0, none⟩ 1 1 [.int .i64 z] (by simp [h4]) (fun j u hj => by
      match j, hj with
      | 0, hj => simp at hj; subst hj; rw [Addr.add_lit, Nat.add_zero]; exact cb) (by omega) (by omega) (growslice_fits (by omega) (by rw [h5]; omega))
    have hge := grownCap_ge w (L.length + 1) cap e
    have hcm2 : grownCap w (L.length + 1) cap e ≤ maxLen := grownCap_le_maxLen w (L.length + 1) cap e (by unfold maxLen; omega)
    refine fin _ _ _ _ _ hr ⟨w.heap.size, 0, _, _, by simp, hB, heap_alloc_new w.drew _, by simpa using hge, hcm2, ?_, ?_⟩ ⟨rfl, rfl, rfl, by simp, fun k hk _ => (heap_alloc_old w.drew _ hk)⟩ (Or.inr rfl)
    · simp only [Array.size_append, List.size_toArray, size_zeroCells, List.length_map, List.length_singleton]
      rw [show (Value.int .i64 0).cells.size = 1 from rfl, Nat.mul_one]
      omega
    · simp only [Array.toList_append, List.append_assoc, List.drop_zero, List.map_append]
      rw [← List.append_assoc]
      exact List.take_left' (by simp)
end Go.Proofs.YthdpomgpcblpeaaGreat

/-
  Proved here: plain mathematics of the document's Tells: sweeps that put in what is joined come to just what a way in the moral graph leads to.
  Proved here: the points of a kind, rising, as a list is gone on with; a row of rows read at two places.
  Proved here: the document's joined: are two points joined in the moral graph of some points?
-/
import Derived.Test.YthdpomgpcblpeaaGreatMoMAll
namespace Go.Proofs.YthdpomgpcblpeaaGreat
set_option linter.unusedVariables false
open Go.RowKit Go.Shelf Go.Sort Go.Lib
/-- Are two points joined, where children are some points alone? -/
def jnB (P : List (List Int)) (f : Nat → Bool) (a b : Nat) : Bool := decide ((b : Int) ∈ P.getD a []) || decide ((a : Int) ∈ P.getD b []) || (List.range P.length).any fun c => f c && decide ((a : Int) ∈ P.getD c []) && decide ((b : Int) ∈ P.getD c [])
theorem jnB_mor {P : List (List Int)} {f : Nat → Bool} {a b : Nat} {X : Int → Prop} (hX : ∀ c : Nat, c < P.length → (f c = true ↔ X (c : Int))) : jnB P f a b = true ↔ MorJ P X (a : Int) (b : Int) := by
  unfold jnB MorJ
  rw [Bool.or_eq_true, Bool.or_eq_true, decide_eq_true_iff, decide_eq_true_iff, List.any_eq_true, Int.toNat_natCast, Int.toNat_natCast]
  constructor
  · rintro ((h | h) | ⟨c, hc, h⟩)
    · exact Or.inr (Or.inl h)
    · exact Or.inl h
    · rw [Bool.and_eq_true, Bool.and_eq_true, decide_eq_true_iff, decide_eq_true_iff] at h
      exact Or.inr (Or.inr ⟨c, (hX c (List.mem_range.1 hc)).1 h.1.1, h.1.2, h.2⟩)
  · rintro (h | h | ⟨c, h1, h2, h3⟩)
    · exact Or.inl (Or.inr h)
    · exact Or.inl (Or.inl h)
    · have hc := at_ltM h2
      refine Or.inr ⟨c, List.mem_range.2 hc, ?_⟩
      rw [Bool.and_eq_true, Bool.and_eq_true, decide_eq_true_iff, decide_eq_true_iff]
      exact ⟨⟨(hX c hc).2 h1, h2⟩, h3⟩
/-- May a point be put in by another one? -/
def elB (P : List (List Int)) (f : Nat → Bool) (G : List Int) (a b : Nat) : Bool := f b && !decide ((b : Int) ∈ G) && jnB P f a b
/-- What sweeps come to. -/
inductive RhE (E : Nat → Nat → Bool) (n r : Nat) : Nat → Prop
  | start : RhE E n r r
  | step {u v : Nat} : RhE E n r u → u < n → v < n → E u v = true → RhE E n r v
/-- How many are not come to. -/
def usn (f : Nat → Bool) : Nat → Nat
  | 0 => 0
  | n + 1 => usn f n + if f n = true then 0 else 1
theorem usn_le (f : Nat → Bool) : ∀ n, usn f n ≤ n
  | 0 => Nat.le_refl _
  | n + 1 => by have := usn_le f n; unfold usn; split <;> omega
theorem usn_mono {f g : Nat → Bool} : ∀ n, (∀ v, v < n → f v = true → g v = true) → usn g n ≤ usn f n
  | 0, _ => Nat.le_refl _
  | n + 1, h => by
    have h1 := usn_mono n fun v hv => h v (by omega)
    have h2 := h n (by omega)
    unfold usn
    cases e : f n with
    | true => rw [h2 e]; simpa using h1
    | false => cases g n <;> simp <;> omega
theorem usn_lt {f g : Nat → Bool} {b : Nat} (h0 : f b = false) (h1 : g b = true) : ∀ n, b < n → (∀ v, v < n → f v = true → g v = true) → usn g n + 1 ≤ usn f n
  | n + 1, hb, h => by
    by_cases e : b = n
    · subst e
      have h2 := usn_mono b fun v hv => h v (by omega)
      unfold usn
      rw [h0, h1]; simpa using h2
    · have h2 := usn_lt h0 h1 n (by omega) fun v hv => h v (by omega)
      have h3 := h n (by omega)
      unfold usn
      cases e : f n with
      | true => rw [h3 e]; simpa using h2
      | false => cases g n <;> simp <;> omega
theorem usn_one {f : Nat → Bool} {b : Nat} (h1 : f b = true) {n : Nat} (hb : b < n) : usn f n + 1 ≤ n := by
  have h := usn_lt (f := fun _ => false) (g := f) rfl h1 n hb (fun _ _ h => by simp at h)
  have := usn_le (fun _ => false) n
  omega
def fuS (f : Nat → Bool) (v : Nat) : Nat → Bool := fun u => if u = v then true else f u
theorem fuS_le {f : Nat → Bool} {v u : Nat} (h : f u = true) : fuS f v u = true := by unfold fuS; split <;> simp [h]
theorem fuS_at (f : Nat → Bool) (v : Nat) : fuS f v v = true := by simp [fuS]
theorem fuS_or {f : Nat → Bool} {v u : Nat} (h : fuS f v u = true) : u = v ∨ f u = true := by
  unfold fuS at h
  by_cases e : u = v
  · exact Or.inl e
  · rw [if_neg e] at h; exact Or.inr h
/-- Nothing more is put in. -/
def ClE (E : Nat → Nat → Bool) (n : Nat) (f : Nat → Bool) : Prop := ∀ x y, x < n → y < n → f x = true → E x y = true → f y = true
/-- A sweep, at a place. -/
structure SwI (E : Nat → Nat → Bool) (n r : Nat) (f0 f : Nat → Bool) (a k : Nat) : Prop where
  le : ∀ v, f0 v = true → f v = true
  snd : ∀ v, v < n → f v = true → RhE E n r v
  don : ∀ x y, x < n → y < n → (x < a ∨ (x = a ∧ y < k)) → f0 x = true → E x y = true → f y = true
  same : ClE E n f0 → ∀ v, v < n → f v = true → f0 v = true
/-- Between sweeps. -/
structure TeI (E : Nat → Nat → Bool) (n r k : Nat) (f : Nat → Bool) : Prop where
  one : f r = true
  snd : ∀ v, v < n → f v = true → RhE E n r v
  cls : ClE E n f ∨ usn f n + k + 1 ≤ n
theorem TeI.start {E : Nat → Nat → Bool} {n r : Nat} (hr : r < n) {f : Nat → Bool} (h1 : f r = true) (h : ∀ v, f v = true → v = r) : TeI E n r 0 f :=
  ⟨h1, fun v _ hv => by rw [h v hv]; exact RhE.start, Or.inr (by have := usn_one h1 hr; omega)⟩
theorem TeI.sweep {E : Nat → Nat → Bool} {n r k : Nat} {f : Nat → Bool} (h : TeI E n r k f) : SwI E n r f f 0 0 :=
  ⟨fun _ h => h, h.snd, fun x y _ _ h => by omega, fun _ _ _ h => h⟩
theorem SwI.skipRow {E : Nat → Nat → Bool} {n r a k : Nat} {f0 f : Nat → Bool} (h : SwI E n r f0 f a k) (hf : f a = false) : SwI E n r f0 f (a + 1) 0 :=
  ⟨h.le, h.snd, fun x y hx hy hd h0 hE => by
    by_cases e : x = a
    · subst e; rw [h.le x h0] at hf; simp at hf
    · exact h.don x y hx hy (Or.inl (by omega)) h0 hE, h.same⟩
theorem SwI.rowEnd {E : Nat → Nat → Bool} {n r a : Nat} {f0 f : Nat → Bool} (h : SwI E n r f0 f a n) : SwI E n r f0 f (a + 1) 0 :=
  ⟨h.le, h.snd, fun x y hx hy hd h0 hE => h.don x y hx hy (by omega) h0 hE, h.same⟩
theorem SwI.skip {E : Nat → Nat → Bool} {n r a k : Nat} {f0 f : Nat → Bool} (h : SwI E n r f0 f a k) (hs : E a k = true → f k = true) : SwI E n r f0 f a (k + 1) :=
  ⟨h.le, h.snd, fun x y hx hy hd h0 hE => by
    by_cases e : x = a ∧ y = k
    · obtain ⟨rfl, rfl⟩ := e; exact hs hE
    · exact h.don x y hx hy (by omega) h0 hE, h.same⟩
theorem SwI.put {E : Nat → Nat → Bool} {n r a k : Nat} {f0 f : Nat → Bool} (h : SwI E n r f0 f a k) (ha : a < n) (hk : k < n) (hf : f a = true) (hE : E a k = true) (hn : f k = false) : SwI E n r f0 (fuS f k) a (k + 1) :=
  ⟨fun v hv => fuS_le (h.le v hv), fun v hv hf2 => by
    rcases fuS_or hf2 with rfl | h2
    · exact RhE.step (h.snd a ha hf) ha hk hE
    · exact h.snd v hv h2, fun x y hx hy hd h0 hE2 => by
    by_cases e : y = k
    · subst e; exact fuS_at _ _
    · exact fuS_le (h.don x y hx hy (by omega) h0 hE2), fun hc v hv hf2 => by
    rcases fuS_or hf2 with rfl | h2
    · have h3 := h.same hc a ha hf
      have h4 := hc a v ha hk h3 hE
      rw [h.le v h4] at hn; simp at hn
    · exact h.same hc v hv h2⟩
theorem TeI.next {E : Nat → Nat → Bool} {n r k : Nat} {f0 f : Nat → Bool} (h : TeI E n r k f0) (hs : SwI E n r f0 f n 0) : TeI E n r (k + 1) f := by
  refine ⟨hs.le _ h.one, hs.snd, ?_⟩
  by_cases hc : ClE E n f0
  · refine Or.inl fun x y hx hy hf hE => hs.le y (hc x y hx hy (hs.same hc x hx hf) hE)
  · refine Or.inr ?_
    have h1 := h.cls.resolve_left hc
    unfold ClE at hc
    rw [Classical.not_forall] at hc
    obtain ⟨x, hc⟩ := hc
    rw [Classical.not_forall] at hc
    obtain ⟨y, hc⟩ := hc
    rw [Classical.not_imp, Classical.not_imp, Classical.not_imp, Classical.not_imp] at hc
    obtain ⟨hx, hy, h0, hE, h2⟩ := hc
    have h3 := hs.don x y hx hy (Or.inl hx) h0 hE
    have h4 := usn_lt (by simpa using h2) h3 n hy fun v _ => hs.le v
    omega
theorem TeI.done {E : Nat → Nat → Bool} {n r : Nat} {f : Nat → Bool} (h : TeI E n r n f) (v : Nat) (hv : v < n) : f v = true ↔ RhE E n r v := by
  have hc : ClE E n f := h.cls.resolve_right (by omega)
  refine ⟨h.snd v hv, fun hr => ?_⟩
  induction hr with
  | start => exact h.one
  | step hu hun hvn hE ih => exact hc _ _ hun hvn (ih hun) hE
/-- What the document's Tells answers is what steps tell. -/
theorem tells_iff {Q : List (List Int)} {r : Nat} {o G : List Int} {inn f : Nat → Bool} (hck : ckE Q = 0) (hr : r < Q.length) (ho : noPts (Q.length : Int) o = false) (hG : noPts (Q.length : Int) G = false) (hrG : (r : Int) ∉ G)
    (hin : ∀ c : Nat, c < Q.length → (inn c = true ↔ RchP Q ([(r : Int)] ++ o ++ G) (c : Int))) (hf : ∀ v, v < Q.length → (f v = true ↔ RhE (elB Q inn G) Q.length r v)) : (∃ y ∈ o, f y.toNat = true) ↔ ∃ y ∈ o, TelM Q G (r : Int) y := by
  have hP := outs_no (cl_zero (ck_zero hck)).1
  obtain ⟨A, hA⟩ := abv_ex hP hG
  have hall : noPts (Q.length : Int) ([(r : Int)] ++ o ++ G) = false := by
    unfold noPts at ho hG ⊢
    rw [List.any_append, List.any_append, ho, hG]
    simp [noPt]; omega
  have h1 : (∃ y ∈ o, TelM Q G (r : Int) y) ↔ ∃ x ∈ [(r : Int)], ∃ y ∈ o, TelP Q Q.length G A [x] y := by
    simp only [List.mem_singleton, exists_eq_left]
    exact exists_congr fun y => and_congr_right fun _ => tel_m hA
  rw [h1, moral_iff hP (fun x hx => ⟨r, List.mem_singleton.1 hx, hr⟩) (noPts_pt ho) hA]
  have hXr : RchP Q ([(r : Int)] ++ o ++ G) (r : Int) := ⟨_, by simp, 0, rfl⟩
  have snd : ∀ v, RhE (elB Q inn G) Q.length r v → MorR Q (RchP Q ([(r : Int)] ++ o ++ G)) G (r : Int) (v : Int) := fun v hv => by
    induction hv with
    | start => exact MorR.refl hXr hrG
    | step hu hun hvn hE ih =>
      unfold elB at hE
      rw [Bool.and_eq_true, Bool.and_eq_true] at hE
      exact ih.snoc ((jnB_mor hin).1 hE.2) ((hin _ hvn).1 hE.1.1) (by simpa using hE.1.2)
  constructor
  · rintro ⟨y, hy, hfy⟩
    obtain ⟨p, rfl, hp⟩ := noPts_pt ho y hy
    rw [Int.toNat_natCast] at hfy
    exact ⟨_, List.mem_singleton.2 rfl, _, hy, snd p ((hf p hp).1 hfy)⟩
  · rintro ⟨x, hx, y, hy, hm⟩
    obtain rfl := List.mem_singleton.1 hx
    have key := hm.closed (S := fun z => ∃ k : Nat, z = (k : Int) ∧ k < Q.length ∧ RhE (elB Q inn G) Q.length r k) (fun u w hu hj hw hwg => by
      obtain ⟨k, rfl, hk, hrk⟩ := hu
      obtain ⟨q, rfl, hq⟩ := rch_pt hP rfl hall hw
      refine ⟨q, rfl, hq, RhE.step hrk hk hq ?_⟩
      unfold elB
      rw [Bool.and_eq_true, Bool.and_eq_true]
      exact ⟨⟨(hin q hq).2 hw, by simpa using hwg⟩, (jnB_mor hin).2 hj⟩) ⟨r, rfl, hr, RhE.start⟩
    obtain ⟨k, rfl, hk, hrk⟩ := key
    exact ⟨_, hy, by rw [Int.toNat_natCast]; exact (hf k hk).2 hrk⟩
end Go.Proofs.YthdpomgpcblpeaaGreat

namespace Go.Proofs.YthdpomgpcblpeaaGreat
set_option linter.unusedVariables false
open Go.RowKit Go.Shelf Go.Sort Go.Lib
/-- The points of a kind below a number, rising. -/
structure UpI (n : Nat) (Q : Int → Prop) (L : List Int) : Prop where
  rise : Rise L
  mem : ∀ x, x ∈ L ↔ ∃ k : Nat, x = (k : Int) ∧ k < n ∧ Q (k : Int)
theorem UpI.nil (Q : Int → Prop) : UpI 0 Q [] := ⟨List.Pairwise.nil, fun x => by simp⟩
theorem UpI.yes {n : Nat} {Q : Int → Prop} {L : List Int} (h : UpI n Q L) (hq : Q (n : Int)) : UpI (n + 1) Q (L ++ [(n : Int)]) := by
  refine ⟨List.pairwise_append.2 ⟨h.rise, List.pairwise_singleton _ _, fun x hx y hy => ?_⟩, fun x => ?_⟩
  · obtain ⟨k, rfl, hk, _⟩ := (h.mem x).1 hx
    rw [List.mem_singleton.1 hy]; omega
  · rw [List.mem_append, List.mem_singleton, h.mem]
    constructor
    · rintro (⟨k, e, hk, hq2⟩ | e)
      · exact ⟨k, e, by omega, hq2⟩
      · exact ⟨n, e, by omega, hq⟩
    · rintro ⟨k, e, hk, hq2⟩
      by_cases e2 : k = n
      · subst e2; exact Or.inr e
      · exact Or.inl ⟨k, e, by omega, hq2⟩
theorem UpI.no {n : Nat} {Q : Int → Prop} {L : List Int} (h : UpI n Q L) (hq : ¬ Q (n : Int)) : UpI (n + 1) Q L := by
  refine ⟨h.rise, fun x => ?_⟩
  rw [h.mem]
  constructor
  · rintro ⟨k, e, hk, hq2⟩; exact ⟨k, e, by omega, hq2⟩
  · rintro ⟨k, e, hk, hq2⟩
    by_cases e2 : k = n
    · subst e2; exact absurd hq2 hq
    · exact ⟨k, e, by omega, hq2⟩
theorem UpI.len {n : Nat} {Q : Int → Prop} {L : List Int} (h : UpI n Q L) : L.length ≤ n := by
  have h1 := subs_len (L := L) (M := (List.range n).map Int.ofNat) (h.rise.imp (fun {a b} (h : a < b) (e : a = b) => by omega)) (fun x hx => by
    obtain ⟨k, rfl, hk, _⟩ := (h.mem x).1 hx
    exact List.mem_map.2 ⟨k, List.mem_range.2 hk, rfl⟩)
  simpa using h1
theorem RRD.rowAt {w : World} {gp op pn pc : Nat} {pvs : List Value} {P : List (List Int)} (h : RRD w (.slice (some ⟨gp, op, none⟩) pn pc) pvs P) {i : Nat} (hi : i < pn) : ∃ (xo : Option Addr) (xn xc : Nat), w.cell? ⟨gp, op + i, none⟩ = some (.slice xo xn xc) ∧ RG (Value.int .i64) w (.slice xo xn xc) (P.getD i []) := by
  obtain ⟨x, g, o, h1, h2, h3⟩ := h.out.at hi
  simp only [Option.some.injEq, Addr.mk.injEq, and_true] at h2
  obtain ⟨rfl, rfl⟩ := h2
  have hxr := h.inn i x h1
  obtain ⟨xo, xn, xc, rfl⟩ : ∃ o n c, x = .slice o n c := by obtain ⟨ao, cap, e⟩ := hxr.sl; exact ⟨_, _, _, e⟩
  exact ⟨xo, xn, xc, h3, hxr⟩
theorem RG.bit {w : World} {g o n c : Nat} {f : Nat → Bool} (h : RG Value.bool w (.slice (some ⟨g, o, none⟩) n c) (rowB n f)) {i : Nat} (hi : i < n) : w.cell? ⟨g, o + i, none⟩ = some (.bool (f i)) := by
  obtain ⟨x, g', o', h1, h2, h3⟩ := h.at hi
  simp only [Option.some.injEq, Addr.mk.injEq, and_true] at h2
  obtain ⟨rfl, rfl⟩ := h2
  rw [rowB_get hi] at h1
  rw [h3, ← Option.some.inj h1]
end Go.Proofs.YthdpomgpcblpeaaGreat

namespace Go.Proofs.YthdpomgpcblpeaaGreat
set_option linter.unusedVariables false
open Go.RowKit Go.Shelf Go.Sort Go.Lib
theorem jn_one {P : List (List Int)} {f : Nat → Bool} {a b : Nat} (h : (b : Int) ∈ P.getD a []) : jnB P f a b = true := by unfold jnB; rw [decide_eq_true h]; rfl
theorem jn_two {P : List (List Int)} {f : Nat → Bool} {a b : Nat} (h : (a : Int) ∈ P.getD b []) : jnB P f a b = true := by unfold jnB; rw [decide_eq_true h]; simp
theorem jn_some {P : List (List Int)} {f : Nat → Bool} {a b c : Nat} (hc : c < P.length) (h0 : f c = true) (h1 : (a : Int) ∈ P.getD c []) (h2 : (b : Int) ∈ P.getD c []) : jnB P f a b = true := by
  unfold jnB
  rw [Bool.or_eq_true, List.any_eq_true]
  exact Or.inr ⟨c, List.mem_range.2 hc, by rw [h0, decide_eq_true h1, decide_eq_true h2]; rfl⟩
theorem jn_no {P : List (List Int)} {f : Nat → Bool} {a b : Nat} (h1 : (b : Int) ∉ P.getD a []) (h2 : (a : Int) ∉ P.getD b []) (h : ∀ c, c < P.length → f c = true → (a : Int) ∈ P.getD c [] → (b : Int) ∉ P.getD c []) : jnB P f a b = false := by
  unfold jnB
  rw [decide_eq_false h1, decide_eq_false h2, Bool.false_or, Bool.false_or, List.any_eq_false]
  intro c hc h3
  rw [Bool.and_eq_true, Bool.and_eq_true, decide_eq_true_iff, decide_eq_true_iff] at h3
  exact h c (List.mem_range.1 hc) h3.1.1 h3.1.2 h3.2
set_option maxRecDepth 1000000 in
set_option maxHeartbeats 6400000 in
theorem joined17 (gp op pc gi ic n : Nat) (pvs : List Value) (P : List (List Int)) (f : Nat → Bool) (a b : Nat) (w : World) (h : RRD w (.slice (some ⟨gp, op, none⟩) n pc) pvs P) (hn : P.length = n) (hm : n ≤ 100000) (hi : RG Value.bool w (.slice (some ⟨gi, 0, none⟩) n ic) (rowB n f)) (ha : a < n) (hb : b < n) :
    Calls Tryz.prog 44 #[.slice (some ⟨gp, op, none⟩) n pc, .slice (some ⟨gi, 0, none⟩) n ic, .int .i64 (a : Int), .int .i64 (b : Int)] w fun e w' => e = .returned (.bool (jnB P f a b)) ∧ w' = w := by
  obtain ⟨xo, xn, xc, ca, hxa⟩ := h.rowAt ha
  obtain ⟨yo, yn, yc, cb, hxb⟩ := h.rowAt hb
  have haz : (a : Int) < (n : Int) := by omega
  have hbz : (b : Int) < (n : Int) := by omega
  have CA : Hid _ := hasD (.slice xo xn xc) (P.getD a []) (b : Int) w hxa
  have CB : Hid _ := hasD (.slice yo yn yc) (P.getD b []) (a : Int) w hxb
  obtain ⟨p, hp⟩ : ∃ p, p = decide ((b : Int) ∈ P.getD a []) := ⟨_, rfl⟩
  obtain ⟨q, hq⟩ : ∃ q, q = decide ((a : Int) ∈ P.getD b []) := ⟨_, rfl⟩
  rw [← hp] at CA
  rw [← hq] at CB
  have HR : Hid (RRD w (.slice (some ⟨gp, op, none⟩) n pc) pvs P) := h
  have HI : Hid (RG Value.bool w (.slice (some ⟨gi, 0, none⟩) n ic) (rowB n f)) := hi
  have HN : Hid (P.length = n) := hn
  have HP : Hid (p = decide ((b : Int) ∈ P.getD a [])) := hp
  have HQ : Hid (q = decide ((a : Int) ∈ P.getD b [])) := hq
  clear h hn hi hxa hxb hp hq
  go_enter Tryz.func44, Tryz.ntmps44
  go_wp2_with fail
  refine Calls.mono CA.out ?_
  rintro e y ⟨rfl, hy⟩
  rw [hy]
  clear CA hy y
  cases p with
  | true =>
    have HE : Hid (jnB P f a b = true) := jn_one (of_decide_eq_true HP.out.symm)
    clear CB HP HQ
    go_wp2
    go_ret
    exact ⟨by rw [HE.out]; rfl, rfl⟩
  | false =>
    have H1 : Hid ((b : Int) ∉ P.getD a []) := of_decide_eq_false HP.out.symm
    clear HP
    go_wp2_with fail
    refine Calls.mono CB.out ?_
    rintro e y ⟨rfl, hy⟩
    rw [hy]
    clear CB hy y
    cases q with
    | true =>
      have HE : Hid (jnB P f a b = true) := jn_two (of_decide_eq_true HQ.out.symm)
      clear HQ H1
      go_wp2
      go_ret
      exact ⟨by rw [HE.out]; rfl, rfl⟩
    | false =>
      have H2 : Hid ((a : Int) ∉ P.getD b []) := of_decide_eq_false HQ.out.symm
      clear HQ
      clear ca cb haz hbz
      go_wp2
      go_loopg [9] n (fun g1 v9 wr => ∃ c : Nat, v9 = .int .i64 c ∧ c ≤ n ∧ n - c ≤ g1 ∧ Hid (∀ d, d < c → f d = true → (a : Int) ∈ P.getD d [] → (b : Int) ∉ P.getD d []) ∧ wr = w)
      case atStart => exact ⟨0, rfl, Nat.zero_le _, by omega, fun d hd => by omega, rfl⟩
      case round =>
        obtain ⟨c, rfl, hcn, hg1, HA, rfl⟩ := hrel
        by_cases hlt : c < n
        · have hltz : (c : Int) < (n : Int) := by omega
          obtain ⟨zo, zn, zc, cc, hz⟩ := HR.out.rowAt hlt
          have ci := HI.out.bit hlt
          rw [Nat.zero_add] at ci
          obtain ⟨t, ht⟩ : ∃ t, t = f c := ⟨_, rfl⟩
          rw [← ht] at ci
          have HT : Hid (t = f c) := ht
          have CA : Hid _ := hasD (.slice zo zn zc) (P.getD c []) (a : Int) wr hz
          have CB : Hid _ := hasD (.slice zo zn zc) (P.getD c []) (b : Int) wr hz
          obtain ⟨p, hp⟩ : ∃ p, p = decide ((a : Int) ∈ P.getD c []) := ⟨_, rfl⟩
          obtain ⟨q, hq⟩ : ∃ q, q = decide ((b : Int) ∈ P.getD c []) := ⟨_, rfl⟩
          rw [← hp] at CA
          rw [← hq] at CB
          have HP : Hid (p = decide ((a : Int) ∈ P.getD c [])) := hp
          have HQ : Hid (q = decide ((b : Int) ∈ P.getD c [])) := hq
          have HS : Hid ((t = false ∨ p = false ∨ q = false) → ∀ d, d < c + 1 → f d = true → (a : Int) ∈ P.getD d [] → (b : Int) ∉ P.getD d []) := fun h d hd h1 h2 h3 => by
            by_cases e : d = c
            · subst e
              rcases h with h | h | h
              · rw [HT.out, h1] at h; simp at h
              · rw [HP.out, decide_eq_true h2] at h; simp at h
              · rw [HQ.out, decide_eq_true h3] at h; simp at h
            · exact HA.out d (by omega) h1 h2 h3
          clear ht hz hp hq
          cases t with
          | false =>
            have HA2 : Hid (∀ d, d < c + 1 → f d = true → (a : Int) ∈ P.getD d [] → (b : Int) ∉ P.getD d []) := HS.out (Or.inl rfl)
            clear HS HA HT HP HQ CA CB
            go_wp2
            clear cc ci
            go_roundg (n - (c + 1))
            case measure => omega
            case rel => exact ⟨c + 1, by first | rfl | go_num, by omega, Nat.le_refl _, HA2, rfl⟩
          | true =>
            go_wp2_with fail
            refine Calls.mono CA.out ?_
            rintro e y ⟨rfl, hy⟩
            rw [hy]
            clear CA hy y
            cases p with
            | false =>
              have HA2 : Hid (∀ d, d < c + 1 → f d = true → (a : Int) ∈ P.getD d [] → (b : Int) ∉ P.getD d []) := HS.out (Or.inr (Or.inl rfl))
              clear HS HA HT HP HQ CB
              go_wp2
              clear cc ci
              go_roundg (n - (c + 1))
              case measure => omega
              case rel => exact ⟨c + 1, by first | rfl | go_num, by omega, Nat.le_refl _, HA2, rfl⟩
            | true =>
              go_wp2_with fail
              refine Calls.mono CB.out ?_
              rintro e y ⟨rfl, hy⟩
              rw [hy]
              clear CB hy y
              cases q with
              | false =>
                have HA2 : Hid (∀ d, d < c + 1 → f d = true → (a : Int) ∈ P.getD d [] → (b : Int) ∉ P.getD d []) := HS.out (Or.inr (Or.inr rfl))
                clear HS HA HT HP HQ
                go_wp2
                clear cc ci
                go_roundg (n - (c + 1))
                case measure => omega
                case rel => exact ⟨c + 1, by first | rfl | go_num, by omega, Nat.le_refl _, HA2, rfl⟩
              | true =>
                have HE : Hid (jnB P f a b = true) := jn_some (by rw [HN.out]; exact hlt) HT.out.symm (of_decide_eq_true HP.out.symm) (of_decide_eq_true HQ.out.symm)
                clear HS HA HT HP HQ
                go_wp2
                go_ret
                exact ⟨by rw [HE.out]; rfl, rfl⟩
        · have hltz : ¬ (c : Int) < (n : Int) := by omega
          have HE : Hid (jnB P f a b = false) := jn_no H1.out H2.out fun d hd => HA.out d (by rw [HN.out] at hd; omega)
          clear HA
          go_wp2
          go_ret
          exact ⟨by rw [HE.out]; rfl, rfl⟩
end Go.Proofs.YthdpomgpcblpeaaGreat

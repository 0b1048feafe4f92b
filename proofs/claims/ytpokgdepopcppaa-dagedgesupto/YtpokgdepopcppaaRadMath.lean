/-
  Proved here: plain mathematics of digits with bases of their own: products, places, digits. No condition.
-/
namespace Go.Proofs.Ytpokgdepopcppaa

/-- Is one below nought? -/
def isNeg (z : Int) : Bool := decide (z < 0)
def negs (zs : List Int) : Bool := zs.any isNeg
def nuls (zs : List Int) : Bool := zs.any fun z => z == 0
theorem negs_no {zs : List Int} (h : negs zs = false) : ∀ z ∈ zs, 0 ≤ z := fun z hz => by
  have := List.any_eq_false.1 h z hz
  simp [isNeg] at this
  exact this
theorem nuls_no {zs : List Int} (h : nuls zs = false) : ∀ z ∈ zs, z ≠ 0 := fun z hz => by
  have := List.any_eq_false.1 h z hz
  simpa using this
theorem ones {zs : List Int} (h : negs zs = false) (h2 : nuls zs = false) : ∀ z ∈ zs, 1 ≤ z := fun z hz => by
  have := negs_no h z hz
  have := nuls_no h2 z hz
  omega
/-- The digits of a place. -/
def digAt (ss : List Int) (at_ : Int) (i : Nat) : Int := (at_ / pr (ss.drop (i + 1))) % ss.getD i 0
end Go.Proofs.Ytpokgdepopcppaa

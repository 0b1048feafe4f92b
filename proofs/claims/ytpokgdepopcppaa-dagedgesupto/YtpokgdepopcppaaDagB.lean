/-
  Proved here: which method package heap reaches through a line of points.
-/
import Derived.Test.YtpokgdepopcppaaDagA
namespace Go.Proofs.Ytpokgdepopcppaa
set_option linter.unusedVariables false
open Go.RowKit
theorem follow_line (w : World) (rb k : Nat) : (follow [⟨58, 0, true⟩] 68 (.val (.pointer (some ⟨rb, k, none⟩)))).run Try.prog w = .ok (56, .var ⟨rb, k, none⟩) w := by
  simp [follow, Place.get, asAddr, fieldPlace, sizeOf]
  go_simp
  intro h0
  exact absurd h0 (by rw [show Try.t56.size = 1 from by kernel_rfl]; decide)
theorem recv_line (w : World) (rb k : Nat) (v : Value) (h : w.cell? ⟨rb, k, none⟩ = some v) (o : Option String) : (receiverAt 56 (.var ⟨rb, k, none⟩) false o).run Try.prog w = .ok v w := by
  simp [receiverAt, Place.get]
  go_simp
set_option maxRecDepth 100000 in
theorem mLnLen (w : World) (rb k : Nat) (v : Value) (h : w.cell? ⟨rb, k, none⟩ = some v) : (Go.method 241 68 (.pointer (some ⟨rb, k, none⟩)) "Len").run Try.prog w = .ok (50, v) w := by
  unfold Go.method
  go_simp
  rw [show Array.find? (fun x => x.name == "Len") Try.t68.methods = some ⟨"Len", 69, #[⟨58, 0, true⟩], some (50, false)⟩ from by kernel_rfl]
  have h1 := follow_line w rb k
  have h2 := recv_line w rb k v h none
  simp [h1, h2]
theorem entLnLen : ∀ args w, (callFunc 50 args).run Try.prog w = .ok (.enter 50 args) w := enters_of Try.func50 (by kernel_rfl) rfl
set_option maxRecDepth 100000 in
theorem mLnLess (w : World) (rb k : Nat) (v : Value) (h : w.cell? ⟨rb, k, none⟩ = some v) : (Go.method 241 68 (.pointer (some ⟨rb, k, none⟩)) "Less").run Try.prog w = .ok (108, v) w := by
  unfold Go.method
  go_simp
  rw [show Array.find? (fun x => x.name == "Less") Try.t68.methods = some ⟨"Less", 104, #[⟨58, 0, true⟩], some (108, false)⟩ from by kernel_rfl]
  have h1 := follow_line w rb k
  have h2 := recv_line w rb k v h none
  simp [h1, h2]
theorem entLnLess : ∀ args w, (callFunc 108 args).run Try.prog w = .ok (.enter 108 args) w := enters_of Try.func108 (by kernel_rfl) rfl
set_option maxRecDepth 100000 in
theorem mLnSwap (w : World) (rb k : Nat) (v : Value) (h : w.cell? ⟨rb, k, none⟩ = some v) : (Go.method 241 68 (.pointer (some ⟨rb, k, none⟩)) "Swap").run Try.prog w = .ok (110, v) w := by
  unfold Go.method
  go_simp
  rw [show Array.find? (fun x => x.name == "Swap") Try.t68.methods = some ⟨"Swap", 92, #[⟨58, 0, true⟩], some (110, false)⟩ from by kernel_rfl]
  have h1 := follow_line w rb k
  have h2 := recv_line w rb k v h none
  simp [h1, h2]
theorem entLnSwap : ∀ args w, (callFunc 110 args).run Try.prog w = .ok (.enter 110 args) w := enters_of Try.func110 (by kernel_rfl) rfl
theorem mLnPush (w : World) (rb k : Nat) : (Go.method 241 68 (.pointer (some ⟨rb, k, none⟩)) "Push").run Try.prog w = .ok (112, .pointer (some ⟨rb, k, none⟩)) w := by kernel_rfl
theorem entLnPush : ∀ args w, (callFunc 112 args).run Try.prog w = .ok (.enter 112 args) w := enters_of Try.func112 (by kernel_rfl) rfl
theorem mLnPop (w : World) (rb k : Nat) : (Go.method 241 68 (.pointer (some ⟨rb, k, none⟩)) "Pop").run Try.prog w = .ok (111, .pointer (some ⟨rb, k, none⟩)) w := by kernel_rfl
theorem entLnPop : ∀ args w, (callFunc 111 args).run Try.prog w = .ok (.enter 111 args) w := enters_of Try.func111 (by kernel_rfl) rfl
end Go.Proofs.Ytpokgdepopcppaa

/-
  Proved here: the law LexName, walked.
-/
import Derived.Test.YtjiolinhkadoaaaDoorLexAwB
namespace Go.Proofs.YtjiolinhkadoaaaDoor
open Go.RowKit
set_option maxRecDepth 100000 in
set_option maxHeartbeats 3200000 in
theorem lexName_top (s : ByteArray) (w : World) (m : Int) (hm : w.cell? ⟨1, 0, none⟩ = some (.int .i64 m)) (hg : ErrT w) (hs : s.size ≤ 1048576) (_ : s.size ≤ maxLen) :
    Calls Tryd.prog 5 #[.string s] w fun e w' => e = .returned (.bool true) ∧ Below w.heap.size w w' := by
  have ha := awake_yes m w hm hg
  have n1 := fun w => lexName_any s w (by omega)
  have n2 := fun w => refName_any s w (by omega)
  have q1 := fun w => quote_any s w (by omega)
  have q2 := fun w => refQuote_any s w (by omega)
  generalize isNm s = b at *
  generalize quoteF s = q at *
  go_enter Tryd.func5, Tryd.ntmps5
  go_wp2_with fail
  refine ha.mono ?_
  rintro e w1 ⟨rfl, b1⟩
  clear ha hm hg
  go_wp2_with (first | (go_at_call 17; refine (n1 _).mono ?_; rintro e w2 ⟨rfl, rfl⟩) | (go_at_call 18; refine (n2 _).mono ?_; rintro e w2 ⟨rfl, rfl⟩) | (go_at_call 19; refine (q1 _).mono ?_; rintro e w2 ⟨rfl, b2⟩) | (go_at_call 20; refine (q2 _).mono ?_; rintro e w2 ⟨rfl, rfl⟩))
  go_ret
  exact ⟨rfl, bstep1 b1 b2⟩
end Go.Proofs.YtjiolinhkadoaaaDoor

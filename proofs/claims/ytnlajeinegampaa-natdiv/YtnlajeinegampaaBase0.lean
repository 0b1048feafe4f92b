/-
  Proved here: what the law's cut answers.
-/
import Derived.Test.YtnlajeinegampaaTrim
namespace Go.Proofs.Ytnlajeinegampaa
open Go.RowKit


theorem cut_any (v : Value) (xs : List Nat) (n : Nat) (w : World) (h : Num w v xs) (hn : n ≤ 1000) :
    Calls Try.prog 7 #[v, .int .i64 (n : Int)] w fun e w' => e = .returned (cutTo v (min n xs.length)) ∧ w' = w := by
  obtain ⟨hb, ao, cap, rfl, hc, hm, hnil, hcell⟩ := h.open_
  obtain ⟨l, hl⟩ : ∃ l, l = xs.length := ⟨_, rfl⟩
  rw [← hl] at hc ⊢
  by_cases hlt : n < l
  · obtain ⟨b, off, rfl, _⟩ := hcell 0 (by omega)
    rw [Nat.min_eq_left (by omega)]
    have hlt' : (n : Int) < (l : Int) := by omega
    clear h hcell hnil hl hb
    go_enter Try.func7, Try.ntmps7
    go_wp2
    go_ret
    exact ⟨rfl, rfl⟩
  · rw [Nat.min_eq_right (by omega)]
    have hlt' : ¬ (n : Int) < (l : Int) := by omega
    clear h hcell hnil hl hb
    go_enter Try.func7, Try.ntmps7
    go_wp2
    go_ret
    exact ⟨rfl, rfl⟩

end Go.Proofs.Ytnlajeinegampaa

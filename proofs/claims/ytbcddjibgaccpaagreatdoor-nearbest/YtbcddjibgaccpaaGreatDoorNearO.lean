/-
  Proved here: what under, find and Nearest of package near answer.
-/
import Derived.Test.YtbcddjibgaccpaaGreatDoorNearN
import Derived.Test.YtbcddjibgaccpaaGreatDoorUintAll
namespace Go.Proofs.YtbcddjibgaccpaaGreatDoor
open Go.RowKit

/-- The three cells of a fraction. -/
def TCell (w : World) (g : Nat) (a b c : Value) : Prop := w.heap[g]? = some (.cells #[a, b, c] 27 (0, 0))
theorem TCell.cells {w : World} {g : Nat} {a b c : Value} (h : TCell w g a b c) : w.cell? ⟨g, 0, none⟩ = some a ∧ w.cell? ⟨g, 1, none⟩ = some b ∧ w.cell? ⟨g, 2, none⟩ = some c := by
  simp only [World.cell?, TCell] at h ⊢
  rw [h]
  simp
theorem TCell.below {w w' : World} {g : Nat} {a b c : Value} (h : TCell w g a b c) (hb : Below w.heap.size w w') : TCell w' g a b c := by
  unfold TCell; rw [hb.block _ (Array.getElem?_eq_some_iff.1 h).1]; exact h
theorem tcell_new (w : World) {a b c : Value} {k : Nat} (hk : w.heap.size = k) : TCell (w.alloc (.cells #[a, b, c] 27)) k a b c := by subst hk; exact heap_alloc_new w _
def undN (d : Nat) : Nat := if d = 0 then 1 else d

set_option maxRecDepth 100000 in
set_option maxHeartbeats 1600000 in
theorem under_near (na : Bool) (p : Value) (qo : Option Addr) (ql qc : Nat) (ys : List Nat) (w : World) (hv : Num w (.slice qo ql qc) ys) (ly : ys.length ≤ 1000) :
    Calls Tryz.prog 44 #[.agg #[.bool na, p, .slice qo ql qc]] w fun e w' => UpEnd w (undN (val ys)) 1000 e w' := by
  obtain ⟨W1, hW1⟩ : ∃ W1, W1 = w.alloc (.cells #[.bool na, p, .slice qo ql qc] 27) := ⟨_, rfl⟩
  have hk : TCell W1 w.heap.size (.bool na) p (.slice qo ql qc) := by rw [hW1]; exact tcell_new _ rfl
  have hb1 : Below w.heap.size w W1 := by rw [hW1]; exact belowA w _
  have HW1 : Hid (W1 = w.alloc (.cells #[.bool na, p, .slice qo ql qc] 27)) := hW1
  have hv0 : (Num W1 (.slice qo ql qc) ys) := hv.below (Nat.le_refl _) hb1
  have hbt := bits_any _ ys W1 hv0 (by omega)
  have r0 : (w.alloc (.cells #[.bool na, p, .slice qo ql qc] 27)).cell? ⟨w.heap.size, 2, none⟩ = some (.slice qo ql qc) := by rw [← hW1]; exact hk.cells.2.2
  clear hW1 hv
  by_cases h0 : val ys = 0
  · have HU : Hid (undN (val ys) = 1) := if_pos h0
    rw [HU.out]
    rw [h0, show bl 0 = 0 from rfl] at hbt
    clear h0 HU
    go_enter Tryz.func44, Tryz.ntmps44
    go_wp2_with fail
    rw [← HW1.out]
    clear r0
    refine hbt.mono ?_
    rintro e w2 ⟨rfl, rfl⟩
    clear hbt HW1
    go_wp2_with fail
    refine (of_any 1 _ (by decide)).mono ?_
    rintro e w3 ⟨v, rfl, ho, b⟩
    obtain ⟨zo, zl, zc, rfl⟩ := ho.sl
    have HE : Hid (UpEnd w 1 1000 (.returned (.slice zo zl zc)) w3) := ⟨_, _, _, _, rfl, ho.num, val_lim _, by decide, bstep hb1 b⟩
    clear ho b hb1 hv0 hk
    go_wp2
    go_ret
    exact HE.out
  · have HU : Hid (undN (val ys) = val ys) := if_neg h0
    rw [HU.out]
    have HE : Hid (UpEnd w (val ys) 1000 (.returned (.slice qo ql qc)) W1) := ⟨_, _, _, _, rfl, hv0, rfl, ly, hb1⟩
    obtain ⟨q, hq⟩ : ∃ q, q = bl (val ys) := ⟨_, rfl⟩
    have hq0 : ((q : Int) == 0) = false := by
      obtain ⟨m, e, _, _⟩ := bl_bounds h0
      rw [hq, e]
      simp
      omega
    rw [← hq] at hbt
    clear h0 hq HU
    obtain ⟨c0, c1, c2⟩ := hk.cells
    go_enter Tryz.func44, Tryz.ntmps44
    go_wp2_with fail
    rw [← HW1.out]
    clear r0
    obtain ⟨g, hg⟩ : ∃ g, g = w.heap.size := ⟨_, rfl⟩
    rw [← hg] at c0 c1 c2 ⊢
    refine hbt.mono ?_
    rintro e w2 ⟨rfl, rfl⟩
    clear hbt HW1 hv0 hb1 hk hg
    go_wp2
    go_ret
    exact HE.out

set_option maxRecDepth 100000 in
set_option maxHeartbeats 3200000 in
theorem findD (na : Bool) (po qo : Option Addr) (pl pc ql qc : Nat) (xs ys : List Nat) (N D : Nat) (w : World) (hu : Num w (.slice po pl pc) xs) (hv : Num w (.slice qo ql qc) ys) (lx : xs.length ≤ 1000) (ly : ys.length ≤ 1000) (hxv : val xs = N) (hyv : undN (val ys) = D) :
    Calls Tryz.prog 20 #[.agg #[.int .i64 53, .int .i64 (-1074), .int .i64 1024], .agg #[.bool na, .slice po pl pc, .slice qo ql qc]] w fun e w' => PlEnd w (findF 53 (-1074) 1024 N D) e w' := by
  have hun := fun w h => under_near na (.slice po pl pc) qo ql qc ys w h ly
  rw [hyv] at hun
  have hb32 := bl_k hu.1 lx
  rw [hxv] at hb32
  have HXV : Hid (val xs = N) := hxv
  have HDP : Hid (D ≠ 0) := by show _ ≠ _; rw [← hyv]; unfold undN; split; decide; assumption
  clear hxv hyv
  obtain ⟨W1, hW1⟩ : ∃ W1, W1 = ((w.alloc (.cells #[.int .i64 53, .int .i64 (-1074), .int .i64 1024] 55)).alloc (.cells #[.bool na, .slice po pl pc, .slice qo ql qc] 27)).alloc (.cells #[.int .u64 0, .int .i64 0] 53) := ⟨_, rfl⟩
  have hk : KCell W1 w.heap.size (.int .i64 53) (.int .i64 (-1074)) (.int .i64 1024) := by rw [hW1]; exact ((kcell_new _ rfl).below (belowA _ _)).below (belowA _ _)
  have hr : TCell W1 (w.heap.size + 1) (.bool na) (.slice po pl pc) (.slice qo ql qc) := by rw [hW1]; exact (tcell_new _ (by simp)).below (belowA _ _)
  have hp : PCell W1 (w.heap.size + 1 + 1) (.int .u64 0) (.int .i64 0) := by rw [hW1]; exact pcell_new _ (by simp)
  have hb1 : Below w.heap.size w W1 := by rw [hW1]; exact bstep (bstep (belowA w _) (belowA _ _)) (belowA _ _)
  have HW1 : Hid (W1 = ((w.alloc (.cells #[.int .i64 53, .int .i64 (-1074), .int .i64 1024] 55)).alloc (.cells #[.bool na, .slice po pl pc, .slice qo ql qc] 27)).alloc (.cells #[.int .u64 0, .int .i64 0] 53)) := hW1
  replace hu := hu.below (Nat.le_refl _) hb1
  replace hv := hv.below (Nat.le_refl _) hb1
  clear hW1
  go_enter Tryz.func20, Tryz.ntmps20
  go_wp2_with fail
  rw [← HW1.out]
  obtain ⟨g, hg⟩ : ∃ g, g = w.heap.size := ⟨_, rfl⟩
  rw [← hg] at hk hr hp ⊢
  have HG : Hid (g = w.heap.size) := hg
  obtain ⟨c0, c1, c2⟩ := hr.cells
  clear hg HW1
  have HK : Hid (KCell W1 g (.int .i64 53) (.int .i64 (-1074)) (.int .i64 1024) ∧ PCell W1 (g + 1 + 1) (.int .u64 0) (.int .i64 0)) := ⟨hk, hp⟩
  clear hk hp hr
  go_region_held3 (fun w' => w'.cell? ⟨g + 1, 0, none⟩ = some (.bool na) ∧ w'.cell? ⟨g + 1, 1, none⟩ = some (.slice po pl pc) ∧ w'.cell? ⟨g + 1, 2, none⟩ = some (.slice qo ql qc)) (((try dsimp only); go_split_ands; refine ⟨?_, ?_, ?_⟩ <;> first | exact keepB1 (by with_reducible assumption) (by with_reducible assumption) | go_keep)) (first
    | (go_at_call 44; refine (hun _ (hv.same (w' := W1.drew) rfl)).mono ?_; rintro e w3 ⟨zo, zl, zc, zs, rfl, nd, vd, ld, hb3⟩))
  all_goals
    have b0 : Below W1.heap.size W1 w3 := bstep (Below.refl _ _).drew hb3
    have hk := HK.out.1.below b0
    have hp := HK.out.2.below b0
    replace hu := hu.below (Nat.le_refl _) b0
    have hbw := bstep hb1 b0
    clear b0 hb3 hb1 c0 c1 c2 HK hun hv
    have hbN := bits_any _ xs w3 hu (by omega)
    have hbD := bits_any _ zs w3 nd (by omega)
    have hb33 := bl_k nd.1 ld
    rw [HXV.out] at hbN
    rw [vd] at hbD hb33
    obtain ⟨p, hp0⟩ : ∃ p, p = bl N := ⟨_, rfl⟩
    obtain ⟨q, hq0⟩ : ∃ p, p = bl D := ⟨_, rfl⟩
    have HP : Hid (bl N = p) := hp0.symm
    have HQ : Hid (bl D = q) := hq0.symm
    rw [← hp0] at hbN hb32
    rw [← hq0] at hbD hb33
    clear hp0 hq0
    have hb34 : p ≤ 32000 := hb32
    have hb35 : q ≤ 32000 := hb33
    clear hb32 hb33
    have HFI : Hid (findF 53 (-1074) 1024 N D = if p = 0 then (0, 0) else if 1024 < (p : Int) - q then (9218868437227405311, 3) else if (p : Int) - q < (-1075) then (0, 1) else divideF 53 (-1074) 1024 N D) := by
      show _ = _
      unfold findF
      rw [HP.out, HQ.out, show infF 53 (-1074) 1024 - 1 = 9218868437227405311 by decide]
      rfl
    go_wp2_with fail
    refine hbN.mono ?_
    rintro e w4 ⟨rfl, rfl⟩
    by_cases hpz : p = 0
    · have HF2 := HFI.out
      rw [if_pos hpz] at HF2
      have HF : Hid (findF 53 (-1074) 1024 N D = (0, 0)) := HF2
      subst hpz
      clear HFI HF2 hbN hbD
      have HE : Hid (PlEnd w (findF 53 (-1074) 1024 N D) (.returned (.agg #[.int .u64 0, .int .i64 0])) ((w4.setCell ⟨g + 1 + 1, 0, none⟩ (.int .u64 0)).setCell ⟨g + 1 + 1, 1, none⟩ (.int .i64 0))) := ⟨by rw [HF.out]; (try rfl), pend _ _ hbw (by rw [HG.out]; omega)⟩
      have HW : Hid (PCell ((w4.setCell ⟨g + 1 + 1, 0, none⟩ (.int .u64 0)).setCell ⟨g + 1 + 1, 1, none⟩ (.int .i64 0)) (g + 1 + 1) (.int .u64 0) (.int .i64 0)) := hp.write _ _
      obtain ⟨y0, y1⟩ := hp.cells
      have f0 := hp.thaw 0
      have f1 := hp.thaw 1
      clear hp hk hbw hu nd
      go_wp2_with fail
      (try simp only [Exit.inBlock, Exit.then])
      exact bodyPost_ret (results_cell_row rfl _ _ (g + 1 + 1) 53 _ (0, 0) _ rfl HW.out Tryz.underlying53 rfl (by kernel_rfl)) rfl HE.out
    · have hpz' : ((p : Int) == 0) = false := by simp; omega
      have HF1 := HFI.out
      rw [if_neg hpz] at HF1
      have HNZ : Hid (N ≠ 0) := by
        intro h
        apply hpz
        rw [← HP.out, h]; rfl
      clear HFI hpz
      go_wp2_with fail
      refine hbN.mono ?_
      rintro e w5 ⟨rfl, rfl⟩
      go_wp2_with fail
      refine hbD.mono ?_
      rintro e w6 ⟨rfl, rfl⟩
      clear hbN hbD
      obtain ⟨G, hG⟩ : ∃ G : Int, (p : Int) - (q : Int) = G := ⟨_, rfl⟩
      rw [hG] at HF1
      have hGw : IntKind.i64.wrap G = G := by rw [IntKind.wrap_i64]; omega
      obtain ⟨k0, k1, k2⟩ := hk.cells
      by_cases hc1 : 1024 < G
      · have HF2 := HF1
        rw [if_pos hc1] at HF2
        have HF : Hid (findF 53 (-1074) 1024 N D = (9218868437227405311, 3)) := HF2
        clear HF1 HF2
        go_wp2_with fail
        refine (beyondD _).mono ?_
        rintro e wz ⟨rfl, b⟩
        replace hp := hp.below b
        replace hbw := bstep hbw b
        clear b k0 k1 k2
        have HE : Hid (PlEnd w (findF 53 (-1074) 1024 N D) (.returned (.agg #[.int .u64 9218868437227405311, .int .i64 3])) ((wz.setCell ⟨g + 1 + 1, 0, none⟩ (.int .u64 9218868437227405311)).setCell ⟨g + 1 + 1, 1, none⟩ (.int .i64 3))) := ⟨by rw [HF.out]; (try rfl), pend _ _ hbw (by rw [HG.out]; omega)⟩
        have HW : Hid (PCell ((wz.setCell ⟨g + 1 + 1, 0, none⟩ (.int .u64 9218868437227405311)).setCell ⟨g + 1 + 1, 1, none⟩ (.int .i64 3)) (g + 1 + 1) (.int .u64 9218868437227405311) (.int .i64 3)) := hp.write _ _
        obtain ⟨y0, y1⟩ := hp.cells
        have f0 := hp.thaw 0
        have f1 := hp.thaw 1
        clear hp hk hbw hu nd
        go_wp2_with fail
        (try simp only [Exit.inBlock, Exit.then])
        exact bodyPost_ret (results_cell_row rfl _ _ (g + 1 + 1) 53 _ (0, 0) _ rfl HW.out Tryz.underlying53 rfl (by kernel_rfl)) rfl HE.out
      · by_cases hc2 : G < (-1075)
        · have HF2 := HF1
          rw [if_neg hc1, if_pos hc2] at HF2
          have HF : Hid (findF 53 (-1074) 1024 N D = (0, 1)) := HF2
          clear HF1 HF2
          have HE : Hid (PlEnd w (findF 53 (-1074) 1024 N D) (.returned (.agg #[.int .u64 0, .int .i64 1])) ((w6.setCell ⟨g + 1 + 1, 0, none⟩ (.int .u64 0)).setCell ⟨g + 1 + 1, 1, none⟩ (.int .i64 1))) := ⟨by rw [HF.out]; (try rfl), pend _ _ hbw (by rw [HG.out]; omega)⟩
          have HW : Hid (PCell ((w6.setCell ⟨g + 1 + 1, 0, none⟩ (.int .u64 0)).setCell ⟨g + 1 + 1, 1, none⟩ (.int .i64 1)) (g + 1 + 1) (.int .u64 0) (.int .i64 1)) := hp.write _ _
          obtain ⟨y0, y1⟩ := hp.cells
          have f0 := hp.thaw 0
          have f1 := hp.thaw 1
          clear hp hk hbw hu nd
          go_wp2_with fail
          (try simp only [Exit.inBlock, Exit.then])
          exact bodyPost_ret (results_cell_row rfl _ _ (g + 1 + 1) 53 _ (0, 0) _ rfl HW.out Tryz.underlying53 rfl (by kernel_rfl)) rfl HE.out
        · have HF2 := HF1
          rw [if_neg hc1, if_neg hc2] at HF2
          have hdv := divideD _ _ xs zs N D w6 hu nd HXV.out vd (by omega) (by omega) HNZ.out HDP.out (by rw [HP.out, HQ.out]; omega) (by rw [HP.out, HQ.out]; omega)
          obtain ⟨⟨a, b⟩, hab⟩ : ∃ z, z = divideF 53 (-1074) 1024 N D := ⟨_, rfl⟩
          rw [← hab] at HF2 hdv
          have HF : Hid (findF 53 (-1074) 1024 N D = (a, b)) := HF2
          clear HF1 HF2 hab
          go_wp2_with fail
          refine hdv.mono ?_
          rintro e wz ⟨rfl, b9⟩
          replace hp := hp.below b9
          replace hbw := bstep hbw b9
          clear b9 k0 k1 k2 hdv
          have HE : Hid (PlEnd w (findF 53 (-1074) 1024 N D) (.returned (.agg #[.int .u64 (a : Int), .int .i64 b])) ((wz.setCell ⟨g + 1 + 1, 0, none⟩ (.int .u64 (a : Int))).setCell ⟨g + 1 + 1, 1, none⟩ (.int .i64 b))) := ⟨by rw [HF.out]; (try rfl), pend _ _ hbw (by rw [HG.out]; omega)⟩
          have HW : Hid (PCell ((wz.setCell ⟨g + 1 + 1, 0, none⟩ (.int .u64 (a : Int))).setCell ⟨g + 1 + 1, 1, none⟩ (.int .i64 b)) (g + 1 + 1) (.int .u64 (a : Int)) (.int .i64 b)) := hp.write _ _
          obtain ⟨y0, y1⟩ := hp.cells
          have f0 := hp.thaw 0
          have f1 := hp.thaw 1
          clear hp hk hbw hu nd
          go_wp2_with fail
          (try simp only [Exit.inBlock, Exit.then])
          exact bodyPost_ret (results_cell_row rfl _ _ (g + 1 + 1) 53 _ (0, 0) _ rfl HW.out Tryz.underlying53 rfl (by kernel_rfl)) rfl HE.out
end Go.Proofs.YtbcddjibgaccpaaGreatDoor

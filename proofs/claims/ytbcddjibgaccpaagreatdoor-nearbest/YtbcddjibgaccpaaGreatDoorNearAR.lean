/-
  Proved here: what Single and Around of package near answer.
-/
import Derived.Test.YtbcddjibgaccpaaGreatDoorWinMathAll
import Derived.Test.YtbcddjibgaccpaaGreatDoorFracAAll
namespace Go.Proofs.YtbcddjibgaccpaaGreatDoor
open Go.RowKit

@[local go_sem] theorem run_f64from3 (b : Nat) (w : World) : (callFunc 18 #[.int .u64 (b : Int)]).run Tryz.prog w = .ok (.value (.float .f64 b)) w := run_f64from2 b w
@[local go_sem] theorem run_f32from3 (b : Nat) (w : World) : (callFunc 23 #[.int .u32 (b : Int)]).run Tryz.prog w = .ok (.value (.float .f32 b)) w := run_f32from2 b w

theorem find_lt2 (N D : Nat) : (findF 24 (-149) 128 N D).1 < 2139095040 := by
  unfold findF
  have hi : infF 24 (-149) 128 = 2139095040 := by decide
  split
  · decide
  · split
    · rw [hi]; decide
    · split
      · decide
      · unfold divideF
        rw [hi]
        split
        · decide
        · show belowF _ _ _ _ < _
          omega
theorem nearestF_lt2 {p : Nat × Int} (h : p.1 < 2139095040) : nearestF p ≤ 2139095040 := by unfold nearestF; split <;> omega

set_option maxRecDepth 100000 in
set_option maxHeartbeats 1600000 in
theorem sidedS_any (s : Int) (b : Nat) (w : World) (hb : b ≤ 2139095040) :
    Calls Tryz.prog 22 #[.int .i64 s, .float .f32 b] w fun e w' => e = .returned (.float .f32 (sidedS (decide (s < 0)) b)) ∧ w' = w := by
  have hz := szero hb
  by_cases hs : s < 0
  · by_cases h0 : b = 0
    · subst h0
      have HE : Hid (sidedS (decide (s < 0)) 0 = 0) := if_neg (by simp)
      have hz' : (FloatKind.f32.format.order 0 0 != some .eq) = false := hz
      clear hz
      rw [HE.out]
      clear HE
      go_enter Tryz.func22, Tryz.ntmps22
      go_wp2
      go_ret
      exact ⟨rfl, rfl⟩
    · have HE : Hid (sidedS (decide (s < 0)) b = 2 ^ 31 + b) := if_pos ⟨by simpa using hs, h0⟩
      rw [decide_eq_true h0] at hz
      rw [HE.out]
      have hneg : ∀ w, (Op.unary .neg (.float .f32 b)).run Tryz.prog w = .ok (.float .f32 (2 ^ 31 + b)) w := fun w => by
        rw [← xor_top2 (b := b) (k := 31) (by omega)]
        rfl
      clear HE
      go_enter Tryz.func22, Tryz.ntmps22
      go_wp2
      go_ret
      exact ⟨rfl, rfl⟩
  · have HE : Hid (sidedS (decide (s < 0)) b = b) := if_neg (by rintro ⟨h, _⟩; exact hs (by simpa using h))
    rw [HE.out]
    clear HE hz
    go_enter Tryz.func22, Tryz.ntmps22
    go_wp2
    go_ret
    exact ⟨rfl, rfl⟩

set_option maxRecDepth 100000 in
set_option maxHeartbeats 3200000 in
theorem single_any (na : Bool) (po qo : Option Addr) (pl pc ql qc : Nat) (xs ys : List Nat) (w : World) (hu : Num w (.slice po pl pc) xs) (hv : Num w (.slice qo ql qc) ys) (lx : xs.length ≤ 1000) (ly : ys.length ≤ 1000) :
    Calls Tryz.prog 7 #[.agg #[.bool na, .slice po pl pc, .slice qo ql qc]] w fun e w' => e = .returned (.float .f32 (sidedS (decide (cmpZ (zv na (val xs)) 0 < 0)) (nearestF (findF 24 (-149) 128 (val xs) (undN (val ys)))))) ∧ Below w.heap.size w w' := by
  have hfl := find_lt2 (val xs) (undN (val ys))
  have hfi := fun w h1 h2 => findS na po qo pl pc ql qc xs ys _ _ w h1 h2 lx ly rfl rfl
  have hsg := fun w h1 => sign_near na po pl pc (.slice qo ql qc) xs w h1 lx
  obtain ⟨sg, hs0⟩ : ∃ s, s = cmpZ (zv na (val xs)) 0 := ⟨_, rfl⟩
  obtain ⟨⟨fa, fb⟩, hf0⟩ : ∃ z, z = findF 24 (-149) 128 (val xs) (undN (val ys)) := ⟨_, rfl⟩
  rw [← hs0] at hsg ⊢
  rw [← hf0] at hfi hfl ⊢
  have hfl2 : fa < 2139095040 := hfl
  have hnl := nearestF_lt2 (p := (fa, fb)) hfl
  have hnr := fun w => placeNearest_any fa fb w (by omega)
  obtain ⟨nr, hn0⟩ : ∃ n, n = nearestF (fa, fb) := ⟨_, rfl⟩
  rw [← hn0] at hnl hnr ⊢
  have hcv : IntKind.u32.wrap (nr : Int) = (nr : Int) := by rw [IntKind.wrap_u32]; omega
  have hsd := fun w => sidedS_any sg nr w hnl
  obtain ⟨rs, hr0⟩ : ∃ r, r = sidedS (decide (sg < 0)) nr := ⟨_, rfl⟩
  rw [← hr0] at hsd ⊢
  clear hs0 hf0 hn0 hr0 hfl
  obtain ⟨W1, hW1⟩ : ∃ W1, W1 = w.alloc (.cells #[.bool na, .slice po pl pc, .slice qo ql qc] 27) := ⟨_, rfl⟩
  have hk : TCell W1 w.heap.size (.bool na) (.slice po pl pc) (.slice qo ql qc) := by rw [hW1]; exact tcell_new _ rfl
  have hb1 : Below w.heap.size w W1 := by rw [hW1]; exact belowA w _
  have HW1 : Hid (W1 = w.alloc (.cells #[.bool na, .slice po pl pc, .slice qo ql qc] 27)) := hW1
  replace hu := hu.below (Nat.le_refl _) hb1
  replace hv := hv.below (Nat.le_refl _) hb1
  clear hW1
  go_enter Tryz.func7, Tryz.ntmps7
  go_wp2_with fail
  rw [← HW1.out]
  obtain ⟨g, hg⟩ : ∃ g, g = w.heap.size := ⟨_, rfl⟩
  rw [← hg] at hk ⊢
  obtain ⟨c0, c1, c2⟩ := hk.cells
  clear hg HW1 hk
  go_region_held3 (fun w' => w'.cell? ⟨g, 0, none⟩ = some (.bool na) ∧ w'.cell? ⟨g, 1, none⟩ = some (.slice po pl pc) ∧ w'.cell? ⟨g, 2, none⟩ = some (.slice qo ql qc)) (((try dsimp only); go_split_ands; refine ⟨?_, ?_, ?_⟩ <;> first | exact keepB1 (by with_reducible assumption) (by with_reducible assumption) | go_keep)) (first
    | (go_at_call 17; refine (hsg _ (hu.same (w' := W1.drew) rfl)).mono ?_; rintro e w2 ⟨rfl, hb2⟩)
    | (go_at_call 24; refine (kindS _).mono ?_; rintro e w3 ⟨rfl, hb3⟩)
    | (go_at_call 20; refine (hfi _ (((hu.same (w' := W1.drew) rfl).below (Nat.le_refl _) hb2).below (Nat.le_refl _) hb3) (((hv.same (w' := W1.drew) rfl).below (Nat.le_refl _) hb2).below (Nat.le_refl _) hb3)).mono ?_; rintro e w4 ⟨rfl, hb4⟩)
    | (go_at_call 21; refine (hnr _).mono ?_; rintro e w5 ⟨rfl, hb5⟩)
    | (go_at_call 22; refine (hsd _).mono ?_; rintro e w6 ⟨rfl, h6⟩; rw [h6]))
  all_goals
    have HE : Hid (Below w.heap.size w w5) := bstep (bstep (bstep (bstep (bstep hb1 (Below.refl _ _).drew) hb2) hb3) hb4) hb5
    clear hb1 hb2 hb3 hb4 hb5 c0 c1 c2 hu hv hsd hnr hfi hsg
    go_wp2
    go_ret
    exact ⟨rfl, HE.out⟩

def aboveF (p : Nat × Int) : Nat := if p.2 = 0 then p.1 else p.1 + 1
set_option maxRecDepth 100000 in
set_option maxHeartbeats 1600000 in
theorem placeAbove_any (p : Nat) (q : Int) (w : World) (hp : p < 18446744073709551615) :
    Calls Tryz.prog 31 #[.agg #[.int .u64 (p : Int), .int .i64 q]] w fun e w' => e = .returned (.int .u64 (aboveF (p, q) : Nat)) ∧ Below w.heap.size w w' := by
  by_cases h3 : q = 0
  · have HE : Hid (aboveF (p, q) = p) := if_pos h3
    rw [HE.out]
    subst h3
    clear HE
    go_enter Tryz.func31, Tryz.ntmps31
    go_wp2
    go_ret
    exact ⟨rfl, belowA _ _⟩
  · have h3' : (q == 0) = false := by simpa using h3
    have HE : Hid (aboveF (p, q) = p + 1) := if_neg h3
    rw [HE.out]
    clear HE h3
    go_enter Tryz.func31, Tryz.ntmps31
    go_wp2
    go_ret
    exact ⟨rfl, belowA _ _⟩

set_option maxRecDepth 100000 in
set_option maxHeartbeats 3200000 in
theorem around_any (x y lo hi : Nat) (na : Bool) (po qo : Option Addr) (pl pc ql qc : Nat) (xs ys : List Nat) (w : World) (hu : Num w (.slice po pl pc) xs) (hv : Num w (.slice qo ql qc) ys) (lx : xs.length ≤ 1000) (ly : ys.length ≤ 1000) (fa : Nat) (fb : Int) (hf0 : (fa, fb) = findF 53 (-1074) 1024 (val xs) (undN (val ys)))
    (hx : x = sidedF (decide (cmpZ (zv na (val xs)) 0 < 0)) fa) (hy : y = sidedF (decide (cmpZ (zv na (val xs)) 0 < 0)) (aboveF (fa, fb)))
    (hlo : ∀ (P : Program) (ts : Array TypeId) (ty : TypeId) (w : World), (Builtin.min_ ts ty #[.float .f64 x, .float .f64 y]).run P w = .ok (.float .f64 lo) w) (hhi : ∀ (P : Program) (ts : Array TypeId) (ty : TypeId) (w : World), (Builtin.max_ ts ty #[.float .f64 x, .float .f64 y]).run P w = .ok (.float .f64 hi) w) :
    Calls Tryz.prog 13 #[.agg #[.bool na, .slice po pl pc, .slice qo ql qc]] w fun e w' => e = .returned (.tuple #[.float .f64 lo, .float .f64 hi]) ∧ Below w.heap.size w w' := by
  have hfl := find_lt (val xs) (undN (val ys))
  have hfi := fun w h1 h2 => findD na po qo pl pc ql qc xs ys _ _ w h1 h2 lx ly rfl rfl
  have hsg := fun w h1 => sign_near na po pl pc (.slice qo ql qc) xs w h1 lx
  obtain ⟨sg, hs0⟩ : ∃ s, s = cmpZ (zv na (val xs)) 0 := ⟨_, rfl⟩
  rw [← hs0] at hsg hx hy
  rw [← hf0] at hfi hfl
  have hfl2 : fa < 9218868437227405312 := hfl
  have hab := fun w => placeAbove_any fa fb w (by omega)
  have hal : aboveF (fa, fb) ≤ 9218868437227405312 := by unfold aboveF; split <;> omega
  obtain ⟨ab, ha0⟩ : ∃ n, n = aboveF (fa, fb) := ⟨_, rfl⟩
  rw [← ha0] at hab hal hy
  have hs1 := fun w => sidedD sg fa w (by omega)
  have hs2 := fun w => sidedD sg ab w hal
  rw [← hx] at hs1
  rw [← hy] at hs2
  clear hs0 hf0 ha0 hfl hx hy
  obtain ⟨W1, hW1⟩ : ∃ W1, W1 = w.alloc (.cells #[.bool na, .slice po pl pc, .slice qo ql qc] 27) := ⟨_, rfl⟩
  have hk : TCell W1 w.heap.size (.bool na) (.slice po pl pc) (.slice qo ql qc) := by rw [hW1]; exact tcell_new _ rfl
  have hb1 : Below w.heap.size w W1 := by rw [hW1]; exact belowA w _
  have HW1 : Hid (W1 = w.alloc (.cells #[.bool na, .slice po pl pc, .slice qo ql qc] 27)) := hW1
  replace hu := hu.below (Nat.le_refl _) hb1
  replace hv := hv.below (Nat.le_refl _) hb1
  clear hW1
  go_enter Tryz.func13, Tryz.ntmps13
  go_wp2_with fail
  rw [← HW1.out]
  obtain ⟨g, hg⟩ : ∃ g, g = w.heap.size := ⟨_, rfl⟩
  rw [← hg] at hk ⊢
  obtain ⟨c0, c1, c2⟩ := hk.cells
  clear c0 c1 c2 hg HW1
  refine region_late [(1, fun w' => w'.cell? ⟨g, 0, none⟩ = some (.bool na) ∧ w'.cell? ⟨g, 1, none⟩ = some (.slice po pl pc) ∧ w'.cell? ⟨g, 2, none⟩ = some (.slice qo ql qc))] (by kernel_rfl) ?_
  have D0 : Below W1.heap.size W1 W1.drew := (Below.refl _ _).drew
  have hHeld : AllL W1.drew [(1, fun w' => w'.cell? ⟨g, 0, none⟩ = some (.bool na) ∧ w'.cell? ⟨g, 1, none⟩ = some (.slice po pl pc) ∧ w'.cell? ⟨g, 2, none⟩ = some (.slice qo ql qc))] := ⟨(hk.below D0).cells, trivial⟩
  refine late_take 1 (v := .agg #[.bool na, .slice po pl pc, .slice qo ql qc]) rfl (by kernel_rfl) (List.mem_cons_self ..) (by kernel_rfl) (by kernel_rfl) (by kernel_rfl) (by kernel_rfl) (fun _ _ _ h => h) (Or.inl ⟨by rfl, ?_⟩) hHeld ?_
  · (intro u hu; (try dsimp only at hu); go_split_ands; go_simp)
  (try simp only [Act.put, List.setIfInBounds_toArray, List.set_cons_zero, List.set_cons_succ])
  refine late_two 0 3 (by kernel_rfl) rfl rfl (fun K hK => ?_) (fun K hK => ?_)
  · go_simp
    refine (kindD _).mono ?_
    rintro e w3 ⟨rfl, hb3⟩
    have B3 : Below W1.heap.size W1 w3 := bstep D0 hb3
    clear hHeld
    have hHeld : AllL w3 [(1, fun w' => w'.cell? ⟨g, 0, none⟩ = some (.bool na) ∧ w'.cell? ⟨g, 1, none⟩ = some (.slice po pl pc) ∧ w'.cell? ⟨g, 2, none⟩ = some (.slice qo ql qc))] := ⟨(hk.below B3).cells, trivial⟩
    go_wp2_with fail
    refine hK.out _ _ (AllL.kept hHeld) ?_
    clear hK K
    (try simp only [Act.put, List.setIfInBounds_toArray, List.set_cons_zero, List.set_cons_succ])
    refine late_two 2 3 (by kernel_rfl) rfl rfl (fun K hK => ?_) (fun K hK => ?_)
    · go_simp
      refine (hfi _ (hu.below (Nat.le_refl _) B3) (hv.below (Nat.le_refl _) B3)).mono ?_
      rintro e w4 ⟨rfl, hb4⟩
      have B4 : Below W1.heap.size W1 w4 := bstep B3 hb4
      clear hHeld
      have hHeld : AllL w4 [(1, fun w' => w'.cell? ⟨g, 0, none⟩ = some (.bool na) ∧ w'.cell? ⟨g, 1, none⟩ = some (.slice po pl pc) ∧ w'.cell? ⟨g, 2, none⟩ = some (.slice qo ql qc))] := ⟨(hk.below B4).cells, trivial⟩
      go_wp2_with fail
      refine hK.out _ _ (AllL.kept hHeld) ?_
      clear hK K
      (try simp only [Act.put, List.setIfInBounds_toArray, List.set_cons_zero, List.set_cons_succ])
      refine late_step 3 (by kernel_rfl) rfl (fun K hK => ?_)
      go_simp
      obtain ⟨w5, hw5⟩ : ∃ u, u = w4.alloc (.cells #[.int .u64 0, .int .i64 0] 53) := ⟨_, rfl⟩
      have hp : PCell w5 w4.heap.size (.int .u64 0) (.int .i64 0) := by rw [hw5]; exact (pcell_new _ rfl)
      have B5 : Below W1.heap.size W1 w5 := by rw [hw5]; exact bstep B4 (belowA _ _)
      rw [← hw5]
      obtain ⟨pv, hpv⟩ : ∃ v, v = w4.heap.size := ⟨_, rfl⟩
      have HPV : Hid (W1.heap.size ≤ pv) := by show _ ≤ _; rw [hpv]; exact B4.size
      rw [← hpv] at hp ⊢
      clear hpv hw5 hHeld
      have hHeld : AllL w5 [(1, fun w' => w'.cell? ⟨g, 0, none⟩ = some (.bool na) ∧ w'.cell? ⟨g, 1, none⟩ = some (.slice po pl pc) ∧ w'.cell? ⟨g, 2, none⟩ = some (.slice qo ql qc))] := ⟨(hk.below B5).cells, trivial⟩
      refine hK.out _ _ (AllL.kept hHeld) ?_
      clear hK K
      (try simp only [Act.put, List.setIfInBounds_toArray, List.set_cons_zero, List.set_cons_succ])
      obtain ⟨y0, y1⟩ := hp.cells
      have f0 := hp.thaw 0
      have f1 := hp.thaw 1
      refine late_step 4 (by kernel_rfl) rfl (fun K hK => ?_)
      go_simp
      obtain ⟨w6, hw6⟩ : ∃ u, u = (w5.setCell ⟨pv, 0, none⟩ (.int .u64 (fa : Int))).setCell ⟨pv, 1, none⟩ (.int .i64 fb) := ⟨_, rfl⟩
      have hp6 : PCell w6 pv (.int .u64 (fa : Int)) (.int .i64 fb) := by rw [hw6]; exact hp.write _ _
      have B6 : Below W1.heap.size W1 w6 := by rw [hw6]; exact (B5.setCell (p := ⟨pv, 0, none⟩) HPV.out _).setCell (p := ⟨pv, 1, none⟩) HPV.out _
      rw [← hw6]
      clear hHeld hw6
      have hHeld : AllL w6 [(1, fun w' => w'.cell? ⟨g, 0, none⟩ = some (.bool na) ∧ w'.cell? ⟨g, 1, none⟩ = some (.slice po pl pc) ∧ w'.cell? ⟨g, 2, none⟩ = some (.slice qo ql qc))] := ⟨(hk.below B6).cells, trivial⟩
      refine hK.out _ _ (AllL.kept hHeld) ?_
      clear hK K
      (try simp only [Act.put, List.setIfInBounds_toArray, List.set_cons_zero, List.set_cons_succ])
      refine late_done (by kernel_rfl) ?_ _
      clear hHeld y0 y1 f0 f1 hp
      have hk6 := hk.below B6
      replace hu := hu.below (Nat.le_refl _) B6
      have hbw := bstep hb1 B6
      clear hk hv hfi HPV
      obtain ⟨c0, c1, c2⟩ := hk6.cells
      obtain ⟨y0, y1⟩ := hp6.cells
      have HK : Hid (TCell w6 g (.bool na) (.slice po pl pc) (.slice qo ql qc) ∧ PCell w6 pv (.int .u64 (fa : Int)) (.int .i64 fb)) := ⟨hk6, hp6⟩
      clear hk6 hp6 B6
      go_wp2_with fail
      go_region_held3 (fun w' => w'.cell? ⟨g, 0, none⟩ = some (.bool na) ∧ w'.cell? ⟨g, 1, none⟩ = some (.slice po pl pc) ∧ w'.cell? ⟨g, 2, none⟩ = some (.slice qo ql qc) ∧ w'.cell? ⟨pv, 0, none⟩ = some (.int .u64 (fa : Int)) ∧ w'.cell? ⟨pv, 1, none⟩ = some (.int .i64 fb)) (((try dsimp only); go_split_ands; refine ⟨?_, ?_, ?_, ?_, ?_⟩ <;> first | exact keepB1 (by with_reducible assumption) (by with_reducible assumption) | go_keep)) (first
    | (go_at_call 17; refine (hsg _ (hu.same (w' := w6.drew) rfl)).mono ?_; rintro e w7 ⟨rfl, hb7⟩)
    | (go_at_call 16; refine (hs1 _).mono ?_; rintro e w8 ⟨rfl, h8⟩; rw [h8]))
      all_goals
        have b0 : Below w6.heap.size w6 w7 := bstep (Below.refl _ _).drew hb7
        have hk7 := HK.out.1.below b0
        have hp7 := HK.out.2.below b0
        replace hu := hu.below (Nat.le_refl _) b0
        replace hbw := bstep hbw b0
        clear b0 hb7 c0 c1 c2 y0 y1 HK hs1
        obtain ⟨c0, c1, c2⟩ := hk7.cells
        obtain ⟨y0, y1⟩ := hp7.cells
        clear hk7 hp7
        go_wp2_with fail
        go_region_held3 (fun w' => w'.cell? ⟨g, 0, none⟩ = some (.bool na) ∧ w'.cell? ⟨g, 1, none⟩ = some (.slice po pl pc) ∧ w'.cell? ⟨g, 2, none⟩ = some (.slice qo ql qc) ∧ w'.cell? ⟨pv, 0, none⟩ = some (.int .u64 (fa : Int)) ∧ w'.cell? ⟨pv, 1, none⟩ = some (.int .i64 fb)) (((try dsimp only); go_split_ands; refine ⟨?_, ?_, ?_, ?_, ?_⟩ <;> first | exact keepB1 (by with_reducible assumption) (by with_reducible assumption) | go_keep)) (first
    | (go_at_call 17; refine (hsg _ (hu.same (w' := w7.drew) rfl)).mono ?_; rintro e w9 ⟨rfl, hb9⟩)
    | (go_at_call 31; refine (hab _).mono ?_; rintro e wa ⟨rfl, hba⟩)
    | (go_at_call 16; refine (hs2 _).mono ?_; rintro e wb ⟨rfl, h9⟩; rw [h9]))
        all_goals
          have HE : Hid (Below w.heap.size w wa) := bstep (bstep (bstep hbw (Below.refl _ _).drew) hb9) hba
          clear hb9 hba hbw hu c0 c1 c2 y0 y1 hsg hab hs2
          go_wp2
          go_ret2
          exact ⟨rfl, HE.out⟩
    · go_simp
      obtain ⟨w5, hw5⟩ : ∃ u, u = w3.alloc (.cells #[.int .u64 0, .int .i64 0] 53) := ⟨_, rfl⟩
      have hp : PCell w5 w3.heap.size (.int .u64 0) (.int .i64 0) := by rw [hw5]; exact (pcell_new _ rfl)
      have B5 : Below W1.heap.size W1 w5 := by rw [hw5]; exact bstep B3 (belowA _ _)
      rw [← hw5]
      obtain ⟨pv, hpv⟩ : ∃ v, v = w3.heap.size := ⟨_, rfl⟩
      have HPV : Hid (W1.heap.size ≤ pv) := by show _ ≤ _; rw [hpv]; exact B3.size
      rw [← hpv] at hp ⊢
      clear hpv hw5 hHeld
      have hHeld : AllL w5 [(1, fun w' => w'.cell? ⟨g, 0, none⟩ = some (.bool na) ∧ w'.cell? ⟨g, 1, none⟩ = some (.slice po pl pc) ∧ w'.cell? ⟨g, 2, none⟩ = some (.slice qo ql qc))] := ⟨(hk.below B5).cells, trivial⟩
      refine hK.out _ _ (AllL.kept hHeld) ?_
      clear hK K
      (try simp only [Act.put, List.setIfInBounds_toArray, List.set_cons_zero, List.set_cons_succ])
      refine late_step 2 (by kernel_rfl) rfl (fun K hK => ?_)
      go_simp
      refine (hfi _ (hu.below (Nat.le_refl _) B5) (hv.below (Nat.le_refl _) B5)).mono ?_
      rintro e w4 ⟨rfl, hb4⟩
      have B4 : Below W1.heap.size W1 w4 := bstep B5 hb4
      replace hp := hp.below hb4
      clear hHeld
      have hHeld : AllL w4 [(1, fun w' => w'.cell? ⟨g, 0, none⟩ = some (.bool na) ∧ w'.cell? ⟨g, 1, none⟩ = some (.slice po pl pc) ∧ w'.cell? ⟨g, 2, none⟩ = some (.slice qo ql qc))] := ⟨(hk.below B4).cells, trivial⟩
      go_wp2_with fail
      refine hK.out _ _ (AllL.kept hHeld) ?_
      clear hK K
      (try simp only [Act.put, List.setIfInBounds_toArray, List.set_cons_zero, List.set_cons_succ])
      obtain ⟨y0, y1⟩ := hp.cells
      have f0 := hp.thaw 0
      have f1 := hp.thaw 1
      refine late_step 4 (by kernel_rfl) rfl (fun K hK => ?_)
      go_simp
      obtain ⟨w6, hw6⟩ : ∃ u, u = (w4.setCell ⟨pv, 0, none⟩ (.int .u64 (fa : Int))).setCell ⟨pv, 1, none⟩ (.int .i64 fb) := ⟨_, rfl⟩
      have hp6 : PCell w6 pv (.int .u64 (fa : Int)) (.int .i64 fb) := by rw [hw6]; exact hp.write _ _
      have B6 : Below W1.heap.size W1 w6 := by rw [hw6]; exact (B4.setCell (p := ⟨pv, 0, none⟩) HPV.out _).setCell (p := ⟨pv, 1, none⟩) HPV.out _
      rw [← hw6]
      clear hHeld hw6
      have hHeld : AllL w6 [(1, fun w' => w'.cell? ⟨g, 0, none⟩ = some (.bool na) ∧ w'.cell? ⟨g, 1, none⟩ = some (.slice po pl pc) ∧ w'.cell? ⟨g, 2, none⟩ = some (.slice qo ql qc))] := ⟨(hk.below B6).cells, trivial⟩
      refine hK.out _ _ (AllL.kept hHeld) ?_
      clear hK K
      (try simp only [Act.put, List.setIfInBounds_toArray, List.set_cons_zero, List.set_cons_succ])
      refine late_done (by kernel_rfl) ?_ _
      clear hHeld y0 y1 f0 f1 hp
      have hk6 := hk.below B6
      replace hu := hu.below (Nat.le_refl _) B6
      have hbw := bstep hb1 B6
      clear hk hv hfi HPV
      obtain ⟨c0, c1, c2⟩ := hk6.cells
      obtain ⟨y0, y1⟩ := hp6.cells
      have HK : Hid (TCell w6 g (.bool na) (.slice po pl pc) (.slice qo ql qc) ∧ PCell w6 pv (.int .u64 (fa : Int)) (.int .i64 fb)) := ⟨hk6, hp6⟩
      clear hk6 hp6 B6
      go_wp2_with fail
      go_region_held3 (fun w' => w'.cell? ⟨g, 0, none⟩ = some (.bool na) ∧ w'.cell? ⟨g, 1, none⟩ = some (.slice po pl pc) ∧ w'.cell? ⟨g, 2, none⟩ = some (.slice qo ql qc) ∧ w'.cell? ⟨pv, 0, none⟩ = some (.int .u64 (fa : Int)) ∧ w'.cell? ⟨pv, 1, none⟩ = some (.int .i64 fb)) (((try dsimp only); go_split_ands; refine ⟨?_, ?_, ?_, ?_, ?_⟩ <;> first | exact keepB1 (by with_reducible assumption) (by with_reducible assumption) | go_keep)) (first
    | (go_at_call 17; refine (hsg _ (hu.same (w' := w6.drew) rfl)).mono ?_; rintro e w7 ⟨rfl, hb7⟩)
    | (go_at_call 16; refine (hs1 _).mono ?_; rintro e w8 ⟨rfl, h8⟩; rw [h8]))
      all_goals
        have b0 : Below w6.heap.size w6 w7 := bstep (Below.refl _ _).drew hb7
        have hk7 := HK.out.1.below b0
        have hp7 := HK.out.2.below b0
        replace hu := hu.below (Nat.le_refl _) b0
        replace hbw := bstep hbw b0
        clear b0 hb7 c0 c1 c2 y0 y1 HK hs1
        obtain ⟨c0, c1, c2⟩ := hk7.cells
        obtain ⟨y0, y1⟩ := hp7.cells
        clear hk7 hp7
        go_wp2_with fail
        go_region_held3 (fun w' => w'.cell? ⟨g, 0, none⟩ = some (.bool na) ∧ w'.cell? ⟨g, 1, none⟩ = some (.slice po pl pc) ∧ w'.cell? ⟨g, 2, none⟩ = some (.slice qo ql qc) ∧ w'.cell? ⟨pv, 0, none⟩ = some (.int .u64 (fa : Int)) ∧ w'.cell? ⟨pv, 1, none⟩ = some (.int .i64 fb)) (((try dsimp only); go_split_ands; refine ⟨?_, ?_, ?_, ?_, ?_⟩ <;> first | exact keepB1 (by with_reducible assumption) (by with_reducible assumption) | go_keep)) (first
    | (go_at_call 17; refine (hsg _ (hu.same (w' := w7.drew) rfl)).mono ?_; rintro e w9 ⟨rfl, hb9⟩)
    | (go_at_call 31; refine (hab _).mono ?_; rintro e wa ⟨rfl, hba⟩)
    | (go_at_call 16; refine (hs2 _).mono ?_; rintro e wb ⟨rfl, h9⟩; rw [h9]))
        all_goals
          have HE : Hid (Below w.heap.size w wa) := bstep (bstep (bstep hbw (Below.refl _ _).drew) hb9) hba
          clear hb9 hba hbw hu c0 c1 c2 y0 y1 hsg hab hs2
          go_wp2
          go_ret2
          exact ⟨rfl, HE.out⟩
  · go_simp
    obtain ⟨w5, hw5⟩ : ∃ u, u = (W1.alloc (.cells #[.int .u64 0, .int .i64 0] 53)).drew := ⟨_, rfl⟩
    have hp : PCell w5 W1.heap.size (.int .u64 0) (.int .i64 0) := by rw [hw5]; exact (pcell_new W1 rfl).below (Below.refl _ _).drew
    have B5 : Below W1.heap.size W1 w5 := by rw [hw5]; exact bstep (belowA _ _) (Below.refl _ _).drew
    rw [← hw5]
    obtain ⟨pv, hpv⟩ : ∃ v, v = W1.heap.size := ⟨_, rfl⟩
    have HPV : Hid (W1.heap.size ≤ pv) := by show _ ≤ _; rw [hpv]; exact Nat.le_refl _
    rw [← hpv] at hp ⊢
    clear hpv hw5 hHeld
    have hHeld : AllL w5 [(1, fun w' => w'.cell? ⟨g, 0, none⟩ = some (.bool na) ∧ w'.cell? ⟨g, 1, none⟩ = some (.slice po pl pc) ∧ w'.cell? ⟨g, 2, none⟩ = some (.slice qo ql qc))] := ⟨(hk.below B5).cells, trivial⟩
    refine hK.out _ _ (AllL.kept hHeld) ?_
    clear hK K
    (try simp only [Act.put, List.setIfInBounds_toArray, List.set_cons_zero, List.set_cons_succ])
    refine late_step 0 (by kernel_rfl) rfl (fun K hK => ?_)
    go_simp
    refine (kindD _).mono ?_
    rintro e w3 ⟨rfl, hb3⟩
    have B3 : Below W1.heap.size W1 w3 := bstep B5 hb3
    replace hp := hp.below hb3
    clear hHeld
    have hHeld : AllL w3 [(1, fun w' => w'.cell? ⟨g, 0, none⟩ = some (.bool na) ∧ w'.cell? ⟨g, 1, none⟩ = some (.slice po pl pc) ∧ w'.cell? ⟨g, 2, none⟩ = some (.slice qo ql qc))] := ⟨(hk.below B3).cells, trivial⟩
    go_wp2_with fail
    refine hK.out _ _ (AllL.kept hHeld) ?_
    clear hK K
    (try simp only [Act.put, List.setIfInBounds_toArray, List.set_cons_zero, List.set_cons_succ])
    refine late_step 2 (by kernel_rfl) rfl (fun K hK => ?_)
    go_simp
    refine (hfi _ (hu.below (Nat.le_refl _) B3) (hv.below (Nat.le_refl _) B3)).mono ?_
    rintro e w4 ⟨rfl, hb4⟩
    have B4 : Below W1.heap.size W1 w4 := bstep B3 hb4
    replace hp := hp.below hb4
    clear hHeld
    have hHeld : AllL w4 [(1, fun w' => w'.cell? ⟨g, 0, none⟩ = some (.bool na) ∧ w'.cell? ⟨g, 1, none⟩ = some (.slice po pl pc) ∧ w'.cell? ⟨g, 2, none⟩ = some (.slice qo ql qc))] := ⟨(hk.below B4).cells, trivial⟩
    go_wp2_with fail
    refine hK.out _ _ (AllL.kept hHeld) ?_
    clear hK K
    (try simp only [Act.put, List.setIfInBounds_toArray, List.set_cons_zero, List.set_cons_succ])
    obtain ⟨y0, y1⟩ := hp.cells
    have f0 := hp.thaw 0
    have f1 := hp.thaw 1
    refine late_step 4 (by kernel_rfl) rfl (fun K hK => ?_)
    go_simp
    obtain ⟨w6, hw6⟩ : ∃ u, u = (w4.setCell ⟨pv, 0, none⟩ (.int .u64 (fa : Int))).setCell ⟨pv, 1, none⟩ (.int .i64 fb) := ⟨_, rfl⟩
    have hp6 : PCell w6 pv (.int .u64 (fa : Int)) (.int .i64 fb) := by rw [hw6]; exact hp.write _ _
    have B6 : Below W1.heap.size W1 w6 := by rw [hw6]; exact (B4.setCell (p := ⟨pv, 0, none⟩) HPV.out _).setCell (p := ⟨pv, 1, none⟩) HPV.out _
    rw [← hw6]
    clear hHeld hw6
    have hHeld : AllL w6 [(1, fun w' => w'.cell? ⟨g, 0, none⟩ = some (.bool na) ∧ w'.cell? ⟨g, 1, none⟩ = some (.slice po pl pc) ∧ w'.cell? ⟨g, 2, none⟩ = some (.slice qo ql qc))] := ⟨(hk.below B6).cells, trivial⟩
    refine hK.out _ _ (AllL.kept hHeld) ?_
    clear hK K
    (try simp only [Act.put, List.setIfInBounds_toArray, List.set_cons_zero, List.set_cons_succ])
    refine late_done (by kernel_rfl) ?_ _
    clear hHeld y0 y1 f0 f1 hp
    have hk6 := hk.below B6
    replace hu := hu.below (Nat.le_refl _) B6
    have hbw := bstep hb1 B6
    clear hk hv hfi HPV
    obtain ⟨c0, c1, c2⟩ := hk6.cells
    obtain ⟨y0, y1⟩ := hp6.cells
    have HK : Hid (TCell w6 g (.bool na) (.slice po pl pc) (.slice qo ql qc) ∧ PCell w6 pv (.int .u64 (fa : Int)) (.int .i64 fb)) := ⟨hk6, hp6⟩
    clear hk6 hp6 B6
    go_wp2_with fail
    go_region_held3 (fun w' => w'.cell? ⟨g, 0, none⟩ = some (.bool na) ∧ w'.cell? ⟨g, 1, none⟩ = some (.slice po pl pc) ∧ w'.cell? ⟨g, 2, none⟩ = some (.slice qo ql qc) ∧ w'.cell? ⟨pv, 0, none⟩ = some (.int .u64 (fa : Int)) ∧ w'.cell? ⟨pv, 1, none⟩ = some (.int .i64 fb)) (((try dsimp only); go_split_ands; refine ⟨?_, ?_, ?_, ?_, ?_⟩ <;> first | exact keepB1 (by with_reducible assumption) (by with_reducible assumption) | go_keep)) (first
    | (go_at_call 17; refine (hsg _ (hu.same (w' := w6.drew) rfl)).mono ?_; rintro e w7 ⟨rfl, hb7⟩)
    | (go_at_call 16; refine (hs1 _).mono ?_; rintro e w8 ⟨rfl, h8⟩; rw [h8]))
    all_goals
      have b0 : Below w6.heap.size w6 w7 := bstep (Below.refl _ _).drew hb7
      have hk7 := HK.out.1.below b0
      have hp7 := HK.out.2.below b0
      replace hu := hu.below (Nat.le_refl _) b0
      replace hbw := bstep hbw b0
      clear b0 hb7 c0 c1 c2 y0 y1 HK hs1
      obtain ⟨c0, c1, c2⟩ := hk7.cells
      obtain ⟨y0, y1⟩ := hp7.cells
      clear hk7 hp7
      go_wp2_with fail
      go_region_held3 (fun w' => w'.cell? ⟨g, 0, none⟩ = some (.bool na) ∧ w'.cell? ⟨g, 1, none⟩ = some (.slice po pl pc) ∧ w'.cell? ⟨g, 2, none⟩ = some (.slice qo ql qc) ∧ w'.cell? ⟨pv, 0, none⟩ = some (.int .u64 (fa : Int)) ∧ w'.cell? ⟨pv, 1, none⟩ = some (.int .i64 fb)) (((try dsimp only); go_split_ands; refine ⟨?_, ?_, ?_, ?_, ?_⟩ <;> first | exact keepB1 (by with_reducible assumption) (by with_reducible assumption) | go_keep)) (first
    | (go_at_call 17; refine (hsg _ (hu.same (w' := w7.drew) rfl)).mono ?_; rintro e w9 ⟨rfl, hb9⟩)
    | (go_at_call 31; refine (hab _).mono ?_; rintro e wa ⟨rfl, hba⟩)
    | (go_at_call 16; refine (hs2 _).mono ?_; rintro e wb ⟨rfl, h9⟩; rw [h9]))
      all_goals
        have HE : Hid (Below w.heap.size w wa) := bstep (bstep (bstep hbw (Below.refl _ _).drew) hb9) hba
        clear hb9 hba hbw hu c0 c1 c2 y0 y1 hsg hab hs2
        go_wp2
        go_ret2
        exact ⟨rfl, HE.out⟩
end Go.Proofs.YtbcddjibgaccpaaGreatDoor

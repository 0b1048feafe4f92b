/-
  Proved here: package prune's closures, and what ways answer of a point, asked one behind the other.
  Proved here: plain mathematics of layer 17: parents may be that go by a rank; parents with further points above some, each with one tie; which tables tell something.
-/
import Derived.Test.YthdpomgpcblpeaaGreatSpKAll
namespace Go.Proofs.YthdpomgpcblpeaaGreat
set_option linter.unusedVariables false
open Go.RowKit Go.Shelf Go.Sort Go.Lib
theorem Tryz.infoFn : (Tryz.prog.info? 43).map (fun i => (i.zero, i.size, i.bytes)) = some (some .nilFunc, 1, 8) := by kernel_rfl
/-- A closure that looks a point up in a list that lies in a box. -/
def amV (gb : Nat) : Value := .func (.func 36) #[] #[.pointer (some ⟨gb, 0, none⟩)]
structure AmC (B : Nat) (W : World) (gb : Nat) (L : List Int) : Prop where
  ex : ∃ lo ln lc, W.cell? ⟨gb, 0, none⟩ = some (.slice lo ln lc) ∧ RG (Value.int .i64) W (.slice lo ln lc) L ∧ ∀ q, (Value.slice lo ln lc).ownBlock = some q → B ≤ q
  lo : B ≤ gb
  rise : Rise L
  len : L.length ≤ 200000
theorem AmC.below {B : Nat} {W W' : World} {gb : Nat} {L : List Int} (h : AmC B W gb L) (hb : Below W.heap.size W W') : AmC B W' gb L := by
  obtain ⟨⟨lo, ln, lc, h1, h2, h5⟩, h6, h3, h4⟩ := h
  exact ⟨⟨lo, ln, lc, keepR hb h1, h2.below (Nat.le_refl _) hb, h5⟩, h6, h3, h4⟩
theorem cell_grown {W W' : World} {rb : Option Nat} {g i : Nat} {x : Value} (hg : W.grownBy W' rb) (hne : rb ≠ some g) (h : W.cell? ⟨g, i, none⟩ = some x) : W'.cell? ⟨g, i, none⟩ = some x := by
  rw [World.cell?_of_block (hg.block g (block_lt_of_cell h) (fun e => hne e.symm))]; exact h
theorem AmC.stay {B : Nat} {W W' : World} {gb : Nat} {L : List Int} {rb : Option Nat} (h : AmC B W gb L) (hg : W.grownBy W' rb) (hv : ∀ q, rb = some q → q < B) : AmC B W' gb L := by
  obtain ⟨⟨lo, ln, lc, h1, h2, h5⟩, h6, h3, h4⟩ := h
  refine ⟨⟨lo, ln, lc, cell_grown hg (fun e => by have := hv gb e; omega) h1, ?_, h5⟩, h6, h3, h4⟩
  obtain ⟨ao, cap, e0, k1, k2, k3, k5⟩ := h2
  refine ⟨ao, cap, e0, k1, k2, k3, fun j x hj => ?_⟩
  obtain ⟨b, off, e1, hc⟩ := k5 j x hj
  exact ⟨b, off, e1, cell_grown hg (fun e => by have h7 := hv b e; have h8 := h5 b (by rw [e0, e1]; rfl); omega) hc⟩
set_option maxRecDepth 1000000 in
set_option maxHeartbeats 1600000 in
theorem amongC (gb : Nat) (L : List Int) (x : Int) (w : World) {B : Nat} (h : AmC B w gb L) : Calls Tryz.prog 36 #[.int .i64 x, .pointer (some ⟨gb, 0, none⟩)] w fun e w' => e = .returned (.bool (decide (x ∈ L))) ∧ Below w.heap.size w w' := by
  obtain ⟨⟨lo, ln, lc, hc, hr, -⟩, -, hri, hl⟩ := h
  obtain ⟨b, hb⟩ : ∃ b, b = decide (x ∈ L) := ⟨_, rfl⟩
  have C : Hid (Calls Tryz.prog 37 #[.slice lo ln lc, .int .i64 x] w fun e w' => ∃ k : Nat, e = .returned (.tuple #[.int .i64 k, .bool b]) ∧ Below w.heap.size w w') :=
    (searchI (.slice lo ln lc) L x w hr (Rs.srt ordI (rs_rise.2 hri)) (by omega)).mono fun e w' ⟨k, h1, h2, q, h3⟩ => ⟨k, by rw [h1, fndI_has (rs_rise.2 hri) h2, hasI_mem, ← hb], by rw [h3]; exact below_drewN (Below.refl _ _) q⟩
  rw [← hb]
  clear hr hri hl hb
  go_enter Tryz.func36, Tryz.ntmps36
  go_wp2_with fail
  refine Calls.mono C.out ?_
  rintro e y ⟨k, rfl, hy⟩
  have HY : Hid (Below w.heap.size w y) := hy
  clear C hy hc
  go_wp2
  go_ret
  exact ⟨rfl, HY.out⟩
set_option maxRecDepth 1000000 in
set_option maxHeartbeats 1600000 in
theorem amongS (B : Nat) (lo : Option Addr) (ln lc : Nat) (L : List Int) (w : World) (hB : B ≤ w.heap.size) (hlo : ∀ q, (Value.slice lo ln lc).ownBlock = some q → B ≤ q) (hr : RG (Value.int .i64) w (.slice lo ln lc) L) (hri : Rise L) (hl : L.length ≤ 200000) : Calls Tryz.prog 24 #[.slice lo ln lc] w fun e w' => ∃ gb, e = .returned (amV gb) ∧ AmC B w' gb L ∧ Below w.heap.size w w' := by
  obtain ⟨w1, hw1⟩ : ∃ W, W = w.alloc (.cells #[.slice lo ln lc] 23) := ⟨_, rfl⟩
  obtain ⟨g, hg⟩ : ∃ g, g = w.heap.size := ⟨_, rfl⟩
  have b1 : Below w.heap.size w w1 := by rw [hw1]; exact belowB _ _
  have c1 : w1.cell? ⟨g, 0, none⟩ = some (.slice lo ln lc) := by rw [hw1, hg, World.cell?_alloc_at _ _ _ _ rfl]; rfl
  have HA : Hid (AmC B w1 g L) := ⟨⟨lo, ln, lc, c1, hr.below (Nat.le_refl _) b1, hlo⟩, by rw [hg]; exact hB, hri, hl⟩
  have HB : Hid (Below w.heap.size w w1) := b1
  have HW : Hid (w1 = w.alloc (.cells #[.slice lo ln lc] 23)) := hw1
  have HG : Hid (g = w.heap.size) := hg
  clear hw1 hg b1 c1 hr hri hl hlo hB
  go_enter Tryz.func24, Tryz.ntmps24
  go_upto_region 1 with fail
  rw [← HW.out, ← HG.out]
  clear HW HG
  go_wp2
  go_ret
  exact ⟨g, rfl, HA.out, HB.out⟩
/-- A closure that looks up the new point above one. -/
def keV (gt gp : Nat) : Value := .func (.func 27) #[] #[.pointer (some ⟨gt, 0, none⟩), .pointer (some ⟨gp, 0, none⟩)]
structure KeC (B : Nat) (W : World) (gt gp : Nat) (L : List Int) (n : Nat) : Prop where
  ex : ∃ gb po pc, W.cell? ⟨gt, 0, none⟩ = some (amV gb) ∧ AmC B W gb L ∧ W.cell? ⟨gp, 0, none⟩ = some (.slice po n pc)
  lo : B ≤ gt
  nb : n ≤ 100000
theorem KeC.below {B : Nat} {W W' : World} {gt gp : Nat} {L : List Int} {n : Nat} (h : KeC B W gt gp L n) (hb : Below W.heap.size W W') : KeC B W' gt gp L n := by
  obtain ⟨⟨gb, po, pc, h1, h2, h3⟩, h5, h4⟩ := h
  exact ⟨⟨gb, po, pc, keepR hb h1, h2.below hb, keepR hb h3⟩, h5, h4⟩
theorem KeC.stay {B : Nat} {W W' : World} {gt gp : Nat} {L : List Int} {n : Nat} {rb : Option Nat} (h : KeC B W gt gp L n) (hg : W.grownBy W' rb) (hv : ∀ q, rb = some q → q < B ∧ q ≠ gp) : KeC B W' gt gp L n := by
  obtain ⟨⟨gb, po, pc, h1, h2, h3⟩, h5, h4⟩ := h
  exact ⟨⟨gb, po, pc, cell_grown hg (fun e => by have := (hv gt e).1; omega) h1, h2.stay hg (fun q e => (hv q e).1), cell_grown hg (fun e => (hv gp e).2 rfl) h3⟩, h5, h4⟩
set_option maxRecDepth 1000000 in
set_option maxHeartbeats 1600000 in
theorem keptC (gt gp : Nat) (L : List Int) (n : Nat) (k : Nat) (hk : k ≤ 100000) (w : World) {B : Nat} (h : KeC B w gt gp L n) : Calls Tryz.prog 27 #[.int .i64 (k : Int), .pointer (some ⟨gt, 0, none⟩), .pointer (some ⟨gp, 0, none⟩)] w fun e w' => e = .returned (.bool (!decide (((n + k : Nat) : Int) ∈ L))) ∧ Below w.heap.size w w' := by
  obtain ⟨⟨gb, po, pc, h1, h2, h3⟩, -, h4⟩ := h
  have C : Hid _ := amongC gb L ((n + k : Nat) : Int) w h2
  obtain ⟨b, hb⟩ : ∃ b, b = decide (((n + k : Nat) : Int) ∈ L) := ⟨_, rfl⟩
  rw [← hb] at C ⊢
  obtain ⟨m, hm⟩ : ∃ m, m = n + k := ⟨_, rfl⟩
  rw [← hm] at C
  have hmz : IntKind.i64.wrap ((n : Int) + (k : Int)) = (m : Int) := by rw [IntKind.wrap_i64]; omega
  unfold amV at h1
  clear h2 hb hm
  go_enter Tryz.func27, Tryz.ntmps27
  go_wp2_with fail
  refine Calls.mono C.out ?_
  rintro e y ⟨rfl, hy⟩
  have HY : Hid (Below w.heap.size w y) := hy
  clear C hy h1 h3
  go_wp2
  go_ret
  exact ⟨rfl, HY.out⟩
/-- A way of leaving out, and what it answers of a point. -/
inductive WayB (W : World) : Value → (Nat → Bool) → Prop
  | am {B gb : Nat} {L : List Int} : AmC B W gb L → WayB W (amV gb) (fun k => decide ((k : Int) ∈ L))
  | ke {B gt gp : Nat} {L : List Int} {n : Nat} : KeC B W gt gp L n → WayB W (keV gt gp) (fun k => !decide (((n + k : Nat) : Int) ∈ L))
theorem WayB.below {W W' : World} {v : Value} {p : Nat → Bool} (h : WayB W v p) (hb : Below W.heap.size W W') : WayB W' v p := by
  cases h with
  | am h => exact WayB.am (h.below hb)
  | ke h => exact WayB.ke (h.below hb)
theorem WayB.one {W : World} {v : Value} {p : Nat → Bool} (h : WayB W v p) : v.oneCell' = true := by
  cases h with
  | am h => rfl
  | ke h => rfl
set_option maxRecDepth 1000000 in
set_option maxHeartbeats 1600000 in
theorem leaves1 (v : Value) (p : Nat → Bool) (gx k : Nat) (hk : k ≤ 100000) (w : World) (h : WayB w v p) (hc : w.cell? ⟨gx, 0, none⟩ = some (.int .i64 (k : Int))) : Calls Tryz.prog 35 #[v, .pointer (some ⟨gx, 0, none⟩)] w fun e w' => e = .returned (.bool (p k)) ∧ Below w.heap.size w w' := by
  cases h with
  | @am B gb L h =>
    have C : Hid _ := amongC gb L (k : Int) w h
    obtain ⟨b, hb⟩ : ∃ b, b = decide ((k : Int) ∈ L) := ⟨_, rfl⟩
    show Calls _ _ _ _ (fun e w' => e = .returned (.bool (decide ((k : Int) ∈ L))) ∧ _)
    rw [← hb] at C ⊢
    unfold amV
    clear h hb
    go_enter Tryz.func35, Tryz.ntmps35
    go_wp2_with fail
    refine Calls.mono C.out ?_
    rintro e y ⟨rfl, hy⟩
    have HY : Hid (Below w.heap.size w y) := hy
    clear C hy hc
    go_wp2
    go_ret
    exact ⟨rfl, HY.out⟩
  | @ke B gt gp L n h =>
    have C : Hid _ := keptC gt gp L n k hk w h
    obtain ⟨b, hb⟩ : ∃ b, b = !decide (((n + k : Nat) : Int) ∈ L) := ⟨_, rfl⟩
    show Calls _ _ _ _ (fun e w' => e = .returned (.bool (!decide (((n + k : Nat) : Int) ∈ L))) ∧ _)
    rw [← hb] at C ⊢
    unfold keV
    clear h hb
    go_enter Tryz.func35, Tryz.ntmps35
    go_wp2_with fail
    refine Calls.mono C.out ?_
    rintro e y ⟨rfl, hy⟩
    have HY : Hid (Below w.heap.size w y) := hy
    clear C hy hc
    go_wp2
    go_ret
    exact ⟨rfl, HY.out⟩
/-- A row of ways. -/
structure WaysB (W : World) (v : Value) (vs : List Value) (ps : List (Nat → Bool)) : Prop where
  row : RG id W v vs
  len : vs.length = ps.length
  way : ∀ (i : Nat) (u : Value) (p : Nat → Bool), vs[i]? = some u → ps[i]? = some p → WayB W u p
theorem WaysB.below {W W' : World} {v : Value} {vs : List Value} {ps : List (Nat → Bool)} (h : WaysB W v vs ps) (hb : Below W.heap.size W W') : WaysB W' v vs ps :=
  ⟨h.row.below (Nat.le_refl _) hb, h.len, fun i u p h1 h2 => (h.way i u p h1 h2).below hb⟩
def anyW (ps : List (Nat → Bool)) (k : Nat) : Bool := ps.any fun p => p k
theorem anyW_take {ps : List (Nat → Bool)} {i k : Nat} {p : Nat → Bool} (h : ps[i]? = some p) : anyW (ps.take (i + 1)) k = (anyW (ps.take i) k || p k) := by
  unfold anyW
  rw [List.take_add_one, h, List.any_append]
  simp
theorem anyW_at {ps : List (Nat → Bool)} {i k : Nat} {p : Nat → Bool} (h : ps[i]? = some p) (hp : p k = true) : anyW ps k = true := List.any_eq_true.2 ⟨p, List.mem_of_getElem? h, hp⟩
set_option maxRecDepth 1000000 in
set_option maxHeartbeats 3200000 in
theorem indexW (gx k : Nat) (hk : k ≤ 100000) (v : Value) (vs : List Value) (ps : List (Nat → Bool)) (w : World) (h : WaysB w v vs ps) (hc : w.cell? ⟨gx, 0, none⟩ = some (.int .i64 (k : Int))) :
    Calls Tryz.prog 50 #[v, .func (.func 35) #[] #[.pointer (some ⟨gx, 0, none⟩)]] w fun e w' => ∃ r, e = .returned (.int .i64 r) ∧ Found r (anyW ps k) ∧ Below w.heap.size w w' := by
  obtain ⟨vo, n, vc, rfl⟩ : ∃ o n c, v = .slice o n c := by obtain ⟨ao, cap, e⟩ := h.row.sl; exact ⟨_, _, _, e⟩
  have hvl := h.row.len
  have hnm : n ≤ 9223372036854775807 := by have := h.row.room.1; have := h.row.room.2.1; unfold maxLen at *; omega
  have HR : Hid (∀ W, Below w.heap.size w W → WaysB W (.slice vo n vc) vs ps) := fun W hW => h.below hW
  have HC : Hid (∀ W, Below w.heap.size w W → W.cell? ⟨gx, 0, none⟩ = some (.int .i64 (k : Int))) := fun W hW => keepR hW hc
  have HN : Hid (vs.length = n) := hvl
  have HP : Hid (ps.length = n) := h.len.symm.trans hvl
  clear h hc hvl
  go_enter Tryz.func50, Tryz.ntmps50
  go_wp2
  go_loopg [5, 8] n (fun g1 _v5 v8 wr => ∃ i : Nat, v8 = .int .i64 i ∧ i ≤ n ∧ n - i ≤ g1 ∧ Hid (anyW (ps.take i) k = false) ∧ Hid (Below w.heap.size w wr))
  case atStart => exact ⟨0, rfl, Nat.zero_le _, by omega, rfl, Below.refl _ _⟩
  case round =>
    obtain ⟨i, rfl, hin, hg1, HNO, HB⟩ := hrel
    by_cases hlt : i < n
    · have hltz : (i : Int) < (n : Int) := by omega
      have hW := HR.out wr HB.out
      obtain ⟨u, go, oo, hu1, rfl, hu2⟩ := hW.row.at hlt
      change wr.cell? ⟨go, oo + i, none⟩ = some u at hu2
      obtain ⟨p, hp⟩ : ∃ p, ps[i]? = some p := ⟨_, List.getElem?_eq_getElem (by rw [HP.out]; exact hlt)⟩
      have hway := hW.way i u p hu1 hp
      have hone : u.oneCell' = true := hway.one
      have CE : Hid _ := leaves1 u p gx k hk wr hway (HC.out wr HB.out)
      have HS : Hid (ps[i]? = some p) := hp
      obtain ⟨b, hb⟩ : ∃ b, b = p k := ⟨_, rfl⟩
      rw [← hb] at CE
      have HBB : Hid (b = p k) := hb
      clear hp hway hu1 hb hW
      go_wp2_with fail
      refine Calls.mono CE.out ?_
      rintro e y ⟨rfl, hy⟩
      have HY : Hid (Below w.heap.size w y) := bstepB HB.out hy
      clear CE hy hu2 HB
      cases b with
      | true =>
        have HK : Hid (anyW ps k = true) := anyW_at HS.out HBB.out.symm
        go_wp2
        go_ret
        exact ⟨_, rfl, ⟨fun _ => ⟨by omega, by omega⟩, fun h => absurd HK.out (by rw [h]; exact Bool.false_ne_true)⟩, HY.out⟩
      | false =>
        have HN2 : Hid (anyW (ps.take (i + 1)) k = false) := by show _ = _; rw [anyW_take HS.out, HNO.out, ← HBB.out]; rfl
        clear HNO HS HBB
        go_wp2
        go_roundg (n - (i + 1))
        case measure => omega
        case rel => exact ⟨i + 1, by go_num, by omega, Nat.le_refl _, HN2, HY⟩
    · have hltz : ¬ (i : Int) < (n : Int) := by omega
      have HK : Hid (anyW ps k = false) := by have h1 := HNO.out; rw [List.take_of_length_le (by rw [HP.out]; omega)] at h1; exact h1
      go_wp2
      go_ret
      exact ⟨_, rfl, ⟨fun h => absurd h (by rw [HK.out]; exact Bool.false_ne_true), fun _ => rfl⟩, HB.out⟩
set_option maxRecDepth 1000000 in
set_option maxHeartbeats 1600000 in
theorem containsW (gx k : Nat) (hk : k ≤ 100000) (v : Value) (vs : List Value) (ps : List (Nat → Bool)) (w : World) (h : WaysB w v vs ps) (hc : w.cell? ⟨gx, 0, none⟩ = some (.int .i64 (k : Int))) :
    Calls Tryz.prog 34 #[v, .func (.func 35) #[] #[.pointer (some ⟨gx, 0, none⟩)]] w fun e w' => e = .returned (.bool (anyW ps k)) ∧ Below w.heap.size w w' := by
  have C : Hid _ := indexW gx k hk v vs ps w h hc
  obtain ⟨b, hb⟩ : ∃ b, b = anyW ps k := ⟨_, rfl⟩
  rw [← hb] at C ⊢
  clear hb
  obtain ⟨vo, n, vc, rfl⟩ : ∃ o n c, v = .slice o n c := by obtain ⟨ao, cap, e⟩ := h.row.sl; exact ⟨_, _, _, e⟩
  clear h hc
  go_enter Tryz.func34, Tryz.ntmps34
  go_wp2_with fail
  refine Calls.mono C.out ?_
  rintro e y ⟨r, rfl, hf, hy⟩
  have HY : Hid (Below w.heap.size w y) := hy
  have hd := hf.dec
  clear C hy hf
  go_wp2
  go_ret
  exact ⟨rfl, HY.out⟩
end Go.Proofs.YthdpomgpcblpeaaGreat

namespace Go.Proofs.YthdpomgpcblpeaaGreat
set_option linter.unusedVariables false
open Go.RowKit Go.Shelf Go.Sort Go.Lib
theorem subs_len : ∀ {L M : List Int}, L.Nodup → (∀ x ∈ L, x ∈ M) → L.length ≤ M.length
  | [], _, _, _ => Nat.zero_le _
  | x :: L, M, h, hs => by
    have h1 := List.nodup_cons.1 h
    have hx : x ∈ M := hs x (List.mem_cons_self ..)
    have h2 := subs_len (L := L) (M := M.erase x) h1.2 (fun y hy => (List.mem_erase_of_ne (fun e : y = x => h1.1 (by rw [← e]; exact hy))).2 (hs y (List.mem_cons_of_mem _ hy)))
    rw [List.length_erase_of_mem hx] at h2
    have h3 := List.length_pos_of_mem hx
    rw [List.length_cons]
    omega
/-- Parents of a rank below their own may be. -/
theorem ck_rank {P : List (List Int)} (r : Nat → Nat) (h : ∀ j, (P.getD j []).Nodup ∧ ∀ x ∈ P.getD j [], ∃ q : Nat, x = (q : Int) ∧ q < P.length ∧ r q < r j) : ckE P = 0 := by
  have get : ∀ M ∈ P, ∃ j, j < P.length ∧ P.getD j [] = M := fun M hM => by
    obtain ⟨j, hj, e⟩ := List.mem_iff_getElem.1 hM
    exact ⟨j, hj, by rw [List.getD_eq_getElem?_getD, List.getElem?_eq_getElem hj, e]; rfl⟩
  have h1 : outsB P = false := List.any_eq_false.2 fun M hM => by
    obtain ⟨j, hj, rfl⟩ := get M hM
    have : noPts (P.length : Int) (P.getD j []) = false := List.any_eq_false.2 fun x hx => by
      obtain ⟨p, rfl, hp, -⟩ := (h j).2 x hx
      simp [noPt]; omega
    simpa using this
  have h2 : twicesB P = false := List.any_eq_false.2 fun M hM => by
    obtain ⟨j, hj, rfl⟩ := get M hM
    simpa [twiceB] using (h j).1
  have hc : clE P = 0 := by unfold clE; rw [h1, h2]; rfl
  have hpn : Pts P.length ([] : List Int) := ⟨List.nodup_nil, by simp⟩
  obtain ⟨-, hpts, -, hno⟩ := out_all (P := P) P.length [] hpn
  have hno2 := hno (by simp)
  have hall : ∀ m i, r i ≤ m → i < P.length → (i : Int) ∈ outF P P.length [] := fun m => by
    induction m with
    | zero =>
      intro i hi hl
      refine Classical.byContradiction fun hc => hno2 i hl ⟨hc, fun p hp => ?_⟩
      obtain ⟨q, rfl, hq, hr⟩ := (h i).2 p hp
      omega
    | succ m ih =>
      intro i hi hl
      refine Classical.byContradiction fun hc => hno2 i hl ⟨hc, fun p hp => ?_⟩
      obtain ⟨q, rfl, hq, hr⟩ := (h i).2 p hp
      exact ih q (by omega) hq
  have hlen : P.length ≤ (outL P).length := by
    have h5 := subs_len (L := (List.range P.length).map (fun i : Nat => (i : Int))) (M := outL P) (List.pairwise_map.2 (List.nodup_range.imp (fun hne e => hne (by omega)))) (fun x hx => by
      obtain ⟨i, hi, rfl⟩ := List.mem_map.1 hx
      exact hall (r i) i (Nat.le_refl _) (List.mem_range.1 hi))
    rwa [List.length_map, List.length_range] at h5
  unfold ckE
  rw [if_pos hc, if_neg (by omega)]
theorem at_lt {P : List (List Int)} {j : Nat} {x : Int} (h : x ∈ P.getD j []) : j < P.length := by
  by_cases hl : j < P.length
  · exact hl
  · rw [List.getD_eq_getElem?_getD, List.getElem?_eq_none (by omega)] at h
    simp at h
/-- Parents that may be go by a rank. -/
theorem rank_of {P : List (List Int)} (h : ckE P = 0) : ∃ r : Nat → Nat, ∀ j, (P.getD j []).Nodup ∧ ∀ x ∈ P.getD j [], ∃ q : Nat, x = (q : Int) ∧ q < P.length ∧ r q < r j := by
  have hl : (outL P).length = P.length := by
    have hc := ck_zero h
    unfold ckE at h
    rw [if_pos hc] at h
    by_cases h3 : (outL P).length < P.length
    · rw [if_pos h3] at h; simp at h
    · have hpn : Pts P.length ([] : List Int) := ⟨List.nodup_nil, by simp⟩
      have hP : Pts P.length (outL P) := (out_all (P := P) P.length [] hpn).2.1
      have h4 := hP.len
      omega
  have hz := cl_zero (ck_zero h)
  refine ⟨fun q => (plF (outL P) (q : Int)).toNat, fun j => ⟨twices_no hz.2 j, fun x hx => ?_⟩⟩
  obtain ⟨q, rfl, hq⟩ := outs_no hz.1 j x hx
  obtain ⟨k, hk, hp⟩ := out_place hl (at_lt hx)
  obtain ⟨m, hm, -⟩ := out_place hl hq
  have h2 := hp _ hx
  refine ⟨q, rfl, hq, ?_⟩
  show (plF (outL P) (q : Int)).toNat < (plF (outL P) (j : Int)).toNat
  rw [hk, hm]
  rw [hm] at h2
  omega
/-- Further points above some, each with one tie and no parents. -/
structure ExtP (P Q : List (List Int)) : Prop where
  le : P.length ≤ Q.length
  sub : ∀ (i : Nat) (x : Int), x ∈ P.getD i [] → x ∈ Q.getD i []
  new : ∀ (i : Nat) (x : Int), x ∈ Q.getD i [] → x ∉ P.getD i [] → ∃ m : Nat, x = (m : Int) ∧ P.length ≤ m ∧ m < Q.length
  top : ∀ i : Nat, P.length ≤ i → Q.getD i [] = []
  one : ∀ (i j m : Nat), P.length ≤ m → (m : Int) ∈ Q.getD i [] → (m : Int) ∈ Q.getD j [] → i = j
  nd : ∀ i : Nat, (Q.getD i []).Nodup
theorem ExtP.ck {P Q : List (List Int)} (h : ExtP P Q) (h0 : ckE P = 0) : ckE Q = 0 := by
  obtain ⟨r, hr⟩ := rank_of h0
  refine ck_rank (fun q => if q < P.length then r q + 1 else 0) fun j => ⟨h.nd j, fun x hx => ?_⟩
  have hj : j < P.length := by
    by_cases hl : j < P.length
    · exact hl
    · rw [h.top j (by omega)] at hx; simp at hx
  by_cases hp : x ∈ P.getD j []
  · obtain ⟨q, rfl, hq, hlt⟩ := (hr j).2 x hp
    exact ⟨q, rfl, Nat.lt_of_lt_of_le hq h.le, by simp only [if_pos hq, if_pos hj]; omega⟩
  · obtain ⟨m, rfl, h1, h2⟩ := h.new j x hx hp
    exact ⟨m, rfl, h2, by simp only [if_pos hj, if_neg (show ¬ m < P.length by omega)]; omega⟩
theorem ExtP.rn {P Q : List (List Int)} (h : ExtP P Q) (hP : ∀ (i : Nat) (x : Int), x ∈ P.getD i [] → ∃ p : Nat, x = (p : Int) ∧ p < P.length) : ∀ (k g x : Nat), g < P.length → x < P.length → (Rn Q k (g : Int) (x : Int) ↔ Rn P k (g : Int) (x : Int))
  | 0, g, x, _, _ => Iff.rfl
  | k + 1, g, x, hg, hx => by
    constructor
    · rintro ⟨z, hz, hr⟩
      rw [Int.toNat_natCast] at hz
      by_cases hp : z ∈ P.getD g []
      · obtain ⟨q, rfl, hq⟩ := hP g z hp
        exact ⟨q, by rw [Int.toNat_natCast]; exact hp, (ExtP.rn h hP k q x hq hx).1 hr⟩
      · obtain ⟨m, rfl, h1, h2⟩ := h.new g z hz hp
        cases k with
        | zero =>
          have e : (m : Int) = (x : Int) := hr
          omega
        | succ k =>
          obtain ⟨y, hy, -⟩ := hr
          rw [Int.toNat_natCast, h.top m h1] at hy
          simp at hy
    · rintro ⟨z, hz, hr⟩
      rw [Int.toNat_natCast] at hz
      obtain ⟨q, rfl, hq⟩ := hP g z hz
      exact ⟨q, by rw [Int.toNat_natCast]; exact h.sub g _ hz, (ExtP.rn h hP k q x hq hx).2 hr⟩
/-- Of the points that were there the same are above some of them. -/
theorem ExtP.abv {P Q : List (List Int)} (h : ExtP P Q) (hP : ∀ (i : Nat) (x : Int), x ∈ P.getD i [] → ∃ p : Nat, x = (p : Int) ∧ p < P.length) {G : List Int} (hG : ∀ x ∈ G, ∃ p : Nat, x = (p : Int) ∧ p < P.length) {A B : List Int} (hA : AbvP P G A) (hB : AbvP Q G B) {x : Nat} (hx : x < P.length) : (x : Int) ∈ B ↔ (x : Int) ∈ A := by
  rw [hA.2, hB.2]
  constructor
  · rintro ⟨g, hg, k, hr⟩
    obtain ⟨p, rfl, hp⟩ := hG g hg
    exact ⟨_, hg, k, (h.rn hP k p x hp hx).1 hr⟩
  · rintro ⟨g, hg, k, hr⟩
    obtain ⟨p, rfl, hp⟩ := hG g hg
    exact ⟨_, hg, k, (h.rn hP k p x hp hx).2 hr⟩
/-- A point's table tells something: what is led to may be left toward a parent. -/
def TabP (P : List (List Int)) (n : Nat) (G A a : List Int) (v : Int) : Prop := ∃ d, StR (nxS P n G A) a (v, d) ∧ ((d = true ∧ v ∈ A) ∨ (d = false ∧ v ∉ G))
theorem ExtP.str {P Q : List (List Int)} (h : ExtP P Q) (hP : ∀ (i : Nat) (x : Int), x ∈ P.getD i [] → ∃ p : Nat, x = (p : Int) ∧ p < P.length) {G A B a : List Int} (hG : ∀ x ∈ G, ∃ p : Nat, x = (p : Int) ∧ p < P.length) (hA : AbvP P G A) (hB : AbvP Q G B) (ha : ∀ x ∈ a, ∃ p : Nat, x = (p : Int) ∧ p < P.length) {s : Stp} (hs : StR (nxS Q Q.length G B) a s) :
    (∃ x : Nat, s.1 = (x : Int) ∧ x < P.length ∧ (StR (nxS P P.length G A) a s ∨ (s.2 = true ∧ TabP P P.length G A a s.1))) ∨ (∃ x v : Nat, s.1 = (x : Int) ∧ P.length ≤ x ∧ s.2 = false ∧ v < P.length ∧ s.1 ∈ Q.getD v [] ∧ TabP P P.length G A a (v : Int)) := by
  induction hs with
  | start hp =>
    obtain ⟨q, rfl, hq⟩ := ha _ hp
    exact Or.inl ⟨q, rfl, hq, Or.inl (StR.start hp)⟩
  | @step s t hs ht ih =>
    obtain ⟨sx, sd⟩ := s
    obtain ⟨tx, td⟩ := t
    rcases nx_mem.1 ht with ⟨h1, h2, h3⟩ | ⟨h1, h2, h3⟩
    · simp only at h1 h2 h3
      subst h2
      rcases ih with ⟨x, hx, hxn, hd⟩ | ⟨x, v, hx, hxn, hd, hv, hq, htab⟩
      · simp only at hx
        subst hx
        rw [Int.toNat_natCast] at h3
        obtain ⟨i, hi, rfl, hm⟩ := chF_mem.1 h3
        have hiP : i < P.length := by
          by_cases hl : i < P.length
          · exact hl
          · rw [h.top i (by omega)] at hm; simp at hm
        have hmP : (x : Int) ∈ P.getD i [] := Classical.byContradiction fun hc => by
          obtain ⟨m, e, h4, -⟩ := h.new i _ hm hc
          omega
        refine Or.inl ⟨i, rfl, hiP, Or.inl ?_⟩
        rcases hd with hd | ⟨-, d, hd, -⟩
        · exact StR.step hd (nx_mem.2 (Or.inl ⟨h1, rfl, by simp only [Int.toNat_natCast]; exact chF_mem.2 ⟨i, hiP, rfl, hmP⟩⟩))
        · exact StR.step hd (nx_mem.2 (Or.inl ⟨h1, rfl, by simp only [Int.toNat_natCast]; exact chF_mem.2 ⟨i, hiP, rfl, hmP⟩⟩))
      · simp only at hx hq
        subst hx
        rw [Int.toNat_natCast] at h3
        obtain ⟨i, hi, rfl, hm⟩ := chF_mem.1 h3
        have e := h.one i v x hxn hm hq
        subst e
        exact Or.inl ⟨i, rfl, hv, Or.inr ⟨rfl, htab⟩⟩
    · simp only at h1 h2 h3
      subst h2
      rcases ih with ⟨x, hx, hxn, hd⟩ | ⟨x, v, hx, hxn, hd, hv, hq, htab⟩
      · simp only at hx
        subst hx
        rw [Int.toNat_natCast] at h3
        have htab : TabP P P.length G A a (x : Int) := by
          rcases hd with hd | ⟨-, hd⟩
          · refine ⟨sd, hd, ?_⟩
            rcases h1 with ⟨h4, h5⟩ | h4
            · exact Or.inl ⟨h4, (h.abv hP hG hA hB hxn).1 h5⟩
            · exact Or.inr h4
          · exact hd
        by_cases hp : tx ∈ P.getD x []
        · obtain ⟨q, rfl, hq⟩ := hP x tx hp
          refine Or.inl ⟨q, rfl, hq, Or.inl ?_⟩
          obtain ⟨d, h6, h7⟩ := htab
          exact StR.step h6 (nx_mem.2 (Or.inr ⟨h7, rfl, by simp only [Int.toNat_natCast]; exact hp⟩))
        · obtain ⟨m, rfl, h4, h5⟩ := h.new x tx h3 hp
          exact Or.inr ⟨m, x, rfl, h4, rfl, hxn, h3, htab⟩
      · simp only at hx
        subst hx
        rw [Int.toNat_natCast, h.top x hxn] at h3
        simp at h3
theorem ExtP.str_sub {P Q : List (List Int)} (h : ExtP P Q) (hP : ∀ (i : Nat) (x : Int), x ∈ P.getD i [] → ∃ p : Nat, x = (p : Int) ∧ p < P.length) {G A B a : List Int} (hG : ∀ x ∈ G, ∃ p : Nat, x = (p : Int) ∧ p < P.length) (hA : AbvP P G A) (hB : AbvP Q G B) (ha : ∀ x ∈ a, ∃ p : Nat, x = (p : Int) ∧ p < P.length) {s : Stp} (hs : StR (nxS P P.length G A) a s) : (∃ x : Nat, s.1 = (x : Int) ∧ x < P.length) ∧ StR (nxS Q Q.length G B) a s := by
  induction hs with
  | start hp => exact ⟨ha _ hp, StR.start hp⟩
  | @step s t hs ht ih =>
    obtain ⟨⟨x, hx, hxn⟩, ih⟩ := ih
    obtain ⟨sx, sd⟩ := s
    obtain ⟨tx, td⟩ := t
    simp only at hx
    subst hx
    rcases nx_mem.1 ht with ⟨h1, h2, h3⟩ | ⟨h1, h2, h3⟩
    · simp only at h1 h2 h3
      subst h2
      rw [Int.toNat_natCast] at h3
      obtain ⟨i, hi, rfl, hm⟩ := chF_mem.1 h3
      exact ⟨⟨i, rfl, hi⟩, StR.step ih (nx_mem.2 (Or.inl ⟨h1, rfl, by simp only [Int.toNat_natCast]; exact chF_mem.2 ⟨i, Nat.lt_of_lt_of_le hi h.le, rfl, h.sub i _ hm⟩⟩))⟩
    · simp only at h1 h2 h3
      subst h2
      rw [Int.toNat_natCast] at h3
      refine ⟨hP x tx h3, StR.step ih (nx_mem.2 (Or.inr ⟨?_, rfl, by simp only [Int.toNat_natCast]; exact h.sub x _ h3⟩))⟩
      rcases h1 with ⟨h4, h5⟩ | h4
      · exact Or.inl ⟨h4, (h.abv hP hG hA hB hxn).2 h5⟩
      · exact Or.inr h4
/-- A new point is told something of just where the table below it tells something. -/
theorem ExtP.tel {P Q : List (List Int)} (h : ExtP P Q) (hP : ∀ (i : Nat) (x : Int), x ∈ P.getD i [] → ∃ p : Nat, x = (p : Int) ∧ p < P.length) {G A B a : List Int} (hG : ∀ x ∈ G, ∃ p : Nat, x = (p : Int) ∧ p < P.length) (hA : AbvP P G A) (hB : AbvP Q G B) (ha : ∀ x ∈ a, ∃ p : Nat, x = (p : Int) ∧ p < P.length) {v u : Nat} (hv : v < P.length) (hu : P.length ≤ u) (hq : (u : Int) ∈ Q.getD v []) :
    TelP Q Q.length G B a (u : Int) ↔ TabP P P.length G A a (v : Int) := by
  have huG : (u : Int) ∉ G := fun hc => by obtain ⟨p, e, hp⟩ := hG _ hc; omega
  constructor
  · rintro ⟨-, d, hs⟩
    rcases h.str hP hG hA hB ha hs with ⟨x, hx, hxn, -⟩ | ⟨x, w, hx, hxn, -, hw, hq2, htab⟩
    · simp only at hx; omega
    · have e := h.one v w u hu hq hq2
      rw [e]; exact htab
  · rintro ⟨d, hs, hc⟩
    have hs2 := (h.str_sub hP hG hA hB ha hs).2
    refine ⟨huG, false, StR.step hs2 (nx_mem.2 (Or.inr ⟨?_, rfl, by simp only [Int.toNat_natCast]; exact hq⟩))⟩
    rcases hc with ⟨h4, h5⟩ | h4
    · exact Or.inl ⟨h4, (h.abv hP hG hA hB hv).2 h5⟩
    · exact Or.inr h4
theorem tab_any {P : List (List Int)} {n : Nat} {G A a : List Int} {v : Int} : TabP P n G A a v ↔ ∃ x ∈ a, TabP P n G A [x] v := by
  unfold TabP
  constructor
  · rintro ⟨d, h2, h1⟩
    obtain ⟨x, hx, h3⟩ := str_any.1 h2
    exact ⟨x, hx, d, h3, h1⟩
  · rintro ⟨x, hx, d, h3, h1⟩
    exact ⟨d, str_any.2 ⟨x, hx, h3⟩, h1⟩
/-- What is given asks nothing. -/
theorem tab_given {P : List (List Int)} {n : Nat} {G A : List Int} {x v : Int} (hx : x ∈ G) (h : TabP P n G A [x] v) : False := by
  have key : ∀ s, StR (nxS P n G A) [x] s → s = (x, false) := fun s hs => by
    induction hs with
    | start hp => rw [List.mem_singleton.1 hp]
    | step _ ht ih =>
      rw [ih] at ht
      rcases nx_mem.1 ht with ⟨h1, _⟩ | ⟨h1 | h1, _⟩
      · exact absurd hx h1
      · simp at h1
      · exact absurd hx h1.2
  obtain ⟨d, hs, hc⟩ := h
  have e := key _ hs
  simp only [Prod.mk.injEq] at e
  obtain ⟨e1, e2⟩ := e
  subst e1 e2
  rcases hc with h1 | h1
  · simp at h1
  · exact h1.2 hx
/-- A parent's table tells something with its child's, unless it is given. -/
theorem tab_up {P : List (List Int)} {n : Nat} {G A a : List Int} {v : Nat} {p : Int} (h : TabP P n G A a (v : Int)) (hp : p ∈ P.getD v []) (hg : p ∉ G) : TabP P n G A a p := by
  obtain ⟨d, hs, hc⟩ := h
  exact ⟨false, StR.step hs (nx_mem.2 (Or.inr ⟨hc, rfl, by simp only [Int.toNat_natCast]; exact hp⟩)), Or.inr ⟨rfl, hg⟩⟩
theorem tab_asked {P : List (List Int)} {n : Nat} {G A a : List Int} {v : Int} (h : v ∈ a) (hg : v ∉ G) : TabP P n G A a v := ⟨false, StR.start h, Or.inr ⟨rfl, hg⟩⟩
/-- A table that tells something is above what is asked or given. -/
theorem tab_above {P : List (List Int)} {n : Nat} {G A a : List Int} (hA : AbvP P G A) {v : Int} (h : TabP P n G A a v) : RchP P (a ++ G) v := by
  have hG : ∀ x, x ∈ A → RchP P (a ++ G) x := fun x hx => by
    obtain ⟨g, hg, k, hr⟩ := (hA.2 x).1 hx
    exact ⟨g, List.mem_append_right _ hg, k, hr⟩
  have key : ∀ s, StR (nxS P n G A) a s → s.2 = false → RchP P (a ++ G) s.1 := fun s hs => by
    induction hs with
    | start hp => exact fun _ => ⟨_, List.mem_append_left _ hp, 0, rfl⟩
    | @step s t hs ht ih =>
      intro h0
      rcases nx_mem.1 ht with ⟨h1, h2, h3⟩ | ⟨h1, h2, h3⟩
      · rw [h2] at h0; simp at h0
      · have h4 : RchP P (a ++ G) s.1 := by
          rcases h1 with h1 | h1
          · exact hG _ h1.2
          · exact ih h1.1
        obtain ⟨g, hg, k, hr⟩ := h4
        exact ⟨g, hg, k + 1, rn_snoc k g s.1 t.1 hr h3⟩
  obtain ⟨d, hs, hc⟩ := h
  rcases hc with h1 | h1
  · exact hG _ h1.2
  · exact key _ hs h1.1
/-- Parents with a new point above each one. -/
def wiP (P : List (List Int)) : List (List Int) := ((List.range P.length).map fun i => P.getD i [] ++ [((P.length + i : Nat) : Int)]) ++ List.replicate P.length []
theorem wi_len (P : List (List Int)) : (wiP P).length = 2 * P.length := by unfold wiP; rw [List.length_append, List.length_map, List.length_range, List.length_replicate]; omega
theorem wi_old {P : List (List Int)} {i : Nat} (h : i < P.length) : (wiP P).getD i [] = P.getD i [] ++ [((P.length + i : Nat) : Int)] := by
  unfold wiP
  rw [List.getD_eq_getElem?_getD, List.getElem?_append_left (by rw [List.length_map, List.length_range]; exact h), List.getElem?_map, List.getElem?_range h]
  rfl
theorem wi_new {P : List (List Int)} {i : Nat} (h : P.length ≤ i) : (wiP P).getD i [] = [] := by
  unfold wiP
  rw [List.getD_eq_getElem?_getD, List.getElem?_append_right (by rw [List.length_map, List.length_range]; exact h), List.getElem?_replicate]
  split <;> rfl
theorem wi_ext {P : List (List Int)} (h0 : ckE P = 0) : ExtP P (wiP P) := by
  have hz := cl_zero (ck_zero h0)
  have hold : ∀ (i m : Nat), P.length ≤ m → (m : Int) ∉ P.getD i [] := fun i m hm hc => by
    obtain ⟨q, e, hq⟩ := outs_no hz.1 i _ hc
    omega
  refine ⟨by rw [wi_len]; omega, fun i x hx => ?_, fun i x hx hn => ?_, fun i hi => wi_new hi, fun i j m hm h1 h2 => ?_, fun i => ?_⟩
  · rw [wi_old (at_lt hx)]
    exact List.mem_append_left _ hx
  · by_cases hi : i < P.length
    · rw [wi_old hi] at hx
      rcases List.mem_append.1 hx with h1 | h1
      · exact absurd h1 hn
      · exact ⟨P.length + i, List.mem_singleton.1 h1, by omega, by rw [wi_len]; omega⟩
    · rw [wi_new (by omega)] at hx; simp at hx
  · have key : ∀ i, (m : Int) ∈ (wiP P).getD i [] → m = P.length + i := fun i hi => by
      by_cases hl : i < P.length
      · rw [wi_old hl] at hi
        rcases List.mem_append.1 hi with h3 | h3
        · exact absurd h3 (hold i m hm)
        · have := List.mem_singleton.1 h3; omega
      · rw [wi_new (by omega)] at hi; simp at hi
    have e1 := key i h1
    have e2 := key j h2
    omega
  · by_cases hl : i < P.length
    · rw [wi_old hl]
      refine List.nodup_append.2 ⟨twices_no hz.2 i, by simp, fun a ha b hb e => ?_⟩
      rw [List.mem_singleton.1 hb] at e
      subst e
      exact hold i _ (by omega) ha
    · rw [wi_new (by omega)]; exact List.nodup_nil
end Go.Proofs.YthdpomgpcblpeaaGreat

/-
  Proved here: package factor's without at int.
-/
import Derived.Test.YtjlmignafhhjhaaFacO1
namespace Go.Proofs.Ytjlmignafhhjhaa
set_option linter.unusedVariables false
open Go.RowKit Go.Shelf Go.Lib Go.Sort
theorem RR.below {w w' : World} {v : Value} {Ls : List (List Int)} (h : RR (Value.int .i64) w v Ls) (b : Below w.heap.size w w') : RR (Value.int .i64) w' v Ls := by
  obtain ⟨vs, h1, h2, h3⟩ := h
  exact ⟨vs, h1.below (Nat.le_refl _) b, h2, fun i u L h4 h5 => (h3 i u L h4 h5).below (Nat.le_refl _) b⟩
theorem wp_make0 {P : Program} (w : World) {o : Oper} {a : Act} {K : Act → World → Prop} {Q : Exit → Act → World → Prop} (l c : Operand) (t : TypeId) (hop : o.op = Op.makeSlice t l c)
    (e : TypeId) (i : TypeInfo) (z : Value) (h1 : P.underlying t = some (.slice e)) (h2 : P.info? e = some i) (h3 : i.zero = some z) (h4 : i.size = 1) (hzc : z.cells = #[z])
    (kl kc : IntKind) (m : Nat) (hl : a.eval l = .int kl 0) (hc : a.eval c = .int kc (m : Int)) (b2 : i.bytes * m ≤ 281474976710656) (b3 : m ≤ 9223372036854775807)
    (hK : K (a.put o.dst (.slice (some ⟨w.heap.size, 0, none⟩) 0 m)) (w.alloc (.cells (Array.replicate m z) e))) : o.wp P a w K Q := by
  have hb' : (i.bytes : Int) * (m : Int) ≤ 281474976710656 := by
    have h : ((i.bytes * m : Nat) : Int) ≤ 281474976710656 := by omega
    rwa [Int.natCast_mul] at h
  have hrun := run_make (P := P) w t e i z h1 h2 h3 kl kc 0 m (by omega) (by omega) hb' (by omega)
  simp only [Int.toNat_natCast, Int.toNat_zero, h4, Nat.mul_one, hzc] at hrun
  rw [made_row] at hrun
  unfold Oper.wp
  simp [execOp, hop, hl, hc, hrun, Result.andThen]
  exact hK
theorem og_make0 {α : Type} {enc : α → Value} {w : World} {g c e : Nat} {cs : Array Value} (h : w.heap[g]? = some (.cells cs e (0, 0))) (hs : cs.size = c) (hm : c ≤ maxLen) {B : Nat} (hB : B ≤ g) : OG enc B e w (.slice (some ⟨g, 0, none⟩) 0 c) [] :=
  ⟨rfl, .inr ⟨g, c, cs, rfl, hB, h, Nat.zero_le _, hm, by simp [hs], rfl⟩⟩
/-- What without leaves. -/
def WtE (w : World) (xs zs : List Int) (k c : Nat) (e : Ending) (w' : World) : Prop :=
  ∃ u1 u2 gc, e = .returned (.agg #[u1, u2, .slice (some ⟨gc, 0, none⟩) 0 c]) ∧ OG (Value.int .i64) w.heap.size 3 w' u1 (xs.take k ++ xs.drop (k + 1)) ∧ OG (Value.int .i64) w.heap.size 3 w' u2 (zs.take k ++ zs.drop (k + 1)) ∧
    OG (Value.int .i64) w.heap.size 3 w' (.slice (some ⟨gc, 0, none⟩) 0 c) [] ∧ u1.ownBlock ≠ some gc ∧ u2.ownBlock ≠ some gc ∧ Below w.heap.size w w'
theorem flat2 (L M : List Int) : [L, M].flatten = L ++ M := by simp
set_option maxRecDepth 100000 in
set_option maxHeartbeats 12800000 in
theorem withoutI (s z c : Value) (xs zs cs : List Int) (k c0 : Nat) (w : World) (hs : RK .i64 w s xs) (hz : RK .i64 w z zs) (hc : RG (Value.int .i64) w c cs) (ht : Tab xs zs cs.length) (hx : xs.length ≤ 100000) (hk : k < xs.length) (hq : (cs.length : Int) / zs.getD k 0 = (c0 : Int)) :
    Calls Try.prog 58 #[.agg #[s, z, c], .int .i64 (k : Int)] w fun e w' => WtE w xs zs k c0 e w' := by
  obtain ⟨W1, hW1⟩ : ∃ W1, W1 = (w.alloc (.cells #[s, z, c] 34)).alloc (.cells #[.slice none 0 0, .slice none 0 0, .slice none 0 0] 34) := ⟨_, rfl⟩
  obtain ⟨g, hg⟩ : ∃ g, g = w.heap.size := ⟨_, rfl⟩
  have qa : BCell 34 W1 g s z c := by rw [hW1]; exact (BCell.new w hg.symm).step _
  have qr : BCell 34 W1 (g + 1) (.slice none 0 0) (.slice none 0 0) (.slice none 0 0) := by rw [hW1]; exact BCell.new _ (by simp [hg])
  have b0 : Below w.heap.size w W1 := by rw [hW1]; exact bstepB (belowB w _) (belowB _ _)
  have z0 : g + 1 + 1 ≤ W1.heap.size := by rw [hW1]; simp [hg]
  have hs1 := hs.below (Nat.le_refl _) b0
  have hz1 := hz.below (Nat.le_refl _) b0
  have hsg := hs1.rg
  have hzg := hz1.rg
  have hkz : k < zs.length := by rw [ht.len]; exact hk
  have hl := ht.len
  have hmany := ht.many
  have hcells := ht.cells
  have hzone : 1 ≤ zs.getD k 0 := by rw [List.getD_eq_getElem?_getD, List.getElem?_eq_getElem hkz]; exact ht.ones _ (List.getElem_mem hkz)
  have hztop : zs.getD k 0 ≤ 9223372036854775807 := by rw [List.getD_eq_getElem?_getD, List.getElem?_eq_getElem hkz]; exact (hz.bd _ (List.getElem_mem hkz)).2
  obtain ⟨so, sc, rfl, hsc, hsm, hsn, -, -⟩ := hs1
  obtain ⟨zo, zc, rfl, hzc, hzm, hzn, -, hzcell⟩ := hz1
  obtain ⟨co, cc, rfl, hc1, hc2, -, -⟩ := hc
  unfold maxLen at hsm hzm hc2
  obtain ⟨zgk, zok, rfl, czk⟩ := hzcell k hkz
  have hcutS := cutI so xs.length sc k (by omega) hsc (by omega) hsn
  obtain ⟨so2, sc2, hfromS, hfrS⟩ := fromI so xs.length sc (k + 1) xs (by omega) hsc (by omega) hsn
  have hcutZ := cutI (some ⟨zgk, zok, none⟩) zs.length zc k (by omega) hzc (by omega) hzn
  obtain ⟨zo2, zc2, hfromZ, hfrZ⟩ := fromI (some ⟨zgk, zok, none⟩) zs.length zc (k + 1) zs (by omega) hzc (by omega) hzn
  have HFS : Hid (∀ W, RG (Value.int .i64) W (.slice so xs.length sc) xs → RG (Value.int .i64) W (.slice so2 (xs.length - (k + 1)) sc2) (xs.drop (k + 1))) := hfrS
  have HFZ : Hid (∀ W, RG (Value.int .i64) W (.slice (some ⟨zgk, zok, none⟩) zs.length zc) zs → RG (Value.int .i64) W (.slice zo2 (zs.length - (k + 1)) zc2) (zs.drop (k + 1))) := hfrZ
  have HSG : Hid (RG (Value.int .i64) W1 (.slice so xs.length sc) xs) := hsg
  have HZG : Hid (RG (Value.int .i64) W1 (.slice (some ⟨zgk, zok, none⟩) zs.length zc) zs) := hzg
  have HLX : Hid (xs.length ≤ 100000 ∧ zs.length = xs.length ∧ k < xs.length) := ⟨hx, hl, hk⟩
  have ek1 : ((k + 1 : Nat) : Int) = (k : Int) + 1 := by omega
  rw [ek1] at hfromS hfromZ
  have wk1 : IntKind.i64.wrap ((k : Int) + 1) = (k : Int) + 1 := by rw [IntKind.wrap_i64]; omega
  obtain ⟨y, hy⟩ : ∃ y, zs.getD k 0 = y := ⟨_, rfl⟩
  rw [hy] at czk hzone hztop hq
  obtain ⟨m, hm⟩ : ∃ m, cs.length = m := ⟨_, rfl⟩
  rw [hm] at hc1 hq hcells hW1 qa ⊢
  have hm31 : (m : Int) ≤ 2147483647 := by omega
  have hy0 : (y == 0) = false := by simp; omega
  have hyn : ¬ y = 0 := by omega
  have htd : (m : Int).tdiv y = (c0 : Int) := by rw [Int.tdiv_eq_ediv_of_nonneg (by omega)]; exact hq
  have hc0a : (c0 : Int) ≤ 2147483647 := by rw [← hq]; exact Int.le_trans (Int.ediv_le_self _ (by omega)) hm31
  have hwq : IntKind.i64.wrap (c0 : Int) = (c0 : Int) := by rw [IntKind.wrap_i64]; omega
  obtain ⟨n, hn⟩ : ∃ n, xs.length = n := ⟨_, rfl⟩
  obtain ⟨n', hn'⟩ : ∃ n, zs.length = n := ⟨_, rfl⟩
  rw [hn] at hsc hcutS hfromS HFS HSG HLX hW1 qa hk hx ⊢
  rw [hn'] at hzc hcutZ hfromZ HFZ HZG HLX hW1 qa hkz ⊢
  have hkI : (k : Int) < (n' : Int) := by omega
  have HN : Hid (xs.length = n ∧ zs.length = n') := ⟨hn, hn'⟩
  have HW1 : Hid (W1 = (w.alloc (.cells #[.slice so n sc, .slice (some ⟨zgk, zok, none⟩) n' zc, .slice co m cc] 34)).alloc (.cells #[.slice none 0 0, .slice none 0 0, .slice none 0 0] 34)) := hW1
  have HB : Hid (Below w.heap.size w W1) := b0
  have HG : Hid (g = w.heap.size) := hg
  have HQR : Hid (BCell 34 W1 (g + 1) (.slice none 0 0) (.slice none 0 0) (.slice none 0 0)) := qr
  obtain ⟨ca0, ca1, ca2⟩ := qa.cells
  clear hW1 hg b0 qa qr hs hz ht hfrS hfrZ hsg hzg hzcell hn hn' hm hy hq hcells hmany hl ek1
  obtain ⟨d1, hd1⟩ : ∃ d, n - (k + 1) = d := ⟨_, rfl⟩
  obtain ⟨d2, hd2⟩ : ∃ d, n' - (k + 1) = d := ⟨_, rfl⟩
  rw [hd1] at hfromS HFS
  rw [hd2] at hfromZ HFZ
  clear hd1 hd2
  go_enter Try.func58, Try.ntmps58
  go_upto_region 1 with fail
  rw [← HW1.out, ← HG.out]
  clear HW1
  obtain ⟨i0, hi, hz0, hz1', hz2'⟩ := info_parts infoI
  have KEEP : ∀ u, Below W1.heap.size W1 u → L4.AllL u [(1, fun w' => w'.cell? ⟨g, 0, none⟩ = some (.slice so n sc)), (5, fun w' => w'.cell? ⟨g, 0, none⟩ = some (.slice so n sc)), (12, fun w' => w'.cell? ⟨g, 1, none⟩ = some (.slice (some ⟨zgk, zok, none⟩) n' zc)), (16, fun w' => w'.cell? ⟨g, 1, none⟩ = some (.slice (some ⟨zgk, zok, none⟩) n' zc)), (23, fun w' => w'.cell? ⟨g, 2, none⟩ = some (.slice co m cc)), (26, fun w' => w'.cell? ⟨g, 1, none⟩ = some (.slice (some ⟨zgk, zok, none⟩) n' zc)), (29, fun w' => w'.cell? ⟨zgk, zok + k, none⟩ = some (.int .i64 y))] := fun u hu => ⟨keepR hu ca0, keepR hu ca0, keepR hu ca1, keepR hu ca1, keepR hu ca2, keepR hu ca1, keepR hu czk, trivial⟩
  refine L4.region_late [(1, fun w' => w'.cell? ⟨g, 0, none⟩ = some (.slice so n sc)), (5, fun w' => w'.cell? ⟨g, 0, none⟩ = some (.slice so n sc)), (12, fun w' => w'.cell? ⟨g, 1, none⟩ = some (.slice (some ⟨zgk, zok, none⟩) n' zc)), (16, fun w' => w'.cell? ⟨g, 1, none⟩ = some (.slice (some ⟨zgk, zok, none⟩) n' zc)), (23, fun w' => w'.cell? ⟨g, 2, none⟩ = some (.slice co m cc)), (26, fun w' => w'.cell? ⟨g, 1, none⟩ = some (.slice (some ⟨zgk, zok, none⟩) n' zc)), (29, fun w' => w'.cell? ⟨zgk, zok + k, none⟩ = some (.int .i64 y))] (by kernel_rfl) ?_
  have B : Below W1.heap.size W1 W1.drew := (Below.refl _ _).drew
  obtain ⟨w1, hw1⟩ : ∃ u, u = W1.drew := ⟨_, rfl⟩
  rw [← hw1] at B ⊢
  clear hw1
  have hHeld := KEEP _ B
  refine L4.late_free 0 (v := .pointer (some ⟨g, 0, none⟩)) rfl (by kernel_rfl) (by kernel_rfl) (by kernel_rfl) (by kernel_rfl) (by kernel_rfl) (by kernel_rfl) (fun _ _ _ h => h) (Or.inl ⟨by rfl, ?_⟩) hHeld ?_
  · (intro u _; go_simp)
  (try simp only [Act.put, List.setIfInBounds_toArray, List.set_cons_zero, List.set_cons_succ])
  refine L4.late_take 1 (v := .slice so n sc) rfl (by kernel_rfl) (List.Mem.head _) (by kernel_rfl) (by kernel_rfl) (by kernel_rfl) (by kernel_rfl) (fun _ _ _ h => h) (Or.inl ⟨by rfl, ?_⟩) hHeld ?_
  · (intro u hu; (try dsimp only at hu); go_split_ands; go_simp)
  (try simp only [Act.put, List.setIfInBounds_toArray, List.set_cons_zero, List.set_cons_succ])
  refine L4.late_free 2 (v := .int .i64 ((k : Nat) : Int)) rfl (by kernel_rfl) (by kernel_rfl) (by kernel_rfl) (by kernel_rfl) (by kernel_rfl) (by kernel_rfl) (fun _ _ _ h => h) (Or.inl ⟨by rfl, ?_⟩) hHeld ?_
  · (intro u _; go_simp)
  (try simp only [Act.put, List.setIfInBounds_toArray, List.set_cons_zero, List.set_cons_succ])
  refine L4.late_free 3 (v := .slice so k sc) rfl (by kernel_rfl) (by kernel_rfl) (by kernel_rfl) (by kernel_rfl) (by kernel_rfl) (by kernel_rfl) (fun _ _ _ h => h) (Or.inl ⟨by rfl, ?_⟩) hHeld ?_
  · (intro u _; go_simp)
  (try simp only [Act.put, List.setIfInBounds_toArray, List.set_cons_zero, List.set_cons_succ])
  refine L4.late_free 4 (v := .pointer (some ⟨g, 0, none⟩)) rfl (by kernel_rfl) (by kernel_rfl) (by kernel_rfl) (by kernel_rfl) (by kernel_rfl) (by kernel_rfl) (fun _ _ _ h => h) (Or.inl ⟨by rfl, ?_⟩) hHeld ?_
  · (intro u _; go_simp)
  (try simp only [Act.put, List.setIfInBounds_toArray, List.set_cons_zero, List.set_cons_succ])
  refine L4.late_take 5 (v := .slice so n sc) rfl (by kernel_rfl) (List.Mem.tail _ (List.Mem.head _)) (by kernel_rfl) (by kernel_rfl) (by kernel_rfl) (by kernel_rfl) (fun _ _ _ h => h) (Or.inl ⟨by rfl, ?_⟩) hHeld ?_
  · (intro u hu; (try dsimp only at hu); go_split_ands; go_simp)
  (try simp only [Act.put, List.setIfInBounds_toArray, List.set_cons_zero, List.set_cons_succ])
  refine L4.late_free 6 (v := .int .i64 ((k : Nat) : Int)) rfl (by kernel_rfl) (by kernel_rfl) (by kernel_rfl) (by kernel_rfl) (by kernel_rfl) (by kernel_rfl) (fun _ _ _ h => h) (Or.inl ⟨by rfl, ?_⟩) hHeld ?_
  · (intro u _; go_simp)
  (try simp only [Act.put, List.setIfInBounds_toArray, List.set_cons_zero, List.set_cons_succ])
  refine L4.late_free 7 (v := .int .i64 ((k : Int) + 1)) rfl (by kernel_rfl) (by kernel_rfl) (by kernel_rfl) (by kernel_rfl) (by kernel_rfl) (by kernel_rfl) (fun _ _ _ h => h) (Or.inl ⟨by rfl, ?_⟩) hHeld ?_
  · (intro u _; go_simp)
  (try simp only [Act.put, List.setIfInBounds_toArray, List.set_cons_zero, List.set_cons_succ])
  refine L4.late_free 8 (v := .slice so2 d1 sc2) rfl (by kernel_rfl) (by kernel_rfl) (by kernel_rfl) (by kernel_rfl) (by kernel_rfl) (by kernel_rfl) (fun _ _ _ h => h) (Or.inl ⟨by rfl, ?_⟩) hHeld ?_
  · (intro u _; go_simp)
  (try simp only [Act.put, List.setIfInBounds_toArray, List.set_cons_zero, List.set_cons_succ])
  refine L4.late_free 11 (v := .pointer (some ⟨g, 1, none⟩)) rfl (by kernel_rfl) (by kernel_rfl) (by kernel_rfl) (by kernel_rfl) (by kernel_rfl) (by kernel_rfl) (fun _ _ _ h => h) (Or.inl ⟨by rfl, ?_⟩) hHeld ?_
  · (intro u _; go_simp)
  (try simp only [Act.put, List.setIfInBounds_toArray, List.set_cons_zero, List.set_cons_succ])
  refine L4.late_take 12 (v := .slice (some ⟨zgk, zok, none⟩) n' zc) rfl (by kernel_rfl) (List.Mem.tail _ (List.Mem.tail _ (List.Mem.head _))) (by kernel_rfl) (by kernel_rfl) (by kernel_rfl) (by kernel_rfl) (fun _ _ _ h => h) (Or.inl ⟨by rfl, ?_⟩) hHeld ?_
  · (intro u hu; (try dsimp only at hu); go_split_ands; go_simp)
  (try simp only [Act.put, List.setIfInBounds_toArray, List.set_cons_zero, List.set_cons_succ])
  refine L4.late_free 13 (v := .int .i64 ((k : Nat) : Int)) rfl (by kernel_rfl) (by kernel_rfl) (by kernel_rfl) (by kernel_rfl) (by kernel_rfl) (by kernel_rfl) (fun _ _ _ h => h) (Or.inl ⟨by rfl, ?_⟩) hHeld ?_
  · (intro u _; go_simp)
  (try simp only [Act.put, List.setIfInBounds_toArray, List.set_cons_zero, List.set_cons_succ])
  refine L4.late_free 14 (v := .slice (some ⟨zgk, zok, none⟩) k zc) rfl (by kernel_rfl) (by kernel_rfl) (by kernel_rfl) (by kernel_rfl) (by kernel_rfl) (by kernel_rfl) (fun _ _ _ h => h) (Or.inl ⟨by rfl, ?_⟩) hHeld ?_
  · (intro u _; go_simp)
  (try simp only [Act.put, List.setIfInBounds_toArray, List.set_cons_zero, List.set_cons_succ])
  refine L4.late_free 15 (v := .pointer (some ⟨g, 1, none⟩)) rfl (by kernel_rfl) (by kernel_rfl) (by kernel_rfl) (by kernel_rfl) (by kernel_rfl) (by kernel_rfl) (fun _ _ _ h => h) (Or.inl ⟨by rfl, ?_⟩) hHeld ?_
  · (intro u _; go_simp)
  (try simp only [Act.put, List.setIfInBounds_toArray, List.set_cons_zero, List.set_cons_succ])
  refine L4.late_take 16 (v := .slice (some ⟨zgk, zok, none⟩) n' zc) rfl (by kernel_rfl) (List.Mem.tail _ (List.Mem.tail _ (List.Mem.tail _ (List.Mem.head _)))) (by kernel_rfl) (by kernel_rfl) (by kernel_rfl) (by kernel_rfl) (fun _ _ _ h => h) (Or.inl ⟨by rfl, ?_⟩) hHeld ?_
  · (intro u hu; (try dsimp only at hu); go_split_ands; go_simp)
  (try simp only [Act.put, List.setIfInBounds_toArray, List.set_cons_zero, List.set_cons_succ])
  refine L4.late_free 17 (v := .int .i64 ((k : Nat) : Int)) rfl (by kernel_rfl) (by kernel_rfl) (by kernel_rfl) (by kernel_rfl) (by kernel_rfl) (by kernel_rfl) (fun _ _ _ h => h) (Or.inl ⟨by rfl, ?_⟩) hHeld ?_
  · (intro u _; go_simp)
  (try simp only [Act.put, List.setIfInBounds_toArray, List.set_cons_zero, List.set_cons_succ])
  refine L4.late_free 18 (v := .int .i64 ((k : Int) + 1)) rfl (by kernel_rfl) (by kernel_rfl) (by kernel_rfl) (by kernel_rfl) (by kernel_rfl) (by kernel_rfl) (fun _ _ _ h => h) (Or.inl ⟨by rfl, ?_⟩) hHeld ?_
  · (intro u _; go_simp)
  (try simp only [Act.put, List.setIfInBounds_toArray, List.set_cons_zero, List.set_cons_succ])
  refine L4.late_free 19 (v := .slice zo2 d2 zc2) rfl (by kernel_rfl) (by kernel_rfl) (by kernel_rfl) (by kernel_rfl) (by kernel_rfl) (by kernel_rfl) (fun _ _ _ h => h) (Or.inl ⟨by rfl, ?_⟩) hHeld ?_
  · (intro u _; go_simp)
  (try simp only [Act.put, List.setIfInBounds_toArray, List.set_cons_zero, List.set_cons_succ])
  refine L4.late_free 22 (v := .pointer (some ⟨g, 2, none⟩)) rfl (by kernel_rfl) (by kernel_rfl) (by kernel_rfl) (by kernel_rfl) (by kernel_rfl) (by kernel_rfl) (fun _ _ _ h => h) (Or.inl ⟨by rfl, ?_⟩) hHeld ?_
  · (intro u _; go_simp)
  (try simp only [Act.put, List.setIfInBounds_toArray, List.set_cons_zero, List.set_cons_succ])
  refine L4.late_take 23 (v := .slice co m cc) rfl (by kernel_rfl) (List.Mem.tail _ (List.Mem.tail _ (List.Mem.tail _ (List.Mem.tail _ (List.Mem.head _))))) (by kernel_rfl) (by kernel_rfl) (by kernel_rfl) (by kernel_rfl) (fun _ _ _ h => h) (Or.inl ⟨by rfl, ?_⟩) hHeld ?_
  · (intro u hu; (try dsimp only at hu); go_split_ands; go_simp)
  (try simp only [Act.put, List.setIfInBounds_toArray, List.set_cons_zero, List.set_cons_succ])
  refine L4.late_free 24 (v := .int .i64 ((m : Nat) : Int)) rfl (by kernel_rfl) (by kernel_rfl) (by kernel_rfl) (by kernel_rfl) (by kernel_rfl) (by kernel_rfl) (fun _ _ _ h => h) (Or.inl ⟨by rfl, ?_⟩) hHeld ?_
  · (intro u _; go_simp)
  (try simp only [Act.put, List.setIfInBounds_toArray, List.set_cons_zero, List.set_cons_succ])
  refine L4.late_free 25 (v := .pointer (some ⟨g, 1, none⟩)) rfl (by kernel_rfl) (by kernel_rfl) (by kernel_rfl) (by kernel_rfl) (by kernel_rfl) (by kernel_rfl) (fun _ _ _ h => h) (Or.inl ⟨by rfl, ?_⟩) hHeld ?_
  · (intro u _; go_simp)
  (try simp only [Act.put, List.setIfInBounds_toArray, List.set_cons_zero, List.set_cons_succ])
  refine L4.late_take 26 (v := .slice (some ⟨zgk, zok, none⟩) n' zc) rfl (by kernel_rfl) (List.Mem.tail _ (List.Mem.tail _ (List.Mem.tail _ (List.Mem.tail _ (List.Mem.tail _ (List.Mem.head _)))))) (by kernel_rfl) (by kernel_rfl) (by kernel_rfl) (by kernel_rfl) (fun _ _ _ h => h) (Or.inl ⟨by rfl, ?_⟩) hHeld ?_
  · (intro u hu; (try dsimp only at hu); go_split_ands; go_simp)
  (try simp only [Act.put, List.setIfInBounds_toArray, List.set_cons_zero, List.set_cons_succ])
  refine L4.late_free 27 (v := .int .i64 ((k : Nat) : Int)) rfl (by kernel_rfl) (by kernel_rfl) (by kernel_rfl) (by kernel_rfl) (by kernel_rfl) (by kernel_rfl) (fun _ _ _ h => h) (Or.inl ⟨by rfl, ?_⟩) hHeld ?_
  · (intro u _; go_simp)
  (try simp only [Act.put, List.setIfInBounds_toArray, List.set_cons_zero, List.set_cons_succ])
  refine L4.late_free 28 (v := .pointer (some ⟨zgk, zok + k, none⟩)) rfl (by kernel_rfl) (by kernel_rfl) (by kernel_rfl) (by kernel_rfl) (by kernel_rfl) (by kernel_rfl) (fun _ _ _ h => h) (Or.inl ⟨by rfl, ?_⟩) hHeld ?_
  · (intro u _; go_simp)
  (try simp only [Act.put, List.setIfInBounds_toArray, List.set_cons_zero, List.set_cons_succ])
  refine L4.late_take 29 (v := .int .i64 y) rfl (by kernel_rfl) (List.Mem.tail _ (List.Mem.tail _ (List.Mem.tail _ (List.Mem.tail _ (List.Mem.tail _ (List.Mem.tail _ (List.Mem.head _))))))) (by kernel_rfl) (by kernel_rfl) (by kernel_rfl) (by kernel_rfl) (fun _ _ _ h => h) (Or.inl ⟨by rfl, ?_⟩) hHeld ?_
  · (intro u hu; (try dsimp only at hu); go_split_ands; go_simp)
  (try simp only [Act.put, List.setIfInBounds_toArray, List.set_cons_zero, List.set_cons_succ])
  refine L4.late_free 30 (v := .int .i64 ((c0 : Nat) : Int)) rfl (by kernel_rfl) (by kernel_rfl) (by kernel_rfl) (by kernel_rfl) (by kernel_rfl) (by kernel_rfl) (fun _ _ _ h => h) (Or.inl ⟨by rfl, ?_⟩) hHeld ?_
  · (intro u _; go_simp)
  (try simp only [Act.put, List.setIfInBounds_toArray, List.set_cons_zero, List.set_cons_succ])
  refine L4.late_three 9 20 31 (by kernel_rfl) rfl rfl rfl (fun K hK => ?_) (fun K hK => ?_) (fun K hK => ?_)
  · go_simp
    have rv := HSG.out.below (Nat.le_refl _) B
    have hR1 := rr_litI 22 w1 [.slice so k sc, .slice so2 d1 sc2] [xs.take k, xs.drop (k + 1)] rfl (by simp) (fun i u M h1 h2 => by
      match i, h1, h2 with
      | 0, h1, h2 => cases h1; cases h2; exact rv.cut (by omega)
      | 1, h1, h2 => cases h1; cases h2; exact HFS.out _ rv)
    obtain ⟨y2, hy2⟩ : ∃ u, u = w1.alloc (.cells #[.slice so k sc, .slice so2 d1 sc2] 22) := ⟨_, rfl⟩
    have c2 : Below w1.heap.size w1 y2 := by rw [hy2]; exact belowB _ _
    have sz2 : w1.heap.size ≤ y2.heap.size := c2.size
    have hR1 : RR (Value.int .i64) y2 (.slice (some ⟨w1.heap.size, 0, none⟩) 2 2) [xs.take k, xs.drop (k + 1)] := by rw [hy2]; exact hR1
    obtain ⟨gR1, hgR1⟩ : ∃ u, u = w1.heap.size := ⟨_, rfl⟩
    rw [← hgR1] at hR1
    rw [← hy2, ← hgR1]
    clear hy2 hgR1 rv
    have B := B.trans (c2.mono B.size)
    clear c2 hHeld
    have hHeld := KEEP _ B
    refine hK.out _ _ (L4.AllL.kept hHeld) ?_
    clear hK K
    (try simp only [Act.put, List.setIfInBounds_toArray, List.set_cons_zero, List.set_cons_succ])
    refine L4.late_three 10 20 31 (by kernel_rfl) rfl rfl rfl (fun K hK => ?_) (fun K hK => ?_) (fun K hK => ?_)
    · go_simp
      refine (concatI _ [xs.take k, xs.drop (k + 1)] _ hR1 (by rw [flat2, List.length_append, List.length_take, List.length_drop, HN.out.1]; have := HLX.out; omega) (by simp)).mono ?_
      rintro e y3 ⟨u1, rfl, hU1, c3⟩
      rw [flat2] at hU1
      have sz3 : y2.heap.size ≤ y3.heap.size := c3.size
      have m1 : ∀ q, u1.ownBlock = some q → y2.heap.size ≤ q ∧ q < y3.heap.size := fun q hq => hU1.lt q hq
      have bU1 : W1.heap.size ≤ y2.heap.size := B.size
      replace hU1 := hU1.mono (B' := W1.heap.size) bU1
      obtain ⟨u1o, u1n, u1c, hu1⟩ : ∃ o n c, u1 = .slice o n c := by obtain ⟨ao, cap, e, -⟩ := hU1.sl; exact ⟨_, _, _, e⟩
      subst hu1
      clear hR1
      have B := B.trans (c3.mono B.size)
      clear c3 hHeld
      have hHeld := KEEP _ B
      go_wp2_with fail
      refine hK.out _ _ (L4.AllL.kept hHeld) ?_
      clear hK K
      (try simp only [Act.put, List.setIfInBounds_toArray, List.set_cons_zero, List.set_cons_succ])
      refine L4.late_two 20 31 (by kernel_rfl) rfl rfl (fun K hK => ?_) (fun K hK => ?_)
      · go_simp
        have rv := HZG.out.below (Nat.le_refl _) B
        have hR2 := rr_litI 22 y3 [.slice (some ⟨zgk, zok, none⟩) k zc, .slice zo2 d2 zc2] [zs.take k, zs.drop (k + 1)] rfl (by simp) (fun i u M h1 h2 => by
          match i, h1, h2 with
          | 0, h1, h2 => cases h1; cases h2; exact rv.cut (by omega)
          | 1, h1, h2 => cases h1; cases h2; exact HFZ.out _ rv)
        obtain ⟨y4, hy4⟩ : ∃ u, u = y3.alloc (.cells #[.slice (some ⟨zgk, zok, none⟩) k zc, .slice zo2 d2 zc2] 22) := ⟨_, rfl⟩
        have c4 : Below y3.heap.size y3 y4 := by rw [hy4]; exact belowB _ _
        have sz4 : y3.heap.size ≤ y4.heap.size := c4.size
        have hR2 : RR (Value.int .i64) y4 (.slice (some ⟨y3.heap.size, 0, none⟩) 2 2) [zs.take k, zs.drop (k + 1)] := by rw [hy4]; exact hR2
        obtain ⟨gR2, hgR2⟩ : ∃ u, u = y3.heap.size := ⟨_, rfl⟩
        rw [← hgR2] at hR2
        rw [← hy4, ← hgR2]
        clear hy4 hgR2 rv
        have B := B.trans (c4.mono B.size)
        replace hU1 := hU1.below c4
        clear c4 hHeld
        have hHeld := KEEP _ B
        refine hK.out _ _ (L4.AllL.kept hHeld) ?_
        clear hK K
        (try simp only [Act.put, List.setIfInBounds_toArray, List.set_cons_zero, List.set_cons_succ])
        refine L4.late_two 21 31 (by kernel_rfl) rfl rfl (fun K hK => ?_) (fun K hK => ?_)
        · go_simp
          refine (concatI _ [zs.take k, zs.drop (k + 1)] _ hR2 (by rw [flat2, List.length_append, List.length_take, List.length_drop, HN.out.2]; have := HLX.out; omega) (by simp)).mono ?_
          rintro e y5 ⟨u2, rfl, hU2, c5⟩
          rw [flat2] at hU2
          have sz5 : y4.heap.size ≤ y5.heap.size := c5.size
          have m2 : ∀ q, u2.ownBlock = some q → y4.heap.size ≤ q ∧ q < y5.heap.size := fun q hq => hU2.lt q hq
          have bU2 : W1.heap.size ≤ y4.heap.size := B.size
          replace hU2 := hU2.mono (B' := W1.heap.size) bU2
          obtain ⟨u2o, u2n, u2c, hu2⟩ : ∃ o n c, u2 = .slice o n c := by obtain ⟨ao, cap, e, -⟩ := hU2.sl; exact ⟨_, _, _, e⟩
          subst hu2
          clear hR2
          have B := B.trans (c5.mono B.size)
          replace hU1 := hU1.below c5
          clear c5 hHeld
          have hHeld := KEEP _ B
          go_wp2_with fail
          refine hK.out _ _ (L4.AllL.kept hHeld) ?_
          clear hK K
          (try simp only [Act.put, List.setIfInBounds_toArray, List.set_cons_zero, List.set_cons_succ])
          refine L4.late_step 31 (by kernel_rfl) rfl (fun K hK => ?_)
          refine want_yes rfl ?_
          refine wp_make0 _ _ _ 22 rfl 3 i0 (.int .i64 0) Try.underlying22 hi hz0 hz1' rfl _ _ c0 rfl rfl (by rw [hz2']; omega) (by omega) ?_
          obtain ⟨y6, hy6⟩ : ∃ u, u = y5.alloc (.cells (Array.replicate c0 (.int .i64 0)) 3) := ⟨_, rfl⟩
          obtain ⟨gc, hgc⟩ : ∃ u, u = y5.heap.size := ⟨_, rfl⟩
          rw [← hy6, ← hgc]
          have c6 : Below y5.heap.size y5 y6 := by rw [hy6]; exact belowB _ _
          have sz6 : y5.heap.size ≤ y6.heap.size := c6.size
          have hC : OG (Value.int .i64) gc 3 y6 (.slice (some ⟨gc, 0, none⟩) 0 c0) [] := og_make0 (cs := Array.replicate c0 (.int .i64 0)) (by rw [hy6, hgc]; exact heap_alloc_new _ _) (by simp) (by unfold maxLen; omega) (Nat.le_refl _)
          have mC : y5.heap.size ≤ gc ∧ gc < y6.heap.size := by rw [hy6, hgc]; simp
          have bC : W1.heap.size ≤ gc := by have := B.size; omega
          clear hy6 hgc
          have B := B.trans (c6.mono B.size)
          replace hU1 := hU1.below c6
          replace hU2 := hU2.below c6
          clear c6 hHeld
          have hHeld := KEEP _ B
          refine hK.out _ _ (L4.AllL.kept hHeld) ?_
          clear hK K
          (try simp only [Act.put, List.setIfInBounds_toArray, List.set_cons_zero, List.set_cons_succ])
          refine L4.late_free 32 (v := .agg #[.slice u1o u1n u1c, .slice u2o u2n u2c, .slice (some ⟨gc, 0, none⟩) 0 c0]) rfl (by kernel_rfl) (by kernel_rfl) (by kernel_rfl) (by kernel_rfl) (by kernel_rfl) (by kernel_rfl) (fun _ _ _ h => h) (Or.inl ⟨by rfl, ?_⟩) hHeld ?_
          · (intro u _; go_simp)
          (try simp only [Act.put, List.setIfInBounds_toArray, List.set_cons_zero, List.set_cons_succ])
          refine L4.late_step 33 (by kernel_rfl) rfl (fun K hK => ?_)
          have q9 := HQR.out.below B
          obtain ⟨k0, k1, k2⟩ := q9.cells
          have f0 := q9.thaw 0
          have f1 := q9.thaw 1
          have f2 := q9.thaw 2
          go_simp
          refine hK.out _ _ ⟨Or.inl ⟨33, by kernel_rfl, by kernel_rfl⟩, Or.inl ⟨33, by kernel_rfl, by kernel_rfl⟩, Or.inl ⟨33, by kernel_rfl, by kernel_rfl⟩, Or.inl ⟨33, by kernel_rfl, by kernel_rfl⟩, Or.inl ⟨33, by kernel_rfl, by kernel_rfl⟩, Or.inl ⟨33, by kernel_rfl, by kernel_rfl⟩, Or.inl ⟨33, by kernel_rfl, by kernel_rfl⟩, trivial⟩ ?_
          clear hK K
          (try simp only [Act.put, List.setIfInBounds_toArray, List.set_cons_zero, List.set_cons_succ])
          refine L4.late_done (by kernel_rfl) ?_ _
          obtain ⟨WF, hWF⟩ : ∃ u, u = ((y6.setCell ⟨g + 1, 0, none⟩ (.slice u1o u1n u1c)).setCell ⟨g + 1, 1, none⟩ (.slice u2o u2n u2c)).setCell ⟨g + 1, 2, none⟩ (.slice (some ⟨gc, 0, none⟩) 0 c0) := ⟨_, rfl⟩
          have hoth : ∀ q, q ≠ g + 1 → WF.heap[q]? = y6.heap[q]? := fun q hq => by rw [hWF, Below.heap_setCell _ _ _ _ hq, Below.heap_setCell _ _ _ _ hq, Below.heap_setCell _ _ _ _ hq]
          have hBF : Below w.heap.size w WF := by
            have hb := bstepB HB.out B
            rw [hWF]
            exact ((hb.setCell (p := ⟨g + 1, 0, none⟩) (by show w.heap.size ≤ g + 1; rw [HG.out]; omega) _).setCell (p := ⟨g + 1, 1, none⟩) (by show w.heap.size ≤ g + 1; rw [HG.out]; omega) _).setCell (p := ⟨g + 1, 2, none⟩) (by show w.heap.size ≤ g + 1; rw [HG.out]; omega) _
          have HWF : Hid (BCell 34 WF (g + 1) (.slice u1o u1n u1c) (.slice u2o u2n u2c) (.slice (some ⟨gc, 0, none⟩) 0 c0)) := by show BCell _ _ _ _ _ _; rw [hWF]; exact q9.write _ _ _
          have HRES : Hid (WtE w xs zs k c0 (.returned (.agg #[.slice u1o u1n u1c, .slice u2o u2n u2c, .slice (some ⟨gc, 0, none⟩) 0 c0])) WF) := by
            have hG := HG.out
            have hsw := HB.out.size
            refine ⟨.slice u1o u1n u1c, .slice u2o u2n u2c, gc, rfl, (hU1.of_blocks fun q hq => hoth q (by have := (hU1.lt q hq).1; omega)).mono hsw, (hU2.of_blocks fun q hq => hoth q (by have := (hU2.lt q hq).1; omega)).mono hsw, (hC.of_blocks fun q hq => hoth q (by have := (hC.lt q hq).1; omega)).mono (by omega), fun e => by have := m1 _ e; omega, fun e => by have := m2 _ e; omega, hBF⟩
          rw [← hWF]
          clear hWF hoth hBF q9 k0 k1 k2 f0 f1 f2 hU1 hU2 hC m1 m2 mC B KEEP
          go_wp2_with fail
          (try simp only [Exit.inBlock, Exit.then])
          exact bodyPost_ret (results_cell_row rfl _ _ (g + 1) 34 _ (0, 0) _ rfl HWF.out Try.underlying34 rfl (by kernel_rfl)) rfl HRES.out
        · refine want_yes rfl ?_
          refine wp_make0 _ _ _ 22 rfl 3 i0 (.int .i64 0) Try.underlying22 hi hz0 hz1' rfl _ _ c0 rfl rfl (by rw [hz2']; omega) (by omega) ?_
          obtain ⟨y7, hy7⟩ : ∃ u, u = y4.alloc (.cells (Array.replicate c0 (.int .i64 0)) 3) := ⟨_, rfl⟩
          obtain ⟨gc, hgc⟩ : ∃ u, u = y4.heap.size := ⟨_, rfl⟩
          rw [← hy7, ← hgc]
          have c7 : Below y4.heap.size y4 y7 := by rw [hy7]; exact belowB _ _
          have sz7 : y4.heap.size ≤ y7.heap.size := c7.size
          have hC : OG (Value.int .i64) gc 3 y7 (.slice (some ⟨gc, 0, none⟩) 0 c0) [] := og_make0 (cs := Array.replicate c0 (.int .i64 0)) (by rw [hy7, hgc]; exact heap_alloc_new _ _) (by simp) (by unfold maxLen; omega) (Nat.le_refl _)
          have mC : y4.heap.size ≤ gc ∧ gc < y7.heap.size := by rw [hy7, hgc]; simp
          have bC : W1.heap.size ≤ gc := by have := B.size; omega
          clear hy7 hgc
          have B := B.trans (c7.mono B.size)
          replace hU1 := hU1.below c7
          replace hR2 := hR2.below c7
          clear c7 hHeld
          have hHeld := KEEP _ B
          refine hK.out _ _ (L4.AllL.kept hHeld) ?_
          clear hK K
          (try simp only [Act.put, List.setIfInBounds_toArray, List.set_cons_zero, List.set_cons_succ])
          refine L4.late_step 21 (by kernel_rfl) rfl (fun K hK => ?_)
          go_simp
          refine (concatI _ [zs.take k, zs.drop (k + 1)] _ hR2 (by rw [flat2, List.length_append, List.length_take, List.length_drop, HN.out.2]; have := HLX.out; omega) (by simp)).mono ?_
          rintro e y8 ⟨u2, rfl, hU2, c8⟩
          rw [flat2] at hU2
          have sz8 : y7.heap.size ≤ y8.heap.size := c8.size
          have m2 : ∀ q, u2.ownBlock = some q → y7.heap.size ≤ q ∧ q < y8.heap.size := fun q hq => hU2.lt q hq
          have bU2 : W1.heap.size ≤ y7.heap.size := B.size
          replace hU2 := hU2.mono (B' := W1.heap.size) bU2
          obtain ⟨u2o, u2n, u2c, hu2⟩ : ∃ o n c, u2 = .slice o n c := by obtain ⟨ao, cap, e, -⟩ := hU2.sl; exact ⟨_, _, _, e⟩
          subst hu2
          clear hR2
          have B := B.trans (c8.mono B.size)
          replace hU1 := hU1.below c8
          replace hC := hC.below c8
          clear c8 hHeld
          have hHeld := KEEP _ B
          go_wp2_with fail
          refine hK.out _ _ (L4.AllL.kept hHeld) ?_
          clear hK K
          (try simp only [Act.put, List.setIfInBounds_toArray, List.set_cons_zero, List.set_cons_succ])
          refine L4.late_free 32 (v := .agg #[.slice u1o u1n u1c, .slice u2o u2n u2c, .slice (some ⟨gc, 0, none⟩) 0 c0]) rfl (by kernel_rfl) (by kernel_rfl) (by kernel_rfl) (by kernel_rfl) (by kernel_rfl) (by kernel_rfl) (fun _ _ _ h => h) (Or.inl ⟨by rfl, ?_⟩) hHeld ?_
          · (intro u _; go_simp)
          (try simp only [Act.put, List.setIfInBounds_toArray, List.set_cons_zero, List.set_cons_succ])
          refine L4.late_step 33 (by kernel_rfl) rfl (fun K hK => ?_)
          have q9 := HQR.out.below B
          obtain ⟨k0, k1, k2⟩ := q9.cells
          have f0 := q9.thaw 0
          have f1 := q9.thaw 1
          have f2 := q9.thaw 2
          go_simp
          refine hK.out _ _ ⟨Or.inl ⟨33, by kernel_rfl, by kernel_rfl⟩, Or.inl ⟨33, by kernel_rfl, by kernel_rfl⟩, Or.inl ⟨33, by kernel_rfl, by kernel_rfl⟩, Or.inl ⟨33, by kernel_rfl, by kernel_rfl⟩, Or.inl ⟨33, by kernel_rfl, by kernel_rfl⟩, Or.inl ⟨33, by kernel_rfl, by kernel_rfl⟩, Or.inl ⟨33, by kernel_rfl, by kernel_rfl⟩, trivial⟩ ?_
          clear hK K
          (try simp only [Act.put, List.setIfInBounds_toArray, List.set_cons_zero, List.set_cons_succ])
          refine L4.late_done (by kernel_rfl) ?_ _
          obtain ⟨WF, hWF⟩ : ∃ u, u = ((y8.setCell ⟨g + 1, 0, none⟩ (.slice u1o u1n u1c)).setCell ⟨g + 1, 1, none⟩ (.slice u2o u2n u2c)).setCell ⟨g + 1, 2, none⟩ (.slice (some ⟨gc, 0, none⟩) 0 c0) := ⟨_, rfl⟩
          have hoth : ∀ q, q ≠ g + 1 → WF.heap[q]? = y8.heap[q]? := fun q hq => by rw [hWF, Below.heap_setCell _ _ _ _ hq, Below.heap_setCell _ _ _ _ hq, Below.heap_setCell _ _ _ _ hq]
          have hBF : Below w.heap.size w WF := by
            have hb := bstepB HB.out B
            rw [hWF]
            exact ((hb.setCell (p := ⟨g + 1, 0, none⟩) (by show w.heap.size ≤ g + 1; rw [HG.out]; omega) _).setCell (p := ⟨g + 1, 1, none⟩) (by show w.heap.size ≤ g + 1; rw [HG.out]; omega) _).setCell (p := ⟨g + 1, 2, none⟩) (by show w.heap.size ≤ g + 1; rw [HG.out]; omega) _
          have HWF : Hid (BCell 34 WF (g + 1) (.slice u1o u1n u1c) (.slice u2o u2n u2c) (.slice (some ⟨gc, 0, none⟩) 0 c0)) := by show BCell _ _ _ _ _ _; rw [hWF]; exact q9.write _ _ _
          have HRES : Hid (WtE w xs zs k c0 (.returned (.agg #[.slice u1o u1n u1c, .slice u2o u2n u2c, .slice (some ⟨gc, 0, none⟩) 0 c0])) WF) := by
            have hG := HG.out
            have hsw := HB.out.size
            refine ⟨.slice u1o u1n u1c, .slice u2o u2n u2c, gc, rfl, (hU1.of_blocks fun q hq => hoth q (by have := (hU1.lt q hq).1; omega)).mono hsw, (hU2.of_blocks fun q hq => hoth q (by have := (hU2.lt q hq).1; omega)).mono hsw, (hC.of_blocks fun q hq => hoth q (by have := (hC.lt q hq).1; omega)).mono (by omega), fun e => by have := m1 _ e; omega, fun e => by have := m2 _ e; omega, hBF⟩
          rw [← hWF]
          clear hWF hoth hBF q9 k0 k1 k2 f0 f1 f2 hU1 hU2 hC m1 m2 mC B KEEP
          go_wp2_with fail
          (try simp only [Exit.inBlock, Exit.then])
          exact bodyPost_ret (results_cell_row rfl _ _ (g + 1) 34 _ (0, 0) _ rfl HWF.out Try.underlying34 rfl (by kernel_rfl)) rfl HRES.out
      · refine want_yes rfl ?_
        refine wp_make0 _ _ _ 22 rfl 3 i0 (.int .i64 0) Try.underlying22 hi hz0 hz1' rfl _ _ c0 rfl rfl (by rw [hz2']; omega) (by omega) ?_
        obtain ⟨y9, hy9⟩ : ∃ u, u = y3.alloc (.cells (Array.replicate c0 (.int .i64 0)) 3) := ⟨_, rfl⟩
        obtain ⟨gc, hgc⟩ : ∃ u, u = y3.heap.size := ⟨_, rfl⟩
        rw [← hy9, ← hgc]
        have c9 : Below y3.heap.size y3 y9 := by rw [hy9]; exact belowB _ _
        have sz9 : y3.heap.size ≤ y9.heap.size := c9.size
        have hC : OG (Value.int .i64) gc 3 y9 (.slice (some ⟨gc, 0, none⟩) 0 c0) [] := og_make0 (cs := Array.replicate c0 (.int .i64 0)) (by rw [hy9, hgc]; exact heap_alloc_new _ _) (by simp) (by unfold maxLen; omega) (Nat.le_refl _)
        have mC : y3.heap.size ≤ gc ∧ gc < y9.heap.size := by rw [hy9, hgc]; simp
        have bC : W1.heap.size ≤ gc := by have := B.size; omega
        clear hy9 hgc
        have B := B.trans (c9.mono B.size)
        replace hU1 := hU1.below c9
        clear c9 hHeld
        have hHeld := KEEP _ B
        refine hK.out _ _ (L4.AllL.kept hHeld) ?_
        clear hK K
        (try simp only [Act.put, List.setIfInBounds_toArray, List.set_cons_zero, List.set_cons_succ])
        refine L4.late_step 20 (by kernel_rfl) rfl (fun K hK => ?_)
        go_simp
        have rv := HZG.out.below (Nat.le_refl _) B
        have hR2 := rr_litI 22 y9 [.slice (some ⟨zgk, zok, none⟩) k zc, .slice zo2 d2 zc2] [zs.take k, zs.drop (k + 1)] rfl (by simp) (fun i u M h1 h2 => by
          match i, h1, h2 with
          | 0, h1, h2 => cases h1; cases h2; exact rv.cut (by omega)
          | 1, h1, h2 => cases h1; cases h2; exact HFZ.out _ rv)
        obtain ⟨y10, hy10⟩ : ∃ u, u = y9.alloc (.cells #[.slice (some ⟨zgk, zok, none⟩) k zc, .slice zo2 d2 zc2] 22) := ⟨_, rfl⟩
        have c10 : Below y9.heap.size y9 y10 := by rw [hy10]; exact belowB _ _
        have sz10 : y9.heap.size ≤ y10.heap.size := c10.size
        have hR2 : RR (Value.int .i64) y10 (.slice (some ⟨y9.heap.size, 0, none⟩) 2 2) [zs.take k, zs.drop (k + 1)] := by rw [hy10]; exact hR2
        obtain ⟨gR2, hgR2⟩ : ∃ u, u = y9.heap.size := ⟨_, rfl⟩
        rw [← hgR2] at hR2
        rw [← hy10, ← hgR2]
        clear hy10 hgR2 rv
        have B := B.trans (c10.mono B.size)
        replace hU1 := hU1.below c10
        replace hC := hC.below c10
        clear c10 hHeld
        have hHeld := KEEP _ B
        refine hK.out _ _ (L4.AllL.kept hHeld) ?_
        clear hK K
        (try simp only [Act.put, List.setIfInBounds_toArray, List.set_cons_zero, List.set_cons_succ])
        refine L4.late_step 21 (by kernel_rfl) rfl (fun K hK => ?_)
        go_simp
        refine (concatI _ [zs.take k, zs.drop (k + 1)] _ hR2 (by rw [flat2, List.length_append, List.length_take, List.length_drop, HN.out.2]; have := HLX.out; omega) (by simp)).mono ?_
        rintro e y11 ⟨u2, rfl, hU2, c11⟩
        rw [flat2] at hU2
        have sz11 : y10.heap.size ≤ y11.heap.size := c11.size
        have m2 : ∀ q, u2.ownBlock = some q → y10.heap.size ≤ q ∧ q < y11.heap.size := fun q hq => hU2.lt q hq
        have bU2 : W1.heap.size ≤ y10.heap.size := B.size
        replace hU2 := hU2.mono (B' := W1.heap.size) bU2
        obtain ⟨u2o, u2n, u2c, hu2⟩ : ∃ o n c, u2 = .slice o n c := by obtain ⟨ao, cap, e, -⟩ := hU2.sl; exact ⟨_, _, _, e⟩
        subst hu2
        clear hR2
        have B := B.trans (c11.mono B.size)
        replace hU1 := hU1.below c11
        replace hC := hC.below c11
        clear c11 hHeld
        have hHeld := KEEP _ B
        go_wp2_with fail
        refine hK.out _ _ (L4.AllL.kept hHeld) ?_
        clear hK K
        (try simp only [Act.put, List.setIfInBounds_toArray, List.set_cons_zero, List.set_cons_succ])
        refine L4.late_free 32 (v := .agg #[.slice u1o u1n u1c, .slice u2o u2n u2c, .slice (some ⟨gc, 0, none⟩) 0 c0]) rfl (by kernel_rfl) (by kernel_rfl) (by kernel_rfl) (by kernel_rfl) (by kernel_rfl) (by kernel_rfl) (fun _ _ _ h => h) (Or.inl ⟨by rfl, ?_⟩) hHeld ?_
        · (intro u _; go_simp)
        (try simp only [Act.put, List.setIfInBounds_toArray, List.set_cons_zero, List.set_cons_succ])
        refine L4.late_step 33 (by kernel_rfl) rfl (fun K hK => ?_)
        have q9 := HQR.out.below B
        obtain ⟨k0, k1, k2⟩ := q9.cells
        have f0 := q9.thaw 0
        have f1 := q9.thaw 1
        have f2 := q9.thaw 2
        go_simp
        refine hK.out _ _ ⟨Or.inl ⟨33, by kernel_rfl, by kernel_rfl⟩, Or.inl ⟨33, by kernel_rfl, by kernel_rfl⟩, Or.inl ⟨33, by kernel_rfl, by kernel_rfl⟩, Or.inl ⟨33, by kernel_rfl, by kernel_rfl⟩, Or.inl ⟨33, by kernel_rfl, by kernel_rfl⟩, Or.inl ⟨33, by kernel_rfl, by kernel_rfl⟩, Or.inl ⟨33, by kernel_rfl, by kernel_rfl⟩, trivial⟩ ?_
        clear hK K
        (try simp only [Act.put, List.setIfInBounds_toArray, List.set_cons_zero, List.set_cons_succ])
        refine L4.late_done (by kernel_rfl) ?_ _
        obtain ⟨WF, hWF⟩ : ∃ u, u = ((y11.setCell ⟨g + 1, 0, none⟩ (.slice u1o u1n u1c)).setCell ⟨g + 1, 1, none⟩ (.slice u2o u2n u2c)).setCell ⟨g + 1, 2, none⟩ (.slice (some ⟨gc, 0, none⟩) 0 c0) := ⟨_, rfl⟩
        have hoth : ∀ q, q ≠ g + 1 → WF.heap[q]? = y11.heap[q]? := fun q hq => by rw [hWF, Below.heap_setCell _ _ _ _ hq, Below.heap_setCell _ _ _ _ hq, Below.heap_setCell _ _ _ _ hq]
        have hBF : Below w.heap.size w WF := by
          have hb := bstepB HB.out B
          rw [hWF]
          exact ((hb.setCell (p := ⟨g + 1, 0, none⟩) (by show w.heap.size ≤ g + 1; rw [HG.out]; omega) _).setCell (p := ⟨g + 1, 1, none⟩) (by show w.heap.size ≤ g + 1; rw [HG.out]; omega) _).setCell (p := ⟨g + 1, 2, none⟩) (by show w.heap.size ≤ g + 1; rw [HG.out]; omega) _
        have HWF : Hid (BCell 34 WF (g + 1) (.slice u1o u1n u1c) (.slice u2o u2n u2c) (.slice (some ⟨gc, 0, none⟩) 0 c0)) := by show BCell _ _ _ _ _ _; rw [hWF]; exact q9.write _ _ _
        have HRES : Hid (WtE w xs zs k c0 (.returned (.agg #[.slice u1o u1n u1c, .slice u2o u2n u2c, .slice (some ⟨gc, 0, none⟩) 0 c0])) WF) := by
          have hG := HG.out
          have hsw := HB.out.size
          refine ⟨.slice u1o u1n u1c, .slice u2o u2n u2c, gc, rfl, (hU1.of_blocks fun q hq => hoth q (by have := (hU1.lt q hq).1; omega)).mono hsw, (hU2.of_blocks fun q hq => hoth q (by have := (hU2.lt q hq).1; omega)).mono hsw, (hC.of_blocks fun q hq => hoth q (by have := (hC.lt q hq).1; omega)).mono (by omega), fun e => by have := m1 _ e; omega, fun e => by have := m2 _ e; omega, hBF⟩
        rw [← hWF]
        clear hWF hoth hBF q9 k0 k1 k2 f0 f1 f2 hU1 hU2 hC m1 m2 mC B KEEP
        go_wp2_with fail
        (try simp only [Exit.inBlock, Exit.then])
        exact bodyPost_ret (results_cell_row rfl _ _ (g + 1) 34 _ (0, 0) _ rfl HWF.out Try.underlying34 rfl (by kernel_rfl)) rfl HRES.out
    · go_simp
      have rv := HZG.out.below (Nat.le_refl _) B
      have hR2 := rr_litI 22 y2 [.slice (some ⟨zgk, zok, none⟩) k zc, .slice zo2 d2 zc2] [zs.take k, zs.drop (k + 1)] rfl (by simp) (fun i u M h1 h2 => by
        match i, h1, h2 with
        | 0, h1, h2 => cases h1; cases h2; exact rv.cut (by omega)
        | 1, h1, h2 => cases h1; cases h2; exact HFZ.out _ rv)
      obtain ⟨y12, hy12⟩ : ∃ u, u = y2.alloc (.cells #[.slice (some ⟨zgk, zok, none⟩) k zc, .slice zo2 d2 zc2] 22) := ⟨_, rfl⟩
      have c12 : Below y2.heap.size y2 y12 := by rw [hy12]; exact belowB _ _
      have sz12 : y2.heap.size ≤ y12.heap.size := c12.size
      have hR2 : RR (Value.int .i64) y12 (.slice (some ⟨y2.heap.size, 0, none⟩) 2 2) [zs.take k, zs.drop (k + 1)] := by rw [hy12]; exact hR2
      obtain ⟨gR2, hgR2⟩ : ∃ u, u = y2.heap.size := ⟨_, rfl⟩
      rw [← hgR2] at hR2
      rw [← hy12, ← hgR2]
      clear hy12 hgR2 rv
      have B := B.trans (c12.mono B.size)
      replace hR1 := hR1.below c12
      clear c12 hHeld
      have hHeld := KEEP _ B
      refine hK.out _ _ (L4.AllL.kept hHeld) ?_
      clear hK K
      (try simp only [Act.put, List.setIfInBounds_toArray, List.set_cons_zero, List.set_cons_succ])
      refine L4.late_two 10 31 (by kernel_rfl) rfl rfl (fun K hK => ?_) (fun K hK => ?_)
      · go_simp
        refine (concatI _ [xs.take k, xs.drop (k + 1)] _ hR1 (by rw [flat2, List.length_append, List.length_take, List.length_drop, HN.out.1]; have := HLX.out; omega) (by simp)).mono ?_
        rintro e y13 ⟨u1, rfl, hU1, c13⟩
        rw [flat2] at hU1
        have sz13 : y12.heap.size ≤ y13.heap.size := c13.size
        have m1 : ∀ q, u1.ownBlock = some q → y12.heap.size ≤ q ∧ q < y13.heap.size := fun q hq => hU1.lt q hq
        have bU1 : W1.heap.size ≤ y12.heap.size := B.size
        replace hU1 := hU1.mono (B' := W1.heap.size) bU1
        obtain ⟨u1o, u1n, u1c, hu1⟩ : ∃ o n c, u1 = .slice o n c := by obtain ⟨ao, cap, e, -⟩ := hU1.sl; exact ⟨_, _, _, e⟩
        subst hu1
        clear hR1
        have B := B.trans (c13.mono B.size)
        replace hR2 := hR2.below c13
        clear c13 hHeld
        have hHeld := KEEP _ B
        go_wp2_with fail
        refine hK.out _ _ (L4.AllL.kept hHeld) ?_
        clear hK K
        (try simp only [Act.put, List.setIfInBounds_toArray, List.set_cons_zero, List.set_cons_succ])
        refine L4.late_two 21 31 (by kernel_rfl) rfl rfl (fun K hK => ?_) (fun K hK => ?_)
        · go_simp
          refine (concatI _ [zs.take k, zs.drop (k + 1)] _ hR2 (by rw [flat2, List.length_append, List.length_take, List.length_drop, HN.out.2]; have := HLX.out; omega) (by simp)).mono ?_
          rintro e y14 ⟨u2, rfl, hU2, c14⟩
          rw [flat2] at hU2
          have sz14 : y13.heap.size ≤ y14.heap.size := c14.size
          have m2 : ∀ q, u2.ownBlock = some q → y13.heap.size ≤ q ∧ q < y14.heap.size := fun q hq => hU2.lt q hq
          have bU2 : W1.heap.size ≤ y13.heap.size := B.size
          replace hU2 := hU2.mono (B' := W1.heap.size) bU2
          obtain ⟨u2o, u2n, u2c, hu2⟩ : ∃ o n c, u2 = .slice o n c := by obtain ⟨ao, cap, e, -⟩ := hU2.sl; exact ⟨_, _, _, e⟩
          subst hu2
          clear hR2
          have B := B.trans (c14.mono B.size)
          replace hU1 := hU1.below c14
          clear c14 hHeld
          have hHeld := KEEP _ B
          go_wp2_with fail
          refine hK.out _ _ (L4.AllL.kept hHeld) ?_
          clear hK K
          (try simp only [Act.put, List.setIfInBounds_toArray, List.set_cons_zero, List.set_cons_succ])
          refine L4.late_step 31 (by kernel_rfl) rfl (fun K hK => ?_)
          refine want_yes rfl ?_
          refine wp_make0 _ _ _ 22 rfl 3 i0 (.int .i64 0) Try.underlying22 hi hz0 hz1' rfl _ _ c0 rfl rfl (by rw [hz2']; omega) (by omega) ?_
          obtain ⟨y15, hy15⟩ : ∃ u, u = y14.alloc (.cells (Array.replicate c0 (.int .i64 0)) 3) := ⟨_, rfl⟩
          obtain ⟨gc, hgc⟩ : ∃ u, u = y14.heap.size := ⟨_, rfl⟩
          rw [← hy15, ← hgc]
          have c15 : Below y14.heap.size y14 y15 := by rw [hy15]; exact belowB _ _
          have sz15 : y14.heap.size ≤ y15.heap.size := c15.size
          have hC : OG (Value.int .i64) gc 3 y15 (.slice (some ⟨gc, 0, none⟩) 0 c0) [] := og_make0 (cs := Array.replicate c0 (.int .i64 0)) (by rw [hy15, hgc]; exact heap_alloc_new _ _) (by simp) (by unfold maxLen; omega) (Nat.le_refl _)
          have mC : y14.heap.size ≤ gc ∧ gc < y15.heap.size := by rw [hy15, hgc]; simp
          have bC : W1.heap.size ≤ gc := by have := B.size; omega
          clear hy15 hgc
          have B := B.trans (c15.mono B.size)
          replace hU1 := hU1.below c15
          replace hU2 := hU2.below c15
          clear c15 hHeld
          have hHeld := KEEP _ B
          refine hK.out _ _ (L4.AllL.kept hHeld) ?_
          clear hK K
          (try simp only [Act.put, List.setIfInBounds_toArray, List.set_cons_zero, List.set_cons_succ])
          refine L4.late_free 32 (v := .agg #[.slice u1o u1n u1c, .slice u2o u2n u2c, .slice (some ⟨gc, 0, none⟩) 0 c0]) rfl (by kernel_rfl) (by kernel_rfl) (by kernel_rfl) (by kernel_rfl) (by kernel_rfl) (by kernel_rfl) (fun _ _ _ h => h) (Or.inl ⟨by rfl, ?_⟩) hHeld ?_
          · (intro u _; go_simp)
          (try simp only [Act.put, List.setIfInBounds_toArray, List.set_cons_zero, List.set_cons_succ])
          refine L4.late_step 33 (by kernel_rfl) rfl (fun K hK => ?_)
          have q9 := HQR.out.below B
          obtain ⟨k0, k1, k2⟩ := q9.cells
          have f0 := q9.thaw 0
          have f1 := q9.thaw 1
          have f2 := q9.thaw 2
          go_simp
          refine hK.out _ _ ⟨Or.inl ⟨33, by kernel_rfl, by kernel_rfl⟩, Or.inl ⟨33, by kernel_rfl, by kernel_rfl⟩, Or.inl ⟨33, by kernel_rfl, by kernel_rfl⟩, Or.inl ⟨33, by kernel_rfl, by kernel_rfl⟩, Or.inl ⟨33, by kernel_rfl, by kernel_rfl⟩, Or.inl ⟨33, by kernel_rfl, by kernel_rfl⟩, Or.inl ⟨33, by kernel_rfl, by kernel_rfl⟩, trivial⟩ ?_
          clear hK K
          (try simp only [Act.put, List.setIfInBounds_toArray, List.set_cons_zero, List.set_cons_succ])
          refine L4.late_done (by kernel_rfl) ?_ _
          obtain ⟨WF, hWF⟩ : ∃ u, u = ((y15.setCell ⟨g + 1, 0, none⟩ (.slice u1o u1n u1c)).setCell ⟨g + 1, 1, none⟩ (.slice u2o u2n u2c)).setCell ⟨g + 1, 2, none⟩ (.slice (some ⟨gc, 0, none⟩) 0 c0) := ⟨_, rfl⟩
          have hoth : ∀ q, q ≠ g + 1 → WF.heap[q]? = y15.heap[q]? := fun q hq => by rw [hWF, Below.heap_setCell _ _ _ _ hq, Below.heap_setCell _ _ _ _ hq, Below.heap_setCell _ _ _ _ hq]
          have hBF : Below w.heap.size w WF := by
            have hb := bstepB HB.out B
            rw [hWF]
            exact ((hb.setCell (p := ⟨g + 1, 0, none⟩) (by show w.heap.size ≤ g + 1; rw [HG.out]; omega) _).setCell (p := ⟨g + 1, 1, none⟩) (by show w.heap.size ≤ g + 1; rw [HG.out]; omega) _).setCell (p := ⟨g + 1, 2, none⟩) (by show w.heap.size ≤ g + 1; rw [HG.out]; omega) _
          have HWF : Hid (BCell 34 WF (g + 1) (.slice u1o u1n u1c) (.slice u2o u2n u2c) (.slice (some ⟨gc, 0, none⟩) 0 c0)) := by show BCell _ _ _ _ _ _; rw [hWF]; exact q9.write _ _ _
          have HRES : Hid (WtE w xs zs k c0 (.returned (.agg #[.slice u1o u1n u1c, .slice u2o u2n u2c, .slice (some ⟨gc, 0, none⟩) 0 c0])) WF) := by
            have hG := HG.out
            have hsw := HB.out.size
            refine ⟨.slice u1o u1n u1c, .slice u2o u2n u2c, gc, rfl, (hU1.of_blocks fun q hq => hoth q (by have := (hU1.lt q hq).1; omega)).mono hsw, (hU2.of_blocks fun q hq => hoth q (by have := (hU2.lt q hq).1; omega)).mono hsw, (hC.of_blocks fun q hq => hoth q (by have := (hC.lt q hq).1; omega)).mono (by omega), fun e => by have := m1 _ e; omega, fun e => by have := m2 _ e; omega, hBF⟩
          rw [← hWF]
          clear hWF hoth hBF q9 k0 k1 k2 f0 f1 f2 hU1 hU2 hC m1 m2 mC B KEEP
          go_wp2_with fail
          (try simp only [Exit.inBlock, Exit.then])
          exact bodyPost_ret (results_cell_row rfl _ _ (g + 1) 34 _ (0, 0) _ rfl HWF.out Try.underlying34 rfl (by kernel_rfl)) rfl HRES.out
        · refine want_yes rfl ?_
          refine wp_make0 _ _ _ 22 rfl 3 i0 (.int .i64 0) Try.underlying22 hi hz0 hz1' rfl _ _ c0 rfl rfl (by rw [hz2']; omega) (by omega) ?_
          obtain ⟨y16, hy16⟩ : ∃ u, u = y13.alloc (.cells (Array.replicate c0 (.int .i64 0)) 3) := ⟨_, rfl⟩
          obtain ⟨gc, hgc⟩ : ∃ u, u = y13.heap.size := ⟨_, rfl⟩
          rw [← hy16, ← hgc]
          have c16 : Below y13.heap.size y13 y16 := by rw [hy16]; exact belowB _ _
          have sz16 : y13.heap.size ≤ y16.heap.size := c16.size
          have hC : OG (Value.int .i64) gc 3 y16 (.slice (some ⟨gc, 0, none⟩) 0 c0) [] := og_make0 (cs := Array.replicate c0 (.int .i64 0)) (by rw [hy16, hgc]; exact heap_alloc_new _ _) (by simp) (by unfold maxLen; omega) (Nat.le_refl _)
          have mC : y13.heap.size ≤ gc ∧ gc < y16.heap.size := by rw [hy16, hgc]; simp
          have bC : W1.heap.size ≤ gc := by have := B.size; omega
          clear hy16 hgc
          have B := B.trans (c16.mono B.size)
          replace hR2 := hR2.below c16
          replace hU1 := hU1.below c16
          clear c16 hHeld
          have hHeld := KEEP _ B
          refine hK.out _ _ (L4.AllL.kept hHeld) ?_
          clear hK K
          (try simp only [Act.put, List.setIfInBounds_toArray, List.set_cons_zero, List.set_cons_succ])
          refine L4.late_step 21 (by kernel_rfl) rfl (fun K hK => ?_)
          go_simp
          refine (concatI _ [zs.take k, zs.drop (k + 1)] _ hR2 (by rw [flat2, List.length_append, List.length_take, List.length_drop, HN.out.2]; have := HLX.out; omega) (by simp)).mono ?_
          rintro e y17 ⟨u2, rfl, hU2, c17⟩
          rw [flat2] at hU2
          have sz17 : y16.heap.size ≤ y17.heap.size := c17.size
          have m2 : ∀ q, u2.ownBlock = some q → y16.heap.size ≤ q ∧ q < y17.heap.size := fun q hq => hU2.lt q hq
          have bU2 : W1.heap.size ≤ y16.heap.size := B.size
          replace hU2 := hU2.mono (B' := W1.heap.size) bU2
          obtain ⟨u2o, u2n, u2c, hu2⟩ : ∃ o n c, u2 = .slice o n c := by obtain ⟨ao, cap, e, -⟩ := hU2.sl; exact ⟨_, _, _, e⟩
          subst hu2
          clear hR2
          have B := B.trans (c17.mono B.size)
          replace hU1 := hU1.below c17
          replace hC := hC.below c17
          clear c17 hHeld
          have hHeld := KEEP _ B
          go_wp2_with fail
          refine hK.out _ _ (L4.AllL.kept hHeld) ?_
          clear hK K
          (try simp only [Act.put, List.setIfInBounds_toArray, List.set_cons_zero, List.set_cons_succ])
          refine L4.late_free 32 (v := .agg #[.slice u1o u1n u1c, .slice u2o u2n u2c, .slice (some ⟨gc, 0, none⟩) 0 c0]) rfl (by kernel_rfl) (by kernel_rfl) (by kernel_rfl) (by kernel_rfl) (by kernel_rfl) (by kernel_rfl) (fun _ _ _ h => h) (Or.inl ⟨by rfl, ?_⟩) hHeld ?_
          · (intro u _; go_simp)
          (try simp only [Act.put, List.setIfInBounds_toArray, List.set_cons_zero, List.set_cons_succ])
          refine L4.late_step 33 (by kernel_rfl) rfl (fun K hK => ?_)
          have q9 := HQR.out.below B
          obtain ⟨k0, k1, k2⟩ := q9.cells
          have f0 := q9.thaw 0
          have f1 := q9.thaw 1
          have f2 := q9.thaw 2
          go_simp
          refine hK.out _ _ ⟨Or.inl ⟨33, by kernel_rfl, by kernel_rfl⟩, Or.inl ⟨33, by kernel_rfl, by kernel_rfl⟩, Or.inl ⟨33, by kernel_rfl, by kernel_rfl⟩, Or.inl ⟨33, by kernel_rfl, by kernel_rfl⟩, Or.inl ⟨33, by kernel_rfl, by kernel_rfl⟩, Or.inl ⟨33, by kernel_rfl, by kernel_rfl⟩, Or.inl ⟨33, by kernel_rfl, by kernel_rfl⟩, trivial⟩ ?_
          clear hK K
          (try simp only [Act.put, List.setIfInBounds_toArray, List.set_cons_zero, List.set_cons_succ])
          refine L4.late_done (by kernel_rfl) ?_ _
          obtain ⟨WF, hWF⟩ : ∃ u, u = ((y17.setCell ⟨g + 1, 0, none⟩ (.slice u1o u1n u1c)).setCell ⟨g + 1, 1, none⟩ (.slice u2o u2n u2c)).setCell ⟨g + 1, 2, none⟩ (.slice (some ⟨gc, 0, none⟩) 0 c0) := ⟨_, rfl⟩
          have hoth : ∀ q, q ≠ g + 1 → WF.heap[q]? = y17.heap[q]? := fun q hq => by rw [hWF, Below.heap_setCell _ _ _ _ hq, Below.heap_setCell _ _ _ _ hq, Below.heap_setCell _ _ _ _ hq]
          have hBF : Below w.heap.size w WF := by
            have hb := bstepB HB.out B
            rw [hWF]
            exact ((hb.setCell (p := ⟨g + 1, 0, none⟩) (by show w.heap.size ≤ g + 1; rw [HG.out]; omega) _).setCell (p := ⟨g + 1, 1, none⟩) (by show w.heap.size ≤ g + 1; rw [HG.out]; omega) _).setCell (p := ⟨g + 1, 2, none⟩) (by show w.heap.size ≤ g + 1; rw [HG.out]; omega) _
          have HWF : Hid (BCell 34 WF (g + 1) (.slice u1o u1n u1c) (.slice u2o u2n u2c) (.slice (some ⟨gc, 0, none⟩) 0 c0)) := by show BCell _ _ _ _ _ _; rw [hWF]; exact q9.write _ _ _
          have HRES : Hid (WtE w xs zs k c0 (.returned (.agg #[.slice u1o u1n u1c, .slice u2o u2n u2c, .slice (some ⟨gc, 0, none⟩) 0 c0])) WF) := by
            have hG := HG.out
            have hsw := HB.out.size
            refine ⟨.slice u1o u1n u1c, .slice u2o u2n u2c, gc, rfl, (hU1.of_blocks fun q hq => hoth q (by have := (hU1.lt q hq).1; omega)).mono hsw, (hU2.of_blocks fun q hq => hoth q (by have := (hU2.lt q hq).1; omega)).mono hsw, (hC.of_blocks fun q hq => hoth q (by have := (hC.lt q hq).1; omega)).mono (by omega), fun e => by have := m1 _ e; omega, fun e => by have := m2 _ e; omega, hBF⟩
          rw [← hWF]
          clear hWF hoth hBF q9 k0 k1 k2 f0 f1 f2 hU1 hU2 hC m1 m2 mC B KEEP
          go_wp2_with fail
          (try simp only [Exit.inBlock, Exit.then])
          exact bodyPost_ret (results_cell_row rfl _ _ (g + 1) 34 _ (0, 0) _ rfl HWF.out Try.underlying34 rfl (by kernel_rfl)) rfl HRES.out
      · refine want_yes rfl ?_
        refine wp_make0 _ _ _ 22 rfl 3 i0 (.int .i64 0) Try.underlying22 hi hz0 hz1' rfl _ _ c0 rfl rfl (by rw [hz2']; omega) (by omega) ?_
        obtain ⟨y18, hy18⟩ : ∃ u, u = y12.alloc (.cells (Array.replicate c0 (.int .i64 0)) 3) := ⟨_, rfl⟩
        obtain ⟨gc, hgc⟩ : ∃ u, u = y12.heap.size := ⟨_, rfl⟩
        rw [← hy18, ← hgc]
        have c18 : Below y12.heap.size y12 y18 := by rw [hy18]; exact belowB _ _
        have sz18 : y12.heap.size ≤ y18.heap.size := c18.size
        have hC : OG (Value.int .i64) gc 3 y18 (.slice (some ⟨gc, 0, none⟩) 0 c0) [] := og_make0 (cs := Array.replicate c0 (.int .i64 0)) (by rw [hy18, hgc]; exact heap_alloc_new _ _) (by simp) (by unfold maxLen; omega) (Nat.le_refl _)
        have mC : y12.heap.size ≤ gc ∧ gc < y18.heap.size := by rw [hy18, hgc]; simp
        have bC : W1.heap.size ≤ gc := by have := B.size; omega
        clear hy18 hgc
        have B := B.trans (c18.mono B.size)
        replace hR1 := hR1.below c18
        replace hR2 := hR2.below c18
        clear c18 hHeld
        have hHeld := KEEP _ B
        refine hK.out _ _ (L4.AllL.kept hHeld) ?_
        clear hK K
        (try simp only [Act.put, List.setIfInBounds_toArray, List.set_cons_zero, List.set_cons_succ])
        refine L4.late_step 10 (by kernel_rfl) rfl (fun K hK => ?_)
        go_simp
        refine (concatI _ [xs.take k, xs.drop (k + 1)] _ hR1 (by rw [flat2, List.length_append, List.length_take, List.length_drop, HN.out.1]; have := HLX.out; omega) (by simp)).mono ?_
        rintro e y19 ⟨u1, rfl, hU1, c19⟩
        rw [flat2] at hU1
        have sz19 : y18.heap.size ≤ y19.heap.size := c19.size
        have m1 : ∀ q, u1.ownBlock = some q → y18.heap.size ≤ q ∧ q < y19.heap.size := fun q hq => hU1.lt q hq
        have bU1 : W1.heap.size ≤ y18.heap.size := B.size
        replace hU1 := hU1.mono (B' := W1.heap.size) bU1
        obtain ⟨u1o, u1n, u1c, hu1⟩ : ∃ o n c, u1 = .slice o n c := by obtain ⟨ao, cap, e, -⟩ := hU1.sl; exact ⟨_, _, _, e⟩
        subst hu1
        clear hR1
        have B := B.trans (c19.mono B.size)
        replace hR2 := hR2.below c19
        replace hC := hC.below c19
        clear c19 hHeld
        have hHeld := KEEP _ B
        go_wp2_with fail
        refine hK.out _ _ (L4.AllL.kept hHeld) ?_
        clear hK K
        (try simp only [Act.put, List.setIfInBounds_toArray, List.set_cons_zero, List.set_cons_succ])
        refine L4.late_step 21 (by kernel_rfl) rfl (fun K hK => ?_)
        go_simp
        refine (concatI _ [zs.take k, zs.drop (k + 1)] _ hR2 (by rw [flat2, List.length_append, List.length_take, List.length_drop, HN.out.2]; have := HLX.out; omega) (by simp)).mono ?_
        rintro e y20 ⟨u2, rfl, hU2, c20⟩
        rw [flat2] at hU2
        have sz20 : y19.heap.size ≤ y20.heap.size := c20.size
        have m2 : ∀ q, u2.ownBlock = some q → y19.heap.size ≤ q ∧ q < y20.heap.size := fun q hq => hU2.lt q hq
        have bU2 : W1.heap.size ≤ y19.heap.size := B.size
        replace hU2 := hU2.mono (B' := W1.heap.size) bU2
        obtain ⟨u2o, u2n, u2c, hu2⟩ : ∃ o n c, u2 = .slice o n c := by obtain ⟨ao, cap, e, -⟩ := hU2.sl; exact ⟨_, _, _, e⟩
        subst hu2
        clear hR2
        have B := B.trans (c20.mono B.size)
        replace hC := hC.below c20
        replace hU1 := hU1.below c20
        clear c20 hHeld
        have hHeld := KEEP _ B
        go_wp2_with fail
        refine hK.out _ _ (L4.AllL.kept hHeld) ?_
        clear hK K
        (try simp only [Act.put, List.setIfInBounds_toArray, List.set_cons_zero, List.set_cons_succ])
        refine L4.late_free 32 (v := .agg #[.slice u1o u1n u1c, .slice u2o u2n u2c, .slice (some ⟨gc, 0, none⟩) 0 c0]) rfl (by kernel_rfl) (by kernel_rfl) (by kernel_rfl) (by kernel_rfl) (by kernel_rfl) (by kernel_rfl) (fun _ _ _ h => h) (Or.inl ⟨by rfl, ?_⟩) hHeld ?_
        · (intro u _; go_simp)
        (try simp only [Act.put, List.setIfInBounds_toArray, List.set_cons_zero, List.set_cons_succ])
        refine L4.late_step 33 (by kernel_rfl) rfl (fun K hK => ?_)
        have q9 := HQR.out.below B
        obtain ⟨k0, k1, k2⟩ := q9.cells
        have f0 := q9.thaw 0
        have f1 := q9.thaw 1
        have f2 := q9.thaw 2
        go_simp
        refine hK.out _ _ ⟨Or.inl ⟨33, by kernel_rfl, by kernel_rfl⟩, Or.inl ⟨33, by kernel_rfl, by kernel_rfl⟩, Or.inl ⟨33, by kernel_rfl, by kernel_rfl⟩, Or.inl ⟨33, by kernel_rfl, by kernel_rfl⟩, Or.inl ⟨33, by kernel_rfl, by kernel_rfl⟩, Or.inl ⟨33, by kernel_rfl, by kernel_rfl⟩, Or.inl ⟨33, by kernel_rfl, by kernel_rfl⟩, trivial⟩ ?_
        clear hK K
        (try simp only [Act.put, List.setIfInBounds_toArray, List.set_cons_zero, List.set_cons_succ])
        refine L4.late_done (by kernel_rfl) ?_ _
        obtain ⟨WF, hWF⟩ : ∃ u, u = ((y20.setCell ⟨g + 1, 0, none⟩ (.slice u1o u1n u1c)).setCell ⟨g + 1, 1, none⟩ (.slice u2o u2n u2c)).setCell ⟨g + 1, 2, none⟩ (.slice (some ⟨gc, 0, none⟩) 0 c0) := ⟨_, rfl⟩
        have hoth : ∀ q, q ≠ g + 1 → WF.heap[q]? = y20.heap[q]? := fun q hq => by rw [hWF, Below.heap_setCell _ _ _ _ hq, Below.heap_setCell _ _ _ _ hq, Below.heap_setCell _ _ _ _ hq]
        have hBF : Below w.heap.size w WF := by
          have hb := bstepB HB.out B
          rw [hWF]
          exact ((hb.setCell (p := ⟨g + 1, 0, none⟩) (by show w.heap.size ≤ g + 1; rw [HG.out]; omega) _).setCell (p := ⟨g + 1, 1, none⟩) (by show w.heap.size ≤ g + 1; rw [HG.out]; omega) _).setCell (p := ⟨g + 1, 2, none⟩) (by show w.heap.size ≤ g + 1; rw [HG.out]; omega) _
        have HWF : Hid (BCell 34 WF (g + 1) (.slice u1o u1n u1c) (.slice u2o u2n u2c) (.slice (some ⟨gc, 0, none⟩) 0 c0)) := by show BCell _ _ _ _ _ _; rw [hWF]; exact q9.write _ _ _
        have HRES : Hid (WtE w xs zs k c0 (.returned (.agg #[.slice u1o u1n u1c, .slice u2o u2n u2c, .slice (some ⟨gc, 0, none⟩) 0 c0])) WF) := by
          have hG := HG.out
          have hsw := HB.out.size
          refine ⟨.slice u1o u1n u1c, .slice u2o u2n u2c, gc, rfl, (hU1.of_blocks fun q hq => hoth q (by have := (hU1.lt q hq).1; omega)).mono hsw, (hU2.of_blocks fun q hq => hoth q (by have := (hU2.lt q hq).1; omega)).mono hsw, (hC.of_blocks fun q hq => hoth q (by have := (hC.lt q hq).1; omega)).mono (by omega), fun e => by have := m1 _ e; omega, fun e => by have := m2 _ e; omega, hBF⟩
        rw [← hWF]
        clear hWF hoth hBF q9 k0 k1 k2 f0 f1 f2 hU1 hU2 hC m1 m2 mC B KEEP
        go_wp2_with fail
        (try simp only [Exit.inBlock, Exit.then])
        exact bodyPost_ret (results_cell_row rfl _ _ (g + 1) 34 _ (0, 0) _ rfl HWF.out Try.underlying34 rfl (by kernel_rfl)) rfl HRES.out
    · refine want_yes rfl ?_
      refine wp_make0 _ _ _ 22 rfl 3 i0 (.int .i64 0) Try.underlying22 hi hz0 hz1' rfl _ _ c0 rfl rfl (by rw [hz2']; omega) (by omega) ?_
      obtain ⟨y21, hy21⟩ : ∃ u, u = y2.alloc (.cells (Array.replicate c0 (.int .i64 0)) 3) := ⟨_, rfl⟩
      obtain ⟨gc, hgc⟩ : ∃ u, u = y2.heap.size := ⟨_, rfl⟩
      rw [← hy21, ← hgc]
      have c21 : Below y2.heap.size y2 y21 := by rw [hy21]; exact belowB _ _
      have sz21 : y2.heap.size ≤ y21.heap.size := c21.size
      have hC : OG (Value.int .i64) gc 3 y21 (.slice (some ⟨gc, 0, none⟩) 0 c0) [] := og_make0 (cs := Array.replicate c0 (.int .i64 0)) (by rw [hy21, hgc]; exact heap_alloc_new _ _) (by simp) (by unfold maxLen; omega) (Nat.le_refl _)
      have mC : y2.heap.size ≤ gc ∧ gc < y21.heap.size := by rw [hy21, hgc]; simp
      have bC : W1.heap.size ≤ gc := by have := B.size; omega
      clear hy21 hgc
      have B := B.trans (c21.mono B.size)
      replace hR1 := hR1.below c21
      clear c21 hHeld
      have hHeld := KEEP _ B
      refine hK.out _ _ (L4.AllL.kept hHeld) ?_
      clear hK K
      (try simp only [Act.put, List.setIfInBounds_toArray, List.set_cons_zero, List.set_cons_succ])
      refine L4.late_two 10 20 (by kernel_rfl) rfl rfl (fun K hK => ?_) (fun K hK => ?_)
      · go_simp
        refine (concatI _ [xs.take k, xs.drop (k + 1)] _ hR1 (by rw [flat2, List.length_append, List.length_take, List.length_drop, HN.out.1]; have := HLX.out; omega) (by simp)).mono ?_
        rintro e y22 ⟨u1, rfl, hU1, c22⟩
        rw [flat2] at hU1
        have sz22 : y21.heap.size ≤ y22.heap.size := c22.size
        have m1 : ∀ q, u1.ownBlock = some q → y21.heap.size ≤ q ∧ q < y22.heap.size := fun q hq => hU1.lt q hq
        have bU1 : W1.heap.size ≤ y21.heap.size := B.size
        replace hU1 := hU1.mono (B' := W1.heap.size) bU1
        obtain ⟨u1o, u1n, u1c, hu1⟩ : ∃ o n c, u1 = .slice o n c := by obtain ⟨ao, cap, e, -⟩ := hU1.sl; exact ⟨_, _, _, e⟩
        subst hu1
        clear hR1
        have B := B.trans (c22.mono B.size)
        replace hC := hC.below c22
        clear c22 hHeld
        have hHeld := KEEP _ B
        go_wp2_with fail
        refine hK.out _ _ (L4.AllL.kept hHeld) ?_
        clear hK K
        (try simp only [Act.put, List.setIfInBounds_toArray, List.set_cons_zero, List.set_cons_succ])
        refine L4.late_step 20 (by kernel_rfl) rfl (fun K hK => ?_)
        go_simp
        have rv := HZG.out.below (Nat.le_refl _) B
        have hR2 := rr_litI 22 y22 [.slice (some ⟨zgk, zok, none⟩) k zc, .slice zo2 d2 zc2] [zs.take k, zs.drop (k + 1)] rfl (by simp) (fun i u M h1 h2 => by
          match i, h1, h2 with
          | 0, h1, h2 => cases h1; cases h2; exact rv.cut (by omega)
          | 1, h1, h2 => cases h1; cases h2; exact HFZ.out _ rv)
        obtain ⟨y23, hy23⟩ : ∃ u, u = y22.alloc (.cells #[.slice (some ⟨zgk, zok, none⟩) k zc, .slice zo2 d2 zc2] 22) := ⟨_, rfl⟩
        have c23 : Below y22.heap.size y22 y23 := by rw [hy23]; exact belowB _ _
        have sz23 : y22.heap.size ≤ y23.heap.size := c23.size
        have hR2 : RR (Value.int .i64) y23 (.slice (some ⟨y22.heap.size, 0, none⟩) 2 2) [zs.take k, zs.drop (k + 1)] := by rw [hy23]; exact hR2
        obtain ⟨gR2, hgR2⟩ : ∃ u, u = y22.heap.size := ⟨_, rfl⟩
        rw [← hgR2] at hR2
        rw [← hy23, ← hgR2]
        clear hy23 hgR2 rv
        have B := B.trans (c23.mono B.size)
        replace hC := hC.below c23
        replace hU1 := hU1.below c23
        clear c23 hHeld
        have hHeld := KEEP _ B
        refine hK.out _ _ (L4.AllL.kept hHeld) ?_
        clear hK K
        (try simp only [Act.put, List.setIfInBounds_toArray, List.set_cons_zero, List.set_cons_succ])
        refine L4.late_step 21 (by kernel_rfl) rfl (fun K hK => ?_)
        go_simp
        refine (concatI _ [zs.take k, zs.drop (k + 1)] _ hR2 (by rw [flat2, List.length_append, List.length_take, List.length_drop, HN.out.2]; have := HLX.out; omega) (by simp)).mono ?_
        rintro e y24 ⟨u2, rfl, hU2, c24⟩
        rw [flat2] at hU2
        have sz24 : y23.heap.size ≤ y24.heap.size := c24.size
        have m2 : ∀ q, u2.ownBlock = some q → y23.heap.size ≤ q ∧ q < y24.heap.size := fun q hq => hU2.lt q hq
        have bU2 : W1.heap.size ≤ y23.heap.size := B.size
        replace hU2 := hU2.mono (B' := W1.heap.size) bU2
        obtain ⟨u2o, u2n, u2c, hu2⟩ : ∃ o n c, u2 = .slice o n c := by obtain ⟨ao, cap, e, -⟩ := hU2.sl; exact ⟨_, _, _, e⟩
        subst hu2
        clear hR2
        have B := B.trans (c24.mono B.size)
        replace hC := hC.below c24
        replace hU1 := hU1.below c24
        clear c24 hHeld
        have hHeld := KEEP _ B
        go_wp2_with fail
        refine hK.out _ _ (L4.AllL.kept hHeld) ?_
        clear hK K
        (try simp only [Act.put, List.setIfInBounds_toArray, List.set_cons_zero, List.set_cons_succ])
        refine L4.late_free 32 (v := .agg #[.slice u1o u1n u1c, .slice u2o u2n u2c, .slice (some ⟨gc, 0, none⟩) 0 c0]) rfl (by kernel_rfl) (by kernel_rfl) (by kernel_rfl) (by kernel_rfl) (by kernel_rfl) (by kernel_rfl) (fun _ _ _ h => h) (Or.inl ⟨by rfl, ?_⟩) hHeld ?_
        · (intro u _; go_simp)
        (try simp only [Act.put, List.setIfInBounds_toArray, List.set_cons_zero, List.set_cons_succ])
        refine L4.late_step 33 (by kernel_rfl) rfl (fun K hK => ?_)
        have q9 := HQR.out.below B
        obtain ⟨k0, k1, k2⟩ := q9.cells
        have f0 := q9.thaw 0
        have f1 := q9.thaw 1
        have f2 := q9.thaw 2
        go_simp
        refine hK.out _ _ ⟨Or.inl ⟨33, by kernel_rfl, by kernel_rfl⟩, Or.inl ⟨33, by kernel_rfl, by kernel_rfl⟩, Or.inl ⟨33, by kernel_rfl, by kernel_rfl⟩, Or.inl ⟨33, by kernel_rfl, by kernel_rfl⟩, Or.inl ⟨33, by kernel_rfl, by kernel_rfl⟩, Or.inl ⟨33, by kernel_rfl, by kernel_rfl⟩, Or.inl ⟨33, by kernel_rfl, by kernel_rfl⟩, trivial⟩ ?_
        clear hK K
        (try simp only [Act.put, List.setIfInBounds_toArray, List.set_cons_zero, List.set_cons_succ])
        refine L4.late_done (by kernel_rfl) ?_ _
        obtain ⟨WF, hWF⟩ : ∃ u, u = ((y24.setCell ⟨g + 1, 0, none⟩ (.slice u1o u1n u1c)).setCell ⟨g + 1, 1, none⟩ (.slice u2o u2n u2c)).setCell ⟨g + 1, 2, none⟩ (.slice (some ⟨gc, 0, none⟩) 0 c0) := ⟨_, rfl⟩
        have hoth : ∀ q, q ≠ g + 1 → WF.heap[q]? = y24.heap[q]? := fun q hq => by rw [hWF, Below.heap_setCell _ _ _ _ hq, Below.heap_setCell _ _ _ _ hq, Below.heap_setCell _ _ _ _ hq]
        have hBF : Below w.heap.size w WF := by
          have hb := bstepB HB.out B
          rw [hWF]
          exact ((hb.setCell (p := ⟨g + 1, 0, none⟩) (by show w.heap.size ≤ g + 1; rw [HG.out]; omega) _).setCell (p := ⟨g + 1, 1, none⟩) (by show w.heap.size ≤ g + 1; rw [HG.out]; omega) _).setCell (p := ⟨g + 1, 2, none⟩) (by show w.heap.size ≤ g + 1; rw [HG.out]; omega) _
        have HWF : Hid (BCell 34 WF (g + 1) (.slice u1o u1n u1c) (.slice u2o u2n u2c) (.slice (some ⟨gc, 0, none⟩) 0 c0)) := by show BCell _ _ _ _ _ _; rw [hWF]; exact q9.write _ _ _
        have HRES : Hid (WtE w xs zs k c0 (.returned (.agg #[.slice u1o u1n u1c, .slice u2o u2n u2c, .slice (some ⟨gc, 0, none⟩) 0 c0])) WF) := by
          have hG := HG.out
          have hsw := HB.out.size
          refine ⟨.slice u1o u1n u1c, .slice u2o u2n u2c, gc, rfl, (hU1.of_blocks fun q hq => hoth q (by have := (hU1.lt q hq).1; omega)).mono hsw, (hU2.of_blocks fun q hq => hoth q (by have := (hU2.lt q hq).1; omega)).mono hsw, (hC.of_blocks fun q hq => hoth q (by have := (hC.lt q hq).1; omega)).mono (by omega), fun e => by have := m1 _ e; omega, fun e => by have := m2 _ e; omega, hBF⟩
        rw [← hWF]
        clear hWF hoth hBF q9 k0 k1 k2 f0 f1 f2 hU1 hU2 hC m1 m2 mC B KEEP
        go_wp2_with fail
        (try simp only [Exit.inBlock, Exit.then])
        exact bodyPost_ret (results_cell_row rfl _ _ (g + 1) 34 _ (0, 0) _ rfl HWF.out Try.underlying34 rfl (by kernel_rfl)) rfl HRES.out
      · go_simp
        have rv := HZG.out.below (Nat.le_refl _) B
        have hR2 := rr_litI 22 y21 [.slice (some ⟨zgk, zok, none⟩) k zc, .slice zo2 d2 zc2] [zs.take k, zs.drop (k + 1)] rfl (by simp) (fun i u M h1 h2 => by
          match i, h1, h2 with
          | 0, h1, h2 => cases h1; cases h2; exact rv.cut (by omega)
          | 1, h1, h2 => cases h1; cases h2; exact HFZ.out _ rv)
        obtain ⟨y25, hy25⟩ : ∃ u, u = y21.alloc (.cells #[.slice (some ⟨zgk, zok, none⟩) k zc, .slice zo2 d2 zc2] 22) := ⟨_, rfl⟩
        have c25 : Below y21.heap.size y21 y25 := by rw [hy25]; exact belowB _ _
        have sz25 : y21.heap.size ≤ y25.heap.size := c25.size
        have hR2 : RR (Value.int .i64) y25 (.slice (some ⟨y21.heap.size, 0, none⟩) 2 2) [zs.take k, zs.drop (k + 1)] := by rw [hy25]; exact hR2
        obtain ⟨gR2, hgR2⟩ : ∃ u, u = y21.heap.size := ⟨_, rfl⟩
        rw [← hgR2] at hR2
        rw [← hy25, ← hgR2]
        clear hy25 hgR2 rv
        have B := B.trans (c25.mono B.size)
        replace hR1 := hR1.below c25
        replace hC := hC.below c25
        clear c25 hHeld
        have hHeld := KEEP _ B
        refine hK.out _ _ (L4.AllL.kept hHeld) ?_
        clear hK K
        (try simp only [Act.put, List.setIfInBounds_toArray, List.set_cons_zero, List.set_cons_succ])
        refine L4.late_step 10 (by kernel_rfl) rfl (fun K hK => ?_)
        go_simp
        refine (concatI _ [xs.take k, xs.drop (k + 1)] _ hR1 (by rw [flat2, List.length_append, List.length_take, List.length_drop, HN.out.1]; have := HLX.out; omega) (by simp)).mono ?_
        rintro e y26 ⟨u1, rfl, hU1, c26⟩
        rw [flat2] at hU1
        have sz26 : y25.heap.size ≤ y26.heap.size := c26.size
        have m1 : ∀ q, u1.ownBlock = some q → y25.heap.size ≤ q ∧ q < y26.heap.size := fun q hq => hU1.lt q hq
        have bU1 : W1.heap.size ≤ y25.heap.size := B.size
        replace hU1 := hU1.mono (B' := W1.heap.size) bU1
        obtain ⟨u1o, u1n, u1c, hu1⟩ : ∃ o n c, u1 = .slice o n c := by obtain ⟨ao, cap, e, -⟩ := hU1.sl; exact ⟨_, _, _, e⟩
        subst hu1
        clear hR1
        have B := B.trans (c26.mono B.size)
        replace hC := hC.below c26
        replace hR2 := hR2.below c26
        clear c26 hHeld
        have hHeld := KEEP _ B
        go_wp2_with fail
        refine hK.out _ _ (L4.AllL.kept hHeld) ?_
        clear hK K
        (try simp only [Act.put, List.setIfInBounds_toArray, List.set_cons_zero, List.set_cons_succ])
        refine L4.late_step 21 (by kernel_rfl) rfl (fun K hK => ?_)
        go_simp
        refine (concatI _ [zs.take k, zs.drop (k + 1)] _ hR2 (by rw [flat2, List.length_append, List.length_take, List.length_drop, HN.out.2]; have := HLX.out; omega) (by simp)).mono ?_
        rintro e y27 ⟨u2, rfl, hU2, c27⟩
        rw [flat2] at hU2
        have sz27 : y26.heap.size ≤ y27.heap.size := c27.size
        have m2 : ∀ q, u2.ownBlock = some q → y26.heap.size ≤ q ∧ q < y27.heap.size := fun q hq => hU2.lt q hq
        have bU2 : W1.heap.size ≤ y26.heap.size := B.size
        replace hU2 := hU2.mono (B' := W1.heap.size) bU2
        obtain ⟨u2o, u2n, u2c, hu2⟩ : ∃ o n c, u2 = .slice o n c := by obtain ⟨ao, cap, e, -⟩ := hU2.sl; exact ⟨_, _, _, e⟩
        subst hu2
        clear hR2
        have B := B.trans (c27.mono B.size)
        replace hC := hC.below c27
        replace hU1 := hU1.below c27
        clear c27 hHeld
        have hHeld := KEEP _ B
        go_wp2_with fail
        refine hK.out _ _ (L4.AllL.kept hHeld) ?_
        clear hK K
        (try simp only [Act.put, List.setIfInBounds_toArray, List.set_cons_zero, List.set_cons_succ])
        refine L4.late_free 32 (v := .agg #[.slice u1o u1n u1c, .slice u2o u2n u2c, .slice (some ⟨gc, 0, none⟩) 0 c0]) rfl (by kernel_rfl) (by kernel_rfl) (by kernel_rfl) (by kernel_rfl) (by kernel_rfl) (by kernel_rfl) (fun _ _ _ h => h) (Or.inl ⟨by rfl, ?_⟩) hHeld ?_
        · (intro u _; go_simp)
        (try simp only [Act.put, List.setIfInBounds_toArray, List.set_cons_zero, List.set_cons_succ])
        refine L4.late_step 33 (by kernel_rfl) rfl (fun K hK => ?_)
        have q9 := HQR.out.below B
        obtain ⟨k0, k1, k2⟩ := q9.cells
        have f0 := q9.thaw 0
        have f1 := q9.thaw 1
        have f2 := q9.thaw 2
        go_simp
        refine hK.out _ _ ⟨Or.inl ⟨33, by kernel_rfl, by kernel_rfl⟩, Or.inl ⟨33, by kernel_rfl, by kernel_rfl⟩, Or.inl ⟨33, by kernel_rfl, by kernel_rfl⟩, Or.inl ⟨33, by kernel_rfl, by kernel_rfl⟩, Or.inl ⟨33, by kernel_rfl, by kernel_rfl⟩, Or.inl ⟨33, by kernel_rfl, by kernel_rfl⟩, Or.inl ⟨33, by kernel_rfl, by kernel_rfl⟩, trivial⟩ ?_
        clear hK K
        (try simp only [Act.put, List.setIfInBounds_toArray, List.set_cons_zero, List.set_cons_succ])
        refine L4.late_done (by kernel_rfl) ?_ _
        obtain ⟨WF, hWF⟩ : ∃ u, u = ((y27.setCell ⟨g + 1, 0, none⟩ (.slice u1o u1n u1c)).setCell ⟨g + 1, 1, none⟩ (.slice u2o u2n u2c)).setCell ⟨g + 1, 2, none⟩ (.slice (some ⟨gc, 0, none⟩) 0 c0) := ⟨_, rfl⟩
        have hoth : ∀ q, q ≠ g + 1 → WF.heap[q]? = y27.heap[q]? := fun q hq => by rw [hWF, Below.heap_setCell _ _ _ _ hq, Below.heap_setCell _ _ _ _ hq, Below.heap_setCell _ _ _ _ hq]
        have hBF : Below w.heap.size w WF := by
          have hb := bstepB HB.out B
          rw [hWF]
          exact ((hb.setCell (p := ⟨g + 1, 0, none⟩) (by show w.heap.size ≤ g + 1; rw [HG.out]; omega) _).setCell (p := ⟨g + 1, 1, none⟩) (by show w.heap.size ≤ g + 1; rw [HG.out]; omega) _).setCell (p := ⟨g + 1, 2, none⟩) (by show w.heap.size ≤ g + 1; rw [HG.out]; omega) _
        have HWF : Hid (BCell 34 WF (g + 1) (.slice u1o u1n u1c) (.slice u2o u2n u2c) (.slice (some ⟨gc, 0, none⟩) 0 c0)) := by show BCell _ _ _ _ _ _; rw [hWF]; exact q9.write _ _ _
        have HRES : Hid (WtE w xs zs k c0 (.returned (.agg #[.slice u1o u1n u1c, .slice u2o u2n u2c, .slice (some ⟨gc, 0, none⟩) 0 c0])) WF) := by
          have hG := HG.out
          have hsw := HB.out.size
          refine ⟨.slice u1o u1n u1c, .slice u2o u2n u2c, gc, rfl, (hU1.of_blocks fun q hq => hoth q (by have := (hU1.lt q hq).1; omega)).mono hsw, (hU2.of_blocks fun q hq => hoth q (by have := (hU2.lt q hq).1; omega)).mono hsw, (hC.of_blocks fun q hq => hoth q (by have := (hC.lt q hq).1; omega)).mono (by omega), fun e => by have := m1 _ e; omega, fun e => by have := m2 _ e; omega, hBF⟩
        rw [← hWF]
        clear hWF hoth hBF q9 k0 k1 k2 f0 f1 f2 hU1 hU2 hC m1 m2 mC B KEEP
        go_wp2_with fail
        (try simp only [Exit.inBlock, Exit.then])
        exact bodyPost_ret (results_cell_row rfl _ _ (g + 1) 34 _ (0, 0) _ rfl HWF.out Try.underlying34 rfl (by kernel_rfl)) rfl HRES.out
  · go_simp
    have rv := HZG.out.below (Nat.le_refl _) B
    have hR2 := rr_litI 22 w1 [.slice (some ⟨zgk, zok, none⟩) k zc, .slice zo2 d2 zc2] [zs.take k, zs.drop (k + 1)] rfl (by simp) (fun i u M h1 h2 => by
      match i, h1, h2 with
      | 0, h1, h2 => cases h1; cases h2; exact rv.cut (by omega)
      | 1, h1, h2 => cases h1; cases h2; exact HFZ.out _ rv)
    obtain ⟨y28, hy28⟩ : ∃ u, u = w1.alloc (.cells #[.slice (some ⟨zgk, zok, none⟩) k zc, .slice zo2 d2 zc2] 22) := ⟨_, rfl⟩
    have c28 : Below w1.heap.size w1 y28 := by rw [hy28]; exact belowB _ _
    have sz28 : w1.heap.size ≤ y28.heap.size := c28.size
    have hR2 : RR (Value.int .i64) y28 (.slice (some ⟨w1.heap.size, 0, none⟩) 2 2) [zs.take k, zs.drop (k + 1)] := by rw [hy28]; exact hR2
    obtain ⟨gR2, hgR2⟩ : ∃ u, u = w1.heap.size := ⟨_, rfl⟩
    rw [← hgR2] at hR2
    rw [← hy28, ← hgR2]
    clear hy28 hgR2 rv
    have B := B.trans (c28.mono B.size)
    clear c28 hHeld
    have hHeld := KEEP _ B
    refine hK.out _ _ (L4.AllL.kept hHeld) ?_
    clear hK K
    (try simp only [Act.put, List.setIfInBounds_toArray, List.set_cons_zero, List.set_cons_succ])
    refine L4.late_two 9 31 (by kernel_rfl) rfl rfl (fun K hK => ?_) (fun K hK => ?_)
    · go_simp
      have rv := HSG.out.below (Nat.le_refl _) B
      have hR1 := rr_litI 22 y28 [.slice so k sc, .slice so2 d1 sc2] [xs.take k, xs.drop (k + 1)] rfl (by simp) (fun i u M h1 h2 => by
        match i, h1, h2 with
        | 0, h1, h2 => cases h1; cases h2; exact rv.cut (by omega)
        | 1, h1, h2 => cases h1; cases h2; exact HFS.out _ rv)
      obtain ⟨y29, hy29⟩ : ∃ u, u = y28.alloc (.cells #[.slice so k sc, .slice so2 d1 sc2] 22) := ⟨_, rfl⟩
      have c29 : Below y28.heap.size y28 y29 := by rw [hy29]; exact belowB _ _
      have sz29 : y28.heap.size ≤ y29.heap.size := c29.size
      have hR1 : RR (Value.int .i64) y29 (.slice (some ⟨y28.heap.size, 0, none⟩) 2 2) [xs.take k, xs.drop (k + 1)] := by rw [hy29]; exact hR1
      obtain ⟨gR1, hgR1⟩ : ∃ u, u = y28.heap.size := ⟨_, rfl⟩
      rw [← hgR1] at hR1
      rw [← hy29, ← hgR1]
      clear hy29 hgR1 rv
      have B := B.trans (c29.mono B.size)
      replace hR2 := hR2.below c29
      clear c29 hHeld
      have hHeld := KEEP _ B
      refine hK.out _ _ (L4.AllL.kept hHeld) ?_
      clear hK K
      (try simp only [Act.put, List.setIfInBounds_toArray, List.set_cons_zero, List.set_cons_succ])
      refine L4.late_two 10 31 (by kernel_rfl) rfl rfl (fun K hK => ?_) (fun K hK => ?_)
      · go_simp
        refine (concatI _ [xs.take k, xs.drop (k + 1)] _ hR1 (by rw [flat2, List.length_append, List.length_take, List.length_drop, HN.out.1]; have := HLX.out; omega) (by simp)).mono ?_
        rintro e y30 ⟨u1, rfl, hU1, c30⟩
        rw [flat2] at hU1
        have sz30 : y29.heap.size ≤ y30.heap.size := c30.size
        have m1 : ∀ q, u1.ownBlock = some q → y29.heap.size ≤ q ∧ q < y30.heap.size := fun q hq => hU1.lt q hq
        have bU1 : W1.heap.size ≤ y29.heap.size := B.size
        replace hU1 := hU1.mono (B' := W1.heap.size) bU1
        obtain ⟨u1o, u1n, u1c, hu1⟩ : ∃ o n c, u1 = .slice o n c := by obtain ⟨ao, cap, e, -⟩ := hU1.sl; exact ⟨_, _, _, e⟩
        subst hu1
        clear hR1
        have B := B.trans (c30.mono B.size)
        replace hR2 := hR2.below c30
        clear c30 hHeld
        have hHeld := KEEP _ B
        go_wp2_with fail
        refine hK.out _ _ (L4.AllL.kept hHeld) ?_
        clear hK K
        (try simp only [Act.put, List.setIfInBounds_toArray, List.set_cons_zero, List.set_cons_succ])
        refine L4.late_two 21 31 (by kernel_rfl) rfl rfl (fun K hK => ?_) (fun K hK => ?_)
        · go_simp
          refine (concatI _ [zs.take k, zs.drop (k + 1)] _ hR2 (by rw [flat2, List.length_append, List.length_take, List.length_drop, HN.out.2]; have := HLX.out; omega) (by simp)).mono ?_
          rintro e y31 ⟨u2, rfl, hU2, c31⟩
          rw [flat2] at hU2
          have sz31 : y30.heap.size ≤ y31.heap.size := c31.size
          have m2 : ∀ q, u2.ownBlock = some q → y30.heap.size ≤ q ∧ q < y31.heap.size := fun q hq => hU2.lt q hq
          have bU2 : W1.heap.size ≤ y30.heap.size := B.size
          replace hU2 := hU2.mono (B' := W1.heap.size) bU2
          obtain ⟨u2o, u2n, u2c, hu2⟩ : ∃ o n c, u2 = .slice o n c := by obtain ⟨ao, cap, e, -⟩ := hU2.sl; exact ⟨_, _, _, e⟩
          subst hu2
          clear hR2
          have B := B.trans (c31.mono B.size)
          replace hU1 := hU1.below c31
          clear c31 hHeld
          have hHeld := KEEP _ B
          go_wp2_with fail
          refine hK.out _ _ (L4.AllL.kept hHeld) ?_
          clear hK K
          (try simp only [Act.put, List.setIfInBounds_toArray, List.set_cons_zero, List.set_cons_succ])
          refine L4.late_step 31 (by kernel_rfl) rfl (fun K hK => ?_)
          refine want_yes rfl ?_
          refine wp_make0 _ _ _ 22 rfl 3 i0 (.int .i64 0) Try.underlying22 hi hz0 hz1' rfl _ _ c0 rfl rfl (by rw [hz2']; omega) (by omega) ?_
          obtain ⟨y32, hy32⟩ : ∃ u, u = y31.alloc (.cells (Array.replicate c0 (.int .i64 0)) 3) := ⟨_, rfl⟩
          obtain ⟨gc, hgc⟩ : ∃ u, u = y31.heap.size := ⟨_, rfl⟩
          rw [← hy32, ← hgc]
          have c32 : Below y31.heap.size y31 y32 := by rw [hy32]; exact belowB _ _
          have sz32 : y31.heap.size ≤ y32.heap.size := c32.size
          have hC : OG (Value.int .i64) gc 3 y32 (.slice (some ⟨gc, 0, none⟩) 0 c0) [] := og_make0 (cs := Array.replicate c0 (.int .i64 0)) (by rw [hy32, hgc]; exact heap_alloc_new _ _) (by simp) (by unfold maxLen; omega) (Nat.le_refl _)
          have mC : y31.heap.size ≤ gc ∧ gc < y32.heap.size := by rw [hy32, hgc]; simp
          have bC : W1.heap.size ≤ gc := by have := B.size; omega
          clear hy32 hgc
          have B := B.trans (c32.mono B.size)
          replace hU1 := hU1.below c32
          replace hU2 := hU2.below c32
          clear c32 hHeld
          have hHeld := KEEP _ B
          refine hK.out _ _ (L4.AllL.kept hHeld) ?_
          clear hK K
          (try simp only [Act.put, List.setIfInBounds_toArray, List.set_cons_zero, List.set_cons_succ])
          refine L4.late_free 32 (v := .agg #[.slice u1o u1n u1c, .slice u2o u2n u2c, .slice (some ⟨gc, 0, none⟩) 0 c0]) rfl (by kernel_rfl) (by kernel_rfl) (by kernel_rfl) (by kernel_rfl) (by kernel_rfl) (by kernel_rfl) (fun _ _ _ h => h) (Or.inl ⟨by rfl, ?_⟩) hHeld ?_
          · (intro u _; go_simp)
          (try simp only [Act.put, List.setIfInBounds_toArray, List.set_cons_zero, List.set_cons_succ])
          refine L4.late_step 33 (by kernel_rfl) rfl (fun K hK => ?_)
          have q9 := HQR.out.below B
          obtain ⟨k0, k1, k2⟩ := q9.cells
          have f0 := q9.thaw 0
          have f1 := q9.thaw 1
          have f2 := q9.thaw 2
          go_simp
          refine hK.out _ _ ⟨Or.inl ⟨33, by kernel_rfl, by kernel_rfl⟩, Or.inl ⟨33, by kernel_rfl, by kernel_rfl⟩, Or.inl ⟨33, by kernel_rfl, by kernel_rfl⟩, Or.inl ⟨33, by kernel_rfl, by kernel_rfl⟩, Or.inl ⟨33, by kernel_rfl, by kernel_rfl⟩, Or.inl ⟨33, by kernel_rfl, by kernel_rfl⟩, Or.inl ⟨33, by kernel_rfl, by kernel_rfl⟩, trivial⟩ ?_
          clear hK K
          (try simp only [Act.put, List.setIfInBounds_toArray, List.set_cons_zero, List.set_cons_succ])
          refine L4.late_done (by kernel_rfl) ?_ _
          obtain ⟨WF, hWF⟩ : ∃ u, u = ((y32.setCell ⟨g + 1, 0, none⟩ (.slice u1o u1n u1c)).setCell ⟨g + 1, 1, none⟩ (.slice u2o u2n u2c)).setCell ⟨g + 1, 2, none⟩ (.slice (some ⟨gc, 0, none⟩) 0 c0) := ⟨_, rfl⟩
          have hoth : ∀ q, q ≠ g + 1 → WF.heap[q]? = y32.heap[q]? := fun q hq => by rw [hWF, Below.heap_setCell _ _ _ _ hq, Below.heap_setCell _ _ _ _ hq, Below.heap_setCell _ _ _ _ hq]
          have hBF : Below w.heap.size w WF := by
            have hb := bstepB HB.out B
            rw [hWF]
            exact ((hb.setCell (p := ⟨g + 1, 0, none⟩) (by show w.heap.size ≤ g + 1; rw [HG.out]; omega) _).setCell (p := ⟨g + 1, 1, none⟩) (by show w.heap.size ≤ g + 1; rw [HG.out]; omega) _).setCell (p := ⟨g + 1, 2, none⟩) (by show w.heap.size ≤ g + 1; rw [HG.out]; omega) _
          have HWF : Hid (BCell 34 WF (g + 1) (.slice u1o u1n u1c) (.slice u2o u2n u2c) (.slice (some ⟨gc, 0, none⟩) 0 c0)) := by show BCell _ _ _ _ _ _; rw [hWF]; exact q9.write _ _ _
          have HRES : Hid (WtE w xs zs k c0 (.returned (.agg #[.slice u1o u1n u1c, .slice u2o u2n u2c, .slice (some ⟨gc, 0, none⟩) 0 c0])) WF) := by
            have hG := HG.out
            have hsw := HB.out.size
            refine ⟨.slice u1o u1n u1c, .slice u2o u2n u2c, gc, rfl, (hU1.of_blocks fun q hq => hoth q (by have := (hU1.lt q hq).1; omega)).mono hsw, (hU2.of_blocks fun q hq => hoth q (by have := (hU2.lt q hq).1; omega)).mono hsw, (hC.of_blocks fun q hq => hoth q (by have := (hC.lt q hq).1; omega)).mono (by omega), fun e => by have := m1 _ e; omega, fun e => by have := m2 _ e; omega, hBF⟩
          rw [← hWF]
          clear hWF hoth hBF q9 k0 k1 k2 f0 f1 f2 hU1 hU2 hC m1 m2 mC B KEEP
          go_wp2_with fail
          (try simp only [Exit.inBlock, Exit.then])
          exact bodyPost_ret (results_cell_row rfl _ _ (g + 1) 34 _ (0, 0) _ rfl HWF.out Try.underlying34 rfl (by kernel_rfl)) rfl HRES.out
        · refine want_yes rfl ?_
          refine wp_make0 _ _ _ 22 rfl 3 i0 (.int .i64 0) Try.underlying22 hi hz0 hz1' rfl _ _ c0 rfl rfl (by rw [hz2']; omega) (by omega) ?_
          obtain ⟨y33, hy33⟩ : ∃ u, u = y30.alloc (.cells (Array.replicate c0 (.int .i64 0)) 3) := ⟨_, rfl⟩
          obtain ⟨gc, hgc⟩ : ∃ u, u = y30.heap.size := ⟨_, rfl⟩
          rw [← hy33, ← hgc]
          have c33 : Below y30.heap.size y30 y33 := by rw [hy33]; exact belowB _ _
          have sz33 : y30.heap.size ≤ y33.heap.size := c33.size
          have hC : OG (Value.int .i64) gc 3 y33 (.slice (some ⟨gc, 0, none⟩) 0 c0) [] := og_make0 (cs := Array.replicate c0 (.int .i64 0)) (by rw [hy33, hgc]; exact heap_alloc_new _ _) (by simp) (by unfold maxLen; omega) (Nat.le_refl _)
          have mC : y30.heap.size ≤ gc ∧ gc < y33.heap.size := by rw [hy33, hgc]; simp
          have bC : W1.heap.size ≤ gc := by have := B.size; omega
          clear hy33 hgc
          have B := B.trans (c33.mono B.size)
          replace hR2 := hR2.below c33
          replace hU1 := hU1.below c33
          clear c33 hHeld
          have hHeld := KEEP _ B
          refine hK.out _ _ (L4.AllL.kept hHeld) ?_
          clear hK K
          (try simp only [Act.put, List.setIfInBounds_toArray, List.set_cons_zero, List.set_cons_succ])
          refine L4.late_step 21 (by kernel_rfl) rfl (fun K hK => ?_)
          go_simp
          refine (concatI _ [zs.take k, zs.drop (k + 1)] _ hR2 (by rw [flat2, List.length_append, List.length_take, List.length_drop, HN.out.2]; have := HLX.out; omega) (by simp)).mono ?_
          rintro e y34 ⟨u2, rfl, hU2, c34⟩
          rw [flat2] at hU2
          have sz34 : y33.heap.size ≤ y34.heap.size := c34.size
          have m2 : ∀ q, u2.ownBlock = some q → y33.heap.size ≤ q ∧ q < y34.heap.size := fun q hq => hU2.lt q hq
          have bU2 : W1.heap.size ≤ y33.heap.size := B.size
          replace hU2 := hU2.mono (B' := W1.heap.size) bU2
          obtain ⟨u2o, u2n, u2c, hu2⟩ : ∃ o n c, u2 = .slice o n c := by obtain ⟨ao, cap, e, -⟩ := hU2.sl; exact ⟨_, _, _, e⟩
          subst hu2
          clear hR2
          have B := B.trans (c34.mono B.size)
          replace hU1 := hU1.below c34
          replace hC := hC.below c34
          clear c34 hHeld
          have hHeld := KEEP _ B
          go_wp2_with fail
          refine hK.out _ _ (L4.AllL.kept hHeld) ?_
          clear hK K
          (try simp only [Act.put, List.setIfInBounds_toArray, List.set_cons_zero, List.set_cons_succ])
          refine L4.late_free 32 (v := .agg #[.slice u1o u1n u1c, .slice u2o u2n u2c, .slice (some ⟨gc, 0, none⟩) 0 c0]) rfl (by kernel_rfl) (by kernel_rfl) (by kernel_rfl) (by kernel_rfl) (by kernel_rfl) (by kernel_rfl) (fun _ _ _ h => h) (Or.inl ⟨by rfl, ?_⟩) hHeld ?_
          · (intro u _; go_simp)
          (try simp only [Act.put, List.setIfInBounds_toArray, List.set_cons_zero, List.set_cons_succ])
          refine L4.late_step 33 (by kernel_rfl) rfl (fun K hK => ?_)
          have q9 := HQR.out.below B
          obtain ⟨k0, k1, k2⟩ := q9.cells
          have f0 := q9.thaw 0
          have f1 := q9.thaw 1
          have f2 := q9.thaw 2
          go_simp
          refine hK.out _ _ ⟨Or.inl ⟨33, by kernel_rfl, by kernel_rfl⟩, Or.inl ⟨33, by kernel_rfl, by kernel_rfl⟩, Or.inl ⟨33, by kernel_rfl, by kernel_rfl⟩, Or.inl ⟨33, by kernel_rfl, by kernel_rfl⟩, Or.inl ⟨33, by kernel_rfl, by kernel_rfl⟩, Or.inl ⟨33, by kernel_rfl, by kernel_rfl⟩, Or.inl ⟨33, by kernel_rfl, by kernel_rfl⟩, trivial⟩ ?_
          clear hK K
          (try simp only [Act.put, List.setIfInBounds_toArray, List.set_cons_zero, List.set_cons_succ])
          refine L4.late_done (by kernel_rfl) ?_ _
          obtain ⟨WF, hWF⟩ : ∃ u, u = ((y34.setCell ⟨g + 1, 0, none⟩ (.slice u1o u1n u1c)).setCell ⟨g + 1, 1, none⟩ (.slice u2o u2n u2c)).setCell ⟨g + 1, 2, none⟩ (.slice (some ⟨gc, 0, none⟩) 0 c0) := ⟨_, rfl⟩
          have hoth : ∀ q, q ≠ g + 1 → WF.heap[q]? = y34.heap[q]? := fun q hq => by rw [hWF, Below.heap_setCell _ _ _ _ hq, Below.heap_setCell _ _ _ _ hq, Below.heap_setCell _ _ _ _ hq]
          have hBF : Below w.heap.size w WF := by
            have hb := bstepB HB.out B
            rw [hWF]
            exact ((hb.setCell (p := ⟨g + 1, 0, none⟩) (by show w.heap.size ≤ g + 1; rw [HG.out]; omega) _).setCell (p := ⟨g + 1, 1, none⟩) (by show w.heap.size ≤ g + 1; rw [HG.out]; omega) _).setCell (p := ⟨g + 1, 2, none⟩) (by show w.heap.size ≤ g + 1; rw [HG.out]; omega) _
          have HWF : Hid (BCell 34 WF (g + 1) (.slice u1o u1n u1c) (.slice u2o u2n u2c) (.slice (some ⟨gc, 0, none⟩) 0 c0)) := by show BCell _ _ _ _ _ _; rw [hWF]; exact q9.write _ _ _
          have HRES : Hid (WtE w xs zs k c0 (.returned (.agg #[.slice u1o u1n u1c, .slice u2o u2n u2c, .slice (some ⟨gc, 0, none⟩) 0 c0])) WF) := by
            have hG := HG.out
            have hsw := HB.out.size
            refine ⟨.slice u1o u1n u1c, .slice u2o u2n u2c, gc, rfl, (hU1.of_blocks fun q hq => hoth q (by have := (hU1.lt q hq).1; omega)).mono hsw, (hU2.of_blocks fun q hq => hoth q (by have := (hU2.lt q hq).1; omega)).mono hsw, (hC.of_blocks fun q hq => hoth q (by have := (hC.lt q hq).1; omega)).mono (by omega), fun e => by have := m1 _ e; omega, fun e => by have := m2 _ e; omega, hBF⟩
          rw [← hWF]
          clear hWF hoth hBF q9 k0 k1 k2 f0 f1 f2 hU1 hU2 hC m1 m2 mC B KEEP
          go_wp2_with fail
          (try simp only [Exit.inBlock, Exit.then])
          exact bodyPost_ret (results_cell_row rfl _ _ (g + 1) 34 _ (0, 0) _ rfl HWF.out Try.underlying34 rfl (by kernel_rfl)) rfl HRES.out
      · refine want_yes rfl ?_
        refine wp_make0 _ _ _ 22 rfl 3 i0 (.int .i64 0) Try.underlying22 hi hz0 hz1' rfl _ _ c0 rfl rfl (by rw [hz2']; omega) (by omega) ?_
        obtain ⟨y35, hy35⟩ : ∃ u, u = y29.alloc (.cells (Array.replicate c0 (.int .i64 0)) 3) := ⟨_, rfl⟩
        obtain ⟨gc, hgc⟩ : ∃ u, u = y29.heap.size := ⟨_, rfl⟩
        rw [← hy35, ← hgc]
        have c35 : Below y29.heap.size y29 y35 := by rw [hy35]; exact belowB _ _
        have sz35 : y29.heap.size ≤ y35.heap.size := c35.size
        have hC : OG (Value.int .i64) gc 3 y35 (.slice (some ⟨gc, 0, none⟩) 0 c0) [] := og_make0 (cs := Array.replicate c0 (.int .i64 0)) (by rw [hy35, hgc]; exact heap_alloc_new _ _) (by simp) (by unfold maxLen; omega) (Nat.le_refl _)
        have mC : y29.heap.size ≤ gc ∧ gc < y35.heap.size := by rw [hy35, hgc]; simp
        have bC : W1.heap.size ≤ gc := by have := B.size; omega
        clear hy35 hgc
        have B := B.trans (c35.mono B.size)
        replace hR2 := hR2.below c35
        replace hR1 := hR1.below c35
        clear c35 hHeld
        have hHeld := KEEP _ B
        refine hK.out _ _ (L4.AllL.kept hHeld) ?_
        clear hK K
        (try simp only [Act.put, List.setIfInBounds_toArray, List.set_cons_zero, List.set_cons_succ])
        refine L4.late_step 10 (by kernel_rfl) rfl (fun K hK => ?_)
        go_simp
        refine (concatI _ [xs.take k, xs.drop (k + 1)] _ hR1 (by rw [flat2, List.length_append, List.length_take, List.length_drop, HN.out.1]; have := HLX.out; omega) (by simp)).mono ?_
        rintro e y36 ⟨u1, rfl, hU1, c36⟩
        rw [flat2] at hU1
        have sz36 : y35.heap.size ≤ y36.heap.size := c36.size
        have m1 : ∀ q, u1.ownBlock = some q → y35.heap.size ≤ q ∧ q < y36.heap.size := fun q hq => hU1.lt q hq
        have bU1 : W1.heap.size ≤ y35.heap.size := B.size
        replace hU1 := hU1.mono (B' := W1.heap.size) bU1
        obtain ⟨u1o, u1n, u1c, hu1⟩ : ∃ o n c, u1 = .slice o n c := by obtain ⟨ao, cap, e, -⟩ := hU1.sl; exact ⟨_, _, _, e⟩
        subst hu1
        clear hR1
        have B := B.trans (c36.mono B.size)
        replace hR2 := hR2.below c36
        replace hC := hC.below c36
        clear c36 hHeld
        have hHeld := KEEP _ B
        go_wp2_with fail
        refine hK.out _ _ (L4.AllL.kept hHeld) ?_
        clear hK K
        (try simp only [Act.put, List.setIfInBounds_toArray, List.set_cons_zero, List.set_cons_succ])
        refine L4.late_step 21 (by kernel_rfl) rfl (fun K hK => ?_)
        go_simp
        refine (concatI _ [zs.take k, zs.drop (k + 1)] _ hR2 (by rw [flat2, List.length_append, List.length_take, List.length_drop, HN.out.2]; have := HLX.out; omega) (by simp)).mono ?_
        rintro e y37 ⟨u2, rfl, hU2, c37⟩
        rw [flat2] at hU2
        have sz37 : y36.heap.size ≤ y37.heap.size := c37.size
        have m2 : ∀ q, u2.ownBlock = some q → y36.heap.size ≤ q ∧ q < y37.heap.size := fun q hq => hU2.lt q hq
        have bU2 : W1.heap.size ≤ y36.heap.size := B.size
        replace hU2 := hU2.mono (B' := W1.heap.size) bU2
        obtain ⟨u2o, u2n, u2c, hu2⟩ : ∃ o n c, u2 = .slice o n c := by obtain ⟨ao, cap, e, -⟩ := hU2.sl; exact ⟨_, _, _, e⟩
        subst hu2
        clear hR2
        have B := B.trans (c37.mono B.size)
        replace hC := hC.below c37
        replace hU1 := hU1.below c37
        clear c37 hHeld
        have hHeld := KEEP _ B
        go_wp2_with fail
        refine hK.out _ _ (L4.AllL.kept hHeld) ?_
        clear hK K
        (try simp only [Act.put, List.setIfInBounds_toArray, List.set_cons_zero, List.set_cons_succ])
        refine L4.late_free 32 (v := .agg #[.slice u1o u1n u1c, .slice u2o u2n u2c, .slice (some ⟨gc, 0, none⟩) 0 c0]) rfl (by kernel_rfl) (by kernel_rfl) (by kernel_rfl) (by kernel_rfl) (by kernel_rfl) (by kernel_rfl) (fun _ _ _ h => h) (Or.inl ⟨by rfl, ?_⟩) hHeld ?_
        · (intro u _; go_simp)
        (try simp only [Act.put, List.setIfInBounds_toArray, List.set_cons_zero, List.set_cons_succ])
        refine L4.late_step 33 (by kernel_rfl) rfl (fun K hK => ?_)
        have q9 := HQR.out.below B
        obtain ⟨k0, k1, k2⟩ := q9.cells
        have f0 := q9.thaw 0
        have f1 := q9.thaw 1
        have f2 := q9.thaw 2
        go_simp
        refine hK.out _ _ ⟨Or.inl ⟨33, by kernel_rfl, by kernel_rfl⟩, Or.inl ⟨33, by kernel_rfl, by kernel_rfl⟩, Or.inl ⟨33, by kernel_rfl, by kernel_rfl⟩, Or.inl ⟨33, by kernel_rfl, by kernel_rfl⟩, Or.inl ⟨33, by kernel_rfl, by kernel_rfl⟩, Or.inl ⟨33, by kernel_rfl, by kernel_rfl⟩, Or.inl ⟨33, by kernel_rfl, by kernel_rfl⟩, trivial⟩ ?_
        clear hK K
        (try simp only [Act.put, List.setIfInBounds_toArray, List.set_cons_zero, List.set_cons_succ])
        refine L4.late_done (by kernel_rfl) ?_ _
        obtain ⟨WF, hWF⟩ : ∃ u, u = ((y37.setCell ⟨g + 1, 0, none⟩ (.slice u1o u1n u1c)).setCell ⟨g + 1, 1, none⟩ (.slice u2o u2n u2c)).setCell ⟨g + 1, 2, none⟩ (.slice (some ⟨gc, 0, none⟩) 0 c0) := ⟨_, rfl⟩
        have hoth : ∀ q, q ≠ g + 1 → WF.heap[q]? = y37.heap[q]? := fun q hq => by rw [hWF, Below.heap_setCell _ _ _ _ hq, Below.heap_setCell _ _ _ _ hq, Below.heap_setCell _ _ _ _ hq]
        have hBF : Below w.heap.size w WF := by
          have hb := bstepB HB.out B
          rw [hWF]
          exact ((hb.setCell (p := ⟨g + 1, 0, none⟩) (by show w.heap.size ≤ g + 1; rw [HG.out]; omega) _).setCell (p := ⟨g + 1, 1, none⟩) (by show w.heap.size ≤ g + 1; rw [HG.out]; omega) _).setCell (p := ⟨g + 1, 2, none⟩) (by show w.heap.size ≤ g + 1; rw [HG.out]; omega) _
        have HWF : Hid (BCell 34 WF (g + 1) (.slice u1o u1n u1c) (.slice u2o u2n u2c) (.slice (some ⟨gc, 0, none⟩) 0 c0)) := by show BCell _ _ _ _ _ _; rw [hWF]; exact q9.write _ _ _
        have HRES : Hid (WtE w xs zs k c0 (.returned (.agg #[.slice u1o u1n u1c, .slice u2o u2n u2c, .slice (some ⟨gc, 0, none⟩) 0 c0])) WF) := by
          have hG := HG.out
          have hsw := HB.out.size
          refine ⟨.slice u1o u1n u1c, .slice u2o u2n u2c, gc, rfl, (hU1.of_blocks fun q hq => hoth q (by have := (hU1.lt q hq).1; omega)).mono hsw, (hU2.of_blocks fun q hq => hoth q (by have := (hU2.lt q hq).1; omega)).mono hsw, (hC.of_blocks fun q hq => hoth q (by have := (hC.lt q hq).1; omega)).mono (by omega), fun e => by have := m1 _ e; omega, fun e => by have := m2 _ e; omega, hBF⟩
        rw [← hWF]
        clear hWF hoth hBF q9 k0 k1 k2 f0 f1 f2 hU1 hU2 hC m1 m2 mC B KEEP
        go_wp2_with fail
        (try simp only [Exit.inBlock, Exit.then])
        exact bodyPost_ret (results_cell_row rfl _ _ (g + 1) 34 _ (0, 0) _ rfl HWF.out Try.underlying34 rfl (by kernel_rfl)) rfl HRES.out
    · refine want_yes rfl ?_
      refine wp_make0 _ _ _ 22 rfl 3 i0 (.int .i64 0) Try.underlying22 hi hz0 hz1' rfl _ _ c0 rfl rfl (by rw [hz2']; omega) (by omega) ?_
      obtain ⟨y38, hy38⟩ : ∃ u, u = y28.alloc (.cells (Array.replicate c0 (.int .i64 0)) 3) := ⟨_, rfl⟩
      obtain ⟨gc, hgc⟩ : ∃ u, u = y28.heap.size := ⟨_, rfl⟩
      rw [← hy38, ← hgc]
      have c38 : Below y28.heap.size y28 y38 := by rw [hy38]; exact belowB _ _
      have sz38 : y28.heap.size ≤ y38.heap.size := c38.size
      have hC : OG (Value.int .i64) gc 3 y38 (.slice (some ⟨gc, 0, none⟩) 0 c0) [] := og_make0 (cs := Array.replicate c0 (.int .i64 0)) (by rw [hy38, hgc]; exact heap_alloc_new _ _) (by simp) (by unfold maxLen; omega) (Nat.le_refl _)
      have mC : y28.heap.size ≤ gc ∧ gc < y38.heap.size := by rw [hy38, hgc]; simp
      have bC : W1.heap.size ≤ gc := by have := B.size; omega
      clear hy38 hgc
      have B := B.trans (c38.mono B.size)
      replace hR2 := hR2.below c38
      clear c38 hHeld
      have hHeld := KEEP _ B
      refine hK.out _ _ (L4.AllL.kept hHeld) ?_
      clear hK K
      (try simp only [Act.put, List.setIfInBounds_toArray, List.set_cons_zero, List.set_cons_succ])
      refine L4.late_step 9 (by kernel_rfl) rfl (fun K hK => ?_)
      go_simp
      have rv := HSG.out.below (Nat.le_refl _) B
      have hR1 := rr_litI 22 y38 [.slice so k sc, .slice so2 d1 sc2] [xs.take k, xs.drop (k + 1)] rfl (by simp) (fun i u M h1 h2 => by
        match i, h1, h2 with
        | 0, h1, h2 => cases h1; cases h2; exact rv.cut (by omega)
        | 1, h1, h2 => cases h1; cases h2; exact HFS.out _ rv)
      obtain ⟨y39, hy39⟩ : ∃ u, u = y38.alloc (.cells #[.slice so k sc, .slice so2 d1 sc2] 22) := ⟨_, rfl⟩
      have c39 : Below y38.heap.size y38 y39 := by rw [hy39]; exact belowB _ _
      have sz39 : y38.heap.size ≤ y39.heap.size := c39.size
      have hR1 : RR (Value.int .i64) y39 (.slice (some ⟨y38.heap.size, 0, none⟩) 2 2) [xs.take k, xs.drop (k + 1)] := by rw [hy39]; exact hR1
      obtain ⟨gR1, hgR1⟩ : ∃ u, u = y38.heap.size := ⟨_, rfl⟩
      rw [← hgR1] at hR1
      rw [← hy39, ← hgR1]
      clear hy39 hgR1 rv
      have B := B.trans (c39.mono B.size)
      replace hR2 := hR2.below c39
      replace hC := hC.below c39
      clear c39 hHeld
      have hHeld := KEEP _ B
      refine hK.out _ _ (L4.AllL.kept hHeld) ?_
      clear hK K
      (try simp only [Act.put, List.setIfInBounds_toArray, List.set_cons_zero, List.set_cons_succ])
      refine L4.late_step 10 (by kernel_rfl) rfl (fun K hK => ?_)
      go_simp
      refine (concatI _ [xs.take k, xs.drop (k + 1)] _ hR1 (by rw [flat2, List.length_append, List.length_take, List.length_drop, HN.out.1]; have := HLX.out; omega) (by simp)).mono ?_
      rintro e y40 ⟨u1, rfl, hU1, c40⟩
      rw [flat2] at hU1
      have sz40 : y39.heap.size ≤ y40.heap.size := c40.size
      have m1 : ∀ q, u1.ownBlock = some q → y39.heap.size ≤ q ∧ q < y40.heap.size := fun q hq => hU1.lt q hq
      have bU1 : W1.heap.size ≤ y39.heap.size := B.size
      replace hU1 := hU1.mono (B' := W1.heap.size) bU1
      obtain ⟨u1o, u1n, u1c, hu1⟩ : ∃ o n c, u1 = .slice o n c := by obtain ⟨ao, cap, e, -⟩ := hU1.sl; exact ⟨_, _, _, e⟩
      subst hu1
      clear hR1
      have B := B.trans (c40.mono B.size)
      replace hR2 := hR2.below c40
      replace hC := hC.below c40
      clear c40 hHeld
      have hHeld := KEEP _ B
      go_wp2_with fail
      refine hK.out _ _ (L4.AllL.kept hHeld) ?_
      clear hK K
      (try simp only [Act.put, List.setIfInBounds_toArray, List.set_cons_zero, List.set_cons_succ])
      refine L4.late_step 21 (by kernel_rfl) rfl (fun K hK => ?_)
      go_simp
      refine (concatI _ [zs.take k, zs.drop (k + 1)] _ hR2 (by rw [flat2, List.length_append, List.length_take, List.length_drop, HN.out.2]; have := HLX.out; omega) (by simp)).mono ?_
      rintro e y41 ⟨u2, rfl, hU2, c41⟩
      rw [flat2] at hU2
      have sz41 : y40.heap.size ≤ y41.heap.size := c41.size
      have m2 : ∀ q, u2.ownBlock = some q → y40.heap.size ≤ q ∧ q < y41.heap.size := fun q hq => hU2.lt q hq
      have bU2 : W1.heap.size ≤ y40.heap.size := B.size
      replace hU2 := hU2.mono (B' := W1.heap.size) bU2
      obtain ⟨u2o, u2n, u2c, hu2⟩ : ∃ o n c, u2 = .slice o n c := by obtain ⟨ao, cap, e, -⟩ := hU2.sl; exact ⟨_, _, _, e⟩
      subst hu2
      clear hR2
      have B := B.trans (c41.mono B.size)
      replace hC := hC.below c41
      replace hU1 := hU1.below c41
      clear c41 hHeld
      have hHeld := KEEP _ B
      go_wp2_with fail
      refine hK.out _ _ (L4.AllL.kept hHeld) ?_
      clear hK K
      (try simp only [Act.put, List.setIfInBounds_toArray, List.set_cons_zero, List.set_cons_succ])
      refine L4.late_free 32 (v := .agg #[.slice u1o u1n u1c, .slice u2o u2n u2c, .slice (some ⟨gc, 0, none⟩) 0 c0]) rfl (by kernel_rfl) (by kernel_rfl) (by kernel_rfl) (by kernel_rfl) (by kernel_rfl) (by kernel_rfl) (fun _ _ _ h => h) (Or.inl ⟨by rfl, ?_⟩) hHeld ?_
      · (intro u _; go_simp)
      (try simp only [Act.put, List.setIfInBounds_toArray, List.set_cons_zero, List.set_cons_succ])
      refine L4.late_step 33 (by kernel_rfl) rfl (fun K hK => ?_)
      have q9 := HQR.out.below B
      obtain ⟨k0, k1, k2⟩ := q9.cells
      have f0 := q9.thaw 0
      have f1 := q9.thaw 1
      have f2 := q9.thaw 2
      go_simp
      refine hK.out _ _ ⟨Or.inl ⟨33, by kernel_rfl, by kernel_rfl⟩, Or.inl ⟨33, by kernel_rfl, by kernel_rfl⟩, Or.inl ⟨33, by kernel_rfl, by kernel_rfl⟩, Or.inl ⟨33, by kernel_rfl, by kernel_rfl⟩, Or.inl ⟨33, by kernel_rfl, by kernel_rfl⟩, Or.inl ⟨33, by kernel_rfl, by kernel_rfl⟩, Or.inl ⟨33, by kernel_rfl, by kernel_rfl⟩, trivial⟩ ?_
      clear hK K
      (try simp only [Act.put, List.setIfInBounds_toArray, List.set_cons_zero, List.set_cons_succ])
      refine L4.late_done (by kernel_rfl) ?_ _
      obtain ⟨WF, hWF⟩ : ∃ u, u = ((y41.setCell ⟨g + 1, 0, none⟩ (.slice u1o u1n u1c)).setCell ⟨g + 1, 1, none⟩ (.slice u2o u2n u2c)).setCell ⟨g + 1, 2, none⟩ (.slice (some ⟨gc, 0, none⟩) 0 c0) := ⟨_, rfl⟩
      have hoth : ∀ q, q ≠ g + 1 → WF.heap[q]? = y41.heap[q]? := fun q hq => by rw [hWF, Below.heap_setCell _ _ _ _ hq, Below.heap_setCell _ _ _ _ hq, Below.heap_setCell _ _ _ _ hq]
      have hBF : Below w.heap.size w WF := by
        have hb := bstepB HB.out B
        rw [hWF]
        exact ((hb.setCell (p := ⟨g + 1, 0, none⟩) (by show w.heap.size ≤ g + 1; rw [HG.out]; omega) _).setCell (p := ⟨g + 1, 1, none⟩) (by show w.heap.size ≤ g + 1; rw [HG.out]; omega) _).setCell (p := ⟨g + 1, 2, none⟩) (by show w.heap.size ≤ g + 1; rw [HG.out]; omega) _
      have HWF : Hid (BCell 34 WF (g + 1) (.slice u1o u1n u1c) (.slice u2o u2n u2c) (.slice (some ⟨gc, 0, none⟩) 0 c0)) := by show BCell _ _ _ _ _ _; rw [hWF]; exact q9.write _ _ _
      have HRES : Hid (WtE w xs zs k c0 (.returned (.agg #[.slice u1o u1n u1c, .slice u2o u2n u2c, .slice (some ⟨gc, 0, none⟩) 0 c0])) WF) := by
        have hG := HG.out
        have hsw := HB.out.size
        refine ⟨.slice u1o u1n u1c, .slice u2o u2n u2c, gc, rfl, (hU1.of_blocks fun q hq => hoth q (by have := (hU1.lt q hq).1; omega)).mono hsw, (hU2.of_blocks fun q hq => hoth q (by have := (hU2.lt q hq).1; omega)).mono hsw, (hC.of_blocks fun q hq => hoth q (by have := (hC.lt q hq).1; omega)).mono (by omega), fun e => by have := m1 _ e; omega, fun e => by have := m2 _ e; omega, hBF⟩
      rw [← hWF]
      clear hWF hoth hBF q9 k0 k1 k2 f0 f1 f2 hU1 hU2 hC m1 m2 mC B KEEP
      go_wp2_with fail
      (try simp only [Exit.inBlock, Exit.then])
      exact bodyPost_ret (results_cell_row rfl _ _ (g + 1) 34 _ (0, 0) _ rfl HWF.out Try.underlying34 rfl (by kernel_rfl)) rfl HRES.out
  · refine want_yes rfl ?_
    refine wp_make0 _ _ _ 22 rfl 3 i0 (.int .i64 0) Try.underlying22 hi hz0 hz1' rfl _ _ c0 rfl rfl (by rw [hz2']; omega) (by omega) ?_
    obtain ⟨y42, hy42⟩ : ∃ u, u = w1.alloc (.cells (Array.replicate c0 (.int .i64 0)) 3) := ⟨_, rfl⟩
    obtain ⟨gc, hgc⟩ : ∃ u, u = w1.heap.size := ⟨_, rfl⟩
    rw [← hy42, ← hgc]
    have c42 : Below w1.heap.size w1 y42 := by rw [hy42]; exact belowB _ _
    have sz42 : w1.heap.size ≤ y42.heap.size := c42.size
    have hC : OG (Value.int .i64) gc 3 y42 (.slice (some ⟨gc, 0, none⟩) 0 c0) [] := og_make0 (cs := Array.replicate c0 (.int .i64 0)) (by rw [hy42, hgc]; exact heap_alloc_new _ _) (by simp) (by unfold maxLen; omega) (Nat.le_refl _)
    have mC : w1.heap.size ≤ gc ∧ gc < y42.heap.size := by rw [hy42, hgc]; simp
    have bC : W1.heap.size ≤ gc := by have := B.size; omega
    clear hy42 hgc
    have B := B.trans (c42.mono B.size)
    clear c42 hHeld
    have hHeld := KEEP _ B
    refine hK.out _ _ (L4.AllL.kept hHeld) ?_
    clear hK K
    (try simp only [Act.put, List.setIfInBounds_toArray, List.set_cons_zero, List.set_cons_succ])
    refine L4.late_two 9 20 (by kernel_rfl) rfl rfl (fun K hK => ?_) (fun K hK => ?_)
    · go_simp
      have rv := HSG.out.below (Nat.le_refl _) B
      have hR1 := rr_litI 22 y42 [.slice so k sc, .slice so2 d1 sc2] [xs.take k, xs.drop (k + 1)] rfl (by simp) (fun i u M h1 h2 => by
        match i, h1, h2 with
        | 0, h1, h2 => cases h1; cases h2; exact rv.cut (by omega)
        | 1, h1, h2 => cases h1; cases h2; exact HFS.out _ rv)
      obtain ⟨y43, hy43⟩ : ∃ u, u = y42.alloc (.cells #[.slice so k sc, .slice so2 d1 sc2] 22) := ⟨_, rfl⟩
      have c43 : Below y42.heap.size y42 y43 := by rw [hy43]; exact belowB _ _
      have sz43 : y42.heap.size ≤ y43.heap.size := c43.size
      have hR1 : RR (Value.int .i64) y43 (.slice (some ⟨y42.heap.size, 0, none⟩) 2 2) [xs.take k, xs.drop (k + 1)] := by rw [hy43]; exact hR1
      obtain ⟨gR1, hgR1⟩ : ∃ u, u = y42.heap.size := ⟨_, rfl⟩
      rw [← hgR1] at hR1
      rw [← hy43, ← hgR1]
      clear hy43 hgR1 rv
      have B := B.trans (c43.mono B.size)
      replace hC := hC.below c43
      clear c43 hHeld
      have hHeld := KEEP _ B
      refine hK.out _ _ (L4.AllL.kept hHeld) ?_
      clear hK K
      (try simp only [Act.put, List.setIfInBounds_toArray, List.set_cons_zero, List.set_cons_succ])
      refine L4.late_two 10 20 (by kernel_rfl) rfl rfl (fun K hK => ?_) (fun K hK => ?_)
      · go_simp
        refine (concatI _ [xs.take k, xs.drop (k + 1)] _ hR1 (by rw [flat2, List.length_append, List.length_take, List.length_drop, HN.out.1]; have := HLX.out; omega) (by simp)).mono ?_
        rintro e y44 ⟨u1, rfl, hU1, c44⟩
        rw [flat2] at hU1
        have sz44 : y43.heap.size ≤ y44.heap.size := c44.size
        have m1 : ∀ q, u1.ownBlock = some q → y43.heap.size ≤ q ∧ q < y44.heap.size := fun q hq => hU1.lt q hq
        have bU1 : W1.heap.size ≤ y43.heap.size := B.size
        replace hU1 := hU1.mono (B' := W1.heap.size) bU1
        obtain ⟨u1o, u1n, u1c, hu1⟩ : ∃ o n c, u1 = .slice o n c := by obtain ⟨ao, cap, e, -⟩ := hU1.sl; exact ⟨_, _, _, e⟩
        subst hu1
        clear hR1
        have B := B.trans (c44.mono B.size)
        replace hC := hC.below c44
        clear c44 hHeld
        have hHeld := KEEP _ B
        go_wp2_with fail
        refine hK.out _ _ (L4.AllL.kept hHeld) ?_
        clear hK K
        (try simp only [Act.put, List.setIfInBounds_toArray, List.set_cons_zero, List.set_cons_succ])
        refine L4.late_step 20 (by kernel_rfl) rfl (fun K hK => ?_)
        go_simp
        have rv := HZG.out.below (Nat.le_refl _) B
        have hR2 := rr_litI 22 y44 [.slice (some ⟨zgk, zok, none⟩) k zc, .slice zo2 d2 zc2] [zs.take k, zs.drop (k + 1)] rfl (by simp) (fun i u M h1 h2 => by
          match i, h1, h2 with
          | 0, h1, h2 => cases h1; cases h2; exact rv.cut (by omega)
          | 1, h1, h2 => cases h1; cases h2; exact HFZ.out _ rv)
        obtain ⟨y45, hy45⟩ : ∃ u, u = y44.alloc (.cells #[.slice (some ⟨zgk, zok, none⟩) k zc, .slice zo2 d2 zc2] 22) := ⟨_, rfl⟩
        have c45 : Below y44.heap.size y44 y45 := by rw [hy45]; exact belowB _ _
        have sz45 : y44.heap.size ≤ y45.heap.size := c45.size
        have hR2 : RR (Value.int .i64) y45 (.slice (some ⟨y44.heap.size, 0, none⟩) 2 2) [zs.take k, zs.drop (k + 1)] := by rw [hy45]; exact hR2
        obtain ⟨gR2, hgR2⟩ : ∃ u, u = y44.heap.size := ⟨_, rfl⟩
        rw [← hgR2] at hR2
        rw [← hy45, ← hgR2]
        clear hy45 hgR2 rv
        have B := B.trans (c45.mono B.size)
        replace hC := hC.below c45
        replace hU1 := hU1.below c45
        clear c45 hHeld
        have hHeld := KEEP _ B
        refine hK.out _ _ (L4.AllL.kept hHeld) ?_
        clear hK K
        (try simp only [Act.put, List.setIfInBounds_toArray, List.set_cons_zero, List.set_cons_succ])
        refine L4.late_step 21 (by kernel_rfl) rfl (fun K hK => ?_)
        go_simp
        refine (concatI _ [zs.take k, zs.drop (k + 1)] _ hR2 (by rw [flat2, List.length_append, List.length_take, List.length_drop, HN.out.2]; have := HLX.out; omega) (by simp)).mono ?_
        rintro e y46 ⟨u2, rfl, hU2, c46⟩
        rw [flat2] at hU2
        have sz46 : y45.heap.size ≤ y46.heap.size := c46.size
        have m2 : ∀ q, u2.ownBlock = some q → y45.heap.size ≤ q ∧ q < y46.heap.size := fun q hq => hU2.lt q hq
        have bU2 : W1.heap.size ≤ y45.heap.size := B.size
        replace hU2 := hU2.mono (B' := W1.heap.size) bU2
        obtain ⟨u2o, u2n, u2c, hu2⟩ : ∃ o n c, u2 = .slice o n c := by obtain ⟨ao, cap, e, -⟩ := hU2.sl; exact ⟨_, _, _, e⟩
        subst hu2
        clear hR2
        have B := B.trans (c46.mono B.size)
        replace hC := hC.below c46
        replace hU1 := hU1.below c46
        clear c46 hHeld
        have hHeld := KEEP _ B
        go_wp2_with fail
        refine hK.out _ _ (L4.AllL.kept hHeld) ?_
        clear hK K
        (try simp only [Act.put, List.setIfInBounds_toArray, List.set_cons_zero, List.set_cons_succ])
        refine L4.late_free 32 (v := .agg #[.slice u1o u1n u1c, .slice u2o u2n u2c, .slice (some ⟨gc, 0, none⟩) 0 c0]) rfl (by kernel_rfl) (by kernel_rfl) (by kernel_rfl) (by kernel_rfl) (by kernel_rfl) (by kernel_rfl) (fun _ _ _ h => h) (Or.inl ⟨by rfl, ?_⟩) hHeld ?_
        · (intro u _; go_simp)
        (try simp only [Act.put, List.setIfInBounds_toArray, List.set_cons_zero, List.set_cons_succ])
        refine L4.late_step 33 (by kernel_rfl) rfl (fun K hK => ?_)
        have q9 := HQR.out.below B
        obtain ⟨k0, k1, k2⟩ := q9.cells
        have f0 := q9.thaw 0
        have f1 := q9.thaw 1
        have f2 := q9.thaw 2
        go_simp
        refine hK.out _ _ ⟨Or.inl ⟨33, by kernel_rfl, by kernel_rfl⟩, Or.inl ⟨33, by kernel_rfl, by kernel_rfl⟩, Or.inl ⟨33, by kernel_rfl, by kernel_rfl⟩, Or.inl ⟨33, by kernel_rfl, by kernel_rfl⟩, Or.inl ⟨33, by kernel_rfl, by kernel_rfl⟩, Or.inl ⟨33, by kernel_rfl, by kernel_rfl⟩, Or.inl ⟨33, by kernel_rfl, by kernel_rfl⟩, trivial⟩ ?_
        clear hK K
        (try simp only [Act.put, List.setIfInBounds_toArray, List.set_cons_zero, List.set_cons_succ])
        refine L4.late_done (by kernel_rfl) ?_ _
        obtain ⟨WF, hWF⟩ : ∃ u, u = ((y46.setCell ⟨g + 1, 0, none⟩ (.slice u1o u1n u1c)).setCell ⟨g + 1, 1, none⟩ (.slice u2o u2n u2c)).setCell ⟨g + 1, 2, none⟩ (.slice (some ⟨gc, 0, none⟩) 0 c0) := ⟨_, rfl⟩
        have hoth : ∀ q, q ≠ g + 1 → WF.heap[q]? = y46.heap[q]? := fun q hq => by rw [hWF, Below.heap_setCell _ _ _ _ hq, Below.heap_setCell _ _ _ _ hq, Below.heap_setCell _ _ _ _ hq]
        have hBF : Below w.heap.size w WF := by
          have hb := bstepB HB.out B
          rw [hWF]
          exact ((hb.setCell (p := ⟨g + 1, 0, none⟩) (by show w.heap.size ≤ g + 1; rw [HG.out]; omega) _).setCell (p := ⟨g + 1, 1, none⟩) (by show w.heap.size ≤ g + 1; rw [HG.out]; omega) _).setCell (p := ⟨g + 1, 2, none⟩) (by show w.heap.size ≤ g + 1; rw [HG.out]; omega) _
        have HWF : Hid (BCell 34 WF (g + 1) (.slice u1o u1n u1c) (.slice u2o u2n u2c) (.slice (some ⟨gc, 0, none⟩) 0 c0)) := by show BCell _ _ _ _ _ _; rw [hWF]; exact q9.write _ _ _
        have HRES : Hid (WtE w xs zs k c0 (.returned (.agg #[.slice u1o u1n u1c, .slice u2o u2n u2c, .slice (some ⟨gc, 0, none⟩) 0 c0])) WF) := by
          have hG := HG.out
          have hsw := HB.out.size
          refine ⟨.slice u1o u1n u1c, .slice u2o u2n u2c, gc, rfl, (hU1.of_blocks fun q hq => hoth q (by have := (hU1.lt q hq).1; omega)).mono hsw, (hU2.of_blocks fun q hq => hoth q (by have := (hU2.lt q hq).1; omega)).mono hsw, (hC.of_blocks fun q hq => hoth q (by have := (hC.lt q hq).1; omega)).mono (by omega), fun e => by have := m1 _ e; omega, fun e => by have := m2 _ e; omega, hBF⟩
        rw [← hWF]
        clear hWF hoth hBF q9 k0 k1 k2 f0 f1 f2 hU1 hU2 hC m1 m2 mC B KEEP
        go_wp2_with fail
        (try simp only [Exit.inBlock, Exit.then])
        exact bodyPost_ret (results_cell_row rfl _ _ (g + 1) 34 _ (0, 0) _ rfl HWF.out Try.underlying34 rfl (by kernel_rfl)) rfl HRES.out
      · go_simp
        have rv := HZG.out.below (Nat.le_refl _) B
        have hR2 := rr_litI 22 y43 [.slice (some ⟨zgk, zok, none⟩) k zc, .slice zo2 d2 zc2] [zs.take k, zs.drop (k + 1)] rfl (by simp) (fun i u M h1 h2 => by
          match i, h1, h2 with
          | 0, h1, h2 => cases h1; cases h2; exact rv.cut (by omega)
          | 1, h1, h2 => cases h1; cases h2; exact HFZ.out _ rv)
        obtain ⟨y47, hy47⟩ : ∃ u, u = y43.alloc (.cells #[.slice (some ⟨zgk, zok, none⟩) k zc, .slice zo2 d2 zc2] 22) := ⟨_, rfl⟩
        have c47 : Below y43.heap.size y43 y47 := by rw [hy47]; exact belowB _ _
        have sz47 : y43.heap.size ≤ y47.heap.size := c47.size
        have hR2 : RR (Value.int .i64) y47 (.slice (some ⟨y43.heap.size, 0, none⟩) 2 2) [zs.take k, zs.drop (k + 1)] := by rw [hy47]; exact hR2
        obtain ⟨gR2, hgR2⟩ : ∃ u, u = y43.heap.size := ⟨_, rfl⟩
        rw [← hgR2] at hR2
        rw [← hy47, ← hgR2]
        clear hy47 hgR2 rv
        have B := B.trans (c47.mono B.size)
        replace hC := hC.below c47
        replace hR1 := hR1.below c47
        clear c47 hHeld
        have hHeld := KEEP _ B
        refine hK.out _ _ (L4.AllL.kept hHeld) ?_
        clear hK K
        (try simp only [Act.put, List.setIfInBounds_toArray, List.set_cons_zero, List.set_cons_succ])
        refine L4.late_step 10 (by kernel_rfl) rfl (fun K hK => ?_)
        go_simp
        refine (concatI _ [xs.take k, xs.drop (k + 1)] _ hR1 (by rw [flat2, List.length_append, List.length_take, List.length_drop, HN.out.1]; have := HLX.out; omega) (by simp)).mono ?_
        rintro e y48 ⟨u1, rfl, hU1, c48⟩
        rw [flat2] at hU1
        have sz48 : y47.heap.size ≤ y48.heap.size := c48.size
        have m1 : ∀ q, u1.ownBlock = some q → y47.heap.size ≤ q ∧ q < y48.heap.size := fun q hq => hU1.lt q hq
        have bU1 : W1.heap.size ≤ y47.heap.size := B.size
        replace hU1 := hU1.mono (B' := W1.heap.size) bU1
        obtain ⟨u1o, u1n, u1c, hu1⟩ : ∃ o n c, u1 = .slice o n c := by obtain ⟨ao, cap, e, -⟩ := hU1.sl; exact ⟨_, _, _, e⟩
        subst hu1
        clear hR1
        have B := B.trans (c48.mono B.size)
        replace hC := hC.below c48
        replace hR2 := hR2.below c48
        clear c48 hHeld
        have hHeld := KEEP _ B
        go_wp2_with fail
        refine hK.out _ _ (L4.AllL.kept hHeld) ?_
        clear hK K
        (try simp only [Act.put, List.setIfInBounds_toArray, List.set_cons_zero, List.set_cons_succ])
        refine L4.late_step 21 (by kernel_rfl) rfl (fun K hK => ?_)
        go_simp
        refine (concatI _ [zs.take k, zs.drop (k + 1)] _ hR2 (by rw [flat2, List.length_append, List.length_take, List.length_drop, HN.out.2]; have := HLX.out; omega) (by simp)).mono ?_
        rintro e y49 ⟨u2, rfl, hU2, c49⟩
        rw [flat2] at hU2
        have sz49 : y48.heap.size ≤ y49.heap.size := c49.size
        have m2 : ∀ q, u2.ownBlock = some q → y48.heap.size ≤ q ∧ q < y49.heap.size := fun q hq => hU2.lt q hq
        have bU2 : W1.heap.size ≤ y48.heap.size := B.size
        replace hU2 := hU2.mono (B' := W1.heap.size) bU2
        obtain ⟨u2o, u2n, u2c, hu2⟩ : ∃ o n c, u2 = .slice o n c := by obtain ⟨ao, cap, e, -⟩ := hU2.sl; exact ⟨_, _, _, e⟩
        subst hu2
        clear hR2
        have B := B.trans (c49.mono B.size)
        replace hC := hC.below c49
        replace hU1 := hU1.below c49
        clear c49 hHeld
        have hHeld := KEEP _ B
        go_wp2_with fail
        refine hK.out _ _ (L4.AllL.kept hHeld) ?_
        clear hK K
        (try simp only [Act.put, List.setIfInBounds_toArray, List.set_cons_zero, List.set_cons_succ])
        refine L4.late_free 32 (v := .agg #[.slice u1o u1n u1c, .slice u2o u2n u2c, .slice (some ⟨gc, 0, none⟩) 0 c0]) rfl (by kernel_rfl) (by kernel_rfl) (by kernel_rfl) (by kernel_rfl) (by kernel_rfl) (by kernel_rfl) (fun _ _ _ h => h) (Or.inl ⟨by rfl, ?_⟩) hHeld ?_
        · (intro u _; go_simp)
        (try simp only [Act.put, List.setIfInBounds_toArray, List.set_cons_zero, List.set_cons_succ])
        refine L4.late_step 33 (by kernel_rfl) rfl (fun K hK => ?_)
        have q9 := HQR.out.below B
        obtain ⟨k0, k1, k2⟩ := q9.cells
        have f0 := q9.thaw 0
        have f1 := q9.thaw 1
        have f2 := q9.thaw 2
        go_simp
        refine hK.out _ _ ⟨Or.inl ⟨33, by kernel_rfl, by kernel_rfl⟩, Or.inl ⟨33, by kernel_rfl, by kernel_rfl⟩, Or.inl ⟨33, by kernel_rfl, by kernel_rfl⟩, Or.inl ⟨33, by kernel_rfl, by kernel_rfl⟩, Or.inl ⟨33, by kernel_rfl, by kernel_rfl⟩, Or.inl ⟨33, by kernel_rfl, by kernel_rfl⟩, Or.inl ⟨33, by kernel_rfl, by kernel_rfl⟩, trivial⟩ ?_
        clear hK K
        (try simp only [Act.put, List.setIfInBounds_toArray, List.set_cons_zero, List.set_cons_succ])
        refine L4.late_done (by kernel_rfl) ?_ _
        obtain ⟨WF, hWF⟩ : ∃ u, u = ((y49.setCell ⟨g + 1, 0, none⟩ (.slice u1o u1n u1c)).setCell ⟨g + 1, 1, none⟩ (.slice u2o u2n u2c)).setCell ⟨g + 1, 2, none⟩ (.slice (some ⟨gc, 0, none⟩) 0 c0) := ⟨_, rfl⟩
        have hoth : ∀ q, q ≠ g + 1 → WF.heap[q]? = y49.heap[q]? := fun q hq => by rw [hWF, Below.heap_setCell _ _ _ _ hq, Below.heap_setCell _ _ _ _ hq, Below.heap_setCell _ _ _ _ hq]
        have hBF : Below w.heap.size w WF := by
          have hb := bstepB HB.out B
          rw [hWF]
          exact ((hb.setCell (p := ⟨g + 1, 0, none⟩) (by show w.heap.size ≤ g + 1; rw [HG.out]; omega) _).setCell (p := ⟨g + 1, 1, none⟩) (by show w.heap.size ≤ g + 1; rw [HG.out]; omega) _).setCell (p := ⟨g + 1, 2, none⟩) (by show w.heap.size ≤ g + 1; rw [HG.out]; omega) _
        have HWF : Hid (BCell 34 WF (g + 1) (.slice u1o u1n u1c) (.slice u2o u2n u2c) (.slice (some ⟨gc, 0, none⟩) 0 c0)) := by show BCell _ _ _ _ _ _; rw [hWF]; exact q9.write _ _ _
        have HRES : Hid (WtE w xs zs k c0 (.returned (.agg #[.slice u1o u1n u1c, .slice u2o u2n u2c, .slice (some ⟨gc, 0, none⟩) 0 c0])) WF) := by
          have hG := HG.out
          have hsw := HB.out.size
          refine ⟨.slice u1o u1n u1c, .slice u2o u2n u2c, gc, rfl, (hU1.of_blocks fun q hq => hoth q (by have := (hU1.lt q hq).1; omega)).mono hsw, (hU2.of_blocks fun q hq => hoth q (by have := (hU2.lt q hq).1; omega)).mono hsw, (hC.of_blocks fun q hq => hoth q (by have := (hC.lt q hq).1; omega)).mono (by omega), fun e => by have := m1 _ e; omega, fun e => by have := m2 _ e; omega, hBF⟩
        rw [← hWF]
        clear hWF hoth hBF q9 k0 k1 k2 f0 f1 f2 hU1 hU2 hC m1 m2 mC B KEEP
        go_wp2_with fail
        (try simp only [Exit.inBlock, Exit.then])
        exact bodyPost_ret (results_cell_row rfl _ _ (g + 1) 34 _ (0, 0) _ rfl HWF.out Try.underlying34 rfl (by kernel_rfl)) rfl HRES.out
    · go_simp
      have rv := HZG.out.below (Nat.le_refl _) B
      have hR2 := rr_litI 22 y42 [.slice (some ⟨zgk, zok, none⟩) k zc, .slice zo2 d2 zc2] [zs.take k, zs.drop (k + 1)] rfl (by simp) (fun i u M h1 h2 => by
        match i, h1, h2 with
        | 0, h1, h2 => cases h1; cases h2; exact rv.cut (by omega)
        | 1, h1, h2 => cases h1; cases h2; exact HFZ.out _ rv)
      obtain ⟨y50, hy50⟩ : ∃ u, u = y42.alloc (.cells #[.slice (some ⟨zgk, zok, none⟩) k zc, .slice zo2 d2 zc2] 22) := ⟨_, rfl⟩
      have c50 : Below y42.heap.size y42 y50 := by rw [hy50]; exact belowB _ _
      have sz50 : y42.heap.size ≤ y50.heap.size := c50.size
      have hR2 : RR (Value.int .i64) y50 (.slice (some ⟨y42.heap.size, 0, none⟩) 2 2) [zs.take k, zs.drop (k + 1)] := by rw [hy50]; exact hR2
      obtain ⟨gR2, hgR2⟩ : ∃ u, u = y42.heap.size := ⟨_, rfl⟩
      rw [← hgR2] at hR2
      rw [← hy50, ← hgR2]
      clear hy50 hgR2 rv
      have B := B.trans (c50.mono B.size)
      replace hC := hC.below c50
      clear c50 hHeld
      have hHeld := KEEP _ B
      refine hK.out _ _ (L4.AllL.kept hHeld) ?_
      clear hK K
      (try simp only [Act.put, List.setIfInBounds_toArray, List.set_cons_zero, List.set_cons_succ])
      refine L4.late_step 9 (by kernel_rfl) rfl (fun K hK => ?_)
      go_simp
      have rv := HSG.out.below (Nat.le_refl _) B
      have hR1 := rr_litI 22 y50 [.slice so k sc, .slice so2 d1 sc2] [xs.take k, xs.drop (k + 1)] rfl (by simp) (fun i u M h1 h2 => by
        match i, h1, h2 with
        | 0, h1, h2 => cases h1; cases h2; exact rv.cut (by omega)
        | 1, h1, h2 => cases h1; cases h2; exact HFS.out _ rv)
      obtain ⟨y51, hy51⟩ : ∃ u, u = y50.alloc (.cells #[.slice so k sc, .slice so2 d1 sc2] 22) := ⟨_, rfl⟩
      have c51 : Below y50.heap.size y50 y51 := by rw [hy51]; exact belowB _ _
      have sz51 : y50.heap.size ≤ y51.heap.size := c51.size
      have hR1 : RR (Value.int .i64) y51 (.slice (some ⟨y50.heap.size, 0, none⟩) 2 2) [xs.take k, xs.drop (k + 1)] := by rw [hy51]; exact hR1
      obtain ⟨gR1, hgR1⟩ : ∃ u, u = y50.heap.size := ⟨_, rfl⟩
      rw [← hgR1] at hR1
      rw [← hy51, ← hgR1]
      clear hy51 hgR1 rv
      have B := B.trans (c51.mono B.size)
      replace hC := hC.below c51
      replace hR2 := hR2.below c51
      clear c51 hHeld
      have hHeld := KEEP _ B
      refine hK.out _ _ (L4.AllL.kept hHeld) ?_
      clear hK K
      (try simp only [Act.put, List.setIfInBounds_toArray, List.set_cons_zero, List.set_cons_succ])
      refine L4.late_step 10 (by kernel_rfl) rfl (fun K hK => ?_)
      go_simp
      refine (concatI _ [xs.take k, xs.drop (k + 1)] _ hR1 (by rw [flat2, List.length_append, List.length_take, List.length_drop, HN.out.1]; have := HLX.out; omega) (by simp)).mono ?_
      rintro e y52 ⟨u1, rfl, hU1, c52⟩
      rw [flat2] at hU1
      have sz52 : y51.heap.size ≤ y52.heap.size := c52.size
      have m1 : ∀ q, u1.ownBlock = some q → y51.heap.size ≤ q ∧ q < y52.heap.size := fun q hq => hU1.lt q hq
      have bU1 : W1.heap.size ≤ y51.heap.size := B.size
      replace hU1 := hU1.mono (B' := W1.heap.size) bU1
      obtain ⟨u1o, u1n, u1c, hu1⟩ : ∃ o n c, u1 = .slice o n c := by obtain ⟨ao, cap, e, -⟩ := hU1.sl; exact ⟨_, _, _, e⟩
      subst hu1
      clear hR1
      have B := B.trans (c52.mono B.size)
      replace hC := hC.below c52
      replace hR2 := hR2.below c52
      clear c52 hHeld
      have hHeld := KEEP _ B
      go_wp2_with fail
      refine hK.out _ _ (L4.AllL.kept hHeld) ?_
      clear hK K
      (try simp only [Act.put, List.setIfInBounds_toArray, List.set_cons_zero, List.set_cons_succ])
      refine L4.late_step 21 (by kernel_rfl) rfl (fun K hK => ?_)
      go_simp
      refine (concatI _ [zs.take k, zs.drop (k + 1)] _ hR2 (by rw [flat2, List.length_append, List.length_take, List.length_drop, HN.out.2]; have := HLX.out; omega) (by simp)).mono ?_
      rintro e y53 ⟨u2, rfl, hU2, c53⟩
      rw [flat2] at hU2
      have sz53 : y52.heap.size ≤ y53.heap.size := c53.size
      have m2 : ∀ q, u2.ownBlock = some q → y52.heap.size ≤ q ∧ q < y53.heap.size := fun q hq => hU2.lt q hq
      have bU2 : W1.heap.size ≤ y52.heap.size := B.size
      replace hU2 := hU2.mono (B' := W1.heap.size) bU2
      obtain ⟨u2o, u2n, u2c, hu2⟩ : ∃ o n c, u2 = .slice o n c := by obtain ⟨ao, cap, e, -⟩ := hU2.sl; exact ⟨_, _, _, e⟩
      subst hu2
      clear hR2
      have B := B.trans (c53.mono B.size)
      replace hC := hC.below c53
      replace hU1 := hU1.below c53
      clear c53 hHeld
      have hHeld := KEEP _ B
      go_wp2_with fail
      refine hK.out _ _ (L4.AllL.kept hHeld) ?_
      clear hK K
      (try simp only [Act.put, List.setIfInBounds_toArray, List.set_cons_zero, List.set_cons_succ])
      refine L4.late_free 32 (v := .agg #[.slice u1o u1n u1c, .slice u2o u2n u2c, .slice (some ⟨gc, 0, none⟩) 0 c0]) rfl (by kernel_rfl) (by kernel_rfl) (by kernel_rfl) (by kernel_rfl) (by kernel_rfl) (by kernel_rfl) (fun _ _ _ h => h) (Or.inl ⟨by rfl, ?_⟩) hHeld ?_
      · (intro u _; go_simp)
      (try simp only [Act.put, List.setIfInBounds_toArray, List.set_cons_zero, List.set_cons_succ])
      refine L4.late_step 33 (by kernel_rfl) rfl (fun K hK => ?_)
      have q9 := HQR.out.below B
      obtain ⟨k0, k1, k2⟩ := q9.cells
      have f0 := q9.thaw 0
      have f1 := q9.thaw 1
      have f2 := q9.thaw 2
      go_simp
      refine hK.out _ _ ⟨Or.inl ⟨33, by kernel_rfl, by kernel_rfl⟩, Or.inl ⟨33, by kernel_rfl, by kernel_rfl⟩, Or.inl ⟨33, by kernel_rfl, by kernel_rfl⟩, Or.inl ⟨33, by kernel_rfl, by kernel_rfl⟩, Or.inl ⟨33, by kernel_rfl, by kernel_rfl⟩, Or.inl ⟨33, by kernel_rfl, by kernel_rfl⟩, Or.inl ⟨33, by kernel_rfl, by kernel_rfl⟩, trivial⟩ ?_
      clear hK K
      (try simp only [Act.put, List.setIfInBounds_toArray, List.set_cons_zero, List.set_cons_succ])
      refine L4.late_done (by kernel_rfl) ?_ _
      obtain ⟨WF, hWF⟩ : ∃ u, u = ((y53.setCell ⟨g + 1, 0, none⟩ (.slice u1o u1n u1c)).setCell ⟨g + 1, 1, none⟩ (.slice u2o u2n u2c)).setCell ⟨g + 1, 2, none⟩ (.slice (some ⟨gc, 0, none⟩) 0 c0) := ⟨_, rfl⟩
      have hoth : ∀ q, q ≠ g + 1 → WF.heap[q]? = y53.heap[q]? := fun q hq => by rw [hWF, Below.heap_setCell _ _ _ _ hq, Below.heap_setCell _ _ _ _ hq, Below.heap_setCell _ _ _ _ hq]
      have hBF : Below w.heap.size w WF := by
        have hb := bstepB HB.out B
        rw [hWF]
        exact ((hb.setCell (p := ⟨g + 1, 0, none⟩) (by show w.heap.size ≤ g + 1; rw [HG.out]; omega) _).setCell (p := ⟨g + 1, 1, none⟩) (by show w.heap.size ≤ g + 1; rw [HG.out]; omega) _).setCell (p := ⟨g + 1, 2, none⟩) (by show w.heap.size ≤ g + 1; rw [HG.out]; omega) _
      have HWF : Hid (BCell 34 WF (g + 1) (.slice u1o u1n u1c) (.slice u2o u2n u2c) (.slice (some ⟨gc, 0, none⟩) 0 c0)) := by show BCell _ _ _ _ _ _; rw [hWF]; exact q9.write _ _ _
      have HRES : Hid (WtE w xs zs k c0 (.returned (.agg #[.slice u1o u1n u1c, .slice u2o u2n u2c, .slice (some ⟨gc, 0, none⟩) 0 c0])) WF) := by
        have hG := HG.out
        have hsw := HB.out.size
        refine ⟨.slice u1o u1n u1c, .slice u2o u2n u2c, gc, rfl, (hU1.of_blocks fun q hq => hoth q (by have := (hU1.lt q hq).1; omega)).mono hsw, (hU2.of_blocks fun q hq => hoth q (by have := (hU2.lt q hq).1; omega)).mono hsw, (hC.of_blocks fun q hq => hoth q (by have := (hC.lt q hq).1; omega)).mono (by omega), fun e => by have := m1 _ e; omega, fun e => by have := m2 _ e; omega, hBF⟩
      rw [← hWF]
      clear hWF hoth hBF q9 k0 k1 k2 f0 f1 f2 hU1 hU2 hC m1 m2 mC B KEEP
      go_wp2_with fail
      (try simp only [Exit.inBlock, Exit.then])
      exact bodyPost_ret (results_cell_row rfl _ _ (g + 1) 34 _ (0, 0) _ rfl HWF.out Try.underlying34 rfl (by kernel_rfl)) rfl HRES.out
end Go.Proofs.Ytjlmignafhhjhaa

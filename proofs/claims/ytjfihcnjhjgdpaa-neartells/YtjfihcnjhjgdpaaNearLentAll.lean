/-
  Proved here: what the law's alike and big answer.
  Proved here: a number's limbs put into a new row: the walk's law of append to nothing.
  Proved here: what the law's lent answers: a fraction in memory of its own, with marks behind.
-/
import Derived.Test.YtjfihcnjhjgdpaaNearAS
import Derived.Test.YtjfihcnjhjgdpaaAllAll
namespace Go.Proofs.Ytjfihcnjhjgdpaa
open Go.RowKit

@[local go_sem] theorem run_f64bits2 (b : Nat) (w : World) : (callFunc 26 #[.float .f64 b]).run Try.prog w = .ok (.value (.int .u64 (b : Int))) w := by
  rw [run_callFunc_extern Try.func26 (by kernel_rfl) (by kernel_rfl) (by kernel_rfl) (e := Extern.MathFloatBits.float64bits) (by kernel_rfl)]
  rfl

set_option maxRecDepth 100000 in
set_option maxHeartbeats 1600000 in
theorem alike_yes (b : Nat) (w : World) :
    Calls Try.prog 17 #[.float .f64 b, .float .f64 b] w fun e w' => e = .returned (.bool true) ∧ w' = w := by
  have h : ((b : Int) == (b : Int)) = true := by simp
  go_enter Try.func17, Try.ntmps17
  go_wp2
  go_ret
  exact ⟨rfl, rfl⟩

set_option maxRecDepth 100000 in
set_option maxHeartbeats 1600000 in
theorem big05_any (na : Bool) (po qo : Option Addr) (pl pc ql qc : Nat) (w : World) :
    Calls Try.prog 11 #[.agg #[.bool na, .slice po pl pc, .slice qo ql qc]] w fun e w' => e = .returned (.bool (decide (200 < pl) || decide (200 < ql))) ∧ Below w.heap.size w w' := by
  have hk : TCell (w.alloc (.cells #[.bool na, .slice po pl pc, .slice qo ql qc] 29)) w.heap.size (.bool na) (.slice po pl pc) (.slice qo ql qc) := tcell_new _ rfl
  obtain ⟨c0, c1, c2⟩ := hk.cells
  clear hk
  by_cases h1 : 200 < pl
  · have d1 : decide (200 < pl) = true := decide_eq_true h1
    have h1' : (200 : Int) < (pl : Int) := by omega
    rw [d1, Bool.true_or]
    go_enter Try.func11, Try.ntmps11
    go_wp2
    go_ret
    exact ⟨rfl, belowA _ _⟩
  · have d1 : decide (200 < pl) = false := decide_eq_false h1
    have h1' : ¬ (200 : Int) < (pl : Int) := by omega
    rw [d1, Bool.false_or]
    by_cases h2 : 200 < ql
    · have d2 : decide (200 < ql) = true := decide_eq_true h2
      have h2' : (200 : Int) < (ql : Int) := by omega
      rw [d2]
      go_enter Try.func11, Try.ntmps11
      go_wp2
      go_ret
      exact ⟨rfl, belowA _ _⟩
    · have d2 : decide (200 < ql) = false := decide_eq_false h2
      have h2' : ¬ (200 : Int) < (ql : Int) := by omega
      rw [d2]
      go_enter Try.func11, Try.ntmps11
      go_wp2
      go_ret
      exact ⟨rfl, belowA _ _⟩
end Go.Proofs.Ytjfihcnjhjgdpaa

namespace Go.Proofs.Ytjfihcnjhjgdpaa
open Go.RowKit

set_option maxRecDepth 100000 in
theorem wpList_app0 (w : World) {ops : Array Oper} {rest : List Oper} {o : Oper} {a : Act} {Q : Exit → Act → World → Prop}
    (hg : o.guard = none) (s x : Operand) (hop : o.op = Op.call { callee := Callee.builtin Builtin.append, args := #[s, x], argTypes := #[25, 25] })
    (hs : a.eval s = .slice none 0 0) (v : Value) (xs : List Nat) (hx : a.eval x = v) (h : Num w v xs) (hlen : xs.length ≤ 1000)
    (hK : ∀ v' w', Own w.heap.size 39 w' v' xs → Below w.heap.size w w' → wpList Try.prog ops Q rest (a.put o.dst v') w') :
    wpList Try.prog ops Q (o :: rest) a w := by
  obtain ⟨hb, ao, cap, rfl, hc, hm, hnil, hcell⟩ := h.open_
  obtain ⟨i0, hi, hz0, hz1, hz2⟩ := info_parts Try.infoU
  rcases ao with _ | ad
  · have hcz := hnil rfl
    have hxs : xs = [] := List.eq_nil_of_length_eq_zero (by omega)
    subst hxs
    subst hcz
    have hr : (Builtin.append_ #[25, 25] o.type #[.slice none 0 0, .slice none 0 0]).run Try.prog w = .ok (.slice none 0 0) w := by go_simp
    have hx' : a.eval x = .slice none 0 0 := hx
    refine wpList_plain hg fun K hK2 => ?_
    unfold Oper.wp execOp
    simp only [hop, resolve, invoke, builtin, Sem.run_bind, Sem.run_pure, Result.andThen_ok, List.map_toArray, List.map_cons, List.map_nil, hs, hx', hr]
    exact hK2 _ _ (hK _ _ (Own.of_nil _ _ _) (Below.refl _ _))
  · have HC : ∀ j u, (xs.map U)[j]? = some u → w.cell? (ad.add j) = some u := by
      intro j u hj
      rw [List.getElem?_map] at hj
      obtain ⟨y, hy, rfl⟩ := Option.map_eq_some_iff.1 hj
      obtain ⟨hjk, hy⟩ := List.getElem?_eq_some_iff.1 hy
      obtain ⟨b', off', he, hc'⟩ := hcell j (by omega)
      simp only [Option.some.injEq] at he
      subst he
      subst hy
      rw [Addr.add_lit]
      rw [hc', List.getD_eq_getElem?_getD, List.getElem?_eq_getElem (by omega)]
      rfl
    refine wpList_append_own w hg s x 25 hop w.heap.size 39 i0 (.int .u32 0) 1 4 Try.underlying25 hi hz0 hz1 hz2 rfl (by decide) _ _ _ hs (World.ownsRow_nil _ _ _ _) ad xs.length cap (xs.map U) hx (by simp) HC (by intro u hu; obtain ⟨y, _, rfl⟩ := List.mem_map.1 hu; rfl) (by unfold maxLen; omega) (by omega) (Nat.le_refl _) ?_
    intro v1 w1 hown hgr _
    exact hK _ _ ⟨hb, by simpa using hown⟩ ((Below.refl w.heap.size w).grown hgr (Nat.le_refl _) (by intro k hk; simp [Value.ownBlock] at hk))
end Go.Proofs.Ytjfihcnjhjgdpaa

namespace Go.Proofs.Ytjfihcnjhjgdpaa
open Go.RowKit

theorem cell_three_new (w : World) (a b c : Value) (t : TypeId) : ∀ j u, [a, b, c][j]? = some u → (w.alloc (.cells #[a, b, c] t)).cell? ((⟨w.heap.size, 0, none⟩ : Addr).add j) = some u := by
  intro j u hj
  match j, hj with
  | 0, hj => simp at hj; subst hj; simp [Addr.add]
  | 1, hj => simp at hj; subst hj; simp [Addr.add]
  | 2, hj => simp at hj; subst hj; simp [Addr.add]
  | j + 3, hj => simp at hj
theorem push_three {B : Nat} {w w' wr : World} {v v' : Value} {zs ds : List Nat} {o : Obj} (hv : Own B 39 wr v zs) (hbel : Below B w wr) (hB : B ≤ wr.heap.size) (hd : limbs ds)
    (ho : w'.ownsRow B 39 1 v' (zs.length + ds.length) (zs.map U ++ ds.map U)) (hg : (wr.alloc o).grownBy w' v.ownBlock) :
    Own B 39 w' v' (zs ++ ds) ∧ Below B w w' ∧ B ≤ w'.heap.size := by
  have hsz : (wr.alloc o).heap.size = wr.heap.size + 1 := by simp
  have hbel2 : Below B (wr.alloc o) w' := below_of_grown hg (by omega) (fun g e => (hv.block g e).1)
  refine ⟨⟨fun x hx => ?_, ?_⟩, (hbel.alloc hB o).trans hbel2, by have := hbel2.size; omega⟩
  · rcases List.mem_append.1 hx with h1 | h1
    · exact hv.1 x h1
    · exact hd x h1
  · rw [List.length_append, List.map_append]
    exact ho

theorem results_ctt {P : Program} {fn : Func} {p u u2 : Tmp} {ty : TypeId} (h : fn.results = #[.cell p ty, .tmp u, .tmp u2]) (tmps : Array Value) (w : World) (g : Nat) (t : TypeId) (cs : Array Value) (fr : Nat × Nat) (d : TypeDesc)
    (hp : tmps.getD p undef = .pointer (some ⟨g, 0, none⟩)) (hg : w.heap[g]? = some (.cells cs t fr))
    (hu : P.underlying ty = some d) (hd : (match d with | .struct _ | .array _ _ => true | _ => false) = true) (hi : (P.info? ty).map (·.size) = some cs.size) :
    (results fn tmps).run P w = .ok (.tuple #[.agg cs, tmps.getD u undef, tmps.getD u2 undef]) w := by
  have hp' : tmps[p]?.getD undef = .pointer (some ⟨g, 0, none⟩) := by simpa using hp
  simp [results, h, hp', asAddr, run_loadVar_row w g t ty cs fr d hg hu hd hi]
theorem TCell.write {w : World} {g : Nat} {a b c : Value} (h : TCell w g a b c) (a2 b2 c2 : Value) : TCell (((w.setCell ⟨g, 0, none⟩ a2).setCell ⟨g, 1, none⟩ b2).setCell ⟨g, 2, none⟩ c2) g a2 b2 c2 := by
  unfold TCell
  have h1 := heap_setCell_same w g 0 _ _ a2 h
  have h2 := heap_setCell_same _ g 1 _ _ b2 h1
  have h3 := heap_setCell_same _ g 2 _ _ c2 h2
  rw [h3]
  rfl

/-- What lent leaves. -/
def LentEnd (na : Bool) (xs ys : List Nat) (w : World) (e : Ending) (w' : World) : Prop :=
  ∃ no do_ nc dc, e = .returned (.tuple #[.agg #[.bool na, .slice no xs.length nc, .slice do_ ys.length dc], .slice no (xs.length + 3) nc, .slice do_ (ys.length + 3) dc]) ∧ Num w' (.slice no (xs.length + 3) nc) (xs ++ [91, 92, 93]) ∧ Num w' (.slice do_ (ys.length + 3) dc) (ys ++ [94, 95, 96]) ∧ Below w.heap.size w w'

set_option maxRecDepth 100000 in
set_option maxHeartbeats 6400000 in
theorem lent_any (na : Bool) (po qo : Option Addr) (pl pc ql qc : Nat) (xs ys : List Nat) (w : World) (hu : Num w (.slice po pl pc) xs) (hv : Num w (.slice qo ql qc) ys) (lx : xs.length ≤ 1000) (ly : ys.length ≤ 1000) (hpl : xs.length = pl) (hql : ys.length = ql) :
    Calls Try.prog 12 #[.agg #[.bool na, .slice po pl pc, .slice qo ql qc]] w fun e w' => LentEnd na xs ys w e w' := by
  obtain ⟨iU, hiU, hzU0, hzU1, hzU2⟩ := info_parts Try.infoU
  have HPL : Hid (xs.length = pl) := hpl
  have HQL : Hid (ys.length = ql) := hql
  have lpl : pl ≤ 1000 := by omega
  have lql : ql ≤ 1000 := by omega
  clear hpl hql
  obtain ⟨W1, hW1⟩ : ∃ W1, W1 = (w.alloc (.cells #[.bool na, .slice po pl pc, .slice qo ql qc] 29)).alloc (.cells #[.bool false, .slice none 0 0, .slice none 0 0] 29) := ⟨_, rfl⟩
  have hr : TCell W1 w.heap.size (.bool na) (.slice po pl pc) (.slice qo ql qc) := by rw [hW1]; exact (tcell_new _ rfl).below (belowA _ _)
  have hz : TCell W1 (w.heap.size + 1) (.bool false) (.slice none 0 0) (.slice none 0 0) := by rw [hW1]; exact tcell_new _ (by simp)
  have hb1 : Below w.heap.size w W1 := by rw [hW1]; exact bstep (belowA w _) (belowA _ _)
  have r1 : ((w.alloc (.cells #[.bool na, .slice po pl pc, .slice qo ql qc] 29)).alloc (.cells #[.bool false, .slice none 0 0, .slice none 0 0] 29)).cell? ⟨w.heap.size, 1, none⟩ = some (.slice po pl pc) := by rw [← hW1]; exact hr.cells.2.1
  have HW1 : Hid ((w.alloc (.cells #[.bool na, .slice po pl pc, .slice qo ql qc] 29)).alloc (.cells #[.bool false, .slice none 0 0, .slice none 0 0] 29) = W1) := hW1.symm
  replace hu := hu.below (Nat.le_refl _) hb1
  replace hv := hv.below (Nat.le_refl _) hb1
  clear hW1
  go_enter Try.func12, Try.ntmps12
  go_wp2_with (at_builtin; rw [HW1.out]; refine wpList_app0 _ rfl _ _ rfl rfl (.slice po pl pc) xs rfl hu lx ?_)
  intro v1 w2 o1 b2
  obtain ⟨g, hg⟩ : ∃ g, g = w.heap.size := ⟨_, rfl⟩
  rw [← hg] at hr hz ⊢
  have HG : Hid (g = w.heap.size) := hg
  clear hg r1 HW1 hu
  have HS1 : Hid (g + 1 < W1.heap.size) := (Array.getElem?_eq_some_iff.1 hz).1
  have HO : Hid (w2.ownsRow W1.heap.size 39 1 v1 pl (xs.map U)) := by show _; rw [← HPL.out]; exact o1.2
  have hs2 := b2.size
  go_wp2_with (at_builtin; refine wpList_push _ rfl _ _ 25 rfl W1.heap.size 39 iU (.int .u32 0) 4 Try.underlying25 hiU hzU0 hzU1 hzU2 rfl _ pl (xs.map U) rfl (HO.out.alloc _) ⟨w2.heap.size, 0, none⟩ 3 3 [.int .u32 91, .int .u32 92, .int .u32 93] rfl rfl (cell_three_new _ _ _ _ _) (fun u hu => by simp at hu; rcases hu with h | h | h <;> (subst h; rfl)) (by decide) (by unfold maxLen; omega) (by omega) (by simp; omega) ?_)
  intro v2 w3 ho hgr _ _
  have R := push_three (ds := [91, 92, 93]) o1 b2 hs2 (by intro x hx; simp at hx; omega) (by rw [HPL.out]; exact ho) hgr
  obtain ⟨o2, b3, hs3⟩ := R
  clear ho hgr o1 HO b2 hs2
  have HS3 : Hid (g + 1 < w3.heap.size) := Nat.lt_of_lt_of_le HS1.out b3.size
  replace hr := hr.below b3
  replace hz := hz.below b3
  replace hv := hv.below (Nat.le_refl _) b3
  replace hb1 := bstep hb1 b3
  obtain ⟨c0, c1, c2⟩ := hr.cells
  go_wp2_with (at_builtin; refine wpList_app0 _ rfl _ _ rfl rfl (.slice qo ql qc) ys rfl hv ly ?_)
  intro v3 w4 o3 b4
  clear c0 c1 c2 hv
  have HO : Hid (w4.ownsRow w3.heap.size 39 1 v3 ql (ys.map U)) := by show _; rw [← HQL.out]; exact o3.2
  have hs4 := b4.size
  go_wp2_with (at_builtin; refine wpList_push _ rfl _ _ 25 rfl w3.heap.size 39 iU (.int .u32 0) 4 Try.underlying25 hiU hzU0 hzU1 hzU2 rfl _ ql (ys.map U) rfl (HO.out.alloc _) ⟨w4.heap.size, 0, none⟩ 3 3 [.int .u32 94, .int .u32 95, .int .u32 96] rfl rfl (cell_three_new _ _ _ _ _) (fun u hu => by simp at hu; rcases hu with h | h | h <;> (subst h; rfl)) (by decide) (by unfold maxLen; omega) (by omega) (by simp; omega) ?_)
  intro v4 w5 ho hgr _ _
  have R := push_three (ds := [94, 95, 96]) o3 b4 hs4 (by intro x hx; simp at hx; omega) (by rw [HQL.out]; exact ho) hgr
  obtain ⟨o4, b5, hs5⟩ := R
  replace o2 := o2.below b5
  replace hr := hr.below b5
  replace hz := hz.below b5
  replace hb1 := bstep hb1 b5
  clear ho hgr o3 b4 HO hs4 hs5 hs3 b5 b3
  obtain ⟨no, nc, rfl, hnc, hnm⟩ := o2.num.ao
  obtain ⟨do_, dc, rfl, hdc, hdm⟩ := o4.num.ao
  have el : (xs ++ [91, 92, 93]).length = pl + 3 := by rw [List.length_append, HPL.out]; rfl
  have fl : (ys ++ [94, 95, 96]).length = ql + 3 := by rw [List.length_append, HQL.out]; rfl
  rw [el] at o2 hnc ⊢
  rw [fl] at o4 hdc ⊢
  clear el fl
  obtain ⟨c0, c1, c2⟩ := hr.cells
  obtain ⟨y0, y1, y2⟩ := hz.cells
  have f0 := frozen_of_row w5 (g + 1) 0 _ _ hz
  have f1 := frozen_of_row w5 (g + 1) 1 _ _ hz
  have f2 := frozen_of_row w5 (g + 1) 2 _ _ hz
  have HZ : Hid (TCell w5 (g + 1) (.bool false) (.slice none 0 0) (.slice none 0 0)) := hz
  clear hr hz
  have hpn : pl ≤ nc := by omega
  have hqn : ql ≤ dc := by omega
  go_wp2_with fail
  go_region_held3 (fun w' => w'.cell? ⟨g, 0, none⟩ = some (.bool na) ∧ w'.cell? ⟨g, 1, none⟩ = some (.slice po pl pc) ∧ w'.cell? ⟨g, 2, none⟩ = some (.slice qo ql qc)) (((try dsimp only); go_split_ands; refine ⟨?_, ?_, ?_⟩ <;> first | exact keepB1 (by with_reducible assumption) (by with_reducible assumption) | go_keep)) (first | fail)
  all_goals
    obtain ⟨w6, hw6⟩ : ∃ u, u = (((w5.setCell ⟨g + 1, 0, none⟩ (.bool na)).setCell ⟨g + 1, 1, none⟩ (.slice no pl nc)).setCell ⟨g + 1, 2, none⟩ (.slice do_ ql dc)).drew := ⟨_, rfl⟩
    have hb6 : Below (g + 1) w5 w6 := by
      have hle : g + 1 ≤ w5.heap.size := Nat.le_of_lt (Array.getElem?_eq_some_iff.1 HZ.out).1
      rw [hw6]
      exact ((((Below.refl _ _).setCell (p := ⟨g + 1, 0, none⟩) (Nat.le_refl _) _).setCell (p := ⟨g + 1, 1, none⟩) (Nat.le_refl _) _).setCell (p := ⟨g + 1, 2, none⟩) (Nat.le_refl _) _).drew
    have hW : TCell w6 (g + 1) (.bool na) (.slice no pl nc) (.slice do_ ql dc) := by rw [hw6]; exact HZ.out.write _ _ _
    have p2 : Own W1.heap.size 39 w6 (.slice no (pl + 3) nc) (xs ++ [91, 92, 93]) := by
      rw [hw6]
      exact (show Own _ _ _ _ _ from ⟨o2.1, ownsRow_setCell_below (ownsRow_setCell_below (ownsRow_setCell_below o2.2 (a := ⟨g + 1, 0, none⟩) HS1.out _) (a := ⟨g + 1, 1, none⟩) HS1.out _) (a := ⟨g + 1, 2, none⟩) HS1.out _⟩).below (Below.refl _ _).drew
    have p4 : Own w3.heap.size 39 w6 (.slice do_ (ql + 3) dc) (ys ++ [94, 95, 96]) := by
      rw [hw6]
      exact (show Own _ _ _ _ _ from ⟨o4.1, ownsRow_setCell_below (ownsRow_setCell_below (ownsRow_setCell_below o4.2 (a := ⟨g + 1, 0, none⟩) HS3.out _) (a := ⟨g + 1, 1, none⟩) HS3.out _) (a := ⟨g + 1, 2, none⟩) HS3.out _⟩).below (Below.refl _ _).drew
    have HE : Hid (LentEnd na xs ys w (.returned (.tuple #[.agg #[.bool na, .slice no pl nc, .slice do_ ql dc], .slice no (pl + 3) nc, .slice do_ (ql + 3) dc])) w6) := by
      refine ⟨no, do_, nc, dc, by rw [HPL.out, HQL.out], by rw [HPL.out]; exact p2.num, by rw [HQL.out]; exact p4.num, hb1.trans (hb6.mono (by rw [HG.out]; omega))⟩
    have HW : Hid (TCell w6 (g + 1) (.bool na) (.slice no pl nc) (.slice do_ ql dc)) := hW
    rw [← hw6]
    clear hW p2 p4 hb6 hw6 o2 o4 hb1 c0 c1 c2 y0 y1 y2 f0 f1 f2
    go_wp2_with fail
    (try simp only [Exit.inBlock, Exit.then])
    exact bodyPost_ret (results_ctt (p := 2) (u := 3) (u2 := 4) rfl _ _ (g + 1) 29 _ (0, 0) _ rfl HW.out Try.underlying29 rfl (by kernel_rfl)) rfl HE.out
end Go.Proofs.Ytjfihcnjhjgdpaa

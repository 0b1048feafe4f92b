/-
  Proved here: what Make, Same and Parse of the plain way over whole numbers answer.
  Proved here: what Int of package whole answers of a number that is an int.
  Proved here: what the plain way's ten answers.
  Proved here: what the plain way's Text answers.
  Proved here: 'apart' of numbers that are what they must be, each in a row of its own, answers true.
  Proved here: what the law's cut answers.
  Proved here: what cut, roomy and kept answer.
-/
import Derived.Test.YtaekaikkldnikaaRefParseAll
import Derived.Test.YtaekaikkldnikaaNormAll
import Derived.Test.YtaekaikkldnikaaDivMathAll
import Derived.Test.YtaekaikkldnikaaLift
import Derived.Test.YtaekaikkldnikaaWholeDAll
import Derived.Test.YtaekaikkldnikaaLong
import Derived.WalkSmall
import Derived.Test.YtaekaikkldnikaaTrimAll
namespace Go.Proofs.Ytaekaikkldnikaa
open Go.RowKit

/-- A whole number as it should stand. -/
def IStd (w : World) (v : Value) (z : Int) : Prop := ∃ m, v = .agg #[.bool (decide (z < 0)), m] ∧ Num w m (lim z.natAbs)
theorem IOwn.std {B : Nat} {w : World} {v : Value} {z : Int} (h : IOwn B w v z) : IStd w v z := by
  obtain ⟨m, e, ho⟩ := h
  exact ⟨m, e, ho.num⟩
theorem IStd.below {w w' : World} {v : Value} {z : Int} (h : IStd w v z) (hb : Below w.heap.size w w') : IStd w' v z := by
  obtain ⟨m, e, ho⟩ := h
  exact ⟨m, e, ho.below (Nat.le_refl _) hb⟩

set_option maxRecDepth 100000 in
set_option maxHeartbeats 3200000 in
theorem make_ref (neg : Bool) (m : Value) (xs : List Nat) (w : World) (h : Num w m xs) (hl : xs.length ≤ 1000000000) :
    Calls Try.prog 12 #[.bool neg, m] w fun e w' => IEnd w (zv neg (val xs)) e w' := by
  obtain ⟨ao, cap, rfl, _, _⟩ := h.ao
  obtain ⟨al, hal⟩ : ∃ l, l = xs.length := ⟨_, rfl⟩
  rw [← hal] at h ⊢
  clear hal
  obtain ⟨W1, hW1⟩ : ∃ W1, W1 = w.alloc (.cells #[.bool false, .slice none 0 0] 27) := ⟨_, rfl⟩
  have q0 : ICell W1 w.heap.size false (.slice none 0 0) := by rw [hW1]; exact icell_new _ rfl
  have hb : Below w.heap.size w W1 := by rw [hW1]; exact belowA _ _
  have hsz : w.heap.size < W1.heap.size := by rw [hW1]; simp
  have HW1 : Hid (W1 = w.alloc (.cells #[.bool false, .slice none 0 0] 27)) := hW1
  clear hW1
  replace h := h.below (Nat.le_refl _) hb
  obtain ⟨g, hg⟩ : ∃ g, g = w.heap.size := ⟨_, rfl⟩
  rw [← hg] at q0 hsz
  have HG : Hid (g = w.heap.size) := hg
  obtain ⟨z, hz⟩ : ∃ z, z = zv neg (val xs) := ⟨_, rfl⟩
  have HZ : Hid (z = zv neg (val xs)) := hz
  rw [← hz]
  clear hz
  go_enter Try.func12, Try.ntmps12
  go_wp2_with fail
  rw [← HW1.out, ← hg]
  clear HW1 hg
  refine (norm_ref _ _ _ h (by omega)).mono ?_
  rintro e w2 ⟨u, rfl, hu, hb2⟩
  obtain ⟨uo, uc, rfl, _, _⟩ := hu.num.ao
  obtain ⟨ul, hul⟩ : ∃ l, l = (lim (val xs)).length := ⟨_, rfl⟩
  rw [← hul] at hu ⊢
  have hbz : (neg && decide (0 < ul)) = decide (z < 0) := by rw [hul, HZ.out]; exact sign_eq _ _
  replace q0 := q0.below hb2
  replace hb := bstep hb hb2
  have hu' : Own W1.heap.size 39 w2 (.slice uo ul uc) (lim z.natAbs) := by rw [HZ.out, zv_abs]; exact hu
  cases neg
  · have HE : Hid (IEnd w z (.returned (.agg #[.bool false, .slice uo ul uc])) ((w2.setCell ⟨g, 0, none⟩ (.bool false)).setCell ⟨g, 1, none⟩ (.slice uo ul uc))) := (int_done (by rw [← hbz]; rfl) (by rw [HG.out]; omega) hu' hsz hb).i
    have HW : Hid (ICell ((w2.setCell ⟨g, 0, none⟩ (.bool false)).setCell ⟨g, 1, none⟩ (.slice uo ul uc)) g false (.slice uo ul uc)) := q0.write _ _
    obtain ⟨y0, y1⟩ := q0.cells
    have f0 := q0.thaw 0
    have f1 := q0.thaw 1
    clear q0 hb hu hu' hb2 hsz hbz hul h hl
    go_wp2_with fail
    (try simp only [Exit.inBlock, Exit.then])
    exact bodyPost_ret (results_cell_row rfl _ _ g 27 _ (0, 0) _ rfl HW.out Try.underlying27 rfl (by kernel_rfl)) rfl HE.out
  · obtain ⟨b, hbb⟩ : ∃ b, b = decide (0 < ul) := ⟨_, rfl⟩
    have HE : Hid (IEnd w z (.returned (.agg #[.bool b, .slice uo ul uc])) ((w2.setCell ⟨g, 0, none⟩ (.bool b)).setCell ⟨g, 1, none⟩ (.slice uo ul uc))) := (int_done (by rw [← hbz, hbb]; rfl) (by rw [HG.out]; omega) hu' hsz hb).i
    have HW : Hid (ICell ((w2.setCell ⟨g, 0, none⟩ (.bool b)).setCell ⟨g, 1, none⟩ (.slice uo ul uc)) g b (.slice uo ul uc)) := q0.write _ _
    obtain ⟨y0, y1⟩ := q0.cells
    have f0 := q0.thaw 0
    have f1 := q0.thaw 1
    have hb1 : decide (0 < ul) = b := hbb.symm
    clear q0 hb hu hu' hb2 hsz hbz hul h hl hbb
    go_wp2_with fail
    (try simp only [Exit.inBlock, Exit.then])
    exact bodyPost_ret (results_cell_row rfl _ _ g 27 _ (0, 0) _ rfl HW.out Try.underlying27 rfl (by kernel_rfl)) rfl HE.out

set_option maxRecDepth 100000 in
set_option maxHeartbeats 3200000 in
theorem same02 (a b : Value) (z : Int) (w : World) (ha : IStd w a z) (hb : IStd w b z) :
    Calls Try.prog 24 #[a, b] w fun e w' => e = .returned (.bool true) ∧ Below w.heap.size w w' := by
  obtain ⟨m, rfl, hm⟩ := ha
  obtain ⟨k, rfl, hk⟩ := hb
  obtain ⟨mo, mc, rfl, _, _⟩ := hm.ao
  obtain ⟨ko, kc, rfl, _, _⟩ := hk.ao
  obtain ⟨n, hn⟩ : ∃ n, n = (lim z.natAbs).length := ⟨_, rfl⟩
  rw [← hn] at hm hk ⊢
  clear hn
  obtain ⟨bb, hbb⟩ : ∃ b, b = decide (z < 0) := ⟨_, rfl⟩
  rw [← hbb]
  clear hbb
  have hself : (bb == bb) = true := by simp
  obtain ⟨W1, hW1⟩ : ∃ W1, W1 = (w.alloc (.cells #[.bool bb, .slice mo n mc] 27)).alloc (.cells #[.bool bb, .slice ko n kc] 27) := ⟨_, rfl⟩
  have q0 : ICell W1 (w.heap.size) bb (.slice mo n mc) := by rw [hW1]; exact icell_step (icell_new _ (by simp))
  have q1 : ICell W1 (w.heap.size + 1) bb (.slice ko n kc) := by rw [hW1]; exact icell_new _ (by simp)
  have hB : Below w.heap.size w W1 := by rw [hW1]; exact bstep (belowA w _) (belowA _ _)
  have HW1 : Hid (W1 = (w.alloc (.cells #[.bool bb, .slice mo n mc] 27)).alloc (.cells #[.bool bb, .slice ko n kc] 27)) := hW1
  clear hW1
  replace hm := hm.below (Nat.le_refl _) hB
  replace hk := hk.below (Nat.le_refl _) hB
  go_enter Try.func24, Try.ntmps24
  go_wp2_with fail
  rw [← HW1.out]
  clear HW1
  obtain ⟨g, hg⟩ : ∃ g, g = w.heap.size := ⟨_, rfl⟩
  rw [← hg] at q0 q1 ⊢
  have HB : Hid (Below w.heap.size w W1) := hB
  clear hg hB
  obtain ⟨c0, d0⟩ := q0.cells
  obtain ⟨c1, d1⟩ := q1.cells
  clear q0 q1
  go_wp2_with fail
  refine (same_yes _ _ _ _ hm hk).mono ?_
  rintro e w2 ⟨rfl, q, hq⟩
  have HE : Hid (Below w.heap.size w w2) := by rw [hq]; exact bstep HB.out (below_drewN (Below.refl _ _) q)
  clear hq hm hk HB c0 d0 c1 d1
  go_wp2_with fail
  go_ret
  exact ⟨rfl, HE.out⟩

/-- What is read, and the error's number. -/
def pz (s : ByteArray) : Int := if DigOk (tail s) ∧ 0 < (tail s).size then zv (strk s) (bval (dgs (tail s))) else 0
def pe (s : ByteArray) : Int := if DigOk (tail s) ∧ 0 < (tail s).size then 0 else 10
/-- What a reader leaves. -/
def PEnd (w : World) (z er : Int) (e : Ending) (w' : World) : Prop := ∃ v, e = .returned (.tuple #[v, .int .i64 er]) ∧ IOwn w.heap.size w' v z ∧ Below w.heap.size w w'
theorem IOwn.nil (B : Nat) (w : World) : IOwn B w (.agg #[.bool false, .slice none 0 0]) 0 := ⟨_, rfl, Own.of_nil _ _ _⟩
theorem strk_bt {s : ByteArray} (h : 0 < s.size) : strk s = decide (bt s 0 = 45) := by
  rw [strk_eq]
  unfold bt
  cases hl : s.data.toList with
  | nil => rw [s_size, hl] at h; exact absurd h (by simp)
  | cons x r =>
    rw [Bool.eq_iff_iff]
    simp
    exact ⟨fun h => by rw [h]; rfl, fun h => UInt8.toNat_inj.1 h⟩

/-- How many limbs a text's number has. -/
theorem lim_dgs {t : ByteArray} (hd : DigOk t) : (lim (bval (dgs t))).length ≤ t.size := by
  apply lim_len_le
  have h1 := dval_lt (decs_rev hd.decs)
  rw [List.length_reverse, dgs_len] at h1
  exact Nat.lt_of_lt_of_le h1 (Nat.pow_le_pow_left (by decide : 10 ≤ 4294967296) _)
theorem mk_pend {w w4 : World} {g : Nat} {z : Int} {m : Value} {B : Nat} (hg : g = w.heap.size) (ho : Own B 39 w4 m (lim z.natAbs)) (hgB : g < B) (hb : Below w.heap.size w w4) :
    PEnd w z 0 (.returned (.tuple #[.agg #[.bool (decide (z < 0)), m], .int .i64 0])) ((w4.setCell ⟨g, 0, none⟩ (.bool (decide (z < 0)))).setCell ⟨g, 1, none⟩ m) := by
  obtain ⟨v9, he9, ho9, hb9⟩ := (int_done (w := w) (g := g) (z := z) rfl (by rw [hg]; exact Nat.le_refl _) ho hgB hb).i
  cases he9
  exact ⟨_, rfl, ho9, hb9⟩

end Go.Proofs.Ytaekaikkldnikaa

namespace Go.Proofs.Ytaekaikkldnikaa
open Go.RowKit

end Go.Proofs.Ytaekaikkldnikaa

namespace Go.Proofs.Ytaekaikkldnikaa
open Go.RowKit

/-- What ten leaves. -/
def TenEnd (w : World) (v : Nat) (e : Ending) (w' : World) : Prop :=
  ∃ o, e = .returned (.tuple #[o, .int .i64 ((v % 10 : Nat) : Int)]) ∧ Own w.heap.size 39 w' o (lim (v / 10)) ∧ Below w.heap.size w w'

end Go.Proofs.Ytaekaikkldnikaa

namespace Go.Proofs.Ytaekaikkldnikaa
open Go.RowKit

theorem digit_at {d : Nat} (h : d < 10) : (({ data := #[48, 49, 50, 51, 52, 53, 54, 55, 56, 57] } : ByteArray)[d]'h).toNat = 48 + d := by
  rcases (show d = 0 ∨ d = 1 ∨ d = 2 ∨ d = 3 ∨ d = 4 ∨ d = 5 ∨ d = 6 ∨ d = 7 ∨ d = 8 ∨ d = 9 by omega) with rfl | rfl | rfl | rfl | rfl | rfl | rfl | rfl | rfl | rfl <;> rfl
theorem dec_parts {ds : List Nat} {v N : Nat} (h : ds ++ dec v = dec N) : dval ds + 10 ^ ds.length * v = N := by
  rw [← dval_dec N, ← h, dval_append, dval_dec]
theorem snoc_getD (ds : List Nat) (j : Nat) (h : j < ds.length) : (ds.drop j).reverse = (ds.drop (j + 1)).reverse ++ [ds.getD j 0] := by
  rw [List.drop_eq_getElem_cons h, List.reverse_cons, List.getD_eq_getElem?_getD, List.getElem?_eq_getElem h]; rfl

end Go.Proofs.Ytaekaikkldnikaa

namespace Go.Proofs.Ytaekaikkldnikaa
open Go.RowKit

theorem Try.infoN : (Try.prog.info? 25).map (fun i => (i.zero, i.size, i.bytes)) = some (some (.slice none 0 0), 1, 24) := by kernel_rfl

end Go.Proofs.Ytaekaikkldnikaa

namespace Go.Proofs.Ytaekaikkldnikaa
open Go.RowKit


end Go.Proofs.Ytaekaikkldnikaa

namespace Go.Proofs.Ytaekaikkldnikaa
open Go.RowKit

/-- A number with five marked limbs behind it. -/
def Room (B : Nat) (w : World) (v : Value) (xs : List Nat) : Prop :=
  ∃ u, v = cutTo u xs.length ∧ Own B 39 w u (xs ++ List.replicate 5 77)
theorem Room.own {B : Nat} {w : World} {v : Value} {xs : List Nat} (h : Room B w v xs) : Own B 39 w v xs := by
  obtain ⟨u, rfl, ho⟩ := h
  have := ho.cut (k := xs.length) (by simp)
  rwa [List.take_left] at this
theorem Room.shape {B : Nat} {w : World} {v : Value} {xs : List Nat} (h : Room B w v xs) : ∃ g cap, v = .slice (some ⟨g, 0, none⟩) xs.length cap ∧ xs.length + 5 ≤ cap ∧ cap ≤ 9223372036854775807 ∧ Own B 39 w (.slice (some ⟨g, 0, none⟩) (xs.length + 5) cap) (xs ++ List.replicate 5 77) := by
  obtain ⟨u, rfl, ho⟩ := h
  rcases ho.shape with ⟨_, h0⟩ | ⟨g, cap, rfl, h1, h2⟩
  · simp at h0
  · simp only [List.length_append, List.length_replicate] at h1 ho ⊢
    exact ⟨g, cap, rfl, h1, h2, ho⟩
theorem Room.below {B : Nat} {w w' : World} {v : Value} {xs : List Nat} (h : Room B w v xs) (hb : Below w.heap.size w w') : Room B w' v xs := by
  obtain ⟨u, e, ho⟩ := h
  exact ⟨u, e, ho.below hb⟩
theorem Room.same {B : Nat} {w w' : World} {v : Value} {xs : List Nat} (h : Room B w v xs) (hb : w'.heap = w.heap) : Room B w' v xs := by
  obtain ⟨u, e, ho⟩ := h
  exact ⟨u, e, ho.same hb⟩
theorem Room.mono {B B' : Nat} {w : World} {v : Value} {xs : List Nat} (h : Room B w v xs) (hb : B' ≤ B) : Room B' w v xs := by
  obtain ⟨u, e, ho⟩ := h
  exact ⟨u, e, ho.mono hb⟩

theorem room_step {B k : Nat} {w w' wr : World} {v v' : Value} {xs : List Nat} {o : Obj} (hv : Own B 39 wr v (xs ++ List.replicate k 77)) (hbel : Below B w wr) (hB : B ≤ wr.heap.size)
    (ho : w'.ownsRow B 39 1 v' (xs.length + k + 1) ((xs ++ List.replicate k 77).map U ++ [.int .u32 77])) (hg : (wr.alloc o).grownBy w' v.ownBlock) :
    Own B 39 w' v' (xs ++ List.replicate (k + 1) 77) ∧ Below B w w' ∧ B ≤ w'.heap.size := by
  have hsz : (wr.alloc o).heap.size = wr.heap.size + 1 := by simp
  have hbel2 : Below B (wr.alloc o) w' := below_of_grown hg (by omega) (fun g e => (hv.block g e).1)
  refine ⟨⟨?_, ?_⟩, (hbel.alloc hB o).trans hbel2, by have := hbel2.size; omega⟩
  · intro x hx
    rcases List.mem_append.1 hx with h | h
    · exact hv.1 x (List.mem_append_left _ h)
    · have := List.eq_of_mem_replicate h; omega
  · rw [List.length_append, List.length_replicate, List.replicate_succ', ← List.append_assoc, List.map_append]
    exact ho

theorem room_full {xs : List Nat} {j : Nat} (h : j < xs.length) : (xs ++ List.replicate 5 77).getD j 0 = xs.getD j 0 := by
  rw [List.getD_eq_getElem?_getD, List.getD_eq_getElem?_getD, List.getElem?_append_left h]
theorem room_mark {xs : List Nat} {j : Nat} (h : xs.length ≤ j) (h2 : j < xs.length + 5) : (xs ++ List.replicate 5 77).getD j 0 = 77 := by
  rw [List.getD_eq_getElem?_getD, List.getElem?_append_right h, List.getElem?_replicate, if_pos (by omega)]; rfl

end Go.Proofs.Ytaekaikkldnikaa

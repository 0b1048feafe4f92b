/-
  Proved here: what over answers: a number written over in its place, and what it is now in memory of its own.
-/
import Derived.Test.YtnlajeinegampaaFam
import Derived.Test.YtnlajeinegampaaBitsAll
import Derived.Test.YtnlajeinegampaaMul
namespace Go.Proofs.Ytnlajeinegampaa
open Go.RowKit

def ov (x : Nat) : Nat := (5 * x + 3) % 4294967296
theorem own_block {B e g n cap : Nat} {w w' : World} {xs : List Nat} (h : Own B e w (.slice (some ⟨g, 0, none⟩) n cap) xs) (he : w'.heap[g]? = w.heap[g]?) : Own B e w' (.slice (some ⟨g, 0, none⟩) n cap) xs := by
  obtain ⟨h0, h1, h2⟩ := h
  refine ⟨h0, h1, ?_⟩
  rcases h2 with h2 | ⟨g', cap', cur, h3, h4, h5, h6⟩
  · exact Or.inl h2
  · refine Or.inr ⟨g', cap', cur, h3, h4, ?_, h6⟩
    have : g = g' := by injection h3 with h7; injection h7 with h8; injection h8
    rw [← this, he, this]; exact h5
theorem own_lt {B e g n cap : Nat} {w : World} {xs : List Nat} (h : Own B e w (.slice (some ⟨g, 0, none⟩) n cap) xs) : B ≤ g ∧ g < w.heap.size := by
  obtain ⟨h0, h1, h2⟩ := h
  rcases h2 with h2 | ⟨g', cap', cur, h3, h4, h5, h6⟩
  · simp at h2
  · have : g = g' := by injection h3 with h7; injection h7 with h8; injection h8
    rw [this]; exact ⟨h4, (Array.getElem?_eq_some_iff.1 h5).1⟩
theorem Bex.thenB {gs : List Value} {w wr w' : World} (h : Bex gs w wr) (hb : Below w.heap.size wr w') : Bex gs w w' :=
  ⟨hb.os.trans h.os, hb.tape.trans h.tape, hb.output.trans h.output, Nat.le_trans h.size hb.size, fun k hk hj => by rw [hb.block k hk]; exact h.block k hk hj⟩
theorem limbs_ov {xs : List Nat} : limbs (xs.map ov) := by
  intro y hy
  obtain ⟨x, _, rfl⟩ := List.mem_map.1 hy
  exact Nat.mod_lt _ (by decide)
theorem ov_step {xs : List Nat} {i : Nat} (hi : i < xs.length) : ((xs.take i).map ov ++ xs.drop i).set i (ov (xs.getD i 0)) = (xs.take (i + 1)).map ov ++ xs.drop (i + 1) := by
  have e : xs.getD i 0 = xs[i] := by simp [List.getD, hi]
  have hl : ((xs.take i).map ov).length = i := by simp; omega
  rw [List.set_append_right _ _ (by rw [hl]; exact Nat.le_refl _), hl, Nat.sub_self, List.drop_eq_getElem_cons hi, List.set_cons_zero, List.take_succ_eq_append_getElem hi, e, List.map_append, List.append_assoc]
  rfl
theorem ov_at {xs : List Nat} {i : Nat} (hi : i < xs.length) : ((xs.take i).map ov ++ xs.drop i).getD i 0 = xs.getD i 0 := by
  have hl : ((xs.take i).map ov).length = i := by simp; omega
  simp only [List.getD_eq_getElem?_getD]
  rw [List.getElem?_append_right (by rw [hl]; exact Nat.le_refl _), hl, Nat.sub_self, List.getElem?_drop, Nat.add_zero]
theorem ov_snoc {xs : List Nat} {i : Nat} (hi : i < xs.length) : (xs.take i).map ov ++ [ov (xs.getD i 0)] = (xs.take (i + 1)).map ov := by
  have e : xs.getD i 0 = xs[i] := by simp [List.getD, hi]
  rw [List.take_succ_eq_append_getElem hi, e, List.map_append]
  rfl

/-- What over leaves. -/
def OverEnd (B g n cap : Nat) (xs : List Nat) (w : World) (e : Ending) (w' : World) : Prop :=
  ∃ l, e = .returned l ∧ Own B 40 w' (.slice (some ⟨g, 0, none⟩) n cap) (xs.map ov) ∧ Own w.heap.size 40 w' l (xs.map ov) ∧ Bex [.slice (some ⟨g, 0, none⟩) n cap] w w'

set_option maxRecDepth 100000 in
set_option maxHeartbeats 3200000 in
theorem over_any (B g n cap : Nat) (xs : List Nat) (w : World) (h : Own B 40 w (.slice (some ⟨g, 0, none⟩) n cap) xs) (hn : xs.length = n) (hl : n ≤ 1000) :
    Calls Try.prog 43 #[.slice (some ⟨g, 0, none⟩) n cap] w fun e w' => OverEnd B g n cap xs w e w' := by
  obtain ⟨iU, hiU, hzU0, hzU1, hzU2⟩ := info_parts Try.infoU
  have HN : Hid (xs.length = n) := hn
  have HG : Hid (g < w.heap.size) := (own_lt h).2
  have HX : Hid (limbs xs) := h.1
  have HS : Hid (Own B 40 w (.slice (some ⟨g, 0, none⟩) n cap) ((xs.take 0).map ov ++ xs.drop 0)) := by
    show Own _ _ _ _ _
    simpa using h
  clear hn h
  go_enter Try.func43, Try.ntmps43
  go_wp2
  go_loopw [3, 4] (fun lv iv wr => ∃ i : Nat, i ≤ n ∧ iv = .int .i64 i ∧ Own B 40 wr (.slice (some ⟨g, 0, none⟩) n cap) ((xs.take i).map ov ++ xs.drop i) ∧ Own w.heap.size 40 wr lv ((xs.take i).map ov) ∧ Bex [.slice (some ⟨g, 0, none⟩) n cap] w wr) (fun _ iv _ => n - (intOf iv).toNat)
  case atStart => exact ⟨0, Nat.zero_le _, rfl, HS.out, Own.of_nil _ _ _, Bex.same (Below.refl _ _)⟩
  case round =>
    clear HS
    obtain ⟨i, hi, rfl, ho, hol, hbx⟩ := hrel
    by_cases hin : i < n
    · have hin' : (i : Int) < (n : Int) := by omega
      have hix : i < xs.length := by rw [HN.out]; exact hin
      obtain ⟨cz, hfz⟩ := ho.cell (k := i) (by simp; have := HN.out; omega)
      rw [ov_at hix] at cz
      have hxl := limb_lt HX.out i
      have hset := ho.set (by simp; have := HN.out; omega) i (ov (xs.getD i 0)) (Nat.mod_lt _ (by decide))
      rw [ov_step hix] at hset
      have hsn := ov_snoc hix
      obtain ⟨x, hx⟩ : ∃ x, x = xs.getD i 0 := ⟨_, rfl⟩
      rw [← hx] at cz hxl hset hsn
      have hod : ov x = (5 * x + 3) % 4294967296 := rfl
      obtain ⟨d, hd⟩ : ∃ d, d = ov x := ⟨_, rfl⟩
      rw [← hd] at hset hsn hod
      have hdl : d < 4294967296 := by omega
      obtain ⟨m, hm⟩ : ∃ m, m = 5 * x % 4294967296 := ⟨_, rfl⟩
      have e1 : 5 * (x : Int) % 4294967296 = (m : Int) := by omega
      have e2 : ((m : Int) + 3) % 4294967296 = (d : Int) := by omega
      have k1 : IntKind.u32.wrap (5 * (x : Int)) = (m : Int) := by rw [IntKind.wrap_u32]; omega
      have k2 : IntKind.u32.wrap ((m : Int) + 3) = (d : Int) := by rw [IntKind.wrap_u32]; omega
      have hm1 : m < 4294967296 := by omega
      obtain ⟨w4, hw4⟩ : ∃ W, W = wr.setCell ⟨g, i, none⟩ (U d) := ⟨_, rfl⟩
      rw [← hw4] at hset
      have hol4 : Own w.heap.size 40 w4 u3 ((xs.take i).map ov) := by rw [hw4]; exact ⟨hol.1, ownsRow_setCell_below hol.2 HG.out _⟩
      have hbx4 : Bex [.slice (some ⟨g, 0, none⟩) n cap] w w4 := by rw [hw4]; exact hbx.setCell (p := ⟨g, i, none⟩) (Or.inl ⟨0, by simp, rfl⟩) _
      have hil : ((xs.take i).map ov).length = i := by simp; omega
      obtain ⟨zs, hzs⟩ : ∃ z, z = (xs.take i).map ov := ⟨_, rfl⟩
      rw [← hzs] at hol4 hil hsn
      clear hzs
      have HIL : Hid (zs.length = i) := hil
      have HSN : Hid (zs ++ [d] = (xs.take (i + 1)).map ov) := hsn
      have hB4 : w.heap.size ≤ w4.heap.size := hbx4.size
      have HW4 : Hid (wr.setCell ⟨g, i, none⟩ (.int .u32 (d : Int)) = w4) := by show _ = _; rw [hw4]; rfl
      obtain ⟨c4, _⟩ := hset.cell (k := i) (by simp; have := HN.out; omega)
      have c5 : w4.cell? ⟨g, i, none⟩ = some (.int .u32 (d : Int)) := by
        rw [c4]
        have hl9 : ((xs.take (i + 1)).map ov ++ xs.drop (i + 1)).getD i 0 = d := by
          rw [← HSN.out, List.append_assoc]
          simp only [List.getD_eq_getElem?_getD]
          rw [List.getElem?_append_right (by rw [HIL.out]; exact Nat.le_refl _), HIL.out, Nat.sub_self]
          rfl
        rw [hl9]
      have c6 : (wr.setCell ⟨g, i, none⟩ (.int .u32 (d : Int))).cell? ⟨g, i, none⟩ = some (.int .u32 (d : Int)) := by rw [HW4.out]; exact c5
      clear hx hd hod hm hsn hil hw4 hol hbx c4 ho hxl
      have HO : Hid (w4.ownsRow w.heap.size 40 1 u3 i (zs.map U)) := by show _; rw [← HIL.out]; exact hol4.2
      have hB3 : w.heap.size ≤ (w4.alloc (.cells #[.int .u32 (d : Int)] 40)).heap.size := by simp; omega
      have HSZ : Hid (wr.heap.size = w4.heap.size) := by show _ = _; rw [← HW4.out]; simp [World.setCell]
      go_wp2_with (at_builtin; rw [HW4.out]; (try rw [HSZ.out]); refine wpList_push _ rfl _ _ 23 rfl w.heap.size 40 iU (.int .u32 0) 4 Try.underlying23 hiU hzU0 hzU1 hzU2 rfl _ i (zs.map U) rfl (HO.out.alloc _) ⟨w4.heap.size, 0, none⟩ 1 1 [.int .u32 (d : Int)] rfl rfl (cell_one_new _ _ _) (fun u hu => by simp at hu; subst hu; rfl) (by decide) (by unfold maxLen; omega) (by omega) hB3 ?_)
      intro v' w5 ho hgr _ _
      have R := push_own (d := d) hol4 (Below.refl w.heap.size w4) hB4 hdl (by rw [HIL.out, show U d = .int .u32 (d : Int) from rfl]; exact ho) hgr
      have HR : Hid (Own B 40 w5 (.slice (some ⟨g, 0, none⟩) n cap) ((xs.take (i + 1)).map ov ++ xs.drop (i + 1)) ∧ Own w.heap.size 40 w5 v' ((xs.take (i + 1)).map ov) ∧ Bex [.slice (some ⟨g, 0, none⟩) n cap] w w5) := by
        refine ⟨own_block hset (R.2.1.block g HG.out), ?_, hbx4.thenB R.2.1⟩
        rw [← HSN.out]; exact R.1
      clear ho hgr hset hol4 hbx4 R HO hB3 hB4 c5 c6 cz hfz
      go_wp2
      go_roundw
      case rel => exact ⟨i + 1, by omega, by go_num, HR.out⟩
      case measure => simp [intOf]; omega
    · have hin' : ¬ (i : Int) < (n : Int) := by omega
      have hii : i = xs.length := by rw [HN.out]; omega
      have HE : Hid (OverEnd B g n cap xs w (.returned u3) wr) := by
        rw [hii, List.take_length] at hol
        rw [hii, List.take_length, List.drop_length, List.append_nil] at ho
        exact ⟨_, rfl, ho, hol, hbx⟩
      obtain ⟨lo, ll, lc, rfl⟩ := hol.sl
      clear ho hol hbx hii
      go_wp2
      go_ret
      exact HE.out
end Go.Proofs.Ytnlajeinegampaa

/- The program's ends: how they are made, and where they are behind a rung. -/
import Derived.Test.YtbgkhehopldilaaMgG
import Derived.Test.YtbgkhehopldilaaMp1
namespace Go.Proofs.Ytbgkhehopldilaa
open Go Go.RowKit

/-- ends, and nothing that was there has turned -/
def EndsPost (e : List Int) (w : World) (x : Ending) (w' : World) : Prop := x = .returned (.agg #[.int .i64 (gi e 0), .int .i64 (gi e 1), .int .i64 (gi e 2), .int .i64 (gi e 3), .int .i64 (gi e 4), .int .i64 (gi e 5)]) ∧ Below w.heap.size w w'
theorem row_six (w : World) (t : TypeId) (x : Value) : (w.alloc (.cells #[x, x, x, x, x, x] t)).rowIs w.heap.size t 6 (fun _ => x) :=
  ⟨_, heap_alloc_new w _, rfl, fun i hi => by
    match i, hi with
    | 0, _ => rfl
    | 1, _ => rfl
    | 2, _ => rfl
    | 3, _ => rfl
    | 4, _ => rfl
    | 5, _ => rfl⟩
theorem infoEnds : (Try.prog.info? 60).map (·.size) = some 6 := by kernel_rfl
theorem splice_ends {zs : List Int} {c3 : Array Value} (hs : c3.size = 6) (hc : ∀ i, i < 6 → c3[i]? = some (.int .i64 (-1))) (hn : zs.length ≤ 6) : splice c3.toList 0 (I zs) = I (endsL zs) := by
  apply List.ext_getElem?
  intro j
  have hl : (I zs).length = zs.length := I_length zs
  simp only [splice, List.take_zero, List.nil_append, Nat.zero_add]
  by_cases h6 : j < 6
  · rw [I_at (by rw [endsL_length]; exact h6), gi_endsL h6]
    by_cases hj : j < zs.length
    · rw [if_pos hj, List.getElem?_append_left (by omega), I_at hj]
    · rw [if_neg hj, List.getElem?_append_right (by omega), List.getElem?_drop, hl, show zs.length + (j - zs.length) = j by omega]
      have := hc j h6
      simpa using this
  · rw [List.getElem?_eq_none (by simp [hs, hl]; omega), List.getElem?_eq_none (by rw [I_length, endsL_length]; omega)]

set_option maxRecDepth 100000 in
set_option maxHeartbeats 1000000 in
theorem endsOf_any (A : Option Addr) (n c : Nat) (zs : List Int) (w : World) (h : RI w A n zs) (hn : n ≤ 6) : Calls Try.prog 42 #[.slice A n c] w (EndsPost (endsL zs) w) := by
  go_enter Try.func42, Try.ntmps42
  go_wp2
  go_loopw [4, 5] (fun _ i wr => ∃ k : Nat, k ≤ 6 ∧ i = .int .i64 k ∧ wr.rowIs (w.heap.size + 1) 60 6 (fun j => if j < k then .int .i64 (-1) else .int .i64 0) ∧ wr.rowIs w.heap.size 60 6 (fun _ => .int .i64 0) ∧ Below w.heap.size w wr) (fun _ i _ => 6 - (intOf i).toNat)
  case atStart =>
    refine ⟨0, Nat.zero_le _, rfl, ?_, rowAlloc (row_six w _ _) _, ((Below.refl _ _).alloc (Nat.le_refl _) _).alloc (by simp) _⟩
    have := row_six (w.alloc (.cells #[.int .i64 0, .int .i64 0, .int .i64 0, .int .i64 0, .int .i64 0, .int .i64 0] 60)) 60 (.int .i64 0)
    rw [World.size_alloc] at this
    exact this.congr (fun j _ => by simp)
  case round =>
    obtain ⟨k, hk, rfl, hr3, hr2, hb⟩ := hrel
    have HR3 := Lib.hid hr3
    have HR2 := Lib.hid hr2
    have HB := Lib.hid hb
    by_cases hlt : k < 6
    · have hd := hr3.cell hlt
      have hf := hr3.frozen k
      simp only [Nat.lt_irrefl, if_false] at hd
      clear hr3 hr2 hb
      go_wp2
      go_roundw
      case rel =>
        refine ⟨k + 1, by omega, by go_num, (HR3.out.set k _).congr (fun j hj => ?_), HR2.out.setOther (by simp) _, HB.out.setCell (by simp) _⟩
        by_cases e : j = k
        · simp [e]
        · by_cases e2 : j < k
          · simp [e, e2, show j < k + 1 by omega]
          · simp [e, e2, show ¬ j < k + 1 by omega]
      case measure => simp [intOf]; omega
    · obtain rfl : k = 6 := by omega
      obtain ⟨c3, hh3, hs3, hc3⟩ := hr3
      obtain ⟨c2, hh2, hs2, hc2⟩ := hr2
      clear hb hlt hk
      have H3 := Lib.hid hh3
      have H2 := Lib.hid hh2
      have HC3 := Lib.hid hc3
      have hri : RI wr A n zs := h.below HB.out (Nat.le_refl _)
      have HSP := Lib.hid (splice_ends (zs := zs) hs3 (fun i hi => by rw [hc3 i hi]; simp [hi]) (by rw [h.1]; exact hn))
      have HZL := Lib.hid h.1
      obtain ⟨arr, harr⟩ : ∃ arr, arr = (I (endsL zs)).toArray := ⟨_, rfl⟩
      have HARR := Lib.hid harr
      have hasz : Hid (arr.size = 6) := by show arr.size = 6; rw [harr]; simp [I_length, endsL_length]
      have haone : Hid (arr.all (·.oneCell') = true) := by
        show arr.all (·.oneCell') = true
        rw [harr, Array.all_eq_true_iff_forall_mem]
        intro x hx
        exact I_one _ x (by simpa using hx)
      clear hh3 hh2 hc3 hc2 harr
      go_wp2_with (first
        | (refine wpList_copy_splice (o := ⟨some 13, _, _, _, _, _⟩) rfl (.tmp 11) (.tmp 12) 41 41 rfl 3 Try.underlying41 infoIntSize (some ⟨w.heap.size + 1, 0, none⟩) A 6 6 n c rfl rfl (w.heap.size + 1) 0 c3.toList 60 (by rw [Array.toArray_toList]; exact H3.out) (I zs) (by rw [I_length, HZL.out]; exact (Nat.min_eq_left hn).symm) (fun hp => ⟨rfl, hri.src hp⟩) (by rw [I_length, HZL.out, Array.length_toList, hs3]; omega) (I_one zs) (w.heap.size + 1) wr (Below.refl _ _) (Nat.le_refl _) ?_; intro w4 hh4 hb4; have HH4 := copied hh4 HSP HARR; have HH2 := below2 hb4 H2; have HB4 := below4 HB hb4; clear hh4 hb4)
        | (with_reducible refine wpList_load_row (o := ⟨some 14, _, _, _, _, _⟩) rfl 60 (.tmp 3) rfl (w.heap.size + 1) rfl 60 arr (0, 0) _ HH4.out Try.underlying60 rfl (by rw [hasz.out]; exact infoEnds) ?_; revert HB4))
      intro HB4
      refine wpList_store_row rfl 60 (.tmp 2) (.tmp 14) rfl w.heap.size arr rfl rfl 60 c2 HH2.out (by rw [hasz.out]; exact infoEnds) (by rw [hasz.out]; exact hs2) haone.out ?_
      have hfin := setRow_heap w4 w.heap.size c2 arr 60 (0, 0) HH2.out
      have HF := Lib.hid hfin
      clear hfin
      go_wp2
      refine bodyPost_ret (results_cell_row rfl _ _ w.heap.size 60 arr (0, 0) _ rfl HF.out Try.underlying60 rfl (by rw [hasz.out]; exact infoEnds)) rfl ⟨?_, below_setRow HB4.out (Nat.le_refl _) _⟩
      rw [HARR.out, arr6 (endsL_length zs)]
end Go.Proofs.Ytbgkhehopldilaa

/- One order and then another: the program's arrays. -/
import Derived.Test.YtgadfjfokgodgaaO4
namespace Go.Proofs.Ytgadfjfokgodgaa
open Go Go.RowKit

/-- the seats ss and then tt -/
def thn (ss tt : List Int) : List Int := (List.range 8).map fun (j : Nat) => gi tt (gi ss j).toNat
theorem thn_length (ss tt : List Int) : (thn ss tt).length = 8 := by simp [thn]
theorem gi_thn (ss tt : List Int) (j : Nat) (h : j < 8) : gi (thn ss tt) j = gi tt (gi ss j).toNat := by
  rw [gi_lt (by rw [thn_length]; exact h)]; simp [thn]
def In8 (ss : List Int) : Prop := ss.length = 8 ∧ ∀ j, j < 8 → 0 ≤ gi ss j ∧ gi ss j < 8
def SameA (ss : List Int) (w : World) (e : Ending) (w' : World) : Prop := e = .returned (.agg (I ss).toArray) ∧ Below w.heap.size w w'

theorem rowOfBlock {w : World} {b t : Nat} {ss : List Int} (h : w.heap[b]? = some (.cells (I ss).toArray t (0, 0))) (hl : ss.length = 8) : w.rowIs b t 8 (fun j => .int .i64 (gi ss j)) :=
  ⟨_, h, by simp [I, hl], fun j hj => by
    have := I_at (zs := ss) (j := j) (by omega)
    simpa using this⟩
theorem blockOfRow {w : World} {b t : Nat} {ss : List Int} (h : w.rowIs b t 8 (fun j => .int .i64 (gi ss j))) (hl : ss.length = 8) : w.heap[b]? = some (.cells (I ss).toArray t (0, 0)) := by
  obtain ⟨c, hh, hs, hc⟩ := h
  rw [hh]
  congr 2
  apply Array.ext_getElem?
  intro j
  by_cases hj : j < 8
  · rw [hc j hj]
    have := I_at (zs := ss) (j := j) (by omega)
    simpa using this.symm
  · rw [Array.getElem?_eq_none (by omega), Array.getElem?_eq_none (by simp [I, hl]; omega)]

set_option maxRecDepth 100000 in
set_option maxHeartbeats 1000000 in
theorem then_any (ss tt : List Int) (w : World) (hs : In8 ss) (ht : tt.length = 8) :
    Calls Try.prog 42 #[.agg (I ss).toArray, .agg (I tt).toArray] w (SameA (thn ss tt) w) := by
  have hsl := hs.1
  go_enter Try.func42, Try.ntmps42
  have hi : ∀ j, j < 8 → (I ss)[j]? = some (.int .i64 (gi ss j)) := fun j hj => I_at (by omega)
  have i0 := hi 0 (by omega)
  have i1 := hi 1 (by omega)
  have i2 := hi 2 (by omega)
  have i3 := hi 3 (by omega)
  have i4 := hi 4 (by omega)
  have i5 := hi 5 (by omega)
  have i6 := hi 6 (by omega)
  have i7 := hi 7 (by omega)
  go_wp2_with fail
  rw [arr8 hsl]
  clear i0 i1 i2 i3 i4 i5 i6 i7
  go_loopw [5, 6, 8] (fun _ _ i wr => ∃ k : Nat, k ≤ 8 ∧ i = .int .i64 k ∧ wr.rowIs w.heap.size 53 8 (fun j => .int .i64 (if j < k then gi (thn ss tt) j else gi ss j)) ∧ wr.rowIs (w.heap.size + 1) 53 8 (fun j => .int .i64 (gi tt j)) ∧ wr.rowIs (w.heap.size + 1 + 1) 53 8 (fun _ => .int .i64 0) ∧ Below w.heap.size w wr) (fun _ _ i _ => 8 - (intOf i).toNat)
  case atStart =>
    refine ⟨0, Nat.zero_le _, rfl, ?_, ?_, ?_, ((((Below.refl _ _).alloc (Nat.le_refl _) _).alloc (by simp) _).alloc (by simp; omega) _)⟩
    · exact rowAlloc (rowAlloc ((rowOfBlock (heap_alloc_new w _) hsl).congr (fun j _ => by simp)) _) _
    · have := rowOfBlock (heap_alloc_new (w.alloc (.cells (I ss).toArray 53)) (.cells (I tt).toArray 53)) ht
      rw [World.size_alloc] at this
      exact rowAlloc this _
    · have := row_eight ((w.alloc (.cells (I ss).toArray 53)).alloc (.cells (I tt).toArray 53)) 53 (.int .i64 0)
      rw [World.size_alloc, World.size_alloc] at this
      exact this
  case round =>
    obtain ⟨k, hk, rfl, hr2, hr3, hr4, hb⟩ := hrel
    have HR2 := Lib.hid hr2
    have HR3 := Lib.hid hr3
    have HR4 := Lib.hid hr4
    have HB := Lib.hid hb
    by_cases hlt : k < 8
    · have hik := indexSeats wr ss k hsl hlt
      obtain ⟨p, hp⟩ : ∃ p : Nat, gi ss k = (p : Int) := ⟨(gi ss k).toNat, by have := hs.2 k hlt; omega⟩
      have hp8 : p < 8 := by have := hs.2 k hlt; omega
      have HP := Lib.hid hp
      rw [hp] at hik
      have hd3 := hr3.cell hp8
      have hd2 := hr2.cell hlt
      have hf2 := hr2.frozen k
      simp only [Nat.lt_irrefl, if_false] at hd2
      clear hr2 hr3 hr4 hb hp hi
      go_wp2
      go_roundw
      case rel =>
        refine ⟨k + 1, by omega, by go_num, (HR2.out.set k _).congr (fun j hj => ?_), HR3.out.setOther (by simp) _, HR4.out.setOther (by simp; omega) _, HB.out.setCell (by simp) _⟩
        by_cases e : j = k
        · simp [e, gi_thn ss tt k hlt, HP.out]
        · by_cases e2 : j < k
          · simp [e, e2, show j < k + 1 by omega]
          · simp [e, e2, show ¬ j < k + 1 by omega]
      case measure => simp [intOf]; omega
    · obtain rfl : k = 8 := by omega
      have hh2 := blockOfRow (ss := thn ss tt) (hr2.congr (fun j hj => by simp [hj])) (thn_length ss tt)
      obtain ⟨c4, hh4, hs4, hc4⟩ := hr4
      have hI : (I (thn ss tt)).length = 8 := by rw [I_length, thn_length]
      have hst := run_storeCells_from (P := Try.prog) (w.heap.size + 1 + 1) 53 (I (thn ss tt)) 0 c4 wr hh4 (by rw [hI, hs4]) (fun v hv => I_one _ v hv)
      rw [List.take_zero, List.nil_append] at hst
      have HH2 := Lib.hid hh2
      have HF := Lib.hid (setRow_heap wr (w.heap.size + 1 + 1) c4 (I (thn ss tt)).toArray 53 (0, 0) hh4)
      clear hr2 hr3 hb hh2 hh4 hs4 hc4 hi
      go_wp2_with (with_reducible refine wpList_load_row (o := ⟨some 18, _, _, _, _, _⟩) rfl 53 (.tmp 2) rfl w.heap.size rfl 53 (I (thn ss tt)).toArray (0, 0) _ HH2.out Try.underlying53 rfl (by rw [infoSeats]; simp [I, thn_length]) ?_)
      refine bodyPost_ret (results_cell_row rfl _ _ (w.heap.size + 1 + 1) 53 (I (thn ss tt)).toArray (0, 0) _ rfl HF.out Try.underlying53 rfl (by rw [infoSeats]; simp [I, thn_length])) rfl ⟨rfl, below_setRow HB.out (by omega) _⟩
end Go.Proofs.Ytgadfjfokgodgaa

/- The program's question whether a list is an order. -/
import Derived.Test.YtcomgoapekkleaaO1
import Derived.Test.YtcomgoapekkleaaEql
import Derived.Test.YtcomgoapekkleaaSrt
import Derived.Sort.OwnSortedInts
namespace Go.Proofs.Ytcomgoapekkleaa
open Go Go.RowKit

theorem cells_sorted {cs : Array Value} {ts : List Int} (hs : cs.size = ts.length) : Go.Sort.putCells (Value.int .i64) 0 ts.toArray cs = (I ts).toArray := by
  have h := take_putCellsI cs ts (by omega)
  have hl : (Go.Sort.putCells (Value.int .i64) 0 ts.toArray cs).toList.length = ts.length := by simp [Go.Sort.putCells, hs]
  rw [List.take_of_length_le (by omega)] at h
  rw [← Array.toArray_toList (xs := Go.Sort.putCells (Value.int .i64) 0 ts.toArray cs), h]
  rfl

def SortPost (g : Nat) (zs : List Int) (t : TypeId) (w : World) (e : Ending) (w' : World) : Prop :=
  e = .returned (.tuple #[]) ∧ w'.heap[g]? = some (.cells (I (srt zs)).toArray t (0, 0)) ∧ w.grownBy w' (some g)
theorem sortArr_any (g : Nat) (zs : List Int) (t : TypeId) (w : World) (hg : w.heap[g]? = some (.cells (I zs).toArray t (0, 0))) (hl : zs.length = 8) :
    Calls Try.prog 61 #[.slice (some ⟨g, 0, none⟩) 8 8] w (SortPost g zs t w) := by
  have hlt : g < w.heap.size := (Array.getElem?_eq_some_iff.1 hg).1
  have h := slices_Sort_int g 0 8 zs w (holds_of_blockI hg (by simp [I, List.take_of_length_le])) hlt (by omega)
  rw [hl] at h
  refine h.mono ?_
  rintro e w' ⟨rfl, n, os, rfl⟩
  refine ⟨rfl, ?_, grownBy_sortedI _⟩
  rw [heap_sortedI _ hg, cells_sorted (by simp [I])]
  simp
  rfl

theorem setRow_new (w : World) (t : TypeId) (old cs : Array Value) : (w.alloc (.cells old t)).setRow w.heap.size cs = w.alloc (.cells cs t) := by
  unfold World.setRow World.alloc
  congr 1
  apply Array.ext
  · simp
  · intro i h1 h2
    simp only [Array.getElem_modify]
    by_cases e : w.heap.size = i
    · subst e; simp
    · have hi : i < w.heap.size := by simp at h1; omega
      simp [e, Array.getElem_push_lt hi]
theorem storeNew8 (w : World) (t : TypeId) (x : Value) (zs : List Int) (h8 : zs.length = 8) :
    (storeCells ⟨w.heap.size, 0, none⟩ (I zs)).run Try.prog (w.alloc (.cells #[x, x, x, x, x, x, x, x] t)) = .ok () (w.alloc (.cells (I zs).toArray t)) := by
  rw [run_storeCells_from w.heap.size t (I zs) 0 #[x, x, x, x, x, x, x, x] _ (heap_alloc_new w _) (by simp [I, h8]) (fun v hv => I_one zs v hv), List.take_zero, List.nil_append, setRow_new]

theorem ord_no {zs : List Int} (h : ¬ (1 ≤ zs.length ∧ zs.length ≤ 8)) : ord zs = false := by
  unfold ord; rw [decide_eq_false_iff_not]; rintro ⟨h1, h2, _⟩; exact h ⟨h1, h2⟩

set_option maxRecDepth 100000 in
set_option maxHeartbeats 600000 in
theorem iIsOrder_any (A : Option Addr) (n c : Nat) (zs : List Int) (w : World) (h : RI w A n zs) (hn : n ≤ 9223372036854775807) : Calls Try.prog 47 #[.slice A n c] w (RetB (ord zs) w) := by
  have hln := h.1
  by_cases h0 : n < 1
  · have E := Lib.hid (ord_no (zs := zs) (by omega))
    go_enter Try.func47, Try.ntmps47
    go_wp2_with fail
    go_ret
    exact ⟨ret_b E.out.symm, Below.refl _ _⟩
  by_cases h8 : 8 < n
  · have E := Lib.hid (ord_no (zs := zs) (by omega))
    go_enter Try.func47, Try.ntmps47
    go_wp2_with fail
    go_ret
    exact ⟨ret_b E.out.symm, Below.refl _ _⟩
  have E := Lib.hid (seats_ord (zs := zs) (by omega) (by omega))
  go_enter Try.func47, Try.ntmps47
  go_wp2_with fail
  refine (seatsOf_any A n c zs _ h (by omega)).mono ?_
  rintro e w1 ⟨rfl, hb⟩
  have HB := Lib.hid hb
  clear hb
  have hI : (I (seats zs)).length = 8 := by rw [I_length, seats_length]
  have hst := storeNew8 w1 55 (.int .i64 0) (seats zs) (seats_length zs)
  go_wp2_with fail
  refine (sortArr_any w1.heap.size (seats zs) 55 _ (heap_alloc_new w1 _) (seats_length zs)).mono ?_
  rintro e w2 ⟨rfl, hh2, hg2⟩
  clear hst
  have HB2 : Hid (Below w.heap.size w w2) := (HB.out.alloc HB.out.size (.cells (I (seats zs)).toArray 55)).trans (Below.of_grown (A := some ⟨w1.heap.size, 0, none⟩) hg2 (fun b hb => by simp [blk] at hb; have := HB.out.size; omega) (by simp; have := HB.out.size; omega))
  clear hg2
  obtain ⟨ys, hys⟩ : ∃ ys, ys = srt (seats zs) := ⟨_, rfl⟩
  rw [← hys] at hh2
  have HY := Lib.hid hys
  have hyl : ys.length = 8 := by rw [hys, srt_length, seats_length]
  clear hys
  have hguard := guardSeats
  have heql : ∀ w' : World, (binOp .eql 55 (.agg #[.int .i64 (gi ys 0), .int .i64 (gi ys 1), .int .i64 (gi ys 2), .int .i64 (gi ys 3), .int .i64 (gi ys 4), .int .i64 (gi ys 5), .int .i64 (gi ys 6), .int .i64 (gi ys 7)]) (.agg (I (seats [])).toArray)).run Try.prog w' = .ok (.bool (decide (ys = seats []))) w' := fun w' => by rw [arr8 hyl]; exact eqlSeats w' ys (seats []) hyl (seats_length [])
  have hz : w1.heap.size < w2.heap.size := (Array.getElem?_eq_some_iff.1 hh2).1
  have HZ := Lib.hid hz
  have HH2 := Lib.hid hh2
  clear hh2
  go_wp2_with fail
  have HBD := belDrew HB2
  go_region_held3 (fun w' => w'.cell? ⟨w1.heap.size, 0, none⟩ = some (.int .i64 (gi ys 0)) ∧ w'.cell? ⟨w1.heap.size, 1, none⟩ = some (.int .i64 (gi ys 1)) ∧ w'.cell? ⟨w1.heap.size, 2, none⟩ = some (.int .i64 (gi ys 2)) ∧ w'.cell? ⟨w1.heap.size, 3, none⟩ = some (.int .i64 (gi ys 3)) ∧ w'.cell? ⟨w1.heap.size, 4, none⟩ = some (.int .i64 (gi ys 4)) ∧ w'.cell? ⟨w1.heap.size, 5, none⟩ = some (.int .i64 (gi ys 5)) ∧ w'.cell? ⟨w1.heap.size, 6, none⟩ = some (.int .i64 (gi ys 6)) ∧ w'.cell? ⟨w1.heap.size, 7, none⟩ = some (.int .i64 (gi ys 7)))
    (first | exact cells8 hyl HH2.out | exact cells8 hyl HH3.out)
    (first
      | (go_at_call 50; refine (seatsOf_any none 0 0 [] _ ⟨rfl, fun h => absurd h (by omega)⟩ (by omega)).mono ?_; rintro e w3 ⟨rfl, hb3⟩; have HH3 : Hid (w3.heap[w1.heap.size]? = some (.cells (I ys).toArray 55 (0, 0))) := (hb3.block w1.heap.size HZ.out).trans HH2.out; have HB3 := belStep HBD hb3; clear hb3))
  go_wp2
  go_ret
  refine ⟨ret_b ?_, HB3.out⟩
  rw [HY.out, seats_nil]
  exact Bool.eq_iff_iff.2 ⟨fun h => E.out.1 (of_decide_eq_true h), fun h => decide_eq_true (E.out.2 h)⟩
end Go.Proofs.Ytcomgoapekkleaa

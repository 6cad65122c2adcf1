/- The contract by which the program makes an array of an order. -/
import Derived.Test.YtcomgoapekkleaaBase2
import Derived.Test.YtcomgoapekkleaaBox
import Derived.Test.YtcomgoapekkleaaSt
import Derived.Test.YtcomgoapekkleaaApp2
import Derived.Test.YtcomgoapekkleaaMathO
import Derived.Laws.CopyOwn
import Derived.Laws.Rows
import Derived.Laws.Tables
namespace Go.Proofs.Ytcomgoapekkleaa
open Go Go.RowKit

def SeatsPost (zs : List Int) (w : World) (e : Ending) (w' : World) : Prop := e = .returned (.agg (I (seats zs)).toArray) ∧ Below w.heap.size w w'
theorem row_eight (w : World) (t : TypeId) (x : Value) : (w.alloc (.cells #[x, x, x, x, x, x, x, x] t)).rowIs w.heap.size t 8 (fun _ => x) :=
  ⟨_, heap_alloc_new w _, rfl, fun i hi => by
    match i, hi with
    | 0, _ => rfl
    | 1, _ => rfl
    | 2, _ => rfl
    | 3, _ => rfl
    | 4, _ => rfl
    | 5, _ => rfl
    | 6, _ => rfl
    | 7, _ => rfl⟩
theorem rowAlloc {w : World} {b t n : Nat} {f : Nat → Value} (h : w.rowIs b t n f) (o : Obj) : (w.alloc o).rowIs b t n f := (rowStep (Lib.hid h) ((Below.refl _ _).alloc (Nat.le_refl _) o)).out

theorem infoSeats : (Try.prog.info? 55).map (·.size) = some 8 := by kernel_rfl
theorem infoIntSize : (Try.prog.info? 3).map (·.size) = some 1 := by kernel_rfl
theorem RI.src {w : World} {A : Option Addr} {n : Nat} {zs : List Int} (h : RI w A n zs) (hp : 0 < (I zs).length) : ∃ ad, A = some ad ∧ ∀ j v, (I zs)[j]? = some v → w.cell? (ad.add j) = some v := by
  rw [I_length, h.1] at hp
  obtain ⟨b, off, rfl, _, hc⟩ := h.2 hp
  refine ⟨_, rfl, fun j u hu => ?_⟩
  have hj : j < zs.length := by
    rcases Nat.lt_or_ge j zs.length with h | h
    · exact h
    · rw [List.getElem?_eq_none (by rw [I_length]; exact h)] at hu; cases hu
  rw [I_at hj] at hu
  injection hu with hu
  subst hu
  have := hc j (by have := h.1; omega)
  unfold Addr.add
  by_cases h0 : j = 0
  · subst h0; simpa using this
  · simpa [h0] using this
theorem splice_seats {zs : List Int} {c3 : Array Value} (hs : c3.size = 8) (hc : ∀ i, i < 8 → c3[i]? = some (.int .i64 (i : Int))) (hn : zs.length ≤ 8) : splice c3.toList 0 (I zs) = I (seats zs) := by
  apply List.ext_getElem?
  intro j
  have hl : (I zs).length = zs.length := I_length zs
  simp only [splice, List.take_zero, List.nil_append, Nat.zero_add]
  by_cases h8 : j < 8
  · rw [I_at (by rw [seats_length]; exact h8)]
    have hg : gi (seats zs) j = if j < zs.length then gi zs j else (j : Int) := by
      rw [gi_lt (by rw [seats_length]; exact h8)]; simp [seats]
    rw [hg]
    by_cases hj : j < zs.length
    · rw [if_pos hj, List.getElem?_append_left (by omega), I_at hj]
    · rw [if_neg hj, List.getElem?_append_right (by omega), List.getElem?_drop, hl, show zs.length + (j - zs.length) = j by omega]
      have := hc j h8
      simpa using this
  · rw [List.getElem?_eq_none (by simp [hs, hl]; omega), List.getElem?_eq_none (by rw [I_length, seats_length]; omega)]

theorem copied {w4 : World} {b : Nat} {L L' : List Value} {arr : Array Value} {t : TypeId} (h : Hid (w4.heap[b]? = some (.cells L.toArray t (0, 0)))) (hs : Hid (L = L')) (ha : Hid (arr = L'.toArray)) : Hid (w4.heap[b]? = some (.cells arr t (0, 0))) := by
  have h1 := h.out
  rw [hs.out, ← ha.out] at h1
  exact h1
theorem below2 {wr w4 : World} {b : Nat} {x : Option Obj} (hb : Below (b + 1) wr w4) (h : Hid (wr.heap[b]? = x)) : Hid (w4.heap[b]? = x) := (hb.block b (Nat.lt_succ_self _)).trans h.out
theorem below4 {w wr w4 : World} {b : Nat} (h : Hid (Below b w wr)) (hb : Below (b + 1) wr w4) : Hid (Below b w w4) := h.out.trans (hb.mono (Nat.le_succ _))

set_option maxRecDepth 100000 in
set_option maxHeartbeats 600000 in
theorem seatsOf_any (A : Option Addr) (n c : Nat) (zs : List Int) (w : World) (h : RI w A n zs) (hn : n ≤ 8) : Calls Try.prog 50 #[.slice A n c] w (SeatsPost zs w) := by
  go_enter Try.func50, Try.ntmps50
  go_wp2
  go_loopw [4, 5] (fun _ i wr => ∃ k : Nat, k ≤ 8 ∧ i = .int .i64 k ∧ wr.rowIs (w.heap.size + 1) 55 8 (fun j => if j < k then .int .i64 (j : Int) else .int .i64 0) ∧ wr.rowIs w.heap.size 55 8 (fun _ => .int .i64 0) ∧ Below w.heap.size w wr) (fun _ i _ => 8 - (intOf i).toNat)
  case atStart =>
    refine ⟨0, Nat.zero_le _, rfl, ?_, rowAlloc (row_eight w _ _) _, ((Below.refl _ _).alloc (Nat.le_refl _) _).alloc (by simp) _⟩
    have := row_eight (w.alloc (.cells #[.int .i64 0, .int .i64 0, .int .i64 0, .int .i64 0, .int .i64 0, .int .i64 0, .int .i64 0, .int .i64 0] 55)) 55 (.int .i64 0)
    rw [World.size_alloc] at this
    exact this.congr (fun j _ => by simp)
  case round =>
    obtain ⟨k, hk, rfl, hr3, hr2, hb⟩ := hrel
    have HR3 := Lib.hid hr3
    have HR2 := Lib.hid hr2
    have HB := Lib.hid hb
    by_cases hlt : k < 8
    · have hd := hr3.cell hlt
      have hf := hr3.frozen k
      simp only [Nat.lt_irrefl, if_false] at hd
      clear hr3 hr2 hb
      go_wp2
      go_roundw
      case rel =>
        refine ⟨k + 1, by omega, by go_num, (HR3.out.set k _).congr (fun j hj => ?_), HR2.out.setOther (by simp) _, HB.out.setCell (by simp) _⟩
        by_cases e : j = k
        · simp [e]
        · by_cases e2 : j < k
          · simp [e, e2, show j < k + 1 by omega]
          · simp [e, e2, show ¬ j < k + 1 by omega]
      case measure => simp [intOf]; omega
    · obtain rfl : k = 8 := by omega
      obtain ⟨c3, hh3, hs3, hc3⟩ := hr3
      obtain ⟨c2, hh2, hs2, hc2⟩ := hr2
      clear hb hlt hk
      have H3 := Lib.hid hh3
      have H2 := Lib.hid hh2
      have HC3 := Lib.hid hc3
      have hri : RI wr A n zs := h.below HB.out (Nat.le_refl _)
      have HSP := Lib.hid (splice_seats (zs := zs) hs3 (fun i hi => by rw [hc3 i hi]; simp [hi]) (by rw [h.1]; exact hn))
      have HZL := Lib.hid h.1
      obtain ⟨arr, harr⟩ : ∃ arr, arr = (I (seats zs)).toArray := ⟨_, rfl⟩
      have HARR := Lib.hid harr
      have hasz : Hid (arr.size = 8) := by show arr.size = 8; rw [harr]; simp [I_length, seats_length]
      have haone : Hid (arr.all (·.oneCell') = true) := by
        show arr.all (·.oneCell') = true
        rw [harr, Array.all_eq_true_iff_forall_mem]
        intro x hx
        exact I_one _ x (by simpa using hx)
      clear hh3 hh2 hc3 hc2 harr
      go_wp2_with (first
        | (refine wpList_copy_splice (o := ⟨some 14, _, _, _, _, _⟩) rfl (.tmp 12) (.tmp 13) 22 22 rfl 3 Try.underlying22 infoIntSize (some ⟨w.heap.size + 1, 0, none⟩) A 8 8 n c rfl rfl (w.heap.size + 1) 0 c3.toList 55 (by rw [Array.toArray_toList]; exact H3.out) (I zs) (by rw [I_length, HZL.out]; exact (Nat.min_eq_left hn).symm) (fun hp => ⟨rfl, hri.src hp⟩) (by rw [I_length, HZL.out, Array.length_toList, hs3]; omega) (I_one zs) (w.heap.size + 1) wr (Below.refl _ _) (Nat.le_refl _) ?_; intro w4 hh4 hb4; have HH4 := copied hh4 HSP HARR; have HH2 := below2 hb4 H2; have HB4 := below4 HB hb4; clear hh4 hb4)
        | (with_reducible refine wpList_load_row (o := ⟨some 15, _, _, _, _, _⟩) rfl 55 (.tmp 3) rfl (w.heap.size + 1) rfl 55 arr (0, 0) _ HH4.out Try.underlying55 rfl (by rw [hasz.out]; exact infoSeats) ?_; revert HB4))
      intro HB4
      refine wpList_store_row rfl 55 (.tmp 2) (.tmp 15) rfl w.heap.size arr rfl rfl 55 c2 HH2.out (by rw [hasz.out]; exact infoSeats) (by rw [hasz.out]; exact hs2) haone.out ?_
      have hfin := setRow_heap w4 w.heap.size c2 arr 55 (0, 0) HH2.out
      have HF := Lib.hid hfin
      clear hfin
      go_wp2
      refine bodyPost_ret (results_cell_row rfl _ _ w.heap.size 55 arr (0, 0) _ rfl HF.out Try.underlying55 rfl (by rw [hasz.out]; exact infoSeats)) rfl ⟨?_, below_setRow HB4.out (Nat.le_refl _) _⟩
      rw [HARR.out]
end Go.Proofs.Ytcomgoapekkleaa

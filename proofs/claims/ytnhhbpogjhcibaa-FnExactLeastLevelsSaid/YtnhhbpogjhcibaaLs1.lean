/- The seats of a level, of the program. -/
import Derived.Test.YtnhhbpogjhcibaaLs0
import Derived.Test.YtnhhbpogjhcibaaMgG
namespace Go.Proofs.Ytnhhbpogjhcibaa
open Go Go.RowKit

theorem storeNew8L (w : World) (t : TypeId) (x : Value) (zs : List Int) (h8 : zs.length = 8) :
    (storeCells ⟨w.heap.size, 0, none⟩ (I zs)).run Try.prog (w.alloc (.cells #[x, x, x, x, x, x, x, x] t)) = .ok () (w.alloc (.cells (I zs).toArray t)) := by
  rw [run_storeCells_from w.heap.size t (I zs) 0 #[x, x, x, x, x, x, x, x] _ (heap_alloc_new w _) (by simp [I, h8]) (fun v hv => I_one zs v hv), List.take_zero, List.nil_append]
  congr 1
  unfold World.setRow World.alloc
  congr 1
  apply Array.ext
  · simp
  · intro i h1 h2
    simp only [Array.getElem_modify]
    by_cases e : w.heap.size = i
    · subst e; simp
    · have hi : i < w.heap.size := by simp at h1; omega
      simp [e, Array.getElem_push_lt hi]
theorem rowOfIL {w : World} {b : Nat} {t : TypeId} {ys : List Int} {n : Nat} (hl : ys.length = n) (h : w.heap[b]? = some (.cells (I ys).toArray t (0, 0))) : w.rowIs b t n (fun j => .int .i64 (gi ys j)) :=
  ⟨_, h, by simp [I, hl], fun i hi => by simpa using I_at (zs := ys) (j := i) (by omega)⟩
theorem rowToIL {w : World} {b : Nat} {t : TypeId} {ys : List Int} {n : Nat} (hl : ys.length = n) (h : w.rowIs b t n (fun j => .int .i64 (gi ys j))) : w.heap[b]? = some (.cells (I ys).toArray t (0, 0)) := by
  obtain ⟨c, hh, hs, hc⟩ := h
  have e : c = (I ys).toArray := by
    apply Array.ext_getElem?
    intro j
    by_cases hj : j < n
    · rw [hc j hj]; simpa using (I_at (zs := ys) (j := j) (by omega)).symm
    · rw [Array.getElem?_eq_none (by omega), Array.getElem?_eq_none (by simp [I]; omega)]
  rw [hh, e]

theorem rowBelow' {wi wj : World} {b t n K : Nat} {f : Nat → Value} (h : wi.rowIs b t n f) (hb : Below K wi wj) (hk : b < K) : wj.rowIs b t n f := by
  obtain ⟨cs, hh, h1, h2⟩ := h
  exact ⟨cs, (hb.block b hk).trans hh, h1, h2⟩
theorem top_sl_take {l : List Int} {k : Nat} (h : k < l.length) : top (seats []) (l.take (k + 1)) = exch (top (seats []) (l.take k)) (gi l k).toNat := by
  unfold top
  rw [List.take_succ_eq_append_getElem h, List.foldl_append, ← gi_lt h]
  rfl
set_option maxRecDepth 100000 in
set_option maxHeartbeats 1000000 in
theorem levelSeats_any (A : Option Addr) (m c : Nat) (l : List Int) (w : World) (h : RI w A m l) (hm : m ≤ 1048576) (hl : ∀ x ∈ l, 0 ≤ x ∧ x.toNat + 1 < 7) :
    Calls Try.prog 64 #[.slice A m c] w (SameA (sl8 l) w) := by
  have HG := Lib.hid h
  have HLM := Lib.hid h.1
  have HL := Lib.hid hl
  clear h hl
  go_enter Try.func64, Try.ntmps64
  go_wp2_with fail
  refine (seatsOf_any none 0 0 [] _ ⟨rfl, fun h => absurd h (by omega)⟩ (by omega)).mono ?_
  rintro e w1 ⟨rfl, hb⟩
  have hst8 := storeNew8L w1 62 (.int .i64 0) (seats []) (seats_length [])
  have HR1 := Lib.hid (rowOfIL (ys := seats []) (seats_length []) (heap_alloc_new w1 (.cells (I (seats [])).toArray 62)))
  have HR2 : Hid ((w1.alloc (.cells (I (seats [])).toArray 62)).rowIs w.heap.size 62 8 (fun _ => .int .i64 0)) := Lib.hid (rowAlloc (rowStep (Lib.hid (row_eight w 62 (.int .i64 0))) hb).out _)
  have hz1 : w.heap.size < w1.heap.size := by have := hb.size; simp at this; omega
  have HB1 : Hid (Below w.heap.size w (w1.alloc (.cells (I (seats [])).toArray 62))) := Lib.hid ((((Below.refl _ _).alloc (Nat.le_refl _) _).trans (hb.mono (by simp))).alloc (by omega) _)
  clear hb
  go_wp2
  obtain ⟨bs, hbs⟩ : ∃ b, b = w1.heap.size := ⟨_, rfl⟩
  obtain ⟨w2, hw2⟩ : ∃ v : World, v = w1.alloc (.cells (I (seats [])).toArray 62) := ⟨_, rfl⟩
  rw [← hbs] at HR1 hz1
  rw [← hw2] at HR1 HR2 HB1
  rw [← hbs, ← hw2]
  clear hst8 hbs hw2
  go_loopw [5, 9] (fun _ i wr => ∃ k : Nat, k ≤ m ∧ i = .int .i64 (k : Int) ∧ wr.rowIs bs 62 8 (fun j => .int .i64 (gi (top (seats []) (l.take k)) j)) ∧ wr.rowIs w.heap.size 62 8 (fun _ => .int .i64 0) ∧ RI wr A m l ∧ Below w.heap.size w wr) (fun _ i _ => m - (intOf i).toNat)
  case atStart => exact ⟨0, Nat.zero_le _, by go_num, HR1.out, HR2.out, HG.out.below HB1.out (Nat.le_refl _), HB1.out⟩
  case round =>
    obtain ⟨k, hk, rfl, hr, hr2, hA, hb⟩ := hrel
    have HR := Lib.hid hr
    have HR2r := Lib.hid hr2
    have HBr := Lib.hid hb
    have HAr := Lib.hid hA
    by_cases hlt : k < m
    · obtain ⟨b, off, rfl, hbw, hc⟩ := hA.cell hlt
      have hck := hc k hlt
      have hkl : k < l.length := by have := HLM.out; omega
      have hmem := HL.out (gi l k) (by rw [gi_lt hkl]; exact List.getElem_mem _)
      have HT := Lib.hid (top_sl_take hkl)
      obtain ⟨r, hrr⟩ : ∃ r : Nat, gi l k = (r : Int) := ⟨(gi l k).toNat, by omega⟩
      rw [hrr] at hck hmem HT
      rw [Int.toNat_natCast] at hmem HT
      have hr6 : r + 1 < 7 := hmem.2
      have hd := hr.cell (show r < 8 by omega)
      have hd2 := hr.cell (show r + 1 < 8 by omega)
      have hf := hr.frozen r
      have hf2 := hr.frozen (r + 1)
      have hrw : IntKind.i64.wrap ((r : Int) + 1) = ((r + 1 : Nat) : Int) := by rw [IntWalk.i64_in _ (by omega)]; omega
      clear hr hr2 hA hb hc hrr hmem
      go_wp2
      go_region
      go_wp2
      go_roundw
      case rel =>
        have HBK : Below bs wr ((wr.setCell ⟨bs, r, none⟩ (.int .i64 (gi (top (seats []) (l.take k)) (r + 1)))).setCell ⟨bs, r + 1, none⟩ (.int .i64 (gi (top (seats []) (l.take k)) r))).drew :=
          (((Below.refl bs wr).setCell (p := ⟨bs, r, none⟩) (Nat.le_refl _) _).setCell (p := ⟨bs, r + 1, none⟩) (Nat.le_refl _) _).drew
        have hb2 := HBr.out.trans (HBK.mono (by omega))
        refine ⟨k + 1, by omega, by go_num, ?_, rowBelow' HR2r.out HBK hz1, HG.out.below hb2 (Nat.le_refl _), hb2⟩
        refine (((HR.out.set r _).set (r + 1) _).drew).congr (fun j hj => ?_)
        rw [HT.out, gi_exch (by rw [top_length, seats_length]; omega)]
        by_cases e : j = r + 1
        · simp [e]
        · by_cases e2 : j = r
          · simp [e2]
          · simp [e, e2]
      case measure => simp [intOf]; omega
    · obtain rfl : k = m := by omega
      have htk : l.take k = l := List.take_of_length_le (by have := HLM.out; omega)
      rw [htk] at hr
      have hh2 := rowToIL (ys := sl8 l) (sl8_length l) hr
      obtain ⟨c4, hh4, hs4, hc4⟩ := hr2
      have hI : (I (sl8 l)).length = 8 := by rw [I_length, sl8_length]
      have hst := run_storeCells_from (P := Try.prog) w.heap.size 62 (I (sl8 l)) 0 c4 wr hh4 (by rw [hI, hs4]) (fun v hv => I_one _ v hv)
      rw [List.take_zero, List.nil_append] at hst
      have HH2 := Lib.hid hh2
      have HF := Lib.hid (setRow_heap wr w.heap.size c4 (I (sl8 l)).toArray 62 (0, 0) hh4)
      clear hr hb hh2 hh4 hs4 hc4 htk hA
      go_wp2_with (with_reducible refine wpList_load_row (o := ⟨some 26, _, _, _, _, _⟩) rfl 62 (.tmp 3) rfl bs rfl 62 (I (sl8 l)).toArray (0, 0) _ HH2.out Try.underlying62 rfl (by rw [infoSeats]; simp [I, sl8_length]) ?_)
      exact bodyPost_ret (results_cell_row rfl _ _ w.heap.size 62 (I (sl8 l)).toArray (0, 0) _ rfl HF.out Try.underlying62 rfl (by rw [infoSeats]; simp [I, sl8_length])) rfl ⟨rfl, below_setRow HBr.out (by omega) _⟩
end Go.Proofs.Ytnhhbpogjhcibaa

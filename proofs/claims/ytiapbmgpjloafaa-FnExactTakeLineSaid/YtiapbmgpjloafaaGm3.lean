/- Games of rungs: the program's question whether everybody is at home. -/
import Derived.Test.YtiapbmgpjloafaaGm2
import Derived.Test.YtiapbmgpjloafaaMgG
namespace Go.Proofs.Ytiapbmgpjloafaa
open Go Go.RowKit

theorem storeNew8' (w : World) (t : TypeId) (x : Value) (zs : List Int) (h8 : zs.length = 8) :
    (storeCells ⟨w.heap.size, 0, none⟩ (I zs)).run Try.prog (w.alloc (.cells #[x, x, x, x, x, x, x, x] t)) = .ok () (w.alloc (.cells (I zs).toArray t)) := by
  rw [run_storeCells_from w.heap.size t (I zs) 0 #[x, x, x, x, x, x, x, x] _ (heap_alloc_new w _) (by simp [I, h8]) (fun v hv => I_one zs v hv), List.take_zero, List.nil_append]
  congr 1
  unfold World.setRow World.alloc
  congr 1
  apply Array.ext
  · simp
  · intro i h1 h2
    simp only [Array.getElem_modify]
    by_cases e : w.heap.size = i
    · subst e; simp
    · have hi : i < w.heap.size := by simp at h1; omega
      simp [e, Array.getElem_push_lt hi]
theorem rowOfI {w : World} {b : Nat} {t : TypeId} {ys : List Int} {n : Nat} (hl : ys.length = n) (h : w.heap[b]? = some (.cells (I ys).toArray t (0, 0))) : w.rowIs b t n (fun j => .int .i64 (gi ys j)) :=
  ⟨_, h, by simp [I, hl], fun i hi => by simpa using I_at (zs := ys) (j := i) (by omega)⟩
theorem rowToI {w : World} {b : Nat} {t : TypeId} {ys : List Int} {n : Nat} (hl : ys.length = n) (h : w.rowIs b t n (fun j => .int .i64 (gi ys j))) : w.heap[b]? = some (.cells (I ys).toArray t (0, 0)) := by
  obtain ⟨c, hh, hs, hc⟩ := h
  have e : c = (I ys).toArray := by
    apply Array.ext_getElem?
    intro j
    by_cases hj : j < n
    · rw [hc j hj]; simpa using (I_at (zs := ys) (j := j) (by omega)).symm
    · rw [Array.getElem?_eq_none (by omega), Array.getElem?_eq_none (by simp [I]; omega)]
  rw [hh, e]
theorem seats_marks : seats [] = marks 0 8 := by decide

set_option maxRecDepth 100000 in
set_option maxHeartbeats 1000000 in
theorem isHome_any (W : Int) (A : Option Addr) (n c : Nat) (zs : List Int) (w : World) (h : RI w A n zs) (hn : n ≤ 60) (hl : lad W zs = true) :
    Calls Try.prog 64 #[.agg #[.int .i64 W, .slice A n c]] w (RetB (homeB zs W.toNat) w) := by
  have hz := h.1
  have hst := stand_home hl
  rw [hz] at hst
  have hSL := stand_length zs
  have hrg : ∀ k, k < n → 0 ≤ gi zs k ∧ gi zs k ≤ 6 := fun k hk => by
    have h1 := lad_at hl (j := k) (by omega)
    have h2 := (lad_iff.1 hl).1
    omega
  have HST := Lib.hid hst
  have HRG := Lib.hid hrg
  have HH := Lib.hid (fun w2 (r : Below w.heap.size w w2) => h.below r (Nat.le_refl _))
  have HA := boxNew (W := W) (c := c) 28 h
  have HB := belAlloc (belRefl (w := w)) (.cells #[.int .i64 W, .slice A n c] 28)
  obtain ⟨q, hq⟩ : ∃ q, q = homeB zs W.toNat := ⟨_, rfl⟩
  rw [← hq]
  rw [← hq] at HST
  clear h hz hl hst hrg hq
  go_enter Try.func64, Try.ntmps64
  go_wp2_with fail
  refine (seatsOf_any none 0 0 [] _ ⟨rfl, fun h => absurd h (by omega)⟩ (by omega)).mono ?_
  rintro e w1 ⟨rfl, hb⟩
  replace HA := boxStep HA hb; replace HB := belStep HB hb; have a0 := HA.out.c0; have a1 := HA.out.c1; have az := HA.out.lt
  have hst8 := storeNew8' w1 91 (.int .i64 0) (seats []) (seats_length [])
  have HR1 := Lib.hid (rowOfI (ys := seats []) (seats_length []) (heap_alloc_new w1 (.cells (I (seats [])).toArray 91)))
  have HA1 := boxAlloc HA (.cells (I (seats [])).toArray 91)
  have HB1 := belAlloc HB (.cells (I (seats [])).toArray 91)
  clear hb
  have hwz : w.heap.size < w1.heap.size := az
  go_wp2
  go_loopw [10] (fun i wr => ∃ k : Nat, k ≤ n ∧ i = .int .i64 k ∧ wr.rowIs w1.heap.size 91 8 (fun j => .int .i64 (gi (stand zs k) j)) ∧ Box wr w.heap.size W A n c zs ∧ Below w.heap.size w wr) (fun i _ => n - (intOf i).toNat)
  case atStart => exact ⟨0, Nat.zero_le _, rfl, by rw [seats_marks] at HR1; exact HR1.out, HA1.out, HB1.out⟩
  case round =>
    obtain ⟨k, hk, rfl, hr, hA, hb⟩ := hrel
    have HR := Lib.hid hr
    have HAr := Lib.hid hA
    have HBr := Lib.hid hb
    by_cases hlt : k < n
    · obtain ⟨b, off, rfl, hbw, hc⟩ := hA.ri.cell hlt
      have hck := hc k hlt
      obtain ⟨r, hrr⟩ : ∃ r : Nat, gi zs k = (r : Int) := ⟨(gi zs k).toNat, by have := HRG.out k hlt; omega⟩
      have hr6 : r ≤ 6 := by have := HRG.out k hlt; omega
      have hd := hr.cell (show r < 8 by omega)
      have hd2 := hr.cell (show r + 1 < 8 by omega)
      have hf := hr.frozen r
      have hf2 := hr.frozen (r + 1)
      have hrw : IntKind.i64.wrap ((r : Int) + 1) = ((r + 1 : Nat) : Int) := by rw [IntWalk.i64_in _ (by omega)]; omega
      rw [hrr] at hck
      have HRR := Lib.hid hrr
      clear hr hA hb hc hrr a0 a1
      go_wp2
      go_region
      go_wp2
      go_roundw
      case rel =>
        have HBK : Below (w.heap.size + 1) wr ((wr.setCell ⟨w1.heap.size, r, none⟩ (.int .i64 (gi (stand zs k) (r + 1)))).setCell ⟨w1.heap.size, r + 1, none⟩ (.int .i64 (gi (stand zs k) r))).drew :=
          (((Below.refl _ _).setCell (by simp; omega) _).setCell (by simp; omega) _).drew
        have hb2 := HBr.out.trans (HBK.mono (by omega))
        refine ⟨k + 1, by omega, by go_num, ?_, box_ap HAr.out HBK (HH.out _ hb2), hb2⟩
        refine (((HR.out.set r _).set (r + 1) _).drew).congr (fun j hj => ?_)
        have e1 : gi (stand zs (k + 1)) j = if j = r + 1 then gi (stand zs k) r else if j = r then gi (stand zs k) (r + 1) else gi (stand zs k) j := by
          have e2 : stand zs (k + 1) = swp (stand zs k) r := by simp only [stand]; rw [HRR.out, Int.toNat_natCast]
          rw [e2, gi_swp (by rw [hSL]; omega)]
        rw [e1]
        by_cases e : j = r + 1
        · simp [e]
        · by_cases e2 : j = r
          · simp [e2]
          · simp [e, e2]
      case measure => simp [intOf]; omega
    · obtain rfl : k = n := by omega
      have hh2 := rowToI (hSL k) hr
      have HH2 := Lib.hid hh2
      have HZ : Hid (w1.heap.size < wr.heap.size) := Lib.hid (Array.getElem?_eq_some_iff.1 hh2).1
      obtain ⟨ys, hys⟩ : ∃ ys, ys = stand zs k := ⟨_, rfl⟩
      rw [← hys] at HST HH2
      have hyl : ys.length = 8 := by rw [hys]; exact hSL k
      have hguard := guardSeats
      have heql : ∀ w' : World, (binOp .eql 91 (.agg #[.int .i64 (gi ys 0), .int .i64 (gi ys 1), .int .i64 (gi ys 2), .int .i64 (gi ys 3), .int .i64 (gi ys 4), .int .i64 (gi ys 5), .int .i64 (gi ys 6), .int .i64 (gi ys 7)]) (.agg (I (seats [])).toArray)).run Try.prog w' = .ok (.bool (decide (ys = seats []))) w' := fun w' => by rw [arr8 hyl]; exact eqlSeats w' ys (seats []) hyl (seats_length [])
      clear hr hA hb hh2 hys hst8 HR1 a0 a1 az
      go_wp2
      have HBD := belDrew HBr
      go_region_held3 (fun w' => w'.cell? ⟨w1.heap.size, 0, none⟩ = some (.int .i64 (gi ys 0)) ∧ w'.cell? ⟨w1.heap.size, 1, none⟩ = some (.int .i64 (gi ys 1)) ∧ w'.cell? ⟨w1.heap.size, 2, none⟩ = some (.int .i64 (gi ys 2)) ∧ w'.cell? ⟨w1.heap.size, 3, none⟩ = some (.int .i64 (gi ys 3)) ∧ w'.cell? ⟨w1.heap.size, 4, none⟩ = some (.int .i64 (gi ys 4)) ∧ w'.cell? ⟨w1.heap.size, 5, none⟩ = some (.int .i64 (gi ys 5)) ∧ w'.cell? ⟨w1.heap.size, 6, none⟩ = some (.int .i64 (gi ys 6)) ∧ w'.cell? ⟨w1.heap.size, 7, none⟩ = some (.int .i64 (gi ys 7)))
        (first | exact cells8 hyl HH2.out | exact cells8 hyl HH3.out)
        (first
          | (go_at_call 66; refine (seatsOf_any none 0 0 [] _ ⟨rfl, fun h => absurd h (by omega)⟩ (by omega)).mono ?_; rintro e w3 ⟨rfl, hb3⟩; have HH3 : Hid (w3.heap[w1.heap.size]? = some (.cells (I ys).toArray 91 (0, 0))) := (hb3.block w1.heap.size HZ.out).trans HH2.out; have HB3 := belStep HBD hb3; clear hb3))
      go_wp2
      go_ret
      exact ⟨ret_b (by rw [seats_marks]; exact HST.out), HB3.out⟩
end Go.Proofs.Ytiapbmgpjloafaa

/- The program's table of meetings. -/
import Derived.Test.YthalcjgpjagcoaaMt0
import Derived.Test.YthalcjgpjagcoaaMgG
import Derived.BigQuiet
import Derived.Deep.QuietTactic
namespace Go.Proofs.Ythalcjgpjagcoaa
open Go Go.RowKit

theorem storeNewQ (w : World) (t : TypeId) (x : Value) (zs : List Int) (h8 : zs.length = 8) :
    (storeCells ⟨w.heap.size, 0, none⟩ (I zs)).run Try.prog (w.alloc (.cells #[x, x, x, x, x, x, x, x] t)) = .ok () (w.alloc (.cells (I zs).toArray t)) := by
  rw [run_storeCells_from w.heap.size t (I zs) 0 #[x, x, x, x, x, x, x, x] _ (heap_alloc_new w _) (by simp [I, h8]) (fun v hv => I_one zs v hv), List.take_zero, List.nil_append]
  congr 1
  unfold World.setRow World.alloc
  congr 1
  apply Array.ext
  · simp
  · intro i h1 h2
    simp only [Array.getElem_modify]
    by_cases e : w.heap.size = i
    · subst e; simp
    · have hi : i < w.heap.size := by simp at h1; omega
      simp [e, Array.getElem_push_lt hi]
theorem rowOfIQ {w : World} {b : Nat} {t : TypeId} {ys : List Int} {n : Nat} (hl : ys.length = n) (h : w.heap[b]? = some (.cells (I ys).toArray t (0, 0))) : w.rowIs b t n (fun j => .int .i64 (gi ys j)) :=
  ⟨_, h, by simp [I, hl], fun i hi => by simpa using I_at (zs := ys) (j := i) (by omega)⟩
theorem rowToIQ {w : World} {b : Nat} {t : TypeId} {ys : List Int} {n : Nat} (hl : ys.length = n) (h : w.rowIs b t n (fun j => .int .i64 (gi ys j))) : w.heap[b]? = some (.cells (I ys).toArray t (0, 0)) := by
  obtain ⟨c, hh, hs, hc⟩ := h
  have e : c = (I ys).toArray := by
    apply Array.ext_getElem?
    intro j
    by_cases hj : j < n
    · rw [hc j hj]; simpa using (I_at (zs := ys) (j := j) (by omega)).symm
    · rw [Array.getElem?_eq_none (by omega), Array.getElem?_eq_none (by simp [I]; omega)]
  rw [hh, e]
theorem seats_marksQ : seats [] = marks 0 8 := by decide


theorem infoTab : (Try.prog.info? 56).map (·.size) = some 64 := by kernel_rfl
theorem row64 (w : World) (t : TypeId) (x : Value) : (w.alloc (.cells #[x, x, x, x, x, x, x, x, x, x, x, x, x, x, x, x, x, x, x, x, x, x, x, x, x, x, x, x, x, x, x, x, x, x, x, x, x, x, x, x, x, x, x, x, x, x, x, x, x, x, x, x, x, x, x, x, x, x, x, x, x, x, x, x] t)).rowIs w.heap.size t 64 (fun _ => x) := by
  have e : ∀ j, j < 64 → (#[x, x, x, x, x, x, x, x, x, x, x, x, x, x, x, x, x, x, x, x, x, x, x, x, x, x, x, x, x, x, x, x, x, x, x, x, x, x, x, x, x, x, x, x, x, x, x, x, x, x, x, x, x, x, x, x, x, x, x, x, x, x, x, x] : Array Value)[j]? = some x := by
    intro j hj
    have h : (#[x, x, x, x, x, x, x, x, x, x, x, x, x, x, x, x, x, x, x, x, x, x, x, x, x, x, x, x, x, x, x, x, x, x, x, x, x, x, x, x, x, x, x, x, x, x, x, x, x, x, x, x, x, x, x, x, x, x, x, x, x, x, x, x] : Array Value) = Array.replicate 64 x := rfl
    rw [h, Array.getElem?_replicate, if_pos hj]
  exact ⟨_, heap_alloc_new w _, rfl, e⟩
/-- the table behind the first k rungs -/
def tabV (zs : List Int) (k : Nat) (i : Nat) : Value := .int .i64 (mtN zs (i / 8) (i % 8) k)
def MtPost (zs : List Int) (w : World) (e : Ending) (w' : World) : Prop := ∃ T : Array Value, e = .returned (.agg T) ∧ T.size = 64 ∧ (∀ i, i < 64 → T[i]? = some (tabV zs zs.length i)) ∧ Below w.heap.size w w'

set_option maxRecDepth 100000 in
set_option maxHeartbeats 4000000 in
theorem meetingsOn_any (W : Int) (A : Option Addr) (n c : Nat) (zs : List Int) (w : World) (h : RI w A n zs) (hn : n ≤ 60) (hq : lad W zs = true) :
    Calls Try.prog 42 #[.agg #[.int .i64 W, .slice A n c]] w (MtPost zs w) := by
  have hl := h.1
  have HS := Sml.of hq
  have hW := (lad_iff.1 hq).1
  have HH := Lib.hid (fun w2 (r : Below w.heap.size w w2) => h.below r (Nat.le_refl _))
  have HA := boxAlloc (boxAlloc (boxNew (W := W) (c := c) 29 h) (.cells #[.int .i64 0, .int .i64 0, .int .i64 0, .int .i64 0, .int .i64 0, .int .i64 0, .int .i64 0, .int .i64 0, .int .i64 0, .int .i64 0, .int .i64 0, .int .i64 0, .int .i64 0, .int .i64 0, .int .i64 0, .int .i64 0, .int .i64 0, .int .i64 0, .int .i64 0, .int .i64 0, .int .i64 0, .int .i64 0, .int .i64 0, .int .i64 0, .int .i64 0, .int .i64 0, .int .i64 0, .int .i64 0, .int .i64 0, .int .i64 0, .int .i64 0, .int .i64 0, .int .i64 0, .int .i64 0, .int .i64 0, .int .i64 0, .int .i64 0, .int .i64 0, .int .i64 0, .int .i64 0, .int .i64 0, .int .i64 0, .int .i64 0, .int .i64 0, .int .i64 0, .int .i64 0, .int .i64 0, .int .i64 0, .int .i64 0, .int .i64 0, .int .i64 0, .int .i64 0, .int .i64 0, .int .i64 0, .int .i64 0, .int .i64 0, .int .i64 0, .int .i64 0, .int .i64 0, .int .i64 0, .int .i64 0, .int .i64 0, .int .i64 0, .int .i64 0] 56)) (.cells #[.int .i64 0, .int .i64 0, .int .i64 0, .int .i64 0, .int .i64 0, .int .i64 0, .int .i64 0, .int .i64 0, .int .i64 0, .int .i64 0, .int .i64 0, .int .i64 0, .int .i64 0, .int .i64 0, .int .i64 0, .int .i64 0, .int .i64 0, .int .i64 0, .int .i64 0, .int .i64 0, .int .i64 0, .int .i64 0, .int .i64 0, .int .i64 0, .int .i64 0, .int .i64 0, .int .i64 0, .int .i64 0, .int .i64 0, .int .i64 0, .int .i64 0, .int .i64 0, .int .i64 0, .int .i64 0, .int .i64 0, .int .i64 0, .int .i64 0, .int .i64 0, .int .i64 0, .int .i64 0, .int .i64 0, .int .i64 0, .int .i64 0, .int .i64 0, .int .i64 0, .int .i64 0, .int .i64 0, .int .i64 0, .int .i64 0, .int .i64 0, .int .i64 0, .int .i64 0, .int .i64 0, .int .i64 0, .int .i64 0, .int .i64 0, .int .i64 0, .int .i64 0, .int .i64 0, .int .i64 0, .int .i64 0, .int .i64 0, .int .i64 0, .int .i64 0] 56)
  have HB := belAlloc (belAlloc (belAlloc (belRefl (w := w)) (.cells #[.int .i64 W, .slice A n c] 29)) (.cells #[.int .i64 0, .int .i64 0, .int .i64 0, .int .i64 0, .int .i64 0, .int .i64 0, .int .i64 0, .int .i64 0, .int .i64 0, .int .i64 0, .int .i64 0, .int .i64 0, .int .i64 0, .int .i64 0, .int .i64 0, .int .i64 0, .int .i64 0, .int .i64 0, .int .i64 0, .int .i64 0, .int .i64 0, .int .i64 0, .int .i64 0, .int .i64 0, .int .i64 0, .int .i64 0, .int .i64 0, .int .i64 0, .int .i64 0, .int .i64 0, .int .i64 0, .int .i64 0, .int .i64 0, .int .i64 0, .int .i64 0, .int .i64 0, .int .i64 0, .int .i64 0, .int .i64 0, .int .i64 0, .int .i64 0, .int .i64 0, .int .i64 0, .int .i64 0, .int .i64 0, .int .i64 0, .int .i64 0, .int .i64 0, .int .i64 0, .int .i64 0, .int .i64 0, .int .i64 0, .int .i64 0, .int .i64 0, .int .i64 0, .int .i64 0, .int .i64 0, .int .i64 0, .int .i64 0, .int .i64 0, .int .i64 0, .int .i64 0, .int .i64 0, .int .i64 0] 56)) (.cells #[.int .i64 0, .int .i64 0, .int .i64 0, .int .i64 0, .int .i64 0, .int .i64 0, .int .i64 0, .int .i64 0, .int .i64 0, .int .i64 0, .int .i64 0, .int .i64 0, .int .i64 0, .int .i64 0, .int .i64 0, .int .i64 0, .int .i64 0, .int .i64 0, .int .i64 0, .int .i64 0, .int .i64 0, .int .i64 0, .int .i64 0, .int .i64 0, .int .i64 0, .int .i64 0, .int .i64 0, .int .i64 0, .int .i64 0, .int .i64 0, .int .i64 0, .int .i64 0, .int .i64 0, .int .i64 0, .int .i64 0, .int .i64 0, .int .i64 0, .int .i64 0, .int .i64 0, .int .i64 0, .int .i64 0, .int .i64 0, .int .i64 0, .int .i64 0, .int .i64 0, .int .i64 0, .int .i64 0, .int .i64 0, .int .i64 0, .int .i64 0, .int .i64 0, .int .i64 0, .int .i64 0, .int .i64 0, .int .i64 0, .int .i64 0, .int .i64 0, .int .i64 0, .int .i64 0, .int .i64 0, .int .i64 0, .int .i64 0, .int .i64 0, .int .i64 0] 56)
  have R1 := Lib.hid (rowAlloc (row64 (w.alloc (.cells #[.int .i64 W, .slice A n c] 29)) 56 (.int .i64 0)) (.cells #[.int .i64 0, .int .i64 0, .int .i64 0, .int .i64 0, .int .i64 0, .int .i64 0, .int .i64 0, .int .i64 0, .int .i64 0, .int .i64 0, .int .i64 0, .int .i64 0, .int .i64 0, .int .i64 0, .int .i64 0, .int .i64 0, .int .i64 0, .int .i64 0, .int .i64 0, .int .i64 0, .int .i64 0, .int .i64 0, .int .i64 0, .int .i64 0, .int .i64 0, .int .i64 0, .int .i64 0, .int .i64 0, .int .i64 0, .int .i64 0, .int .i64 0, .int .i64 0, .int .i64 0, .int .i64 0, .int .i64 0, .int .i64 0, .int .i64 0, .int .i64 0, .int .i64 0, .int .i64 0, .int .i64 0, .int .i64 0, .int .i64 0, .int .i64 0, .int .i64 0, .int .i64 0, .int .i64 0, .int .i64 0, .int .i64 0, .int .i64 0, .int .i64 0, .int .i64 0, .int .i64 0, .int .i64 0, .int .i64 0, .int .i64 0, .int .i64 0, .int .i64 0, .int .i64 0, .int .i64 0, .int .i64 0, .int .i64 0, .int .i64 0, .int .i64 0] 56))
  have R2 := Lib.hid (row64 ((w.alloc (.cells #[.int .i64 W, .slice A n c] 29)).alloc (.cells #[.int .i64 0, .int .i64 0, .int .i64 0, .int .i64 0, .int .i64 0, .int .i64 0, .int .i64 0, .int .i64 0, .int .i64 0, .int .i64 0, .int .i64 0, .int .i64 0, .int .i64 0, .int .i64 0, .int .i64 0, .int .i64 0, .int .i64 0, .int .i64 0, .int .i64 0, .int .i64 0, .int .i64 0, .int .i64 0, .int .i64 0, .int .i64 0, .int .i64 0, .int .i64 0, .int .i64 0, .int .i64 0, .int .i64 0, .int .i64 0, .int .i64 0, .int .i64 0, .int .i64 0, .int .i64 0, .int .i64 0, .int .i64 0, .int .i64 0, .int .i64 0, .int .i64 0, .int .i64 0, .int .i64 0, .int .i64 0, .int .i64 0, .int .i64 0, .int .i64 0, .int .i64 0, .int .i64 0, .int .i64 0, .int .i64 0, .int .i64 0, .int .i64 0, .int .i64 0, .int .i64 0, .int .i64 0, .int .i64 0, .int .i64 0, .int .i64 0, .int .i64 0, .int .i64 0, .int .i64 0, .int .i64 0, .int .i64 0, .int .i64 0, .int .i64 0] 56)) 56 (.int .i64 0))
  simp only [World.size_alloc] at R1 R2
  clear h
  go_enter Try.func42, Try.ntmps42
  go_wp2_with fail
  refine (seatsOf_any none 0 0 [] _ ⟨rfl, fun h => absurd h (by omega)⟩ (by omega)).mono ?_
  rintro e w3 ⟨rfl, hb⟩
  replace HA := boxStep HA hb; replace HB := belStep HB hb
  replace R1 := rowStep R1 hb; replace R2 := rowStep R2 hb
  have hz3 : w.heap.size + 3 ≤ w3.heap.size := by have := hb.size; simp at this; omega
  have hst8 := storeNewQ w3 71 (.int .i64 0) (seats []) (seats_length [])
  have R3 := Lib.hid (rowOfIQ (ys := seats []) (seats_length []) (heap_alloc_new w3 (.cells (I (seats [])).toArray 71)))
  replace HA := boxAlloc HA (.cells (I (seats [])).toArray 71)
  replace HB := belAlloc HB (.cells (I (seats [])).toArray 71)
  replace R1 := Lib.hid (rowAlloc R1.out (.cells (I (seats [])).toArray 71))
  replace R2 := Lib.hid (rowAlloc R2.out (.cells (I (seats [])).toArray 71))
  have a0 := HA.out.c0; have a1 := HA.out.c1; have az := HA.out.lt
  clear hb
  go_wp2
  obtain ⟨bs, hbs⟩ : ∃ b, b = w3.heap.size := ⟨_, rfl⟩
  obtain ⟨ws, hws⟩ : ∃ v : World, v = w3.alloc (.cells (I (seats [])).toArray 71) := ⟨_, rfl⟩
  rw [← hws] at R1 R2 R3 HA HB a0 a1 az
  rw [← hbs] at R3 hz3
  rw [← hbs, ← hws]
  rw [seats_marksQ] at R3
  have R20 : Hid (ws.rowIs (w.heap.size + 1 + 1) 56 64 (tabV zs 0)) := Lib.hid (R2.out.congr (fun j hj => by unfold tabV; rw [mtN_zero]))
  clear hws hbs hst8 R2
  go_loopw [13] (fun i wr => ∃ k : Nat, k ≤ n ∧ i = .int .i64 (k : Int) ∧ wr.rowIs bs 71 8 (fun j => .int .i64 (gi (stand zs k) j)) ∧ wr.rowIs (w.heap.size + 1 + 1) 56 64 (tabV zs k) ∧ wr.rowIs (w.heap.size + 1) 56 64 (fun _ => .int .i64 0) ∧ Below (w.heap.size + 1) ws wr) (fun i _ => n - (intOf i).toNat)
  case atStart => exact ⟨0, Nat.zero_le _, rfl, R3.out, R20.out, R1.out, Below.refl _ _⟩
  case round =>
    obtain ⟨k, hk, rfl, hr3, hr2, hr1, hb⟩ := hrel
    have HR3 := Lib.hid hr3
    have HR2 := Lib.hid hr2
    have HR1 := Lib.hid hr1
    have HBk := Lib.hid hb
    have HAr := Lib.hid (HH.out wr (HB.out.trans (hb.mono (by omega))))
    have hsz : bs < wr.heap.size := by obtain ⟨cs, hh, _⟩ := hr3; exact (Array.getElem?_eq_some_iff.1 hh).1
    by_cases hlt : k < n
    · obtain ⟨b, off, rfl, hbw, hc⟩ := HAr.out.cell hlt
      have hck := hc k hlt
      have hg := HS.2 k (by omega)
      obtain ⟨r, hrr⟩ : ∃ r : Nat, gi zs k = (r : Int) := ⟨(gi zs k).toNat, by omega⟩
      have hr6 : r ≤ 6 := by omega
      obtain ⟨s1, q1, e1, f1⟩ := at_stand HS k (by omega) r (by omega)
      obtain ⟨s2, q2, e2, f2⟩ := at_stand HS k (by omega) (r + 1) (by omega)
      have hne : s1 ≠ s2 := by intro e; rw [e] at f1; omega
      have i1 : (0 : Int) ≤ (s1 : Int) := by omega
      have i2 : (s1 : Int) < 8 := by omega
      have i3 : (0 : Int) ≤ (s2 : Int) := by omega
      have i4 : (s2 : Int) < 8 := by omega
      have HSTEP := Lib.hid (fun a b (ha : a < 8) (hb : b < 8) => mt_step HS (show k < zs.length by omega) hrr e1 e2 ha hb)
      have HST : Hid (∀ j, gi (stand zs (k + 1)) j = if j = r + 1 then (s1 : Int) else if j = r then (s2 : Int) else gi (stand zs k) j) := fun j => by
        have e3 : stand zs (k + 1) = swp (stand zs k) r := by simp only [stand]; rw [hrr, Int.toNat_natCast]
        rw [e3, gi_swp (by rw [stand_length]; omega), e1, e2]
      have d1 := hr3.cell (show r < 8 by omega)
      have d2 := hr3.cell (show r + 1 < 8 by omega)
      rw [e1] at d1
      rw [e2] at d2
      have df1 := hr3.frozen r
      have df2 := hr3.frozen (r + 1)
      have hp12 : s1 * 8 + s2 < 64 := by omega
      have hp21 : s2 * 8 + s1 < 64 := by omega
      have t1 := hr2.cell hp12
      have t2 := hr2.cell hp21
      have tf1 := hr2.frozen (s1 * 8 + s2)
      have tf2 := hr2.frozen (s2 * 8 + s1)
      have hm1 := mtN_le zs s1 s2 k
      have hm2 := mtN_le zs s2 s1 k
      have u1 : (s1 * 8 + s2) / 8 = s1 := by omega
      have u2 : (s1 * 8 + s2) % 8 = s2 := by omega
      have u3 : (s2 * 8 + s1) / 8 = s2 := by omega
      have u4 : (s2 * 8 + s1) % 8 = s1 := by omega
      unfold tabV at t1 t2
      rw [u1, u2] at t1
      rw [u3, u4] at t2
      obtain ⟨m1, hm1e⟩ : ∃ m, m = mtN zs s1 s2 k := ⟨_, rfl⟩
      obtain ⟨m2, hm2e⟩ : ∃ m, m = mtN zs s2 s1 k := ⟨_, rfl⟩
      rw [← hm1e] at t1 hm1
      rw [← hm2e] at t2 hm2
      have HM1 := Lib.hid hm1e
      have HM2 := Lib.hid hm2e
      have hrw : IntKind.i64.wrap ((r : Int) + 1) = ((r + 1 : Nat) : Int) := by rw [IntWalk.i64_in _ (by omega)]; omega
      have hw1 : IntKind.i64.wrap (m1 + 1) = m1 + 1 := IntWalk.i64_in _ (by omega)
      have hw2 : IntKind.i64.wrap (m2 + 1) = m2 + 1 := IntWalk.i64_in _ (by omega)
      have hpne : s2 * 8 + s1 ≠ s1 * 8 + s2 := by omega
      rw [hrr] at hck
      have HRR := Lib.hid hrr
      clear hr3 hr2 hr1 hb hc hrr e1 e2 f1 f2 hm1e hm2e u1 u2 u3 u4 a0 a1 hg
      go_wp2
      go_quiet (fail)
      go_wp2
      go_region
      go_wp2
      go_region
      go_wp2
      go_roundw
      case rel =>
        have Q3 : (wr.drewN (nq + 1)).rowIs bs 71 8 (fun j => .int .i64 (gi (stand zs k) j)) := HR3.out
        have Q2 : (wr.drewN (nq + 1)).rowIs (w.heap.size + 1 + 1) 56 64 (tabV zs k) := HR2.out
        have Q1 : (wr.drewN (nq + 1)).rowIs (w.heap.size + 1) 56 64 (fun _ => .int .i64 0) := HR1.out
        have QB : Below (w.heap.size + 1) ws (wr.drewN (nq + 1)) := below_drewN HBk.out _
        obtain ⟨wd, hwd⟩ : ∃ v : World, v = wr.drewN (nq + 1) := ⟨_, rfl⟩
        rw [← hwd] at Q3 Q2 Q1 QB ⊢
        clear hwd
        have n1 : (w.heap.size + 1 + 1) ≠ bs := by omega
        refine ⟨k + 1, by omega, by go_num, ?_, ?_, ?_, ?_⟩
        · refine World.rowIs.drew (((((Q3.setOther (by simp; omega) _).setOther (by simp; omega) _).set r _).set (r + 1) _).congr (fun j hj => ?_))
          rw [HST.out j]
          by_cases e : j = r + 1
          · simp [e]
          · by_cases e2 : j = r
            · simp [e2]
            · simp [e, e2]
        · refine World.rowIs.drew (((((Q2.set (s1 * 8 + s2) _).set (s2 * 8 + s1) _).setOther (by simp; omega) _).setOther (by simp; omega) _).congr (fun j hj => ?_))
          have hs := HSTEP.out (j / 8) (j % 8) (by omega) (by omega)
          by_cases e : j = s2 * 8 + s1
          · have c1 : j / 8 = s2 := by omega
            have c2 : j % 8 = s1 := by omega
            have hi : (if (j / 8 = s1 ∧ j % 8 = s2) ∨ (j / 8 = s2 ∧ j % 8 = s1) then (1 : Int) else 0) = 1 := if_pos (.inr ⟨c1, c2⟩)
            rw [hi, c1, c2, ← HM2.out] at hs
            unfold tabV
            rw [c1, c2, hs]
            simp [e]
          · by_cases e2 : j = s1 * 8 + s2
            · have c1 : j / 8 = s1 := by omega
              have c2 : j % 8 = s2 := by omega
              have hi : (if (j / 8 = s1 ∧ j % 8 = s2) ∨ (j / 8 = s2 ∧ j % 8 = s1) then (1 : Int) else 0) = 1 := if_pos (.inl ⟨c1, c2⟩)
              rw [hi, c1, c2, ← HM1.out] at hs
              unfold tabV
              rw [c1, c2, hs]
              rw [if_neg e, if_pos e2]
            · have hi : (if (j / 8 = s1 ∧ j % 8 = s2) ∨ (j / 8 = s2 ∧ j % 8 = s1) then (1 : Int) else 0) = 0 := if_neg (by omega)
              rw [hi, Int.add_zero] at hs
              unfold tabV
              rw [hs]
              rw [if_neg e, if_neg e2]
        · exact World.rowIs.drew ((((Q1.setOther (by simp) _).setOther (by simp) _).setOther (by simp; omega) _).setOther (by simp; omega) _)
        · exact (((((QB.setCell (by simp) _).setCell (by simp) _).setCell (by simp; omega) _).setCell (by simp; omega) _)).drew
      case measure => simp [intOf]; omega
    · obtain rfl : k = n := by omega
      obtain ⟨c2, hh2, hs2, hc2⟩ := hr2
      obtain ⟨c1, hh1, hs1, hc1⟩ := hr1
      have H2 := Lib.hid hh2
      have H1 := Lib.hid hh1
      have HC2 := Lib.hid hc2
      have HBf : Hid (Below w.heap.size w wr) := HB.out.trans (hb.mono (by omega))
      have hasz : Hid (c2.size = 64) := hs2
      have hs1' : Hid (c1.size = 64) := hs1
      have haone : Hid (c2.all (·.oneCell') = true) := by
        show c2.all (·.oneCell') = true
        rw [Array.all_eq_true]
        intro i hi
        have hi2 : i < 64 := by omega
        have := hc2 i hi2
        rw [Array.getElem?_eq_getElem hi] at this
        injection this with this
        rw [this]; rfl
      clear hr3 hb hh2 hh1 hc2 hc1 hs1 hs2 a0 a1
      go_wp2_with (with_reducible refine wpList_load_row (o := ⟨some 48, _, _, _, _, _⟩) rfl 56 (.tmp 3) rfl (w.heap.size + 1 + 1) rfl 56 c2 (0, 0) _ H2.out Try.underlying56 rfl (by rw [hasz.out]; exact infoTab) ?_; revert HBf)
      intro HBf
      refine wpList_store_row rfl 56 (.tmp 2) (.tmp 48) rfl (w.heap.size + 1) c2 rfl rfl 56 c1 H1.out (by rw [hasz.out]; exact infoTab) (by rw [hasz.out]; exact hs1'.out) haone.out ?_
      have hfin := setRow_heap wr (w.heap.size + 1) c1 c2 56 (0, 0) H1.out
      have HF := Lib.hid hfin
      clear hfin
      go_wp2
      refine bodyPost_ret (results_cell_row rfl _ _ (w.heap.size + 1) 56 c2 (0, 0) _ rfl HF.out Try.underlying56 rfl (by rw [hasz.out]; exact infoTab)) rfl ?_
      refine ⟨c2, rfl, hasz.out, fun i hi => ?_, below_setRow HBf.out (by omega) _⟩
      rw [HC2.out i hi, hl]
end Go.Proofs.Ythalcjgpjagcoaa

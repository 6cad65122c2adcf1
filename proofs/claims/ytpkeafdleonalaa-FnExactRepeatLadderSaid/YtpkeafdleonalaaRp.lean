/- What the library's Repeat does to one slice of numbers. -/
import Derived.Test.YtpkeafdleonalaaMul
import Derived.Test.YtpkeafdleonalaaRR3
import Derived.Test.YtpkeafdleonalaaO1
import Derived.Deep.RegionLaw
import Derived.Laws.CopyOwn
import Derived.Laws.OwnMore
import Derived.IntWalk
namespace Go.Proofs.Ytpkeafdleonalaa
open Go Go.RowKit

/-- n times x, and then z, k in all -/
def rp (x z : Value) (n k : Nat) : List Value := List.replicate n x ++ List.replicate (k - n) z
theorem rp_length (x z : Value) {n k : Nat} (h : n ≤ k) : (rp x z n k).length = k := by simp [rp]; omega
theorem rp_zero (x z : Value) (k : Nat) : rp x z 0 k = List.replicate k z := by simp [rp]
theorem rp_full (x z : Value) (k : Nat) : rp x z k k = List.replicate k x := by simp [rp]
theorem rp_splice (x z : Value) {n m k : Nat} (h : n + m ≤ k) : splice (rp x z n k) n (List.replicate m x) = rp x z (n + m) k := by
  unfold splice rp
  rw [List.take_left' (by simp), List.length_replicate, List.drop_append, List.drop_eq_nil_of_le (by simp), List.nil_append, List.length_replicate, List.drop_replicate, ← List.append_assoc, List.replicate_append_replicate]
  congr 2
  omega

theorem rp_cell {w : World} {g m n k j : Nat} {x z v : Value} {t : TypeId} (h : w.heap[g]? = some (.cells (rp x z n k).toArray t (0, 0))) (hm : m ≤ n) (hj : (List.replicate m x)[j]? = some v) : w.cell? (Addr.add ⟨g, 0, none⟩ j) = some v := by
  rw [List.getElem?_replicate] at hj
  split at hj
  · rename_i hlt
    injection hj with hj
    subst hj
    have e : (rp x z n k)[j]? = some x := by
      unfold rp
      rw [List.getElem?_append_left (by simp; omega), List.getElem?_replicate, if_pos (by omega)]
    have ea : Addr.add ⟨g, 0, none⟩ j = ⟨g, j, none⟩ := by
      unfold Addr.add
      split
      · rename_i h0; rw [h0]
      · simp
    rw [ea]
    simp only [World.cell?, h]
    simpa using e
  · cases hj
theorem infoSliceCell : (Try.prog.info? 22).map (·.size) = some 1 := by kernel_rfl
def Rep (w : World) (x : Value) (k : Nat) (e : Ending) (w' : World) : Prop :=
  ∃ g, e = .returned (.slice (some ⟨g, 0, none⟩) k k) ∧ w.heap.size ≤ g ∧ w'.heap[g]? = some (.cells (List.replicate k x).toArray 22 (0, 0)) ∧ Below w.heap.size w w'

set_option maxRecDepth 100000 in
set_option maxHeartbeats 2000000 in
theorem repeat_any (b : Nat) (x : Value) (k : Nat) (w : World) (hb : b < w.heap.size) (hx : w.cell? ⟨b, 0, none⟩ = some x) (h1 : x.oneCell' = true) (hk : k ≤ 1000) :
    Calls Try.prog 46 #[.slice (some ⟨b, 0, none⟩) 1 1, .int .i64 (k : Int)] w (Rep w x k) := by
  have HM : Hid (∀ w' : World, Calls Try.prog 52 #[.int .u64 1, .int .u64 (k : Int)] w' fun e w2 => e = .returned (.tuple #[.int .u64 0, .int .u64 (k : Int)]) ∧ w2 = w') := fun w' => by
    have h := bits_Mul 1 k (by decide) (by omega) w'
    rw [show 1 * k / 18446744073709551616 = 0 by omega, show 1 * k % 18446744073709551616 = k by omega] at h
    exact h
  have hmk := run_make_row' (P := Try.prog) 42 22 (.slice none 0 0) 24 Try.underlying42 infoSlice rfl .i64 .i64 k (by omega) (by omega)
  have HX := Lib.hid hx
  have H1 := Lib.hid h1
  clear hx h1
  go_enter Try.func46, Try.ntmps46
  go_wp2_with fail
  refine (HM.out _).mono ?_
  rintro e w' ⟨rfl, hw⟩
  obtain rfl : w = w' := hw.symm
  obtain ⟨z, hz⟩ : ∃ z : Value, z = .slice none 0 0 := ⟨_, rfl⟩
  have HG0 : Hid ((w.alloc (.cells (madeCells #[.slice none 0 0] k) 22)).heap[w.heap.size]? = some (.cells (rp x z 0 k).toArray 22 (0, 0))) := by
    show _ = _
    rw [rp_zero, hz, ← toList_madeCells_one, Array.toArray_toList]
    exact heap_alloc_new w _
  have HB0 : Hid (Below w.heap.size w (w.alloc (.cells (madeCells #[.slice none 0 0] k) 22))) := (Below.refl _ _).alloc (Nat.le_refl _) _
  have HX0 : Hid ((w.alloc (.cells (madeCells #[.slice none 0 0] k) 22)).cell? ⟨b, 0, none⟩ = some x) := (HB0.out.cell (p := ⟨b, 0, none⟩) hb).trans HX.out
  have HZ := Lib.hid hz
  clear hz
  go_wp2_with (refine wpList_copy_splice (o := ⟨some 33, _, _, _, _, _⟩) rfl (.tmp 31) (.tmp 32) 42 42 rfl 22 Try.underlying42 infoSliceCell (some ⟨w.heap.size, 0, none⟩) (some ⟨b, 0, none⟩) k k 1 1 rfl rfl w.heap.size 0 (rp x z 0 k) 22 HG0.out (List.replicate (Nat.min 1 k) x) (by simp) (fun _ => ⟨rfl, ⟨b, 0, none⟩, rfl, fun j v hj => by
      rw [List.getElem?_replicate] at hj
      split at hj
      · rename_i hlt
        obtain rfl : j = 0 := by have : Nat.min 1 k ≤ 1 := Nat.min_le_left _ _; omega
        injection hj with hj
        subst hj
        exact HX0.out
      · cases hj⟩) (by rw [rp_length x z (Nat.zero_le k), List.length_replicate, Nat.zero_add]; exact Nat.min_le_right _ _) (fun v hv => by rw [List.eq_of_mem_replicate hv]; exact H1.out) w.heap.size w HB0.out (Nat.le_refl _) ?_; intro w2 hh2 hb2)
  have HG2 : Hid (w2.heap[w.heap.size]? = some (.cells (rp x z (Nat.min 1 k) k).toArray 22 (0, 0))) := by
    have h := hh2.out
    rw [rp_splice x z (by rw [Nat.zero_add]; exact Nat.min_le_right _ _), Nat.zero_add] at h
    exact h
  have HB2 := Lib.hid hb2
  obtain ⟨n0, hn0⟩ : ∃ n0, n0 = Nat.min 1 k := ⟨_, rfl⟩
  rw [← hn0] at HG2 ⊢
  have hle0 : n0 ≤ k := by rw [hn0]; exact Nat.min_le_right _ _
  have hps0 : 0 < k → 0 < n0 := fun h => by rw [hn0]; simp only [Nat.min_def]; split <;> omega
  clear hh2 hb2 hn0 HG0 HB0 HX0 hmk
  go_loopw [8] (fun s8 wr => ∃ n : Nat, n ≤ k ∧ (0 < k → 0 < n) ∧ s8 = .int .i64 (n : Int) ∧ wr.heap[w.heap.size]? = some (.cells (rp x z n k).toArray 22 (0, 0)) ∧ Below w.heap.size w wr) (fun s8 _ => k - (intOf s8).toNat)
  case atStart => exact ⟨n0, hle0, hps0, rfl, HG2.out, HB2.out⟩
  case round =>
    obtain ⟨n, hn, hp, rfl, hg, hbl⟩ := hrel
    have HG := Lib.hid hg
    have HBL := Lib.hid hbl
    clear hg hbl HG2 HB2 hps0 hle0
    by_cases hlt : n < k
    · have hp0 := hp (by omega)
      obtain ⟨m, hm⟩ : ∃ m, m = Nat.min n (k - n) := ⟨_, rfl⟩
      have hm1 : 0 < m ∧ m ≤ n ∧ m ≤ k - n := by rw [hm]; simp only [Nat.min_def]; split <;> omega
      have HM2 := Lib.hid hm
      have i1 : (0 : Int) ≤ (n : Int) := by omega
      have i2 : (n : Int) < (k : Int) := by omega
      have i3 : (n : Int) ≤ (k : Int) := by omega
      have i4 : ¬ k = n := by omega
      have HGD : Hid (wr.drew.heap[w.heap.size]? = some (.cells (rp x z n k).toArray 22 (0, 0))) := HG.out
      have HBD := belDrew HBL
      clear hm hp
      go_wp2
      go_region_law (refine step_copy_splice (by rfl) (.tmp 41) (.tmp 44) 42 42 (by rfl) 22 Try.underlying42 infoSliceCell (some ⟨w.heap.size, n, none⟩) (some ⟨w.heap.size, 0, none⟩) (k - n) (k - n) n k (by simp [Act.eval, Act.put]) (by simp [Act.eval, Act.put]) w.heap.size n (rp x z n k) 22 HGD.out (List.replicate m x) (by rw [List.length_replicate]; exact HM2.out) (fun _ => ⟨rfl, ⟨w.heap.size, 0, none⟩, rfl, fun j v hj => rp_cell HGD.out hm1.2.1 hj⟩) (by rw [rp_length x z hn, List.length_replicate]; omega) (fun v hv => by rw [List.eq_of_mem_replicate hv]; exact H1.out) w.heap.size w HBD.out (Nat.le_refl _) ?_; intro w4 hg4 hb4)
      have HN4 : Hid (w4.heap[w.heap.size]? = some (.cells (rp x z (n + m) k).toArray 22 (0, 0))) := by
        have h := hg4.out
        rw [rp_splice x z (by omega)] at h
        exact h
      have HB4 := Lib.hid hb4
      clear hg4 hb4
      have hw : IntKind.i64.wrap ((n : Int) + (m : Int)) = (n : Int) + (m : Int) := IntWalk.i64_in _ (by omega)
      simp only [hw, Act.put, List.getElem_toArray, List.getElem_cons_zero, List.getElem_cons_succ, List.setIfInBounds_toArray, List.set_cons_zero, List.set_cons_succ]
      go_wp2
      go_roundw
      case rel => exact ⟨n + m, by omega, fun _ => by omega, by go_num, HN4.out, HB4.out⟩
      case measure => simp [intOf]; omega
    · obtain rfl : n = k := by omega
      go_wp2
      go_ret
      refine ⟨_, rfl, Nat.le_refl _, ?_, HBL.out⟩
      have := HG.out
      rw [rp_full] at this
      exact this
end Go.Proofs.Ytpkeafdleonalaa

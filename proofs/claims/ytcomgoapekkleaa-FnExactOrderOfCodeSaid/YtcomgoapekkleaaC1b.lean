/- The contracts of the functions that go down a ladder. -/
import Derived.Test.YtcomgoapekkleaaC1a
import Derived.Test.YtcomgoapekkleaaBox
import Derived.Test.YtcomgoapekkleaaApp
namespace Go.Proofs.Ytcomgoapekkleaa
open Go Go.RowKit

theorem over_1 {s r : Int} (h : s = r) : r + 1 = over s r := by unfold over; rw [if_pos h]
theorem over_2 {s r : Int} (h : s ≠ r) (h2 : s = r + 1) : r = over s r := by unfold over; rw [if_neg h, if_pos h2]
theorem over_3 {s r : Int} (h : s ≠ r) (h2 : s ≠ r + 1) : s = over s r := by unfold over; rw [if_neg h, if_neg h2]

theorem laOver_any (s r : Int) (w : World) (hr : -1000 ≤ r ∧ r ≤ 1000) :
    Calls Try.prog 70 #[.int .i64 s, .int .i64 r] w (SameI (over s r) w) := by
  by_cases h1 : s = r
  · have e1 : (s == r) = true := beq_iff_eq.2 h1
    have H1 := Lib.hid (over_1 h1)
    clear h1
    go_enter Try.func70, Try.ntmps70
    go_wp2
    go_ret
    exact ⟨ret_i H1.out, rfl⟩
  · have e1 : (s == r) = false := beq_eq_false_iff_ne.2 h1
    by_cases h2 : s = r + 1
    · have e2 : (s == r + 1) = true := beq_iff_eq.2 h2
      have H1 := Lib.hid (over_2 h1 h2)
      clear h1 h2
      go_enter Try.func70, Try.ntmps70
      go_wp2
      go_ret
      exact ⟨ret_i H1.out, rfl⟩
    · have e2 : (s == r + 1) = false := beq_eq_false_iff_ne.2 h2
      have H1 := Lib.hid (over_3 h1 h2)
      clear h1 h2
      go_enter Try.func70, Try.ntmps70
      go_wp2
      go_ret
      exact ⟨ret_i H1.out, rfl⟩

/-- what a way down wants of the rungs and of the start -/
def Wires (zs : List Int) (s : Int) : Prop := ∃ W : Int, W ≤ 8 ∧ (∀ j, j < zs.length → 0 ≤ gi zs j ∧ gi zs j ≤ W - 2) ∧ 0 ≤ s ∧ s ≤ W - 1
theorem Wires.at {zs : List Int} {s : Int} (h : Wires zs s) {k : Nat} (hk : k ≤ zs.length) : 0 ≤ at_ zs s k ∧ at_ zs s k ≤ 7 := by
  obtain ⟨W, hW, hz, hs⟩ := h
  have := at_le hz hs k hk
  omega
theorem Wires.rung {zs : List Int} {s : Int} (h : Wires zs s) {k : Nat} (hk : k < zs.length) : 0 ≤ gi zs k ∧ gi zs k ≤ 6 := by
  obtain ⟨W, hW, hz, hs⟩ := h
  have := hz k hk
  omega
theorem Wires.of {W : Int} {zs : List Int} {s : Int} (h : wire W zs s = true) : Wires zs s :=
  ⟨W, by have := (lad_iff.1 (wire_iff.1 h).1).1; omega, fun _ hj => lad_at (wire_iff.1 h).1 hj, (wire_iff.1 h).2⟩

set_option maxHeartbeats 1000000 in
theorem laDown_any (A : Option Addr) (n c : Nat) (zs : List Int) (s : Int) (w : World) (h : RI w A n zs) (hn : n ≤ 1048576) (hw : Wires zs s) :
    Calls Try.prog 65 #[.slice A n c, .int .i64 s] w (FreshI w (n + 1) (down zs s)) := by
  have hl := h.1
  have HD : Hid ((down zs s).take 1 = [at_ zs s 0]) := by
    show (down zs s).take 1 = [at_ zs s 0]
    rw [down_take _ _ _ (Nat.zero_le _)]; rfl
  go_enter Try.func65, Try.ntmps65
  go_wp2
  go_loopw [1, 5, 7, 12] (fun s1 v _ i wr => ∃ (k : Nat) (A1 : Option Addr) (c1 : Nat), k ≤ n ∧ i = .int .i64 k ∧ s1 = .int .i64 (at_ zs s k) ∧ v = .slice A1 (k + 1) c1 ∧ OI wr w.heap.size A1 (k + 1) c1 ((down zs s).take (k + 1)) ∧ Below w.heap.size w wr) (fun _ _ _ i _ => n - (intOf i).toNat)
  case atStart =>
    refine ⟨0, _, _, Nat.zero_le _, rfl, by rw [at_zero], rfl, ?_, (Below.refl _ _).alloc (Nat.le_refl _) _⟩
    rw [HD.out, at_zero]
    exact ⟨rfl, World.ownsRow_lit _ _ _ (Nat.le_refl _) (by decide) rfl⟩
  case round =>
    obtain ⟨k, A1, c1, hk, rfl, rfl, rfl, ho, hb⟩ := hrel
    by_cases hlt : k < n
    · obtain ⟨b, off, rfl, hbw, hc⟩ := h.cell hlt
      have hck : wr.cell? ⟨b, off + k, none⟩ = some (.int .i64 (gi zs k)) := (hb.cell (p := ⟨b, off + k, none⟩) hbw).trans (hc k hlt)
      have g1 := hw.rung (k := k) (by omega)
      have g2 := hw.at (k := k) (by omega)
      have HS := Lib.hid (at_succ zs s k (by omega))
      have HT := Lib.hid (down_take zs s (k + 1) (by omega))
      have HO := Lib.hid ho
      have HB := Lib.hid hb
      clear hc h hb ho
      go_wp2_with (first
        | (go_at_call 70; refine (laOver_any _ _ _ (by omega)).mono ?_; rw [← HS.out]; rintro e w' ⟨rfl, rfl⟩)
        | (at_builtin; refine wpList_append_int _ rfl _ _ rfl w.heap.size A1 (k + 1) c1 _ (at_ zs s (k + 1)) wr.heap.size rfl rfl (HO.out.alloc _) (by simp) (by omega) (by have := HB.out.size; simp; omega) ?_; intro A2 c2 w2 ho2 hg2))
      go_roundw
      case rel =>
        refine ⟨k + 1, A2, c2, by omega, by go_num, rfl, rfl, ?_, ?_⟩
        · rw [HT.out]; exact ho2
        · exact (belGrown (belAlloc HB _) (HO.out.alloc _) hg2 (Nat.le_refl _)).out
      case measure => simp [intOf]; omega
    · obtain rfl : k = n := by omega
      have HB := Lib.hid hb
      have HO := Lib.hid ho
      clear hb ho
      go_wp2
      go_ret
      refine ⟨A1, c1, rfl, ?_, HB.out⟩
      have e : (down zs s).take (k + 1) = down zs s := List.take_of_length_le (by rw [down_length]; omega)
      have := HO.out
      rwa [e] at this
end Go.Proofs.Ytcomgoapekkleaa

/- Texts of small letters, as the program asks for them. -/
import Derived.Test.YthalcjgpjagcoaaPz1
import Derived.Laws.IdiomStrings
namespace Go.Proofs.Ythalcjgpjagcoaa
open Go Go.RowKit

theorem bytes_of (s : ByteArray) (w : World) : ∃ (cap : Nat) (O : Obj), (convert 9 64 (.string s)).run Try.prog w = .ok (.slice (some ⟨w.heap.size, 0, none⟩) s.size cap) (w.drew.alloc O) ∧ ∀ j, j < s.size → (w.drew.alloc O).cell? ⟨w.heap.size, j, none⟩ = some (.int .u8 (bg s j : Int)) := by
  refine ⟨_, _, run_bytes_of_string w 9 64 5 s Try.underlying9 Try.underlying64 Try.underlying5, fun j hj => ?_⟩
  have hj2 : j < s.data.size := hj
  have h1 := bytesRow_at s (grownCap w s.size 0 5) j hj2
  have h2 : bg s j = s.data[j].toNat := by rw [← bg_at hj]; rfl
  rw [h2]
  unfold World.cell?
  have hh : ∀ o, (w.drew.alloc o).heap[w.heap.size]? = some o := fun o => heap_alloc_new w.drew o
  rw [hh]
  exact h1

set_option maxRecDepth 100000 in
set_option maxHeartbeats 1000000 in
theorem areLetters_any (s : ByteArray) (N : Int) (w : World) (hs : s.size ≤ 1000000000) :
    Calls Try.prog 56 #[.string s, .int .i64 N] w (RetB (prB s N) w) := by
  obtain ⟨cap, O, hcv, hcell⟩ := bytes_of s w
  have HCELL := Lib.hid hcell
  have HB0 : Hid (Below w.heap.size w (w.drew.alloc O)) := ((Below.refl _ _).drew).alloc (Nat.le_refl _) _
  have hz0 : w.heap.size < (w.drew.alloc O).heap.size := by simp
  obtain ⟨w0, hw0⟩ : ∃ v, v = w.drew.alloc O := ⟨_, rfl⟩
  rw [← hw0] at hcv HCELL HB0 hz0
  clear hcell hw0
  go_enter Try.func56, Try.ntmps56
  go_wp2
  go_loopw [6, 10] (fun _ i wr => ∃ k : Nat, k ≤ s.size ∧ i = .int .i64 (k : Int) ∧ wr = w0 ∧ ∀ j, j < k → 97 ≤ bg s j ∧ bg s j ≤ 122) (fun _ i _ => s.size - (intOf i).toNat)
  case atStart => exact ⟨0, Nat.zero_le _, rfl, rfl, fun j hj => absurd hj (by omega)⟩
  case round =>
    obtain ⟨k, hk, rfl, rfl, hall⟩ := hrel
    have HALL := Lib.hid hall
    clear hall hcv
    by_cases hlt : k < s.size
    · have hck := HCELL.out k hlt
      obtain ⟨b, hb⟩ : ∃ b, b = bg s k := ⟨_, rfl⟩
      rw [← hb] at hck
      have HBB := Lib.hid hb
      clear hb
      by_cases h1 : b < 97
      · have HNO : Hid (prB s N = false) := by show prB s N = false; unfold prB; rw [ltrB_no hlt (by rw [← HBB.out]; omega)]; rfl
        go_wp2
        go_ret
        exact ⟨ret_b HNO.out.symm, HB0.out⟩
      · have h1' : 97 ≤ b := by omega
        clear h1
        by_cases h2 : 122 < b
        · have HNO : Hid (prB s N = false) := by show prB s N = false; unfold prB; rw [ltrB_no hlt (by rw [← HBB.out]; omega)]; rfl
          go_wp2
          go_ret
          exact ⟨ret_b HNO.out.symm, HB0.out⟩
        · have h2' : b ≤ 122 := by omega
          clear h2
          go_wp2
          go_roundw
          case rel =>
            refine ⟨k + 1, by omega, by go_num, by first | rfl | trivial, fun j hj => ?_⟩
            by_cases e : j = k
            · subst e; rw [← HBB.out]; exact ⟨h1', h2'⟩
            · exact HALL.out j (by omega)
          case measure => simp [intOf]; omega
    · obtain rfl : k = s.size := by omega
      have HY : Hid (prB s N = decide ((s.size : Int) = N)) := by show prB s N = decide ((s.size : Int) = N); unfold prB; rw [ltrB_iff.2 HALL.out]; rfl
      by_cases he : (s.size : Int) = N
      · have HY2 := Lib.hid (HY.out.trans (decide_eq_true he))
        have e1 : ((s.size : Int) == N) = true := beq_iff_eq.2 he
        clear he
        go_wp2
        go_ret
        exact ⟨ret_b HY2.out.symm, HB0.out⟩
      · have HY2 := Lib.hid (HY.out.trans (decide_eq_false he))
        have e1 : ((s.size : Int) == N) = false := beq_eq_false_iff_ne.2 he
        clear he
        go_wp2
        go_ret
        exact ⟨ret_b HY2.out.symm, HB0.out⟩
end Go.Proofs.Ythalcjgpjagcoaa

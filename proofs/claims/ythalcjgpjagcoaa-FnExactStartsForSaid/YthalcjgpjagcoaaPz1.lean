/- Prizes: texts of small letters, as the program and the model ask for them. -/
import Derived.Test.YthalcjgpjagcoaaMgD
import Derived.Test.YthalcjgpjagcoaaMgC
namespace Go.Proofs.Ythalcjgpjagcoaa
open Go Go.RowKit

/-- byte j of a text -/
def bg (s : ByteArray) (j : Nat) : Nat := (s.data.toList.getD j 0).toNat
theorem bg_at {s : ByteArray} {j : Nat} (h : j < s.size) : (s[j]'h).toNat = bg s j := by
  unfold bg
  have h2 : j < s.data.toList.length := by simpa using h
  rw [List.getD_eq_getElem?_getD, List.getElem?_eq_getElem h2]
  rfl
theorem bg_lt (s : ByteArray) (j : Nat) : bg s j < 256 := by unfold bg; exact UInt8.toNat_lt _
def ltrB (s : ByteArray) : Bool := (List.range s.size).all fun j => decide (97 ≤ bg s j ∧ bg s j ≤ 122)
theorem ltrB_iff {s : ByteArray} : ltrB s = true ↔ ∀ j, j < s.size → 97 ≤ bg s j ∧ bg s j ≤ 122 := by
  unfold ltrB
  rw [List.all_eq_true]
  exact ⟨fun h j hj => of_decide_eq_true (h j (List.mem_range.2 hj)), fun h j hj => decide_eq_true (h j (List.mem_range.1 hj))⟩
theorem ltrB_no {s : ByteArray} {j : Nat} (hj : j < s.size) (h : ¬ (97 ≤ bg s j ∧ bg s j ≤ 122)) : ltrB s = false := by
  rw [← Bool.not_eq_true]; intro e; exact h (ltrB_iff.1 e j hj)
def prB (s : ByteArray) (N : Int) : Bool := ltrB s && decide ((s.size : Int) = N)

set_option maxRecDepth 100000 in
set_option maxHeartbeats 1000000 in
theorem mrPrizes_any (s : ByteArray) (N : Int) (w : World) (hN : -1000 ≤ N ∧ N ≤ 1000) :
    Calls Try.prog 53 #[.string s, .int .i64 N] w (SameB (prB s N) w) := by
  by_cases hs : (s.size : Int) = N
  · have E : Hid (prB s N = ltrB s) := by show prB s N = ltrB s; unfold prB; rw [decide_eq_true hs]; simp
    subst hs
    rw [E.out]
    clear E
    go_enter Try.func53, Try.ntmps53
    go_wp2
    go_loopw [5] (fun i wr => ∃ k : Nat, k ≤ s.size ∧ i = .int .i64 (k : Int) ∧ wr = w ∧ ∀ j, j < k → 97 ≤ bg s j ∧ bg s j ≤ 122) (fun i _ => s.size - (intOf i).toNat)
    case atStart => exact ⟨0, Nat.zero_le _, rfl, rfl, fun j hj => absurd hj (by omega)⟩
    case round =>
      obtain ⟨k, hk, rfl, rfl, hall⟩ := hrel
      have HALL := Lib.hid hall
      clear hall
      by_cases hlt : k < s.size
      · have hbg := bg_at hlt
        obtain ⟨b, hb⟩ : ∃ b, b = bg s k := ⟨_, rfl⟩
        rw [← hb] at hbg
        have HBB := Lib.hid hb
        clear hb
        by_cases h1 : b < 97
        · have HNO := Lib.hid (ltrB_no hlt (by rw [← HBB.out]; omega))
          go_wp2
          go_ret
          exact ⟨ret_b HNO.out.symm, rfl⟩
        · have h1' : 97 ≤ b := by omega
          clear h1
          by_cases h2 : 122 < b
          · have HNO := Lib.hid (ltrB_no hlt (by rw [← HBB.out]; omega))
            go_wp2
            go_ret
            exact ⟨ret_b HNO.out.symm, rfl⟩
          · have h2' : b ≤ 122 := by omega
            clear h2
            go_wp2
            go_roundw
            case rel =>
              refine ⟨k + 1, by omega, by go_num, by first | rfl | trivial, fun j hj => ?_⟩
              by_cases e : j = k
              · subst e; rw [← HBB.out]; exact ⟨h1', h2'⟩
              · exact HALL.out j (by omega)
            case measure => simp [intOf]; omega
      · obtain rfl : k = s.size := by omega
        have HY := Lib.hid (ltrB_iff.2 HALL.out)
        go_wp2
        go_ret
        exact ⟨ret_b HY.out.symm, rfl⟩
  · have E : Hid (prB s N = false) := by show prB s N = false; unfold prB; rw [decide_eq_false hs]; simp
    rw [E.out]
    have hne : ((s.size : Int) != N) = true := by rw [bne_iff_ne]; exact hs
    go_enter Try.func53, Try.ntmps53
    go_wp2
    go_ret
    exact ⟨rfl, rfl⟩
end Go.Proofs.Ythalcjgpjagcoaa

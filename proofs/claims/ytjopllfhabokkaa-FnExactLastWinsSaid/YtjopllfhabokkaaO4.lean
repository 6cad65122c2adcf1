/- The contracts of BackOrder, of the program and of its model. -/
import Derived.Test.YtjopllfhabokkaaMgG
import Derived.Test.YtjopllfhabokkaaMgD
import Derived.Test.YtjopllfhabokkaaMgC
namespace Go.Proofs.Ytjopllfhabokkaa
open Go Go.RowKit

/-- what the first k places have left at j -/
def backAt (zs : List Int) : Nat → Nat → Int
  | 0, _ => 0
  | k + 1, j => if gi zs k = (j : Int) then (k : Int) else backAt zs k j
def back (zs : List Int) : List Int := (List.range zs.length).map fun (j : Nat) => backAt zs zs.length j
theorem back_length (zs : List Int) : (back zs).length = zs.length := by simp [back]
theorem gi_back (zs : List Int) (j : Nat) (h : j < zs.length) : gi (back zs) j = backAt zs zs.length j := by
  rw [gi_lt (by rw [back_length]; exact h)]; simp [back]
def backN (zs : List Int) : List Int := if ord zs = true then back zs else []
theorem backN_yes {zs : List Int} (h : ord zs = true) : backN zs = back zs := by unfold backN; rw [if_pos h]
theorem backN_no {zs : List Int} (h : ord zs = false) : backN zs = [] := by unfold backN; rw [h]; rfl
theorem backN_len (zs : List Int) : (backN zs).length ≤ 1000 := by
  rcases h : ord zs with _ | _
  · rw [backN_no h]; simp
  · rw [backN_yes h, back_length]
    have := (ord_iff.1 h).2.1
    omega
theorem ord_at {zs : List Int} (h : ord zs = true) {j : Nat} (hj : j < zs.length) : 0 ≤ gi zs j ∧ gi zs j < zs.length := (ord_iff.1 h).2.2.1 _ (mem_gi.2 ⟨j, hj, rfl⟩)

set_option maxHeartbeats 400000 in
theorem laBack_any (A : Option Addr) (n c : Nat) (zs : List Int) (w : World) (h : RI w A n zs) (hn : n ≤ 1048576) (hq : ord zs = true) :
    Calls Try.prog 48 #[.slice A n c] w (FreshI w n (back zs)) := by
  have hl := h.1
  have HW := Lib.hid hq
  have hmk := run_make_row' (P := Try.prog) 22 3 (.int .i64 0) 8 Try.underlying22 infoInt rfl .i64 .i64 n (by omega) (by omega)
  clear hq
  go_enter Try.func48, Try.ntmps48
  go_wp2
  go_loopw [4, 5, 11] (fun _ _ i wr => ∃ k : Nat, k ≤ n ∧ i = .int .i64 k ∧ wr.rowIs w.heap.size 3 n (fun j => .int .i64 (backAt zs k j)) ∧ Below w.heap.size w wr) (fun _ _ i _ => n - (intOf i).toNat)
  case atStart =>
    refine ⟨0, Nat.zero_le _, rfl, (World.rowIs_made w (.int .i64 0) n 3).congr (fun j _ => by simp [backAt]), (Below.refl _ _).alloc (Nat.le_refl _) _⟩
  case round =>
    obtain ⟨k, hk, rfl, hrow, hb⟩ := hrel
    have HR := Lib.hid hrow
    have HB := Lib.hid hb
    by_cases hlt : k < n
    · obtain ⟨b, off, rfl, hbw, hc⟩ := h.cell hlt
      have hck : wr.cell? ⟨b, off + k, none⟩ = some (.int .i64 (gi zs k)) := (hb.cell (p := ⟨b, off + k, none⟩) hbw).trans (hc k hlt)
      obtain ⟨p, hp⟩ : ∃ p : Nat, gi zs k = (p : Int) := ⟨(gi zs k).toNat, by have := ord_at HW.out (j := k) (by omega); omega⟩
      have hpn : p < n := by have := ord_at HW.out (j := k) (by omega); omega
      have hd := hrow.cell hpn
      have hf := hrow.frozen p
      have HP := Lib.hid hp
      rw [hp] at hck
      clear hrow hb hc hmk hp h
      go_wp2
      go_roundw
      case rel =>
        refine ⟨k + 1, by omega, by go_num, (HR.out.set p _).congr (fun j hj => ?_), HB.out.setCell (by simp) _⟩
        simp only [backAt]
        rw [HP.out]
        by_cases e : j = p
        · simp [e]
        · simp [e, show ¬ ((p : Int) = (j : Int)) by omega]
      case measure => simp [intOf]; omega
    · obtain rfl : k = n := by omega
      clear hrow hb hmk
      go_wp2
      go_ret
      refine ⟨_, _, rfl, OI.of_rowIs (Nat.le_refl _) HR.out (by simp only [maxLen]; omega) (by rw [back_length]; exact hl) (fun j hj => by rw [gi_back _ _ (by omega), hl]), HB.out⟩

end Go.Proofs.Ytjopllfhabokkaa

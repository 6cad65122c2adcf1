/- The draws of orders: a list of so many numbers in new memory, and the cursor goes on. -/
import Derived.Test.YtgeeifjbfceogaaGreatDoorCu1
import Derived.Test.YtgeeifjbfceogaaGreatDoorMgE
import Derived.Test.YtgeeifjbfceogaaGreatDoorMgD
import Derived.Test.YtgeeifjbfceogaaGreatDoorMgB
namespace Go.Proofs.YtgeeifjbfceogaaGreatDoor
open Go Go.RowKit

/-- a list in new memory, and the cursor goes on -/
def DrawnI (w : World) (b : Nat) (A : Option Addr) (n c : Nat) (bs : List Int) (k : Nat) (m : Nat) (e : Ending) (w' : World) : Prop :=
  ∃ (zs : List Int) (A2 : Option Addr) (n2 c2 : Nat), e = .returned (.slice A2 n2 c2) ∧ n2 ≤ m ∧ OI w' w.heap.size A2 n2 c2 zs ∧ Cur w' b A n c bs k ∧ w.grownBy w' (some b)

/-- a list of just so many numbers in new memory, and the cursor goes on -/
def DrawnE (w : World) (b : Nat) (A : Option Addr) (n c : Nat) (bs : List Int) (k : Nat) (m : Nat) (e : Ending) (w' : World) : Prop :=
  ∃ (zs : List Int) (A2 : Option Addr) (c2 : Nat), e = .returned (.slice A2 m c2) ∧ OI w' w.heap.size A2 m c2 zs ∧ Cur w' b A n c bs k ∧ w.grownBy w' (some b)

theorem RI.empC (w : World) (A : Option Addr) : RI w A 0 [] := ⟨rfl, fun h => absurd h (by omega)⟩
theorem RI.dropC {w : World} {g n : Nat} {zs : List Int} (h : RI w (some ⟨g, 0, none⟩) n zs) {k : Nat} (hk : k ≤ n) : RI w (some ⟨g, k, none⟩) (n - k) (zs.drop k) := by
  refine ⟨by rw [List.length_drop, h.1], fun h0 => ?_⟩
  obtain ⟨b', off', e, hb, hc⟩ := h.2 (by omega)
  injection e with e; injection e with e1 e2 e3
  subst e1 e2
  refine ⟨g, k, rfl, hb, fun j hj => ?_⟩
  have := hc (k + j) (by omega)
  rw [Nat.zero_add] at this
  rw [this, gi_lt (by rw [h.1]; omega), gi_lt (by rw [List.length_drop, h.1]; omega)]
  simp
theorem RI.singC (w : World) (z : Int) : RI (w.alloc (.cells #[.int .i64 z] 3)) (some ⟨w.heap.size, 0, none⟩) 1 [z] :=
  ⟨rfl, fun _ => ⟨w.heap.size, 0, rfl, by simp, fun j hj => by
    obtain rfl : j = 0 := by omega
    show _ = some (Value.int .i64 z)
    simp⟩⟩
/-- one of the call's own rows grows: below, the cursor's block alone may have changed -/
theorem grownOwn {w w1 w2 : World} {b K : Nat} {A : Option Addr} {n c : Nat} {zs : List Int} (h1 : w.grownBy w1 (some b)) (ho : OI w1 K A n c zs) (hK : w.heap.size ≤ K) (h2 : w1.grownBy w2 (blk A)) : w.grownBy w2 (some b) :=
  ⟨h2.os.trans h1.os, h2.tape.trans h1.tape, h2.output.trans h1.output, Nat.le_trans h1.size h2.size, fun i hi hne =>
    (h2.block i (Nat.lt_of_lt_of_le hi h1.size) (fun e => by have := (ho.blk i e.symm).1; omega)).trans (h1.block i hi hne)⟩
theorem Cur.grownOwn {w1 w2 : World} {b K : Nat} {A A0 : Option Addr} {n n0 c c0 k : Nat} {zs bs : List Int} (h : Cur w1 b A0 n0 c0 bs k) (ho : OI w1 K A n c zs) (hK : b < K) (hA : ∀ x, blk A0 = some x → 0 < n0 → x < K) (h2 : w1.grownBy w2 (blk A)) : Cur w2 b A0 n0 c0 bs k :=
  h.grown h2 (fun e => by have := (ho.blk b e).1; omega) (fun hn e => by
    rcases hx : blk A with _ | x
    · obtain ⟨g, off, rfl, _⟩ := h.bi.2.2 hn
      rw [hx] at e; simp [blk] at e
    · rw [hx] at e
      have h3 := hA x e.symm hn
      have h4 := (ho.blk x hx).1
      omega)
/-- the bytes lie below -/
theorem Cur.low {w : World} {b : Nat} {A : Option Addr} {n c k : Nat} {bs : List Int} (h : Cur w b A n c bs k) : ∀ x, blk A = some x → 0 < n → x < w.heap.size := by
  intro x hx hn
  obtain ⟨g, off, rfl, hg, _⟩ := h.bi.2.2 hn
  simp [blk] at hx
  omega

end Go.Proofs.YtgeeifjbfceogaaGreatDoor

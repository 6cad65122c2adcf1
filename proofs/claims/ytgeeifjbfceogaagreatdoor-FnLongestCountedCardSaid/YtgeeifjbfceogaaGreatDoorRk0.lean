/- How many least ladders begin with rungs before one. -/
import Derived.Test.YtgeeifjbfceogaaGreatDoorCf1
namespace Go.Proofs.YtgeeifjbfceogaaGreatDoor
open Go Go.RowKit

def psK (q : List Int) : Nat → Nat
  | 0 => 0
  | k + 1 => psK q k + cfI q k
def rkF : List Int → List Int → Nat → Nat
  | _, [], acc => acc
  | q, r :: rs, acc => rkF (exch q r.toNat) rs (acc + psK q r.toNat)
theorem cfI_small {q : List Int} (h : q.length ≤ 6) (i : Nat) : cfI q i ≤ 30517578125 := by
  unfold cfI
  split
  · omega
  · exact cnt_small (by rw [exch_length]; exact h)
theorem psK_small {q : List Int} (h : q.length ≤ 6) : ∀ k, psK q k ≤ k * 30517578125
  | 0 => by simp [psK]
  | k + 1 => by
    have := psK_small h k
    have := cfI_small h k
    simp only [psK]
    omega
theorem cfI_yes {q : List Int} {i : Nat} (h : gi q (i + 1) < gi q i) : cfI q i = cnt (exch q i) := by
  unfold cfI
  rw [if_neg (by omega)]
theorem cfI_no {q : List Int} (ho : ord q = true) {i : Nat} (hi : i + 1 < q.length) (h : ¬ gi q (i + 1) < gi q i) : cfI q i = 0 := by
  have := nodup_gi.1 (ord_iff.1 ho).2.2.2 i (i + 1) (Nat.lt_succ_self _) hi
  unfold cfI
  rw [if_pos (by omega)]
theorem rkF_cons (q : List Int) (r : Int) (rs : List Int) (acc : Nat) : rkF q (r :: rs) acc = rkF (exch q r.toNat) rs (acc + psK q r.toNat) := rfl
theorem OKp.cg {n : Nat} {q : List Int} (h : OKp n q) (h2 : 2 ≤ n) (h6 : n ≤ 6) : Go.Proofs.YtgeeifjbfceogaaGreatDoor.cg q = true := cg_iff.2 ⟨h.1, by rw [h.2]; exact h2, by rw [h.2]; exact h6⟩
theorem OKp.cfQ {n : Nat} {q : List Int} (h : OKp n q) (h2 : 2 ≤ n) (h6 : n ≤ 6) {j : Nat} (hj : j + 1 < n) : Go.Proofs.YtgeeifjbfceogaaGreatDoor.cfQ q (j : Int) = true := by
  unfold Go.Proofs.YtgeeifjbfceogaaGreatDoor.cfQ
  rw [h.cg h2 h6, h.2]
  unfold inB
  rw [decide_eq_true (by omega)]
  rfl

end Go.Proofs.YtgeeifjbfceogaaGreatDoor

/- Passes over a list: the mathematics, and passOver. -/
import Derived.Test.YthalcjgpjagcoaaMgC
import Derived.Test.YthalcjgpjagcoaaMgJ
import Derived.Test.YthalcjgpjagcoaaSo7
import Derived.Test.YthalcjgpjagcoaaMgD
import Derived.Test.YthalcjgpjagcoaaMgB
import Derived.IntWalk
import Derived.BigRegion
namespace Go.Proofs.Ythalcjgpjagcoaa
open Go Go.RowKit

/-- a list behind the first k comparisons of a pass -/
def psK (l : List Int) : Nat → List Int
  | 0 => l
  | k + 1 => if gi (psK l k) (k + 1) < gi (psK l k) k then exch (psK l k) k else psK l k
def pcK (l : List Int) : Nat → Bool
  | 0 => false
  | k + 1 => pcK l k || decide (gi (psK l k) (k + 1) < gi (psK l k) k)
theorem psK_len (l : List Int) : ∀ k, (psK l k).length = l.length
  | 0 => rfl
  | k + 1 => by
    simp only [psK]
    split
    · rw [exch_length, psK_len l k]
    · exact psK_len l k
theorem psK_inv (l : List Int) : ∀ k, k + 1 ≤ l.length → ninv (psK l k) ≤ ninv l ∧ (pcK l k = true → ninv (psK l k) < ninv l) ∧ (pcK l k = false → psK l k = l)
  | 0, _ => ⟨Nat.le_refl _, by simp [pcK], fun _ => rfl⟩
  | k + 1, h => by
    obtain ⟨h1, h2, h3⟩ := psK_inv l k (by omega)
    simp only [psK, pcK]
    by_cases hd : gi (psK l k) (k + 1) < gi (psK l k) k
    · have := ninv_exch (psK l k) k (by rw [psK_len]; omega) hd
      rw [if_pos hd]
      exact ⟨by omega, fun _ => by omega, by simp [hd]⟩
    · rw [if_neg hd]
      simp only [hd, decide_false, Bool.or_false]
      exact ⟨h1, h2, h3⟩
def passL (l : List Int) : List Int := psK l (l.length - 1)
def passB (l : List Int) : Bool := pcK l (l.length - 1)
theorem passL_len (l : List Int) : (passL l).length = l.length := psK_len _ _
theorem pass_less {l : List Int} (h : passB l = true) : ninv (passL l) < ninv l := by
  by_cases hl : l.length = 0
  · unfold passB at h; rw [hl] at h; simp [pcK] at h
  · exact (psK_inv l _ (by omega)).2.1 h
/-- how many passes change something -/
def pasF : Nat → List Int → Nat
  | 0, _ => 0
  | f + 1, l => if passB l = true then pasF f (passL l) + 1 else 0
theorem pasF_same : ∀ (f g : Nat) (l : List Int), ninv l ≤ f → ninv l ≤ g → pasF f l = pasF g l
  | 0, 0, _, _, _ => rfl
  | 0, g + 1, l, h, _ => by
    have : passB l = false := by rw [← Bool.not_eq_true]; intro e; have := pass_less e; omega
    simp [pasF, this]
  | f + 1, 0, l, _, h => by
    have : passB l = false := by rw [← Bool.not_eq_true]; intro e; have := pass_less e; omega
    simp [pasF, this]
  | f + 1, g + 1, l, h1, h2 => by
    simp only [pasF]
    by_cases e : passB l = true
    · have := pass_less e
      rw [if_pos e, if_pos e, pasF_same f g (passL l) (by omega) (by omega)]
    · rw [if_neg e, if_neg e]
def pasN (l : List Int) : Nat := pasF (ninv l) l
theorem pasN_yes {l : List Int} (h : passB l = true) : pasN l = pasN (passL l) + 1 := by
  have h1 := pass_less h
  unfold pasN
  obtain ⟨f, hf⟩ : ∃ f, ninv l = f + 1 := ⟨ninv l - 1, by omega⟩
  rw [hf]
  simp only [pasF]
  rw [if_pos h, pasF_same f (ninv (passL l)) _ (by omega) (Nat.le_refl _)]
theorem pasN_no {l : List Int} (h : passB l = false) : pasN l = 0 := by
  unfold pasN
  cases ninv l with
  | zero => rfl
  | succ f => simp [pasF, h]
theorem ninv_100 {l : List Int} (h : l.length ≤ 100) : ninv l ≤ 5000 := by
  have h1 := ninv_le l
  have : l.length * (l.length - 1) ≤ 100 * 99 := Nat.mul_le_mul h (by omega)
  omega
theorem set_self {l : List Int} {k : Nat} (h : k + 1 < l.length) : (l.set k (gi l k)).set (k + 1) (gi l (k + 1)) = l := by
  have e1 : l.set k (gi l k) = l := by rw [gi_lt (by omega)]; exact List.set_getElem_self _
  rw [e1, gi_lt h]
  exact List.set_getElem_self _

def RetBO (B : Nat) (A : Option Addr) (n c : Nat) (b : Bool) (zs : List Int) (w : World) (e : Ending) (w' : World) : Prop :=
  e = .returned (.bool b) ∧ OI w' B A n c zs ∧ Below B w w'

end Go.Proofs.Ythalcjgpjagcoaa

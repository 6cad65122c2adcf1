/- Passes over a list: the mathematics, and passOver. -/
import Derived.Test.YtamkkmjldkhicaaMgC
import Derived.Test.YtamkkmjldkhicaaMgJ
import Derived.Test.YtamkkmjldkhicaaSo7
import Derived.Test.YtamkkmjldkhicaaMgD
import Derived.Test.YtamkkmjldkhicaaMgB
import Derived.IntWalk
import Derived.BigRegion
namespace Go.Proofs.Ytamkkmjldkhicaa
open Go Go.RowKit

/-- a list behind the first k comparisons of a pass -/
def psK (l : List Int) : Nat → List Int
  | 0 => l
  | k + 1 => if gi (psK l k) (k + 1) < gi (psK l k) k then exch (psK l k) k else psK l k
def pcK (l : List Int) : Nat → Bool
  | 0 => false
  | k + 1 => pcK l k || decide (gi (psK l k) (k + 1) < gi (psK l k) k)
theorem psK_len (l : List Int) : ∀ k, (psK l k).length = l.length
  | 0 => rfl
  | k + 1 => by
    simp only [psK]
    split
    · rw [exch_length, psK_len l k]
    · exact psK_len l k
theorem psK_inv (l : List Int) : ∀ k, k + 1 ≤ l.length → ninv (psK l k) ≤ ninv l ∧ (pcK l k = true → ninv (psK l k) < ninv l) ∧ (pcK l k = false → psK l k = l)
  | 0, _ => ⟨Nat.le_refl _, by simp [pcK], fun _ => rfl⟩
  | k + 1, h => by
    obtain ⟨h1, h2, h3⟩ := psK_inv l k (by omega)
    simp only [psK, pcK]
    by_cases hd : gi (psK l k) (k + 1) < gi (psK l k) k
    · have := ninv_exch (psK l k) k (by rw [psK_len]; omega) hd
      rw [if_pos hd]
      exact ⟨by omega, fun _ => by omega, by simp [hd]⟩
    · rw [if_neg hd]
      simp only [hd, decide_false, Bool.or_false]
      exact ⟨h1, h2, h3⟩
def passL (l : List Int) : List Int := psK l (l.length - 1)
def passB (l : List Int) : Bool := pcK l (l.length - 1)
theorem passL_len (l : List Int) : (passL l).length = l.length := psK_len _ _
theorem pass_less {l : List Int} (h : passB l = true) : ninv (passL l) < ninv l := by
  by_cases hl : l.length = 0
  · unfold passB at h; rw [hl] at h; simp [pcK] at h
  · exact (psK_inv l _ (by omega)).2.1 h
/-- how many passes change something -/
def pasF : Nat → List Int → Nat
  | 0, _ => 0
  | f + 1, l => if passB l = true then pasF f (passL l) + 1 else 0
theorem pasF_same : ∀ (f g : Nat) (l : List Int), ninv l ≤ f → ninv l ≤ g → pasF f l = pasF g l
  | 0, 0, _, _, _ => rfl
  | 0, g + 1, l, h, _ => by
    have : passB l = false := by rw [← Bool.not_eq_true]; intro e; have := pass_less e; omega
    simp [pasF, this]
  | f + 1, 0, l, _, h => by
    have : passB l = false := by rw [← Bool.not_eq_true]; intro e; have := pass_less e; omega
    simp [pasF, this]
  | f + 1, g + 1, l, h1, h2 => by
    simp only [pasF]
    by_cases e : passB l = true
    · have := pass_less e
      rw [if_pos e, if_pos e, pasF_same f g (passL l) (by omega) (by omega)]
    · rw [if_neg e, if_neg e]
def pasN (l : List Int) : Nat := pasF (ninv l) l
theorem pasN_yes {l : List Int} (h : passB l = true) : pasN l = pasN (passL l) + 1 := by
  have h1 := pass_less h
  unfold pasN
  obtain ⟨f, hf⟩ : ∃ f, ninv l = f + 1 := ⟨ninv l - 1, by omega⟩
  rw [hf]
  simp only [pasF]
  rw [if_pos h, pasF_same f (ninv (passL l)) _ (by omega) (Nat.le_refl _)]
theorem pasN_no {l : List Int} (h : passB l = false) : pasN l = 0 := by
  unfold pasN
  cases ninv l with
  | zero => rfl
  | succ f => simp [pasF, h]
theorem ninv_100 {l : List Int} (h : l.length ≤ 100) : ninv l ≤ 5000 := by
  have h1 := ninv_le l
  have : l.length * (l.length - 1) ≤ 100 * 99 := Nat.mul_le_mul h (by omega)
  omega
theorem set_self {l : List Int} {k : Nat} (h : k + 1 < l.length) : (l.set k (gi l k)).set (k + 1) (gi l (k + 1)) = l := by
  have e1 : l.set k (gi l k) = l := by rw [gi_lt (by omega)]; exact List.set_getElem_self _
  rw [e1, gi_lt h]
  exact List.set_getElem_self _

def RetBO (B : Nat) (A : Option Addr) (n c : Nat) (b : Bool) (zs : List Int) (w : World) (e : Ending) (w' : World) : Prop :=
  e = .returned (.bool b) ∧ OI w' B A n c zs ∧ Below B w w'

set_option maxRecDepth 100000 in
set_option maxHeartbeats 1000000 in
theorem passOver_any (A : Option Addr) (n c B : Nat) (zs : List Int) (w : World) (h : OI w B A n c zs) (hn : n ≤ 100) :
    Calls Try.prog 59 #[.slice A n c] w (RetBO B A n c (passB zs) (passL zs) w) := by
  have hl := h.ri.1
  by_cases hn0 : n = 0
  · subst hn0
    have e1 : passL zs = zs := by unfold passL; rw [hl]; rfl
    have e2 : passB zs = false := by unfold passB; rw [hl]; rfl
    rw [e1, e2]
    have HH := Lib.hid h
    clear h
    go_enter Try.func59, Try.ntmps59
    go_wp2
    go_loopw [3, 4, 9] (fun s3 _ i wr => s3 = .bool false ∧ i = .int .i64 0 ∧ wr = w) (fun _ _ i _ => 0)
    case atStart => exact ⟨rfl, rfl, rfl⟩
    case round =>
      obtain ⟨rfl, rfl, rfl⟩ := hrel
      go_wp2
      go_ret
      exact ⟨rfl, HH.out, Below.refl _ _⟩
  · obtain ⟨m, rfl⟩ : ∃ m, n = m + 1 := ⟨n - 1, by omega⟩
    obtain ⟨g, rfl, hg, hgw, -⟩ := h.some_
    unfold passL passB
    rw [hl]
    have HH := Lib.hid h
    clear h
    go_enter Try.func59, Try.ntmps59
    go_wp2
    go_loopw [3, 4, 9] (fun s3 _ i wr => ∃ k : Nat, k ≤ m ∧ s3 = .bool (pcK zs k) ∧ i = .int .i64 (k : Int) ∧ OI wr B (some ⟨g, 0, none⟩) (m + 1) c (psK zs k) ∧ Below B w wr) (fun _ _ i _ => m - (intOf i).toNat)
    case atStart => exact ⟨0, Nat.zero_le _, rfl, rfl, HH.out, Below.refl _ _⟩
    case round =>
      obtain ⟨k, hk, rfl, rfl, ho, hb⟩ := hrel
      have HO := Lib.hid ho
      have HB := Lib.hid hb
      by_cases hlk : k < m
      · have hpl := psK_len zs k
        have hc0 := ho.cells k (by omega)
        have hc1 := ho.cells (k + 1) (by omega)
        have fk := ho.2.frozenAt k
        have fk1 := ho.2.frozenAt (k + 1)
        obtain ⟨l, hll⟩ : ∃ l, l = psK zs k := ⟨_, rfl⟩
        rw [← hll] at hc0 hc1 HO hpl
        have HLL := Lib.hid hll
        obtain ⟨q, hq⟩ : ∃ q, q = pcK zs k := ⟨_, rfl⟩
        rw [← hq]
        have HQ := Lib.hid hq
        obtain ⟨x, hx⟩ : ∃ x, x = gi l k := ⟨_, rfl⟩
        obtain ⟨y, hy⟩ : ∃ y, y = gi l (k + 1) := ⟨_, rfl⟩
        rw [← hx] at hc0
        rw [← hy] at hc1
        have HX := Lib.hid hx
        have HY := Lib.hid hy
        clear ho hb hx hy hq hll
        have HS := Lib.hid (show B ≤ wr.heap.size from Nat.le_trans hg (Nat.le_of_lt (by have := HB.out.size; omega)))
        by_cases hd : y < x
        · have HI := Lib.hid (fun w2 => inOrder_yes x y w2 hd)
          have HP : Hid (pcK zs (k + 1) = true) := Lib.hid (by simp only [pcK]; rw [← HLL.out, ← HX.out, ← HY.out]; simp [hd])
          have HE : Hid (psK zs (k + 1) = (l.set k y).set (k + 1) x) := Lib.hid (by simp only [psK]; rw [← HLL.out, ← HX.out, ← HY.out, if_pos hd]; unfold exch; rw [← HX.out, ← HY.out])
          clear hd
          have e0 : (0 : Int) ≤ (k : Int) := by omega
          have e1 : (k : Int) < (m : Int) + 1 := by omega
          have e2 : (0 : Int) ≤ (k : Int) + 1 := by omega
          have e3 : (k : Int) + 1 < (m : Int) + 1 := by omega
          have e4 : ((k : Int) + 1).toNat = k + 1 := by omega
          have e5 : IntKind.i64.wrap ((k : Int) + 1) = (k : Int) + 1 := IntWalk.i64_in _ (by omega)
          go_wp2_with fail
          go_region_with (go_at_call 81; refine (HI.out _).mono ?_; rintro e w6 ⟨rfl, rfl⟩)
          clear e0 e1 e2 e3 e4 e5
          all_goals
            cases q
            all_goals
              go_wp2
              go_roundw
              case rel => exact ⟨k + 1, by omega, by rw [HP.out], by go_num, by rw [HE.out]; exact (((HO.out.stored k y).stored (k + 1) x).drewN 1), ((HB.out.setCell hg _).setCell hg _).drew⟩
              case measure => simp [intOf]; omega
        · have HI := Lib.hid (fun w2 => inOrder_no x y w2 hd)
          have HP : Hid (pcK zs (k + 1) = q) := Lib.hid (by simp only [pcK]; rw [← HLL.out, ← HX.out, ← HY.out, ← HQ.out]; simp [hd])
          have HE : Hid (psK zs (k + 1) = (l.set k x).set (k + 1) y) := Lib.hid (by simp only [psK]; rw [← HLL.out, ← HX.out, ← HY.out, if_neg hd, HX.out, HY.out]; exact (set_self (by omega)).symm)
          clear hd
          have e0 : (0 : Int) ≤ (k : Int) := by omega
          have e1 : (k : Int) < (m : Int) + 1 := by omega
          have e2 : (0 : Int) ≤ (k : Int) + 1 := by omega
          have e3 : (k : Int) + 1 < (m : Int) + 1 := by omega
          have e4 : ((k : Int) + 1).toNat = k + 1 := by omega
          have e5 : IntKind.i64.wrap ((k : Int) + 1) = (k : Int) + 1 := IntWalk.i64_in _ (by omega)
          go_wp2_with fail
          go_region_with (go_at_call 81; refine (HI.out _).mono ?_; rintro e w6 ⟨rfl, rfl⟩)
          clear e0 e1 e2 e3 e4 e5
          all_goals
            cases q
            all_goals
              go_wp2
              go_roundw
              case rel => exact ⟨k + 1, by omega, by rw [HP.out], by go_num, by rw [HE.out]; exact (((HO.out.stored k x).stored (k + 1) y).drewN 1), ((HB.out.setCell hg _).setCell hg _).drew⟩
              case measure => simp [intOf]; omega
      · obtain rfl : k = m := by omega
        clear ho hb
        go_wp2
        go_ret
        exact ⟨rfl, HO.out, HB.out⟩
end Go.Proofs.Ytamkkmjldkhicaa

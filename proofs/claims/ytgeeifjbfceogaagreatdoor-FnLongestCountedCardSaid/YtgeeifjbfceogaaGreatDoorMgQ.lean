/- The first one of all lists that slides make of a list, taken by the least that can come to the top; the first two who meet twice: mathematics. The model's rungs of the first least ladder. The contracts of LeastLadder's and LongestLadder's models. The first least ladder of a list has as many rungs as the list has inversions: mathematics. -/
import Derived.Test.YtgeeifjbfceogaaGreatDoorMgA
import Derived.Test.YtgeeifjbfceogaaGreatDoorMgJ
import Derived.Test.YtgeeifjbfceogaaGreatDoorMgF
import Derived.Test.YtgeeifjbfceogaaGreatDoorMgE
import Derived.Test.YtgeeifjbfceogaaGreatDoorMgB
import Derived.Test.YtgeeifjbfceogaaGreatDoorMgG
namespace Go.Proofs.YtgeeifjbfceogaaGreatDoor
open Go Go.RowKit

/-- how far two numbers are apart -/
def far (a b : Int) : Bool := decide (2 ≤ a - b ∨ 2 ≤ b - a)
/-- all of the first m are far from r -/
def freeK (zs : List Int) (r : Int) : Nat → Bool
  | 0 => true
  | m + 1 => freeK zs r m && far (gi zs m) r
theorem freeK_no {zs : List Int} {r : Int} {i : Nat} : ∀ (m : Nat), i < m → far (gi zs i) r = false → freeK zs r m = false
  | 0, h, _ => absurd h (by omega)
  | m + 1, h, e => by
    simp only [freeK]
    by_cases h2 : i = m
    · subst h2; rw [e]; simp
    · rw [freeK_no m (by omega) e]; simp
/-- the least of the first k that can come to the top -/
def bst (zs : List Int) : Nat → Nat
  | 0 => 0
  | k + 1 => if freeK zs (gi zs k) k = true ∧ gi zs k < gi zs (bst zs k) then k else bst zs k
theorem bst_lt (zs : List Int) : ∀ (k : Nat), 0 < k → bst zs k < k
  | 0, h => absurd h (by omega)
  | k + 1, _ => by
    simp only [bst]
    split
    · omega
    · rcases Nat.eq_zero_or_pos k with h | h
      · subst h; simp [bst]
      · have := bst_lt zs k h; omega
theorem bst_one (zs : List Int) : bst zs 1 = 0 := by simp [bst]
def nrmF : Nat → List Int → List Int
  | 0, _ => []
  | f + 1, zs => gi zs (bst zs zs.length) :: nrmF f (zs.eraseIdx (bst zs zs.length))
def nrm (zs : List Int) : List Int := nrmF zs.length zs
theorem nrmF_len : ∀ (f : Nat) (zs : List Int), (nrmF f zs).length = f
  | 0, _ => rfl
  | f + 1, zs => by simp [nrmF, nrmF_len f]
theorem nrm_len (zs : List Int) : (nrm zs).length = zs.length := nrmF_len _ _
/-- what is taken already, and what is left -/
structure NRel (zs out left : List Int) (f : Nat) : Prop where
  eq : out ++ nrmF f left = nrm zs
  len : left.length = f
  cnt : out.length + f = zs.length
  sub : ∀ x ∈ left, x ∈ zs
theorem NRel.start (zs : List Int) : NRel zs [] zs zs.length := ⟨rfl, rfl, by simp, fun _ h => h⟩
theorem NRel.stop {zs out left : List Int} (h : NRel zs out left 0) : out = nrm zs := by
  have := h.eq
  simpa [nrmF] using this
theorem NRel.step {zs out left : List Int} {f : Nat} (h : NRel zs out left (f + 1)) : NRel zs (out ++ [gi left (bst left left.length)]) (left.eraseIdx (bst left left.length)) f := by
  have hb := bst_lt left left.length (by have := h.len; omega)
  refine ⟨?_, by rw [List.length_eraseIdx, if_pos hb]; have := h.len; omega, by have := h.cnt; simp; omega, fun x hx => h.sub x (List.mem_of_mem_eraseIdx hx)⟩
  rw [← h.eq]
  simp [nrmF]

/-- the first b behind a of whom M tells, among m -/
def twB (M : Nat → Nat → Bool) (a : Nat) : Nat → Option (Nat × Nat)
  | 0 => none
  | m + 1 => match twB M a m with
    | some x => some x
    | none => if M a (a + 1 + m) = true then some (a, a + 1 + m) else none
def twA (M : Nat → Nat → Bool) (W : Nat) : Nat → Option (Nat × Nat)
  | 0 => none
  | k + 1 => match twA M W k with
    | some x => some x
    | none => twB M k (W - (k + 1))
theorem twB_no {M : Nat → Nat → Bool} {a m : Nat} (h : twB M a m = none) (hn : M a (a + 1 + m) = false) : twB M a (m + 1) = none := by
  simp [twB, h, hn]
theorem twB_mono {M : Nat → Nat → Bool} {a m : Nat} {x : Nat × Nat} (h : twB M a m = some x) : ∀ (j : Nat), twB M a (m + j) = some x
  | 0 => h
  | j + 1 => by
    have := twB_mono h j
    rw [← Nat.add_assoc]
    simp [twB, this]
theorem twA_mono {M : Nat → Nat → Bool} {W k : Nat} {x : Nat × Nat} (h : twA M W k = some x) : ∀ (j : Nat), twA M W (k + j) = some x
  | 0 => h
  | j + 1 => by
    have := twA_mono h j
    rw [← Nat.add_assoc]
    simp [twA, this]
theorem twA_no {M : Nat → Nat → Bool} {W k : Nat} (h : twA M W k = none) (hn : twB M k (W - (k + 1)) = none) : twA M W (k + 1) = none := by
  simp [twA, h, hn]
theorem tw_found {M : Nat → Nat → Bool} {W k m : Nat} (h : twA M W k = none) (hb : twB M k m = none) (hm : k + 1 + m < W) (hM : M k (k + 1 + m) = true) : twA M W W = some (k, k + 1 + m) := by
  have h1 : twB M k (m + 1) = some (k, k + 1 + m) := by simp [twB, hb, hM]
  have h2 := twB_mono h1 (W - (k + 1) - (m + 1))
  have e : m + 1 + (W - (k + 1) - (m + 1)) = W - (k + 1) := by omega
  rw [e] at h2
  have h3 : twA M W (k + 1) = some (k, k + 1 + m) := by simp [twA, h, h2]
  have h4 := twA_mono h3 (W - (k + 1))
  have e2 : k + 1 + (W - (k + 1)) = W := by omega
  rwa [e2] at h4

/-! what moves make of a list -/
def nigh (a b : Int) : Bool := decide (a - b = 1 ∨ b - a = 1)
def sldOk (zs : List Int) (at_ : Int) : Bool := decide (0 ≤ at_ ∧ at_ + 2 ≤ zs.length) && far (gi zs at_.toNat) (gi zs (at_.toNat + 1))
def flpOk (zs : List Int) (at_ : Int) : Bool := decide (0 ≤ at_ ∧ at_ + 3 ≤ zs.length) && (decide (gi zs at_.toNat = gi zs (at_.toNat + 2)) && nigh (gi zs at_.toNat) (gi zs (at_.toNat + 1)))
def drpOk (zs : List Int) (at_ : Int) : Bool := decide (0 ≤ at_ ∧ at_ + 2 ≤ zs.length) && decide (gi zs at_.toNat = gi zs (at_.toNat + 1))
def sldL (zs : List Int) (k : Nat) : List Int := (zs.set k (gi zs (k + 1))).set (k + 1) (gi zs k)
def flpL (zs : List Int) (k : Nat) : List Int := ((zs.set k (gi zs (k + 1))).set (k + 1) (gi zs k)).set (k + 2) (gi zs (k + 1))
def drpL (zs : List Int) (k : Nat) : List Int := zs.take k ++ zs.drop (k + 2)
theorem take_drop2 {zs : List Int} {k : Nat} (h : k + 2 ≤ zs.length) : zs = zs.take k ++ [gi zs k, gi zs (k + 1)] ++ zs.drop (k + 2) := by
  apply List.ext_getElem?
  intro j
  rcases Nat.lt_or_ge j k with h1 | h1
  · rw [List.append_assoc, List.getElem?_append_left (by simp; omega)]; simp [h1]
  · rcases Nat.lt_or_ge j (k + 2) with h2 | h2
    · rw [List.getElem?_append_left (by simp; omega), List.getElem?_append_right (by simp; omega)]
      have e : min k zs.length = k := by omega
      have : j = k ∨ j = k + 1 := by omega
      rcases this with rfl | rfl
      · simp only [List.length_take, e, Nat.sub_self]; rw [gi_lt (by omega)]; simp
      · simp only [List.length_take, e]; rw [gi_lt (show k + 1 < zs.length by omega)]; simp [show k + 1 - k = 1 by omega]
    · rw [List.getElem?_append_right (by simp; omega)]
      simp only [List.length_append, List.length_take, List.length_cons, List.length_nil, List.getElem?_drop]
      congr 1; omega
theorem sldL_cat {zs : List Int} {k : Nat} (h : k + 2 ≤ zs.length) : sldL zs k = zs.take k ++ [gi zs (k + 1), gi zs k] ++ zs.drop (k + 2) := by
  have hl : (zs.take k).length = k := by simp; omega
  unfold sldL
  conv => lhs; rw [take_drop2 h]
  have g0 : gi (zs.take k ++ [gi zs k, gi zs (k + 1)] ++ zs.drop (k + 2)) k = gi zs k := by rw [← take_drop2 h]
  have g1 : gi (zs.take k ++ [gi zs k, gi zs (k + 1)] ++ zs.drop (k + 2)) (k + 1) = gi zs (k + 1) := by rw [← take_drop2 h]
  rw [g0, g1]
  rw [List.append_assoc, List.set_append_right _ _ (by omega), List.set_append_right _ _ (by omega), hl]
  simp
theorem take_drop3 {zs : List Int} {k : Nat} (h : k + 3 ≤ zs.length) : zs = zs.take k ++ [gi zs k, gi zs (k + 1), gi zs (k + 2)] ++ zs.drop (k + 3) := by
  have h1 := take_drop2 (zs := zs) (k := k) (by omega)
  have h2 : zs.drop (k + 2) = gi zs (k + 2) :: zs.drop (k + 3) := by rw [List.drop_eq_getElem_cons (by omega), gi_lt (by omega)]
  rw [h2] at h1
  simpa using h1
theorem flpL_cat {zs : List Int} {k : Nat} (h : k + 3 ≤ zs.length) : flpL zs k = zs.take k ++ [gi zs (k + 1), gi zs k, gi zs (k + 1)] ++ zs.drop (k + 3) := by
  have hl : (zs.take k).length = k := by simp; omega
  unfold flpL
  conv => lhs; rw [take_drop3 h]
  have g0 : gi (zs.take k ++ [gi zs k, gi zs (k + 1), gi zs (k + 2)] ++ zs.drop (k + 3)) k = gi zs k := by rw [← take_drop3 h]
  have g1 : gi (zs.take k ++ [gi zs k, gi zs (k + 1), gi zs (k + 2)] ++ zs.drop (k + 3)) (k + 1) = gi zs (k + 1) := by rw [← take_drop3 h]
  rw [g0, g1]
  rw [List.append_assoc, List.set_append_right _ _ (by omega), List.set_append_right _ _ (by omega), List.set_append_right _ _ (by omega), hl]
  simp [show k + 1 - k = 1 by omega, show k + 2 - k = 2 by omega]
theorem sldL_len (zs : List Int) (k : Nat) : (sldL zs k).length = zs.length := by simp [sldL]
theorem flpL_len (zs : List Int) (k : Nat) : (flpL zs k).length = zs.length := by simp [flpL]
end Go.Proofs.YtgeeifjbfceogaaGreatDoor
namespace Go.Proofs.YtgeeifjbfceogaaGreatDoor
open Go Go.RowKit

def lenOf2 : Value → Nat
  | .slice _ n _ => n
  | _ => 0
end Go.Proofs.YtgeeifjbfceogaaGreatDoor
namespace Go.Proofs.YtgeeifjbfceogaaGreatDoor
open Go Go.RowKit

theorem ord_in8 {zs : List Int} (h : ord zs = true) : Inn8 zs := by
  have h8 := (ord_iff.1 h).2.1
  refine ⟨h8, fun j hj => ?_⟩
  have := (ord_iff.1 h).2.2.1 _ (mem_gi.2 ⟨j, hj, rfl⟩)
  omega
/-- an order of at least two numbers -/
def leastB (zs : List Int) : Bool := ord zs && decide (2 ≤ zs.length)
theorem leastB_no1 {zs : List Int} (h : ord zs = false) : leastB zs = false := by simp [leastB, h]
theorem leastB_no2 {zs : List Int} (h : zs.length < 2) : leastB zs = false := by simp [leastB]; omega
theorem leastB_yes {zs : List Int} (h : ord zs = true) (h2 : 2 ≤ zs.length) : leastB zs = true := by simp [leastB, h, h2]
def leastL (zs : List Int) : List Int := ifL (leastB zs) (firstL zs)
def leastW (zs : List Int) : Int := ifW (leastB zs) zs.length
theorem leastL_len (zs : List Int) : (leastL zs).length ≤ 1000 := by
  unfold leastL
  rcases leastB zs with _ | _
  · rw [ifL_no]; simp
  · rw [ifL_yes]; have := firstL_len zs; omega
theorem leastN_no {zs : List Int} (h : leastB zs = false) : leastL zs = [] ∧ leastW zs = 0 := by unfold leastL leastW; rw [h]; exact ⟨rfl, rfl⟩
theorem leastN_yes {zs : List Int} (h : leastB zs = true) : leastL zs = firstL zs ∧ leastW zs = zs.length := by unfold leastL leastW; rw [h]; exact ⟨rfl, rfl⟩

/-- n - 1, .., 1, 0 -/
def revL (n : Nat) : List Int := (List.range n).map fun (j : Nat) => (n : Int) - 1 - (j : Int)
theorem revL_length (n : Nat) : (revL n).length = n := by simp [revL]
theorem gi_revL {n j : Nat} (h : j < n) : gi (revL n) j = (n : Int) - 1 - j := by rw [gi_lt (by rw [revL_length]; exact h)]; simp [revL]
theorem revL_take {n k : Nat} (h : k < n) : (revL n).take (k + 1) = (revL n).take k ++ [(n : Int) - 1 - k] := by
  have hl := revL_length n
  rw [List.take_succ_eq_append_getElem (by omega), ← gi_lt, gi_revL h]
theorem revL_in8 {n : Nat} (h : n ≤ 8) : Inn8 (revL n) := by
  refine ⟨by rw [revL_length]; exact h, fun j hj => ?_⟩
  rw [revL_length] at hj
  rw [gi_revL hj]; omega
theorem revL_ord {n : Nat} (h : 2 ≤ n) (h8 : n ≤ 8) : ord (revL n) = true := by
  have : n = 2 ∨ n = 3 ∨ n = 4 ∨ n = 5 ∨ n = 6 ∨ n = 7 ∨ n = 8 := by omega
  rcases this with rfl | rfl | rfl | rfl | rfl | rfl | rfl <;> decide +kernel
def lgB (x : Int) : Bool := inB x 2 8
def lgL (x : Int) : List Int := ifL (lgB x) (firstL (revL x.toNat))
theorem lgL_len (x : Int) : (lgL x).length ≤ 1000 := by
  unfold lgL
  rcases lgB x with _ | _
  · rw [ifL_no]; simp
  · rw [ifL_yes]; have := firstL_len (revL x.toNat); omega

end Go.Proofs.YtgeeifjbfceogaaGreatDoor
namespace Go.Proofs.YtgeeifjbfceogaaGreatDoor
open Go Go.RowKit

/-- inversions, counted along the list -/
def invL : List Int → Nat
  | [] => 0
  | x :: xs => xs.countP (fun y => decide (y < x)) + invL xs
theorem invL_swap {x y : Int} (h : y < x) (s : List Int) : ∀ (p : List Int), invL (p ++ x :: y :: s) = invL (p ++ y :: x :: s) + 1
  | [] => by
    have e1 : decide (y < x) = true := by simpa using h
    have e2 : decide (x < y) = false := by simp; omega
    simp only [List.nil_append, invL, List.countP_cons, e1, e2]
    simp
    omega
  | a :: p => by
    have ih := invL_swap h s p
    simp only [List.cons_append, invL, ih]
    have e : (p ++ x :: y :: s).countP (fun z => decide (z < a)) = (p ++ y :: x :: s).countP (fun z => decide (z < a)) :=
      (List.Perm.append_left p (List.Perm.swap y x s)).countP_eq _
    omega
theorem exch_cat {zs : List Int} {i : Nat} (h : i + 1 < zs.length) : exch zs i = zs.take i ++ gi zs (i + 1) :: gi zs i :: zs.drop (i + 2) := by
  have := sldL_cat (zs := zs) (k := i) (by omega)
  rw [show exch zs i = sldL zs i from rfl, this]
  simp
theorem invL_exch {zs : List Int} {i : Nat} (h : i + 1 < zs.length) (hd : gi zs (i + 1) < gi zs i) : invL zs = invL (exch zs i) + 1 := by
  have e := take_drop2 (zs := zs) (k := i) (by omega)
  have e2 : zs = zs.take i ++ gi zs i :: gi zs (i + 1) :: zs.drop (i + 2) := by
    conv => lhs; rw [e]
    simp
  rw [exch_cat h]
  conv => lhs; rw [e2]
  exact invL_swap hd _ _
theorem cntB_count (zs : List Int) (k : Nat) : ∀ (m : Nat), m ≤ zs.length - (k + 1) → cntB zs k m = ((zs.drop (k + 1)).take m).countP (fun y => decide (y < gi zs k))
  | 0, _ => by simp [cntB]
  | m + 1, h => by
    have hlen : m < (zs.drop (k + 1)).length := by simp; omega
    rw [List.take_succ_eq_append_getElem hlen, List.countP_append, ← cntB_count zs k m (by omega)]
    have e : (zs.drop (k + 1))[m] = gi zs (k + 1 + m) := by rw [gi_lt (by omega)]; simp
    rw [e]
    simp only [cntB]
    congr 1
    by_cases hq : gi zs (k + 1 + m) < gi zs k
    · rw [if_pos hq]; simp [hq]
    · rw [if_neg hq]; simp [hq]
theorem invN_drop (zs : List Int) : ∀ (k : Nat), k ≤ zs.length → invN zs k + invL (zs.drop k) = invL zs
  | 0, _ => by simp [invN]
  | k + 1, h => by
    have ih := invN_drop zs k (by omega)
    rw [← ih, List.drop_eq_getElem_cons (i := k) (l := zs) (by omega)]
    simp only [invN, invL]
    rw [cntB_count zs k _ (Nat.le_refl _), List.take_of_length_le (by simp), gi_lt (by omega)]
    omega
theorem invN_all (zs : List Int) : invN zs zs.length = invL zs := by
  have := invN_drop zs zs.length (Nat.le_refl _)
  simpa [invL] using this
theorem invs_invL (zs : List Int) : (invs zs).length = invL zs := by unfold invs; rw [invN_len, invN_all]
theorem invN_le7 {zs : List Int} (h : zs.length ≤ 8) : ∀ (k : Nat), invN zs k ≤ 7 * k
  | 0 => Nat.le_refl _
  | k + 1 => by
    have h1 := invN_le7 h k
    have h2 := cntB_le zs k (zs.length - (k + 1))
    simp only [invN]
    omega
theorem invL_le {zs : List Int} (h : zs.length ≤ 8) : invL zs ≤ 56 := by
  have := invN_le7 h zs.length
  rw [invN_all] at this
  omega
/-- without descents there are no inversions -/
theorem mono_of {zs : List Int} {n : Nat} (h : ∀ j, j < n → ¬ gi zs (j + 1) < gi zs j) {i : Nat} : ∀ (d : Nat), i + d ≤ n → gi zs i ≤ gi zs (i + d)
  | 0, _ => Int.le_refl _
  | d + 1, hd => by
    have h1 := mono_of h (i := i) d (by omega)
    have h2 := h (i + d) (by omega)
    rw [show i + (d + 1) = i + d + 1 by omega]
    omega
theorem cntB_zero {zs : List Int} {n i : Nat} (h : ∀ j, j < n → ¬ gi zs (j + 1) < gi zs j) : ∀ (m : Nat), i + m ≤ n → cntB zs i m = 0
  | 0, _ => rfl
  | m + 1, hm => by
    have h1 := mono_of h (i := i) (m + 1) (by omega)
    rw [cntB_no (by rw [show i + 1 + m = i + (m + 1) by omega]; omega)]
    exact cntB_zero h m (by omega)
theorem invL_zero {zs : List Int} (h : fdsc zs (zs.length - 1) = none) : invL zs = 0 := by
  rw [← invN_all]
  have hn := fdsc_none _ h
  have : ∀ k, k ≤ zs.length → invN zs k = 0 := by
    intro k
    induction k with
    | zero => intro _; rfl
    | succ k ih =>
      intro hk
      simp only [invN]
      rw [ih (by omega), cntB_zero hn _ (by omega)]
  exact this _ (Nat.le_refl _)
theorem firstF_len' : ∀ (f : Nat) (zs : List Int), invL zs ≤ f → (firstF f zs).length = invL zs
  | 0, zs, h => by simp [firstF]; omega
  | f + 1, zs, h => by
    unfold firstF
    cases hd : fdsc zs (zs.length - 1) with
    | none => simp [invL_zero hd]
    | some i =>
      obtain ⟨h1, h2, _⟩ := fdsc_some _ hd
      have e := invL_exch (zs := zs) (i := i) (by omega) h2
      simp only [List.length_cons]
      rw [firstF_len' f _ (by omega), e]
theorem firstL_inv {zs : List Int} (h : zs.length ≤ 8) : (firstL zs).length = invL zs := firstF_len' _ _ (by have := invL_le h; omega)
theorem firstF_in : ∀ (f : Nat) (zs : List Int), ∀ x ∈ firstF f zs, 0 ≤ x ∧ x + 2 ≤ zs.length
  | 0, zs => by simp [firstF]
  | f + 1, zs => by
    intro x hx
    unfold firstF at hx
    cases hd : fdsc zs (zs.length - 1) with
    | none => rw [hd] at hx; simp at hx
    | some i =>
      rw [hd] at hx
      obtain ⟨h1, _, _⟩ := fdsc_some _ hd
      simp only [List.mem_cons] at hx
      rcases hx with rfl | hx
      · omega
      · have := firstF_in f _ x hx
        rwa [exch_length] at this
theorem firstL_in {zs : List Int} : ∀ x ∈ firstL zs, 0 ≤ x ∧ x + 2 ≤ zs.length := firstF_in _ _
end Go.Proofs.YtgeeifjbfceogaaGreatDoor

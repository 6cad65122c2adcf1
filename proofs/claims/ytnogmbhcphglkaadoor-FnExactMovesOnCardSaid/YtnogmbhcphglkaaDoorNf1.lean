/- The first one of all lists that slides make of a list, taken by the least that can come to the top; the first two who meet twice: mathematics. -/
import Derived.Test.YtnogmbhcphglkaaDoorWords
namespace Go.Proofs.YtnogmbhcphglkaaDoor
open Go Go.RowKit

/-- how far two numbers are apart -/
def far (a b : Int) : Bool := decide (2 ≤ a - b ∨ 2 ≤ b - a)
/-- all of the first m are far from r -/
def freeK (zs : List Int) (r : Int) : Nat → Bool
  | 0 => true
  | m + 1 => freeK zs r m && far (gi zs m) r
theorem freeK_no {zs : List Int} {r : Int} {i : Nat} : ∀ (m : Nat), i < m → far (gi zs i) r = false → freeK zs r m = false
  | 0, h, _ => absurd h (by omega)
  | m + 1, h, e => by
    simp only [freeK]
    by_cases h2 : i = m
    · subst h2; rw [e]; simp
    · rw [freeK_no m (by omega) e]; simp
/-- the least of the first k that can come to the top -/
def bst (zs : List Int) : Nat → Nat
  | 0 => 0
  | k + 1 => if freeK zs (gi zs k) k = true ∧ gi zs k < gi zs (bst zs k) then k else bst zs k
theorem bst_lt (zs : List Int) : ∀ (k : Nat), 0 < k → bst zs k < k
  | 0, h => absurd h (by omega)
  | k + 1, _ => by
    simp only [bst]
    split
    · omega
    · rcases Nat.eq_zero_or_pos k with h | h
      · subst h; simp [bst]
      · have := bst_lt zs k h; omega
theorem bst_one (zs : List Int) : bst zs 1 = 0 := by simp [bst]
def nrmF : Nat → List Int → List Int
  | 0, _ => []
  | f + 1, zs => gi zs (bst zs zs.length) :: nrmF f (zs.eraseIdx (bst zs zs.length))
def nrm (zs : List Int) : List Int := nrmF zs.length zs
theorem nrmF_len : ∀ (f : Nat) (zs : List Int), (nrmF f zs).length = f
  | 0, _ => rfl
  | f + 1, zs => by simp [nrmF, nrmF_len f]
theorem nrm_len (zs : List Int) : (nrm zs).length = zs.length := nrmF_len _ _
/-- what is taken already, and what is left -/
structure NRel (zs out left : List Int) (f : Nat) : Prop where
  eq : out ++ nrmF f left = nrm zs
  len : left.length = f
  cnt : out.length + f = zs.length
  sub : ∀ x ∈ left, x ∈ zs
theorem NRel.start (zs : List Int) : NRel zs [] zs zs.length := ⟨rfl, rfl, by simp, fun _ h => h⟩
theorem NRel.stop {zs out left : List Int} (h : NRel zs out left 0) : out = nrm zs := by
  have := h.eq
  simpa [nrmF] using this
theorem NRel.step {zs out left : List Int} {f : Nat} (h : NRel zs out left (f + 1)) : NRel zs (out ++ [gi left (bst left left.length)]) (left.eraseIdx (bst left left.length)) f := by
  have hb := bst_lt left left.length (by have := h.len; omega)
  refine ⟨?_, by rw [List.length_eraseIdx, if_pos hb]; have := h.len; omega, by have := h.cnt; simp; omega, fun x hx => h.sub x (List.mem_of_mem_eraseIdx hx)⟩
  rw [← h.eq]
  simp [nrmF]

/-- the first b behind a of whom M tells, among m -/
def twB (M : Nat → Nat → Bool) (a : Nat) : Nat → Option (Nat × Nat)
  | 0 => none
  | m + 1 => match twB M a m with
    | some x => some x
    | none => if M a (a + 1 + m) = true then some (a, a + 1 + m) else none
def twA (M : Nat → Nat → Bool) (W : Nat) : Nat → Option (Nat × Nat)
  | 0 => none
  | k + 1 => match twA M W k with
    | some x => some x
    | none => twB M k (W - (k + 1))
theorem twB_no {M : Nat → Nat → Bool} {a m : Nat} (h : twB M a m = none) (hn : M a (a + 1 + m) = false) : twB M a (m + 1) = none := by
  simp [twB, h, hn]
theorem twB_mono {M : Nat → Nat → Bool} {a m : Nat} {x : Nat × Nat} (h : twB M a m = some x) : ∀ (j : Nat), twB M a (m + j) = some x
  | 0 => h
  | j + 1 => by
    have := twB_mono h j
    rw [← Nat.add_assoc]
    simp [twB, this]
theorem twA_mono {M : Nat → Nat → Bool} {W k : Nat} {x : Nat × Nat} (h : twA M W k = some x) : ∀ (j : Nat), twA M W (k + j) = some x
  | 0 => h
  | j + 1 => by
    have := twA_mono h j
    rw [← Nat.add_assoc]
    simp [twA, this]
theorem twA_no {M : Nat → Nat → Bool} {W k : Nat} (h : twA M W k = none) (hn : twB M k (W - (k + 1)) = none) : twA M W (k + 1) = none := by
  simp [twA, h, hn]
theorem tw_found {M : Nat → Nat → Bool} {W k m : Nat} (h : twA M W k = none) (hb : twB M k m = none) (hm : k + 1 + m < W) (hM : M k (k + 1 + m) = true) : twA M W W = some (k, k + 1 + m) := by
  have h1 : twB M k (m + 1) = some (k, k + 1 + m) := by simp [twB, hb, hM]
  have h2 := twB_mono h1 (W - (k + 1) - (m + 1))
  have e : m + 1 + (W - (k + 1) - (m + 1)) = W - (k + 1) := by omega
  rw [e] at h2
  have h3 : twA M W (k + 1) = some (k, k + 1 + m) := by simp [twA, h, h2]
  have h4 := twA_mono h3 (W - (k + 1))
  have e2 : k + 1 + (W - (k + 1)) = W := by omega
  rwa [e2] at h4

/-! what moves make of a list -/
def nigh (a b : Int) : Bool := decide (a - b = 1 ∨ b - a = 1)
def sldOk (zs : List Int) (at_ : Int) : Bool := decide (0 ≤ at_ ∧ at_ + 2 ≤ zs.length) && far (gi zs at_.toNat) (gi zs (at_.toNat + 1))
def flpOk (zs : List Int) (at_ : Int) : Bool := decide (0 ≤ at_ ∧ at_ + 3 ≤ zs.length) && (decide (gi zs at_.toNat = gi zs (at_.toNat + 2)) && nigh (gi zs at_.toNat) (gi zs (at_.toNat + 1)))
def drpOk (zs : List Int) (at_ : Int) : Bool := decide (0 ≤ at_ ∧ at_ + 2 ≤ zs.length) && decide (gi zs at_.toNat = gi zs (at_.toNat + 1))
def sldL (zs : List Int) (k : Nat) : List Int := (zs.set k (gi zs (k + 1))).set (k + 1) (gi zs k)
def flpL (zs : List Int) (k : Nat) : List Int := ((zs.set k (gi zs (k + 1))).set (k + 1) (gi zs k)).set (k + 2) (gi zs (k + 1))
def drpL (zs : List Int) (k : Nat) : List Int := zs.take k ++ zs.drop (k + 2)
theorem take_drop2 {zs : List Int} {k : Nat} (h : k + 2 ≤ zs.length) : zs = zs.take k ++ [gi zs k, gi zs (k + 1)] ++ zs.drop (k + 2) := by
  apply List.ext_getElem?
  intro j
  rcases Nat.lt_or_ge j k with h1 | h1
  · rw [List.append_assoc, List.getElem?_append_left (by simp; omega)]; simp [h1]
  · rcases Nat.lt_or_ge j (k + 2) with h2 | h2
    · rw [List.getElem?_append_left (by simp; omega), List.getElem?_append_right (by simp; omega)]
      have e : min k zs.length = k := by omega
      have : j = k ∨ j = k + 1 := by omega
      rcases this with rfl | rfl
      · simp only [List.length_take, e, Nat.sub_self]; rw [gi_lt (by omega)]; simp
      · simp only [List.length_take, e]; rw [gi_lt (show k + 1 < zs.length by omega)]; simp [show k + 1 - k = 1 by omega]
    · rw [List.getElem?_append_right (by simp; omega)]
      simp only [List.length_append, List.length_take, List.length_cons, List.length_nil, List.getElem?_drop]
      congr 1; omega
theorem sldL_cat {zs : List Int} {k : Nat} (h : k + 2 ≤ zs.length) : sldL zs k = zs.take k ++ [gi zs (k + 1), gi zs k] ++ zs.drop (k + 2) := by
  have hl : (zs.take k).length = k := by simp; omega
  unfold sldL
  conv => lhs; rw [take_drop2 h]
  have g0 : gi (zs.take k ++ [gi zs k, gi zs (k + 1)] ++ zs.drop (k + 2)) k = gi zs k := by rw [← take_drop2 h]
  have g1 : gi (zs.take k ++ [gi zs k, gi zs (k + 1)] ++ zs.drop (k + 2)) (k + 1) = gi zs (k + 1) := by rw [← take_drop2 h]
  rw [g0, g1]
  rw [List.append_assoc, List.set_append_right _ _ (by omega), List.set_append_right _ _ (by omega), hl]
  simp
theorem take_drop3 {zs : List Int} {k : Nat} (h : k + 3 ≤ zs.length) : zs = zs.take k ++ [gi zs k, gi zs (k + 1), gi zs (k + 2)] ++ zs.drop (k + 3) := by
  have h1 := take_drop2 (zs := zs) (k := k) (by omega)
  have h2 : zs.drop (k + 2) = gi zs (k + 2) :: zs.drop (k + 3) := by rw [List.drop_eq_getElem_cons (by omega), gi_lt (by omega)]
  rw [h2] at h1
  simpa using h1
theorem flpL_cat {zs : List Int} {k : Nat} (h : k + 3 ≤ zs.length) : flpL zs k = zs.take k ++ [gi zs (k + 1), gi zs k, gi zs (k + 1)] ++ zs.drop (k + 3) := by
  have hl : (zs.take k).length = k := by simp; omega
  unfold flpL
  conv => lhs; rw [take_drop3 h]
  have g0 : gi (zs.take k ++ [gi zs k, gi zs (k + 1), gi zs (k + 2)] ++ zs.drop (k + 3)) k = gi zs k := by rw [← take_drop3 h]
  have g1 : gi (zs.take k ++ [gi zs k, gi zs (k + 1), gi zs (k + 2)] ++ zs.drop (k + 3)) (k + 1) = gi zs (k + 1) := by rw [← take_drop3 h]
  rw [g0, g1]
  rw [List.append_assoc, List.set_append_right _ _ (by omega), List.set_append_right _ _ (by omega), List.set_append_right _ _ (by omega), hl]
  simp [show k + 1 - k = 1 by omega, show k + 2 - k = 2 by omega]
theorem sldL_len (zs : List Int) (k : Nat) : (sldL zs k).length = zs.length := by simp [sldL]
theorem flpL_len (zs : List Int) (k : Nat) : (flpL zs k).length = zs.length := by simp [flpL]
end Go.Proofs.YtnogmbhcphglkaaDoor

/- Orders one behind another, and the first of those that come out most often. Nothing of the program is said here. -/
import Derived.Test.YthhpklmiiibcpaaOq4
namespace Go.Proofs.Ythhpklmiiibcpaa
open Go Go.RowKit Go.Maps

/-- two lists of one length, compared as the library does it -/
def cmpL : List Int → List Int → Int
  | x :: a, y :: b => if x = y then cmpL a b else Lib.compareInt x y
  | _, _ => 0
theorem cmpL_self : ∀ a, cmpL a a = 0
  | [] => rfl
  | x :: a => by unfold cmpL; rw [if_pos rfl, cmpL_self a]
theorem cmpL_in : ∀ a b, -1 ≤ cmpL a b ∧ cmpL a b ≤ 1
  | [], _ => by unfold cmpL; omega
  | _ :: _, [] => by unfold cmpL; omega
  | x :: a, y :: b => by
    unfold cmpL
    split
    · exact cmpL_in a b
    · unfold Lib.compareInt; split <;> (try split) <;> omega
theorem cmpL_swap : ∀ a b, cmpL b a = -cmpL a b
  | [], [] => rfl
  | [], _ :: _ => rfl
  | _ :: _, [] => rfl
  | x :: a, y :: b => by
    unfold cmpL
    by_cases h : x = y
    · rw [if_pos h, if_pos h.symm, cmpL_swap a b]
    · rw [if_neg h, if_neg (fun e => h e.symm)]
      unfold Lib.compareInt
      split <;> split <;> (try split) <;> (try split) <;> omega

def riseB : List (List Int) → Bool
  | [] => true
  | p :: r => r.all (fun q => decide (cmpL (endsL p) (endsL q) < 0)) && riseB r
theorem rise_pair : ∀ (l : List (List Int)), riseB l = true → l.Pairwise fun p q => cmpL (endsL p) (endsL q) < 0
  | [], _ => List.Pairwise.nil
  | p :: r, h => by
    unfold riseB at h
    rw [Bool.and_eq_true, List.all_eq_true] at h
    rw [List.pairwise_cons]
    exact ⟨fun q hq => of_decide_eq_true (h.1 q hq), rise_pair r h.2⟩
theorem ords_rise {n : Nat} (h2 : 2 ≤ n) (h5 : n ≤ 5) : riseB (ordsK n n) = true := by
  match n, h2, h5 with
  | 2, _, _ => decide +kernel
  | 3, _, _ => decide +kernel
  | 4, _, _ => decide +kernel
  | 5, _, _ => decide +kernel
theorem ords_lt {n : Nat} (h2 : 2 ≤ n) (h5 : n ≤ 5) {i j : Nat} (hij : i < j) (hj : j < (ordsK n n).length) : cmpL (endsL (gz (ordsK n n) i)) (endsL (gz (ordsK n n) j)) < 0 := by
  have h := List.pairwise_iff_getElem.1 (rise_pair _ (ords_rise h2 h5)) i j (by omega) hj hij
  have e : ∀ k (hk : k < (ordsK n n).length), gz (ordsK n n) k = (ordsK n n)[k] := fun k hk => by simp [gz, List.getD, hk]
  rw [e i (by omega), e j hj]
  exact h
theorem ords_cmp {n : Nat} (h2 : 2 ≤ n) (h5 : n ≤ 5) {i j : Nat} (hi : i < (ordsK n n).length) (hj : j < (ordsK n n).length) : cmpL (endsL (gz (ordsK n n) i)) (endsL (gz (ordsK n n) j)) < 0 ↔ i < j := by
  constructor
  · intro h
    apply Classical.byContradiction
    intro hn
    rcases Nat.lt_or_ge j i with h1 | h1
    · have h3 := ords_lt h2 h5 h1 hi
      rw [cmpL_swap] at h3
      omega
    · obtain rfl : i = j := by omega
      rw [cmpL_self] at h
      omega
  · intro h
    exact ords_lt h2 h5 h hj

/-- the first of the greatest of the first x -/
def bstI (Z : List Int) : Nat → Nat
  | 0 => 0
  | x + 1 => if gi Z (bstI Z x) < gi Z x then x else bstI Z x
theorem bstI_facts (Z : List Int) : ∀ x, 0 < x → bstI Z x < x ∧ (∀ j, j < x → gi Z j ≤ gi Z (bstI Z x)) ∧ ∀ j, j < bstI Z x → gi Z j < gi Z (bstI Z x)
  | 0, h => absurd h (by omega)
  | 1, _ => by
    have e : bstI Z 1 = 0 := by unfold bstI; split <;> rfl
    rw [e]
    refine ⟨by omega, fun j hj => ?_, fun j hj => absurd hj (by omega)⟩
    obtain rfl : j = 0 := by omega
    exact Int.le_refl _
  | x + 2, _ => by
    obtain ⟨h1, h2, h3⟩ := bstI_facts Z (x + 1) (by omega)
    unfold bstI
    by_cases h : gi Z (bstI Z (x + 1)) < gi Z (x + 1)
    · rw [if_pos h]
      refine ⟨by omega, fun j hj => ?_, fun j hj => ?_⟩
      · rcases Nat.lt_or_ge j (x + 1) with h4 | h4
        · have := h2 j h4; omega
        · obtain rfl : j = x + 1 := by omega
          exact Int.le_refl _
      · have := h2 j hj; omega
    · rw [if_neg h]
      refine ⟨by omega, fun j hj => ?_, h3⟩
      rcases Nat.lt_or_ge j (x + 1) with h4 | h4
      · exact h2 j h4
      · obtain rfl : j = x + 1 := by omega
        omega
theorem bstI_lt (Z : List Int) {x : Nat} (h : 0 < x) : bstI Z x < x := (bstI_facts Z x h).1
theorem bstI_le (Z : List Int) (x : Nat) : bstI Z x ≤ x := by
  rcases Nat.eq_zero_or_pos x with rfl | h
  · exact Nat.le_refl _
  · exact Nat.le_of_lt (bstI_lt Z h)
theorem bstI_only {Z : List Int} {x i : Nat} (hi : i < x) (h : ∀ j, j < x → gi Z j < gi Z i ∨ (gi Z j = gi Z i ∧ i ≤ j)) : i = bstI Z x := by
  obtain ⟨h1, h2, h3⟩ := bstI_facts Z x (by omega)
  rcases h (bstI Z x) h1 with h4 | ⟨h4, h5⟩
  · have := h2 i hi; omega
  · rcases Nat.lt_or_ge i (bstI Z x) with h6 | h6
    · have := h3 i h6; omega
    · omega

/-- while the entries are gone through: nothing yet, or the first of the greatest of those seen -/
structure Seen (n K : Nat) (D : DataW Unit) (left : Lit → Bool) (E : List Int) (m : Nat) : Prop where
  has : ∀ kl, left kl = true → Maps.has D kl = true
  st : (m = 0 ∧ ∀ kl, left kl = Maps.has D kl) ∨ (∃ i, i < (ordsK n n).length ∧ E = endsL (gz (ordsK n n) i) ∧ (m : Int) = gi (chO n K) i ∧ 0 < m ∧
    ∀ j, j < (ordsK n n).length → 0 < gi (chO n K) j → left (eL (endsL (gz (ordsK n n) j))) = false → gi (chO n K) j < gi (chO n K) i ∨ (gi (chO n K) j = gi (chO n K) i ∧ i ≤ j))
theorem Seen.start {n K : Nat} {D : DataW Unit} (E : List Int) : Seen n K D (Maps.has D) E 0 := ⟨fun _ h => h, .inl ⟨rfl, fun _ => rfl⟩⟩
theorem has_pos {n K : Nat} {D : DataW Unit} (h : AllC n K D) (h2 : 2 ≤ n) (h5 : n ≤ 5) {j : Nat} (hj : j < (ordsK n n).length) (h0 : 0 < gi (chO n K) j) : Maps.has D (eL (endsL (gz (ordsK n n) j))) = true := by
  rcases hx : Maps.has D (eL (endsL (gz (ordsK n n) j))) with _ | _
  · rw [gi_chO hj, ← h.at (by omega) (by omega) (gz_ok (by omega) (by omega) hj)] at h0
    unfold at0 at h0
    rw [atKey_of_not_has hx, valN_nd] at h0
    omega
  · rfl
/-- an entry is an order with its count -/
theorem AllC.ent {n K : Nat} {D : DataW Unit} (h : AllC n K D) (h2 : 2 ≤ n) (h5 : n ≤ 5) {e : List Int} (he : OKE n e) {c : Nat} (hc : 0 < c) (hat : at0 D (eL e) = c) :
    ∃ v, v < (ordsK n n).length ∧ e = endsL (gz (ordsK n n) v) ∧ gi (chO n K) v = (c : Int) := by
  obtain ⟨q, hq, rfl⟩ := h.key (by omega) (by omega) he (by omega)
  have hr := gz_rk h2 h5 hq
  exact ⟨rk q, hr.1, by rw [hr.2], by rw [gi_chO hr.1, hr.2, ← h.at (by omega) (by omega) hq, hat]⟩
theorem ends_inj {n : Nat} (h2 : 2 ≤ n) (h5 : n ≤ 5) {i j : Nat} (hi : i < (ordsK n n).length) (hj : j < (ordsK n n).length) (h : endsL (gz (ordsK n n) i) = endsL (gz (ordsK n n) j)) : i = j := by
  have e2 := endsL_inj (gz_ok (n := n) (by omega) (by omega) hi).2 (gz_ok (n := n) (by omega) (by omega) hj).2 (by omega) h
  have e3 := rk_gz h2 h5 hi
  rw [e2, rk_gz h2 h5 hj] at e3
  exact e3.symm
theorem struck {n : Nat} (h2 : 2 ≤ n) (h5 : n ≤ 5) {left : Lit → Bool} {v j : Nat} (hv : v < (ordsK n n).length) (hj : j < (ordsK n n).length)
    (h : (left (eL (endsL (gz (ordsK n n) j))) && !(eL (endsL (gz (ordsK n n) j))).sameKey (eL (endsL (gz (ordsK n n) v)))) = false) : left (eL (endsL (gz (ordsK n n) j))) = false ∨ j = v := by
  rw [Bool.and_eq_false_iff] at h
  rcases h with h | h
  · exact .inl h
  · right
    have h1 := same_eq (a := eL (endsL (gz (ordsK n n) j))) (b := eL (endsL (gz (ordsK n n) v))) (by simpa using h)
    exact ends_inj h2 h5 hj hv (eL_inj (gz_ok (n := n) (by omega) (by omega) hj).oke (gz_ok (n := n) (by omega) (by omega) hv).oke (by omega) (by omega) h1)
section
variable {n K : Nat} {D : DataW Unit} {left : Lit → Bool} {E e : List Int} {m c : Nat}
/-- a better one -/
theorem Seen.better (h : Seen n K D left E m) (hD : AllC n K D) (h2 : 2 ≤ n) (h5 : n ≤ 5) (he : OKE n e) (hc : 0 < c) (hat : at0 D (eL e) = c) (hb : m < c ∨ (c = m ∧ cmpL e E < 0)) :
    Seen n K D (fun z => left z && !z.sameKey (eL e)) e c := by
  obtain ⟨v, hv, rfl, hgv⟩ := hD.ent h2 h5 he hc hat
  refine ⟨left_has h.has _, .inr ⟨v, hv, rfl, hgv.symm, hc, fun j hj hj0 hl => ?_⟩⟩
  rcases struck h2 h5 hv hj hl with hl | rfl
  · rcases h.st with ⟨h1, h3⟩ | ⟨i, hi, rfl, h3, h4, h6⟩
    · rw [h3, has_pos hD h2 h5 hj hj0] at hl
      cases hl
    · have := h6 j hj hj0 hl
      rcases hb with hb | ⟨hb, hlt⟩
      · omega
      · have := (ords_cmp h2 h5 hv hi).1 hlt
        omega
  · exact .inr ⟨rfl, Nat.le_refl _⟩
theorem Seen.worse (h : Seen n K D left E m) (hD : AllC n K D) (h2 : 2 ≤ n) (h5 : n ≤ 5) (he : OKE n e) (hc : 0 < c) (hat : at0 D (eL e) = c) (hb : ¬ m < c) (hb2 : ¬ (c = m ∧ cmpL e E < 0)) :
    Seen n K D (fun z => left z && !z.sameKey (eL e)) E m := by
  obtain ⟨v, hv, rfl, hgv⟩ := hD.ent h2 h5 he hc hat
  rcases h.st with ⟨h1, h3⟩ | ⟨i, hi, rfl, h3, h4, h6⟩
  · omega
  · refine ⟨left_has h.has _, .inr ⟨i, hi, rfl, h3, h4, fun j hj hj0 hl => ?_⟩⟩
    rcases struck h2 h5 hv hj hl with hl | rfl
    · exact h6 j hj hj0 hl
    · by_cases e : c = m
      · have h7 : ¬ j < i := fun h7 => hb2 ⟨e, (ords_cmp h2 h5 hj hi).2 h7⟩
        exact .inr ⟨by omega, by omega⟩
      · exact .inl (by omega)
theorem Seen.done (h : Seen n K D left E m) (hD : AllC n K D) (h2 : 2 ≤ n) (h5 : n ≤ 5) (hl : ∀ kl, left kl = false) : E = endsL (gz (ordsK n n) (bstI (chO n K) (ordsK n n).length)) := by
  rcases h.st with ⟨h1, h3⟩ | ⟨i, hi, rfl, h3, h4, h6⟩
  · exfalso
    have h7 := Wl_start hD.good one
    rw [Wl_none one (fun kl => by rw [← h3, hl]), hD.wgt] at h7
    have h8 : ups ovE (n - 1) K one (endsL (upto n)) = (n - 1) ^ K * 1 := congrFun (ups_const K 1) _
    have h9 : 0 < (n - 1) ^ K := Nat.pow_pos (by omega)
    omega
  · rw [← bstI_only hi fun j hj => ?_]
    by_cases h0 : 0 < gi (chO n K) j
    · exact h6 j hj h0 (hl _)
    · exact .inl (by omega)
end
end Go.Proofs.Ythhpklmiiibcpaa

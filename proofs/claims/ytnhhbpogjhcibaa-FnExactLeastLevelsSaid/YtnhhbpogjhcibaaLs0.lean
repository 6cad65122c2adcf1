/- Levels as seats: the mathematics. -/
import Derived.Test.YtnhhbpogjhcibaaLd1
import Derived.Test.YtnhhbpogjhcibaaO5
namespace Go.Proofs.Ytnhhbpogjhcibaa
open Go Go.RowKit

/-- the seats of a level -/
def sl8 (l : List Int) : List Int := top (seats []) l
theorem sl8_length (l : List Int) : (sl8 l).length = 8 := by unfold sl8; rw [top_length, seats_length]
theorem seats_exch {p : List Int} {i : Nat} (h : i + 1 < p.length) (h8 : p.length ≤ 8) : seats (exch p i) = exch (seats p) i := by
  refine gi_ext (by rw [seats_length, exch_length, seats_length]) fun j hj => ?_
  rw [seats_length] at hj
  rw [gi_exch (by rw [seats_length]; omega), gi_seats _ _ hj, gi_seats _ _ (show i < 8 by omega), gi_seats _ _ (show i + 1 < 8 by omega), gi_seats _ _ hj, exch_length, if_pos (show i + 1 < p.length from h), if_pos (show i < p.length by omega), gi_exch h]
  by_cases h1 : j = i
  · rw [if_pos h1, if_pos (show j < p.length by omega), if_pos h1]
  · by_cases h2 : j = i + 1
    · rw [if_neg h1, if_pos h2, if_neg h1, if_pos h2, if_pos (show j < p.length by omega)]
    · rw [if_neg h1, if_neg h2, if_neg h1, if_neg h2]
theorem seats_top : ∀ (l : List Int) {p : List Int}, (∀ x ∈ l, x.toNat + 1 < p.length) → p.length ≤ 8 → seats (top p l) = top (seats p) l
  | [], _, _, _ => rfl
  | r :: l, p, h, h8 => by
    show seats (top (exch p r.toNat) l) = top (exch (seats p) r.toNat) l
    rw [seats_top l (fun x hx => by rw [exch_length]; exact h x (by simp [hx])) (by rw [exch_length]; exact h8), seats_exch (h r (by simp)) h8]
theorem seats_upto {n : Nat} (h : n ≤ 8) : seats (upto n) = seats [] := by
  refine gi_ext (by rw [seats_length, seats_length]) fun j hj => ?_
  rw [seats_length] at hj
  rw [gi_seats _ _ hj, gi_seats _ _ hj, upto_len]
  by_cases h1 : j < n
  · rw [if_pos h1, gi_upto h1, if_neg (by simp)]
  · rw [if_neg h1, if_neg (by simp)]
theorem sl8_eq {n : Nat} (h8 : n ≤ 8) {l : List Int} (hl : ∀ x ∈ l, x.toNat + 1 < n) : sl8 l = seats (top (upto n) l) := by
  unfold sl8
  rw [seats_top l (by rw [upto_len]; exact hl) (by rw [upto_len]; exact h8), seats_upto h8]
/-- one seat after the other, of fewer than eight -/
theorem thn_seats {n : Nat} (h8 : n ≤ 8) {q s : List Int} (hq : q.length = n) (hs : s.length = n) (hr : ∀ j, j < n → 0 ≤ gi q j ∧ gi q j < (n : Int)) :
    thn (seats q) (seats s) = seats (q.map fun x => gi s x.toNat) := by
  refine gi_ext (by rw [thn_length, seats_length]) fun j hj => ?_
  rw [thn_length] at hj
  rw [gi_thn _ _ _ hj, gi_seats _ _ hj, gi_seats _ _ hj, List.length_map, hq]
  by_cases h1 : j < n
  · have h2 := hr j h1
    rw [if_pos h1, if_pos h1, gi_seats _ _ (by omega), hs, if_pos (by omega), gi_map (by rw [hq]; exact h1)]
  · rw [if_neg h1, if_neg h1, Int.toNat_natCast, gi_seats _ _ hj, hs, if_neg h1]
theorem OKp.range {n : Nat} {q : List Int} (h : OKp n q) {j : Nat} (hj : j < n) : 0 ≤ gi q j ∧ gi q j < (n : Int) := by
  have := (ord_iff.1 h.1).2.2.1 (gi q j) (by rw [gi_lt (by rw [h.2]; exact hj)]; exact List.getElem_mem _)
  rwa [h.2] at this
theorem thn_bot {n : Nat} (h8 : n ≤ 8) {q l : List Int} (hq : OKp n q) (hl : ∀ x ∈ l, x.toNat + 1 < n) : thn (seats q) (sl8 l) = seats (bot n q l) := by
  rw [sl8_eq h8 hl, thn_seats h8 hq.2 (by rw [top_length, upto_len]) (fun j hj => hq.range hj)]
  rfl
/-- a level's seats first: the level on top -/
theorem thn_top {n : Nat} (h1 : 1 ≤ n) (h8 : n ≤ 8) {q l : List Int} (hq : q.length = n) (hl : ∀ x ∈ l, 0 ≤ x ∧ x.toNat + 1 < n) : thn (sl8 l) (seats q) = seats (top q l) := by
  have hm : ∀ x ∈ l, x.toNat + 1 < n := fun x hx => (hl x hx).2
  have hok : OKp n (top (upto n) l) := top_ok l (upto_ok h1 h8) hl
  rw [sl8_eq h8 hm, thn_seats h8 hok.2 hq (fun j hj => hok.range hj), map_top l (by rw [upto_len]; exact hm), upto_gi hq]
theorem seats_inj {n : Nat} (h8 : n ≤ 8) {p q : List Int} (hp : p.length = n) (hq : q.length = n) (h : seats p = seats q) : p = q := by
  refine gi_ext (by rw [hp, hq]) fun j hj => ?_
  have e : gi (seats p) j = gi (seats q) j := by rw [h]
  rw [gi_seats _ _ (by omega), gi_seats _ _ (by omega), if_pos hj, if_pos (by omega)] at e
  exact e
end Go.Proofs.Ytnhhbpogjhcibaa

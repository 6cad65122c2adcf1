/- Reading texts back: what a text of numbers is cut, split and read into. Nothing of the program is said here. -/
import Derived.Test.YtdafkihbcdclgaaDoorTx2
import Derived.Test.YtdafkihbcdclgaaDoorTxt2
import Derived.Lib.CountLaws
import Derived.Lib.SplitLaws
namespace Go.Proofs.YtdafkihbcdclgaaDoor
open Go

theorem index_no {l : List UInt8} {b : UInt8} (h : b ∉ l) : Lib.index l [b] = -1 := by
  induction l with
  | nil => rfl
  | cons a r ih =>
    simp only [List.mem_cons, not_or] at h
    unfold Lib.index
    rw [ih h.2]
    have : [b].isPrefixOf (a :: r) = false := by simp [List.isPrefixOf, h.1]
    rw [this]; rfl
theorem index_at {xs r : List UInt8} {b : UInt8} (h : b ∉ xs) : Lib.index (xs ++ b :: r) [b] = (xs.length : Int) := by
  induction xs with
  | nil => simp [Lib.index, List.isPrefixOf]
  | cons a t ih =>
    simp only [List.mem_cons, not_or] at h
    rw [List.cons_append]
    unfold Lib.index
    rw [ih h.2]
    have : [b].isPrefixOf (a :: (t ++ b :: r)) = false := by simp [List.isPrefixOf, h.1]
    rw [this]
    have e : (((t.length : Int)) == -1) = false := by simp
    simp [e]
theorem cut_at {xs r : List UInt8} {b : UInt8} (h : b ∉ xs) : Lib.cut (xs ++ b :: r) [b] = (xs, r, true) := by
  unfold Lib.cut
  rw [index_at h, if_pos (by omega)]
  simp

/-- a digit's byte -/
theorem dig_ne {n : Nat} (h : n < 10) : UInt8.ofNat (48 + n) ≠ 44 ∧ UInt8.ofNat (48 + n) ≠ 58 ∧ UInt8.ofNat (48 + n) ≠ 45 := by
  have : ∀ n : Fin 10, UInt8.ofNat (48 + n.val) ≠ 44 ∧ UInt8.ofNat (48 + n.val) ≠ 58 ∧ UInt8.ofNat (48 + n.val) ≠ 45 := by decide
  exact this ⟨n, h⟩
theorem atoi_dig {x : Int} (h : 0 ≤ x ∧ x < 10) : Lib.atoiAll (numT x) = .ok x := by
  obtain ⟨n, rfl⟩ : ∃ n : Nat, x = (n : Int) := ⟨x.toNat, by omega⟩
  rw [numT_small (by omega)]
  have : ∀ n : Fin 10, Lib.atoiAll [UInt8.ofNat (48 + n.val)] = .ok ((n.val : Nat) : Int) := by decide
  exact this ⟨n, by omega⟩
theorem numT_not {x : Int} (h : 0 ≤ x ∧ x < 10) : (44 : UInt8) ∉ numT x ∧ (58 : UInt8) ∉ numT x := by
  obtain ⟨n, rfl⟩ : ∃ n : Nat, x = (n : Int) := ⟨x.toNat, by omega⟩
  rw [numT_small (by omega)]
  have := dig_ne (n := n) (by omega)
  simp only [List.mem_singleton]
  exact ⟨fun e => this.1 e.symm, fun e => this.2.1 e.symm⟩

/-- what the pieces say, if each says a number -/
def allOk : List (List UInt8) → Option (List Int)
  | [] => some []
  | p :: r => match Lib.atoiAll p with
    | .ok v => (allOk r).map (v :: ·)
    | _ => none
def pieces (t : List UInt8) : List (List UInt8) := Lib.splitK [44] 0 (Lib.count t [44]) t
def rl (t : List UInt8) : Option (List Int) := if t = [45] then some [] else allOk (pieces t)
def pl (l : List UInt8) : Option (Int × List Int) :=
  match Lib.atoiAll (Lib.cut l [58]).1 with
  | .ok v => (rl (Lib.cut l [58]).2.1).map (v, ·)
  | _ => none
/-- the ladder whose text this is -/
def res (l : List UInt8) : Option (Int × List Int) :=
  match pl l with
  | some (v, vs) => if lad v vs = true ∧ textT v vs = l then some (v, vs) else none
  | none => none

theorem pieces_join : ∀ (x : Int) (r : List Int), (∀ z ∈ x :: r, 0 ≤ z ∧ z < 10) →
    Lib.count (Lib.join ((x :: r).map numT) [44]) [44] = r.length ∧ Lib.splitK [44] 0 r.length (Lib.join ((x :: r).map numT) [44]) = (x :: r).map numT := by
  intro x r
  induction r generalizing x with
  | nil =>
    intro h
    have h1 := (numT_not (h x (by simp))).1
    rw [List.map_cons, List.map_nil, Lib.join_one]
    exact ⟨Lib.count_miss (index_no h1), rfl⟩
  | cons y r ih =>
    intro h
    have h1 := (numT_not (h x (by simp))).1
    obtain ⟨i1, i2⟩ := ih y (fun z hz => h z (List.mem_cons_of_mem _ hz))
    have e : Lib.join ((x :: y :: r).map numT) [44] = numT x ++ 44 :: Lib.join ((y :: r).map numT) [44] := by
      simp only [Lib.join, List.map_cons, List.intercalate, List.intersperse]
      simp
    have hi : Lib.index (numT x ++ 44 :: Lib.join ((y :: r).map numT) [44]) [44] = ((numT x).length : Int) := index_at h1
    have hd : (numT x ++ 44 :: Lib.join ((y :: r).map numT) [44]).drop ((numT x).length + [(44 : UInt8)].length) = Lib.join ((y :: r).map numT) [44] := by
      simp
    rw [e]
    constructor
    · rw [Lib.count_hit (by simp) hi, hd, i1]; simp; omega
    · simp only [List.length_cons]
      unfold Lib.splitK
      have hm : (Lib.index (numT x ++ 44 :: Lib.join ((y :: r).map numT) [44]) [44] == -1) = false := by rw [hi]; simp
      rw [if_neg (by rw [hm]; simp), hi, Int.toNat_natCast, hd, i2]
      simp
theorem allOk_nums : ∀ (zs : List Int), (∀ z ∈ zs, 0 ≤ z ∧ z < 10) → allOk (zs.map numT) = some zs := by
  intro zs
  induction zs with
  | nil => intro _; rfl
  | cons z r ih =>
    intro h
    rw [List.map_cons]
    unfold allOk
    rw [atoi_dig (h z (by simp)), ih (fun y hy => h y (List.mem_cons_of_mem _ hy))]
    rfl
theorem dig_mem {zs : List Int} (h : Dig zs) : ∀ z ∈ zs, 0 ≤ z ∧ z < 10 := by
  intro z hz
  obtain ⟨j, hj, e⟩ := List.mem_iff_getElem.1 hz
  have := h j hj
  rw [gi_lt hj, e] at this
  exact this
theorem rl_nums {zs : List Int} (h : Dig zs) : rl (numsT zs) = some zs := by
  match zs, h with
  | [], _ => rfl
  | x :: r, h =>
    have hm := dig_mem h
    have hj := join_nums (zs := x :: r) (by simp)
    obtain ⟨h1, h2⟩ := pieces_join x r hm
    rw [hj] at h1 h2
    have hx := hm x (by simp)
    obtain ⟨n, hn⟩ : ∃ n : Nat, x = (n : Int) := ⟨x.toNat, by omega⟩
    have hne : numsT (x :: r) ≠ [45] := by
      rw [← hj]
      intro e
      have e2 : (Lib.join ((x :: r).map numT) [44]).head? = some (UInt8.ofNat (48 + n)) := by
        rw [List.map_cons, hn, numT_small (by omega), Lib.join_cons]; rfl
      rw [e] at e2
      simp only [List.head?_cons, Option.some.injEq] at e2
      exact (dig_ne (n := n) (by omega)).2.2 e2.symm
    unfold rl
    rw [if_neg hne]
    unfold pieces
    rw [h1, h2]
    exact allOk_nums _ hm
theorem pl_text {W : Int} {zs : List Int} (h : lad W zs = true) : pl (textT W zs) = some (W, zs) := by
  have hW := (lad_iff.1 h).1
  have hd := lad_dig h
  have hc : Lib.cut (textT W zs) [58] = (numT W, numsT zs, true) := by
    unfold textT
    rw [List.append_assoc, List.singleton_append]
    exact cut_at (numT_not (by omega)).2
  unfold pl
  rw [hc]
  simp only [atoi_dig (show 0 ≤ W ∧ W < 10 by omega), rl_nums hd, Option.map_some]
theorem res_text {W : Int} {zs : List Int} (h : lad W zs = true) : res (textT W zs) = some (W, zs) := by
  unfold res
  rw [pl_text h]
  simp [h]
theorem res_some {l : List UInt8} {v : Int} {vs : List Int} (h : res l = some (v, vs)) : lad v vs = true ∧ textT v vs = l := by
  unfold res at h
  split at h
  · split at h
    · rename_i hc
      injection h with h
      injection h with h1 h2
      subst h1; subst h2
      exact hc
    · cases h
  · cases h
theorem allOk_no {L : List (List UInt8)} {p : List UInt8} (hp : p ∈ L) (h : ∀ v, Lib.atoiAll p ≠ .ok v) : allOk L = none := by
  induction L with
  | nil => cases hp
  | cons q r ih =>
    unfold allOk
    rcases List.mem_cons.1 hp with e | e
    · subst e
      split
      · rename_i v hv; exact absurd hv (h v)
      · rfl
    · split
      · rw [ih e]; rfl
      · rfl
def valOf (p : List UInt8) : Int := match Lib.atoiAll p with
  | .ok v => v
  | _ => 0
theorem allOk_yes {L : List (List UInt8)} (h : ∀ p ∈ L, ∃ v, Lib.atoiAll p = .ok v) : allOk L = some (L.map valOf) := by
  induction L with
  | nil => rfl
  | cons q r ih =>
    obtain ⟨v, hv⟩ := h q (by simp)
    unfold allOk
    rw [ih (fun p hp => h p (List.mem_cons_of_mem _ hp))]
    simp only [hv, Option.map_some, List.map_cons, valOf]
end Go.Proofs.YtdafkihbcdclgaaDoor

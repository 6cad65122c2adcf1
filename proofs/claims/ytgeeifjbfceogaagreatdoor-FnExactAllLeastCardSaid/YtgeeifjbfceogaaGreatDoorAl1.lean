/- The rungs of all least ladders, in order: mathematics alone. -/
import Derived.Test.YtgeeifjbfceogaaGreatDoorMgM
import Derived.Test.YtgeeifjbfceogaaGreatDoorMgF
namespace Go.Proofs.YtgeeifjbfceogaaGreatDoor
open Go

def alF : Nat → List Int → List (List Int)
  | 0, _ => [[]]
  | f + 1, q => (dscL q).flatMap fun d => (alF f (exch q d.toNat)).map fun l => d :: l
/-- the rungs of all least ladders with a result -/
def alL (q : List Int) : List (List Int) := alF (ninv q) q
/-- .. that begin with these rungs -/
def alD (q : List Int) (ds : List Int) : List (List Int) := ds.flatMap fun d => (alL (exch q d.toNat)).map fun l => d :: l
theorem alD_nil (q : List Int) : alD q [] = [] := rfl
theorem alD_append (q a b : List Int) : alD q (a ++ b) = alD q a ++ alD q b := by simp [alD]
theorem alD_one (q : List Int) (d : Int) : alD q [d] = (alL (exch q d.toNat)).map fun l => d :: l := by simp [alD]
theorem alL_zero {q : List Int} (h : ninv q = 0) : alL q = [[]] := by unfold alL; rw [h]; rfl
theorem dsc_mem {q : List Int} {d : Int} (h : d ∈ dscL q) : ∃ i : Nat, d = (i : Int) ∧ i + 1 < q.length ∧ gi q (i + 1) < gi q i := by
  obtain ⟨i, h1, h2, h3⟩ := mem_dscK _ h
  exact ⟨i, h1, by omega, h3⟩
theorem alL_step {q : List Int} (h : 0 < ninv q) : alL q = alD q (dscL q) := by
  obtain ⟨f, hf⟩ : ∃ f, ninv q = f + 1 := ⟨ninv q - 1, by omega⟩
  unfold alL alD
  rw [hf]
  simp only [alF]
  have : ∀ (ds : List Int), (∀ d ∈ ds, d ∈ dscL q) → (ds.flatMap fun d => (alF f (exch q d.toNat)).map fun l => d :: l) = ds.flatMap fun d => (alL (exch q d.toNat)).map fun l => d :: l := by
    intro ds
    induction ds with
    | nil => intro _; rfl
    | cons d ds ih =>
      intro hd
      obtain ⟨i, rfl, h2, h3⟩ := dsc_mem (hd d (by simp))
      have h4 := ninv_exch q i h2 h3
      rw [List.flatMap_cons, List.flatMap_cons, ih (fun x hx => hd x (by simp [hx]))]
      unfold alL
      rw [Int.toNat_natCast, show ninv (exch q i) = f by omega]
  exact this _ (fun d hd => hd)
theorem alD_len (q : List Int) : ∀ (ds : List Int), (alD q ds).length = (ds.map fun d => (alL (exch q d.toNat)).length).sum
  | [] => rfl
  | d :: ds => by
    have := alD_append q [d] ds
    rw [show [d] ++ ds = d :: ds from rfl] at this
    rw [this, List.length_append, alD_one, List.length_map, alD_len q ds]
    simp
theorem alL_len : ∀ (f : Nat) (q : List Int), ninv q = f → (alL q).length = cnt q
  | 0, q, h => by rw [alL_zero h, cnt_sorted h]; rfl
  | f + 1, q, h => by
    rw [alL_step (by omega), alD_len, cnt_step (by omega)]
    congr 1
    refine List.map_congr_left fun d hd => ?_
    obtain ⟨i, rfl, h2, h3⟩ := dsc_mem hd
    have h4 := ninv_exch q i h2 h3
    exact alL_len f _ (by rw [Int.toNat_natCast]; omega)
theorem alL_cnt (q : List Int) : (alL q).length = cnt q := alL_len _ q rfl
theorem alL_row : ∀ (f : Nat) (q : List Int), ninv q = f → ∀ r ∈ alL q, r.length = f
  | 0, q, h, r, hr => by rw [alL_zero h] at hr; simp at hr; subst hr; rfl
  | f + 1, q, h, r, hr => by
    rw [alL_step (by omega)] at hr
    obtain ⟨d, hd, hr⟩ := List.mem_flatMap.1 hr
    obtain ⟨l, hl, rfl⟩ := List.mem_map.1 hr
    obtain ⟨i, rfl, h2, h3⟩ := dsc_mem hd
    have h4 := ninv_exch q i h2 h3
    rw [List.length_cons, alL_row f _ (by rw [Int.toNat_natCast]; omega) l hl]
theorem alL_rows (q : List Int) (j : Nat) : (gz (alL q) j).length ≤ ninv q := by
  by_cases hj : j < (alL q).length
  · have e : gz (alL q) j = (alL q)[j] := by simp [gz, List.getD, hj]
    rw [e]
    exact Nat.le_of_eq (alL_row _ q rfl _ (List.getElem_mem hj))
  · have e : gz (alL q) j = [] := by simp [gz, List.getD, List.getElem?_eq_none (Nat.le_of_not_lt hj)]
    rw [e]; simp
theorem alD_prefix (q a b : List Int) : (alD q a).length ≤ (alD q (a ++ b)).length := by rw [alD_append, List.length_append]; omega
/-- the first k first rungs, and j ladders of the next -/
theorem alD_part {q : List Int} {a : List Int} {d : Int} {b : List Int} (h : dscL q = a ++ d :: b) : (alD q a).length + (alL (exch q d.toNat)).length ≤ cnt q := by
  have h0 : 0 < ninv q := by
    rcases Nat.eq_zero_or_pos (ninv q) with h1 | h1
    · rw [dscL_nil h1] at h; simp at h
    · exact h1
  rw [← alL_cnt q, alL_step h0, h, show a ++ d :: b = (a ++ [d]) ++ b by simp, alD_append, List.length_append, alD_append, List.length_append, alD_one, List.length_map]
  omega
theorem dsc_split {q : List Int} {k : Nat} (h : k < (dscL q).length) : dscL q = (dscL q).take k ++ gi (dscL q) k :: (dscL q).drop (k + 1) := by
  have e : gi (dscL q) k = (dscL q)[k] := by simp [gi, List.getD, h]
  rw [e]
  conv => lhs; rw [← List.take_append_drop k (dscL q)]
  rw [List.drop_eq_getElem_cons h]
theorem take_dsc {q : List Int} {k : Nat} (h : k < (dscL q).length) : (dscL q).take (k + 1) = (dscL q).take k ++ [gi (dscL q) k] := by
  have e : gi (dscL q) k = (dscL q)[k] := by simp [gi, List.getD, h]
  rw [e, List.take_add_one, List.getElem?_eq_getElem h]
  rfl
theorem gi_mem {l : List Int} {k : Nat} (h : k < l.length) : gi l k ∈ l := by
  have e : gi l k = l[k] := by simp [gi, List.getD, h]
  rw [e]
  exact List.getElem_mem h
theorem dscK_part {q : List Int} {i : Nat} (hi : i + 1 < q.length) (hd : gi q (i + 1) < gi q i) : (alD q (dscK q i)).length + (alL (exch q i)).length ≤ cnt q := by
  have hm : ∀ j, ∃ b, dscK q (i + 1 + j) = dscK q (i + 1) ++ b := by
    intro j
    induction j with
    | zero => exact ⟨[], by simp⟩
    | succ j ih =>
      obtain ⟨b, hb⟩ := ih
      refine ⟨b ++ (if gi q (i + 1 + j + 1) < gi q (i + 1 + j) then [((i + 1 + j : Nat) : Int)] else []), ?_⟩
      show dscK q (i + 1 + j) ++ (if gi q (i + 1 + j + 1) < gi q (i + 1 + j) then [((i + 1 + j : Nat) : Int)] else []) = _
      rw [hb, List.append_assoc]
  obtain ⟨b, hb⟩ := hm (q.length - 1 - (i + 1))
  rw [show i + 1 + (q.length - 1 - (i + 1)) = q.length - 1 by omega] at hb
  have h1 : dscL q = dscK q i ++ (i : Int) :: b := by
    unfold dscL
    rw [hb]
    simp only [dscK]
    rw [if_pos hd, List.append_assoc]
    rfl
  have := alD_part h1
  rwa [Int.toNat_natCast] at this
theorem mapTake {d : Int} {L : List (List Int)} {j : Nat} (h : j < L.length) : ((L.take (j + 1)).map fun l => d :: l) = ((L.take j).map fun l => d :: l) ++ [d :: gz L j] := by
  rw [List.take_add_one, List.map_append]
  congr 1
  rw [gz_at h]
  rfl
end Go.Proofs.YtgeeifjbfceogaaGreatDoor

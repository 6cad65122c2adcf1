/- The lasting game, the mathematics: a rung below a least ladder. -/
import Derived.Test.YtjopllfhabokkaaMgR
import Derived.Test.YtjopllfhabokkaaO4
namespace Go.Proofs.Ytjopllfhabokkaa
open Go Go.RowKit

theorem home8_giG : ∀ y, y < 8 → gi home8 y = (y : Int) := by decide
/-- each number is at one place -/
theorem ord_hasG {zs : List Int} (h : ord zs = true) {x : Nat} (hx : x < zs.length) : ∃ i, i < zs.length ∧ gi zs i = (x : Int) := by
  have ho := ord_iff.1 h
  have h1 : (x : Int) ∈ srt (seats zs) := by rw [(seats_ord ho.1 ho.2.1).2 h]; have := ho.2.1; exact mem_gi.2 ⟨x, by show x < 8; omega, home8_giG x (by omega)⟩
  rw [(srt_perm _).mem_iff] at h1
  obtain ⟨j, hj, he⟩ := mem_gi.1 h1
  rw [seats_length] at hj
  rw [gi_seats _ _ hj] at he
  by_cases hjl : j < zs.length
  · rw [if_pos hjl] at he; exact ⟨j, hjl, he⟩
  · rw [if_neg hjl] at he; omega
/-- the place of a number -/
theorem backAt_at {zs : List Int} {j : Nat} : ∀ k, (∃ i, i < k ∧ gi zs i = (j : Int)) → ∃ a : Nat, a < k ∧ backAt zs k j = (a : Int) ∧ gi zs a = (j : Int)
  | 0, ⟨i, h, _⟩ => absurd h (by omega)
  | k + 1, ⟨i, h, e⟩ => by
    simp only [backAt]
    by_cases hk : gi zs k = (j : Int)
    · rw [if_pos hk]; exact ⟨k, by omega, rfl, hk⟩
    · rw [if_neg hk]
      obtain ⟨a, h1, h2, h3⟩ := backAt_at k ⟨i, by
        rcases Nat.lt_or_ge i k with h4 | h4
        · exact h4
        · obtain rfl : i = k := by omega
          exact absurd e hk, e⟩
      exact ⟨a, by omega, h2, h3⟩
theorem back_at {zs : List Int} (h : ord zs = true) {j : Nat} (hj : j < zs.length) : ∃ a : Nat, a < zs.length ∧ gi (back zs) j = (a : Int) ∧ gi zs a = (j : Int) := by
  rw [gi_back _ _ hj]
  obtain ⟨i, h1, h2⟩ := ord_hasG h hj
  exact backAt_at _ ⟨i, h1, h2⟩

theorem over_lt {x y r : Int} (h1 : ¬ (x = r ∧ y = r + 1)) (h2 : ¬ (x = r + 1 ∧ y = r)) (hne : x ≠ y) : over y r < over x r ↔ y < x := by
  unfold over
  repeat' split
  all_goals omega
theorem over_over (x r : Int) : over (over x r) r = x := by
  unfold over
  repeat' split
  all_goals omega
theorem cnt_same {r x : Int} {xs : List Int} (hx : x ∉ xs) (h1 : ¬ (x = r ∧ r + 1 ∈ xs)) (h2 : ¬ (x = r + 1 ∧ r ∈ xs)) :
    (xs.map (over · r)).countP (fun y => decide (y < over x r)) = xs.countP (fun y => decide (y < x)) := by
  rw [List.countP_map]
  refine List.countP_congr fun y hy => ?_
  have e := over_lt (x := x) (y := y) (r := r) (fun h => h1 ⟨h.1, h.2 ▸ hy⟩) (fun h => h2 ⟨h.1, h.2 ▸ hy⟩) (fun h => hx (h ▸ hy))
  simp only [Function.comp]
  rw [decide_eq_true_iff, decide_eq_true_iff]
  exact e
theorem invL_lack {r : Int} : ∀ {p : List Int}, p.Nodup → (r ∉ p ∨ r + 1 ∉ p) → invL (p.map (over · r)) = invL p
  | [], _, _ => rfl
  | x :: xs, hn, h => by
    have hn2 := List.nodup_cons.1 hn
    have ih := invL_lack (r := r) hn2.2 (h.elim (fun h => .inl fun e => h (List.mem_cons_of_mem _ e)) (fun h => .inr fun e => h (List.mem_cons_of_mem _ e)))
    simp only [List.map_cons, invL]
    rw [ih, cnt_same hn2.1 (fun e => by
      rcases h with h | h
      · exact h (by simp [e.1])
      · exact h (List.mem_cons_of_mem _ e.2)) (fun e => by
      rcases h with h | h
      · exact h (List.mem_cons_of_mem _ e.2)
      · exact h (by simp [e.1]))]
theorem cnt_both {r : Int} : ∀ {v : List Int}, v.Nodup → r ∉ v → r + 1 ∈ v → (v.map (over · r)).countP (fun y => decide (y < r + 1)) = v.countP (fun y => decide (y < r)) + 1
  | [], _, _, h => by simp at h
  | y :: v, hn, h1, h2 => by
    have hn2 := List.nodup_cons.1 hn
    have hyr : y ≠ r := fun e => h1 (by simp [e])
    simp only [List.map_cons, List.countP_cons]
    by_cases e : y = r + 1
    · have e1 : over y r = r := by unfold over; rw [if_neg (by omega), if_pos e]
      have e2 : (v.map (over · r)).countP (fun y => decide (y < r + 1)) = v.countP (fun y => decide (y < r)) := by
        rw [List.countP_map]
        refine List.countP_congr fun z hz => ?_
        have z1 : z ≠ r := fun e => h1 (by rw [← e]; exact List.mem_cons_of_mem _ hz)
        have z2 : z ≠ r + 1 := fun e' => hn2.1 (by rw [e, ← e']; exact hz)
        simp only [Function.comp]
        rw [decide_eq_true_iff, decide_eq_true_iff]
        unfold over
        rw [if_neg z1, if_neg z2]; omega
      have d1 : decide (r < r + 1) = true := decide_eq_true (by omega)
      have d2 : decide (y < r) = false := decide_eq_false (by omega)
      rw [e1, e2, d1, d2]
      simp
    · have hv : r + 1 ∈ v := by
        rcases List.mem_cons.1 h2 with h | h
        · exact absurd h.symm e
        · exact h
      have ih := cnt_both hn2.2 (fun h => h1 (List.mem_cons_of_mem _ h)) hv
      have e1 : over y r = y := by unfold over; rw [if_neg hyr, if_neg e]
      rw [ih, e1]
      have e3 : decide (y < r + 1) = decide (y < r) := by
        by_cases hh : y < r
        · rw [decide_eq_true hh, decide_eq_true (by omega)]
        · rw [decide_eq_false hh, decide_eq_false (by omega)]
      rw [e3]
      omega
theorem invL_more {r : Int} : ∀ {u v : List Int}, (u ++ r :: v).Nodup → r + 1 ∈ v → invL ((u ++ r :: v).map (over · r)) = invL (u ++ r :: v) + 1
  | [], v, hn, h => by
    have hn2 := List.nodup_cons.1 (show (r :: v).Nodup from hn)
    simp only [List.nil_append, List.map_cons, invL]
    have e : over r r = r + 1 := by unfold over; rw [if_pos rfl]
    rw [e, cnt_both hn2.2 hn2.1 h, invL_lack hn2.2 (.inl hn2.1)]
    omega
  | x :: u, v, hn, h => by
    have hn2 := List.nodup_cons.1 (show (x :: (u ++ r :: v)).Nodup from hn)
    have ih := invL_more hn2.2 h
    have hr : x ≠ r := fun e => hn2.1 (by simp [e])
    have hr1 : x ≠ r + 1 := fun e => hn2.1 (by simp [e, h])
    simp only [List.cons_append, List.map_cons, invL]
    rw [ih, cnt_same hn2.1 (fun e => hr e.1) (fun e => hr1 e.1)]
    omega
theorem split_two {p : List Int} {a b : Nat} (hab : a < b) (hb : b < p.length) : p = p.take a ++ gi p a :: p.drop (a + 1) ∧ gi p b ∈ p.drop (a + 1) := by
  constructor
  · rw [gi_lt (by omega)]
    conv => lhs; rw [← List.take_append_drop a p, List.drop_eq_getElem_cons (i := a) (l := p) (by omega)]
  · rw [gi_lt hb]
    refine List.mem_iff_getElem.2 ⟨b - (a + 1), by simp; omega, ?_⟩
    simp only [List.getElem_drop]
    congr 1; omega
theorem invL_up {p : List Int} {a b : Nat} {r : Int} (hn : p.Nodup) (hab : a < b) (hb : b < p.length) (h1 : gi p a = r) (h2 : gi p b = r + 1) : invL (p.map (over · r)) = invL p + 1 := by
  obtain ⟨e1, e2⟩ := split_two (p := p) hab hb
  rw [h1] at e1
  rw [h2] at e2
  rw [e1] at hn ⊢
  exact invL_more hn e2
theorem map_nodup {p : List Int} {r : Int} (hn : p.Nodup) : (p.map (over · r)).Nodup := List.Pairwise.map (S := (· ≠ ·)) _ (fun _ _ h => over_inj h) hn
theorem invL_down {p : List Int} {a b : Nat} {r : Int} (hn : p.Nodup) (hab : a < b) (hb : b < p.length) (h1 : gi p a = r + 1) (h2 : gi p b = r) : invL p = invL (p.map (over · r)) + 1 := by
  have hg : ∀ j, j < p.length → gi (p.map (over · r)) j = over (gi p j) r := fun j hj => by
    rw [gi_lt (by simpa using hj), gi_lt hj]; simp
  have h := invL_up (p := p.map (over · r)) (a := a) (b := b) (r := r) (map_nodup hn) hab (by simpa using hb) (by rw [hg a (by omega), h1]; unfold over; rw [if_neg (by omega), if_pos rfl]) (by rw [hg b hb, h2]; unfold over; rw [if_pos rfl])
  have e : (p.map (over · r)).map (over · r) = p := by
    rw [List.map_map]
    conv => rhs; rw [← List.map_id p]
    refine List.map_congr_left fun x _ => ?_
    simp only [Function.comp, id]
    exact over_over x r
  rw [e] at h
  exact h
theorem end_snoc (zs : List Int) (r s : Int) : endOf (zs ++ [r]) s = over (endOf zs s) r := by
  unfold endOf at_
  rw [List.take_of_length_le (Nat.le_refl _), List.take_of_length_le (Nat.le_refl _), List.foldl_append]; rfl
theorem res_snoc (zs : List Int) (r : Int) (N : Nat) : res (zs ++ [r]) N = (res zs N).map (over · r) := by
  unfold res
  rw [List.map_map]
  refine List.map_congr_left fun i _ => ?_
  exact end_snoc zs r _
theorem lad_snoc {N : Nat} {zs : List Int} {r : Nat} (h : lad (N : Int) zs = true) (hr : r + 1 < N) (hl : zs.length < 60) : lad (N : Int) (zs ++ [(r : Int)]) = true := by
  have h1 := lad_iff.1 h
  refine lad_iff.2 ⟨h1.1, by simp; omega, ?_⟩
  have h2 := h1.2.2
  unfold allIn at h2 ⊢
  rw [List.all_append, h2]
  simp [inB]
  omega
theorem lst_len {N : Nat} {zs : List Int} (h : lstB (N : Int) zs = true) : lad (N : Int) zs = true ∧ zs.length = invL (res zs N) ∧ zs.length ≤ 56 := by
  rcases hq : lad (N : Int) zs with _ | _
  · rw [lstB_no hq] at h; cases h
  · rw [lstB_yes hq, beq_iff_eq] at h
    have := invL_le (zs := res zs N) (by rw [res_length]; have := (lad_iff.1 hq).1; omega)
    exact ⟨rfl, by omega, by omega⟩
/-- a rung can be added just where those at its wires have not changed sides -/
theorem last_move {N : Nat} {zs : List Int} {r : Nat} (h : lstB (N : Int) zs = true) (hr : r + 1 < N) :
    lad (N : Int) (zs ++ [(r : Int)]) = true ∧ lstB (N : Int) (zs ++ [(r : Int)]) = decide (gi (back (res zs N)) r < gi (back (res zs N)) (r + 1)) := by
  obtain ⟨hl, h1, h2⟩ := lst_len h
  have h3 := lad_snoc hl hr (by omega)
  refine ⟨h3, ?_⟩
  have ho := res_ord hl
  have hlen := res_length zs N
  have hnd := (ord_iff.1 ho).2.2.2
  obtain ⟨a, ha, e1, e2⟩ := back_at ho (j := r) (by omega)
  obtain ⟨b, hb, e3, e4⟩ := back_at ho (j := r + 1) (by omega)
  have e5 : gi (res zs N) b = (r : Int) + 1 := by rw [e4]; omega
  rw [lstB_yes h3, res_snoc, e1, e3]
  rcases Nat.lt_trichotomy a b with hab | hab | hab
  · have := invL_up hnd hab hb e2 e5
    rw [this, decide_eq_true (by omega)]
    simp; omega
  · subst hab
    omega
  · have := invL_down hnd hab ha e5 e2
    rw [decide_eq_false (by omega)]
    rw [beq_eq_false_iff_ne]
    simp; omega
/-- the rungs that can be added, of the first k -/
def lmK (zs : List Int) (N : Nat) : Nat → List Int
  | 0 => []
  | k + 1 => if gi (back (res zs N)) k < gi (back (res zs N)) (k + 1) then lmK zs N k ++ [(k : Int)] else lmK zs N k
theorem lmK_yes {zs : List Int} {N k : Nat} (h : gi (back (res zs N)) k < gi (back (res zs N)) (k + 1)) : lmK zs N (k + 1) = lmK zs N k ++ [(k : Int)] := by simp only [lmK]; rw [if_pos h]
theorem lmK_no {zs : List Int} {N k : Nat} (h : ¬ gi (back (res zs N)) k < gi (back (res zs N)) (k + 1)) : lmK zs N (k + 1) = lmK zs N k := by simp only [lmK]; rw [if_neg h]
theorem lmK_len (zs : List Int) (N : Nat) : ∀ k, (lmK zs N k).length ≤ k
  | 0 => Nat.le_refl _
  | k + 1 => by have := lmK_len zs N k; simp only [lmK]; split <;> simp <;> omega
def lmL (W : Int) (zs : List Int) : List Int := if lstB W zs = true then lmK zs W.toNat (W.toNat - 1) else []
theorem lmL_yes {W : Int} {zs : List Int} (h : lstB W zs = true) : lmL W zs = lmK zs W.toNat (W.toNat - 1) := by unfold lmL; rw [if_pos h]
theorem lmL_no {W : Int} {zs : List Int} (h : lstB W zs = false) : lmL W zs = [] := by unfold lmL; rw [h]; rfl
theorem lmL_len (W : Int) (zs : List Int) : (lmL W zs).length ≤ 1000 := by
  rcases h : lstB W zs with _ | _
  · rw [lmL_no h]; simp
  · rw [lmL_yes h]
    have h1 : lad W zs = true := by
      rcases hq : lad W zs with _ | _
      · rw [lstB_no hq] at h; cases h
      · rfl
    have := (lad_iff.1 h1).1
    have := lmK_len zs W.toNat (W.toNat - 1)
    omega
/-- who wins the lasting game -/
def lwT (W : Int) (zs : List Int) : Bool := ((((W.toNat * (W.toNat - 1) / 2 : Nat) : Int) - (zs.length : Int)).tmod 2 == 1)
def lwB (W : Int) (zs : List Int) : Bool := lstB W zs && lwT W zs
theorem lwB_no {W : Int} {zs : List Int} (h : lstB W zs = false) : lwB W zs = false := by unfold lwB; rw [h]; rfl
theorem lwB_yes {W : Int} {zs : List Int} (h : lstB W zs = true) : lwB W zs = lwT W zs := by unfold lwB; rw [h]; rfl
end Go.Proofs.Ytjopllfhabokkaa

/- Levels and orders: how many levels make an order. -/
import Derived.Test.YtnhhbpogjhcibaaCo4
import Derived.Test.YtnhhbpogjhcibaaMgM
import Derived.Test.YtnhhbpogjhcibaaLv2
namespace Go.Proofs.Ytnhhbpogjhcibaa
open Go Go.RowKit

/-- an order with a level on top -/
def top (p l : List Int) : List Int := l.foldl (fun p r => exch p r.toNat) p
/-- .. and with a level at the bottom -/
def bot (n : Nat) (p l : List Int) : List Int := p.map fun x => gi (top (upto n) l) x.toNat
theorem lvK_mem (n : Nat) : ∀ f r (l : List Int), l ∈ lvK n f r → ∀ x ∈ l, 0 ≤ x ∧ x.toNat + 1 < n
  | 0, r, l, h => by simp [lvK] at h; subst h; simp
  | f + 1, r, l, h => by
    simp only [lvK, List.mem_cons] at h
    rcases h with rfl | h
    · simp
    · unfold lvP at h
      obtain ⟨y, hy, h2⟩ := List.mem_flatMap.1 h
      obtain ⟨l2, h3, rfl⟩ := List.mem_map.1 h2
      have hr := List.mem_range'_1.1 hy
      intro x hx
      rcases List.mem_cons.1 hx with rfl | hx
      · simp; omega
      · exact lvK_mem n f (y + 2) l2 h3 x hx
theorem top_nil (p : List Int) : top p [] = p := rfl
theorem top_length : ∀ (l p : List Int), (top p l).length = p.length
  | [], p => rfl
  | r :: l, p => by
    show (top (exch p r.toNat) l).length = _
    rw [top_length l, exch_length]
theorem top_ok {n : Nat} : ∀ (l : List Int) {p : List Int}, OKp n p → (∀ x ∈ l, 0 ≤ x ∧ x.toNat + 1 < n) → OKp n (top p l)
  | [], p, h, _ => h
  | r :: l, p, h, hl => by
    show OKp n (top (exch p r.toNat) l)
    exact top_ok l (h.exch (hl r (by simp)).2) (fun x hx => hl x (by simp [hx]))
theorem gi_map {f : Int → Int} {p : List Int} {j : Nat} (h : j < p.length) : gi (p.map f) j = f (gi p j) := by
  rw [gi_lt (by rw [List.length_map]; exact h), gi_lt h, List.getElem_map]
theorem map_exch {f : Int → Int} {p : List Int} {i : Nat} (h : i + 1 < p.length) : (exch p i).map f = exch (p.map f) i := by
  unfold exch
  rw [List.map_set, List.map_set, gi_map h, gi_map (by omega)]
theorem map_top {f : Int → Int} : ∀ (l : List Int) {p : List Int}, (∀ x ∈ l, x.toNat + 1 < p.length) → (top p l).map f = top (p.map f) l
  | [], p, _ => rfl
  | r :: l, p, h => by
    show (top (exch p r.toNat) l).map f = top (exch (p.map f) r.toNat) l
    rw [map_top l (fun x hx => by rw [exch_length]; exact h x (by simp [hx])), map_exch (h r (by simp))]
theorem gi_upto {n j : Nat} (h : j < n) : gi (upto n) j = (j : Int) := by
  rw [gi_lt (by rw [upto_len]; exact h)]
  simp [upto]
theorem upto_gi {n : Nat} {q : List Int} (h : q.length = n) : (upto n).map (fun x => gi q x.toNat) = q := by
  refine gi_ext (by rw [List.length_map, upto_len, h]) fun j hj => ?_
  rw [List.length_map, upto_len] at hj
  rw [gi_map (by rw [upto_len]; exact hj), gi_upto hj, Int.toNat_natCast]
/-- what levels make of the order at home -/
def pr (n : Nat) (ws : List (List Int)) : List Int := ws.foldl top (upto n)
def LV (n : Nat) : List (List Int) := lvK n n 0
theorem LV_mem {n : Nat} {l : List Int} (h : l ∈ LV n) : ∀ x ∈ l, 0 ≤ x ∧ x.toNat + 1 < n := lvK_mem n n 0 l h
theorem pr_snoc (n : Nat) (ws : List (List Int)) (l : List Int) : pr n (ws ++ [l]) = top (pr n ws) l := by unfold pr; rw [List.foldl_append]; rfl
theorem pr_length (n : Nat) : ∀ (ws : List (List Int)) (p : List Int), (ws.foldl top p).length = p.length
  | [], p => rfl
  | l :: ws, p => by show ((ws.foldl top (top p l)).length) = _; rw [pr_length n ws, top_length]
theorem map_pr {f : Int → Int} {n : Nat} : ∀ (ws : List (List Int)) {p : List Int}, p.length = n → (∀ l ∈ ws, l ∈ LV n) → (ws.foldl top p).map f = ws.foldl top (p.map f)
  | [], p, _, _ => rfl
  | l :: ws, p, hp, h => by
    show (ws.foldl top (top p l)).map f = ws.foldl top (top (p.map f) l)
    rw [map_pr ws (by rw [top_length]; exact hp) (fun x hx => h x (by simp [hx])), map_top l (fun x hx => by rw [hp]; exact (LV_mem (h l (by simp)) x hx).2)]
theorem pr_cons {n : Nat} {ws : List (List Int)} {l : List Int} (h : ∀ x ∈ ws, x ∈ LV n) : pr n (l :: ws) = bot n (pr n ws) l := by
  show ws.foldl top (top (upto n) l) = _
  unfold bot pr
  rw [map_pr ws (upto_len n) h]
  congr 1
  exact (upto_gi (by rw [top_length, upto_len])).symm
theorem pr_ok {n : Nat} (h1 : 1 ≤ n) (h8 : n ≤ 8) {ws : List (List Int)} (h : ∀ l ∈ ws, l ∈ LV n) : OKp n (pr n ws) := by
  have : ∀ (ws : List (List Int)) (p : List Int), OKp n p → (∀ l ∈ ws, l ∈ LV n) → OKp n (ws.foldl top p) := by
    intro ws
    induction ws with
    | nil => exact fun p hp _ => hp
    | cons l ws ih => exact fun p hp hl => ih _ (top_ok l hp (LV_mem (hl l (by simp)))) (fun x hx => hl x (by simp [hx]))
  exact this ws _ (upto_ok h1 h8) h
theorem top_twice {n : Nat} (h2 : 2 ≤ n) (h6 : n ≤ 6) {l : List Int} (hl : l ∈ LV n) {p : List Int} (hp : p.length = n) : top (top p l) l = p := by
  have key : ∀ l ∈ LV n, top (top (upto n) l) l = upto n := by
    obtain rfl | rfl | rfl | rfl | rfl : n = 2 ∨ n = 3 ∨ n = 4 ∨ n = 5 ∨ n = 6 := by omega
    all_goals decide +kernel
  have hm := LV_mem hl
  have e := congrArg (List.map fun x => gi p x.toNat) (key l hl)
  rw [map_top l (fun x hx => by rw [top_length, upto_len]; exact (hm x hx).2), map_top l (fun x hx => by rw [upto_len]; exact (hm x hx).2), upto_gi hp] at e
  exact e

/-- m levels make the order -/
def Rk (n m : Nat) (p : List Int) : Prop := ∃ ws, ws.length = m ∧ (∀ l ∈ ws, l ∈ LV n) ∧ p = pr n ws
theorem Rk.home (n : Nat) : Rk n 0 (upto n) := ⟨[], rfl, by simp, rfl⟩
theorem Rk.zero {n : Nat} {p : List Int} (h : Rk n 0 p) : p = upto n := by
  obtain ⟨ws, h1, _, h3⟩ := h
  rw [List.length_eq_zero_iff.1 h1] at h3
  exact h3
theorem Rk.top {n m : Nat} {p l : List Int} (h : Rk n m p) (hl : l ∈ LV n) : Rk n (m + 1) (top p l) := by
  obtain ⟨ws, h1, h2, h3⟩ := h
  refine ⟨ws ++ [l], by simp [h1], fun x hx => ?_, by rw [pr_snoc, h3]⟩
  rcases List.mem_append.1 hx with h | h
  · exact h2 x h
  · rw [List.mem_singleton.1 h]; exact hl
theorem Rk.bot {n m : Nat} {p l : List Int} (h : Rk n m p) (hl : l ∈ LV n) : Rk n (m + 1) (bot n p l) := by
  obtain ⟨ws, h1, h2, h3⟩ := h
  refine ⟨l :: ws, by simp [h1], fun x hx => ?_, by rw [pr_cons h2, h3]⟩
  rcases List.mem_cons.1 hx with rfl | h
  · exact hl
  · exact h2 x h
theorem Rk.down {n m : Nat} (h2 : 2 ≤ n) (h6 : n ≤ 6) {p : List Int} (h : Rk n (m + 1) p) : ∃ l ∈ LV n, Rk n m (Go.Proofs.Ytnhhbpogjhcibaa.top p l) := by
  obtain ⟨ws, g1, g2, g3⟩ := h
  rcases List.eq_nil_or_concat ws with e | ⟨ws', l, e⟩
  · rw [e] at g1; simp at g1
  · subst e
    refine ⟨l, g2 l (by simp), ws', by simpa using g1, fun x hx => g2 x (by simp [hx]), ?_⟩
    rw [g3, List.concat_eq_append, pr_snoc, top_twice h2 h6 (g2 l (by simp))]
    exact (pr_length n _ _).trans (upto_len n)
theorem Rk.ok {n m : Nat} (h1 : 1 ≤ n) (h8 : n ≤ 8) {p : List Int} (h : Rk n m p) : OKp n p := by
  obtain ⟨ws, _, h2, rfl⟩ := h
  exact pr_ok h1 h8 h2
theorem single_LV {n r : Nat} (h2 : 2 ≤ n) (h6 : n ≤ 6) (hr : r + 1 < n) : [(r : Int)] ∈ LV n := by
  have key : ∀ r, r < n - 1 → [(r : Int)] ∈ LV n := by
    obtain rfl | rfl | rfl | rfl | rfl : n = 2 ∨ n = 3 ∨ n = 4 ∨ n = 5 ∨ n = 6 := by omega
    all_goals decide +kernel
  exact key r (by omega)
theorem nil_LV {n : Nat} (h2 : 2 ≤ n) : [] ∈ LV n := by
  obtain ⟨f, rfl⟩ : ∃ f, n = f + 1 := ⟨n - 1, by omega⟩
  simp [LV, lvK]
theorem no_desc {n : Nat} {p : List Int} (h : OKp n p) (hd : ∀ i, i + 1 < n → ¬ gi p (i + 1) < gi p i) : p = upto n := by
  have hn := nodup_gi.1 (ord_iff.1 h.1).2.2.2
  have hb : ∀ i, i < n → 0 ≤ gi p i ∧ gi p i < (n : Int) := fun i hi => by
    have := (ord_iff.1 h.1).2.2.1 (gi p i) (by rw [gi_lt (by rw [h.2]; exact hi)]; exact List.getElem_mem _)
    rw [h.2] at this
    exact this
  have hs : ∀ i, i + 1 < n → gi p i < gi p (i + 1) := fun i hi => by
    have h1 := hd i hi
    have h3 := hn i (i + 1) (by omega) (by rw [h.2]; exact hi)
    omega
  have lo : ∀ i, i < n → (i : Int) ≤ gi p i := by
    intro i
    induction i with
    | zero => intro h0; have := hb 0 h0; simpa using this.1
    | succ i ih => intro h0; have := ih (by omega); have := hs i h0; push_cast; omega
  have up : ∀ k i, i + k + 1 = n → gi p i ≤ (i : Int) := by
    intro k
    induction k with
    | zero => intro i hi; have := hb i (by omega); omega
    | succ k ih => intro i hi; have h3 := ih (i + 1) (by omega); have := hs i (by omega); push_cast at h3; omega
  refine gi_ext (by rw [h.2, upto_len]) fun j hj => ?_
  rw [h.2] at hj
  have h3 := lo j hj
  have h4 := up (n - j - 1) j (by omega)
  rw [gi_upto hj]
  omega
theorem Rk.few {n : Nat} (h2 : 2 ≤ n) (h6 : n ≤ 6) : ∀ (M : Nat) (p : List Int), OKp n p → ninv p < M → ∃ m, m ≤ ninv p ∧ Rk n m p
  | 0, p, _, h => by omega
  | M + 1, p, hp, hM => by
    by_cases hd : ∃ i, i + 1 < n ∧ gi p (i + 1) < gi p i
    · obtain ⟨i, hi, hlt⟩ := hd
      have hinv := ninv_exch p i (by rw [hp.2]; exact hi) hlt
      obtain ⟨m, hle, hm⟩ := Rk.few h2 h6 M (exch p i) (hp.exch hi) (by omega)
      refine ⟨m + 1, by omega, ?_⟩
      have h3 := hm.top (single_LV h2 h6 hi)
      have e : Go.Proofs.Ytnhhbpogjhcibaa.top (exch p i) [(i : Int)] = p := by
        show exch (exch p i) (i : Int).toNat = p
        rw [Int.toNat_natCast, exch_exch (by rw [hp.2]; exact hi)]
      rwa [e] at h3
    · have e := no_desc hp (fun i hi hlt => hd ⟨i, hi, hlt⟩)
      exact ⟨0, Nat.zero_le _, by rw [e]; exact Rk.home n⟩
theorem Rk.all {n : Nat} (h2 : 2 ≤ n) (h6 : n ≤ 6) (M : Nat) (p : List Int) (hp : OKp n p) (hM : ninv p < M) : ∃ m, Rk n m p := by
  obtain ⟨m, _, h⟩ := Rk.few h2 h6 M p hp hM
  exact ⟨m, h⟩
theorem least {P : Nat → Prop} : ∀ (m : Nat), P m → ∃ m, P m ∧ ∀ k, P k → m ≤ k := by
  intro m
  induction m using Nat.strongRecOn with
  | ind m ih =>
    intro hm
    by_cases h : ∃ k, k < m ∧ P k
    · obtain ⟨k, hk, hp⟩ := h
      exact ih k hk hp
    · exact ⟨m, hm, fun k hk => Nat.le_of_not_lt fun hlt => h ⟨k, hlt, hk⟩⟩
/-- the least number of levels that make an order -/
noncomputable def dep (n : Nat) (p : List Int) : Nat := Classical.epsilon fun m => Rk n m p ∧ ∀ k, Rk n k p → m ≤ k
theorem dep_at {n m : Nat} {p : List Int} (h : Rk n m p) : Rk n (dep n p) p ∧ ∀ k, Rk n k p → dep n p ≤ k := by
  have := Classical.epsilon_spec (least (P := fun m => Rk n m p) m h)
  exact this
theorem dep_is {n m : Nat} {p : List Int} (h : Rk n m p) (hm : ∀ k, Rk n k p → m ≤ k) : m = dep n p := by
  have h1 := dep_at h
  have := hm _ h1.1
  have := h1.2 _ h
  omega
theorem dep_home (n : Nat) : dep n (upto n) = 0 := (dep_is (Rk.home n) (fun _ _ => Nat.zero_le _)).symm
theorem dep_zero {n : Nat} (h2 : 2 ≤ n) (h6 : n ≤ 6) {p : List Int} (hp : OKp n p) (h : dep n p = 0) : p = upto n := by
  obtain ⟨m, hm⟩ := Rk.all h2 h6 _ p hp (Nat.lt_succ_self _)
  have := (dep_at hm).1
  rw [h] at this
  exact this.zero
theorem dep_few {n : Nat} (h2 : 2 ≤ n) (h6 : n ≤ 6) {p : List Int} (hp : OKp n p) : dep n p ≤ ninv p := by
  obtain ⟨m, hle, hm⟩ := Rk.few h2 h6 _ p hp (Nat.lt_succ_self _)
  have := (dep_at hm).2 _ hm
  omega
theorem dep_top {n : Nat} (h2 : 2 ≤ n) (h6 : n ≤ 6) {p l : List Int} (hp : OKp n p) (hl : l ∈ LV n) : dep n p ≤ dep n (top p l) + 1 := by
  obtain ⟨m, hm⟩ := Rk.all h2 h6 _ p hp (Nat.lt_succ_self _)
  have h1 := (dep_at (hm.top hl)).1.top hl
  rw [top_twice h2 h6 hl hp.2] at h1
  exact (dep_at hm).2 _ h1
theorem dep_down {n : Nat} (h2 : 2 ≤ n) (h6 : n ≤ 6) {p : List Int} (hp : OKp n p) {m : Nat} (h : dep n p = m + 1) : ∃ l ∈ LV n, dep n (top p l) = m := by
  obtain ⟨k, hk⟩ := Rk.all h2 h6 _ p hp (Nat.lt_succ_self _)
  have h1 := (dep_at hk).1
  rw [h] at h1
  obtain ⟨l, hl, h3⟩ := h1.down h2 h6
  refine ⟨l, hl, ?_⟩
  have h4 := (dep_at h3).2 _ h3
  have h5 := dep_top h2 h6 hp hl
  omega
end Go.Proofs.Ytnhhbpogjhcibaa

/- Codes and orders undo each other; codes add up to inversions and tell descents: mathematics. -/
import Derived.Test.YtcjdojnninkgbaaOc1
import Derived.Test.YtcjdojnninkgbaaCd2
import Derived.Test.YtcjdojnninkgbaaDs2
import Derived.Test.YtcjdojnninkgbaaMgG
namespace Go.Proofs.Ytcjdojnninkgbaa
open Go Go.RowKit

/-- the code, from behind -/
def cod : List Int → List Int
  | [] => []
  | z :: zs => (zs.countP (fun y => decide (y < z)) : Int) :: cod zs
theorem gi_cons (z : Int) (zs : List Int) (j : Nat) : gi (z :: zs) (j + 1) = gi zs j := by simp [gi, List.getD]
theorem gi_zero (z : Int) (zs : List Int) : gi (z :: zs) 0 = z := by simp [gi, List.getD]
theorem cntB_cons (z : Int) (zs : List Int) (i : Nat) : ∀ m, cntB (z :: zs) (i + 1) m = cntB zs i m
  | 0 => rfl
  | m + 1 => by
    simp only [cntB]
    rw [cntB_cons z zs i m, gi_cons, show i + 1 + 1 + m = (i + 1 + m) + 1 by omega, gi_cons]
theorem cntB_zero (z : Int) (zs : List Int) : ∀ m, m ≤ zs.length → cntB (z :: zs) 0 m = (zs.take m).countP (fun y => decide (y < z))
  | 0, _ => by simp [cntB]
  | m + 1, h => by
    have e : zs.take (m + 1) = zs.take m ++ [zs[m]] := by rw [List.take_append_getElem]
    rw [e, List.countP_append]
    simp only [cntB]
    rw [cntB_zero z zs m (by omega), gi_zero, show 0 + 1 + m = m + 1 by omega, gi_cons, gi_lt (by omega)]
    congr 1
    by_cases hz : zs[m] < z
    · rw [if_pos hz]; simp [hz]
    · rw [if_neg hz]; simp [hz]
theorem codeK_cons (z : Int) (zs : List Int) : ∀ k, k ≤ zs.length → codeK (z :: zs) (k + 1) = (zs.countP (fun y => decide (y < z)) : Int) :: codeK zs k
  | 0, _ => by
    simp only [codeK, List.nil_append, List.length_cons]
    rw [show zs.length + 1 - (0 + 1) = zs.length by omega, cntB_zero z zs _ (Nat.le_refl _), List.take_length]
  | k + 1, h => by
    rw [codeK, codeK_cons z zs k (by omega), codeK, cntB_cons]
    simp only [List.length_cons, List.cons_append]
    rw [show zs.length + 1 - (k + 1 + 1) = zs.length - (k + 1) by omega]
theorem codeL_cod : ∀ zs : List Int, codeL zs = cod zs
  | [] => rfl
  | z :: zs => by
    have h := codeL_cod zs
    unfold codeL at h ⊢
    rw [List.length_cons, codeK_cons z zs _ (Nat.le_refl _), h]
    rfl
theorem cod_len : ∀ zs : List Int, (cod zs).length = zs.length
  | [] => rfl
  | z :: zs => by simp [cod, cod_len zs]

/-- in a rising list as many are less as stand ahead -/
theorem rise_at : ∀ (l : List Int) (z : Int), l.Pairwise (· < ·) → z ∈ l →
    l.countP (fun y => decide (y < z)) < l.length ∧ gi l (l.countP (fun y => decide (y < z))) = z ∧ l.eraseIdx (l.countP (fun y => decide (y < z))) = l.erase z
  | [], z, _, h => by cases h
  | a :: t, z, hp, hz => by
    rw [List.pairwise_cons] at hp
    by_cases e : a = z
    · subst e
      have h0 : (a :: t).countP (fun y => decide (y < a)) = 0 := by
        rw [List.countP_eq_zero]
        intro y hy
        rcases List.mem_cons.1 hy with rfl | hy
        · simp
        · have := hp.1 y hy; simp; omega
      rw [h0]
      exact ⟨by simp, gi_zero _ _, by simp⟩
    · have hz2 : z ∈ t := by
        rcases List.mem_cons.1 hz with rfl | h
        · exact absurd rfl e
        · exact h
      have haz := hp.1 z hz2
      obtain ⟨h1, h2, h3⟩ := rise_at t z hp.2 hz2
      have hc : (a :: t).countP (fun y => decide (y < z)) = t.countP (fun y => decide (y < z)) + 1 := by rw [List.countP_cons, if_pos (by simp; exact haz)]
      rw [hc]
      refine ⟨by simp; omega, by rw [gi_cons]; exact h2, ?_⟩
      rw [List.eraseIdx_cons_succ, h3, List.erase_cons_tail (by simpa using e)]
/-- where one is taken out of a rising list, as many are less as stood ahead -/
theorem rise_cnt : ∀ (l : List Int) (x : Nat), l.Pairwise (· < ·) → x < l.length → (l.eraseIdx x).countP (fun y => decide (y < gi l x)) = x
  | [], x, _, h => by simp at h
  | a :: t, 0, hp, _ => by
    rw [List.pairwise_cons] at hp
    rw [List.eraseIdx_cons_zero, gi_zero, List.countP_eq_zero]
    intro y hy
    have := hp.1 y hy; simp; omega
  | a :: t, x + 1, hp, hx => by
    rw [List.pairwise_cons] at hp
    have hx2 : x < t.length := by simpa using hx
    rw [List.eraseIdx_cons_succ, gi_cons, List.countP_cons, rise_cnt t x hp.2 hx2, if_pos (by
      have := hp.1 (gi t x) (by rw [gi_lt hx2]; exact List.getElem_mem hx2)
      simp; exact this)]

theorem order_code : ∀ (zs left : List Int), left.Pairwise (· < ·) → List.Perm zs left → orderC left (cod zs) = some zs
  | [], left, _, _ => by simp [cod, orderC]
  | z :: zs, left, hp, hperm => by
    have hz : z ∈ left := hperm.subset (by simp)
    obtain ⟨h1, h2, h3⟩ := rise_at left z hp hz
    have hc : zs.countP (fun y => decide (y < z)) = left.countP (fun y => decide (y < z)) := by
      rw [← hperm.countP_eq, List.countP_cons, if_neg (by simp), Nat.add_zero]
    have h4 : List.Perm zs (left.erase z) := (List.cons_perm_iff_perm_erase.1 hperm).2
    have ih := order_code zs (left.erase z) (hp.sublist List.erase_sublist) h4
    simp only [cod, orderC]
    rw [if_pos (by rw [hc]; omega), hc, Int.toNat_natCast, h3, ih, h2]
    rfl
theorem cons_eraseIdx_perm (l : List Int) (q : Nat) (hq : q < l.length) : List.Perm (l[q] :: l.eraseIdx q) l := by
  rw [List.eraseIdx_eq_take_drop_succ]
  have e : l.take q ++ l[q] :: l.drop (q + 1) = l := by rw [List.getElem_cons_drop, List.take_append_drop]
  have h := List.perm_middle (l₁ := l.take q) (l₂ := l.drop (q + 1)) (a := l[q])
  rw [e] at h
  exact h.symm
theorem code_order : ∀ (xs left r : List Int), left.Pairwise (· < ·) → left.length = xs.length → orderC left xs = some r → List.Perm r left ∧ cod r = xs
  | [], left, r, _, hl, h => by
    simp only [orderC] at h
    cases h
    obtain rfl : left = [] := List.eq_nil_of_length_eq_zero hl
    exact ⟨List.Perm.refl _, rfl⟩
  | x :: xs, left, r, hp, hl, h => by
    simp only [orderC] at h
    split at h
    · rename_i hx
      obtain ⟨r2, hr2, rfl⟩ := Option.map_eq_some_iff.1 h
      obtain ⟨q, rfl⟩ : ∃ q : Nat, x = q := ⟨x.toNat, by omega⟩
      have hq : q < left.length := by omega
      rw [Int.toNat_natCast] at hr2 ⊢
      obtain ⟨hp2, hc2⟩ := code_order xs (left.eraseIdx q) r2 (hp.sublist (List.eraseIdx_sublist _ _)) (by rw [List.length_eraseIdx_of_lt hq, hl]; simp) hr2
      refine ⟨(hp2.cons _).trans (by rw [gi_lt hq]; exact cons_eraseIdx_perm left q hq), ?_⟩
      simp only [cod]
      rw [hc2, hp2.countP_eq, rise_cnt left q hp hq]
    · cases h
theorem upto_rise : ∀ n, (upto n).Pairwise (· < ·)
  | 0 => by simp [upto]
  | n + 1 => by
    rw [upto_succ, List.pairwise_append]
    refine ⟨upto_rise n, by simp, fun a ha b hb => ?_⟩
    simp [upto] at ha
    obtain ⟨k, hk, rfl⟩ := ha
    simp at hb
    omega
theorem ord_upto {n : Nat} (h1 : 1 ≤ n) (h8 : n ≤ 8) : ord (upto n) = true := by
  match n, h1, h8 with
  | 1, _, _ => decide
  | 2, _, _ => decide
  | 3, _, _ => decide
  | 4, _, _ => decide
  | 5, _, _ => decide
  | 6, _, _ => decide
  | 7, _, _ => decide
  | 8, _, _ => decide
theorem seats_appK {zs : List Int} (h : zs.length ≤ 8) : seats zs = zs ++ ((List.range (8 - zs.length)).map fun (j : Nat) => ((zs.length + j : Nat) : Int)) := by
  refine gi_ext (by rw [seats_length]; simp; omega) fun j hj => ?_
  rw [seats_length] at hj
  rw [gi_seats zs j hj]
  unfold gi
  by_cases hlt : j < zs.length
  · rw [if_pos hlt]
    simp [List.getD, List.getElem?_append_left hlt]
  · rw [if_neg hlt]
    simp only [List.getD]
    rw [List.getElem?_append_right (by omega)]
    rw [List.getElem?_map, List.getElem?_range (by omega)]
    simp
    omega
theorem ord_permsK {a b : List Int} (ha : ord a = true) (hb : ord b = true) (hl : a.length = b.length) : List.Perm a b := by
  have a1 := ord_iff.1 ha
  have b1 := ord_iff.1 hb
  have sa := (seats_ord a1.1 a1.2.1).2 ha
  have sb := (seats_ord b1.1 b1.2.1).2 hb
  have hp : List.Perm (seats a) (seats b) := (srt_perm (seats a)).symm.trans (by rw [sa, ← sb]; exact srt_perm (seats b))
  rw [seats_appK a1.2.1, seats_appK b1.2.1, hl] at hp
  exact (List.perm_append_right_iff _).1 hp
theorem ord_permK {a b : List Int} (h : List.Perm a b) (ha : ord a = true) : ord b = true := by
  obtain ⟨h1, h2, h3, h4⟩ := ord_iff.1 ha
  rw [h.length_eq] at h1 h2 h3
  exact ord_iff.2 ⟨h1, h2, fun x hx => h3 x (h.mem_iff.2 hx), h.nodup_iff.1 h4⟩

/-- the order of an order's code is the order -/
theorem oc_code {zs : List Int} (h : ord zs = true) : ocL (codeN zs) = zs ∧ ocB (codeN zs) = true := by
  have h0 := ord_iff.1 h
  rw [codeN_yes h, codeL_cod]
  refine oc_some (r := zs) (inB_true (by rw [cod_len]; omega)) ?_
  unfold orderL
  rw [cod_len]
  exact order_code zs _ (upto_rise _) (ord_permsK h (ord_upto h0.1 h0.2.1) (by rw [upto_len]))
/-- the code of a code's order is the code -/
theorem code_oc {c : List Int} (h : ocB c = true) : codeN (ocL c) = c ∧ ord (ocL c) = true := by
  unfold ocB at h
  simp only [Bool.and_eq_true] at h
  obtain ⟨r, hr⟩ := Option.isSome_iff_exists.1 h.2
  have hl := inB_iff.1 h.1
  obtain ⟨hp, hc⟩ := code_order c (upto c.length) r (upto_rise _) (upto_len _) hr
  have ho : ord r = true := ord_permK hp.symm (ord_upto (by omega) (by omega))
  rw [(oc_some h.1 hr).1]
  exact ⟨by rw [codeN_yes ho, codeL_cod, hc], ho⟩
/-- a code adds up to the inversions -/
theorem codeK_sum (zs : List Int) : ∀ k, (codeK zs k).sum = (invN zs k : Int)
  | 0 => rfl
  | k + 1 => by
    simp only [codeK, invN, List.sum_append, List.sum_cons, List.sum_nil]
    rw [codeK_sum zs k]
    omega
theorem code_sum {zs : List Int} (h : ord zs = true) : (codeN zs).sum = ((pairsN zs).length : Int) := by
  rw [codeN_yes h, pairsN_yes h]
  unfold codeL invs
  rw [codeK_sum, invN_len]
/-- the descents are where a code falls -/
theorem mem_dscK (zs : List Int) (i : Nat) : ∀ k, (i : Int) ∈ dscK zs k ↔ i < k ∧ gi zs (i + 1) < gi zs i
  | 0 => by simp [dscK]
  | k + 1 => by
    simp only [dscK, List.mem_append]
    rw [mem_dscK zs i k]
    by_cases hk : gi zs (k + 1) < gi zs k
    · rw [if_pos hk]
      constructor
      · rintro (⟨h1, h2⟩ | h)
        · exact ⟨by omega, h2⟩
        · obtain rfl : i = k := by simp at h; omega
          exact ⟨by omega, hk⟩
      · rintro ⟨h1, h2⟩
        by_cases e : i = k
        · right; simp [e]
        · exact .inl ⟨by omega, h2⟩
    · rw [if_neg hk]
      constructor
      · rintro (⟨h1, h2⟩ | h)
        · exact ⟨by omega, h2⟩
        · cases h
      · rintro ⟨h1, h2⟩
        by_cases e : i = k
        · subst e; exact absurd h2 hk
        · exact .inl ⟨by omega, h2⟩
theorem cod_fall : ∀ (zs : List Int) (i : Nat), zs.Nodup → i + 1 < zs.length → (gi (cod zs) (i + 1) < gi (cod zs) i ↔ gi zs (i + 1) < gi zs i)
  | [], i, _, h => by simp at h
  | [z], i, _, h => by simp at h
  | z :: y :: t, 0, hn, _ => by
    have hne : z ≠ y := fun e => by subst e; simp at hn
    simp only [cod, gi_cons, gi_zero, List.countP_cons]
    by_cases hyz : y < z
    · have hm : t.countP (fun x => decide (x < y)) ≤ t.countP (fun x => decide (x < z)) := List.countP_mono_left fun x _ hx => by simp at hx ⊢; omega
      rw [if_pos (by simpa using hyz)]
      constructor
      · intro _; exact hyz
      · intro _; omega
    · have hm : t.countP (fun x => decide (x < z)) ≤ t.countP (fun x => decide (x < y)) := List.countP_mono_left fun x _ hx => by simp at hx ⊢; omega
      rw [if_neg (by simpa using hyz)]
      constructor
      · intro h; omega
      · intro h; exact absurd h hyz
  | z :: y :: t, i + 1, hn, h => by
    have hn2 := (List.nodup_cons.1 hn).2
    have ih := cod_fall (y :: t) i hn2 (by simpa using h)
    simp only [cod, gi_cons] at ih ⊢
    exact ih
theorem desc_code {zs : List Int} (h : ord zs = true) {i : Nat} (hi : i + 1 < zs.length) : (i : Int) ∈ dscN zs ↔ gi (codeN zs) (i + 1) < gi (codeN zs) i := by
  rw [dscN_yes h, codeN_yes h, codeL_cod, cod_fall zs i (ord_iff.1 h).2.2.2 hi]
  unfold dscL
  rw [mem_dscK]
  constructor
  · exact fun h => h.2
  · exact fun h => ⟨by omega, h⟩
end Go.Proofs.Ytcjdojnninkgbaa

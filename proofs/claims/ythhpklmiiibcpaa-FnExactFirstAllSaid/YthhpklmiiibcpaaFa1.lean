/- From which number of rungs on all orders are made. Nothing of the program is said here. -/
import Derived.Test.YthhpklmiiibcpaaLo1
namespace Go.Proofs.Ythhpklmiiibcpaa
open Go Go.RowKit Go.Maps

theorem ssum_pos {α : Type} (f : α → Nat) : ∀ (l : List α), 0 < (l.map f).sum ↔ ∃ x ∈ l, 0 < f x
  | [] => by simp
  | x :: r => by
    rw [List.map_cons, List.sum_cons]
    have h := ssum_pos f r
    constructor
    · intro h1
      rcases Nat.eq_zero_or_pos (f x) with h2 | h2
      · obtain ⟨y, hy, h3⟩ := h.1 (by omega)
        exact ⟨y, by simp [hy], h3⟩
      · exact ⟨x, by simp, h2⟩
    · rintro ⟨y, hy, h3⟩
      rcases List.mem_cons.1 hy with rfl | hy
      · omega
      · have := h.2 ⟨y, hy, h3⟩; omega
/-- where k steps lead -/
def PathR (ov : Int → Int → Int) (m : Nat) : Nat → Int → Int → Prop
  | 0, b, x => b = x
  | k + 1, b, x => ∃ r : Nat, r < m ∧ PathR ov m k (ov b (r : Int)) x
theorem ups_pos {ov : Int → Int → Int} {m : Nat} (f : Int → Nat) : ∀ (k : Nat) (b : Int), 0 < ups ov m k f b ↔ ∃ x, PathR ov m k b x ∧ 0 < f x
  | 0, b => by
    constructor
    · intro h; exact ⟨b, rfl, h⟩
    · rintro ⟨x, rfl, h⟩; exact h
  | k + 1, b => by
    rw [ups_succ]
    unfold up
    rw [ssum_pos]
    constructor
    · rintro ⟨r, hr, h⟩
      obtain ⟨x, h1, h2⟩ := (ups_pos f k _).1 h
      exact ⟨x, ⟨r, List.mem_range.1 hr, h1⟩, h2⟩
    · rintro ⟨x, ⟨r, hr, h1⟩, h2⟩
      exact ⟨r, List.mem_range.2 hr, (ups_pos f k _).2 ⟨x, h1, h2⟩⟩
theorem path_last {ov : Int → Int → Int} {m : Nat} : ∀ (k : Nat) (b x : Int), PathR ov m (k + 1) b x ↔ ∃ (y : Int) (r : Nat), r < m ∧ PathR ov m k b y ∧ x = ov y (r : Int)
  | 0, b, x => by
    constructor
    · rintro ⟨r, hr, h⟩; exact ⟨b, r, hr, rfl, Eq.symm h⟩
    · rintro ⟨y, r, hr, h, rfl⟩; exact ⟨r, hr, by rw [show b = y from h]; rfl⟩
  | k + 1, b, x => by
    constructor
    · rintro ⟨r, hr, h⟩
      obtain ⟨y, s, hs, h1, h2⟩ := (path_last k _ x).1 h
      exact ⟨y, s, hs, ⟨r, hr, h1⟩, h2⟩
    · rintro ⟨y, s, hs, ⟨r, hr, h1⟩, h2⟩
      exact ⟨r, hr, (path_last k _ x).2 ⟨y, s, hs, h1, h2⟩⟩
theorem path_in {n : Nat} (h2 : 2 ≤ n) (h5 : n ≤ 5) : ∀ (k : Nat) (b x : Int), InR n b → PathR (ovR n) (n - 1) k b x → InR n x
  | 0, b, x, hb, h => by rw [← show b = x from h]; exact hb
  | k + 1, b, x, hb, ⟨r, hr, h⟩ => path_in h2 h5 k _ x (hb.over h2 h5 (by omega)).1 h
theorem ovR_twice {n : Nat} (h2 : 2 ≤ n) (h5 : n ≤ 5) {i : Int} (h : InR n i) {r : Nat} (hr : r + 1 < n) : ovR n (ovR n i (r : Int)) (r : Int) = i := by
  have h1 := (h.over h2 h5 hr).2
  have hok := gz_ok (n := n) (by omega) (by omega) h.2
  have e : exch (gz (ordsK n n) (ovR n i (r : Int)).toNat) r = gz (ordsK n n) i.toNat := by
    rw [h1]
    unfold exI
    rw [Int.toNat_natCast]
    exact exch_exch (by have := hok.2; omega)
  show ((rk (exch (gz (ordsK n n) (ovR n i (r : Int)).toNat) (r : Int).toNat) : Nat) : Int) = i
  rw [Int.toNat_natCast, e, rk_gz h2 h5 h.2]
  have := h.1
  omega
/-- in so many ladders: by ranks -/
theorem resN_rank {n j : Nat} (h2 : 2 ≤ n) (h5 : n ≤ 5) {v : Nat} (hv : v < (ordsK n n).length) : ups (ovR n) (n - 1) j (ind (v : Int)) 0 = resN n j (gz (ordsK n n) v) := by
  unfold resN
  rw [← by_ranks h2 h5 (single1 (gz (ordsK n n) v)) j]
  refine ups_on (S := InR n) (fun b r hb hr => (hb.over h2 h5 (by omega)).1) (fun x hx => ?_) j 0 ⟨by omega, ordsK_pos (Nat.le_refl _)⟩
  unfold ind single1
  by_cases e : x = (v : Int)
  · rw [if_pos e, if_pos (by rw [e, Int.toNat_natCast])]
  · rw [if_neg e, if_neg]
    intro e2
    have h3 := rk_gz h2 h5 hx.2
    have h4 := rk_gz h2 h5 hv
    rw [e2, h4] at h3
    have := hx.1
    omega
theorem made_iff {n k v : Nat} (h2 : 2 ≤ n) (h5 : n ≤ 5) (hv : v < (ordsK n n).length) : 0 < gi (chO n k) v ↔ PathR (ovR n) (n - 1) k 0 (v : Int) := by
  rw [gi_chO hv, ← resN_rank h2 h5 hv]
  constructor
  · intro h
    obtain ⟨x, h1, h3⟩ := (ups_pos (ov := ovR n) (m := n - 1) (ind (v : Int)) k 0).1 (by omega)
    unfold ind at h3
    by_cases e : x = (v : Int)
    · rw [← e]; exact h1
    · rw [if_neg e] at h3; omega
  · intro h
    have := (ups_pos (ov := ovR n) (m := n - 1) (ind (v : Int)) k 0).2 ⟨(v : Int), h, by unfold ind; rw [if_pos rfl]; omega⟩
    omega

/-! tables -/
def adjT (n : Nat) : List (List Nat) := (ordsK n n).map fun p => (List.range (n - 1)).map fun r => rk (exch p r)
def stepB (A : List (List Nat)) (T : List Bool) : List Bool := A.map fun row => row.any fun v => T.getD v false
def startB (A : List (List Nat)) : List Bool := true :: (A.drop 1).map fun _ => false
def reachB (A : List (List Nat)) : Nat → List Bool
  | 0 => startB A
  | k + 1 => stepB A (reachB A k)
theorem adjT_at {n : Nat} {i : Nat} (hi : i < (ordsK n n).length) : (adjT n)[i]? = some ((List.range (n - 1)).map fun r => rk (exch (gz (ordsK n n) i) r)) := by
  unfold adjT
  rw [List.getElem?_map]
  have e : (ordsK n n)[i]? = some (gz (ordsK n n) i) := by simp [gz, List.getD, hi]
  rw [e]; rfl
theorem no_map {α : Type} (l : List α) (i : Nat) : (l.map fun _ => false).getD i false = false := by
  simp only [List.getD, List.getElem?_map]
  cases l[i]? <;> rfl
theorem reach_iff {n : Nat} (h2 : 2 ≤ n) (h5 : n ≤ 5) : ∀ (k i : Nat), i < (ordsK n n).length → ((reachB (adjT n) k).getD i false = true ↔ PathR (ovR n) (n - 1) k 0 (i : Int))
  | 0, i, hi => by
    have hz : (0 : Int) < ((ordsK n n).length : Int) := by omega
    show (startB (adjT n)).getD i false = true ↔ (0 : Int) = (i : Int)
    unfold startB
    rcases i with _ | i
    · simp
    · constructor
      · intro h
        rw [List.getD_cons_succ, no_map] at h
        cases h
      · intro h; omega
  | k + 1, i, hi => by
    rw [path_last]
    show (stepB (adjT n) (reachB (adjT n) k)).getD i false = true ↔ _
    have e : (stepB (adjT n) (reachB (adjT n) k)).getD i false = ((List.range (n - 1)).map fun r => rk (exch (gz (ordsK n n) i) r)).any fun v => (reachB (adjT n) k).getD v false := by
      unfold stepB
      simp only [List.getD, List.getElem?_map, adjT_at hi]
      rfl
    rw [e, List.any_eq_true]
    have hin : InR n (i : Int) := ⟨by omega, by rw [Int.toNat_natCast]; exact hi⟩
    constructor
    · rintro ⟨v, hv, h⟩
      obtain ⟨r, hr, rfl⟩ := List.mem_map.1 hv
      have hr' := List.mem_range.1 hr
      have ho := (hin.over h2 h5 (r := r) (by omega)).1
      have e2 : ovR n (i : Int) (r : Int) = ((rk (exch (gz (ordsK n n) i) r) : Nat) : Int) := by unfold ovR; rw [Int.toNat_natCast, Int.toNat_natCast]
      refine ⟨ovR n (i : Int) (r : Int), r, hr', ?_, (ovR_twice h2 h5 hin (by omega)).symm⟩
      rw [e2]
      refine (reach_iff h2 h5 k _ ?_).1 h
      have := ho.2
      rwa [e2, Int.toNat_natCast] at this
    · rintro ⟨y, r, hr, hp, hy⟩
      have hyin := path_in h2 h5 k 0 y ⟨by omega, ordsK_pos (Nat.le_refl _)⟩ hp
      have e3 : ovR n (i : Int) (r : Int) = y := by rw [hy]; exact ovR_twice h2 h5 hyin (by omega)
      have e2 : ovR n (i : Int) (r : Int) = ((rk (exch (gz (ordsK n n) i) r) : Nat) : Int) := by unfold ovR; rw [Int.toNat_natCast, Int.toNat_natCast]
      refine ⟨rk (exch (gz (ordsK n n) i) r), List.mem_map.2 ⟨r, List.mem_range.2 hr, rfl⟩, (reach_iff h2 h5 k _ ?_).2 ?_⟩
      · have := hyin.2
        rwa [← e3, e2, Int.toNat_natCast] at this
      · rw [← e2, e3]; exact hp
/-- with k or k + 1 rungs all orders are made -/
def allP (Z Y : List Int) (x : Nat) : Bool := (List.range x).all fun i => decide (0 < gi Z i + gi Y i)
theorem allP_zero (Z Y : List Int) : allP Z Y 0 = true := rfl
theorem allP_succ (Z Y : List Int) (x : Nat) : allP Z Y (x + 1) = (allP Z Y x && decide (0 < gi Z x + gi Y x)) := by
  unfold allP; rw [List.range_succ, List.all_append]; simp
def eitherB (T U : List Bool) : Nat → Bool
  | 0 => true
  | x + 1 => (T.getD x false || U.getD x false) && eitherB T U x
theorem chO_nn {n k i : Nat} (hi : i < (ordsK n n).length) : 0 ≤ gi (chO n k) i := by rw [gi_chO hi]; omega
theorem all_either {n : Nat} (h2 : 2 ≤ n) (h5 : n ≤ 5) (k : Nat) : ∀ x, x ≤ (ordsK n n).length → allP (chO n k) (chO n (k + 1)) x = eitherB (reachB (adjT n) k) (reachB (adjT n) (k + 1)) x
  | 0, _ => rfl
  | x + 1, hx => by
    rw [allP_succ, all_either h2 h5 k x (by omega), eitherB, Bool.and_comm]
    congr 1
    have ha := (made_iff (k := k) h2 h5 (show x < _ by omega)).trans (reach_iff h2 h5 k x (by omega)).symm
    have hb := (made_iff (k := k + 1) h2 h5 (show x < _ by omega)).trans (reach_iff h2 h5 (k + 1) x (by omega)).symm
    have n1 := chO_nn (n := n) (k := k) (show x < _ by omega)
    have n2 := chO_nn (n := n) (k := k + 1) (show x < _ by omega)
    rcases h3 : (reachB (adjT n) k).getD x false with _ | _
    · rcases h4 : (reachB (adjT n) (k + 1)).getD x false with _ | _
      · rw [h3] at ha; rw [h4] at hb
        have e1 : ¬ 0 < gi (chO n k) x := fun h => by have := ha.1 h; cases this
        have e2 : ¬ 0 < gi (chO n (k + 1)) x := fun h => by have := hb.1 h; cases this
        exact decide_eq_false (by omega)
      · rw [h4] at hb
        have := hb.2 rfl
        exact decide_eq_true (by omega)
    · rw [h3] at ha
      have := ha.2 rfl
      exact decide_eq_true (by omega)
/-- f is the first one -/
def firstB (A : List (List Nat)) (N : Nat) : Nat → List Bool → List Bool → Bool
  | 0, T, U => eitherB T U N
  | f + 1, T, U => !eitherB T U N && firstB A N f U (stepB A U)
def faN (n : Nat) : Nat := n * (n - 1) / 2 - 1
theorem first_ok {n : Nat} (h2 : 2 ≤ n) (h5 : n ≤ 5) : firstB (adjT n) (ordsK n n).length (faN n) (reachB (adjT n) 0) (reachB (adjT n) 1) = true := by
  match n, h2, h5 with
  | 2, _, _ => decide +kernel
  | 3, _, _ => decide +kernel
  | 4, _, _ => decide +kernel
  | 5, _, _ => decide +kernel
theorem first_at {A : List (List Nat)} {N : Nat} : ∀ (f j k : Nat), firstB A N f (reachB A j) (reachB A (j + 1)) = true → k ≤ f → eitherB (reachB A (j + k)) (reachB A (j + k + 1)) N = decide (k = f)
  | 0, j, k, h, hk => by obtain rfl : k = 0 := by omega
                         exact h
  | f + 1, j, k, h, hk => by
    unfold firstB at h
    rw [Bool.and_eq_true] at h
    rcases k with _ | k
    · rw [decide_eq_false (by omega)]
      simpa using h.1
    · have h3 := first_at f (j + 1) k h.2 (by omega)
      rw [show j + (k + 1) = j + 1 + k by omega, h3]
      by_cases e : k = f
      · rw [decide_eq_true e, decide_eq_true (by omega)]
      · rw [decide_eq_false e, decide_eq_false (by omega)]
theorem fa_at {n k : Nat} (h2 : 2 ≤ n) (h5 : n ≤ 5) (hk : k ≤ faN n) : allP (chO n k) (chO n (k + 1)) (ordsK n n).length = decide (k = faN n) := by
  rw [all_either h2 h5 k _ (Nat.le_refl _)]
  have h := first_at (faN n) 0 k (first_ok h2 h5) hk
  rw [Nat.zero_add] at h
  exact h
end Go.Proofs.Ythhpklmiiibcpaa

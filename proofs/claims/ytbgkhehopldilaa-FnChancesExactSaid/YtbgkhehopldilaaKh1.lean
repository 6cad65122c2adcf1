/- Chances: from both sides alike, mirrored alike, together all. (No program.) -/
import Derived.Test.YtbgkhehopldilaaCe14
import Derived.Test.YtbgkhehopldilaaCe15
import Derived.Test.YtbgkhehopldilaaCe13
namespace Go.Proofs.Ytbgkhehopldilaa
open Go Go.RowKit

/-- a sum over the wires -/
def sg (n : Nat) (F : Nat → Nat) : Nat := ((List.range n).map F).sum
theorem sg_succ (n : Nat) (F : Nat → Nat) : sg (n + 1) F = sg n F + F n := by unfold sg; rw [List.range_succ, List.map_append, List.sum_append]; simp
theorem sg_congr {n : Nat} {F G : Nat → Nat} (h : ∀ x, x < n → F x = G x) : sg n F = sg n G := ssum_congr fun x hx => h x (List.mem_range.1 hx)
theorem sg_add (n : Nat) (F G : Nat → Nat) : sg n (fun x => F x + G x) = sg n F + sg n G := ssum_add F G _
theorem sg_mul (n c : Nat) (F : Nat → Nat) : sg n (fun x => c * F x) = c * sg n F := ssum_mul c F _
theorem sg_comm (n m : Nat) (F : Nat → Nat → Nat) : sg n (fun x => sg m (fun y => F x y)) = sg m (fun y => sg n (fun x => F x y)) := ssum_swap F _ _
theorem sg_zero (n : Nat) : sg n (fun _ => 0) = 0 := by unfold sg; rw [ssum_const]; simp
theorem sg_one {n e : Nat} (he : e < n) (F : Nat → Nat) (h : ∀ x, x < n → x ≠ e → F x = 0) : sg n F = F e := by
  induction n with
  | zero => omega
  | succ n ih =>
    rw [sg_succ]
    by_cases h1 : e = n
    · subst h1
      have : sg e F = sg e (fun _ => 0) := sg_congr fun x hx => h x (by omega) (by omega)
      rw [this, sg_zero]; omega
    · rw [ih (by omega) (fun x hx hne => h x (by omega) hne), h n (by omega) (fun e => h1 e.symm)]
      omega
theorem sg_rev (n : Nat) (F : Nat → Nat) : sg n (fun x => F (n - 1 - x)) = sg n F := by
  unfold sg
  have h : (List.range n).map (fun x => F (n - 1 - x)) = ((List.range n).map F).reverse := by
    apply List.ext_getElem
    · simp
    · intro i h1 h2
      simp at h1 ⊢
  rw [h, List.sum_reverse]
/-- over a rung -/
def swp (r x : Nat) : Nat := if x = r then r + 1 else if x = r + 1 then r else x
theorem swp_swp (r x : Nat) : swp r (swp r x) = x := by
  unfold swp
  by_cases h1 : x = r
  · simp [h1]
  · by_cases h2 : x = r + 1
    · simp [h2]
    · simp [h1, h2]
theorem swp_ov (r x : Nat) : ovW (x : Int) (r : Int) = ((swp r x : Nat) : Int) := by
  unfold ovW swp
  by_cases h1 : x = r
  · rw [if_pos (by omega), if_pos h1]; omega
  · rw [if_neg (by omega), if_neg h1]
    by_cases h2 : x = r + 1
    · rw [if_pos (by omega), if_pos h2]; omega
    · rw [if_neg (by omega), if_neg h2]
theorem swp_lt {r x n : Nat} (hr : r + 1 < n) (hx : x < n) : swp r x < n := by
  unfold swp
  by_cases h1 : x = r
  · rw [if_pos h1]; omega
  · rw [if_neg h1]
    by_cases h2 : x = r + 1
    · rw [if_pos h2]; omega
    · rw [if_neg h2]; omega
theorem sg_swp {n r : Nat} (hr : r + 1 < n) (F : Nat → Nat) : sg n (fun x => F (swp r x)) = sg n F := by
  obtain ⟨d, rfl⟩ : ∃ d, n = r + 2 + d := ⟨n - (r + 2), by omega⟩
  clear hr
  induction d with
  | zero =>
    have e1 : swp r r = r + 1 := by unfold swp; rw [if_pos rfl]
    have e2 : swp r (r + 1) = r := by unfold swp; rw [if_neg (by omega), if_pos rfl]
    show sg (r + 1 + 1) _ = sg (r + 1 + 1) _
    rw [sg_succ, sg_succ, sg_succ, sg_succ, e1, e2]
    have : sg r (fun x => F (swp r x)) = sg r F := sg_congr fun x hx => by
      have : swp r x = x := by unfold swp; rw [if_neg (by omega), if_neg (by omega)]
      rw [this]
    rw [this]; omega
  | succ d ih =>
    rw [show r + 2 + (d + 1) = r + 2 + d + 1 by omega, sg_succ, sg_succ, ih]
    have : swp r (r + 2 + d) = r + 2 + d := by unfold swp; rw [if_neg (by omega), if_neg (by omega)]
    rw [this]
/-- the number of ladders from s to e -/
def wy (n k e s : Nat) : Nat := ups ovW (n - 1) k (ind (e : Int)) (s : Int)
theorem up_sg (m : Nat) (f : Int → Nat) (x : Nat) : up ovW m f (x : Int) = sg m (fun r => f ((swp r x : Nat) : Int)) := by
  unfold up sg
  exact ssum_congr fun r _ => by rw [swp_ov]
theorem up_sym {n : Nat} (f g : Int → Nat) : sg n (fun x => up ovW (n - 1) f (x : Int) * g (x : Int)) = sg n (fun x => f (x : Int) * up ovW (n - 1) g (x : Int)) := by
  have h1 : sg n (fun x => up ovW (n - 1) f (x : Int) * g (x : Int)) = sg n (fun x => sg (n - 1) (fun r => g (x : Int) * f ((swp r x : Nat) : Int))) := sg_congr fun x _ => by
    rw [up_sg, sg_mul, Nat.mul_comm]
  have h2 : sg n (fun x => f (x : Int) * up ovW (n - 1) g (x : Int)) = sg n (fun x => sg (n - 1) (fun r => f (x : Int) * g ((swp r x : Nat) : Int))) := sg_congr fun x _ => by
    rw [up_sg, sg_mul]
  rw [h1, h2, sg_comm, sg_comm n]
  refine sg_congr fun r hr => ?_
  rw [← sg_swp (n := n) (r := r) (by omega) (fun x => g (x : Int) * f ((swp r x : Nat) : Int))]
  refine sg_congr fun x _ => ?_
  show g ((swp r x : Nat) : Int) * f ((swp r (swp r x) : Nat) : Int) = _
  rw [swp_swp, Nat.mul_comm]
theorem ups_sym {n : Nat} : ∀ (k : Nat) (f g : Int → Nat), sg n (fun x => ups ovW (n - 1) k f (x : Int) * g (x : Int)) = sg n (fun x => f (x : Int) * ups ovW (n - 1) k g (x : Int))
  | 0, f, g => rfl
  | k + 1, f, g => by
    have h1 := ups_sym (n := n) k (up ovW (n - 1) f) g
    have h2 := up_sym (n := n) f (ups ovW (n - 1) k g)
    rw [ups_succ (ov := ovW) (m := n - 1) k g]
    exact h1.trans h2
theorem sg_ind {n e : Nat} (he : e < n) (F : Nat → Nat) : sg n (fun x => F x * ind (e : Int) (x : Int)) = F e := by
  rw [sg_one he _ (fun x _ hne => by unfold ind; rw [if_neg (by omega), Nat.mul_zero])]
  unfold ind; rw [if_pos rfl, Nat.mul_one]
/-- from both sides alike -/
theorem wy_sym {n k e s : Nat} (he : e < n) (hs : s < n) : wy n k e s = wy n k s e := by
  have h := ups_sym (n := n) k (ind (e : Int)) (ind (s : Int))
  rw [sg_ind hs (fun x => ups ovW (n - 1) k (ind (e : Int)) (x : Int))] at h
  have h2 : sg n (fun x => ind (e : Int) (x : Int) * ups ovW (n - 1) k (ind (s : Int)) (x : Int)) = sg n (fun x => ups ovW (n - 1) k (ind (s : Int)) (x : Int) * ind (e : Int) (x : Int)) := sg_congr fun x _ => Nat.mul_comm _ _
  rw [h2, sg_ind he (fun x => ups ovW (n - 1) k (ind (s : Int)) (x : Int))] at h
  exact h
/-- mirrored alike -/
theorem wy_mir {n k e s : Nat} (he : e < n) (hs : s < n) : wy n k (n - 1 - e) (n - 1 - s) = wy n k e s := by
  unfold wy
  have h1 := ups_through (ov := ovW) (ob := fun b r => ovW b ((n : Int) - 2 - r)) (m := n - 1) (φ := fun x : Int => (n : Int) - 1 - x) (S := fun x => 0 ≤ x ∧ x < (n : Int)) (fun b r hb hr => by
    constructor
    · unfold ovW; split
      · omega
      · split <;> omega
    · show ovW ((n : Int) - 1 - b) (r : Int) = (n : Int) - 1 - ovW b ((n : Int) - 2 - r)
      unfold ovW
      by_cases h1 : b = (n : Int) - 2 - r
      · rw [if_neg (by omega), if_pos (by omega), if_pos h1]; omega
      · by_cases h2 : b = (n : Int) - 2 - r + 1
        · rw [if_pos (by omega), if_neg h1, if_pos h2]; omega
        · rw [if_neg (by omega), if_neg (by omega), if_neg h1, if_neg h2]) (ind ((n - 1 - e : Nat) : Int)) k (s : Int) ⟨by omega, by omega⟩
  have e1 : (n : Int) - 1 - (s : Int) = ((n - 1 - s : Nat) : Int) := by omega
  rw [e1] at h1
  rw [h1]
  have e2 : (fun x : Int => ind ((n - 1 - e : Nat) : Int) ((n : Int) - 1 - x)) = ind (e : Int) := by
    funext x; unfold ind
    by_cases h : x = (e : Int)
    · rw [if_pos (by omega), if_pos h]
    · rw [if_neg (by omega), if_neg h]
  rw [e2]
  have e3 : ∀ f : Int → Nat, up (fun b r => ovW b ((n : Int) - 2 - r)) (n - 1) f = up ovW (n - 1) f := fun f => by
    funext x
    have h2 := sg_rev (n - 1) (fun r => f (ovW x (r : Int)))
    unfold sg at h2
    unfold up
    rw [← h2]
    exact ssum_congr fun r hr => by
      have := List.mem_range.1 hr
      show f (ovW x ((n : Int) - 2 - (r : Int))) = _
      rw [show (n : Int) - 2 - (r : Int) = ((n - 1 - 1 - r : Nat) : Int) by omega]
  have e4 : ∀ (k : Nat) (f : Int → Nat), ups (fun b r => ovW b ((n : Int) - 2 - r)) (n - 1) k f = ups ovW (n - 1) k f := fun k => by
    induction k with
    | zero => intro f; rfl
    | succ k ih => intro f; show ups _ _ k (up _ _ f) = _; rw [e3, ih]; rfl
  rw [e4]
/-- together all -/
theorem wy_all {n k s : Nat} (hs : s < n) : sg n (fun e => wy n k e s) = (n - 1) ^ k := by
  have h1 : ∀ j, sg j (fun e => wy n k e s) = ups ovW (n - 1) k (fun x => sg j (fun e => ind (e : Int) x)) (s : Int) := by
    intro j
    induction j with
    | zero =>
      have := congrFun (ups_const (ov := ovW) (m := n - 1) k 0) (s : Int)
      simpa [sg] using this.symm
    | succ j ih =>
      rw [sg_succ, ih]
      have e : (fun x : Int => sg (j + 1) (fun e => ind (e : Int) x)) = fun x => sg j (fun e => ind (e : Int) x) + ind (j : Int) x := by funext x; rw [sg_succ]
      rw [e, ups_add]
      rfl
  rw [h1 n]
  have h2 := ups_on (ov := ovW) (m := n - 1) (S := fun x => 0 ≤ x ∧ x < (n : Int)) (fun b r hb hr => ovW_in0 hb (by omega)) (f := fun x => sg n (fun e => ind (e : Int) x)) (g := fun _ => 1) (fun x hx => by
    obtain ⟨y, rfl⟩ : ∃ y : Nat, x = (y : Int) := ⟨x.toNat, by omega⟩
    show sg n (fun e => ind (e : Int) (y : Int)) = 1
    rw [sg_one (e := y) (by omega) _ (fun z _ hne => by unfold ind; rw [if_neg (by omega)])]
    unfold ind; rw [if_pos rfl]) k (s : Int) ⟨by omega, by omega⟩
  rw [h2, ups_const]
  simp
theorem gi_wy {n k s e : Nat} (he : e < n) : gi (endsC n k (s : Int)) e = (wy n k e s : Int) := gi_endsC he
theorem homeS_sg (n k j : Nat) (hj : j ≤ n) : homeS n k j = sg j (fun s => wy n k s s) := by
  unfold homeS sg
  exact ssum_congr fun s hs => by have := List.mem_range.1 hs; rw [gi_wy (by omega), Int.toNat_natCast]
/-- a ratio, made whole again -/
theorem rt_whole (a : Nat) {n k : Int} (h : fallB n k = true) : rtA a n k * Int.tdiv (allN n k : Int) (rtB a n k) = (a : Int) ∧ 1 ≤ rtB a n k ∧ rtB a n k ≤ (allN n k : Int) := by
  have h0 := (allN_in h).1
  unfold rtA rtB
  obtain ⟨A, hA⟩ : ∃ A, A = allN n k := ⟨_, rfl⟩
  rw [← hA] at h0 ⊢
  have hg : 0 < Nat.gcd a A := Nat.gcd_pos_of_pos_right _ h0
  have hgd := Nat.gcd_dvd_right a A
  have hga := Nat.gcd_dvd_left a A
  obtain ⟨g, hgg⟩ : ∃ g, g = Nat.gcd a A := ⟨_, rfl⟩
  rw [← hgg] at hg hgd hga ⊢
  obtain ⟨c, hc⟩ := hgd
  obtain ⟨b, hb⟩ := hga
  have hc0 : 0 < c := by
    rcases Nat.eq_zero_or_pos c with h | h
    · rw [h] at hc; omega
    · exact h
  have e1 : A / g = c := by rw [hc]; exact Nat.mul_div_cancel_left _ hg
  have e2 : a / g = b := by rw [hb]; exact Nat.mul_div_cancel_left _ hg
  rw [e1, e2]
  refine ⟨?_, by omega, ?_⟩
  · rw [Int.tdiv_eq_ediv_of_nonneg (by omega)]
    have e3 : (A : Int) / (c : Int) = (g : Int) := by
      rw [hc]
      have : ((g * c : Nat) : Int) / (c : Int) = ((g * c / c : Nat) : Int) := rfl
      rw [this, Nat.mul_div_cancel _ hc0]
    rw [e3, hb, Nat.mul_comm]; simp
  · rw [hc]
    have : c ≤ g * c := Nat.le_mul_of_pos_left _ hg
    omega
end Go.Proofs.Ytbgkhehopldilaa

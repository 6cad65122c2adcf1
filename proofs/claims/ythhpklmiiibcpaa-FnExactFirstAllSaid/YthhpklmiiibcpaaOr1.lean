/- Rungs above and rungs below: the orders of all ladders of so many rungs. Nothing of the program is said here. -/
import Derived.Test.YthhpklmiiibcpaaCo3
import Derived.Test.YthhpklmiiibcpaaCe1
namespace Go.Proofs.Ythhpklmiiibcpaa
open Go

/-- one rung more at the bottom of an order's ladder, and at its top -/
def swE (p : List Int) (r : Int) : List Int := p.map fun x => ovW x r
def exI (p : List Int) (r : Int) : List Int := exch p r.toNat
theorem swE_length (p : List Int) (r : Int) : (swE p r).length = p.length := by simp [swE]
theorem gi_swE {p : List Int} {r : Int} {j : Nat} (h : j < p.length) : gi (swE p r) j = ovW (gi p j) r := by
  rw [gi_lt (by rw [swE_length]; exact h), gi_lt h]; simp [swE]
theorem ovW_inj {x y r : Int} (h : ovW x r = ovW y r) : x = y := by
  unfold ovW at h
  split at h <;> split at h <;> first | omega | (split at h <;> first | omega | (split at h <;> omega))
theorem OKp.sw {n : Nat} {p : List Int} (h : OKp n p) {r : Nat} (hr : r + 1 < n) : OKp n (swE p (r : Int)) := by
  obtain ⟨h1, h2, h3, h4⟩ := ord_iff.1 h.1
  refine ⟨ord_iff.2 ⟨by rw [swE_length]; exact h1, by rw [swE_length]; exact h2, fun x hx => ?_, ?_⟩, by rw [swE_length]; exact h.2⟩
  · unfold swE at hx
    obtain ⟨y, hy, rfl⟩ := List.mem_map.1 hx
    rw [swE_length, h.2]
    have := h3 y hy
    rw [h.2] at this
    exact ovW_in0 this hr
  · refine nodup_gi.2 fun i j hij hj => ?_
    rw [swE_length] at hj
    rw [gi_swE (by omega), gi_swE hj]
    intro e
    exact nodup_gi.1 h4 i j hij hj (ovW_inj e)
theorem OKp.ex {n : Nat} {p : List Int} (h : OKp n p) {r : Nat} (hr : r + 1 < n) : OKp n (exI p (r : Int)) := by
  unfold exI; rw [Int.toNat_natCast]; exact h.exch hr
theorem sw_ex {n : Nat} {p : List Int} (h : p.length = n) {r s : Nat} (hr : r + 1 < n) : swE (exI p (r : Int)) (s : Int) = exI (swE p (s : Int)) (r : Int) := by
  unfold exI
  rw [Int.toNat_natCast]
  refine gi_ext (by rw [swE_length, exch_length, exch_length, swE_length]) fun j hj => ?_
  rw [swE_length, exch_length] at hj
  rw [gi_swE (by rw [exch_length]; exact hj), gi_exch (by omega), gi_exch (by rw [swE_length]; omega), gi_swE (by omega), gi_swE (by omega), gi_swE hj]
  split
  · rfl
  · split <;> rfl
theorem sw_home {n r : Nat} (hr : r + 1 < n) : swE (upto n) (r : Int) = exI (upto n) (r : Int) := by
  unfold exI
  rw [Int.toNat_natCast]
  have hg : ∀ j, j < n → gi (upto n) j = (j : Int) := fun j hj => by rw [gi_lt (by rw [upto_len]; exact hj)]; simp [upto]
  refine gi_ext (by rw [swE_length, exch_length]) fun j hj => ?_
  rw [swE_length, upto_len] at hj
  rw [gi_swE (by rw [upto_len]; exact hj), gi_exch (by rw [upto_len]; exact hr), hg j hj, hg r (by omega), hg (r + 1) hr]
  unfold ovW
  by_cases h1 : j = r
  · rw [if_pos (by omega), if_pos h1]; omega
  · rw [if_neg (by omega), if_neg h1]
    by_cases h2 : j = r + 1
    · rw [if_pos (by omega), if_pos h2]; omega
    · rw [if_neg (by omega), if_neg h2]
/-- rungs at the bottom may be laid ahead of rungs at the top -/
theorem up_comm {n : Nat} (f : List Int → Nat) (k : Nat) {q : List Int} (hq : OKp n q) : ups exI (n - 1) k (up swE (n - 1) f) q = up swE (n - 1) (ups exI (n - 1) k f) q := by
  have h1 : ∀ (k : Nat) (q : List Int), OKp n q → ups exI (n - 1) k (up swE (n - 1) f) q = ((List.range (n - 1)).map fun (s : Nat) => ups exI (n - 1) k (fun x => f (swE x (s : Int))) q).sum := by
    intro k
    induction k with
    | zero => intro q _; rfl
    | succ k ih =>
      intro q hq
      rw [ups_succ]
      have e : ∀ (s : Nat), ups exI (n - 1) (k + 1) (fun x => f (swE x (s : Int))) q = ((List.range (n - 1)).map fun (r : Nat) => ups exI (n - 1) k (fun x => f (swE x (s : Int))) (exI q (r : Int))).sum := fun s => by rw [ups_succ]; rfl
      rw [show ((List.range (n - 1)).map fun (s : Nat) => ups exI (n - 1) (k + 1) (fun x => f (swE x (s : Int))) q) = ((List.range (n - 1)).map fun (s : Nat) => ((List.range (n - 1)).map fun (r : Nat) => ups exI (n - 1) k (fun x => f (swE x (s : Int))) (exI q (r : Int))).sum) from List.map_congr_left fun s _ => e s]
      rw [ssum_swap]
      exact ssum_congr fun r hr => ih _ (hq.ex (by have := List.mem_range.1 hr; omega))
  rw [h1 k q hq]
  refine ssum_congr fun s hs => ?_
  have hs' := List.mem_range.1 hs
  exact (ups_through (S := OKp n) (φ := fun x => swE x (s : Int)) (fun b r hb hr => ⟨hb.ex (by omega), (sw_ex hb.2 (by omega)).symm⟩) f k q hq).symm
theorem both_ways {n : Nat} (h1 : 1 ≤ n) (h8 : n ≤ 8) (k : Nat) : ∀ (f : List Int → Nat), ups swE (n - 1) k f (upto n) = ups exI (n - 1) k f (upto n) := by
  induction k with
  | zero => intro f; rfl
  | succ k ih =>
    intro f
    show ups swE (n - 1) k (up swE (n - 1) f) (upto n) = _
    rw [ih, up_comm f k (upto_ok h1 h8), ups_succ]
    exact ssum_congr fun r hr => by rw [sw_home (by have := List.mem_range.1 hr; omega)]

theorem endsL_inj {n : Nat} {p q : List Int} (hp : p.length = n) (hq : q.length = n) (hn : n ≤ 6) (h : endsL p = endsL q) : p = q := by
  refine gi_ext (by rw [hp, hq]) fun j hj => ?_
  have e : gi (endsL p) j = gi (endsL q) j := by rw [h]
  rw [gi_endsL (by omega), gi_endsL (by omega), if_pos hj, if_pos (by omega)] at e
  exact e
/-- all ladders' results, told by the ends of all -/
theorem ends_orders {n : Nat} (h1 : 1 ≤ n) (hn : n ≤ 6) (f : List Int → Nat) (k : Nat) : ups ovE (n - 1) k f (endsL (upto n)) = ups exI (n - 1) k (fun p => f (endsL p)) (upto n) := by
  rw [← both_ways h1 (by omega)]
  exact ups_through (S := OKp n) (φ := endsL) (fun b r hb hr => ⟨hb.sw (by omega), ovE_endsL b r⟩) f k (upto n) (upto_ok h1 (by omega))
/-- in how many ladders the result is p -/
def single1 (p : List Int) : List Int → Nat := fun q => if q = p then 1 else 0
def resN (n k : Nat) (p : List Int) : Nat := ups exI (n - 1) k (single1 p) (upto n)
theorem single1_le (p q : List Int) : single1 p q ≤ 1 := by unfold single1; split <;> omega
theorem resN_le {n k : Nat} (p : List Int) : resN n k p ≤ (n - 1) ^ k := by
  have := ups_le_const (ov := exI) (m := n - 1) k 1 (single1_le p) (upto n)
  rw [Nat.mul_one] at this
  exact this

/-! by their ranks -/
theorem ranks_all {n : Nat} (h2 : 2 ≤ n) (h5 : n ≤ 5) : (ordsK n n).map rk = List.range (ordsK n n).length := by
  match n, h2, h5 with
  | 2, _, _ => decide +kernel
  | 3, _, _ => decide +kernel
  | 4, _, _ => decide +kernel
  | 5, _, _ => decide +kernel
theorem ords_len {n : Nat} (h2 : 2 ≤ n) (h5 : n ≤ 5) : (ordsK n n).length = fac n ∧ fac n ≤ 120 := by
  match n, h2, h5 with
  | 2, _, _ => decide +kernel
  | 3, _, _ => decide +kernel
  | 4, _, _ => decide +kernel
  | 5, _, _ => decide +kernel
theorem rk_gz {n : Nat} (h2 : 2 ≤ n) (h5 : n ≤ 5) {i : Nat} (hi : i < (ordsK n n).length) : rk (gz (ordsK n n) i) = i := by
  have h := congrArg (fun l => l[i]?) (ranks_all h2 h5)
  simp only [List.getElem?_map, List.getElem?_range hi] at h
  have e : (ordsK n n)[i]? = some (gz (ordsK n n) i) := by simp [gz, List.getD, hi]
  rw [e] at h
  simpa using h
theorem gz_rk {n : Nat} (h2 : 2 ≤ n) (h5 : n ≤ 5) {q : List Int} (hq : OKp n q) : rk q < (ordsK n n).length ∧ gz (ordsK n n) (rk q) = q := by
  have hm := ((ordsK_all (n := n) (by omega) (by omega)).mem q).2 hq
  obtain ⟨i, hi, rfl⟩ := mem_gz.1 hm
  rw [rk_gz h2 h5 hi]
  exact ⟨hi, rfl⟩
theorem gz_ok {n : Nat} (h1 : 1 ≤ n) (h8 : n ≤ 8) {i : Nat} (hi : i < (ordsK n n).length) : OKp n (gz (ordsK n n) i) := ((ordsK_all h1 h8).mem _).1 (mem_gz.2 ⟨i, hi, rfl⟩)
theorem rk_home {n : Nat} (h2 : 2 ≤ n) (h5 : n ≤ 5) : rk (upto n) = 0 ∧ gz (ordsK n n) 0 = upto n := by
  match n, h2, h5 with
  | 2, _, _ => decide +kernel
  | 3, _, _ => decide +kernel
  | 4, _, _ => decide +kernel
  | 5, _, _ => decide +kernel
/-- a rung more at the top, by ranks -/
def ovR (n : Nat) (i r : Int) : Int := (rk (exch (gz (ordsK n n) i.toNat) r.toNat) : Int)
def InR (n : Nat) (i : Int) : Prop := 0 ≤ i ∧ i.toNat < (ordsK n n).length
theorem InR.over {n : Nat} (h2 : 2 ≤ n) (h5 : n ≤ 5) {i : Int} (h : InR n i) {r : Nat} (hr : r + 1 < n) : InR n (ovR n i (r : Int)) ∧ gz (ordsK n n) (ovR n i (r : Int)).toNat = exI (gz (ordsK n n) i.toNat) (r : Int) := by
  have hq := (gz_ok (n := n) (by omega) (by omega) h.2).ex hr
  have h1 := gz_rk h2 h5 hq
  unfold ovR InR exI at *
  rw [Int.toNat_natCast] at *
  exact ⟨⟨by omega, by rw [Int.toNat_natCast]; exact h1.1⟩, by rw [Int.toNat_natCast]; exact h1.2⟩
theorem by_ranks {n : Nat} (h2 : 2 ≤ n) (h5 : n ≤ 5) (f : List Int → Nat) (k : Nat) : ups (ovR n) (n - 1) k (fun x => f (gz (ordsK n n) x.toNat)) 0 = ups exI (n - 1) k f (upto n) := by
  have h := ups_through (S := InR n) (φ := fun (x : Int) => gz (ordsK n n) x.toNat) (ob := ovR n) (ov := exI) (m := n - 1) (fun b r hb hr => ⟨(hb.over h2 h5 (by omega)).1, ((hb.over h2 h5 (by omega)).2).symm⟩) f k 0 ⟨by omega, by show 0 < _; exact ordsK_pos (Nat.le_refl _)⟩
  rw [← h]
  show ups exI (n - 1) k f (gz (ordsK n n) 0) = _
  rw [(rk_home h2 h5).2]
end Go.Proofs.Ythhpklmiiibcpaa

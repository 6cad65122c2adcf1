/- The number of an order among all, and what a counter knows. The model's counter of least ladders. -/
import Derived.Test.YthhpklmiiibcpaaMgJ
import Derived.Test.YthhpklmiiibcpaaMgG
import Derived.Test.YthhpklmiiibcpaaMgE
import Derived.Test.YthhpklmiiibcpaaMgB
import Derived.WalkMore
import Derived.BigRegion
import Derived.Maps.AppendAt
namespace Go.Proofs.Ythhpklmiiibcpaa
open Go

def fac : Nat → Nat
  | 0 => 1
  | k + 1 => (k + 1) * fac k
theorem fac_pos : ∀ k, 0 < fac k
  | 0 => by simp [fac]
  | k + 1 => Nat.mul_pos (by omega) (fac_pos k)
def rkA : Nat → List Int → Nat
  | acc, [] => acc
  | acc, x :: xs => rkA (acc * (xs.length + 1) + lessN x xs) xs
def rk (zs : List Int) : Nat := rkA 0 zs
theorem rkA_split : ∀ (l : List Int) (acc : Nat), rkA acc l = acc * fac l.length + rkA 0 l
  | [], acc => by simp [rkA, fac]
  | x :: xs, acc => by
    simp only [rkA, List.length_cons, fac]
    rw [rkA_split xs (acc * (xs.length + 1) + lessN x xs), rkA_split xs (0 * (xs.length + 1) + lessN x xs), Nat.zero_mul, Nat.zero_add, Nat.add_mul (acc * (xs.length + 1)), Nat.mul_assoc]
    omega
theorem rkA_lt : ∀ (l : List Int), rkA 0 l < fac l.length
  | [] => by simp [rkA, fac]
  | x :: xs => by
    simp only [rkA, List.length_cons, fac]
    rw [rkA_split xs, Nat.zero_mul, Nat.zero_add, Nat.add_mul, Nat.one_mul]
    have h1 := rkA_lt xs
    have h2 : lessN x xs * fac xs.length ≤ xs.length * fac xs.length := Nat.mul_le_mul_right _ (lessN_le x xs)
    omega
theorem rkA_ge (l : List Int) (acc : Nat) : acc ≤ rkA acc l := by
  rw [rkA_split]
  have := Nat.le_mul_of_pos_right acc (fac_pos l.length)
  omega
theorem quo_eq {a b F r s : Nat} (h : a * F + r = b * F + s) (hr : r < F) (hs : s < F) : a = b ∧ r = s := by
  rcases Nat.lt_trichotomy a b with h1 | h1 | h1
  · have := Nat.mul_le_mul_right F (show a + 1 ≤ b from h1)
    rw [Nat.add_mul] at this
    omega
  · subst h1
    omega
  · have := Nat.mul_le_mul_right F (show b + 1 ≤ a from h1)
    rw [Nat.add_mul] at this
    omega
theorem lessN_cons (z x : Int) (xs : List Int) : lessN z (x :: xs) = lessN z xs + if x < z then 1 else 0 := by
  unfold lessN
  rw [List.countP_cons]
  simp
theorem lessN_mono {x y : Int} (h : x < y) : ∀ (l : List Int), lessN x l ≤ lessN y l
  | [] => Nat.le_refl _
  | z :: r => by
    rw [lessN_cons, lessN_cons]
    have := lessN_mono h r
    by_cases h1 : z < x
    · have : z < y := by omega
      rw [if_pos h1, if_pos this]; omega
    · rw [if_neg h1]; omega
theorem lessN_lt {x y : Int} (h : x < y) : ∀ (l : List Int), x ∈ l → lessN x l < lessN y l
  | [], hm => by cases hm
  | z :: r, hm => by
    rw [lessN_cons, lessN_cons]
    rcases List.mem_cons.1 hm with rfl | hm
    · have h1 := lessN_mono h r
      rw [if_neg (show ¬ x < x by omega), if_pos h]
      omega
    · have h1 := lessN_lt h r hm
      by_cases h2 : z < x
      · have : z < y := by omega
        rw [if_pos h2, if_pos this]; omega
      · rw [if_neg h2]; omega
theorem rk_inj : ∀ (l l' : List Int), List.Perm l l' → rkA 0 l = rkA 0 l' → l = l'
  | [], l', hp, _ => (List.Perm.nil_eq hp)
  | x :: xs, [], hp, _ => by have := hp.length_eq; simp at this
  | x :: xs, y :: ys, hp, h => by
    have hl : xs.length = ys.length := by have := hp.length_eq; simpa using this
    simp only [rkA] at h
    rw [rkA_split xs, rkA_split ys, hl] at h
    simp only [Nat.zero_mul, Nat.zero_add] at h
    obtain ⟨h1, h2⟩ := quo_eq h (by rw [← hl]; exact rkA_lt xs) (rkA_lt ys)
    have e1 : lessN x (x :: xs) = lessN x xs := by rw [lessN_cons, if_neg (by omega)]; rfl
    have e2 : lessN y (y :: ys) = lessN y ys := by rw [lessN_cons, if_neg (by omega)]; rfl
    have p1 : lessN x (x :: xs) = lessN x (y :: ys) := lessN_perm hp
    have hxy : x = y := by
      rcases Int.lt_trichotomy x y with h3 | h3 | h3
      · have := lessN_lt h3 (y :: ys) (hp.mem_iff.1 (by simp))
        omega
      · exact h3
      · have := lessN_lt h3 (y :: ys) (by simp)
        omega
    subst hxy
    rw [rk_inj xs ys (List.Perm.cons_inv hp) h2]
theorem seats_app {zs : List Int} (h : zs.length ≤ 8) : seats zs = zs ++ ((List.range (8 - zs.length)).map fun (j : Nat) => ((zs.length + j : Nat) : Int)) := by
  refine gi_ext (by rw [seats_length]; simp; omega) fun j hj => ?_
  rw [seats_length] at hj
  rw [gi_seats zs j hj]
  unfold gi
  by_cases hlt : j < zs.length
  · rw [if_pos hlt]
    simp [List.getD, List.getElem?_append_left hlt]
  · rw [if_neg hlt]
    simp only [List.getD]
    rw [List.getElem?_append_right (by omega)]
    rw [List.getElem?_map, List.getElem?_range (by omega)]
    simp
    omega
theorem ord_perms {a b : List Int} (ha : ord a = true) (hb : ord b = true) (hl : a.length = b.length) : List.Perm a b := by
  have a1 := ord_iff.1 ha
  have b1 := ord_iff.1 hb
  have sa := (seats_ord a1.1 a1.2.1).2 ha
  have sb := (seats_ord b1.1 b1.2.1).2 hb
  have hp : List.Perm (seats a) (seats b) := (srt_perm (seats a)).symm.trans (by rw [sa, ← sb]; exact srt_perm (seats b))
  rw [seats_app a1.2.1, seats_app b1.2.1, hl] at hp
  exact (List.perm_append_right_iff _).1 hp

/-- What a counter knows of the orders of n numbers. -/
def KN (n : Nat) (ks : List Int) : Prop := ks.length = fac n ∧ ∀ q, ord q = true → q.length = n → gi ks (rk q) = -1 ∨ gi ks (rk q) = (cnt q : Int)
theorem rk_lt {n : Nat} {q : List Int} (hl : q.length = n) : rk q < fac n := by rw [← hl]; exact rkA_lt q
theorem KN.start (n : Nat) : KN n (List.replicate (fac n) (-1)) := by
  refine ⟨by simp, fun q hq hl => .inl ?_⟩
  have := rk_lt hl
  simp [gi, List.getD, this]
theorem KN.set {n : Nat} {ks : List Int} (h : KN n ks) {q : List Int} (hq : ord q = true) (hl : q.length = n) : KN n (ks.set (rk q) (cnt q : Int)) := by
  refine ⟨by rw [List.length_set, h.1], fun q' hq' hl' => ?_⟩
  rw [gi_set _ _ _ _ (by rw [h.1]; exact rk_lt hl)]
  by_cases e : rk q' = rk q
  · rw [if_pos e]
    have := rk_inj q' q (ord_perms hq' hq (by omega)) e
    subst this
    exact .inr rfl
  · rw [if_neg e]
    exact h.2 q' hq' hl'
end Go.Proofs.Ythhpklmiiibcpaa
namespace Go.Proofs.Ythhpklmiiibcpaa
open Go Go.RowKit

theorem drop_gi {zs : List Int} {k : Nat} (h : k < zs.length) : zs.drop k = gi zs k :: zs.drop (k + 1) := by
  rw [List.drop_eq_getElem_cons h, gi_lt h]
theorem cntB_less (zs : List Int) (k : Nat) : ∀ m, k + 1 + m ≤ zs.length → cntB zs k m = lessN (gi zs k) ((zs.drop (k + 1)).take m)
  | 0, _ => by simp [cntB, lessN]
  | m + 1, h => by
    have ih := cntB_less zs k m (by omega)
    have e : (zs.drop (k + 1)).take (m + 1) = (zs.drop (k + 1)).take m ++ [gi zs (k + 1 + m)] := by
      rw [List.take_add_one, List.getElem?_drop, List.getElem?_eq_getElem (by omega), gi_lt (by omega)]
      rfl
    rw [e]
    unfold lessN at ih ⊢
    rw [List.countP_append, ← ih]
    by_cases hq : gi zs (k + 1 + m) < gi zs k
    · rw [cntB_yes hq]; simp [hq]
    · rw [cntB_no hq]; simp [hq]
theorem rk_step {zs : List Int} {k r : Nat} (h : k < zs.length) : rkA r (zs.drop k) = rkA (r * (zs.length - k) + cntB zs k (zs.length - (k + 1))) (zs.drop (k + 1)) := by
  rw [drop_gi h]
  simp only [rkA]
  have e1 : (zs.drop (k + 1)).length + 1 = zs.length - k := by rw [List.length_drop]; omega
  have e2 : lessN (gi zs k) (zs.drop (k + 1)) = cntB zs k (zs.length - (k + 1)) := by
    rw [cntB_less zs k _ (by omega), List.take_of_length_le (by rw [List.length_drop]; omega)]
  rw [e1, e2]
theorem fac_six (n : Nat) (h : n ≤ 6) : fac n ≤ 720 := by
  have : ∀ n, n < 7 → fac n ≤ 720 := by decide
  exact this n (by omega)

set_option maxRecDepth 100000 in
set_option maxHeartbeats 4000000 in
theorem alRank_any (A : Option Addr) (n c : Nat) (zs : List Int) (w : World) (h : RI w A n zs) (hn : n ≤ 6) (hnc : n ≤ c) :
    Calls Try.prog 29 #[.slice A n c] w (fun e w' => e = .returned (.int .i64 ((rk zs : Nat) : Int)) ∧ w' = w) := by
  have hl := h.1
  have hrk : rk zs < 720 := Nat.lt_of_lt_of_le (rk_lt hl) (fac_six n hn)
  have HA := Lib.hid h
  obtain ⟨R, hR⟩ : ∃ R, R = rk zs := ⟨_, rfl⟩
  rw [← hR] at hrk ⊢
  have HR := Lib.hid hR
  clear h hR
  go_enter Try.func29, Try.ntmps29
  go_wp2
  go_loop [3, 4, 5, 6, 8, 11] (fun s3 _ _ _ _ i => ∃ k r : Nat, k ≤ n ∧ i = .int .i64 (k : Int) ∧ s3 = .int .i64 (r : Int) ∧ rkA r (zs.drop k) = R) (fun _ _ _ _ _ i => n - (intOf i).toNat)
  case atStart => exact ⟨0, 0, Nat.zero_le _, rfl, rfl, by rw [HR.out]; rfl⟩
  case round =>
    obtain ⟨k, r, hk, rfl, rfl, hr⟩ := hrel
    by_cases hlt : k < n
    · obtain ⟨b, off, rfl, hbw, hc⟩ := HA.out.cell hlt
      have HCC := Lib.hid hc
      have hck := hc k hlt
      have hkn : k + 1 ≤ n := hlt
      rw [rk_step (by omega), hl] at hr
      have hge := rkA_ge (zs.drop (k + 1)) (r * (n - k) + cntB zs k (n - (k + 1)))
      rw [hr] at hge
      obtain ⟨u, hu⟩ : ∃ u, u = r * (n - k) := ⟨_, rfl⟩
      have hmul : (r : Int) * ((n : Int) - (k : Int)) = (u : Int) := by rw [hu, ← Int.ofNat_sub (by omega)]; simp
      have hr2 : r ≤ u := by rw [hu]; exact Nat.le_mul_of_pos_right r (by omega)
      rw [← hu] at hr hge
      have HRR := Lib.hid hr
      clear hc hu hr
      have hri : (r : Int) ≤ 720 := by omega
      have hui : (u : Int) ≤ 720 := by omega
      go_wp2_with fail
      case inl h =>
        go_loop [6, 8, 21] (fun s6 _ i => ∃ m : Nat, m ≤ n - (k + 1) ∧ i = .int .i64 (m : Int) ∧ s6 = .int .i64 (cntB zs k m : Nat)) (fun _ _ i => n - (intOf i).toNat)
        case atStart => exact ⟨0, Nat.zero_le _, rfl, rfl⟩
        case round =>
          obtain ⟨m, hm, rfl, rfl⟩ := hrel
          have hcm := cntB_le zs k m
          by_cases hlm : m < n - (k + 1)
          · exfalso; omega
          · obtain rfl : m = n - (k + 1) := by omega
            obtain ⟨v, hv⟩ : ∃ v, v = cntB zs k (n - (k + 1)) := ⟨_, rfl⟩
            rw [← hv] at hge HRR ⊢
            clear hv
            go_wp2
            go_round
            case rel =>
              first
                | exact ⟨k + 1, u + v, hlt, by go_num, by go_num, HRR.out⟩
                | exact ⟨.int .i64 ((u : Int) + (v : Int)), _, _, _, _, .int .i64 ((k : Int) + 1), ⟨k + 1, u + v, hlt, by go_num, by go_num, HRR.out⟩, rfl, rfl, rfl, rfl, rfl, rfl⟩
                | exact ⟨.int .i64 ((u : Int) + (v : Int)), _, _, _, _, .int .i64 ((k : Int) + 1), ⟨k + 1, hlt, by go_num, u + v, by go_num, HRR.out⟩, rfl, rfl, rfl, rfl, rfl, rfl⟩
            case measure => simp [intOf]; omega
      case inr h =>
        go_loop [6, 8, 21] (fun s6 _ i => ∃ m : Nat, m ≤ n - (k + 1) ∧ i = .int .i64 (m : Int) ∧ s6 = .int .i64 (cntB zs k m : Nat)) (fun _ _ i => n - (intOf i).toNat)
        case atStart => exact ⟨0, Nat.zero_le _, rfl, rfl⟩
        case round =>
          obtain ⟨m, hm, rfl, rfl⟩ := hrel
          have hcm := cntB_le zs k m
          by_cases hlm : m < n - (k + 1)
          · have hcp := HCC.out (k + 1 + m) (by omega)
            rw [← Nat.add_assoc] at hcp
            by_cases hq : gi zs (k + 1 + m) < gi zs k
            · have HQ := Lib.hid hq
              go_wp2
              go_round
              case rel => exact ⟨m + 1, by omega, by go_num, by rw [cntB_yes HQ.out]; go_num⟩
              case measure => simp [intOf]; omega
            · have HQ := Lib.hid hq
              have hq1 : gi zs k ≤ gi zs (k + 1 + m) := by omega
              go_wp2
              go_round
              case rel => exact ⟨m + 1, by omega, by go_num, by rw [cntB_no (by have := HQ.out; omega)]⟩
              case measure => simp [intOf]; omega
          · obtain rfl : m = n - (k + 1) := by omega
            obtain ⟨v, hv⟩ : ∃ v, v = cntB zs k (n - (k + 1)) := ⟨_, rfl⟩
            rw [← hv] at hge HRR ⊢
            clear hv
            go_wp2
            go_round
            case rel =>
              first
                | exact ⟨k + 1, u + v, hlt, by go_num, by go_num, HRR.out⟩
                | exact ⟨.int .i64 ((u : Int) + (v : Int)), _, _, _, _, .int .i64 ((k : Int) + 1), ⟨k + 1, u + v, hlt, by go_num, by go_num, HRR.out⟩, rfl, rfl, rfl, rfl, rfl, rfl⟩
                | exact ⟨.int .i64 ((u : Int) + (v : Int)), _, _, _, _, .int .i64 ((k : Int) + 1), ⟨k + 1, hlt, by go_num, u + v, by go_num, HRR.out⟩, rfl, rfl, rfl, rfl, rfl, rfl⟩
            case measure => simp [intOf]; omega
    · obtain rfl : k = n := by omega
      have e : r = R := by
        rw [List.drop_of_length_le (by omega)] at hr
        exact hr
      subst e
      go_wp2
      go_ret
      exact ⟨rfl, rfl⟩

set_option maxRecDepth 100000 in
set_option maxHeartbeats 2000000 in
theorem alSwap_any (A : Option Addr) (n c : Nat) (zs : List Int) (i : Nat) (w : World) (h : RI w A n zs) (hn : n ≤ 8) (hi : i + 1 < n) :
    Calls Try.prog 46 #[.slice A n c, .int .i64 (i : Int)] w (FreshI w n (exch zs i)) := by
  have hl := h.1
  go_enter Try.func46, Try.ntmps46
  go_wp2_with fail
  refine (l1Own_any A n c zs _ h (by omega)).mono ?_
  rintro e w1 ⟨A1, c1, rfl, o1, hb⟩
  obtain ⟨g, rfl, hB, hg, hc1⟩ : ∃ g, A1 = some ⟨g, 0, none⟩ ∧ w.heap.size ≤ g ∧ g < w1.heap.size ∧ n ≤ c1 := by
    rcases o1.form with ⟨_, _, h0⟩ | ⟨g, cur, h1, h2, h3, h4, h5, _⟩
    · omega
    · exact ⟨g, h1, h2, h3, h5⟩
  have hck := o1.cells i (by omega)
  have hcp := o1.cells (i + 1) hi
  have fk : w1.frozen? ⟨g, i, none⟩ = false := o1.2.frozenAt i
  have fk1 : w1.frozen? ⟨g, i + 1, none⟩ = false := o1.2.frozenAt (i + 1)
  obtain ⟨b, off, rfl, hbw, hc⟩ := h.cell (show i < n by omega)
  have hp0 := (hb.cell (p := ⟨b, off + i, none⟩) hbw).trans (hc i (by omega))
  have hp1 := (hb.cell (p := ⟨b, off + (i + 1), none⟩) hbw).trans (hc (i + 1) hi)
  have hbg : b ≠ g := by omega
  have HO : Hid (OI ((w1.setCell ⟨g, i, none⟩ (.int .i64 (gi zs (i + 1)))).setCell ⟨g, i + 1, none⟩ (.int .i64 (gi zs i))) w.heap.size (some ⟨g, 0, none⟩) n c1 (exch zs i)) := Lib.hid ((o1.stored i _).stored (i + 1) _)
  have HB : Hid (Below w.heap.size w w1) := Lib.hid hb
  clear o1 hb hc h
  go_wp2
  go_ret
  exact ⟨_, _, rfl, HO.out, by repeat (first | exact HB.out | refine Below.setCell ?_ hB _ | refine below_drewN ?_ _ | refine Below.drew ?_)⟩
end Go.Proofs.Ythhpklmiiibcpaa

/- The number of an order among all, and what a counter knows. The model's counter of least ladders. The model's counter: made, asked. The model counts the least ladders of an order, each order once. The contract of CountLeast's model. -/
import Derived.Test.YtgeeifjbfceogaaGreatDoorMgJ
import Derived.Test.YtgeeifjbfceogaaGreatDoorMgG
import Derived.Test.YtgeeifjbfceogaaGreatDoorMgE
import Derived.Test.YtgeeifjbfceogaaGreatDoorMgB
import Derived.WalkMore
import Derived.BigRegion
import Derived.Maps.AppendAt
import Derived.Test.YtgeeifjbfceogaaGreatDoorMgK
import Derived.Test.YtgeeifjbfceogaaGreatDoorMgL
namespace Go.Proofs.YtgeeifjbfceogaaGreatDoor
open Go

def fac : Nat → Nat
  | 0 => 1
  | k + 1 => (k + 1) * fac k
theorem fac_pos : ∀ k, 0 < fac k
  | 0 => by simp [fac]
  | k + 1 => Nat.mul_pos (by omega) (fac_pos k)
def rkA : Nat → List Int → Nat
  | acc, [] => acc
  | acc, x :: xs => rkA (acc * (xs.length + 1) + lessN x xs) xs
def rk (zs : List Int) : Nat := rkA 0 zs
theorem rkA_split : ∀ (l : List Int) (acc : Nat), rkA acc l = acc * fac l.length + rkA 0 l
  | [], acc => by simp [rkA, fac]
  | x :: xs, acc => by
    simp only [rkA, List.length_cons, fac]
    rw [rkA_split xs (acc * (xs.length + 1) + lessN x xs), rkA_split xs (0 * (xs.length + 1) + lessN x xs), Nat.zero_mul, Nat.zero_add, Nat.add_mul (acc * (xs.length + 1)), Nat.mul_assoc]
    omega
theorem rkA_lt : ∀ (l : List Int), rkA 0 l < fac l.length
  | [] => by simp [rkA, fac]
  | x :: xs => by
    simp only [rkA, List.length_cons, fac]
    rw [rkA_split xs, Nat.zero_mul, Nat.zero_add, Nat.add_mul, Nat.one_mul]
    have h1 := rkA_lt xs
    have h2 : lessN x xs * fac xs.length ≤ xs.length * fac xs.length := Nat.mul_le_mul_right _ (lessN_le x xs)
    omega
theorem rkA_ge (l : List Int) (acc : Nat) : acc ≤ rkA acc l := by
  rw [rkA_split]
  have := Nat.le_mul_of_pos_right acc (fac_pos l.length)
  omega
theorem quo_eq {a b F r s : Nat} (h : a * F + r = b * F + s) (hr : r < F) (hs : s < F) : a = b ∧ r = s := by
  rcases Nat.lt_trichotomy a b with h1 | h1 | h1
  · have := Nat.mul_le_mul_right F (show a + 1 ≤ b from h1)
    rw [Nat.add_mul] at this
    omega
  · subst h1
    omega
  · have := Nat.mul_le_mul_right F (show b + 1 ≤ a from h1)
    rw [Nat.add_mul] at this
    omega
theorem lessN_cons (z x : Int) (xs : List Int) : lessN z (x :: xs) = lessN z xs + if x < z then 1 else 0 := by
  unfold lessN
  rw [List.countP_cons]
  simp
theorem lessN_mono {x y : Int} (h : x < y) : ∀ (l : List Int), lessN x l ≤ lessN y l
  | [] => Nat.le_refl _
  | z :: r => by
    rw [lessN_cons, lessN_cons]
    have := lessN_mono h r
    by_cases h1 : z < x
    · have : z < y := by omega
      rw [if_pos h1, if_pos this]; omega
    · rw [if_neg h1]; omega
theorem lessN_lt {x y : Int} (h : x < y) : ∀ (l : List Int), x ∈ l → lessN x l < lessN y l
  | [], hm => by cases hm
  | z :: r, hm => by
    rw [lessN_cons, lessN_cons]
    rcases List.mem_cons.1 hm with rfl | hm
    · have h1 := lessN_mono h r
      rw [if_neg (show ¬ x < x by omega), if_pos h]
      omega
    · have h1 := lessN_lt h r hm
      by_cases h2 : z < x
      · have : z < y := by omega
        rw [if_pos h2, if_pos this]; omega
      · rw [if_neg h2]; omega
theorem rk_inj : ∀ (l l' : List Int), List.Perm l l' → rkA 0 l = rkA 0 l' → l = l'
  | [], l', hp, _ => (List.Perm.nil_eq hp)
  | x :: xs, [], hp, _ => by have := hp.length_eq; simp at this
  | x :: xs, y :: ys, hp, h => by
    have hl : xs.length = ys.length := by have := hp.length_eq; simpa using this
    simp only [rkA] at h
    rw [rkA_split xs, rkA_split ys, hl] at h
    simp only [Nat.zero_mul, Nat.zero_add] at h
    obtain ⟨h1, h2⟩ := quo_eq h (by rw [← hl]; exact rkA_lt xs) (rkA_lt ys)
    have e1 : lessN x (x :: xs) = lessN x xs := by rw [lessN_cons, if_neg (by omega)]; rfl
    have e2 : lessN y (y :: ys) = lessN y ys := by rw [lessN_cons, if_neg (by omega)]; rfl
    have p1 : lessN x (x :: xs) = lessN x (y :: ys) := lessN_perm hp
    have hxy : x = y := by
      rcases Int.lt_trichotomy x y with h3 | h3 | h3
      · have := lessN_lt h3 (y :: ys) (hp.mem_iff.1 (by simp))
        omega
      · exact h3
      · have := lessN_lt h3 (y :: ys) (by simp)
        omega
    subst hxy
    rw [rk_inj xs ys (List.Perm.cons_inv hp) h2]
theorem seats_app {zs : List Int} (h : zs.length ≤ 8) : seats zs = zs ++ ((List.range (8 - zs.length)).map fun (j : Nat) => ((zs.length + j : Nat) : Int)) := by
  refine gi_ext (by rw [seats_length]; simp; omega) fun j hj => ?_
  rw [seats_length] at hj
  rw [gi_seats zs j hj]
  unfold gi
  by_cases hlt : j < zs.length
  · rw [if_pos hlt]
    simp [List.getD, List.getElem?_append_left hlt]
  · rw [if_neg hlt]
    simp only [List.getD]
    rw [List.getElem?_append_right (by omega)]
    rw [List.getElem?_map, List.getElem?_range (by omega)]
    simp
    omega
theorem ord_perms {a b : List Int} (ha : ord a = true) (hb : ord b = true) (hl : a.length = b.length) : List.Perm a b := by
  have a1 := ord_iff.1 ha
  have b1 := ord_iff.1 hb
  have sa := (seats_ord a1.1 a1.2.1).2 ha
  have sb := (seats_ord b1.1 b1.2.1).2 hb
  have hp : List.Perm (seats a) (seats b) := (srt_perm (seats a)).symm.trans (by rw [sa, ← sb]; exact srt_perm (seats b))
  rw [seats_app a1.2.1, seats_app b1.2.1, hl] at hp
  exact (List.perm_append_right_iff _).1 hp

/-- What a counter knows of the orders of n numbers. -/
def KN (n : Nat) (ks : List Int) : Prop := ks.length = fac n ∧ ∀ q, ord q = true → q.length = n → gi ks (rk q) = -1 ∨ gi ks (rk q) = (cnt q : Int)
theorem rk_lt {n : Nat} {q : List Int} (hl : q.length = n) : rk q < fac n := by rw [← hl]; exact rkA_lt q
theorem KN.start (n : Nat) : KN n (List.replicate (fac n) (-1)) := by
  refine ⟨by simp, fun q hq hl => .inl ?_⟩
  have := rk_lt hl
  simp [gi, List.getD, this]
theorem KN.set {n : Nat} {ks : List Int} (h : KN n ks) {q : List Int} (hq : ord q = true) (hl : q.length = n) : KN n (ks.set (rk q) (cnt q : Int)) := by
  refine ⟨by rw [List.length_set, h.1], fun q' hq' hl' => ?_⟩
  rw [gi_set _ _ _ _ (by rw [h.1]; exact rk_lt hl)]
  by_cases e : rk q' = rk q
  · rw [if_pos e]
    have := rk_inj q' q (ord_perms hq' hq (by omega)) e
    subst this
    exact .inr rfl
  · rw [if_neg e]
    exact h.2 q' hq' hl'
end Go.Proofs.YtgeeifjbfceogaaGreatDoor
namespace Go.Proofs.YtgeeifjbfceogaaGreatDoor
open Go Go.RowKit

theorem drop_gi {zs : List Int} {k : Nat} (h : k < zs.length) : zs.drop k = gi zs k :: zs.drop (k + 1) := by
  rw [List.drop_eq_getElem_cons h, gi_lt h]
theorem cntB_less (zs : List Int) (k : Nat) : ∀ m, k + 1 + m ≤ zs.length → cntB zs k m = lessN (gi zs k) ((zs.drop (k + 1)).take m)
  | 0, _ => by simp [cntB, lessN]
  | m + 1, h => by
    have ih := cntB_less zs k m (by omega)
    have e : (zs.drop (k + 1)).take (m + 1) = (zs.drop (k + 1)).take m ++ [gi zs (k + 1 + m)] := by
      rw [List.take_add_one, List.getElem?_drop, List.getElem?_eq_getElem (by omega), gi_lt (by omega)]
      rfl
    rw [e]
    unfold lessN at ih ⊢
    rw [List.countP_append, ← ih]
    by_cases hq : gi zs (k + 1 + m) < gi zs k
    · rw [cntB_yes hq]; simp [hq]
    · rw [cntB_no hq]; simp [hq]
theorem rk_step {zs : List Int} {k r : Nat} (h : k < zs.length) : rkA r (zs.drop k) = rkA (r * (zs.length - k) + cntB zs k (zs.length - (k + 1))) (zs.drop (k + 1)) := by
  rw [drop_gi h]
  simp only [rkA]
  have e1 : (zs.drop (k + 1)).length + 1 = zs.length - k := by rw [List.length_drop]; omega
  have e2 : lessN (gi zs k) (zs.drop (k + 1)) = cntB zs k (zs.length - (k + 1)) := by
    rw [cntB_less zs k _ (by omega), List.take_of_length_le (by rw [List.length_drop]; omega)]
  rw [e1, e2]
theorem fac_six (n : Nat) (h : n ≤ 6) : fac n ≤ 720 := by
  have : ∀ n, n < 7 → fac n ≤ 720 := by decide
  exact this n (by omega)

set_option maxRecDepth 100000 in
set_option maxHeartbeats 4000000 in
theorem alRank_any (A : Option Addr) (n c : Nat) (zs : List Int) (w : World) (h : RI w A n zs) (hn : n ≤ 6) (hnc : n ≤ c) :
    Calls Tryz.prog 67 #[.slice A n c] w (fun e w' => e = .returned (.int .i64 ((rk zs : Nat) : Int)) ∧ w' = w) := by
  have hl := h.1
  have hrk : rk zs < 720 := Nat.lt_of_lt_of_le (rk_lt hl) (fac_six n hn)
  have HA := Lib.hid h
  obtain ⟨R, hR⟩ : ∃ R, R = rk zs := ⟨_, rfl⟩
  rw [← hR] at hrk ⊢
  have HR := Lib.hid hR
  clear h hR
  go_enter Tryz.func67, Tryz.ntmps67
  go_wp2
  go_loop [3, 4, 5, 6, 8, 11] (fun s3 _ _ _ _ i => ∃ k r : Nat, k ≤ n ∧ i = .int .i64 (k : Int) ∧ s3 = .int .i64 (r : Int) ∧ rkA r (zs.drop k) = R) (fun _ _ _ _ _ i => n - (intOf i).toNat)
  case atStart => exact ⟨0, 0, Nat.zero_le _, rfl, rfl, by rw [HR.out]; rfl⟩
  case round =>
    obtain ⟨k, r, hk, rfl, rfl, hr⟩ := hrel
    by_cases hlt : k < n
    · obtain ⟨b, off, rfl, hbw, hc⟩ := HA.out.cell hlt
      have HCC := Lib.hid hc
      have hck := hc k hlt
      have hkn : k + 1 ≤ n := hlt
      rw [rk_step (by omega), hl] at hr
      have hge := rkA_ge (zs.drop (k + 1)) (r * (n - k) + cntB zs k (n - (k + 1)))
      rw [hr] at hge
      obtain ⟨u, hu⟩ : ∃ u, u = r * (n - k) := ⟨_, rfl⟩
      have hmul : (r : Int) * ((n : Int) - (k : Int)) = (u : Int) := by rw [hu, ← Int.ofNat_sub (by omega)]; simp
      have hr2 : r ≤ u := by rw [hu]; exact Nat.le_mul_of_pos_right r (by omega)
      rw [← hu] at hr hge
      have HRR := Lib.hid hr
      clear hc hu hr
      have hri : (r : Int) ≤ 720 := by omega
      have hui : (u : Int) ≤ 720 := by omega
      go_wp2_with fail
      case inl h =>
        go_loop [6, 8, 21] (fun s6 _ i => ∃ m : Nat, m ≤ n - (k + 1) ∧ i = .int .i64 (m : Int) ∧ s6 = .int .i64 (cntB zs k m : Nat)) (fun _ _ i => n - (intOf i).toNat)
        case atStart => exact ⟨0, Nat.zero_le _, rfl, rfl⟩
        case round =>
          obtain ⟨m, hm, rfl, rfl⟩ := hrel
          have hcm := cntB_le zs k m
          by_cases hlm : m < n - (k + 1)
          · exfalso; omega
          · obtain rfl : m = n - (k + 1) := by omega
            obtain ⟨v, hv⟩ : ∃ v, v = cntB zs k (n - (k + 1)) := ⟨_, rfl⟩
            rw [← hv] at hge HRR ⊢
            clear hv
            go_wp2
            go_round
            case rel =>
              first
                | exact ⟨k + 1, u + v, hlt, by go_num, by go_num, HRR.out⟩
                | exact ⟨.int .i64 ((u : Int) + (v : Int)), _, _, _, _, .int .i64 ((k : Int) + 1), ⟨k + 1, u + v, hlt, by go_num, by go_num, HRR.out⟩, rfl, rfl, rfl, rfl, rfl, rfl⟩
                | exact ⟨.int .i64 ((u : Int) + (v : Int)), _, _, _, _, .int .i64 ((k : Int) + 1), ⟨k + 1, hlt, by go_num, u + v, by go_num, HRR.out⟩, rfl, rfl, rfl, rfl, rfl, rfl⟩
            case measure => simp [intOf]; omega
      case inr h =>
        go_loop [6, 8, 21] (fun s6 _ i => ∃ m : Nat, m ≤ n - (k + 1) ∧ i = .int .i64 (m : Int) ∧ s6 = .int .i64 (cntB zs k m : Nat)) (fun _ _ i => n - (intOf i).toNat)
        case atStart => exact ⟨0, Nat.zero_le _, rfl, rfl⟩
        case round =>
          obtain ⟨m, hm, rfl, rfl⟩ := hrel
          have hcm := cntB_le zs k m
          by_cases hlm : m < n - (k + 1)
          · have hcp := HCC.out (k + 1 + m) (by omega)
            rw [← Nat.add_assoc] at hcp
            by_cases hq : gi zs (k + 1 + m) < gi zs k
            · have HQ := Lib.hid hq
              go_wp2
              go_round
              case rel => exact ⟨m + 1, by omega, by go_num, by rw [cntB_yes HQ.out]; go_num⟩
              case measure => simp [intOf]; omega
            · have HQ := Lib.hid hq
              have hq1 : gi zs k ≤ gi zs (k + 1 + m) := by omega
              go_wp2
              go_round
              case rel => exact ⟨m + 1, by omega, by go_num, by rw [cntB_no (by have := HQ.out; omega)]⟩
              case measure => simp [intOf]; omega
          · obtain rfl : m = n - (k + 1) := by omega
            obtain ⟨v, hv⟩ : ∃ v, v = cntB zs k (n - (k + 1)) := ⟨_, rfl⟩
            rw [← hv] at hge HRR ⊢
            clear hv
            go_wp2
            go_round
            case rel =>
              first
                | exact ⟨k + 1, u + v, hlt, by go_num, by go_num, HRR.out⟩
                | exact ⟨.int .i64 ((u : Int) + (v : Int)), _, _, _, _, .int .i64 ((k : Int) + 1), ⟨k + 1, u + v, hlt, by go_num, by go_num, HRR.out⟩, rfl, rfl, rfl, rfl, rfl, rfl⟩
                | exact ⟨.int .i64 ((u : Int) + (v : Int)), _, _, _, _, .int .i64 ((k : Int) + 1), ⟨k + 1, hlt, by go_num, u + v, by go_num, HRR.out⟩, rfl, rfl, rfl, rfl, rfl, rfl⟩
            case measure => simp [intOf]; omega
    · obtain rfl : k = n := by omega
      have e : r = R := by
        rw [List.drop_of_length_le (by omega)] at hr
        exact hr
      subst e
      go_wp2
      go_ret
      exact ⟨rfl, rfl⟩

set_option maxRecDepth 100000 in
set_option maxHeartbeats 2000000 in
theorem alSwap_any (A : Option Addr) (n c : Nat) (zs : List Int) (i : Nat) (w : World) (h : RI w A n zs) (hn : n ≤ 8) (hi : i + 1 < n) :
    Calls Tryz.prog 53 #[.slice A n c, .int .i64 (i : Int)] w (FreshI w n (exch zs i)) := by
  have hl := h.1
  go_enter Tryz.func53, Tryz.ntmps53
  go_wp2_with fail
  refine (l1Own_any A n c zs _ h (by omega)).mono ?_
  rintro e w1 ⟨A1, c1, rfl, o1, hb⟩
  obtain ⟨g, rfl, hB, hg, hc1⟩ : ∃ g, A1 = some ⟨g, 0, none⟩ ∧ w.heap.size ≤ g ∧ g < w1.heap.size ∧ n ≤ c1 := by
    rcases o1.form with ⟨_, _, h0⟩ | ⟨g, cur, h1, h2, h3, h4, h5, _⟩
    · omega
    · exact ⟨g, h1, h2, h3, h5⟩
  have hck := o1.cells i (by omega)
  have hcp := o1.cells (i + 1) hi
  have fk : w1.frozen? ⟨g, i, none⟩ = false := o1.2.frozenAt i
  have fk1 : w1.frozen? ⟨g, i + 1, none⟩ = false := o1.2.frozenAt (i + 1)
  obtain ⟨b, off, rfl, hbw, hc⟩ := h.cell (show i < n by omega)
  have hp0 := (hb.cell (p := ⟨b, off + i, none⟩) hbw).trans (hc i (by omega))
  have hp1 := (hb.cell (p := ⟨b, off + (i + 1), none⟩) hbw).trans (hc (i + 1) hi)
  have hbg : b ≠ g := by omega
  have HO : Hid (OI ((w1.setCell ⟨g, i, none⟩ (.int .i64 (gi zs (i + 1)))).setCell ⟨g, i + 1, none⟩ (.int .i64 (gi zs i))) w.heap.size (some ⟨g, 0, none⟩) n c1 (exch zs i)) := Lib.hid ((o1.stored i _).stored (i + 1) _)
  have HB : Hid (Below w.heap.size w w1) := Lib.hid hb
  clear o1 hb hc h
  go_wp2
  go_ret
  exact ⟨_, _, rfl, HO.out, by repeat (first | exact HB.out | refine Below.setCell ?_ hB _ | refine below_drewN ?_ _ | refine Below.drew ?_)⟩
end Go.Proofs.YtgeeifjbfceogaaGreatDoor
namespace Go.Proofs.YtgeeifjbfceogaaGreatDoor
open Go Go.RowKit

/-- A counter for orders of n numbers. -/
structure Ctr (w : World) (g r n N c : Nat) (ks : List Int) : Prop where
  cell : w.cell? ⟨g, 0, none⟩ = some (.slice (some ⟨r, 0, none⟩) N c)
  row : OI w r (some ⟨r, 0, none⟩) N c ks
  kn : KN n ks
  ne : g ≠ r
  lt : g < w.heap.size
theorem Ctr.below {w w' : World} {g r n N c : Nat} {ks : List Int} (h : Ctr w g r n N c ks) (hb : Below w.heap.size w w') : Ctr w' g r n N c ks :=
  ⟨(hb.cell (p := ⟨g, 0, none⟩) h.lt).trans h.cell, h.row.below hb, h.kn, h.ne, Nat.lt_of_lt_of_le h.lt hb.size⟩
theorem Ctr.drewN {w : World} {g r n N c : Nat} {ks : List Int} (h : Ctr w g r n N c ks) (k : Nat) : Ctr (w.drewN k) g r n N c ks := ⟨h.cell, h.row, h.kn, h.ne, h.lt⟩
theorem Ctr.rlt {w : World} {g r n N c : Nat} {ks : List Int} (h : Ctr w g r n N c ks) : r < w.heap.size := (h.row.blk r rfl).2

set_option maxRecDepth 100000 in
set_option maxHeartbeats 4000000 in
theorem alNew_any (n : Nat) (w : World) (hn2 : 2 ≤ n) (hn : n ≤ 6) :
    Calls Tryz.prog 44 #[.int .i64 (n : Int)] w (fun e w' => ∃ g r c ks, e = .returned (.pointer (some ⟨g, 0, none⟩)) ∧ Ctr w' g r n (fac n) c ks ∧ w.heap.size ≤ r ∧ w.heap.size ≤ g ∧ Below w.heap.size w w') := by
  have hf := fac_six n hn
  obtain ⟨N, hN⟩ : ∃ N, N = fac n := ⟨_, rfl⟩
  rw [← hN] at hf ⊢
  have hmk := run_make_row' (P := Tryz.prog) 22 3 (.int .i64 0) 8 Tryz.underlying22 infoInt rfl .i64 .i64 N (by omega) (by omega)
  have HN := Lib.hid hN
  clear hN
  go_enter Tryz.func44, Tryz.ntmps44
  go_wp2
  go_loopw [3, 4] (fun s3 s4 wr => ∃ k : Nat, 1 ≤ k ∧ k ≤ n ∧ s4 = .int .i64 ((k : Int) + 1) ∧ s3 = .int .i64 ((fac k : Nat) : Int) ∧ wr = w) (fun _ s4 _ => n + 2 - (intOf s4).toNat)
  case atStart => exact ⟨1, by omega, by omega, rfl, rfl, rfl⟩
  case round =>
    obtain ⟨k, hk1, hk2, rfl, rfl, rfl⟩ := hrel
    by_cases hlt : k < n
    · have hfk := fac_six k (by omega)
      have hfk1 := fac_six (k + 1) (by omega)
      have hmul : ((fac k : Nat) : Int) * ((k : Int) + 1) = ((fac (k + 1) : Nat) : Int) := by simp [fac, Int.mul_comm]
      obtain ⟨u, hu⟩ : ∃ u, u = fac k := ⟨_, rfl⟩
      obtain ⟨v, hv⟩ : ∃ v, v = fac (k + 1) := ⟨_, rfl⟩
      rw [← hu, ← hv] at hmul
      rw [← hu] at hfk ⊢
      rw [← hv] at hfk1
      have HV := Lib.hid hv
      clear hu hv hmk
      go_wp2
      go_roundw
      case rel => exact ⟨k + 1, by omega, by omega, by go_num, by rw [← HV.out], by first | rfl | trivial⟩
      case measure => simp [intOf]; omega
    · obtain rfl : k = n := by omega
      rw [← HN.out]
      go_wp2
      obtain ⟨wo, hwo⟩ : ∃ wo, wo = wr := ⟨_, rfl⟩
      subst hwo
      have HO0 : Hid (OI ((wo.alloc (.cells (madeCells #[.int .i64 0] N) 3)).alloc (.cells #[.slice (some ⟨wo.heap.size, 0, none⟩) N N] 77)) wo.heap.size (some ⟨wo.heap.size, 0, none⟩) N N (List.replicate N 0)) :=
        Lib.hid ((OI.of_rowIs (Nat.le_refl _) (World.rowIs_made wo (.int .i64 0) N 3) (by unfold maxLen; omega) (by simp) (fun j hj => by simp [gi, List.getD, hj])).alloc _)
      have HC0 : Hid (((wo.alloc (.cells (madeCells #[.int .i64 0] N) 3)).alloc (.cells #[.slice (some ⟨wo.heap.size, 0, none⟩) N N] 77)).cell? ⟨wo.heap.size + 1, 0, none⟩ = some (.slice (some ⟨wo.heap.size, 0, none⟩) N N)) := by
        show _ = _
        rw [show wo.heap.size + 1 = (wo.alloc (.cells (madeCells #[.int .i64 0] N) 3)).heap.size by simp]
        simp
      have HB0 : Hid (Below wo.heap.size wo ((wo.alloc (.cells (madeCells #[.int .i64 0] N) 3)).alloc (.cells #[.slice (some ⟨wo.heap.size, 0, none⟩) N N] 77))) := Lib.hid (((Below.refl _ wo).alloc (Nat.le_refl _) _).alloc (by simp) _)
      have HZ0 : Hid (((wo.alloc (.cells (madeCells #[.int .i64 0] N) 3)).alloc (.cells #[.slice (some ⟨wo.heap.size, 0, none⟩) N N] 77)).heap.size = wo.heap.size + 2) := by show _ = _; simp
      obtain ⟨w2, hw2⟩ : ∃ w2, w2 = (wo.alloc (.cells (madeCells #[.int .i64 0] N) 3)).alloc (.cells #[.slice (some ⟨wo.heap.size, 0, none⟩) N N] 77) := ⟨_, rfl⟩
      rw [← hw2] at HO0 HC0 HB0 HZ0 ⊢
      clear hw2 hmk
      go_loopw [24] (fun i wi => ∃ (j : Nat) (ks : List Int), j ≤ N ∧ i = .int .i64 (j : Int) ∧ OI wi wo.heap.size (some ⟨wo.heap.size, 0, none⟩) N N ks ∧ (∀ x, x < j → gi ks x = -1) ∧ wi.cell? ⟨wo.heap.size + 1, 0, none⟩ = some (.slice (some ⟨wo.heap.size, 0, none⟩) N N) ∧ Below wo.heap.size wo wi ∧ wo.heap.size + 2 ≤ wi.heap.size) (fun i _ => N - (intOf i).toNat)
      case atStart => exact ⟨0, _, Nat.zero_le _, rfl, HO0.out, fun x hx => by omega, HC0.out, HB0.out, by have := HZ0.out; omega⟩
      case round =>
        obtain ⟨j, ks, hj, rfl, ho, hks, hcell, hb, hz⟩ := hrel
        have HO := Lib.hid ho
        have HK := Lib.hid hks
        have HB := Lib.hid hb
        have HCL := Lib.hid hcell
        by_cases hlj : j < N
        · have hck := HO.out.cells j hlj
          have fk : wr.frozen? ⟨wo.heap.size, j, none⟩ = false := HO.out.2.frozenAt j
          clear ho hks hb
          go_wp2
          go_roundw
          case rel =>
            refine ⟨j + 1, ks.set j (-1), by omega, by go_num, HO.out.stored j (-1), fun x hx => ?_, ?_, HB.out.setCell (by simp) _, by simpa using hz⟩
            · rw [gi_set _ _ _ _ (by rw [HO.out.1]; exact hlj)]
              by_cases e : x = j
              · rw [if_pos e]
              · rw [if_neg e]; exact HK.out x (by omega)
            · rw [World.cell?_setCell_other _ _ _ _ (by intro e; simp at e)]
              exact HCL.out
          case measure => simp [intOf]; omega
        · obtain rfl : j = N := by omega
          clear ho hks hb
          go_wp2
          go_ret
          exact ⟨wo.heap.size + 1, wo.heap.size, j, ks, rfl, ⟨HCL.out, HO.out, ⟨by rw [HO.out.1]; exact HN.out, fun q hq hl => .inl (HK.out _ (by rw [HN.out]; exact rk_lt hl))⟩, by omega, by omega⟩, Nat.le_refl _, Nat.le_succ _, HB.out⟩
end Go.Proofs.YtgeeifjbfceogaaGreatDoor
namespace Go.Proofs.YtgeeifjbfceogaaGreatDoor
open Go Go.RowKit

def sumK (q : List Int) (k : Nat) : Nat := ((dscK q k).map fun d => cnt (exch q d.toNat)).sum
theorem sumK_yes {q : List Int} {k : Nat} (h : gi q (k + 1) < gi q k) : sumK q (k + 1) = sumK q k + cnt (exch q k) := by
  unfold sumK
  simp only [dscK]
  rw [if_pos h]
  simp [List.sum_append]
theorem sumK_no {q : List Int} {k : Nat} (h : ¬ gi q (k + 1) < gi q k) : sumK q (k + 1) = sumK q k := by
  unfold sumK
  simp only [dscK]
  rw [if_neg h, List.append_nil]
theorem sumK_mono (q : List Int) (k : Nat) : ∀ j, sumK q k ≤ sumK q (k + j)
  | 0 => Nat.le_refl _
  | j + 1 => by
    have ih := sumK_mono q k j
    by_cases h : gi q (k + j + 1) < gi q (k + j)
    · rw [← Nat.add_assoc, sumK_yes h]; omega
    · rw [← Nat.add_assoc, sumK_no h]; exact ih
theorem sumK_all {q : List Int} (h : 0 < ninv q) : sumK q (q.length - 1) = cnt q := (cnt_step h).symm
theorem cnt_small {q : List Int} (h : q.length ≤ 6) : cnt q ≤ 30517578125 := np_small _ h
theorem sumK_small {q : List Int} (h6 : q.length ≤ 6) {k : Nat} (hk : k + 1 ≤ q.length) : sumK q k ≤ 30517578125 := by
  rcases Nat.eq_zero_or_pos (ninv q) with h0 | h0
  · have e : dscK q k = [] := by
      rcases hd : dscK q k with _ | ⟨d, r⟩
      · rfl
      · obtain ⟨i, _, h2, h3⟩ := mem_dscK (zs := q) (d := d) k (by rw [hd]; simp)
        have := ninv_exch q i (by omega) h3
        omega
    unfold sumK
    rw [e]
    simp
  · have h1 := sumK_mono q k (q.length - 1 - k)
    rw [show k + (q.length - 1 - k) = q.length - 1 by omega, sumK_all h0] at h1
    have := cnt_small h6
    omega
def noD (q : List Int) (k : Nat) : Bool := (dscK q k).isEmpty
theorem noD_yes {q : List Int} {k : Nat} (h : gi q (k + 1) < gi q k) : noD q (k + 1) = false := by
  unfold noD
  simp only [dscK]
  rw [if_pos h]
  simp
theorem noD_no {q : List Int} {k : Nat} (h : ¬ gi q (k + 1) < gi q k) : noD q (k + 1) = noD q k := by
  unfold noD
  simp only [dscK]
  rw [if_neg h, List.append_nil]

set_option maxRecDepth 100000 in
set_option maxHeartbeats 8000000 in
theorem count_any (n : Nat) (hn2 : 2 ≤ n) (hn : n ≤ 6) (g r c N : Nat) (hNN : N = fac n) : ∀ (M : Nat) (q : List Int), ord q = true → q.length = n → ninv q < M → ∀ (A : Option Addr) (cA : Nat) (ks : List Int) (w : World), RI w A n q → n ≤ cA → (∀ b, blk A = some b → b ≠ r) → Ctr w g r n N c ks →
    Calls Tryz.prog 45 #[.pointer (some ⟨g, 0, none⟩), .slice A n cA] w
      (fun e w' => e = .returned (.int .i64 ((cnt q : Nat) : Int)) ∧ ∃ ks', Ctr w' g r n N c ks' ∧ w.grownBy w' (some r)) := by
  intro M
  induction M with
  | zero => intro q _ _ h; omega
  | succ M ih =>
    intro q hq hl hM A cA ks w hA hcA hbl hC
    have hN : N ≤ 720 := by rw [hNN]; exact fac_six n hn
    have hR0 : rk q < N := by rw [hNN]; exact rk_lt hl
    have HRK := Lib.hid (alRank_any A n cA q w hA hn hcA)
    have hcs := cnt_small (q := q) (by omega)
    have HKN := Lib.hid (hC.kn.2 q hq hl)
    have HCC := Lib.hid (hC.row.cells (rk q) hR0)
    obtain ⟨R, hR⟩ : ∃ R, R = rk q := ⟨_, rfl⟩
    rw [← hR] at hR0 HRK HKN HCC
    have HRR := Lib.hid hR
    have c0 := hC.cell
    have HQ := Lib.hid hq
    have HIH := Lib.hid ih
    have HAA := Lib.hid hA
    have HBL := Lib.hid hbl
    have HC := Lib.hid hC
    have HNN := Lib.hid hNN
    obtain ⟨v, hv⟩ : ∃ v, v = gi ks R := ⟨_, rfl⟩
    rw [← hv] at HKN HCC
    have hck := HCC.out
    clear hR hq ih hA hbl hC hNN hv
    rcases HKN.out with hv | hv
    · have hvn : ¬ 0 ≤ v := by omega
      clear HKN HCC hv
      go_enter Tryz.func45, Tryz.ntmps45
      go_wp2_with fail
      refine HRK.out.mono ?_
      rintro e w1 ⟨rfl, rfl⟩
      go_wp2
      clear hck c0 HRK
      obtain ⟨ws, hws⟩ : ∃ ws, ws = w1 := ⟨_, rfl⟩
      subst hws
      go_loopw [6, 7, 8] (fun s6 s7 s8 wr => ∃ (k S : Nat) (ks1 : List Int), k + 1 ≤ n ∧ s8 = .int .i64 (k : Int) ∧ s6 = .int .i64 (S : Int) ∧ s7 = .bool (noD q k) ∧ S = sumK q k ∧ Ctr wr g r n N c ks1 ∧ ws.grownBy wr (some r)) (fun _ _ s8 _ => n - (intOf s8).toNat)
      case atStart => exact ⟨0, 0, ks, by omega, rfl, rfl, rfl, rfl, HC.out, grown_refl _ _⟩
      case round =>
        obtain ⟨k, S, ks1, hk, rfl, rfl, rfl, hS, hct, hgr⟩ := hrel
        have HCT := Lib.hid hct
        have HGR := Lib.hid hgr
        have HSS := Lib.hid hS
        have hSl : S ≤ 30517578125 := by rw [hS]; exact sumK_small (by omega) (by omega)
        clear hct hgr hS
        have hSi : (S : Int) ≤ 30517578125 := by omega
        by_cases hlt : k + 1 < n
        · have hAr : RI wr A n q := HAA.out.kept HGR.out (fun b hb e => by injection e with e; exact HBL.out b hb e.symm)
          have HAR := Lib.hid hAr
          obtain ⟨b, off, rfl, _, hcell⟩ := hAr.cell (show k < n by omega)
          have hk0 := hcell k (by omega)
          have hk1 := hcell (k + 1) hlt
          have hlti : (k : Int) + 1 < (n : Int) := by omega
          clear hcell hAr
          obtain ⟨bq, hbq⟩ : ∃ bq, bq = noD q k := ⟨_, rfl⟩
          have HBQ := Lib.hid hbq
          rw [← hbq]
          clear hbq
          by_cases hd : gi q (k + 1) < gi q k
          · have HD := Lib.hid hd
            have hxs := cnt_small (q := exch q k) (by rw [exch_length]; omega)
            have hinv := ninv_exch q k (by omega) hd
            have hsk : S + cnt (exch q k) ≤ 30517578125 := by
              rw [HSS.out, ← sumK_yes hd]; exact sumK_small (by omega) (by omega)
            obtain ⟨x, hx⟩ : ∃ x, x = cnt (exch q k) := ⟨_, rfl⟩
            rw [← hx] at hxs hsk
            have HX := Lib.hid hx
            have HIN := Lib.hid hinv
            clear hx hinv
            have hxi : (S : Int) + (x : Int) ≤ 30517578125 := by omega
            have hxi2 : (x : Int) ≤ 30517578125 := by omega
            go_wp2
            go_quiet (fail)
            clear hd
            go_wp2_with fail
            refine (alSwap_any _ n cA q k _ (HAR.out.drewN _) (by omega) hlt).mono ?_
            rintro e w5 ⟨A5, c5, rfl, o5, hb5⟩
            have HO5 := Lib.hid o5
            have HB5 := Lib.hid hb5
            have HC5 := Lib.hid ((HCT.out.drewN nq).below hb5)
            clear o5 hb5
            go_wp2_with fail
            refine (HIH.out (exch q k) (ord_perm (exch_perm q k (by omega)).symm HQ.out) (by rw [exch_length]; exact hl) (by have := HIN.out; omega) A5 c5 ks1 w5 HO5.out.ri HO5.out.le (fun b hb => by have h1 := (HO5.out.blk b hb).1; have h2 := HCT.out.rlt; simp at h1; omega) HC5.out).mono ?_
            rintro e w6 ⟨rfl, ks2, hc6, hg6⟩
            have HC6 := Lib.hid hc6
            have HG6 : Hid (ws.grownBy w6 (some r)) := Lib.hid ((World.grownBy.trans (b := wr.drewN nq) (by exact ⟨HGR.out.os, HGR.out.tape, HGR.out.output, HGR.out.size, HGR.out.block⟩) (grown_of_below HB5.out (some r))).trans hg6)
            rw [← HX.out]
            clear hc6 hg6
            go_wp2
            go_roundw
            case rel => exact ⟨k + 1, S + x, ks2, by omega, by go_num, by go_num, by rw [noD_yes HD.out], by rw [sumK_yes HD.out, HSS.out, HX.out], HC6.out, HG6.out⟩
            case measure => simp [intOf]; omega
          · have HD := Lib.hid hd
            have hd1 : gi q k ≤ gi q (k + 1) := by omega
            go_wp2
            go_quiet (fail)
            go_wp2
            go_roundw
            case rel => exact ⟨k + 1, S, ks1, by omega, by go_num, rfl, by rw [noD_no (by have := HD.out; omega), HBQ.out], by rw [sumK_no (by have := HD.out; omega), HSS.out], HCT.out.drewN _, by exact ⟨HGR.out.os, HGR.out.tape, HGR.out.output, HGR.out.size, HGR.out.block⟩⟩
            case measure => simp [intOf]; omega
        · obtain ⟨bq, hbq⟩ : ∃ bq, bq = noD q k := ⟨_, rfl⟩
          have HEND : Hid (if bq = true then cnt q = 1 else S = cnt q) := by
            show if _ then _ else _
            have hkn : k = q.length - 1 := by omega
            subst hbq
            rcases hb : noD q k with _ | _
            · rw [if_neg (by simp)]
              rw [HSS.out, hkn, sumK_all]
              rcases Nat.eq_zero_or_pos (ninv q) with h0 | h0
              · have := dscL_nil h0
                unfold noD at hb
                unfold dscL at this
                rw [hkn, this] at hb
                cases hb
              · exact h0
            · rw [if_pos rfl]
              refine cnt_sorted ?_
              rcases Nat.eq_zero_or_pos (ninv q) with h0 | h0
              · exact h0
              · have := dscL_ne h0
                unfold noD at hb
                unfold dscL at this
                rw [hkn] at hb
                exact absurd (List.isEmpty_iff.1 hb) this
          rw [← hbq]
          clear hbq
          have hck1 := HCT.out.row.cells R hR0
          have fk1 : wr.frozen? ⟨r, R, none⟩ = false := HCT.out.row.2.frozenAt R
          have c1 := HCT.out.cell
          have hlti : ¬ (k : Int) + 1 < (n : Int) := by omega
          cases bq
          · have HCN : Hid (S = cnt q) := HEND.out
            go_wp2
            go_ret
            exact ⟨by first | (rw [HCN.out]; rfl) | (rw [← HCN.out]; rfl), ⟨ks1.set R (cnt q : Int), ⟨by rw [World.cell?_setCell_other _ _ _ _ (by intro e; injection e with e1 _ _; exact HCT.out.ne e1.symm)]; exact HCT.out.cell, by rw [← HCN.out]; exact HCT.out.row.stored R _, by rw [HRR.out]; exact HCT.out.kn.set HQ.out hl, HCT.out.ne, by simpa using HCT.out.lt⟩⟩, grown_setCell HGR.out (.inl rfl) _⟩
          · have HCN : Hid (1 = cnt q) := Lib.hid (Eq.symm HEND.out)
            go_wp2
            go_ret
            exact ⟨by first | (rw [HCN.out]; rfl) | (rw [← HCN.out]; rfl), ⟨ks1.set R (cnt q : Int), ⟨by rw [World.cell?_setCell_other _ _ _ _ (by intro e; injection e with e1 _ _; exact HCT.out.ne e1.symm)]; exact HCT.out.cell, by rw [← HCN.out]; exact HCT.out.row.stored R _, by rw [HRR.out]; exact HCT.out.kn.set HQ.out hl, HCT.out.ne, by simpa using HCT.out.lt⟩⟩, grown_setCell HGR.out (.inl rfl) _⟩
    · have hvn : 0 ≤ v := by omega
      subst hv
      clear HKN HCC
      go_enter Tryz.func45, Tryz.ntmps45
      go_wp2_with fail
      refine HRK.out.mono ?_
      rintro e w1 ⟨rfl, rfl⟩
      go_wp2
      go_ret
      exact ⟨rfl, ks, HC.out, grown_refl _ _⟩
end Go.Proofs.YtgeeifjbfceogaaGreatDoor
namespace Go.Proofs.YtgeeifjbfceogaaGreatDoor
open Go Go.RowKit

set_option maxHeartbeats 1000000 in
theorem alGood_any (A : Option Addr) (n c : Nat) (zs : List Int) (w : World) (h : RI w A n zs) (hn : n ≤ 1048576) (hnc : n ≤ c) :
    Calls Tryz.prog 43 #[.slice A n c] w (SameB (cg zs) w) := by
  have hl := h.1
  have HI := Lib.hid (laOrder_any A n c zs w h hn hnc)
  obtain ⟨q, hq⟩ : ∃ q, q = ord zs := ⟨_, rfl⟩
  rw [← hq] at HI
  have e : cg zs = (q && inB (n : Int) 2 6) := by
    unfold cg inB
    rw [hq, hl]
    congr 1
    exact decide_eq_decide.2 (by omega)
  rw [e]
  obtain ⟨b, hb⟩ : ∃ b, b = inB (n : Int) 2 6 := ⟨_, rfl⟩
  rw [← hb]
  have HL := Lib.hid (l1In_any (n : Int) 2 6 w)
  rw [← hb] at HL
  clear e hq h hb
  cases q
  · go_enter Tryz.func43, Tryz.ntmps43
    go_wp2_with fail
    refine HI.out.mono ?_
    rintro e w1 ⟨rfl, rfl⟩
    go_wp2
    go_ret
    exact ⟨rfl, rfl⟩
  · go_enter Tryz.func43, Tryz.ntmps43
    go_wp2_with fail
    refine HI.out.mono ?_
    rintro e w1 ⟨rfl, rfl⟩
    go_wp2_with fail
    refine HL.out.mono ?_
    rintro e w2 ⟨rfl, rfl⟩
    go_wp2
    go_ret
    exact ⟨by simp, rfl⟩

set_option maxHeartbeats 1000000 in
theorem sCountLeast_any (A : Option Addr) (n c : Nat) (zs : List Int) (w : World) (h : RI w A n zs) (hn : n ≤ 1048576) (hnc : n ≤ c) :
    Calls Tryz.prog 11 #[.slice A n c] w (RetIB (cntN zs) (cg zs) w) := by
  have HI := Lib.hid (alGood_any A n c zs w h hn hnc)
  rcases hq : cg zs with _ | _
  · rw [cntN_no hq]
    rw [hq] at HI
    clear hq
    go_enter Tryz.func11, Tryz.ntmps11
    go_wp2_with fail
    refine HI.out.mono ?_
    rintro e w1 ⟨rfl, rfl⟩
    go_wp2
    go_ret2
    exact ⟨rfl, Below.refl _ _⟩
  · rw [cntN_yes hq]
    rw [hq] at HI
    obtain ⟨ho, h2, h6⟩ := cg_iff.1 hq
    have hl := h.1
    have HH := Lib.hid h
    have HO := Lib.hid ho
    have h2n : 2 ≤ n := by omega
    have h6n : n ≤ 6 := by omega
    clear hq ho h2 h6 h
    go_enter Tryz.func11, Tryz.ntmps11
    go_wp2_with fail
    refine HI.out.mono ?_
    rintro e w1 ⟨rfl, rfl⟩
    go_wp2_with fail
    refine (alNew_any n _ h2n h6n).mono ?_
    rintro e w2 ⟨g, r, cc, ks, rfl, hc, hr, hg, hb⟩
    have HC := Lib.hid hc
    have HB := Lib.hid hb
    clear hc hb
    go_wp2_with fail
    refine (count_any n h2n h6n g r cc (fac n) rfl (ninv zs + 1) zs HO.out hl (Nat.lt_succ_self _) A c ks w2 (HH.out.below HB.out (Nat.le_refl _)) hnc (fun b hb => ?_) HC.out).mono ?_
    · rcases Nat.eq_zero_or_pos n with h0 | h0
      · omega
      · obtain ⟨b', off, rfl, hbw, _⟩ := HH.out.2 h0
        have : b' = b := by simpa [blk] using hb
        omega
    · rintro e w3 ⟨rfl, ks', hc', hg'⟩
      have HG := Lib.hid (HB.out.grown hg' HB.out.size (fun j hj => by injection hj with hj; omega))
      clear hc' hg'
      go_wp2
      go_ret2
      exact ⟨rfl, HG.out⟩
end Go.Proofs.YtgeeifjbfceogaaGreatDoor

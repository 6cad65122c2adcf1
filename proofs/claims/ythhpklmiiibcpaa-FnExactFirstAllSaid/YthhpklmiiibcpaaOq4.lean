/- CountOrdersMade, of the program and of its model. -/
import Derived.Test.YthhpklmiiibcpaaOq2
namespace Go.Proofs.Ythhpklmiiibcpaa
open Go Go.RowKit Go.Maps

/-- how many of the first x are above nought -/
def posN (Z : List Int) (x : Nat) : Nat := ((List.range x).filter fun i => decide (0 < gi Z i)).length
theorem posN_yes {Z : List Int} {x : Nat} (h : 0 < gi Z x) : posN Z (x + 1) = posN Z x + 1 := by
  unfold posN; rw [List.range_succ, List.filter_append, List.length_append]; simp [h]
theorem posN_no {Z : List Int} {x : Nat} (h : ¬ 0 < gi Z x) : posN Z (x + 1) = posN Z x := by
  unfold posN; rw [List.range_succ, List.filter_append, List.length_append]; simp [h]
theorem posN_le (Z : List Int) (x : Nat) : posN Z x ≤ x := by
  unfold posN
  exact Nat.le_trans (List.length_filter_le _ _) (by simp)
theorem pairwise_of_mem {α : Type} {R S : α → α → Prop} : ∀ (l : List α), (∀ a b, a ∈ l → b ∈ l → R a b → S a b) → l.Pairwise R → l.Pairwise S
  | [], _, _ => List.Pairwise.nil
  | x :: r, h, hp => by
    rw [List.pairwise_cons] at hp ⊢
    exact ⟨fun y hy => h x y (by simp) (by simp [hy]) (hp.1 y hy), pairwise_of_mem r (fun a b ha hb => h a b (by simp [ha]) (by simp [hb])) hp.2⟩

theorem AllC.size {n K : Nat} {D : DataW Unit} (h : AllC n K D) (h2 : 2 ≤ n) (h5 : n ≤ 5) : Maps.size D = posN (chO n K) (ordsK n n).length := by
  have hat := fun {p : List Int} (hp : OKp n p) => h.at (by omega) (by omega) hp
  have hkey := fun {e : List Int} (he : OKE n e) (h0 : 0 < at0 D (eL e)) => h.key (by omega) (by omega) he h0
  have hG := h.good
  obtain ⟨⟨es, hD, hp⟩, hE⟩ := h.good
  have hgz := fun {i : Nat} (hi : i < (ordsK n n).length) => gz_ok (n := n) (by omega) (by omega) hi
  have hperm : List.Perm (es.map Prod.fst) (((List.range (ordsK n n).length).filter fun i => decide (0 < gi (chO n K) i)).map fun i => eL (endsL (gz (ordsK n n) i))) := by
    refine (List.perm_ext_iff_of_nodup ?_ ?_).2 ?_
    · exact List.pairwise_map.2 hp
    · refine List.pairwise_map.2 (pairwise_of_mem _ ?_ (List.Pairwise.filter _ List.nodup_range))
      intro i j hi hj hij e
      have hi' := List.mem_range.1 (List.mem_filter.1 hi).1
      have hj' := List.mem_range.1 (List.mem_filter.1 hj).1
      have e1 := eL_inj (hgz hi').oke (hgz hj').oke (by omega) (by omega) e
      have e2 := endsL_inj (hgz hi').2 (hgz hj').2 (by omega) e1
      have e3 := rk_gz h2 h5 hi'
      rw [e2, rk_gz h2 h5 hj'] at e3
      exact hij e3.symm
    · intro kl
      constructor
      · intro hm
        obtain ⟨p, hpm, rfl⟩ := List.mem_map.1 hm
        have hpe : p ∈ ents D := by rw [hD]; exact hpm
        obtain ⟨e, c, he, hkl, hav, hc⟩ := hG.at (has_ent hG hpe)
        have h0 : at0 D (eL e) = c := by
          unfold at0
          rw [← hkl, hav, valN_nd]
        obtain ⟨q, hq, rfl⟩ := hkey he (by omega)
        have hr := gz_rk h2 h5 hq
        refine List.mem_map.2 ⟨rk q, List.mem_filter.2 ⟨List.mem_range.2 hr.1, ?_⟩, by rw [hr.2, hkl]⟩
        rw [gi_chO hr.1, hr.2, ← hat hq, h0]
        exact decide_eq_true (by omega)
      · intro hm
        obtain ⟨i, hi, rfl⟩ := List.mem_map.1 hm
        obtain ⟨hi1, hi2⟩ := List.mem_filter.1 hi
        have hi1 := List.mem_range.1 hi1
        have hi2 := of_decide_eq_true hi2
        rw [gi_chO hi1, ← hat (hgz hi1)] at hi2
        have hh : Maps.has D (eL (endsL (gz (ordsK n n) i))) = true := by
          rcases hx : Maps.has D (eL (endsL (gz (ordsK n n) i))) with _ | _
          · unfold at0 at hi2
            rw [atKey_of_not_has hx, valN_nd] at hi2
            omega
          · rfl
        rw [hD, has_eq, List.any_eq_true] at hh
        obtain ⟨p, hpm, hps⟩ := hh
        exact List.mem_map.2 ⟨p, hpm, same_eq hps⟩
  have hl := hperm.length_eq
  rw [List.length_map, List.length_map] at hl
  rw [hD, size_eq, hl]
  rfl

/-- how many orders are made -/
def omN (n k : Int) : Int := if toldB n k = true then ((posN (chO n.toNat k.toNat) (ordsK n.toNat n.toNat).length : Nat) : Int) else 0
theorem omN_no {n k : Int} (h : toldB n k = false) : omN n k = 0 := by unfold omN; rw [h]; rfl
theorem omN_yes {n k : Int} (h : toldB n k = true) : omN n k = ((posN (chO n.toNat k.toNat) (ordsK n.toNat n.toNat).length : Nat) : Int) := by unfold omN; rw [if_pos h]

set_option maxRecDepth 100000 in
set_option maxHeartbeats 2000000 in
theorem iCountOrdersMade_any (n k : Int) (w : World) : Calls Try.prog 17 #[.int .i64 n, .int .i64 k] w (RetIB (omN n k) (toldB n k) w) := by
  rcases h1 : toldB n k with _ | _
  · have E1 := Lib.hid h1
    rw [omN_no h1]
    clear h1
    go_enter Try.func17, Try.ntmps17
    go_wp2_with (go_at_call 30; refine (isToldFall_any _ _ _).mono ?_; rw [E1.out]; rintro e w' ⟨rfl, rfl⟩)
    go_ret2
    exact ⟨rfl, Below.refl _ _⟩
  · have E1 := Lib.hid h1
    have ht := toldB_iff.1 h1
    rw [omN_yes h1]
    obtain ⟨m, rfl⟩ : ∃ m : Nat, n = (m : Int) := ⟨n.toNat, by omega⟩
    obtain ⟨K, rfl⟩ : ∃ K : Nat, k = (K : Int) := ⟨k.toNat, by omega⟩
    rw [Int.toNat_natCast, Int.toNat_natCast]
    have HFO := Lib.hid (fun w => fallOfAll_any m K w (by omega) (by omega) (by omega))
    have HSZ : Hid (∀ D, AllC m K D → Maps.size D = posN (chO m K) (ordsK m m).length) := Lib.hid fun D hD => hD.size (by omega) (by omega)
    obtain ⟨v, hv⟩ : ∃ v, v = posN (chO m K) (ordsK m m).length := ⟨_, rfl⟩
    rw [← hv] at HSZ ⊢
    clear h1 hv
    go_enter Try.func17, Try.ntmps17
    go_wp2_with (go_at_call 30; refine (isToldFall_any _ _ _).mono ?_; rw [E1.out]; rintro e w' ⟨rfl, rfl⟩)
    refine (HFO.out _).mono ?_
    rintro e w2 ⟨b, D, rfl, hb, ho, hg, hw, hbl⟩
    have hsD := HSZ.out D ⟨hg, hw⟩
    have HO := Lib.hid ho
    have HB := Lib.hid hbl
    clear hb ho hg hw hbl HFO
    go_wp2_with (first
      | (at_len; refine wpList_len_own _ rfl _ 45 rfl 48 3 Try.underlying45 _ b _ _ rfl HO.out ?_; rw [hsD]))
    go_wp2
    go_ret2
    exact ⟨rfl, HB.out⟩

set_option maxRecDepth 100000 in
set_option maxHeartbeats 2000000 in
theorem sCountOrdersMade_any (n k : Int) (w : World) : Calls Try.prog 16 #[.int .i64 n, .int .i64 k] w (RetIB (omN n k) (toldB n k) w) := by
  rcases h1 : toldB n k with _ | _
  · have E1 := Lib.hid h1
    rw [omN_no h1]
    clear h1
    go_enter Try.func16, Try.ntmps16
    go_wp2_with (go_at_call 26; refine (chResults_any _ _ _).mono ?_; rw [E1.out]; rintro e w' ⟨rfl, rfl⟩)
    go_ret2
    exact ⟨rfl, Below.refl _ _⟩
  · have E1 := Lib.hid h1
    have ht := toldB_iff.1 h1
    rw [omN_yes h1]
    obtain ⟨m, rfl⟩ : ∃ m : Nat, n = (m : Int) := ⟨n.toNat, by omega⟩
    obtain ⟨K, rfl⟩ : ∃ K : Nat, k = (K : Int) := ⟨k.toNat, by omega⟩
    rw [Int.toNat_natCast, Int.toNat_natCast]
    have HCO := Lib.hid (fun w => chOrders_any m K w (by omega) (by omega) (by omega))
    have hlen := chO_length m K
    have hN120 : (ordsK m m).length ≤ 120 := by have := ords_len (n := m) (by omega) (by omega); omega
    obtain ⟨Z, hZ⟩ : ∃ Z, Z = chO m K := ⟨_, rfl⟩
    obtain ⟨N, hN⟩ : ∃ N, N = (ordsK m m).length := ⟨_, rfl⟩
    have HZI : Hid (∀ j, j < N → 0 ≤ gi Z j ∧ gi Z j ≤ 95367431640625) := Lib.hid fun j hj => by
      rw [hN] at hj
      rw [hZ, gi_chO hj]
      have h2 := resN_le (n := m) (k := K) (gz (ordsK m m) j)
      have h3 := pow5 (m := m - 1) (j := K) (by omega) (by omega)
      omega
    rw [← hZ, ← hN] at HCO hlen ⊢
    rw [← hN] at hN120
    clear h1 hZ hN
    go_enter Try.func16, Try.ntmps16
    go_wp2_with (go_at_call 26; refine (chResults_any _ _ _).mono ?_; rw [E1.out]; rintro e w' ⟨rfl, rfl⟩)
    refine (HCO.out _).mono ?_
    rintro e w1 ⟨g, rfl, ho, hb⟩
    have HO := Lib.hid ho
    have HB := Lib.hid hb
    clear ho hb HCO
    go_wp2
    go_loopw [6, 17] (fun s6 s17 wi => ∃ x : Nat, x ≤ N ∧ s6 = .int .i64 (posN Z x : Int) ∧ s17 = .int .i64 (x : Int) ∧ wi = w1) (fun _ s17 _ => N - (intOf s17).toNat)
    case atStart => exact ⟨0, Nat.zero_le _, rfl, rfl, rfl⟩
    case round =>
      obtain ⟨x, hx, rfl, rfl, rfl⟩ := hrel
      by_cases hlt : (x : Int) < (N : Int)
      · have hp := posN_le Z x
        have ck := HO.out.cells x (by omega)
        have hx0 : (0 : Int) ≤ (x : Int) := by omega
        by_cases hc : 0 < gi Z x
        · have HP := Lib.hid (posN_yes hc)
          obtain ⟨y, hy⟩ : ∃ y, y = gi Z x := ⟨_, rfl⟩
          rw [← hy] at ck hc
          obtain ⟨v, hv⟩ : ∃ v, v = posN Z x := ⟨_, rfl⟩
          rw [← hv] at HP hp ⊢
          clear hy hv
          go_wp2
          go_roundw
          case rel => exact ⟨x + 1, by omega, by rw [HP.out]; go_num, by go_num, by first | rfl | trivial⟩
          case measure => simp [intOf]; omega
        · have HP := Lib.hid (posN_no hc)
          obtain ⟨y, hy⟩ : ∃ y, y = gi Z x := ⟨_, rfl⟩
          rw [← hy] at ck hc
          obtain ⟨v, hv⟩ : ∃ v, v = posN Z x := ⟨_, rfl⟩
          rw [← hv] at HP hp ⊢
          clear hy hv
          go_wp2
          go_roundw
          case rel => exact ⟨x + 1, by omega, by rw [HP.out], by go_num, by first | rfl | trivial⟩
          case measure => simp [intOf]; omega
      · obtain rfl : x = N := by omega
        go_wp2
        go_ret2
        exact ⟨rfl, HB.out⟩
end Go.Proofs.Ythhpklmiiibcpaa

/- The inversions as the model and the program list them. How long the list of inversions is. -/
import Derived.Test.YtgeeifjbfceogaaGreatDoorMgF
import Derived.Test.YtgeeifjbfceogaaGreatDoorMgJ
import Derived.Test.YtgeeifjbfceogaaGreatDoorMgG
import Derived.Test.YtgeeifjbfceogaaGreatDoorMgD
namespace Go.Proofs.YtgeeifjbfceogaaGreatDoor
open Go Go.RowKit

def pairsN (zs : List Int) : List (List Int) := if ord zs = true then invs zs else []
theorem pairsN_yes {zs : List Int} (h : ord zs = true) : pairsN zs = invs zs := by unfold pairsN; rw [if_pos h]
theorem pairsN_no {zs : List Int} (h : ord zs = false) : pairsN zs = [] := by unfold pairsN; rw [h]; rfl

set_option maxRecDepth 100000 in
set_option maxHeartbeats 4000000 in
theorem lsInversions_any (A0 : Option Addr) (n c0 : Nat) (zs : List Int) (w : World) (h : RI w A0 n zs) (hn : n ≤ 8) :
    Calls Tryz.prog 56 #[.slice A0 n c0] w (FreshSS w (invs zs)) := by
  have hl := h.1
  have HA := Lib.hid h
  clear h
  go_enter Tryz.func56, Tryz.ntmps56
  go_wp2
  go_loopw [3, 4, 5, 8] (fun s3 _ _ i wr => ∃ (k : Nat) (A : Option Addr) (c M : Nat) (S : List Sl), k ≤ n ∧ i = .int .i64 k ∧ s3 = .slice A (invK zs k).length c ∧ OII wr w.heap.size M A (invK zs k).length c (invK zs k) S ∧ Below w.heap.size w wr) (fun _ _ _ i _ => n - (intOf i).toNat)
  case atStart => exact ⟨0, none, 0, _, [], Nat.zero_le _, rfl, rfl, OII.none_ _ _, Below.refl _ _⟩
  case round =>
    obtain ⟨k, A, c, M, S, hk, rfl, rfl, ho, hb⟩ := hrel
    have HO := Lib.hid ho
    have HB := Lib.hid hb
    clear ho hb
    by_cases hlt : k < n
    · go_wp2_with fail
      go_loopw [3, 5] (fun s3 s5 wi => ∃ (p : Nat) (A1 : Option Addr) (c1 : Nat) (S1 : List Sl) (L : List (List Int)), k + 1 ≤ p ∧ p ≤ n ∧ L = invK zs k ++ rowQ zs k p ∧ s5 = .int .i64 (p : Int) ∧ s3 = .slice A1 L.length c1 ∧ OII wi w.heap.size wi.heap.size A1 L.length c1 L S1 ∧ Below w.heap.size w wi) (fun _ s5 _ => n - (intOf s5).toNat)
      case atStart => exact ⟨k + 1, A, c, S, invK zs k, Nat.le_refl _, hlt, by rw [rowQ_start, List.append_nil], by go_num, rfl, HO.out.top, HB.out⟩
      case round =>
        obtain ⟨p, A1, c1, S1, L, hp1, hp2, hL, rfl, rfl, ho, hb⟩ := hrel
        have HO1 := Lib.hid ho
        have HB1 := Lib.hid hb
        have HL := Lib.hid hL
        have hLl : L.length ≤ 100 := by rw [hL]; exact invQ_len (by omega) (by omega) (by omega)
        clear ho hb hL
        by_cases hlp : p < n
        · obtain ⟨b, off, rfl, hbw, hc⟩ := HA.out.cell hlt
          have hck := (HB1.out.cell (p := ⟨b, off + k, none⟩) hbw).trans (hc k hlt)
          have hcp := (HB1.out.cell (p := ⟨b, off + p, none⟩) hbw).trans (hc p hlp)
          clear hc
          by_cases hq : gi zs p < gi zs k
          · have HQ := Lib.hid hq
            go_wp2
            go_quiet (fail)
            clear hq
            go_wp2_with (at_builtin; refine wpList_append_sl _ rfl _ _ rfl w.heap.size wr.heap.size A1 L.length c1 L S1 _ 2 2 _ _ rfl rfl (((HO1.out.drewN _).alloc _).alloc _) ((OI.two _ _ _ _ (Nat.le_refl _)).alloc _) HB1.out.size (cellNewAt _ _ _ (World.size_alloc _ _).symm) (by omega) (by have := HB1.out.size; simp at this ⊢; omega) ?_; intro A2 c2 w2 ho2 hg2; have HO2 := Lib.hid ho2; have HB2 := belGrownSS (belAlloc (belAlloc (belDrewN HB1 _) _) _) (((HO1.out.drewN _).alloc _).alloc _) hg2 (Nat.le_refl _); clear ho2 hg2)
            go_roundw
            case rel => exact ⟨p + 1, A2, c2, _, L ++ [[(k : Int), (p : Int)]], by omega, by omega, by rw [HL.out, rowQ_yes hp1 HQ.out, List.append_assoc], by go_num, by simp, by simpa using HO2.out.top, HB2.out⟩
            case measure => simp [intOf]; omega
          · have HQ := Lib.hid hq
            have hq1 : gi zs k ≤ gi zs p := by omega
            go_wp2
            go_quiet (fail)
            go_wp2
            go_roundw
            case rel => exact ⟨p + 1, A1, c1, S1, L, by omega, by omega, by rw [HL.out, rowQ_no hp1 (by have := HQ.out; omega)], by go_num, rfl, (HO1.out.drewN _).top, (belDrewN HB1 _).out⟩
            case measure => simp [intOf]; omega
        · obtain rfl : p = n := by omega
          go_wp2
          go_roundw
          case rel =>
            have e : L = invK zs (k + 1) := by rw [HL.out, invK_row, hl]
            subst e
            exact ⟨k + 1, A1, c1, _, S1, by omega, by go_num, rfl, HO1.out, HB1.out⟩
          case measure => simp [intOf]; omega
    · obtain rfl : k = n := by omega
      go_wp2
      go_ret
      have e : invK zs k = invs zs := by unfold invs; rw [hl]
      exact ⟨A, c, M, S, by rw [← e]; rfl, e ▸ HO.out, HB.out⟩

set_option maxRecDepth 100000 in
set_option maxHeartbeats 4000000 in
theorem iInvertedPairs_any (A0 : Option Addr) (n c0 : Nat) (zs : List Int) (w : World) (h : RI w A0 n zs) (hn : n ≤ 1048576) (_hnc : n ≤ c0) :
    Calls Tryz.prog 83 #[.slice A0 n c0] w (FreshSSB w (pairsN zs) (ord zs)) := by
  have hl := h.1
  rcases hq : ord zs with _ | _
  · rw [pairsN_no hq]
    have HW := Lib.hid hq
    clear hq
    go_enter Tryz.func83, Tryz.ntmps83
    go_wp2_with fail
    refine (iIsOrder_any A0 n c0 zs _ h (by omega)).mono ?_
    rw [HW.out]
    rintro e w1 ⟨rfl, hb⟩
    have HB := Lib.hid hb
    clear hb
    go_wp2
    go_ret2
    exact ⟨none, 0, _, [], rfl, OII.none_ _ _, HB.out⟩
  · rw [pairsN_yes hq]
    have HW := Lib.hid hq
    have h8 : zs.length ≤ 8 := (ord_iff.1 hq).2.1
    have hn : n ≤ 8 := by omega
    clear hq
    go_enter Tryz.func83, Tryz.ntmps83
    go_wp2_with fail
    refine (iIsOrder_any A0 n c0 zs _ h (by omega)).mono ?_
    rw [HW.out]
    rintro e w1 ⟨rfl, hb1⟩
    have HB1 := Lib.hid hb1
    have HZ := Lib.hid hb1.size
    have HA : Hid (RI w1 A0 n zs) := h.below hb1 (Nat.le_refl _)
    have HB0 := HB1
    clear hb1 h HB1
    go_wp2
    go_loopw [4, 5, 6, 12] (fun s3 _ _ i wr => ∃ (k : Nat) (A : Option Addr) (c M : Nat) (S : List Sl), k ≤ n ∧ i = .int .i64 k ∧ s3 = .slice A (invK zs k).length c ∧ OII wr w1.heap.size M A (invK zs k).length c (invK zs k) S ∧ Below w1.heap.size w1 wr) (fun _ _ _ i _ => n - (intOf i).toNat)
    case atStart => exact ⟨0, none, 0, _, [], Nat.zero_le _, rfl, rfl, OII.none_ _ _, Below.refl _ _⟩
    case round =>
      obtain ⟨k, A, c, M, S, hk, rfl, rfl, ho, hb⟩ := hrel
      have HO := Lib.hid ho
      have HB := Lib.hid hb
      clear ho hb
      by_cases hlt : k < n
      · go_wp2_with fail
        go_loopw [4, 6] (fun s3 s5 wi => ∃ (p : Nat) (A1 : Option Addr) (c1 : Nat) (S1 : List Sl) (L : List (List Int)), k + 1 ≤ p ∧ p ≤ n ∧ L = invK zs k ++ rowQ zs k p ∧ s5 = .int .i64 (p : Int) ∧ s3 = .slice A1 L.length c1 ∧ OII wi w1.heap.size wi.heap.size A1 L.length c1 L S1 ∧ Below w1.heap.size w1 wi) (fun _ s5 _ => n - (intOf s5).toNat)
        case atStart => exact ⟨k + 1, A, c, S, invK zs k, Nat.le_refl _, hlt, by rw [rowQ_start, List.append_nil], by go_num, rfl, HO.out.top, HB.out⟩
        case round =>
          obtain ⟨p, A1, c1, S1, L, hp1, hp2, hL, rfl, rfl, ho, hb⟩ := hrel
          have HO1 := Lib.hid ho
          have HB1 := Lib.hid hb
          have HL := Lib.hid hL
          have hLl : L.length ≤ 100 := by rw [hL]; exact invQ_len (by omega) (by omega) (by omega)
          clear ho hb hL
          by_cases hlp : p < n
          · obtain ⟨b, off, rfl, hbw, hc⟩ := HA.out.cell hlt
            have hck := (HB1.out.cell (p := ⟨b, off + k, none⟩) hbw).trans (hc k hlt)
            have hcp := (HB1.out.cell (p := ⟨b, off + p, none⟩) hbw).trans (hc p hlp)
            clear hc
            by_cases hq : gi zs p < gi zs k
            · have HQ := Lib.hid hq
              go_wp2
              go_quiet (fail)
              clear hq
              go_wp2_with (at_builtin; refine wpList_append_sl _ rfl _ _ rfl w1.heap.size wr.heap.size A1 L.length c1 L S1 _ 2 2 _ _ rfl rfl (((HO1.out.drewN _).alloc _).alloc _) ((OI.two _ _ _ _ (Nat.le_refl _)).alloc _) HB1.out.size (cellNewAt _ _ _ (World.size_alloc _ _).symm) (by omega) (by have := HB1.out.size; simp at this ⊢; omega) ?_; intro A2 c2 w2 ho2 hg2; have HO2 := Lib.hid ho2; have HB2 := belGrownSS (belAlloc (belAlloc (belDrewN HB1 _) _) _) (((HO1.out.drewN _).alloc _).alloc _) hg2 (Nat.le_refl _); clear ho2 hg2)
              go_roundw
              case rel => exact ⟨p + 1, A2, c2, _, L ++ [[(k : Int), (p : Int)]], by omega, by omega, by rw [HL.out, rowQ_yes hp1 HQ.out, List.append_assoc], by go_num, by simp, by simpa using HO2.out.top, HB2.out⟩
              case measure => simp [intOf]; omega
            · have HQ := Lib.hid hq
              have hq1 : gi zs k ≤ gi zs p := by omega
              go_wp2
              go_quiet (fail)
              go_wp2
              go_roundw
              case rel => exact ⟨p + 1, A1, c1, S1, L, by omega, by omega, by rw [HL.out, rowQ_no hp1 (by have := HQ.out; omega)], by go_num, rfl, (HO1.out.drewN _).top, (belDrewN HB1 _).out⟩
              case measure => simp [intOf]; omega
          · obtain rfl : p = n := by omega
            go_wp2
            go_roundw
            case rel =>
              have e : L = invK zs (k + 1) := by rw [HL.out, invK_row, hl]
              subst e
              exact ⟨k + 1, A1, c1, _, S1, by omega, by go_num, rfl, HO1.out, HB1.out⟩
            case measure => simp [intOf]; omega
      · obtain rfl : k = n := by omega
        go_wp2
        go_ret2
        have e : invK zs k = invs zs := by unfold invs; rw [hl]
        exact ⟨A, c, M, S, by rw [← e]; rfl, e ▸ HO.out.mono HZ.out, HB0.out.trans (HB.out.mono HZ.out)⟩

set_option maxHeartbeats 400000 in
theorem iInversionsOf_any (A0 : Option Addr) (n c0 : Nat) (zs : List Int) (w : World) (h : RI w A0 n zs) (hn : n ≤ 1048576) (hnc : n ≤ c0) :
    Calls Tryz.prog 62 #[.slice A0 n c0] w (RetIB ((pairsN zs).length : Int) (ord zs) w) := by
  obtain ⟨q, hq⟩ : ∃ q, q = ord zs := ⟨_, rfl⟩
  have HC := Lib.hid (iInvertedPairs_any A0 n c0 zs w h hn hnc)
  rw [← hq] at HC ⊢
  clear hq h
  go_enter Tryz.func62, Tryz.ntmps62
  go_wp2_with fail
  refine HC.out.mono ?_
  rintro e w2 ⟨A2, c2, M2, S2, rfl, o2, hb⟩
  have HB := Lib.hid hb
  clear o2 hb
  go_wp2
  go_ret2
  exact ⟨rfl, HB.out⟩
end Go.Proofs.YtgeeifjbfceogaaGreatDoor
namespace Go.Proofs.YtgeeifjbfceogaaGreatDoor
open Go Go.RowKit

theorem pairsN_len (zs : List Int) : (pairsN zs).length ≤ 64 := by
  rcases h : ord zs with _ | _
  · rw [pairsN_no h]; simp
  · rw [pairsN_yes h]
    have h8 := (ord_iff.1 h).2.1
    have h1 := invs_len zs
    have h2 : zs.length * zs.length ≤ 8 * 8 := Nat.mul_le_mul h8 h8
    omega
theorem pairsN_two (zs : List Int) (j : Nat) : (gz (pairsN zs) j).length ≤ 2 := by
  by_cases hj : j < (pairsN zs).length
  · have e : gz (pairsN zs) j = (pairsN zs)[j] := by simp [gz, List.getD, hj]
    have hm : gz (pairsN zs) j ∈ pairsN zs := by rw [e]; exact List.getElem_mem hj
    rcases h : ord zs with _ | _
    · rw [pairsN_no h] at hj; simp at hj
    · rw [pairsN_yes h] at hm ⊢
      exact Nat.le_of_eq (invK_two _ hm)
  · have e : gz (pairsN zs) j = [] := by simp [gz, List.getD, List.getElem?_eq_none (Nat.le_of_not_lt hj)]
    rw [e]; simp
theorem pairsN_tot (zs : List Int) : ∀ (k : Nat), tot (pairsN zs) k ≤ 2 * k
  | 0 => Nat.le_refl _
  | k + 1 => by
    have h1 := pairsN_tot zs k
    have h2 := pairsN_two zs k
    simp only [tot]; omega
end Go.Proofs.YtgeeifjbfceogaaGreatDoor

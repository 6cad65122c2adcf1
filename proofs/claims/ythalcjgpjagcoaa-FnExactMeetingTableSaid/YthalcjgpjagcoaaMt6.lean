/- MeetingTable of the model. -/
import Derived.Test.YthalcjgpjagcoaaMt3
namespace Go.Proofs.Ythalcjgpjagcoaa
open Go Go.RowKit

theorem mtTT_le8 (W : Int) (zs : List Int) : (mtTT W zs).length ≤ 8 ∧ ∀ j, (gz (mtTT W zs) j).length ≤ 8 := by
  unfold mtTT
  split
  · rename_i h
    have := (lad_iff.1 h).1
    refine ⟨by rw [mtT_len]; omega, fun j => ?_⟩
    by_cases hj : j < W.toNat
    · rw [gz_mtT _ _ _ hj, mtRow_len]; omega
    · have : gz (mtT zs W.toNat) j = [] := by
        unfold gz
        rw [List.getD_eq_getElem?_getD, List.getElem?_eq_none (by rw [mtT_len]; omega)]; rfl
      rw [this]; simp
  · exact ⟨by simp, fun j => by simp [gz]⟩
theorem tot_le8 (zss : List (List Int)) (h : ∀ j, (gz zss j).length ≤ 8) : ∀ k, tot zss k ≤ 8 * k
  | 0 => by simp [tot]
  | k + 1 => by have := tot_le8 zss h k; have := h k; simp only [tot]; omega
theorem mtTT_len (W : Int) (zs : List Int) : (mtTT W zs).length ≤ 1048576 := Nat.le_trans (mtTT_le8 W zs).1 (by decide)
theorem mtTT_row (W : Int) (zs : List Int) : ∀ j, (gz (mtTT W zs) j).length ≤ 1048576 := fun j => Nat.le_trans ((mtTT_le8 W zs).2 j) (by decide)
theorem mtTT_tot (W : Int) (zs : List Int) : tot (mtTT W zs) (mtTT W zs).length ≤ 1000000000 := by
  have h1 := mtTT_le8 W zs
  have := tot_le8 _ h1.2 (mtTT W zs).length
  omega
theorem mtRow_take (zs : List Int) (N a b : Nat) (h : b < N) : (mtRow zs N a).take (b + 1) = (mtRow zs N a).take b ++ [mtN zs a b zs.length] := by
  rw [List.take_succ_eq_append_getElem (by rw [mtRow_len]; exact h), ← gi_lt, gi_mtRow _ _ _ _ h]
theorem mtT_take (zs : List Int) (N a : Nat) (h : a < N) : (mtT zs N).take (a + 1) = (mtT zs N).take a ++ [mtRow zs N a] := by
  rw [List.take_succ_eq_append_getElem (by rw [mtT_len]; exact h)]
  congr 2
  simp [mtT]
theorem mtN_ne {zs : List Int} {a b k : Nat} (h : a ≠ b) : meets zs (a : Int) (b : Int) k = mtN zs a b k := by unfold mtN; rw [if_neg h]
theorem mtN_eq {zs : List Int} {a k : Nat} : mtN zs a a k = 0 := by unfold mtN; rw [if_pos rfl]

set_option maxRecDepth 100000 in
set_option maxHeartbeats 4000000 in
theorem sMeetingTable_any (W : Int) (A : Option Addr) (n c : Nat) (zs : List Int) (w : World) (h : RI w A n zs) (hn : n ≤ 1048576) :
    Calls Try.prog 12 #[.agg #[.int .i64 W, .slice A n c]] w (FreshSSB w (mtTT W zs) (lad W zs)) := by
  have hl := h.1
  have HA := boxNew (W := W) (c := c) 29 h
  have HB := belAlloc (belRefl (w := w)) (.cells #[.int .i64 W, .slice A n c] 29)
  have HI := Lib.hid (fun w2 (r : RI w2 A n zs) => laGood_any W A n c zs w2 r hn)
  rcases hq : lad W zs with _ | _
  · rw [mtTT_no hq]
    rw [hq] at HI
    clear hq h
    go_enter Try.func12, Try.ntmps12
    go_wp2_with fail
    refine (HI.out _ HA.out.ri).mono ?_
    rintro e w1 ⟨rfl, hb⟩
    replace HB := belStep HB hb
    clear hb
    go_wp2
    go_ret2
    exact ⟨none, 0, _, [], rfl, (OII.none_ _ _), HB.out⟩
  · rw [mtTT_yes hq]
    rw [hq] at HI
    have hW := (lad_iff.1 hq).1
    have hn60 : n ≤ 60 := by have := (lad_iff.1 hq).2.1; omega
    obtain ⟨N, rfl⟩ : ∃ N : Nat, W = (N : Int) := ⟨W.toNat, by omega⟩
    rw [Int.toNat_natCast]
    have HST := Lib.hid (fun i (hi : i < N) => startAtM hq (i := i) (by omega))
    clear hq h
    go_enter Try.func12, Try.ntmps12
    go_wp2_with fail
    refine (HI.out _ HA.out.ri).mono ?_
    rintro e w1 ⟨rfl, hb⟩
    replace HA := boxStep HA hb; replace HB := belStep HB hb
    have a0 := HA.out.c0; have a1 := HA.out.c1; have az := HA.out.lt
    have z1 := HB.out.size
    clear hb
    go_wp2
    have HTk : Hid (∀ a, a < N → (mtT zs N).take (a + 1) = (mtT zs N).take a ++ [mtRow zs N a]) := fun a ha => mtT_take _ _ _ ha
    have HTR : Hid (∀ a b, b < N → (mtRow zs N a).take (b + 1) = (mtRow zs N a).take b ++ [mtN zs a b n]) := fun a b hb => by rw [mtRow_take _ _ _ _ hb, hl]
    have HRL : Hid (∀ a, (mtRow zs N a).take N = mtRow zs N a) := fun a => List.take_of_length_le (by rw [mtRow_len]; exact Nat.le_refl _)
    have HTL : Hid ((mtT zs N).take N = mtT zs N) := List.take_of_length_le (by rw [mtT_len]; exact Nat.le_refl _)
    have HTN : Hid ((mtT zs N).length = N) := mtT_len _ _
    have KA := Lib.hid (fun (wx : World) (hb : Below w1.heap.size w1 wx) => (⟨(hb.cell (p := ⟨w.heap.size, 0, none⟩) az).trans a0, (hb.cell (p := ⟨w.heap.size, 1, none⟩) az).trans a1, HA.out.ri.below hb (Nat.le_refl _)⟩ : wx.cell? ⟨w.heap.size, 0, none⟩ = some (.int .i64 (N : Int)) ∧ wx.cell? ⟨w.heap.size, 1, none⟩ = some (.slice A n c) ∧ RI wx A n zs))
    clear a0 a1
    go_loopw [4, 5] (fun v i wr => ∃ (k : Nat) (A1 : Option Addr) (c1 : Nat) (S1 : List Sl), k ≤ N ∧ i = .int .i64 (k : Int) ∧ v = .slice A1 k c1 ∧ OII wr w1.heap.size wr.heap.size A1 k c1 ((mtT zs N).take k) S1 ∧ Below w1.heap.size w1 wr) (fun _ i _ => N - (intOf i).toNat)
    case atStart => exact ⟨0, none, 0, [], Nat.zero_le _, rfl, rfl, OII.none_ _ _, Below.refl _ _⟩
    case round =>
      obtain ⟨k, A1, c1, S1, hk, rfl, rfl, ho, hb⟩ := hrel
      have HO := Lib.hid ho
      have HBk := Lib.hid hb
      have a0 := (KA.out _ hb).1
      have hbs := hb.size
      clear ho hb
      by_cases hlt : k < N
      · have HTKk := Lib.hid (HTk.out k hlt)
        have HWk := Lib.hid (HST.out k hlt)
        go_wp2
        obtain ⟨wo, hwo⟩ : ∃ u : World, u = wr := ⟨_, rfl⟩
        subst hwo
        go_loopw [6, 7] (fun v i wq => ∃ (y : Nat) (A2 : Option Addr) (c2 : Nat), y ≤ N ∧ i = .int .i64 (y : Int) ∧ v = .slice A2 y c2 ∧ OI wq wo.heap.size A2 y c2 ((mtRow zs N k).take y) ∧ Below wo.heap.size wo wq) (fun _ i _ => N - (intOf i).toNat)
        case atStart => exact ⟨0, none, 0, Nat.zero_le _, rfl, rfl, OI.none_ _ _, Below.refl _ _⟩
        case round =>
          obtain ⟨y, A2, c2, hy, rfl, rfl, ho2, hb2⟩ := hrel
          have HO2 := Lib.hid ho2
          have HBq := Lib.hid hb2
          have HRq := Lib.hid (HBk.out.trans (hb2.mono hbs))
          have b0 := (KA.out _ HRq.out).1
          have b1 := (KA.out _ HRq.out).2.1
          have bz := HBq.out.size
          clear ho2 hb2 a0
          by_cases hlt2 : y < N
          · have HTr := Lib.hid (HTR.out k y hlt2)
            by_cases he : k = y
            · subst he
              have HE : Hid (mtN zs k k n = 0) := mtN_eq
              rw [HE.out] at HTr
              go_wp2_with (at_builtin; refine wpList_append_int _ rfl _ _ rfl wo.heap.size A2 k c2 _ 0 wr.heap.size rfl rfl (HO2.out.alloc _) (by simp) (by omega) (by simp; omega) ?_; intro A3 c3 w3 ho3 hg3)
              go_roundw
              case rel => exact ⟨k + 1, A3, c3, by omega, by go_num, rfl, by rw [HTr.out]; exact ho3, (HBq.out.alloc bz _).trans (ofMark (HO2.out.alloc _) hg3 (Nat.le_refl _) (by simp; omega))⟩
              case measure => simp [intOf]; omega
            · have e1 : ((k : Int) != (y : Int)) = true := by rw [bne_iff_ne]; omega
              have HLM := Lib.hid (fun w2 (r : RI w2 A n zs) => laMeet_any A n c zs (k : Int) (y : Int) w2 r (by omega) HWk.out)
              have HNE := Lib.hid (mtN_ne (zs := zs) (k := n) he)
              clear he
              go_wp2_with fail
              refine (HLM.out _ (KA.out _ HRq.out).2.2).mono ?_
              rw [HNE.out]
              rintro e w3 ⟨rfl, rfl⟩
              obtain ⟨t, ht⟩ : ∃ t, t = mtN zs k y n := ⟨_, rfl⟩
              rw [← ht] at HTr ⊢
              clear ht HNE HLM
              go_wp2_with (at_builtin; refine wpList_append_int _ rfl _ _ rfl wo.heap.size A2 y c2 _ t wr.heap.size rfl rfl (HO2.out.alloc _) (by simp) (by omega) (by simp; omega) ?_; intro A3 c3 w3 ho3 hg3)
              go_roundw
              case rel => exact ⟨y + 1, A3, c3, by omega, by go_num, rfl, by rw [HTr.out]; exact ho3, (HBq.out.alloc bz _).trans (ofMark (HO2.out.alloc _) hg3 (Nat.le_refl _) (by simp; omega))⟩
              case measure => simp [intOf]; omega
          · obtain rfl : y = N := by omega
            rw [HRL.out] at HO2
            have HOq := Lib.hid (HO.out.below HBq.out)
            clear HO
            go_wp2_with (at_builtin; refine wpList_append_sl _ rfl _ _ rfl w1.heap.size wo.heap.size A1 k c1 _ S1 A2 y c2 _ wr.heap.size rfl rfl (HOq.out.alloc _) (HO2.out.alloc _) hbs (by simp) (by omega) (by simp; omega) ?_; intro A3 c3 w3 ho3 hg3; have HO3 := Lib.hid ho3; have HB3 := Lib.hid ((HRq.out.alloc (by omega) _).grown hg3 (by simp; omega) (fun x hx => by have := (HOq.out.alloc (.cells #[.slice A2 y c2] 22)).blkB x hx; omega)); clear ho3 hg3)
            go_roundw
            case rel => exact ⟨k + 1, A3, c3, _, by omega, by go_num, rfl, by rw [HTKk.out]; exact HO3.out.top, HB3.out⟩
            case measure => simp [intOf]; omega
      · obtain rfl : k = N := by omega
        rw [HTL.out] at HO
        go_wp2
        go_ret2
        unfold FreshSSB
        rw [HTN.out]
        exact ⟨A1, c1, _, S1, rfl, HO.out.mono z1, HB.out.trans (HBk.out.mono z1)⟩
end Go.Proofs.Ythalcjgpjagcoaa

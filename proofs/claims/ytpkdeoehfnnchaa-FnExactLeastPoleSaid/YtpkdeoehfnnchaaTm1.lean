/- Turned orders: is there one; of the program and of its model. -/
import Derived.Test.YtpkdeoehfnnchaaMgG
import Derived.Test.YtpkdeoehfnnchaaMgC
namespace Go.Proofs.Ytpkdeoehfnnchaa
open Go Go.RowKit

theorem rbK' {w wi : World} {K : Nat} {A : Option Addr} {n : Nat} {zs : List Int} (h : Hid (RB w K A n zs)) (hb : Below K w wi) : RI wi A n zs := (h.out.step hb).ri
/-- the sum of the first k numbers -/
def sumK (us : List Int) (k : Nat) : Int := (us.take k).sum
theorem sumK_zero (us : List Int) : sumK us 0 = 0 := by simp [sumK]
theorem sumK_succ (us : List Int) (k : Nat) (h : k < us.length) : sumK us (k + 1) = sumK us k + gi us k := by
  unfold sumK
  rw [List.take_succ_eq_append_getElem h, List.sum_append, gi_lt h]; simp
theorem sumK_le (us : List Int) (k : Nat) (hk : k ≤ us.length) (h : ∀ j, j < k → inB (gi us j) (-20) 20 = true) : -20 * (k : Int) ≤ sumK us k ∧ sumK us k ≤ 20 * k := by
  induction k with
  | zero => rw [sumK_zero]; omega
  | succ k ih =>
    rw [sumK_succ _ _ (by omega)]
    have h1 := ih (by omega) (fun j hj => h j (by omega))
    have h2 := inB_iff.1 (h k (by omega))
    omega
/-- a turned order -/
def trn (zs us : List Int) : Bool := ord zs && (decide (3 ≤ zs.length) && (decide (us.length = zs.length) && (allIn us (-20) 20 && decide (sumK us us.length = 0))))
theorem trn_iff {zs us : List Int} : trn zs us = true ↔ ord zs = true ∧ 3 ≤ zs.length ∧ us.length = zs.length ∧ allIn us (-20) 20 = true ∧ sumK us us.length = 0 := by
  unfold trn
  simp only [Bool.and_eq_true, decide_eq_true_iff]
theorem trn_1 {zs us : List Int} (h : ord zs = false) : trn zs us = false := by unfold trn; rw [h]; rfl
theorem trn_2 {zs us : List Int} (h : ¬ 3 ≤ zs.length) : trn zs us = false := by unfold trn; rw [decide_eq_false h]; simp
theorem trn_3 {zs us : List Int} (h : ¬ us.length = zs.length) : trn zs us = false := by unfold trn; rw [decide_eq_false h]; simp
theorem trn_4 {zs us : List Int} (h : allIn us (-20) 20 = false) : trn zs us = false := by unfold trn; rw [h]; simp
theorem trn_5 {zs us : List Int} (h1 : ord zs = true) (h2 : 3 ≤ zs.length) (h3 : us.length = zs.length) (h4 : allIn us (-20) 20 = true) : trn zs us = (sumK us us.length == 0) := by
  unfold trn; rw [h1, decide_eq_true h2, decide_eq_true h3, h4]; simp only [Bool.true_and]; rfl

set_option maxRecDepth 100000 in
set_option maxHeartbeats 1000000 in
theorem iIsTurned_any (A : Option Addr) (n c : Nat) (zs : List Int) (E : Option Addr) (m d : Nat) (us : List Int) (w : World) (h : RI w A n zs) (g : RI w E m us) (hn : n ≤ 1048576) (hm : m ≤ 1048576) :
    Calls Try.prog 33 #[.agg #[.slice A n c, .slice E m d]] w (RetB (trn zs us) w) := by
  have hzl := h.1
  have hul := g.1
  have HG : Hid (RB w w.heap.size E m us) := RB.of_ri g
  clear g
  rcases ho : ord zs with _ | _
  · rw [trn_1 ho]
    have HO := Lib.hid ho
    clear ho
    go_enter Try.func33, Try.ntmps33
    go_wp2_with fail
    have HA := cellNew w (.slice A n c) (.slice E m d) 30
    have HB := belAlloc (belRefl (w := w)) (.cells #[.slice A n c, .slice E m d] 30)
    refine (iIsOrder_any A n c zs _ (h.alloc _) (by omega)).mono ?_
    rw [HO.out]
    rintro e w1 ⟨rfl, hb⟩
    replace HA := cellStep HA hb
    replace HB := belStep HB hb
    clear hb h
    have a0 := HA.out.c0; have a1 := HA.out.c1
    go_wp2
    go_ret
    exact ⟨rfl, HB.out⟩
  · have HO := Lib.hid ho
    have hn8 := (ord_iff.1 ho).2.1
    rw [hzl] at hn8
    by_cases h3 : 3 ≤ n
    · by_cases hl : m = n
      · subst hl
        have E1 : Hid (allIn us (-20) 20 = true → trn zs us = (sumK us m == 0)) := Lib.hid (fun h4 => by have h5 := trn_5 (us := us) ho (by omega) (by omega) h4; rwa [hul] at h5)
        clear ho
        go_enter Try.func33, Try.ntmps33
        go_wp2_with fail
        have HA := cellNew w (.slice A m c) (.slice E m d) 30
        have HB := belAlloc (belRefl (w := w)) (.cells #[.slice A m c, .slice E m d] 30)
        refine (iIsOrder_any A m c zs _ (h.alloc _) (by omega)).mono ?_
        rw [HO.out]
        rintro e w1 ⟨rfl, hb⟩
        replace HA := cellStep HA hb
        replace HB := belStep HB hb
        clear hb h
        have a0 := HA.out.c0; have a1 := HA.out.c1
        have hri := rbK' HG HB.out
        go_wp2
        go_loop [3, 5, 28] (fun s3 _ i => ∃ k : Nat, k ≤ m ∧ i = .int .i64 k ∧ s3 = .int .i64 (sumK us k) ∧ ∀ j, j < k → inB (gi us j) (-20) 20 = true) (fun _ _ i => m - (intOf i).toNat)
        case atStart => exact ⟨0, Nat.zero_le _, rfl, by rw [sumK_zero], fun j hj => absurd hj (by omega)⟩
        case round =>
          obtain ⟨k, hk, rfl, rfl, hall⟩ := hrel
          have H3 := Lib.hid hall
          have hs := sumK_le us k (by omega) hall
          clear hall
          by_cases hlt : k < m
          · obtain ⟨b, off, rfl, hbw, hc⟩ := hri.cell hlt
            have hck := hc k hlt
            have HS := Lib.hid (sumK_succ us k (by omega))
            obtain ⟨x, hx⟩ : ∃ x, x = sumK us k := ⟨_, rfl⟩
            obtain ⟨y, hy⟩ : ∃ y, y = gi us k := ⟨_, rfl⟩
            rw [← hx] at hs
            rw [← hy] at hck
            rw [← hx, ← hy] at HS
            have HY := Lib.hid hy
            have HX := Lib.hid hx
            rw [← hx]
            clear hc hx hy
            by_cases g1 : -20 ≤ y
            · by_cases g2 : y ≤ 20
              · go_wp2
                go_round
                case rel =>
                  refine ⟨k + 1, by omega, by go_num, by rw [HS.out], fun j hj => ?_⟩
                  by_cases e : j = k
                  · rw [e, ← HY.out]; exact inB_true ⟨g1, g2⟩
                  · exact H3.out j (by omega)
                case measure => simp [intOf]; omega
              · go_wp2
                go_ret
                exact ⟨ret_b (trn_4 (allIn_false (j := k) (by omega) (by rw [← HY.out]; exact inB_false (by omega)))).symm, HB.out⟩
            · go_wp2
              go_ret
              exact ⟨ret_b (trn_4 (allIn_false (j := k) (by omega) (by rw [← HY.out]; exact inB_false (by omega)))).symm, HB.out⟩
          · obtain rfl : k = m := by omega
            have HE := Lib.hid (E1.out (allIn_true (by rw [hul]; exact H3.out)))
            go_wp2
            go_ret
            exact ⟨ret_b HE.out.symm, HB.out⟩
      · rw [trn_3 (by omega)]
        have hne : ((m : Int) != (n : Int)) = true := by rw [bne_iff_ne]; omega
        clear ho
        go_enter Try.func33, Try.ntmps33
        go_wp2_with fail
        have HA := cellNew w (.slice A n c) (.slice E m d) 30
        have HB := belAlloc (belRefl (w := w)) (.cells #[.slice A n c, .slice E m d] 30)
        refine (iIsOrder_any A n c zs _ (h.alloc _) (by omega)).mono ?_
        rw [HO.out]
        rintro e w1 ⟨rfl, hb⟩
        replace HA := cellStep HA hb
        replace HB := belStep HB hb
        clear hb h
        have a0 := HA.out.c0; have a1 := HA.out.c1
        go_wp2
        go_ret
        exact ⟨rfl, HB.out⟩
    · rw [trn_2 (by omega)]
      clear ho
      go_enter Try.func33, Try.ntmps33
      go_wp2_with fail
      have HA := cellNew w (.slice A n c) (.slice E m d) 30
      have HB := belAlloc (belRefl (w := w)) (.cells #[.slice A n c, .slice E m d] 30)
      refine (iIsOrder_any A n c zs _ (h.alloc _) (by omega)).mono ?_
      rw [HO.out]
      rintro e w1 ⟨rfl, hb⟩
      replace HA := cellStep HA hb
      replace HB := belStep HB hb
      clear hb h
      have a0 := HA.out.c0; have a1 := HA.out.c1
      go_wp2
      go_ret
      exact ⟨rfl, HB.out⟩

set_option maxRecDepth 100000 in
set_option maxHeartbeats 1000000 in
theorem poTurned_any (A : Option Addr) (n c : Nat) (zs : List Int) (E : Option Addr) (m d : Nat) (us : List Int) (w : World) (h : RI w A n zs) (g : RI w E m us) (hn : n ≤ 1048576) (hm : m ≤ 1048576) (hnc : n ≤ c) :
    Calls Try.prog 27 #[.agg #[.slice A n c, .slice E m d]] w (RetB (trn zs us) w) := by
  have hzl := h.1
  have hul := g.1
  have HG : Hid (RB w w.heap.size E m us) := RB.of_ri g
  clear g
  rcases ho : ord zs with _ | _
  · rw [trn_1 ho]
    have HO := Lib.hid ho
    clear ho
    go_enter Try.func27, Try.ntmps27
    go_wp2_with fail
    have HA := cellNew w (.slice A n c) (.slice E m d) 30
    have HB := belAlloc (belRefl (w := w)) (.cells #[.slice A n c, .slice E m d] 30)
    refine (laOrder_any A n c zs _ (h.alloc _) hn hnc).mono ?_
    rw [HO.out]
    rintro e w1 ⟨rfl, rfl⟩
    clear h
    have a0 := HA.out.c0; have a1 := HA.out.c1
    go_wp2
    go_ret
    exact ⟨rfl, HB.out⟩
  · have HO := Lib.hid ho
    have hn8 := (ord_iff.1 ho).2.1
    rw [hzl] at hn8
    by_cases h3 : 3 ≤ n
    · by_cases hl : m = n
      · subst hl
        rcases h4 : allIn us (-20) 20 with _ | _
        · rw [trn_4 h4]
          have HL := Lib.hid h4
          clear h4 ho
          go_enter Try.func27, Try.ntmps27
          go_wp2_with fail
          have HA := cellNew w (.slice A m c) (.slice E m d) 30
          have HB := belAlloc (belRefl (w := w)) (.cells #[.slice A m c, .slice E m d] 30)
          refine (laOrder_any A m c zs _ (h.alloc _) hn hnc).mono ?_
          rw [HO.out]
          rintro e w1 ⟨rfl, rfl⟩
          clear h
          have a0 := HA.out.c0; have a1 := HA.out.c1
          have hri := rbK' HG HB.out
          go_wp2_with (go_at_call 40; refine (l1All_any E m d us (-20) 20 _ hri hm).mono ?_; rw [HL.out]; rintro e w' ⟨rfl, rfl⟩)
          go_ret
          exact ⟨rfl, HB.out⟩
        · have E1 : Hid (trn zs us = (sumK us m == 0)) := Lib.hid (by have h5 := trn_5 (us := us) ho (by omega) (by omega) h4; rwa [hul] at h5)
          rw [E1.out]
          have HL := Lib.hid h4
          have HALL : Hid (∀ j, j < m → inB (gi us j) (-20) 20 = true) := Lib.hid fun j hj => inB_true (allIn_at h4 (by omega))
          clear h4 ho
          go_enter Try.func27, Try.ntmps27
          go_wp2_with fail
          have HA := cellNew w (.slice A m c) (.slice E m d) 30
          have HB := belAlloc (belRefl (w := w)) (.cells #[.slice A m c, .slice E m d] 30)
          refine (laOrder_any A m c zs _ (h.alloc _) hn hnc).mono ?_
          rw [HO.out]
          rintro e w1 ⟨rfl, rfl⟩
          clear h
          have a0 := HA.out.c0; have a1 := HA.out.c1
          have hri := rbK' HG HB.out
          go_wp2_with (go_at_call 40; refine (l1All_any E m d us (-20) 20 _ hri hm).mono ?_; rw [HL.out]; rintro e w' ⟨rfl, rfl⟩)
          go_loop [3, 5, 34] (fun s3 _ i => ∃ k : Nat, k ≤ m ∧ i = .int .i64 k ∧ s3 = .int .i64 (sumK us k)) (fun _ _ i => m - (intOf i).toNat)
          case atStart => exact ⟨0, Nat.zero_le _, rfl, by rw [sumK_zero]⟩
          case round =>
            obtain ⟨k, hk, rfl, rfl⟩ := hrel
            have hs := sumK_le us k (by omega) (fun j hj => HALL.out j (by omega))
            by_cases hlt : k < m
            · obtain ⟨b, off, rfl, hbw, hc⟩ := hri.cell hlt
              have hck := hc k hlt
              have HS := Lib.hid (sumK_succ us k (by omega))
              have hy := inB_iff.1 (HALL.out k hlt)
              clear hc
              go_wp2
              go_round
              case rel => exact ⟨k + 1, by omega, by go_num, by rw [HS.out]⟩
              case measure => simp [intOf]; omega
            · obtain rfl : k = m := by omega
              go_wp2
              go_ret
              exact ⟨rfl, HB.out⟩
      · rw [trn_3 (by omega)]
        have hne : ((m : Int) != (n : Int)) = true := by rw [bne_iff_ne]; omega
        clear ho
        go_enter Try.func27, Try.ntmps27
        go_wp2_with fail
        have HA := cellNew w (.slice A n c) (.slice E m d) 30
        have HB := belAlloc (belRefl (w := w)) (.cells #[.slice A n c, .slice E m d] 30)
        refine (laOrder_any A n c zs _ (h.alloc _) hn hnc).mono ?_
        rw [HO.out]
        rintro e w1 ⟨rfl, rfl⟩
        clear h
        have a0 := HA.out.c0; have a1 := HA.out.c1
        go_wp2
        go_ret
        exact ⟨rfl, HB.out⟩
    · rw [trn_2 (by omega)]
      clear ho
      go_enter Try.func27, Try.ntmps27
      go_wp2_with fail
      have HA := cellNew w (.slice A n c) (.slice E m d) 30
      have HB := belAlloc (belRefl (w := w)) (.cells #[.slice A n c, .slice E m d] 30)
      refine (laOrder_any A n c zs _ (h.alloc _) hn hnc).mono ?_
      rw [HO.out]
      rintro e w1 ⟨rfl, rfl⟩
      clear h
      have a0 := HA.out.c0; have a1 := HA.out.c1
      go_wp2
      go_ret
      exact ⟨rfl, HB.out⟩

end Go.Proofs.Ytpkdeoehfnnchaa

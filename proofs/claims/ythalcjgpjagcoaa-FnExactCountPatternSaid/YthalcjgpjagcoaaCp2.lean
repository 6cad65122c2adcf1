/- CountPattern of the model. -/
import Derived.Test.YthalcjgpjagcoaaCp1
namespace Go.Proofs.Ythalcjgpjagcoaa
open Go Go.RowKit

theorem cpQ_len {p q : List Int} {n S : Nat} (h : (indK S n).length ≠ q.length) : cpQ p q n S = false := by
  unfold cpQ
  rw [decide_eq_false_iff_not]
  intro e
  exact h (by rw [← e, ptL_len])

set_option maxRecDepth 100000 in
set_option maxHeartbeats 4000000 in
theorem sCountPattern_any (A : Option Addr) (n c : Nat) (p : List Int) (E : Option Addr) (m d : Nat) (q : List Int) (w : World) (h : RI w A n p) (hn : n ≤ 1048576) (hnc : n ≤ c) (g : RI w E m q) (hm : m ≤ 1048576) (hmd : m ≤ d) :
    Calls Try.prog 26 #[.slice A n c, .slice E m d] w (RetIB (cpV p q) (cpB p q) w) := by
  have hl := h.1
  have hl2 := g.1
  have HO := Lib.hid (laOrder_any A n c p w h hn hnc)
  have HO2 := Lib.hid (laOrder_any E m d q w g hm hmd)
  rcases hq : ord p with _ | _
  · rw [cpV_no (cpB_1 hq), cpB_1 hq]
    rw [hq] at HO
    clear hq h g
    go_enter Try.func26, Try.ntmps26
    go_wp2_with fail
    refine HO.out.mono ?_
    rintro e w1 ⟨rfl, rfl⟩
    go_wp2
    go_ret2
    exact ⟨rfl, Below.refl _ _⟩
  · rw [hq] at HO
    have G := Lib.hid g
    have H := Lib.hid h
    rcases hq2 : ord q with _ | _
    · rw [cpV_no (cpB_2 hq2), cpB_2 hq2]
      rw [hq2] at HO2
      clear hq hq2 h g
      go_enter Try.func26, Try.ntmps26
      go_wp2_with fail
      refine HO.out.mono ?_
      rintro e w1 ⟨rfl, rfl⟩
      go_wp2_with fail
      refine HO2.out.mono ?_
      rintro e w2 ⟨rfl, rfl⟩
      go_wp2
      go_ret2
      exact ⟨rfl, Below.refl _ _⟩
    · rw [cpV_yes (cpB_3 hq hq2), cpB_3 hq hq2, hl]
      rw [hq2] at HO2
      have h8 : 1 ≤ n ∧ n ≤ 8 := by have := ord_iff.1 hq; omega
      have h8' : 1 ≤ m ∧ m ≤ 8 := by have := ord_iff.1 hq2; omega
      have hp1 : 1 ≤ 2 ^ n := Nat.one_le_two_pow
      have hp2 := qpow12 (show n ≤ 12 by omega)
      obtain ⟨P, hP⟩ : ∃ P, P = 2 ^ n := ⟨_, rfl⟩
      have hpw := qpow_wrap (show n ≤ 12 by omega) hP
      rw [← hP] at hp1 hp2 ⊢
      clear hq hq2 h g hP
      go_enter Try.func26, Try.ntmps26
      go_wp2_with fail
      refine HO.out.mono ?_
      rintro e w1 ⟨rfl, rfl⟩
      go_wp2_with fail
      refine HO2.out.mono ?_
      rintro e w2 ⟨rfl, rfl⟩
      go_wp2
      go_loopw [6, 7] (fun v i wr => ∃ S : Nat, S ≤ P ∧ i = .int .i64 (S : Int) ∧ v = .int .i64 (cpN p q n S) ∧ Below w.heap.size w wr) (fun _ i _ => P - (intOf i).toNat)
      case atStart => exact ⟨0, Nat.zero_le _, rfl, rfl, Below.refl _ _⟩
      case round =>
        obtain ⟨S, hS, rfl, rfl, hb⟩ := hrel
        have HBr := Lib.hid hb
        have hcn := cpN_le p q n S
        have hbs := hb.size
        clear hb
        by_cases hlt : S < P
        · have hle := indK_le S n
          have hS2 : S < 4096 := by omega
          have HPT := Lib.hid (fun A2 c2 w2 (r : RI w2 A n p) (r2 : RI w2 A2 (indK S n).length (indK S n)) => mrPattern_any A n c p A2 _ c2 (indK S n) w2 r (by omega) r2 (by omega) (fun j hj => indK_in hj))
          have HEQ := Lib.hid (fun A2 c2 w2 (r2 : RI w2 A2 (indK S n).length (ptL p (indK S n))) (r : RI w2 E m q) => lsSame_any A2 _ c2 (ptL p (indK S n)) E m d q w2 r2 r (by omega) (by omega))
          have HLN := Lib.hid (fun (e : (indK S n).length ≠ m) => cpQ_len (p := p) (q := q) (by rw [hl2]; exact e))
          obtain ⟨u, hu⟩ : ∃ u, u = cpQ p q n S := ⟨_, rfl⟩
          have HU := Lib.hid hu
          have HEQ' : Hid (∀ A2 c2 w2, RI w2 A2 (indK S n).length (ptL p (indK S n)) → RI w2 E m q → Calls Try.prog 50 #[.slice A2 (indK S n).length c2, .slice E m d] w2 (RetB u w2)) := fun A2 c2 w2 r2 r => by rw [HU.out]; exact HEQ.out A2 c2 w2 r2 r
          obtain ⟨t, ht⟩ : ∃ t, t = cpN p q n S := ⟨_, rfl⟩
          have HYes := Lib.hid (fun (e : cpQ p q n S = true) => cpN_yes e)
          have HNo := Lib.hid (fun (e : cpQ p q n S = false) => cpN_no e)
          rw [← ht, ← hu] at HYes HNo
          rw [← ht] at hcn
          rw [← hu] at HLN
          rw [← ht]
          have hwt : IntKind.i64.wrap (t + 1) = t + 1 := IntWalk.i64_in _ (by omega)
          have HT := Lib.hid ht
          clear hu ht HEQ
          go_wp2
          rw [hpw]
          obtain ⟨wo, hwo⟩ : ∃ z : World, z = wr := ⟨_, rfl⟩
          subst hwo
          go_loopw [8, 9, 27] (fun v _ i wq => ∃ (k : Nat) (A1 : Option Addr) (c1 : Nat), k ≤ n ∧ i = .int .i64 (k : Int) ∧ v = .slice A1 (indK S k).length c1 ∧ OI wq wo.heap.size A1 (indK S k).length c1 (indK S k) ∧ Below wo.heap.size wo wq) (fun _ _ i _ => n - (intOf i).toNat)
          case atStart => exact ⟨0, none, 0, Nat.zero_le _, rfl, rfl, OI.none_ _ _, Below.refl _ _⟩
          case round =>
            obtain ⟨k, A1, c1, hk, rfl, rfl, ho, hbq⟩ := hrel
            have HOq := Lib.hid ho
            have HBq := Lib.hid hbq
            have hlk := indK_le S k
            have hbqs := hbq.size
            clear ho hbq
            by_cases hlt2 : k < n
            · have hkk : IntKind.i64.wrap ((k : Int) + 1) = (k : Int) + 1 := IntWalk.i64_in _ (by omega)
              rcases hq : S.testBit k with _ | _
              · have hbit := qshr_no hq
                have HL := Lib.hid (indK_no hq)
                clear hq
                go_wp2
                go_roundw
                case rel => exact ⟨k + 1, A1, c1, by omega, rfl, by rw [HL.out], by rw [HL.out]; exact HOq.out, HBq.out⟩
                case measure => simp [intOf]; omega
              · have hbit := qshr_yes hq
                have HL := Lib.hid (indK_yes hq)
                have HLL := Lib.hid (show (indK S (k + 1)).length = (indK S k).length + 1 by rw [indK_yes hq]; simp)
                clear hq
                go_wp2_with (at_builtin; refine wpList_append_int _ rfl _ _ rfl wo.heap.size A1 (indK S k).length c1 _ (k : Int) wr.heap.size rfl rfl (HOq.out.alloc _) (by simp) (by omega) (by simp; omega) ?_; intro A2 c2 w2 ho2 hg2)
                go_roundw
                case rel =>
                  exact ⟨k + 1, A2, c2, by omega, by go_num, by rw [HLL.out], by rw [HLL.out, HL.out]; exact ho2, (belGrown (belAlloc HBq _) (HOq.out.alloc _) hg2 (Nat.le_refl _)).out⟩
                case measure => simp [intOf]; omega
            · obtain rfl : k = n := by omega
              have HB2 := belStep HBr HBq.out
              by_cases hlen : (indK S k).length = m
              · have HH := Lib.hid (H.out.below HB2.out (Nat.le_refl _))
                subst hlen
                cases u
                · have HE := Lib.hid (HNo.out rfl)
                  go_wp2_with fail
                  refine (HPT.out _ _ _ HH.out HOq.out.ri).mono ?_
                  rintro e w4 ⟨A4, c4, rfl, o4, hb4⟩
                  have HB4 := belStep HB2 hb4
                  have O4 := Lib.hid o4
                  clear o4 hb4
                  go_wp2_with fail
                  refine (HEQ'.out _ _ _ O4.out.ri (G.out.below HB4.out (Nat.le_refl _))).mono ?_
                  rintro e w5 ⟨rfl, hb5⟩
                  have HB5 := belStep HB4 hb5
                  clear hb5
                  go_wp2
                  go_roundw
                  case rel => exact ⟨S + 1, hlt, by go_num, by rw [HE.out], HB5.out⟩
                  case measure => (clear hpw hwt; simp [intOf]; omega)
                · have HE := Lib.hid (HYes.out rfl)
                  go_wp2_with fail
                  refine (HPT.out _ _ _ HH.out HOq.out.ri).mono ?_
                  rintro e w4 ⟨A4, c4, rfl, o4, hb4⟩
                  have HB4 := belStep HB2 hb4
                  have O4 := Lib.hid o4
                  clear o4 hb4
                  go_wp2_with fail
                  refine (HEQ'.out _ _ _ O4.out.ri (G.out.below HB4.out (Nat.le_refl _))).mono ?_
                  rintro e w5 ⟨rfl, hb5⟩
                  have HB5 := belStep HB4 hb5
                  clear hb5
                  go_wp2
                  go_roundw
                  case rel => exact ⟨S + 1, hlt, by go_num, by rw [HE.out], HB5.out⟩
                  case measure => (clear hpw hwt; simp [intOf]; omega)
              · have hle1 : (((indK S k).length : Int) == (m : Int)) = false := beq_eq_false_iff_ne.2 (by omega)
                have HE0 := HLN.out hlen
                subst HE0
                have HE := Lib.hid (HNo.out rfl)
                have HX := Lib.hid hlen
                obtain ⟨L, hL⟩ : ∃ L, L = (indK S k).length := ⟨_, rfl⟩
                have hle2 : ((L : Int) == (m : Int)) = false := by rw [hL]; exact hle1
                rw [← hL]
                clear hlen hle1 hL
                go_wp2
                go_roundw
                case rel => exact ⟨S + 1, hlt, by go_num, by rw [HE.out], HB2.out⟩
                case measure => (clear hpw hwt; simp [intOf]; omega)
        · obtain rfl : S = P := by omega
          go_wp2
          go_ret2
          exact ⟨rfl, HBr.out⟩
end Go.Proofs.Ythalcjgpjagcoaa

/- CountPattern, of the program and of its model. -/
import Derived.Test.YthalcjgpjagcoaaPa2
import Derived.Test.YthalcjgpjagcoaaEqs
import Derived.Test.YthalcjgpjagcoaaBts
import Derived.Test.YthalcjgpjagcoaaGm1
namespace Go.Proofs.Ythalcjgpjagcoaa
open Go Go.RowKit

set_option maxRecDepth 100000 in
set_option maxHeartbeats 1000000 in
theorem indicesIn_any (S n : Nat) (w : World) (hn : n ≤ 60) (hS : S < 4096) :
    Calls Try.prog 52 #[.int .i64 (S : Int), .int .i64 (n : Int)] w (FreshI w (indK S n).length (indK S n)) := by
  go_enter Try.func52, Try.ntmps52
  go_wp2
  go_loopw [5, 6, 8] (fun v _ i wr => ∃ (k : Nat) (A1 : Option Addr) (c1 : Nat), k ≤ n ∧ i = .int .i64 (k : Int) ∧ v = .slice A1 (indK S k).length c1 ∧ OI wr w.heap.size A1 (indK S k).length c1 (indK S k) ∧ Below w.heap.size w wr) (fun _ _ i _ => n - (intOf i).toNat)
  case atStart => exact ⟨0, none, 0, Nat.zero_le _, rfl, rfl, OI.none_ _ _, Below.refl _ _⟩
  case round =>
    obtain ⟨k, A1, c1, hk, rfl, rfl, ho, hb⟩ := hrel
    have HO := Lib.hid ho
    have HB := Lib.hid hb
    have hlk := indK_le S k
    have hbs := hb.size
    clear ho hb
    by_cases hlt : k < n
    · have hkk : IntKind.i64.wrap ((k : Int) + 1) = (k : Int) + 1 := IntWalk.i64_in _ (by omega)
      rcases hq : S.testBit k with _ | _
      · have hbit := qand_no hq
        have HL := Lib.hid (indK_no hq)
        clear hq
        go_wp2
        go_roundw
        case rel => exact ⟨k + 1, A1, c1, by omega, rfl, by rw [HL.out], by rw [HL.out]; exact HO.out, HB.out⟩
        case measure => simp [intOf]; omega
      · have hbit := qand_yes hq
        have HL := Lib.hid (indK_yes hq)
        have HLL := Lib.hid (show (indK S (k + 1)).length = (indK S k).length + 1 by rw [indK_yes hq]; simp)
        clear hq
        go_wp2_with (at_builtin; refine wpList_append_int _ rfl _ _ rfl w.heap.size A1 (indK S k).length c1 _ (k : Int) wr.heap.size rfl rfl (HO.out.alloc _) (by simp) (by omega) (by simp; omega) ?_; intro A2 c2 w2 ho2 hg2)
        go_roundw
        case rel =>
          exact ⟨k + 1, A2, c2, by omega, by go_num, by rw [HLL.out], by rw [HLL.out, HL.out]; exact ho2, (belGrown (belAlloc HB _) (HO.out.alloc _) hg2 (Nat.le_refl _)).out⟩
        case measure => simp [intOf]; omega
    · obtain rfl : k = n := by omega
      go_wp2
      go_ret
      exact ⟨A1, c1, rfl, HO.out, HB.out⟩

/-- whether the places of a set have a pattern -/
def cpQ (p q : List Int) (n S : Nat) : Bool := decide (ptL p (indK S n) = q)
def cpN (p q : List Int) (n : Nat) : Nat → Int
  | 0 => 0
  | S + 1 => cpN p q n S + (if cpQ p q n S = true then 1 else 0)
theorem cpN_yes {p q : List Int} {n S : Nat} (h : cpQ p q n S = true) : cpN p q n (S + 1) = cpN p q n S + 1 := by rw [cpN, if_pos h]
theorem cpN_no {p q : List Int} {n S : Nat} (h : cpQ p q n S = false) : cpN p q n (S + 1) = cpN p q n S := by rw [cpN, if_neg (by rw [h]; simp)]; omega
theorem cpN_le (p q : List Int) (n S : Nat) : 0 ≤ cpN p q n S ∧ cpN p q n S ≤ S := by
  induction S with
  | zero => simp [cpN]
  | succ S ih => simp only [cpN]; split <;> omega
def cpB (p q : List Int) : Bool := ord p && ord q
def cpV (p q : List Int) : Int := if cpB p q = true then cpN p q p.length (2 ^ p.length) else 0
theorem cpB_1 {p q : List Int} (h : ord p = false) : cpB p q = false := by unfold cpB; rw [h]; rfl
theorem cpB_2 {p q : List Int} (h : ord q = false) : cpB p q = false := by unfold cpB; rw [h]; simp
theorem cpB_3 {p q : List Int} (h : ord p = true) (h2 : ord q = true) : cpB p q = true := by unfold cpB; rw [h, h2]; rfl
theorem cpV_yes {p q : List Int} (h : cpB p q = true) : cpV p q = cpN p q p.length (2 ^ p.length) := by unfold cpV; rw [if_pos h]
theorem cpV_no {p q : List Int} (h : cpB p q = false) : cpV p q = 0 := by unfold cpV; rw [h]; rfl
theorem indK_in {S n : Nat} {j : Nat} (h : j < (indK S n).length) : 0 ≤ gi (indK S n) j ∧ gi (indK S n) j < n := by
  have hm : gi (indK S n) j ∈ indK S n := by rw [gi_lt h]; exact List.getElem_mem h
  obtain ⟨i, hi, _, e⟩ := indK_mem.1 hm
  rw [e]; omega

set_option maxRecDepth 100000 in
set_option maxHeartbeats 4000000 in
theorem iCountPattern_any (A : Option Addr) (n c : Nat) (p : List Int) (E : Option Addr) (m d : Nat) (q : List Int) (w : World) (h : RI w A n p) (hn : n ≤ 1048576) (_hnc : n ≤ c) (g : RI w E m q) (hm : m ≤ 1048576) (_hmd : m ≤ d) :
    Calls Try.prog 27 #[.slice A n c, .slice E m d] w (RetIB (cpV p q) (cpB p q) w) := by
  have hl := h.1
  have hl2 := g.1
  have HO := Lib.hid (iIsOrder_any A n c p w h (by omega))
  have HO2 := Lib.hid (fun w2 (r : RI w2 E m q) => iIsOrder_any E m d q w2 r (by omega))
  rcases hq : ord p with _ | _
  · rw [cpV_no (cpB_1 hq), cpB_1 hq]
    rw [hq] at HO
    clear hq h g
    go_enter Try.func27, Try.ntmps27
    go_wp2_with fail
    refine HO.out.mono ?_
    rintro e w1 ⟨rfl, hb⟩
    have HB := Lib.hid hb
    clear hb
    go_wp2
    go_ret2
    exact ⟨rfl, HB.out⟩
  · rw [hq] at HO
    have G := Lib.hid g
    have H := Lib.hid h
    rcases hq2 : ord q with _ | _
    · rw [cpV_no (cpB_2 hq2), cpB_2 hq2]
      rw [hq2] at HO2
      clear hq hq2 h g
      go_enter Try.func27, Try.ntmps27
      go_wp2_with fail
      refine HO.out.mono ?_
      rintro e w1 ⟨rfl, hb⟩
      have HB := Lib.hid hb
      have G1 := Lib.hid (G.out.below hb (Nat.le_refl _))
      clear hb
      go_wp2_with fail
      refine (HO2.out _ G1.out).mono ?_
      rintro e w2 ⟨rfl, hb⟩
      replace HB := belStep HB hb
      clear hb
      go_wp2
      go_ret2
      exact ⟨rfl, HB.out⟩
    · rw [cpV_yes (cpB_3 hq hq2), cpB_3 hq hq2, hl]
      rw [hq2] at HO2
      have h8 : 1 ≤ n ∧ n ≤ 8 := by have := ord_iff.1 hq; omega
      have hp1 : 1 ≤ 2 ^ n := Nat.one_le_two_pow
      have hp2 := qpow12 (show n ≤ 12 by omega)
      obtain ⟨P, hP⟩ : ∃ P, P = 2 ^ n := ⟨_, rfl⟩
      have hpw := qpow_wrap (show n ≤ 12 by omega) hP
      rw [← hP] at hp1 hp2 ⊢
      clear hq hq2 h g hP
      go_enter Try.func27, Try.ntmps27
      go_wp2_with fail
      refine HO.out.mono ?_
      rintro e w1 ⟨rfl, hb⟩
      have HB := Lib.hid hb
      have G1 := Lib.hid (G.out.below hb (Nat.le_refl _))
      clear hb
      go_wp2_with fail
      refine (HO2.out _ G1.out).mono ?_
      rintro e w2 ⟨rfl, hb⟩
      replace HB := belStep HB hb
      clear hb
      go_wp2
      rw [hpw]
      go_loopw [6, 7, 19] (fun v _ i wr => ∃ S : Nat, S ≤ P ∧ i = .int .i64 (S : Int) ∧ v = .int .i64 (cpN p q n S) ∧ Below w.heap.size w wr) (fun _ _ i _ => P - (intOf i).toNat)
      case atStart => exact ⟨0, Nat.zero_le _, rfl, rfl, HB.out⟩
      case round =>
        obtain ⟨S, hS, rfl, rfl, hb⟩ := hrel
        have HBr := Lib.hid hb
        have hcn := cpN_le p q n S
        clear hb
        by_cases hlt : S < P
        · have HIX := Lib.hid (fun w2 => indicesIn_any S n w2 (by omega) (by omega))
          have hle := indK_le S n
          have HPT := Lib.hid (fun A2 c2 w2 (r : RI w2 A n p) (r2 : RI w2 A2 (indK S n).length (indK S n)) => patternAt_any A n c p A2 _ c2 (indK S n) w2 r (by omega) r2 (by omega) (fun j hj => indK_in hj))
          have HEQ := Lib.hid (fun A2 c2 w2 (r2 : RI w2 A2 (indK S n).length (ptL p (indK S n))) (r : RI w2 E m q) => equalI_any A2 _ c2 (ptL p (indK S n)) E m d q w2 r2 r (by omega) hm)
          obtain ⟨u, hu⟩ : ∃ u, u = cpQ p q n S := ⟨_, rfl⟩
          have HU := Lib.hid hu
          have HEQ' : Hid (∀ A2 c2 w2, RI w2 A2 (indK S n).length (ptL p (indK S n)) → RI w2 E m q → Calls Try.prog 51 #[.slice A2 (indK S n).length c2, .slice E m d] w2 (RetB u w2)) := fun A2 c2 w2 r2 r => by rw [HU.out]; exact HEQ.out A2 c2 w2 r2 r
          obtain ⟨t, ht⟩ : ∃ t, t = cpN p q n S := ⟨_, rfl⟩
          have HYes := Lib.hid (fun (e : cpQ p q n S = true) => cpN_yes e)
          have HNo := Lib.hid (fun (e : cpQ p q n S = false) => cpN_no e)
          rw [← ht, ← hu] at HYes HNo
          rw [← ht] at hcn
          rw [← ht]
          have hwt : IntKind.i64.wrap (t + 1) = t + 1 := IntWalk.i64_in _ (by omega)
          have HT := Lib.hid ht
          clear hu ht HEQ
          cases u
          · have HE := Lib.hid (HNo.out rfl)
            go_wp2_with (first
              | (go_at_call 52; refine (HIX.out _).mono ?_; rintro e w3 ⟨A3, c3, rfl, o3, hb3⟩; have HB3 := belStep HBr hb3; have O3 := Lib.hid o3; clear o3 hb3)
              | (go_at_call 49; refine (HPT.out _ _ _ (H.out.below HB3.out (Nat.le_refl _)) O3.out.ri).mono ?_; rintro e w4 ⟨A4, c4, rfl, o4, hb4⟩; have HB4 := belStep HB3 hb4; have O4 := Lib.hid o4; clear o4 hb4)
              | (go_at_call 51; refine (HEQ'.out _ _ _ O4.out.ri (G.out.below HB4.out (Nat.le_refl _))).mono ?_; rintro e w5 ⟨rfl, hb5⟩; have HB5 := belStep HB4 hb5; clear hb5))
            go_roundw
            case rel => exact ⟨S + 1, by omega, by go_num, by rw [HE.out], HB5.out⟩
            case measure => simp [intOf]; omega
          · have HE := Lib.hid (HYes.out rfl)
            go_wp2_with (first
              | (go_at_call 52; refine (HIX.out _).mono ?_; rintro e w3 ⟨A3, c3, rfl, o3, hb3⟩; have HB3 := belStep HBr hb3; have O3 := Lib.hid o3; clear o3 hb3)
              | (go_at_call 49; refine (HPT.out _ _ _ (H.out.below HB3.out (Nat.le_refl _)) O3.out.ri).mono ?_; rintro e w4 ⟨A4, c4, rfl, o4, hb4⟩; have HB4 := belStep HB3 hb4; have O4 := Lib.hid o4; clear o4 hb4)
              | (go_at_call 51; refine (HEQ'.out _ _ _ O4.out.ri (G.out.below HB4.out (Nat.le_refl _))).mono ?_; rintro e w5 ⟨rfl, hb5⟩; have HB5 := belStep HB4 hb5; clear hb5))
            go_roundw
            case rel => exact ⟨S + 1, by omega, by go_num, by rw [HE.out], HB5.out⟩
            case measure => simp [intOf]; omega
        · obtain rfl : S = P := by omega
          go_wp2
          go_ret2
          exact ⟨rfl, HBr.out⟩
end Go.Proofs.Ythalcjgpjagcoaa

/- An order with a level on top, of the model; the orders for which all orders are looked at. -/
import Derived.Test.YtnhhbpogjhcibaaLd1
import Derived.Test.YtnhhbpogjhcibaaLd2
import Derived.Test.YtnhhbpogjhcibaaMgD
namespace Go.Proofs.Ytnhhbpogjhcibaa
open Go Go.RowKit

theorem top_take {p l : List Int} {k : Nat} (h : k < l.length) : top p (l.take (k + 1)) = exch (top p (l.take k)) (gi l k).toNat := by
  unfold top
  rw [List.take_succ_eq_append_getElem h, List.foldl_append, ← gi_lt h]
  rfl

set_option maxRecDepth 100000 in
set_option maxHeartbeats 1000000 in
theorem lvTop_own (A : Option Addr) (n c : Nat) (p : List Int) (B : Option Addr) (m d : Nat) (l : List Int) (w : World) (h : RI w A n p) (hnc : n ≤ c) (hn : n ≤ 8) (g : RI w B m l) (hm : m ≤ 1048576) (hl : ∀ x ∈ l, 0 ≤ x ∧ x.toNat + 1 < n) :
    Calls Try.prog 61 #[.slice A n c, .slice B m d] w fun e w' => ∃ A' c', e = .returned (.slice A' n c') ∧ RI w' A' n (top p l) ∧ n ≤ c' ∧ Below w.heap.size w w' ∧ (0 < m → OI w' w.heap.size A' n c' (top p l)) := by
  have HG := Lib.hid g
  have HLM := Lib.hid g.1
  go_enter Try.func61, Try.ntmps61
  go_wp2
  go_loopw [0, 6, 9] (fun s0 _ i wr => ∃ (k : Nat) (A' : Option Addr) (c' : Nat), k ≤ m ∧ i = .int .i64 (k : Int) ∧ s0 = .slice A' n c' ∧ RI wr A' n (top p (l.take k)) ∧ n ≤ c' ∧ Below w.heap.size w wr ∧ (0 < k → OI wr w.heap.size A' n c' (top p (l.take k)))) (fun _ _ i _ => m - (intOf i).toNat)
  case atStart => exact ⟨0, A, c, Nat.zero_le _, by go_num, rfl, by simpa [top] using h, hnc, Below.refl _ _, fun h => absurd h (by omega)⟩
  case round =>
    obtain ⟨k, A', c', hk, rfl, rfl, hA, hc', hb, hoo⟩ := hrel
    have HA := Lib.hid hA
    have HB := Lib.hid hb
    have HOO := Lib.hid hoo
    have hR := HG.out.below hb (Nat.le_refl _)
    clear hA hb hoo
    by_cases hlt : k < m
    · obtain ⟨b, off, rfl, hbw, hc⟩ := hR.cell hlt
      have hck := hc k hlt
      have hkl : k < l.length := by have := HLM.out; omega
      have hmem := hl (gi l k) (by rw [gi_lt hkl]; exact List.getElem_mem _)
      have HT := Lib.hid (top_take (p := p) hkl)
      obtain ⟨r, hr⟩ : ∃ r : Nat, gi l k = (r : Int) := ⟨(gi l k).toNat, by omega⟩
      rw [hr] at hck hmem HT
      rw [Int.toNat_natCast] at hmem HT
      have hrn := hmem.2
      clear hc hR hr hmem
      go_wp2_with fail
      refine (alSwap_any A' n c' (top p (l.take k)) r _ HA.out hn hrn).mono ?_
      rintro e w2 ⟨A2, c2, rfl, o2, hb2⟩
      have HO := Lib.hid o2.ri
      have HOW := Lib.hid (o2.mono (B' := w.heap.size) HB.out.size)
      have hc2 := o2.le
      have HB2 := Lib.hid (HB.out.trans (hb2.mono HB.out.size))
      clear o2 hb2
      go_wp2
      go_roundw
      case rel => exact ⟨k + 1, A2, c2, by omega, by go_num, rfl, by rw [HT.out]; exact HO.out, hc2, HB2.out, fun _ => by rw [HT.out]; exact HOW.out⟩
      case measure => simp [intOf]; omega
    · obtain rfl : k = m := by omega
      clear hR
      go_wp2
      go_ret
      have htk : l.take k = l := List.take_of_length_le (by have := HLM.out; omega)
      rw [htk] at HA HOO
      exact ⟨A', c', rfl, HA.out, hc', HB.out, HOO.out⟩

theorem lvTop_any (A : Option Addr) (n c : Nat) (p : List Int) (B : Option Addr) (m d : Nat) (l : List Int) (w : World) (h : RI w A n p) (hnc : n ≤ c) (hn : n ≤ 8) (g : RI w B m l) (hm : m ≤ 1048576) (hl : ∀ x ∈ l, 0 ≤ x ∧ x.toNat + 1 < n) :
    Calls Try.prog 61 #[.slice A n c, .slice B m d] w fun e w' => ∃ A' c', e = .returned (.slice A' n c') ∧ RI w' A' n (top p l) ∧ n ≤ c' ∧ Below w.heap.size w w' := by
  refine (lvTop_own A n c p B m d l w h hnc hn g hm hl).mono ?_
  rintro e w' ⟨A', c', rfl, h1, h2, h3, _⟩
  exact ⟨A', c', rfl, h1, h2, h3⟩

def mdB (p : List Int) : Bool := ord p && inB (p.length : Int) 2 6
theorem mdB_iff {p : List Int} : mdB p = true ↔ ord p = true ∧ 2 ≤ p.length ∧ p.length ≤ 6 := by
  unfold mdB
  rw [Bool.and_eq_true]
  constructor
  · rintro ⟨h1, h2⟩; have := inB_iff.1 h2; exact ⟨h1, by omega, by omega⟩
  · rintro ⟨h1, h2⟩; exact ⟨h1, inB_true (by omega)⟩

set_option maxRecDepth 100000 in
set_option maxHeartbeats 1000000 in
theorem lvMade_any (A : Option Addr) (n c : Nat) (p : List Int) (w : World) (h : RI w A n p) (hn : n ≤ 1048576) (hnc : n ≤ c) :
    Calls Try.prog 55 #[.slice A n c] w (RetB (mdB p) w) := by
  have hl := h.1
  have HO := Lib.hid (laOrder_any A n c p w h hn hnc)
  unfold mdB
  rw [hl]
  obtain ⟨q, hq⟩ : ∃ q, q = ord p := ⟨_, rfl⟩
  rw [← hq] at HO ⊢
  clear hq h hl
  go_enter Try.func55, Try.ntmps55
  go_wp2_with fail
  refine HO.out.mono ?_
  rintro e w1 ⟨rfl, rfl⟩
  rcases q with _ | _
  · go_wp2
    go_ret
    exact ⟨rfl, Below.refl _ _⟩
  · go_wp2_with fail
    refine (l1In_any (n : Int) 2 6 _).mono ?_
    rintro e w2 ⟨rfl, rfl⟩
    go_wp2
    go_ret
    exact ⟨rfl, Below.refl _ _⟩
set_option maxRecDepth 100000 in
set_option maxHeartbeats 1000000 in
theorem isMade_any (A : Option Addr) (n c : Nat) (p : List Int) (w : World) (h : RI w A n p) (hn : n ≤ 1048576) :
    Calls Try.prog 58 #[.slice A n c] w (RetB (mdB p) w) := by
  have hl := h.1
  have HO := Lib.hid (iIsOrder_any A n c p w h (by omega))
  unfold mdB
  rw [hl]
  obtain ⟨q, hq⟩ : ∃ q, q = ord p := ⟨_, rfl⟩
  rw [← hq] at HO ⊢
  clear hq h hl
  rcases q with _ | _
  · go_enter Try.func58, Try.ntmps58
    go_wp2_with fail
    refine HO.out.mono ?_
    rintro e w1 ⟨rfl, hb⟩
    go_wp2
    go_ret
    exact ⟨rfl, hb⟩
  · by_cases h1 : (n : Int) < 2
    · have HF := Lib.hid (inB_false (n := (n : Int)) (lo := 2) (hi := 6) (by omega))
      rw [HF.out]
      have i1 : ¬ (2 : Int) ≤ (n : Int) := by omega
      go_enter Try.func58, Try.ntmps58
      go_wp2_with fail
      refine HO.out.mono ?_
      rintro e w1 ⟨rfl, hb⟩
      go_wp2
      go_ret
      exact ⟨rfl, hb⟩
    · by_cases h2 : 6 < (n : Int)
      · have HF := Lib.hid (inB_false (n := (n : Int)) (lo := 2) (hi := 6) (by omega))
        rw [HF.out]
        have i1 : (2 : Int) ≤ (n : Int) := by omega
        have i2 : decide ((n : Int) ≤ 6) = false := by rw [decide_eq_false_iff_not]; omega
        go_enter Try.func58, Try.ntmps58
        go_wp2_with fail
        refine HO.out.mono ?_
        rintro e w1 ⟨rfl, hb⟩
        go_wp2
        trace_state
        go_ret
        exact ⟨rfl, hb⟩
      · have HF := Lib.hid (inB_true (n := (n : Int)) (lo := 2) (hi := 6) (by omega))
        rw [HF.out]
        have i1 : (2 : Int) ≤ (n : Int) := by omega
        have i2 : (n : Int) ≤ 6 := by omega
        go_enter Try.func58, Try.ntmps58
        go_wp2_with fail
        refine HO.out.mono ?_
        rintro e w1 ⟨rfl, hb⟩
        go_wp2
        go_ret
        exact ⟨rfl, hb⟩
end Go.Proofs.Ytnhhbpogjhcibaa

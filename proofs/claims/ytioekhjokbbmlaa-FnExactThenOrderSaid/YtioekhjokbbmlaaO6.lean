/- The contracts of ThenOrder, of the program and of its model. -/
import Derived.Test.YtioekhjokbbmlaaO5
import Derived.Test.YtioekhjokbbmlaaC1c
import Derived.Test.YtioekhjokbbmlaaCln
namespace Go.Proofs.Ytioekhjokbbmlaa
open Go Go.RowKit

/-- zs and then ys -/
def thenL (zs ys : List Int) : List Int := zs.map fun x => gi ys x.toNat
theorem thenL_length (zs ys : List Int) : (thenL zs ys).length = zs.length := by simp [thenL]
theorem gi_thenL (zs ys : List Int) (j : Nat) (h : j < zs.length) : gi (thenL zs ys) j = gi ys (gi zs j).toNat := by
  rw [gi_lt (by rw [thenL_length]; exact h), gi_lt h]; simp [thenL]
theorem thenL_take (zs ys : List Int) (k : Nat) (h : k < zs.length) : (thenL zs ys).take (k + 1) = (thenL zs ys).take k ++ [gi ys (gi zs k).toNat] := by
  have hl := thenL_length zs ys
  rw [List.take_succ_eq_append_getElem (by omega), ← gi_lt, gi_thenL _ _ _ h]
def thenB (zs ys : List Int) : Bool := ord zs && (ord ys && decide (zs.length = ys.length))
def thenN (zs ys : List Int) : List Int := if thenB zs ys = true then thenL zs ys else []
theorem thenN_yes {zs ys : List Int} (h : thenB zs ys = true) : thenN zs ys = thenL zs ys := by unfold thenN; rw [if_pos h]
theorem thenN_no {zs ys : List Int} (h : thenB zs ys = false) : thenN zs ys = [] := by unfold thenN; rw [h]; rfl
theorem thenB_1 {zs ys : List Int} (h : ord zs = false) : thenB zs ys = false := by simp [thenB, h]
theorem thenB_2 {zs ys : List Int} (h : ord ys = false) : thenB zs ys = false := by simp [thenB, h]
theorem thenB_3 {zs ys : List Int} (h : zs.length ≠ ys.length) : thenB zs ys = false := by simp [thenB, h]
theorem thenB_4 {zs ys : List Int} (h1 : ord zs = true) (h2 : ord ys = true) (h3 : zs.length = ys.length) : thenB zs ys = true := by simp [thenB, h1, h2, h3]
theorem thenN_len (zs ys : List Int) : (thenN zs ys).length ≤ 1000 := by
  rcases h : thenB zs ys with _ | _
  · rw [thenN_no h]; simp
  · rw [thenN_yes h, thenL_length]
    simp only [thenB, Bool.and_eq_true] at h
    have := (ord_iff.1 h.1).2.1
    omega

set_option maxHeartbeats 400000 in
theorem laThen_any (A : Option Addr) (n c : Nat) (zs : List Int) (A9 : Option Addr) (c9 : Nat) (ys : List Int) (w : World) (h : RI w A n zs) (g : RI w A9 n ys) (hn : n ≤ 1048576) (hq : ord zs = true) :
    Calls Try.prog 81 #[.slice A n c, .slice A9 n c9] w (FreshI w n (thenL zs ys)) := by
  have hl := h.1
  have HW := Lib.hid hq
  clear hq
  go_enter Try.func81, Try.ntmps81
  go_wp2
  go_loopw [5, 7, 10] (fun v _ i wr => ∃ (k : Nat) (A1 : Option Addr) (c1 : Nat), k ≤ n ∧ i = .int .i64 k ∧ v = .slice A1 k c1 ∧ OI wr w.heap.size A1 k c1 ((thenL zs ys).take k) ∧ Below w.heap.size w wr) (fun _ _ i _ => n - (intOf i).toNat)
  case atStart => exact ⟨0, none, 0, Nat.zero_le _, rfl, rfl, OI.none_ _ _, Below.refl _ _⟩
  case round =>
    obtain ⟨k, A1, c1, hk, rfl, rfl, ho, hb⟩ := hrel
    have HO := Lib.hid ho
    have HB := Lib.hid hb
    by_cases hlt : k < n
    · have HT := Lib.hid (thenL_take zs ys k (by omega))
      obtain ⟨b, off, rfl, hbw, hc⟩ := h.cell hlt
      have hck : wr.cell? ⟨b, off + k, none⟩ = some (.int .i64 (gi zs k)) := (hb.cell (p := ⟨b, off + k, none⟩) hbw).trans (hc k hlt)
      obtain ⟨p, hp⟩ : ∃ p : Nat, gi zs k = (p : Int) := ⟨(gi zs k).toNat, by have := ord_at HW.out (j := k) (by omega); omega⟩
      have hpn : p < n := by have := ord_at HW.out (j := k) (by omega); omega
      obtain ⟨b9, off9, rfl, hbw9, hc9⟩ := g.cell hpn
      have hck9 : wr.cell? ⟨b9, off9 + p, none⟩ = some (.int .i64 (gi ys p)) := (hb.cell (p := ⟨b9, off9 + p, none⟩) hbw9).trans (hc9 p hpn)
      have HP := Lib.hid hp
      rw [hp] at hck
      clear ho hb hc hc9 hp h g
      go_wp2_with (at_builtin; refine wpList_append_int _ rfl _ _ rfl w.heap.size A1 k c1 _ (gi ys p) wr.heap.size rfl rfl (HO.out.alloc _) (by simp) (by omega) (by have := HB.out.size; simp; omega) ?_; intro A2 c2 w2 ho2 hg2)
      go_roundw
      case rel =>
        refine ⟨k + 1, A2, c2, by omega, by go_num, rfl, ?_, belStep' HB HO.out hg2⟩
        rw [HT.out, HP.out]
        exact ho2
      case measure => simp [intOf]; omega
    · obtain rfl : k = n := by omega
      clear ho hb
      go_wp2
      go_ret
      have e : (thenL zs ys).take k = thenL zs ys := List.take_of_length_le (by rw [thenL_length]; omega)
      exact ⟨A1, c1, rfl, by rw [← e]; exact HO.out, HB.out⟩

set_option maxHeartbeats 1000000 in
theorem sThenOrder_any (A : Option Addr) (n c : Nat) (zs : List Int) (A9 : Option Addr) (n9 c9 : Nat) (ys : List Int) (w : World) (h : RI w A n zs) (hn : n ≤ 1048576) (hnc : n ≤ c) (g : RI w A9 n9 ys) (hn9 : n9 ≤ 1048576) (hnc9 : n9 ≤ c9) :
    Calls Try.prog 43 #[.slice A n c, .slice A9 n9 c9] w (FreshIB w (thenN zs ys).length (thenN zs ys) (thenB zs ys)) := by
  have hl := h.1
  have hl9 := g.1
  rcases hq : ord zs with _ | _
  · rw [thenN_no (thenB_1 hq), thenB_1 hq]
    have HW := Lib.hid hq
    clear hq
    go_enter Try.func43, Try.ntmps43
    go_wp2_with fail
    refine (laOrder_any A n c zs _ h hn hnc).mono ?_
    rw [HW.out]
    rintro e w1 ⟨rfl, rfl⟩
    go_wp2
    go_ret2
    exact ⟨none, 0, rfl, OI.none_ _ _, Below.refl _ _⟩
  rcases hq9 : ord ys with _ | _
  · rw [thenN_no (thenB_2 hq9), thenB_2 hq9]
    have HW := Lib.hid hq
    have HW9 := Lib.hid hq9
    clear hq hq9
    go_enter Try.func43, Try.ntmps43
    go_wp2_with fail
    refine (laOrder_any A n c zs _ h hn hnc).mono ?_
    rw [HW.out]
    rintro e w1 ⟨rfl, rfl⟩
    go_wp2_with fail
    refine (laOrder_any A9 n9 c9 ys _ g hn9 hnc9).mono ?_
    rw [HW9.out]
    rintro e w1 ⟨rfl, rfl⟩
    go_wp2
    go_ret2
    exact ⟨none, 0, rfl, OI.none_ _ _, Below.refl _ _⟩
  by_cases hnn : n = n9
  · subst hnn
    have hb4 := thenB_4 hq hq9 (by omega)
    rw [thenN_yes hb4, hb4, thenL_length, hl]
    have HW := Lib.hid hq
    have HW9 := Lib.hid hq9
    clear hq hq9 hb4
    go_enter Try.func43, Try.ntmps43
    go_wp2_with fail
    refine (laOrder_any A n c zs _ h hn hnc).mono ?_
    rw [HW.out]
    rintro e w1 ⟨rfl, rfl⟩
    go_wp2_with fail
    refine (laOrder_any A9 n c9 ys _ g hn9 hnc9).mono ?_
    rw [HW9.out]
    rintro e w1 ⟨rfl, rfl⟩
    go_wp2_with fail
    refine (laThen_any A n c zs A9 c9 ys _ h g hn HW.out).mono ?_
    rintro e w2 ⟨A2, c2, rfl, o2, hb⟩
    have HO := Lib.hid o2
    have HB := Lib.hid hb
    clear o2 hb
    go_wp2
    go_ret2
    exact ⟨A2, c2, rfl, HO.out, HB.out⟩
  · have hb3 : thenB zs ys = false := thenB_3 (by omega)
    rw [thenN_no hb3, hb3]
    have HW := Lib.hid hq
    have HW9 := Lib.hid hq9
    have e9 : ((n : Int) != (n9 : Int)) = true := by rw [bne_iff_ne]; omega
    clear hq hq9
    go_enter Try.func43, Try.ntmps43
    go_wp2_with fail
    refine (laOrder_any A n c zs _ h hn hnc).mono ?_
    rw [HW.out]
    rintro e w1 ⟨rfl, rfl⟩
    go_wp2_with fail
    refine (laOrder_any A9 n9 c9 ys _ g hn9 hnc9).mono ?_
    rw [HW9.out]
    rintro e w1 ⟨rfl, rfl⟩
    go_wp2
    go_ret2
    exact ⟨none, 0, rfl, OI.none_ _ _, Below.refl _ _⟩
end Go.Proofs.Ytioekhjokbbmlaa

/- The taking game's positions: rungs left, their indices, their ladder. -/
import Derived.Test.YtiapbmgpjloafaaGm3
import Derived.Test.YtiapbmgpjloafaaGmb
namespace Go.Proofs.Ytiapbmgpjloafaa
open Go Go.RowKit

/-- block b holds a position of the taking game -/
structure BoxT (w : World) (b : Nat) (W : Int) (A : Option Addr) (n c : Nat) (zs : List Int) (S : Nat) : Prop where
  c0 : w.cell? ⟨b, 0, none⟩ = some (.int .i64 W)
  c1 : w.cell? ⟨b, 1, none⟩ = some (.slice A n c)
  c2 : w.cell? ⟨b, 2, none⟩ = some (.int .i64 (S : Int))
  ri : RI w A n zs
  lt : b < w.heap.size
section
variable {w wi wj : World} {b : Nat} {W : Int} {A : Option Addr} {n c : Nat} {zs : List Int} {S : Nat}
theorem btStep (h : Hid (BoxT wi b W A n c zs S)) (hb : Below wi.heap.size wi wj) : Hid (BoxT wj b W A n c zs S) :=
  ⟨(hb.cell (p := ⟨b, 0, none⟩) h.out.lt).trans h.out.c0, (hb.cell (p := ⟨b, 1, none⟩) h.out.lt).trans h.out.c1, (hb.cell (p := ⟨b, 2, none⟩) h.out.lt).trans h.out.c2, h.out.ri.below hb (Nat.le_refl _), Nat.lt_of_lt_of_le h.out.lt hb.size⟩
theorem btDrew (h : Hid (BoxT wi b W A n c zs S)) : Hid (BoxT wi.drew b W A n c zs S) := ⟨h.out.c0, h.out.c1, h.out.c2, h.out.ri, h.out.lt⟩
theorem btAlloc (h : Hid (BoxT wi b W A n c zs S)) (o : Obj) : Hid (BoxT (wi.alloc o) b W A n c zs S) := btStep h ((Below.refl _ _).alloc (Nat.le_refl _) o)
theorem btNew (t : TypeId) (h : RI wi A n zs) : Hid (BoxT (wi.alloc (.cells #[.int .i64 W, .slice A n c, .int .i64 (S : Int)] t)) wi.heap.size W A n c zs S) :=
  ⟨by simp, by simp, by simp, h.alloc _, by simp⟩
theorem bt_ap {wr w2 : World} (h : BoxT wr b W A n c zs S) (hb : Below (b + 1) wr w2) (hr : RI w2 A n zs) : BoxT w2 b W A n c zs S :=
  ⟨(hb.cell (p := ⟨b, 0, none⟩) (by simp)).trans h.c0, (hb.cell (p := ⟨b, 1, none⟩) (by simp)).trans h.c1, (hb.cell (p := ⟨b, 2, none⟩) (by simp)).trans h.c2, hr, Nat.lt_of_lt_of_le h.lt hb.size⟩
end

set_option maxRecDepth 100000 in
set_option maxHeartbeats 1000000 in
theorem ixIn_any (S n : Nat) (w : World) (hn : n ≤ 60) (hS : S < 4096) :
    Calls Try.prog 89 #[.int .i64 (S : Int), .int .i64 (n : Int)] w (FreshI w (indK S n).length (indK S n)) := by
  go_enter Try.func89, Try.ntmps89
  go_wp2
  go_loopw [5, 6, 8] (fun v _ i wr => ∃ (k : Nat) (A1 : Option Addr) (c1 : Nat), k ≤ n ∧ i = .int .i64 (k : Int) ∧ v = .slice A1 (indK S k).length c1 ∧ OI wr w.heap.size A1 (indK S k).length c1 (indK S k) ∧ Below w.heap.size w wr) (fun _ _ i _ => n - (intOf i).toNat)
  case atStart => exact ⟨0, none, 0, Nat.zero_le _, rfl, rfl, OI.none_ _ _, Below.refl _ _⟩
  case round =>
    obtain ⟨k, A1, c1, hk, rfl, rfl, ho, hb⟩ := hrel
    have HO := Lib.hid ho
    have HB := Lib.hid hb
    have hlk := indK_le S k
    have hbs := hb.size
    clear ho hb
    by_cases hlt : k < n
    · have hkk : IntKind.i64.wrap ((k : Int) + 1) = (k : Int) + 1 := IntWalk.i64_in _ (by omega)
      rcases hq : S.testBit k with _ | _
      · have hbit := and_no hq
        have HL := Lib.hid (indK_no hq)
        clear hq
        go_wp2
        go_roundw
        case rel => exact ⟨k + 1, A1, c1, by omega, rfl, by rw [HL.out], by rw [HL.out]; exact HO.out, HB.out⟩
        case measure => simp [intOf]; omega
      · have hbit := and_yes hq
        have HL := Lib.hid (indK_yes hq)
        have HLL := Lib.hid (show (indK S (k + 1)).length = (indK S k).length + 1 by rw [indK_yes hq]; simp)
        clear hq
        go_wp2_with (at_builtin; refine wpList_append_int _ rfl _ _ rfl w.heap.size A1 (indK S k).length c1 _ (k : Int) wr.heap.size rfl rfl (HO.out.alloc _) (by simp) (by omega) (by simp; omega) ?_; intro A2 c2 w2 ho2 hg2)
        go_roundw
        case rel =>
          exact ⟨k + 1, A2, c2, by omega, by go_num, by rw [HLL.out], by rw [HLL.out, HL.out]; exact ho2, HB.out.trans (below_ap (K := w.heap.size) HO.out hg2 (Nat.le_refl _) hbs)⟩
        case measure => simp [intOf]; omega
    · obtain rfl : k = n := by omega
      go_wp2
      go_ret
      exact ⟨A1, c1, rfl, HO.out, HB.out⟩

set_option maxRecDepth 100000 in
set_option maxHeartbeats 1000000 in
theorem indices_any (W : Int) (A : Option Addr) (n c : Nat) (zs : List Int) (S : Nat) (w : World) (h : RI w A n zs) (hn : n ≤ 60) (hS : S < 4096) :
    Calls Try.prog 88 #[.agg #[.int .i64 W, .slice A n c, .int .i64 (S : Int)]] w (FreshI w (indK S n).length (indK S n)) := by
  have HA := btNew (W := W) (c := c) (S := S) 70 h
  have HB := belAlloc (belRefl (w := w)) (.cells #[.int .i64 W, .slice A n c, .int .i64 (S : Int)] 70)
  have HIX := Lib.hid (fun w2 => ixIn_any S n w2 hn hS)
  clear h
  go_enter Try.func88, Try.ntmps88
  have a0 := HA.out.c0; have a1 := HA.out.c1; have a2 := HA.out.c2; have az := HA.out.lt
  go_wp2_with fail
  refine (HIX.out _).mono ?_
  rintro e w2 ⟨A2, c2, rfl, o2, hb⟩
  have z1 := HB.out.size
  have HO := Lib.hid (o2.mono z1)
  replace HB := belStep HB hb
  clear hb o2
  go_wp2
  go_ret
  exact ⟨A2, c2, rfl, HO.out, HB.out⟩
end Go.Proofs.Ytiapbmgpjloafaa

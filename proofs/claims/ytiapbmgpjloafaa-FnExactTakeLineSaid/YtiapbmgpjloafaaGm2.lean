/- Games of rungs: the model's questions, whether everybody is at home, which rungs are left, and whether there is a taking game. -/
import Derived.Test.YtiapbmgpjloafaaGm1
import Derived.Deep.RegionHeld3
namespace Go.Proofs.Ytiapbmgpjloafaa
open Go Go.RowKit

set_option maxRecDepth 100000 in
set_option maxHeartbeats 1000000 in
theorem gaHome_any (N : Nat) (A : Option Addr) (n c : Nat) (zs : List Int) (w : World) (h : RI w A n zs) (hn : n ≤ 1048576) (hl : lad (N : Int) zs = true) :
    Calls Try.prog 52 #[.int .i64 (N : Int), .slice A n c] w (RetB (homeB zs N) w) := by
  have hN := (lad_iff.1 hl).1
  have HL := Lib.hid (fun w2 (r : RI w2 A n zs) => laResult_any N A n c zs w2 r hn hl)
  clear hl
  go_enter Try.func52, Try.ntmps52
  go_wp2_with fail
  refine (HL.out _ h).mono ?_
  rintro e w1 ⟨A1, c1, rfl, o1, hb1⟩
  have HR := Lib.hid o1.ri
  have HB1 := Lib.hid hb1
  have h1 := o1.ri
  clear o1 hb1 h HL
  go_wp2
  go_loopw [11] (fun i wr => ∃ k : Nat, k ≤ N ∧ i = .int .i64 k ∧ (∀ j : Nat, j < k → endOf zs (j : Int) = (j : Int)) ∧ Below w1.heap.size w1 wr) (fun i _ => N - (intOf i).toNat)
  case atStart => exact ⟨0, Nat.zero_le _, rfl, fun j hj => absurd hj (by omega), Below.refl _ _⟩
  case round =>
    obtain ⟨k, hk, rfl, hall, hb⟩ := hrel
    have HB := Lib.hid hb
    have HALL := Lib.hid hall
    by_cases hlt : k < N
    · obtain ⟨b, off, rfl, hbw, hc⟩ := h1.cell hlt
      have hck : wr.cell? ⟨b, off + k, none⟩ = some (.int .i64 (endOf zs (k : Int))) := (hb.cell (p := ⟨b, off + k, none⟩) hbw).trans (by rw [hc k hlt, gi_res _ _ _ hlt])
      clear hb hc hall h1
      by_cases he : (k : Int) = endOf zs (k : Int)
      · have e1 : ((k : Int) != endOf zs (k : Int)) = false := by rw [← he]; simp
        have HE := Lib.hid he
        clear he
        go_wp2
        go_roundw
        case rel =>
          refine ⟨k + 1, by omega, by go_num, fun j hj => ?_, HB.out⟩
          by_cases e : j = k
          · subst e; exact HE.out.symm
          · exact HALL.out j (by omega)
        case measure => simp [intOf]; omega
      · have e1 : ((k : Int) != endOf zs (k : Int)) = true := by rw [bne_iff_ne]; exact he
        have HE := Lib.hid (homeB_no (zs := zs) hlt (fun e => he e.symm))
        clear he
        go_wp2
        go_ret
        exact ⟨ret_b HE.out.symm, HB1.out.trans (HB.out.mono HB1.out.size)⟩
    · obtain rfl : k = N := by omega
      have HE := Lib.hid (homeB_iff.2 (fun i hi => HALL.out i hi))
      clear hb hall h1
      go_wp2
      go_ret
      exact ⟨ret_b HE.out.symm, HB1.out.trans (HB.out.mono HB1.out.size)⟩

theorem shr_bit (S k : Nat) : ((S : Int) / 2 ^ k).tmod 2 = ((S / 2 ^ k % 2 : Nat) : Int) := by
  have h : (2 : Int) ^ k = ((2 ^ k : Nat) : Int) := by simp
  rw [h, ← Int.natCast_ediv]
  exact (Int.ofNat_tmod _ _).symm
theorem bit_yes {S k : Nat} (h : S.testBit k = true) : S / 2 ^ k % 2 = 1 := by rw [Nat.testBit_eq_decide_div_mod_eq] at h; exact of_decide_eq_true h
theorem bit_no {S k : Nat} (h : S.testBit k = false) : S / 2 ^ k % 2 = 0 := by
  rw [Nat.testBit_eq_decide_div_mod_eq] at h
  have := of_decide_eq_false h
  omega
theorem shr_yes {S k : Nat} (h : S.testBit k = true) : (((S : Int) / 2 ^ k).tmod 2 == 1) = true := by rw [shr_bit, bit_yes h]; rfl
theorem shr_no {S k : Nat} (h : S.testBit k = false) : (((S : Int) / 2 ^ k).tmod 2 == 1) = false := by rw [shr_bit, bit_no h]; rfl
theorem below_ap {wr w2 : World} {K B : Nat} {A : Option Addr} {n c : Nat} {zs : List Int} {o : Obj} (ho : OI wr B A n c zs) (hg : (wr.alloc o).grownBy w2 (blk A)) (hK : K ≤ B) (hs : K ≤ wr.heap.size) : Below K wr w2 :=
  ((Below.refl K wr).alloc hs o).trans (ofMark (ho.alloc o) hg hK (by simp; omega))
theorem box_ap {wr w2 : World} {b : Nat} {W : Int} {A : Option Addr} {n c : Nat} {zs : List Int} (h : Box wr b W A n c zs) (hb : Below (b + 1) wr w2) (hr : RI w2 A n zs) : Box w2 b W A n c zs :=
  ⟨(hb.cell (p := ⟨b, 0, none⟩) (by simp)).trans h.c0, (hb.cell (p := ⟨b, 1, none⟩) (by simp)).trans h.c1, hr, Nat.lt_of_lt_of_le h.lt hb.size⟩

set_option maxRecDepth 100000 in
set_option maxHeartbeats 1000000 in
theorem gaLeft_any (W : Int) (A : Option Addr) (n c : Nat) (zs : List Int) (S : Nat) (w : World) (h : RI w A n zs) (hn : n ≤ 60) (hS : S < 4096) :
    Calls Try.prog 53 #[.agg #[.int .i64 W, .slice A n c], .int .i64 (S : Int)] w (FreshI w (leftL zs S).length (leftL zs S)) := by
  have hz := h.1
  have HZ := Lib.hid hz
  have HH := Lib.hid (fun w2 (r : Below w.heap.size w w2) => h.below r (Nat.le_refl _))
  have HA := boxNew (W := W) (c := c) 28 h
  have HB := belAlloc (belRefl (w := w)) (.cells #[.int .i64 W, .slice A n c] 28)
  clear h hz
  go_enter Try.func53, Try.ntmps53
  have a0 := HA.out.c0; have a1 := HA.out.c1; have az := HA.out.lt
  go_wp2
  go_loopw [5, 11] (fun v i wr => ∃ (k : Nat) (A1 : Option Addr) (c1 : Nat), k ≤ n ∧ i = .int .i64 k ∧ v = .slice A1 (leftK zs S k).length c1 ∧ OI wr (w.heap.size + 1) A1 (leftK zs S k).length c1 (leftK zs S k) ∧ Box wr w.heap.size W A n c zs ∧ Below w.heap.size w wr) (fun _ i _ => n - (intOf i).toNat)
  case atStart => exact ⟨0, none, 0, Nat.zero_le _, rfl, rfl, OI.none_ _ _, HA.out, HB.out⟩
  case round =>
    obtain ⟨k, A1, c1, hk, rfl, rfl, ho, hA, hb⟩ := hrel
    have HO := Lib.hid ho
    have HAr := Lib.hid hA
    have HBr := Lib.hid hb
    have zr := hA.lt
    have hlk := leftK_len zs S k
    by_cases hlt : k < n
    · obtain ⟨b, off, rfl, hbw, hc⟩ := hA.ri.cell hlt
      have hck := hc k hlt
      have hkk : IntKind.i64.wrap ((k : Int) + 1) = (k : Int) + 1 := IntWalk.i64_in _ (by omega)
      clear ho hA hb hc
      rcases hq : S.testBit k with _ | _
      · have hbit := shr_no hq
        have HL := Lib.hid (leftK_no (zs := zs) hq)
        clear hq
        go_wp2
        go_roundw
        case rel => exact ⟨k + 1, A1, c1, by omega, rfl, by rw [HL.out], by rw [HL.out]; exact HO.out, HAr.out, HBr.out⟩
        case measure => simp [intOf]; omega
      · have hbit := shr_yes hq
        have HL := Lib.hid (leftK_yes (zs := zs) hq)
        have HLL := Lib.hid (show (leftK zs S (k + 1)).length = (leftK zs S k).length + 1 by rw [leftK_yes hq]; simp)
        clear hq
        go_wp2_with (at_builtin; refine wpList_append_int _ rfl _ _ rfl (w.heap.size + 1) A1 (leftK zs S k).length c1 _ (gi zs k) wr.heap.size rfl rfl (HO.out.alloc _) (by simp) (by omega) (by simp; omega) ?_; intro A2 c2 w2 ho2 hg2; have HBK := Lib.hid (below_ap (K := w.heap.size + 1) HO.out hg2 (Nat.le_refl _) (by omega)); clear hg2)
        go_roundw
        case rel =>
          have hb2 : Below w.heap.size w w2 := HBr.out.trans (HBK.out.mono (by omega))
          exact ⟨k + 1, A2, c2, by omega, by go_num, by rw [HLL.out], by rw [HLL.out, HL.out]; exact ho2, box_ap HAr.out HBK.out (HH.out _ hb2), hb2⟩
        case measure => simp [intOf]; omega
    · obtain rfl : k = n := by omega
      have HL := Lib.hid (show leftL zs S = leftK zs S k by unfold leftL; rw [HZ.out])
      clear ho hA hb
      go_wp2
      go_ret
      refine ⟨A1, c1, by rw [HL.out]; rfl, ?_, HBr.out⟩
      rw [HL.out]; exact HO.out.mono (by omega)

set_option maxRecDepth 100000 in
set_option maxHeartbeats 1000000 in
theorem gaTaking_any (W : Int) (A : Option Addr) (n c : Nat) (zs : List Int) (w : World) (h : RI w A n zs) (hn : n ≤ 1048576) :
    Calls Try.prog 32 #[.agg #[.int .i64 W, .slice A n c]] w (RetB (tkB W zs) w) := by
  have hlz := h.1
  have HA := boxNew (W := W) (c := c) 28 h
  have HB := belAlloc (belRefl (w := w)) (.cells #[.int .i64 W, .slice A n c] 28)
  have HG : Hid (∀ w, RI w A n zs → Calls Try.prog 51 #[.agg #[.int .i64 W, .slice A n c]] w (RetB (lad W zs) w)) := fun w h => laGood_any W A n c zs w h hn
  rcases hq : lad W zs with _ | _
  · rw [tkB_no1 hq]
    rw [hq] at HG
    clear hq h
    go_enter Try.func32, Try.ntmps32
    go_wp2_with fail
    have a0 := HA.out.c0; have a1 := HA.out.c1; have az := HA.out.lt
    refine (HG.out _ HA.out.ri).mono ?_
    rintro e w1 ⟨rfl, hb⟩
    replace HB := belStep HB hb
    clear hb
    go_wp2
    go_ret
    exact ⟨rfl, HB.out⟩
  · rw [hq] at HG
    have hW := (lad_iff.1 hq).1
    obtain ⟨N, rfl⟩ : ∃ N : Nat, W = (N : Int) := ⟨W.toNat, by omega⟩
    have HH := Lib.hid (fun w2 (r : RI w2 A n zs) => gaHome_any N A n c zs w2 r hn hq)
    by_cases h12 : zs.length ≤ 12
    · rw [tkB_yes hq h12, Int.toNat_natCast]
      have hn12 : (n : Int) ≤ 12 := by omega
      obtain ⟨q, hqq⟩ : ∃ q, q = homeB zs N := ⟨_, rfl⟩
      rw [← hqq] at HH ⊢
      clear hq h hqq hW hlz h12
      go_enter Try.func32, Try.ntmps32
      go_wp2_with fail
      have a0 := HA.out.c0; have a1 := HA.out.c1; have az := HA.out.lt
      refine (HG.out _ HA.out.ri).mono ?_
      rintro e w1 ⟨rfl, hb⟩
      replace HA := boxStep HA hb; replace HB := belStep HB hb; replace a0 := HA.out.c0; replace a1 := HA.out.c1; replace az := HA.out.lt; clear hb
      go_wp2_with fail
      refine (HH.out _ HA.out.ri).mono ?_
      rintro e w2 ⟨rfl, hb⟩
      replace HB := belStep HB hb
      clear hb HA a0 a1
      cases q
      all_goals
        go_wp2
        go_ret
        exact ⟨rfl, HB.out⟩
    · rw [tkB_no2 h12]
      have hn12 : ¬ (n : Int) ≤ 12 := by omega
      clear hq h hW hlz h12
      go_enter Try.func32, Try.ntmps32
      go_wp2_with fail
      have a0 := HA.out.c0; have a1 := HA.out.c1; have az := HA.out.lt
      refine (HG.out _ HA.out.ri).mono ?_
      rintro e w1 ⟨rfl, hb⟩
      replace HA := boxStep HA hb; replace HB := belStep HB hb; replace a0 := HA.out.c0; replace a1 := HA.out.c1; replace az := HA.out.lt; clear hb
      go_wp2
      go_ret
      exact ⟨rfl, HB.out⟩
end Go.Proofs.Ytiapbmgpjloafaa

/- BubbleLadder, of the program. -/
import Derived.Test.YtamkkmjldkhicaaBu0
namespace Go.Proofs.Ytamkkmjldkhicaa
open Go Go.RowKit

set_option maxRecDepth 100000 in
set_option maxHeartbeats 1000000 in
theorem iBubbleLadder_any (x : Int) (w : World) (_lo : -9223372036854775808 ≤ x) (_hi : x ≤ 9223372036854775807) :
    Calls Try.prog 29 #[.int .i64 x] w (FreshLB w (ifW (inB x 2 8) x) (bubL x).length (bubL x) (inB x 2 8)) := by
  have HB := belAlloc (belRefl (w := w)) (.cells #[.int .i64 0, .slice none 0 0] 28)
  have HC := cellNew w (.int .i64 0) (.slice none 0 0) 28
  unfold bubL
  by_cases hx : 2 ≤ x ∧ x ≤ 8
  · have hq : inB x 2 8 = true := inB_true ⟨hx.1, hx.2⟩
    rw [hq, ifW_yes, ifL_yes]
    obtain ⟨n, rfl⟩ : ∃ n : Nat, x = (n : Int) := ⟨x.toNat, by omega⟩
    rw [Int.toNat_natCast]
    have h2 : 2 ≤ n := by omega
    have h8 : n ≤ 8 := by omega
    have HL := Lib.hid (bubK_lad h2 h8)
    have hlen := bubK_len n h8
    clear hq hx
    go_enter Try.func29, Try.ntmps29
    go_wp2_with fail
    obtain ⟨w1, hw1⟩ : ∃ w1, w1 = w.alloc (.cells #[.int .i64 0, .slice none 0 0] 28) := ⟨_, rfl⟩
    rw [← hw1] at HB HC ⊢
    have HS : Hid (w.heap.size + 1 = w1.heap.size) := by show w.heap.size + 1 = w1.heap.size; rw [hw1]; simp
    clear hw1
    go_loopw [4, 5] (fun s4 i wr => ∃ (j : Nat) (A : Option Addr) (c : Nat), j ≤ n - 1 ∧ i = .int .i64 ((n - 1 - j : Nat) : Int) ∧ s4 = .slice A (bubK n j).length c ∧ OI wr w1.heap.size A (bubK n j).length c (bubK n j) ∧ Below w1.heap.size w1 wr) (fun _ i _ => (intOf i).toNat)
    case atStart => exact ⟨0, none, 0, Nat.zero_le _, by go_num, rfl, OI.none_ _ _, Below.refl _ _⟩
    case round =>
      obtain ⟨j, A, c, hj, rfl, rfl, ho, hb⟩ := hrel
      have HO := Lib.hid ho
      have HBr := Lib.hid hb
      have hjl := hlen j
      obtain ⟨cnt, hcnt⟩ : ∃ cnt, cnt = n - 1 - j := ⟨_, rfl⟩
      rw [← hcnt]
      have HCN := Lib.hid hcnt
      have hcn : cnt + j = n - 1 := by omega
      clear ho hb hcnt
      by_cases hlt : 0 < cnt
      · go_wp2
        go_loopw [4, 6, 21] (fun s4 _ i wi => ∃ (k : Nat) (A2 : Option Addr) (c2 : Nat), k ≤ cnt ∧ i = .int .i64 k ∧ s4 = .slice A2 (bubK n j ++ upsN k).length c2 ∧ OI wi w1.heap.size A2 (bubK n j ++ upsN k).length c2 (bubK n j ++ upsN k) ∧ Below w1.heap.size w1 wi) (fun _ _ i _ => cnt - (intOf i).toNat)
        case atStart => exact ⟨0, A, c, Nat.zero_le _, rfl, by simp [upsN], by simpa [upsN] using HO.out, HBr.out⟩
        case round =>
          obtain ⟨k, A2, c2, hk, rfl, rfl, ho2, hb2⟩ := hrel
          have HO2 := Lib.hid ho2
          have HB2 := Lib.hid hb2
          have e0 : (bubK n j ++ upsN (k + 1)) = (bubK n j ++ upsN k) ++ [(k : Int)] := by rw [upsN_succ, List.append_assoc]
          have E0 := Lib.hid e0
          have hz2 := hb2.size
          have hol : (bubK n j ++ upsN k).length ≤ 100 := by rw [List.length_append, upsN_len]; omega
          obtain ⟨ys, hys⟩ : ∃ ys, ys = bubK n j ++ upsN k := ⟨_, rfl⟩
          rw [← hys] at HO2 E0 hol ⊢
          clear ho2 hb2 e0
          by_cases hlk : k < cnt
          · clear hys
            go_wp2_with (at_builtin; refine wpList_append_int _ rfl _ _ rfl w1.heap.size A2 ys.length c2 _ (k : Int) wr.heap.size rfl rfl (HO2.out.alloc _) (by simp) (by omega) (by simp; omega) ?_; intro A3 c3 w3 ho3 hg3; have HO3 := Lib.hid ho3; have HB3 := belGrown (belAlloc HB2 _) (HO2.out.alloc _) hg3 (Nat.le_refl _); clear ho3 hg3)
            go_roundw
            case rel => exact ⟨k + 1, A3, c3, hlk, by go_num, by rw [E0.out]; simp, by rw [E0.out]; simpa using HO3.out, HB3.out⟩
            case measure => simp [intOf]; omega
          · obtain rfl : k = cnt := by omega
            have e1 : bubK n (j + 1) = ys := by rw [hys, HCN.out]; rfl
            clear hys
            go_wp2
            go_roundw
            case rel => exact ⟨j + 1, A2, c2, by omega, by rw [show n - 1 - (j + 1) = k - 1 by omega]; go_num, by rw [e1], by rw [e1]; exact HO2.out, HB2.out⟩
            case measure => simp [intOf]; omega
      · obtain rfl : j = n - 1 := by omega
        obtain rfl : cnt = 0 := by omega
        have HZ := Lib.hid HBr.out.size
        replace HB := belStep HB HBr.out
        replace HC := cellStep HC HBr.out
        obtain ⟨ys, hys⟩ : ∃ ys, ys = bubK n (n - 1) := ⟨_, rfl⟩
        rw [← hys] at HL HO hjl ⊢
        have HYS := Lib.hid hys
        clear hys
        go_wp2_with fail
        refine (ladderOf_one (n : Int) A ys.length c ys _ HO.out.ri (by omega) HL.out).mono ?_
        rintro e w2 ⟨A2, c2, rfl, o2, hb⟩
        replace HB := belStep (belAlloc HB (.cells #[.slice A ys.length c] 22)) hb
        replace HC := cellStep (cellAlloc HC (.cells #[.slice A ys.length c] 22)) hb
        have HO2 : Hid (OI w2 (w.heap.size + 1) A2 ys.length c2 ys) := Lib.hid (o2.mono (by have := HZ.out; have := HS.out; simp; omega))
        have k0 := HC.out.c0; have k1 := HC.out.c1; have f0 := HC.out.f0; have f1 := HC.out.f1; have hz := HC.out.lt
        clear hb o2
        go_wp2
        refine bodyPost_ret (v := .tuple #[.agg #[.int .i64 n, .slice A2 ys.length c2], .bool true]) (by simp [results, Try.results29, go_sem, k0, k1]) rfl ?_
        rw [← HYS.out]
        exact ⟨A2, c2, rfl, ((HO2.out.setBelow (by simp <;> omega) _).setBelow (by simp <;> omega) _).mono (by omega), (HB.out.setCell (by simp) _).setCell (by simp) _⟩
  · have HW := Lib.hid (inB_false (n := x) (lo := 2) (hi := 8) hx)
    rw [HW.out, ifW_no, ifL_no]
    have k0 := HC.out.c0; have k1 := HC.out.c1; have f0 := HC.out.f0; have f1 := HC.out.f1; have hz := HC.out.lt
    by_cases h1 : x < 2
    · go_enter Try.func29, Try.ntmps29
      go_wp2
      exact bodyPost_ret (v := .tuple #[.agg #[.int .i64 0, .slice none 0 0], .bool false]) (by simp [results, Try.results29, go_sem, k0, k1]) rfl ⟨none, 0, rfl, OI.none_ _ _, (by repeat (first | exact Below.refl _ _ | exact HB.out | refine Below.setCell ?_ (by simp <;> omega) _ | refine Below.alloc ?_ (by simp <;> omega) _ | refine below_drewN ?_ _))⟩
    · have h3 : 8 < x := by omega
      go_enter Try.func29, Try.ntmps29
      go_wp2
      exact bodyPost_ret (v := .tuple #[.agg #[.int .i64 0, .slice none 0 0], .bool false]) (by simp [results, Try.results29, go_sem, k0, k1]) rfl ⟨none, 0, rfl, OI.none_ _ _, (by repeat (first | exact Below.refl _ _ | exact HB.out | refine Below.setCell ?_ (by simp <;> omega) _ | refine Below.alloc ?_ (by simp <;> omega) _ | refine below_drewN ?_ _))⟩
end Go.Proofs.Ytamkkmjldkhicaa

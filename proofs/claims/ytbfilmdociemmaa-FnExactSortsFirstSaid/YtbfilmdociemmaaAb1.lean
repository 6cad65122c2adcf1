/- Lists made number by number, by the program, with the closure allBits$1. -/
import Derived.Test.YtbfilmdociemmaaAf1
import Derived.Test.YtbfilmdociemmaaOii
import Derived.Test.YtbfilmdociemmaaOii2
import Derived.Test.YtbfilmdociemmaaMgC
import Derived.Test.YtbfilmdociemmaaSo1
namespace Go.Proofs.Ytbfilmdociemmaa
open Go Go.RowKit

set_option maxRecDepth 100000 in
set_option maxHeartbeats 8000000 in
theorem allListsB_any (n ch : Nat) (fits : List Int → Nat → Bool) (w : World) (hn : n ≤ 8) (hch : ch ≤ 8) (hsm : ∀ k, k ≤ n → (allF fits ch k).length ≤ 50000)
    (hcl : Hid (∀ (a : Option Addr) (k d : Nat) (q : List Int) (x : Nat) (w2 : World), RI w2 a k q → k ≤ 8 → x ≤ 8 → Calls Try.prog 68 #[.slice a k d, .int .i64 (x : Int)] w2 (RetB (fits q x) w2))) :
    Calls Try.prog 67 #[.int .i64 (n : Int), .int .i64 (ch : Int), .func (.func 68) #[] #[]] w (FreshSS w (allF fits ch n)) := by
  go_enter Try.func67, Try.ntmps67
  go_wp2
  have HO0 := Lib.hid (OII.lit0 w w.heap.size (Nat.le_refl _))
  have HB0 : Hid (Below w.heap.size w (w.alloc (.cells #[.slice none 0 0] 22))) := Lib.hid ((Below.refl _ w).alloc (Nat.le_refl _) _)
  obtain ⟨w0, hw0⟩ : ∃ w0, w0 = w.alloc (.cells #[.slice none 0 0] 22) := ⟨_, rfl⟩
  rw [← hw0] at HO0 HB0 ⊢
  clear hw0
  go_loopw [7, 14] (fun s7 s14 wr => ∃ (k : Nat) (A : Option Addr) (c M : Nat) (S : List Sl), k ≤ n ∧ s14 = .int .i64 (k : Int) ∧ s7 = .slice A (allF fits ch k).length c ∧ OII wr w.heap.size M A (allF fits ch k).length c (allF fits ch k) S ∧ Below w.heap.size w wr) (fun _ i _ => n - (intOf i).toNat)
  case atStart => exact ⟨0, _, 1, _, _, Nat.zero_le _, rfl, rfl, HO0.out, HB0.out⟩
  case round =>
    obtain ⟨k, A, c, M, S, hk, rfl, rfl, ho, hb⟩ := hrel
    have HO := Lib.hid ho
    have HB := Lib.hid hb
    have HLL := Lib.hid (hsm k hk)
    have HRW : Hid (∀ j, j < (allF fits ch k).length → (gz (allF fits ch k) j).length = k) := fun j hj => allF_row hj
    have HNX : Hid (allF fits ch (k + 1) = lvlF fits ch (allF fits ch k) (allF fits ch k).length) := Lib.hid rfl
    have HKK : Hid (k = n → allF fits ch k = allF fits ch n) := fun e => by rw [e]
    obtain ⟨L, hL⟩ : ∃ L, L = allF fits ch k := ⟨_, rfl⟩
    rw [← hL] at HO HLL HRW HNX HKK ho ⊢
    obtain ⟨wo, hwo⟩ : ∃ wo, wo = wr := ⟨_, rfl⟩
    subst hwo
    obtain ⟨K, hK⟩ : ∃ K, K = wo.heap.size := ⟨_, rfl⟩
    have HKS : Hid (K ≤ wo.heap.size) := Lib.hid (Nat.le_of_eq hK)
    have HRB : Hid (∀ j, j < L.length → ∃ g a d, A = some ⟨g, 0, none⟩ ∧ g < K ∧ wo.cell? ⟨g, j, none⟩ = some (.slice a k d) ∧ RB wo K a k (gz L j)) := fun j hj => by
      obtain ⟨g', a, m, d, e, hg, _, _, h1, h2⟩ := ho.row hj
      obtain rfl : k = m := by rw [← h2.1]; exact (HRW.out j hj).symm
      exact ⟨g', a, d, e, by rw [hK]; exact hg, h1, by rw [hK]; exact RB.of_ri h2.ri⟩
    have HLZ : Hid (w.heap.size ≤ K) := Lib.hid (by rw [hK]; exact hb.size)
    have hk8 : k ≤ 8 := by omega
    clear ho hb hL hK hsm
    by_cases hlt : k < n
    · go_wp2
      go_loopw [8, 18] (fun s8 i wi => ∃ (j : Nat) (A1 : Option Addr) (c1 M1 : Nat) (S1 : List Sl), j ≤ L.length ∧ i = .int .i64 (j : Int) ∧ s8 = .slice A1 (lvlF fits ch L j).length c1 ∧ OII wi K M1 A1 (lvlF fits ch L j).length c1 (lvlF fits ch L j) S1 ∧ Below K wo wi) (fun _ i _ => L.length - (intOf i).toNat)
      case atStart => exact ⟨0, none, 0, _, [], Nat.zero_le _, rfl, rfl, OII.none_ _ _, Below.refl _ _⟩
      case round =>
        obtain ⟨j, A1, c1, M1, S1, hj, rfl, rfl, ho1, hb1⟩ := hrel
        obtain ⟨wi, hwi⟩ : ∃ wi, wi = wr := ⟨_, rfl⟩
        subst hwi
        have HO1 := Lib.hid ho1
        have HB1 := Lib.hid hb1
        clear ho1 hb1
        by_cases hlj : j < L.length
        · obtain ⟨g, a, d, rfl, hgK, hcj, hra⟩ := HRB.out j hlj
          have hcj := (HB1.out.cell (p := ⟨g, j, none⟩) hgK).trans hcj
          obtain ⟨q, hq⟩ : ∃ q, q = gz L j := ⟨_, rfl⟩
          rw [← hq] at hra
          have HA := Lib.hid hra
          have HLV : Hid (lvlF fits ch L (j + 1) = lvlF fits ch L j ++ extF fits q ch) := by show _ = _; rw [hq]; rfl
          have HSM : Hid ((lvlF fits ch L j).length ≤ 400000) := Lib.hid (by
            have h1 := lvlF_len (fits := fits) (c := ch) L j
            have h2 : j * ch ≤ 50000 * 8 := Nat.mul_le_mul (by have := HLL.out; omega) hch
            omega)
          have HJL : Hid (j + 1 ≤ L.length) := Lib.hid hlj
          clear hq hra
          go_wp2
          go_loopw [8, 23] (fun s8 s23 wq => ∃ (x : Nat) (A2 : Option Addr) (c2 : Nat) (S2 : List Sl) (L2 : List (List Int)), x ≤ ch ∧ L2 = lvlF fits ch L j ++ extF fits q x ∧ s23 = .int .i64 (x : Int) ∧ s8 = .slice A2 L2.length c2 ∧ OII wq K wq.heap.size A2 L2.length c2 L2 S2 ∧ Below K wo wq) (fun _ s23 _ => ch - (intOf s23).toNat)
          case atStart => exact ⟨0, A1, c1, S1, lvlF fits ch L j, Nat.zero_le _, by simp [extF], rfl, rfl, HO1.out.top, HB1.out⟩
          case round =>
            obtain ⟨x, A2, c2, S2, L2, hx, hL2, rfl, rfl, ho2, hb2⟩ := hrel
            have HO2 := Lib.hid ho2
            have HB2 := Lib.hid hb2
            have HL2 := Lib.hid hL2
            have hl2 : L2.length ≤ 500000 := by rw [hL2, List.length_append]; have := HSM.out; have := extF_len (fits := fits) q x; omega
            have HAq : Hid (RI wr a k q) := (HA.out.step HB2.out).ri
            clear ho2 hb2 hL2
            by_cases hxn : x < ch
            · obtain ⟨f, hf⟩ : ∃ f, f = fits q x := ⟨_, rfl⟩
              have HF := Lib.hid hf
              have HCL := Lib.hid (fun w2 (r : RI w2 a k q) => hcl.out a k d q x w2 r hk8 (by omega))
              rw [← hf] at HCL
              clear hf
              go_wp2_with fail
              refine (HCL.out _ HAq.out).mono ?_
              rintro e w5 ⟨rfl, hb5⟩
              have HAq5 := riStep HAq hb5
              have HO25 : Hid (OII w5 K w5.heap.size A2 L2.length c2 L2 S2) := Lib.hid (HO2.out.below hb5).top
              have HB5 : Hid (Below K wo w5) := Lib.hid (HB2.out.trans (hb5.mono (Nat.le_trans HKS.out HB2.out.size)))
              have HKW := Lib.hid (Nat.le_trans HKS.out HB5.out.size)
              have hal : w5.heap.size ≤ w5.heap.size := Nat.le_refl _
              clear hb5 hal HAq HO2 HB2
              cases f
              · go_wp2
                go_roundw
                case rel => exact ⟨x + 1, A2, c2, S2, L2, by omega, by rw [HL2.out, extF_no HF.out.symm], by go_num, rfl, HO25.out, HB5.out⟩
                case measure => simp [intOf]; omega
              · go_wp2_with fail
                have HP := Lib.hid (parts_two w5 a k d q (x : Int) HAq5.out)
                have HO26 := Lib.hid ((HO25.out.alloc (.cells #[.int .i64 (x : Int)] 3)).alloc (.cells #[.slice a k d, .slice (some ⟨w5.heap.size, 0, none⟩) 1 1] 22))
                have HB6 := Lib.hid ((HB5.out.alloc HKW.out (.cells #[.int .i64 (x : Int)] 3)).alloc (by have := HKW.out; simp; omega) (.cells #[.slice a k d, .slice (some ⟨w5.heap.size, 0, none⟩) 1 1] 22))
                refine (concat_any _ 2 2 _ _ _ _ _ HP.out (by omega) (by rw [cat_two]; have := HAq5.out.1; simp; omega)).mono ?_
                rw [cat_two]
                rintro e w7 ⟨A7, c7, rfl, o7, hb7⟩
                have hql : (q ++ [(x : Int)]).length = k + 1 := by have := HAq5.out.1; simp; omega
                rw [hql] at o7 ⊢
                have HO7 : Hid (OI w7 w5.heap.size A7 (k + 1) c7 (q ++ [(x : Int)])) := Lib.hid (o7.mono (by simp; omega))
                have HO27 : Hid (OII w7 K w5.heap.size A2 L2.length c2 L2 S2) := Lib.hid (HO26.out.below hb7)
                have HB7 : Hid (Below K wo w7) := Lib.hid (HB6.out.trans (hb7.mono (by have := HKW.out; simp; omega)))
                have HZ7 : Hid (w5.heap.size ≤ w7.heap.size) := Lib.hid (by have := hb7.size; simp at this; omega)
                clear o7 hb7 hql
                go_wp2_with (first
                  | (at_builtin; refine wpList_append_sl _ rfl _ _ rfl K w5.heap.size A2 L2.length c2 L2 S2 A7 (k + 1) c7 _ _ rfl rfl (HO27.out.alloc _) (HO7.out.alloc _) HKW.out (cellNewAt _ _ _ rfl) (by omega) (by have := HZ7.out; have := HKW.out; simp; omega) ?_; intro A8 c8 w8 ho8 hg8; have HO8 := Lib.hid ho8; have HB8 := Lib.hid ((HB7.out.alloc (by have := HZ7.out; have := HKW.out; omega) _).grown hg8 (by have := HZ7.out; have := HKW.out; simp; omega) (fun b hb => HO27.out.blkB b hb)); clear ho8 hg8)
                  | go_in)
                go_roundw
                case rel =>
                  exact ⟨x + 1, A8, c8, _, L2 ++ [q ++ [(x : Int)]], by omega, by rw [HL2.out, extF_yes HF.out.symm, List.append_assoc], by go_num, by simp, by simpa using HO8.out.top, HB8.out⟩
                case measure => simp [intOf]; omega
            · obtain rfl : x = ch := by omega
              have hLL := HLL.out
              go_wp2
              go_roundw
              case rel =>
                have e : L2 = lvlF fits x L (j + 1) := by rw [HL2.out, HLV.out]
                subst e
                exact ⟨j + 1, A2, c2, _, S2, HJL.out, by go_num, rfl, HO2.out, HB2.out⟩
              case measure => simp [intOf]; omega
        · obtain rfl : j = L.length := by omega
          rw [← HNX.out] at HO1 ⊢
          go_wp2
          go_roundw
          case rel => exact ⟨k + 1, A1, c1, M1, S1, hlt, by go_num, rfl, HO1.out.mono HLZ.out, HB.out.trans (HB1.out.mono HLZ.out)⟩
          case measure => simp [intOf]; omega
    · obtain rfl : k = n := by omega
      have e := HKK.out rfl
      subst e
      go_wp2
      go_ret
      exact ⟨_, c, M, S, rfl, HO.out, HB.out⟩
end Go.Proofs.Ytbfilmdociemmaa

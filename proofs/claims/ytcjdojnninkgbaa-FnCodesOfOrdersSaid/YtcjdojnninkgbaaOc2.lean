/- The contract of OrderOfCode's model. -/
import Derived.Test.YtcjdojnninkgbaaOc1
import Derived.Test.YtcjdojnninkgbaaMgE
import Derived.Test.YtcjdojnninkgbaaMgD
import Derived.Test.YtcjdojnninkgbaaMgB
import Derived.Deep.RegionHeld3
import Derived.IntWalk
namespace Go.Proofs.Ytcjdojnninkgbaa
open Go Go.RowKit

theorem RI.empty' (w : World) (A : Option Addr) : RI w A 0 [] := ⟨rfl, fun h => absurd h (by omega)⟩
theorem RI.drop9 {w : World} {b off n : Nat} {zs : List Int} (h : RI w (some ⟨b, off, none⟩) n zs) {k : Nat} (hk : k ≤ n) : RI w (some ⟨b, off + k, none⟩) (n - k) (zs.drop k) := by
  refine ⟨by rw [List.length_drop, h.1], fun h0 => ?_⟩
  obtain ⟨b', off', e, hb, hc⟩ := h.2 (by omega)
  injection e with e; injection e with e1 e2 e3
  subst e1 e2
  refine ⟨b, off + k, rfl, hb, fun j hj => ?_⟩
  rw [show off + k + j = off + (k + j) by omega, hc (k + j) (by omega), gi_lt (by rw [h.1]; omega), gi_lt (by rw [List.length_drop, h.1]; omega)]
  simp
theorem cellNew9 (w : World) (v : Value) (t : TypeId) {b : Nat} (hb : b = w.heap.size) : (w.alloc (.cells #[v] t)).cell? ⟨b, 0, none⟩ = some v := by subst hb; simp

set_option maxRecDepth 100000 in
set_option maxHeartbeats 2000000 in
theorem sOrderOfCode_any (A0 : Option Addr) (n c0 : Nat) (zs : List Int) (w : World) (h : RI w A0 n zs) (hn : n ≤ 1048576) (_hnc : n ≤ c0) :
    Calls Try.prog 16 #[.slice A0 n c0] w (FreshIB w (ocL zs).length (ocL zs) (ocB zs)) := by
  have hl := h.1
  have HA := Lib.hid h
  clear h
  rcases hq : inB (zs.length : Int) 1 8 with _ | _
  · rw [(oc_no hq).1, (oc_no hq).2]
    rw [hl] at hq
    have HIN : Hid (∀ w : World, Calls Try.prog 25 #[.int .i64 (n : Int), .int .i64 1, .int .i64 8] w (fun e w' => e = .returned (.bool false) ∧ w' = w)) := fun w => (l1In_any _ _ _ w).mono (by rw [hq]; rintro e w' ⟨rfl, h⟩; exact ⟨rfl, h.symm⟩)
    clear hq
    go_enter Try.func16, Try.ntmps16
    go_wp2_with (go_at_call 25; refine (HIN.out _).mono ?_; rintro e w9 ⟨rfl, hw9⟩; replace hw9 := hw9.symm; subst hw9)
    go_ret2
    exact ⟨none, 0, rfl, OI.none_ _ _, Below.refl _ _⟩
  · have h18 := inB_iff.1 hq
    have h1n : 1 ≤ n := by omega
    have h8 : n ≤ 8 := by omega
    have HQ := Lib.hid hq
    rw [hl] at hq
    have HI0 : Hid (∀ w : World, Calls Try.prog 25 #[.int .i64 (n : Int), .int .i64 1, .int .i64 8] w (fun e w' => e = .returned (.bool true) ∧ w' = w)) := fun w => (l1In_any _ _ _ w).mono (by rw [hq]; rintro e w' ⟨rfl, h⟩; exact ⟨rfl, h.symm⟩)
    clear hq h18
    go_enter Try.func16, Try.ntmps16
    go_wp2_with (go_at_call 25; refine (HI0.out _).mono ?_; rintro e w9 ⟨rfl, hw9⟩; replace hw9 := hw9.symm; subst hw9)
    go_loopw [4, 15] (fun s4 i wr => ∃ (k : Nat) (A : Option Addr) (c : Nat), k ≤ n ∧ i = .int .i64 k ∧ s4 = .slice A k c ∧ OI wr w.heap.size A k c (upto k) ∧ Below w.heap.size w wr) (fun _ i _ => n - (intOf i).toNat)
    case atStart => exact ⟨0, none, 0, Nat.zero_le _, rfl, rfl, OI.none_ _ _, Below.refl _ _⟩
    case round =>
      obtain ⟨k, A, c, hk, rfl, rfl, ho, hb⟩ := hrel
      have HO := Lib.hid ho
      have HB := Lib.hid hb
      clear ho hb
      by_cases hlt : k < n
      · go_wp2_with (at_builtin; refine wpList_append_int _ rfl _ _ rfl w.heap.size A k c _ (k : Int) _ rfl rfl (HO.out.alloc _) (cellNew9 _ _ _ rfl) (by omega) (by have := HB.out.size; simp; omega) ?_; intro A2 c2 w2 ho2 hg2; have HO2 := Lib.hid ho2; have HB2 := belGrown (belAlloc HB _) (HO.out.alloc _) hg2 (Nat.le_refl _); clear ho2 hg2)
        go_roundw
        case rel => exact ⟨k + 1, A2, c2, hlt, by go_num, rfl, by rw [upto_succ]; exact HO2.out, HB2.out⟩
        case measure => simp [intOf]; omega
      · have hkn : n = k := by omega
        subst hkn
        go_wp2_with fail
        go_loopw [4, 6, 25] (fun s4 s6 i wi => ∃ (k' : Nat) (out left : List Int) (AO : Option Addr) (co : Nat) (AL : Option Addr) (cl : Nat), k' ≤ n ∧ i = .int .i64 k' ∧ s6 = .slice AO k' co ∧ s4 = .slice AL (n - k') cl ∧ ORel zs out left k' ∧ OI wi w.heap.size AO k' co out ∧ RI wi AL (n - k') left ∧ n - k' ≤ cl ∧ (0 < n - k' → Apart2 AL AO) ∧ Below w.heap.size w wi) (fun _ _ i _ => n - (intOf i).toNat)
        case atStart =>
          refine ⟨0, [], upto zs.length, none, 0, A, c, Nat.zero_le _, rfl, rfl, by simp, ORel.start zs, OI.none_ _ _, by rw [hl]; simpa using HO.out.ri, by simpa using HO.out.le, fun _ b hb e => by simp [blk] at e, HB.out⟩
        case round =>
          clear HO HB
          obtain ⟨k, out, left, AO, co, AL, cl, hk, rfl, rfl, rfl, hN, ho, hr, hfc, hap, hb⟩ := hrel
          have HN := Lib.hid hN
          have HO := Lib.hid ho
          have HR := Lib.hid hr
          have HB := Lib.hid hb
          have HAP := Lib.hid hap
          clear hN ho hb hap
          by_cases hlt : k < n
          · have hlc := hr.1
            obtain ⟨b, off, rfl, hbw, hc⟩ := hr.2 (by omega)
            obtain ⟨bc, oc, rfl, hbc, hcc0⟩ := HA.out.cell hlt
            have hcx := (HB.out.cell (p := ⟨bc, oc + k, none⟩) hbc).trans (hcc0 k hlt)
            have i8 : (0 : Int) ≤ (k : Int) := by omega
            have i9 : (k : Int) < (n : Int) := by omega
            by_cases hx : 0 ≤ gi zs k ∧ gi zs k < ((n - k : Nat) : Int)
            · obtain ⟨p, hp⟩ : ∃ p : Nat, gi zs k = (p : Int) := ⟨(gi zs k).toNat, by omega⟩
              have HS : Hid (ORel zs (out ++ [gi left p]) (left.eraseIdx p) (k + 1)) := HN.out.step (by omega) hp (by omega)
              have hpl : p < n - k := by omega
              rw [hp] at hcx
              have HIN : Hid (∀ w : World, Calls Try.prog 25 #[.int .i64 (p : Int), .int .i64 0, .int .i64 ((n : Int) - 1 - (k : Int))] w (fun e w' => e = .returned (.bool true) ∧ w' = w)) := fun w => (l1In_any _ _ _ w).mono (by rw [inB_true (by omega)]; rintro e w' ⟨rfl, h⟩; exact ⟨rfl, h.symm⟩)
              obtain ⟨f, hf⟩ : ∃ f, f = n - k := ⟨_, rfl⟩
              have HF := Lib.hid hf
              rw [← hf] at hr HR hfc hc hpl HAP hlc ⊢
              have hcp := hc p hpl
              have i0 : (0 : Int) ≤ (p : Int) := by omega
              have i1 : (p : Int) < (f : Int) := by omega
              have hapn : ∀ x, blk AO = some x → x ≠ b := fun x hx e => by
                have := HAP.out (by omega) b (by simp [blk])
                rw [hx, e] at this; exact this rfl
              have HAPN := Lib.hid hapn
              have hp9 : p < 9 := by omega
              have hf8 : f ≤ 8 := by omega
              clear hapn hf hx hp hr hc hcc0
              by_cases hcc : cl = p + 1
              · have hkp : f = p + 1 := by omega
                subst hcc
                subst hkp
                have s1 : IntKind.i64.wrap ((p : Int) + 1) = (p : Int) + 1 := IntWalk.i64_in _ (by omega)
                have s2 : (0 : Int) ≤ (p : Int) + 1 := by omega
                have s3 : ((p : Int) + 1).toNat = p + 1 := by omega
                have S1 := Lib.hid s1
                have j1 : (p : Int) ≤ (p : Int) + 1 := by omega
                have j4 : (p : Int) < (p : Int) + 1 := by omega
                have j5 : (p : Int) ≤ ((p + 1 : Nat) : Int) := by omega
                have j6 : (p : Int) + 1 ≤ ((p + 1 : Nat) : Int) := by omega
                have j7 : (0 : Int) ≤ ((p + 1 : Nat) : Int) := by omega
                clear s1 s3
                go_wp2_with (first
                  | (go_at_call 25; refine (HIN.out _).mono ?_; rintro e w9 ⟨rfl, hw9⟩; replace hw9 := hw9.symm; subst hw9)
                  | (at_builtin; refine wpList_append_ints _ rfl _ _ rfl w.heap.size AO k co out (some ⟨wr.heap.size, 0, none⟩) 1 1 [gi left p] rfl rfl (HO.out.alloc _) (RI.single _ _) (by omega) (by omega) (by have := HB.out.size; simp; omega) ?_; intro A2 c2 w2 ho2 hg2; have HO2 := Lib.hid ho2; have HG2 := Lib.hid hg2; have HB2 := belGrown (belAlloc HB _) (HO.out.alloc _) hg2 (Nat.le_refl _); have HR2 : Hid (RI w2 (some ⟨b, off, none⟩) (p + 1) left) := RI.kept (HR.out.alloc _) hg2 (fun x hx e => HAPN.out x e (by simp [blk] at hx; exact hx.symm)); clear ho2 hg2))
                have s1 := S1.out
                have s3 : ((p : Int) + 1).toNat = p + 1 := by omega
                have HTK := Lib.hid (HR2.out.take (k := p) (by omega))
                go_region_held3 (fun _ => True) (trivial)
                  (first
                    | (go_at_call 26; refine (l1Own_any (some ⟨b, off, none⟩) p _ (left.take p) _ (by exact HTK.out) (by omega)).mono ?_; rintro e w3 ⟨A3, c3, rfl, o3, hb⟩; have b3 : Hid (Below w2.heap.size w2 w3) := Below.trans (by repeat (first | exact Below.refl _ _ | refine Below.alloc ?_ (by simp) _ | refine below_drewN ?_ _ | refine Below.drew ?_)) (hb.mono (by first | exact Nat.le_refl _ | simp)); have O3 : Hid (OI w3 w2.heap.size A3 p c3 (left.take p)) := o3; have R3 : Hid (RI w3 (some ⟨b, off, none⟩) (p + 1) left) := HR2.out.below b3.out (Nat.le_refl _); clear hb o3)
                    | (refine step_append_ints _ rfl (.tmp 48) (.tmp 52) rfl w2.heap.size A3 p c3 (left.take p) (some ⟨b, off, none⟩) 0 0 [] rfl rfl O3.out (RI.empty' _ (some ⟨b, off, none⟩)) (by omega) (by omega) b3.out.size ?_; intro A4 c4 w4 ho4 hg4; have b4 : Hid (Below w2.heap.size w2 w4) := b3.out.trans (ofMark O3.out hg4 (Nat.le_refl _) b3.out.size); have O4 := Lib.hid ho4; clear ho4 hg4))
                go_wp2
                go_roundw
                case rel =>
                  have hX : left.take p ++ [] = left.eraseIdx p := by rw [List.eraseIdx_eq_take_drop_succ]; rw [List.drop_eq_nil_of_le (by omega)]
                  have o4 := O4.out
                  rw [hX] at o4
                  have HO4 : OI w4 w.heap.size A2 (k + 1) c2 (out ++ [gi left p]) := HO2.out.below b4.out
                  have HB4 : Below w.heap.size w w4 := HB2.out.trans (b4.out.mono HB2.out.size)
                  have hf2 := HF.out
                  have hlen : p + 0 = n - (k + 1) := by omega
                  rw [hlen] at o4
                  refine ⟨k + 1, out ++ [gi left p], left.eraseIdx p, A2, c2, A4, c4, by omega, by go_num, rfl, by rw [← hlen]; rfl, HS.out, HO4, o4.ri, o4.le, fun _ x hx e => ?_, HB4⟩
                  have h1 := (o4.blk x hx).1
                  have h2 := (HO2.out.blk x e).2
                  omega
                case measure => simp [intOf] <;> omega
              · have s1 : IntKind.i64.wrap ((p : Int) + 1) = (p : Int) + 1 := IntWalk.i64_in _ (by omega)
                have s2 : (0 : Int) ≤ (p : Int) + 1 := by omega
                have s3 : ((p : Int) + 1).toNat = p + 1 := by omega
                have S1 := Lib.hid s1
                have j1 : (f : Int) ≤ (cl : Int) := by omega
                have j2 : (p : Int) + 1 ≤ (f : Int) := by omega
                have j3 : ¬ cl = p + 1 := hcc
                have j6 : ¬ cl = p := by omega
                have j7 : (p : Int) ≤ (cl : Int) := by omega
                clear s1 s3
                go_wp2_with (first
                  | (go_at_call 25; refine (HIN.out _).mono ?_; rintro e w9 ⟨rfl, hw9⟩; replace hw9 := hw9.symm; subst hw9)
                  | (at_builtin; refine wpList_append_ints _ rfl _ _ rfl w.heap.size AO k co out (some ⟨wr.heap.size, 0, none⟩) 1 1 [gi left p] rfl rfl (HO.out.alloc _) (RI.single _ _) (by omega) (by omega) (by have := HB.out.size; simp; omega) ?_; intro A2 c2 w2 ho2 hg2; have HO2 := Lib.hid ho2; have HG2 := Lib.hid hg2; have HB2 := belGrown (belAlloc HB _) (HO.out.alloc _) hg2 (Nat.le_refl _); have HR2 : Hid (RI w2 (some ⟨b, off, none⟩) f left) := RI.kept (HR.out.alloc _) hg2 (fun x hx e => HAPN.out x e (by simp [blk] at hx; exact hx.symm)); clear ho2 hg2))
                have s1 := S1.out
                have s3 : ((p : Int) + 1).toNat = p + 1 := by omega
                have HTK := Lib.hid (HR2.out.take (k := p) (by omega))
                go_region_held3 (fun _ => True) (trivial)
                  (first
                    | (go_at_call 26; refine (l1Own_any (some ⟨b, off, none⟩) p _ (left.take p) _ (by exact HTK.out) (by omega)).mono ?_; rintro e w3 ⟨A3, c3, rfl, o3, hb⟩; have b3 : Hid (Below w2.heap.size w2 w3) := Below.trans (by repeat (first | exact Below.refl _ _ | refine Below.alloc ?_ (by simp) _ | refine below_drewN ?_ _ | refine Below.drew ?_)) (hb.mono (by first | exact Nat.le_refl _ | simp)); have O3 : Hid (OI w3 w2.heap.size A3 p c3 (left.take p)) := o3; have R3 : Hid (RI w3 (some ⟨b, off, none⟩) f left) := HR2.out.below b3.out (Nat.le_refl _); clear hb o3)
                    | (refine step_append_ints _ rfl (.tmp 48) (.tmp 52) rfl w2.heap.size A3 p c3 (left.take p) (some ⟨b, off + (p + 1), none⟩) (f - (p + 1)) (cl - (p + 1)) (left.drop (p + 1)) rfl rfl O3.out (RI.drop9 R3.out (k := p + 1) (by omega)) (by omega) (by omega) b3.out.size ?_; intro A4 c4 w4 ho4 hg4; have b4 : Hid (Below w2.heap.size w2 w4) := b3.out.trans (ofMark O3.out hg4 (Nat.le_refl _) b3.out.size); have O4 := Lib.hid ho4; clear ho4 hg4))
                go_wp2
                go_roundw
                case rel =>
                  have hX : left.take p ++ left.drop (p + 1) = left.eraseIdx p := by rw [List.eraseIdx_eq_take_drop_succ]
                  have o4 := O4.out
                  rw [hX] at o4
                  have HO4 : OI w4 w.heap.size A2 (k + 1) c2 (out ++ [gi left p]) := HO2.out.below b4.out
                  have HB4 : Below w.heap.size w w4 := HB2.out.trans (b4.out.mono HB2.out.size)
                  have hf2 := HF.out
                  have hlen : p + (f - (p + 1)) = n - (k + 1) := by omega
                  rw [hlen] at o4
                  refine ⟨k + 1, out ++ [gi left p], left.eraseIdx p, A2, c2, A4, c4, by omega, by go_num, rfl, by rw [← hlen], HS.out, HO4, o4.ri, o4.le, fun _ x hx e => ?_, HB4⟩
                  have h1 := (o4.blk x hx).1
                  have h2 := (HO2.out.blk x e).2
                  omega
                case measure => simp [intOf] <;> omega
            · have e := HN.out.bad (by omega) (by rw [hlc]; exact hx)
              have HIN : Hid (∀ w : World, Calls Try.prog 25 #[.int .i64 (gi zs k), .int .i64 0, .int .i64 ((n : Int) - 1 - (k : Int))] w (fun e w' => e = .returned (.bool false) ∧ w' = w)) := fun w => (l1In_any _ _ _ w).mono (by rw [inB_false (by omega)]; rintro e w' ⟨rfl, h⟩; exact ⟨rfl, h.symm⟩)
              have EN := Lib.hid e
              clear hx hr hc hcc0 e
              go_wp2_with (go_at_call 25; refine (HIN.out _).mono ?_; rintro e w9 ⟨rfl, hw9⟩; replace hw9 := hw9.symm; subst hw9)
              go_ret2
              rw [(oc_none EN.out).1, (oc_none EN.out).2]
              exact ⟨none, 0, rfl, OI.none_ _ _, HB.out⟩
          · obtain rfl : k = n := by omega
            have e := HN.out.done hl.symm
            have hlo := HN.out.lo
            clear hr
            go_wp2
            go_ret2
            rw [(oc_some HQ.out e).1, (oc_some HQ.out e).2]
            exact ⟨AO, co, by first | rfl | (rw [hlo]; rfl), by first | exact HO.out | (rw [hlo]; exact HO.out), HB.out⟩
end Go.Proofs.Ytcjdojnninkgbaa

/- PoleEnd and PoleWay, of the program and of its model, for every argument. -/
import Derived.Test.YtjdkicanamengaaPq3
import Derived.Test.YtjdkicanamengaaPm1
import Derived.Test.YtjdkicanamengaaApL
import Derived.BigQuiet
import Derived.Deep.QuietTactic
import Derived.Deep.DeepMust
import Derived.OwnWalk
namespace Go.Proofs.Ytjdkicanamengaa
open Go Go.RowKit

def peN (W : Int) (zs : List Int) (s : Int) : Int := if pwire W zs s = true then pat W zs s zs.length else 0
def pwN (W : Int) (zs : List Int) (s : Int) : Int := if pwire W zs s = true then pwd W zs s zs.length else 0
def pyN (W : Int) (zs : List Int) (s : Int) : List Int := if pwire W zs s = true then pway W zs s else []
theorem peN_yes {W : Int} {zs : List Int} {s : Int} (h : pwire W zs s = true) : peN W zs s = pat W zs s zs.length := by unfold peN; rw [if_pos h]
theorem pwN_yes {W : Int} {zs : List Int} {s : Int} (h : pwire W zs s = true) : pwN W zs s = pwd W zs s zs.length := by unfold pwN; rw [if_pos h]
theorem pyN_yes {W : Int} {zs : List Int} {s : Int} (h : pwire W zs s = true) : pyN W zs s = pway W zs s := by unfold pyN; rw [if_pos h]
theorem peN_no {W : Int} {zs : List Int} {s : Int} (h : pwire W zs s = false) : peN W zs s = 0 := by unfold peN; rw [h]; rfl
theorem pwN_no {W : Int} {zs : List Int} {s : Int} (h : pwire W zs s = false) : pwN W zs s = 0 := by unfold pwN; rw [h]; rfl
theorem pyN_no {W : Int} {zs : List Int} {s : Int} (h : pwire W zs s = false) : pyN W zs s = [] := by unfold pyN; rw [h]; rfl
theorem pyN_len (W : Int) (zs : List Int) (s : Int) : (pyN W zs s).length ≤ 1000 := by
  rcases h : pwire W zs s with _ | _
  · rw [pyN_no h]; simp
  · rw [pyN_yes h, pway_length]
    have := (pol_iff.1 (pwire_iff.1 h).1).2.1
    omega

set_option maxRecDepth 100000 in
set_option maxHeartbeats 2000000 in
theorem sPoleEnd_any (W : Int) (A : Option Addr) (n c : Nat) (zs : List Int) (s : Int) (w : World) (h : RI w A n zs) (hn : n ≤ 1048576) :
    Calls Try.prog 17 #[.agg #[.int .i64 W, .slice A n c], .int .i64 s] w (RetIIB (peN W zs s) (pwN W zs s) (pwire W zs s) w) := by
  rcases hq : pwire W zs s with _ | _
  · rw [peN_no hq, pwN_no hq]
    have HW := Lib.hid hq
    clear hq
    go_enter Try.func17, Try.ntmps17
    go_wp2_with fail
    have HB := belAlloc (belRefl (w := w)) (.cells #[.int .i64 W, .slice A n c] 27)
    refine (poWire_any W A n c zs s _ (h.alloc _) hn).mono ?_
    rw [HW.out]
    rintro e w1 ⟨rfl, hb⟩
    have HB := belStep HB hb
    clear hb h
    go_wp2
    go_ret3
    exact ⟨rfl, HB.out⟩
  · rw [peN_yes hq, pwN_yes hq, h.1]
    have hzl := Lib.hid h.1
    have HW := Lib.hid hq
    clear hq
    go_enter Try.func17, Try.ntmps17
    go_wp2_with fail
    have HA := boxNew (W := W) (c := c) 27 h
    have HB := belAlloc (belRefl (w := w)) (.cells #[.int .i64 W, .slice A n c] 27)
    refine (poWire_any W A n c zs s _ (h.alloc _) hn).mono ?_
    rw [HW.out]
    rintro e w1 ⟨rfl, hb⟩
    have HA := boxStep HA hb; have HB := belStep HB hb; have a0 := HA.out.c0; have a1 := HA.out.c1; have az := HA.out.lt
    have z1 := HB.out.size
    clear hb h
    go_wp2_with fail
    refine (poDown_any W A n c zs s _ HA.out.ri (PWires.of HW.out)).mono ?_
    rintro e w2 ⟨A2, c2, rfl, ho, hb⟩
    obtain ⟨b, off, rfl, _, hc⟩ := ho.ri.cell (Nat.lt_succ_self n)
    have hcn := hc n (Nat.lt_succ_self n)
    rw [gi_pway _ _ _ _ (by rw [hzl.out]; exact Nat.le_refl _)] at hcn
    clear hc ho
    replace HA := boxStep HA hb; replace HB := belStep HB hb; replace a0 := HA.out.c0; replace a1 := HA.out.c1; replace az := HA.out.lt; clear hb
    go_wp2
    go_ret3
    exact ⟨rfl, HB.out⟩

set_option maxRecDepth 100000 in
set_option maxHeartbeats 2000000 in
theorem iPoleEnd_any (W : Int) (A : Option Addr) (n c : Nat) (zs : List Int) (s : Int) (w : World) (h : RI w A n zs) (hn : n ≤ 1048576) :
    Calls Try.prog 18 #[.agg #[.int .i64 W, .slice A n c], .int .i64 s] w (RetIIB (peN W zs s) (pwN W zs s) (pwire W zs s) w) := by
  rcases hq : pwire W zs s with _ | _
  · rw [peN_no hq, pwN_no hq]
    have HW := Lib.hid hq
    clear hq
    go_enter Try.func18, Try.ntmps18
    go_wp2_with fail
    have HB := belAlloc (belRefl (w := w)) (.cells #[.int .i64 W, .slice A n c] 27)
    refine (isPoleWire_any W A n c zs s _ (h.alloc _) hn).mono ?_
    rw [HW.out]
    rintro e w1 ⟨rfl, hb⟩
    have HB := belStep HB hb
    clear hb h
    go_wp2
    go_ret3
    exact ⟨rfl, HB.out⟩
  · rw [peN_yes hq, pwN_yes hq, h.1]
    have hzl := Lib.hid h.1
    have HW := Lib.hid hq
    clear hq
    go_enter Try.func18, Try.ntmps18
    go_wp2_with fail
    have HA := boxNew (W := W) (c := c) 27 h
    have HB := belAlloc (belRefl (w := w)) (.cells #[.int .i64 W, .slice A n c] 27)
    refine (isPoleWire_any W A n c zs s _ (h.alloc _) hn).mono ?_
    rw [HW.out]
    rintro e w1 ⟨rfl, hb⟩
    have HA := boxStep HA hb; have HB := belStep HB hb; have a0 := HA.out.c0; have a1 := HA.out.c1; have az := HA.out.lt
    have z1 := HB.out.size
    clear hb h
    go_wp2_with fail
    refine (pend_any W A n c zs s _ HA.out.ri (PWires.of HW.out)).mono ?_
    rintro e w2 ⟨rfl, hb⟩
    replace HA := boxStep HA hb; replace HB := belStep HB hb; replace a0 := HA.out.c0; replace a1 := HA.out.c1; replace az := HA.out.lt; clear hb
    go_wp2
    go_quiet (fail)
    go_wp2
    go_ret3
    exact ⟨rfl, below_drewN (HB.out.alloc HB.out.size _) _⟩

set_option maxRecDepth 100000 in
set_option maxHeartbeats 2000000 in
theorem sPoleWay_any (W : Int) (A : Option Addr) (n c : Nat) (zs : List Int) (s : Int) (w : World) (h : RI w A n zs) (hn : n ≤ 1048576) :
    Calls Try.prog 19 #[.agg #[.int .i64 W, .slice A n c], .int .i64 s] w (FreshIB w (pyN W zs s).length (pyN W zs s) (pwire W zs s)) := by
  rcases hq : pwire W zs s with _ | _
  · rw [pyN_no hq]
    have HW := Lib.hid hq
    clear hq
    go_enter Try.func19, Try.ntmps19
    go_wp2_with fail
    have HB := belAlloc (belRefl (w := w)) (.cells #[.int .i64 W, .slice A n c] 27)
    refine (poWire_any W A n c zs s _ (h.alloc _) hn).mono ?_
    rw [HW.out]
    rintro e w1 ⟨rfl, hb⟩
    have HB := belStep HB hb
    clear hb h
    go_wp2
    go_ret2
    exact ⟨none, 0, rfl, OI.none_ _ _, HB.out⟩
  · have HL : Hid ((pyN W zs s).length = n + 1) := by show (pyN W zs s).length = n + 1; rw [pyN_yes hq, pway_length, h.1]
    rw [HL.out, pyN_yes hq]
    have hzl := Lib.hid h.1
    have HW := Lib.hid hq
    clear hq
    go_enter Try.func19, Try.ntmps19
    go_wp2_with fail
    have HA := boxNew (W := W) (c := c) 27 h
    have HB := belAlloc (belRefl (w := w)) (.cells #[.int .i64 W, .slice A n c] 27)
    refine (poWire_any W A n c zs s _ (h.alloc _) hn).mono ?_
    rw [HW.out]
    rintro e w1 ⟨rfl, hb⟩
    have HA := boxStep HA hb; have HB := belStep HB hb; have a0 := HA.out.c0; have a1 := HA.out.c1; have az := HA.out.lt
    have z1 := HB.out.size
    clear hb h
    go_wp2_with fail
    refine (poDown_any W A n c zs s _ HA.out.ri (PWires.of HW.out)).mono ?_
    rintro e w2 ⟨A2, c2, rfl, ho, hb⟩
    have HO := Lib.hid (ho.mono z1)
    clear ho
    replace HA := boxStep HA hb; replace HB := belStep HB hb; replace a0 := HA.out.c0; replace a1 := HA.out.c1; replace az := HA.out.lt; clear hb
    go_wp2
    go_ret2
    exact ⟨A2, c2, rfl, HO.out, HB.out⟩

set_option maxRecDepth 100000 in
set_option maxHeartbeats 2000000 in
theorem iPoleWay_any (W : Int) (A : Option Addr) (n c : Nat) (zs : List Int) (s : Int) (w : World) (h : RI w A n zs) (hn : n ≤ 1048576) :
    Calls Try.prog 20 #[.agg #[.int .i64 W, .slice A n c], .int .i64 s] w (FreshIB w (pyN W zs s).length (pyN W zs s) (pwire W zs s)) := by
  rcases hq : pwire W zs s with _ | _
  · rw [pyN_no hq]
    have HW := Lib.hid hq
    clear hq
    go_enter Try.func20, Try.ntmps20
    go_wp2_with fail
    have HB := belAlloc (belRefl (w := w)) (.cells #[.int .i64 W, .slice A n c] 27)
    refine (isPoleWire_any W A n c zs s _ (h.alloc _) hn).mono ?_
    rw [HW.out]
    rintro e w1 ⟨rfl, hb⟩
    have HB := belStep HB hb
    clear hb h
    go_wp2
    go_ret2
    exact ⟨none, 0, rfl, OI.none_ _ _, HB.out⟩
  · have HL : Hid ((pyN W zs s).length = n + 1) := by show (pyN W zs s).length = n + 1; rw [pyN_yes hq, pway_length, h.1]
    rw [HL.out, pyN_yes hq]
    have hn60 : n ≤ 60 := by have := (pol_iff.1 (pwire_iff.1 hq).1).2.1; rw [h.1] at this; exact this
    have hmk := run_make_row' (P := Try.prog) 22 3 (.int .i64 0) 8 Try.underlying22 infoInt rfl .i64 .i64 0 (by omega) (by omega)
    have hzl := Lib.hid h.1
    have HW := Lib.hid hq
    clear hq
    go_enter Try.func20, Try.ntmps20
    go_wp2_with fail
    have HA := boxNew (W := W) (c := c) 27 h
    have HB := belAlloc (belRefl (w := w)) (.cells #[.int .i64 W, .slice A n c] 27)
    refine (isPoleWire_any W A n c zs s _ (h.alloc _) hn).mono ?_
    rw [HW.out]
    rintro e w1 ⟨rfl, hb⟩
    have HA := boxStep HA hb; have HB := belStep HB hb; have a0 := HA.out.c0; have a1 := HA.out.c1; have az := HA.out.lt
    have z1 := HB.out.size
    clear hb h
    obtain ⟨i0, hi0, hz0, hz1, hz2⟩ := info_parts infoInt
    have HP := Lib.hid (fun (wi : World) (hi : RI wi A n zs) => places_any W A n c zs s wi hi (PWires.of HW.out))
    go_wp2_with (first
      | (at_make; go_must (refine wpList_make_own _ rfl _ _ 22 rfl w1.heap.size 3 i0 (.int .i64 0) 1 Try.underlying22 hi0 hz0 hz1 _ _ _ (n + 1) rfl rfl (by omega) (by rw [hz2]; omega) (by unfold maxLen; omega) (Nat.le_refl _) ?_); intro w2 ho2 hg2
         have hb2 : Below w1.heap.size w1 w2 := ⟨hg2.os, hg2.tape, hg2.output, hg2.size, fun k hk => hg2.block k hk (by simp)⟩
         have HO : Hid (OI w2 w1.heap.size (some ⟨w1.heap.size, 0, none⟩) 0 (n + 1) []) := ⟨rfl, ho2⟩
         have hb := hb2
         replace HA := boxStep HA hb; replace HB := belStep HB hb; replace a0 := HA.out.c0; replace a1 := HA.out.c1; replace az := HA.out.lt; clear hb
         have z2 := hb2.size
         have hw12 : w1.heap.size < w2.heap.size := (HO.out.blk _ rfl).2
         clear ho2 hg2 hb2))
    refine (HP.out _ HA.out.ri).mono ?_
    rintro e w3 ⟨A3, c3, rfl, o3, hb⟩
    replace HO : Hid (OI w3 w1.heap.size (some ⟨w1.heap.size, 0, none⟩) 0 (n + 1) []) := Lib.hid (HO.out.below hb)
    have z3 := hb.size
    have HQ : Hid (RPq w3 A3 (n + 1) (plF W zs s (n + 1))) := Lib.hid o3.rq
    obtain ⟨pb, rfl, hpb⟩ : ∃ pb, A3 = some ⟨pb, 0, none⟩ ∧ w2.heap.size ≤ pb ∧ pb < w3.heap.size := by
      rcases o3.form with ⟨_, _, h0⟩ | ⟨g, rfl, h1, h2⟩
      · omega
      · exact ⟨g, rfl, h1, h2⟩
    clear o3
    replace HA := boxStep HA hb; replace HB := belStep HB hb; replace a0 := HA.out.c0; replace a1 := HA.out.c1; replace az := HA.out.lt; clear hb
    have HPB := Lib.hid hpb
    have HZ : Hid (w1.heap.size < w2.heap.size ∧ w2.heap.size ≤ w3.heap.size ∧ w.heap.size ≤ w1.heap.size) := ⟨hw12, z3, z1⟩
    clear hpb hw12 z2 z3 z1
    go_wp2
    go_loopw [6, 8, 22] (fun v _ i wr => ∃ (k : Nat) (A1 : Option Addr) (c1 : Nat), k ≤ n + 1 ∧ i = .int .i64 k ∧ v = .slice A1 k c1 ∧ OI wr w1.heap.size A1 k c1 ((pway W zs s).take k) ∧ (∀ b, blk A1 = some b → b = w1.heap.size ∨ w3.heap.size ≤ b) ∧ Below w.heap.size w wr ∧ RPq wr (some ⟨pb, 0, none⟩) (n + 1) (plF W zs s (n + 1)) ∧ w3.heap.size ≤ wr.heap.size) (fun _ _ i _ => (n + 1) - (intOf i).toNat)
    case atStart =>
      exact ⟨0, _, _, Nat.zero_le _, rfl, rfl, HO.out, fun b hb => .inl (Option.some.inj hb).symm, HB.out, HQ.out, Nat.le_refl _⟩
    case round =>
      obtain ⟨k, A1, c1, hk, rfl, rfl, ho, hl, hb, hq, hz⟩ := hrel
      have HO := Lib.hid ho
      have HLB := Lib.hid hl
      have HB := Lib.hid hb
      have HQ := Lib.hid hq
      have HZ3 := Lib.hid hz
      by_cases hlt : k < n + 1
      · obtain ⟨b', off', e, _, hc⟩ := hq.2 (Nat.succ_pos _)
        injection e with e; injection e with e1 e2 e3
        subst e1 e2
        have hg := gi_plF W zs s (n := n + 1) (k := k) hlt
        have hc0 := hc (k * 2) (by omega)
        have hc1 := hc (k * 2 + 1) (by omega)
        rw [hg.1, Nat.zero_add] at hc0
        rw [hg.2, Nat.zero_add] at hc1
        have hpw := HPB.out
        have hpl : pb < wr.heap.size := by omega
        have HT := Lib.hid (pway_take W zs s k (by rw [hzl.out]; omega))
        have i1 : (0 : Int) ≤ (k : Int) := by omega
        have i2 : (k : Int) < (n : Int) + 1 := by omega
        obtain ⟨p, hp⟩ : ∃ p, p = pat W zs s k := ⟨_, rfl⟩
        obtain ⟨q, hq'⟩ : ∃ q, q = pwd W zs s k := ⟨_, rfl⟩
        rw [← hp] at hc0 HT
        rw [← hq'] at hc1
        clear hc hg ho hl hb hq hp hq' hpw a0 a1
        go_wp2_with (first
          | (at_builtin; refine wpList_append_intL _ rfl _ _ rfl w1.heap.size A1 k c1 _ p (wr.heap.size + 1) rfl rfl ((HO.out.alloc _).alloc _) (by simp) (by omega) (by have h1 := HZ3.out; have h2 := HZ.out; simp; omega) ?_; intro A4 c4 w4 ho4 hg4 hl4))
        have HB4 : Hid (Below w.heap.size w w4) := Lib.hid (((HB.out.alloc (by have h1 := HZ3.out; have h2 := HZ.out; omega) _).alloc (by have h1 := HZ3.out; have h2 := HZ.out; simp; omega) _).grown hg4 (by have h1 := HZ3.out; have h2 := HZ.out; simp; omega) (fun x hx => by have h3 := (HO.out.blk x hx).1; have h2 := HZ.out; omega))
        have HQ4 : Hid (RPq w4 (some ⟨pb, 0, none⟩) (n + 1) (plF W zs s (n + 1))) := Lib.hid ((HQ.out.below (((Below.refl _ _).alloc (Nat.le_refl _) (.cells #[.int .i64 p, .int .i64 q] 65)).alloc (by simp) (.cells #[.int .i64 p] 3))).grown hg4 (fun x hx e => by
          have h1 : pb = x := Option.some.inj hx
          have h2 := HLB.out x e
          have h3 := HPB.out
          have h4 := HZ.out
          omega))
        have HL4 : Hid (∀ b, blk A4 = some b → b = w1.heap.size ∨ w3.heap.size ≤ b) := Lib.hid (fun x hx => by
          rcases hl4 with h1 | h1
          · exact HLB.out x (h1 ▸ hx)
          · rw [h1] at hx
            have h2 := Option.some.inj hx
            have h3 := HZ3.out
            simp at h2
            omega)
        have HZ4 : Hid (w3.heap.size ≤ w4.heap.size) := Lib.hid (by have h1 := hg4.size; have h3 := HZ3.out; simp at h1; omega)
        go_roundw
        case rel => exact ⟨k + 1, A4, c4, by omega, by go_num, rfl, by rw [HT.out]; exact ho4, HL4.out, HB4.out, HQ4.out, HZ4.out⟩
        case measure => simp [intOf]; omega
      · obtain rfl : k = n + 1 := by omega
        have e : (pway W zs s).take (n + 1) = pway W zs s := List.take_of_length_le (by rw [pway_length, hzl.out]; omega)
        have HO2 : Hid (OI wr w1.heap.size A1 (n + 1) c1 (pway W zs s)) := by have := HO.out; rwa [e] at this
        clear ho hl hb hq hz
        go_wp2
        go_ret2
        exact ⟨A1, c1, rfl, HO2.out.mono HZ.out.2.2, HB.out⟩

end Go.Proofs.Ytjdkicanamengaa

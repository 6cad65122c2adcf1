/- PoleResult of the model. -/
import Derived.Test.YtijddnllacphfaaPr1
import Derived.Test.YtijddnllacphfaaPm1
import Derived.Test.YtijddnllacphfaaApS
import Derived.Deep.RegionLaw
namespace Go.Proofs.Ytijddnllacphfaa
open Go Go.RowKit

theorem oiD6 {w : World} {B : Nat} {A : Option Addr} {n c : Nat} {zs : List Int} (h : OI w B A n c zs) : OI w.drew B A n c zs := h
/-- two rows of the call's own lie in blocks that differ -/
def Apart (A E : Option Addr) : Prop := ∀ x, blk A = some x → blk E ≠ some x
theorem Apart.new {w : World} {B : Nat} {A A' E : Option Addr} {n c : Nat} {zs : List Int} {z : Nat} (h : Apart A E) (hl : blk A' = blk A ∨ blk A' = some z) (ho : OI w B E n c zs) (hz : w.heap.size ≤ z) : Apart A' E := by
  intro x hx e
  rcases hl with h1 | h1
  · exact h x (h1 ▸ hx) e
  · rw [h1] at hx
    have h2 := (ho.blk x e).2
    have h3 := Option.some.inj hx
    omega
theorem Apart.symm {A E : Option Addr} (h : Apart A E) : Apart E A := fun x hx e => h x e hx

set_option maxRecDepth 100000 in
set_option maxHeartbeats 2000000 in
theorem poResult_any (N : Nat) (A : Option Addr) (n c : Nat) (zs : List Int) (w : World) (h : RI w A n zs) (hq : pol (N : Int) zs = true) :
    Calls Try.prog 60 #[.agg #[.int .i64 (N : Int), .slice A n c]] w (fun e w' => ∃ (A' : Option Addr) (c' : Nat) (E' : Option Addr) (d' : Nat), e = .returned (.agg #[.slice A' N c', .slice E' N d']) ∧ OI w' w.heap.size A' N c' (pends (N : Int) zs N) ∧ OI w' w.heap.size E' N d' (pwinds (N : Int) zs N) ∧ Below w.heap.size w w') := by
  have hzl := Lib.hid h.1
  have hW := (pol_iff.1 hq).1
  have HW := Lib.hid hq
  have H0 := Lib.hid h
  clear hq h
  go_enter Try.func60, Try.ntmps60
  go_wp2
  obtain ⟨w1, hw1⟩ : ∃ w1, w1 = (w.alloc (.cells #[.int .i64 (N : Int), .slice A n c] 45)).alloc (.cells #[.slice none 0 0, .slice none 0 0] 27) := ⟨_, rfl⟩
  have HA : Hid (Box w1 w.heap.size (N : Int) A n c zs) := by rw [hw1]; exact boxAlloc (boxNew (W := (N : Int)) (c := c) 45 H0.out) _
  have HC : Hid (Cell2 w1 (w.heap.size + 1) (.slice none 0 0) (.slice none 0 0)) := by
    have h1 := cellNew (w.alloc (.cells #[.int .i64 (N : Int), .slice A n c] 45)) (.slice none 0 0) (.slice none 0 0) 27
    simp only [World.size_alloc] at h1
    rw [hw1]; exact h1
  have HB : Hid (Below w.heap.size w w1) := by rw [hw1]; exact belAlloc (belAlloc belRefl _) _
  have hz1 : w1.heap.size = w.heap.size + 2 := by rw [hw1]; simp
  have HKA : Hid (BoxB w1 w1.heap.size w.heap.size (N : Int) A n c zs) := BoxB.of HA.out
  have HM0 := cellNew w1 (.slice none 0 0) (.slice none 0 0) 27
  rw [← hw1]
  have HZ1 := Lib.hid hz1
  clear hw1
  have e12 : w.heap.size + 1 + 1 = w1.heap.size := by omega
  rw [e12]
  clear hz1 e12
  go_loopw [4, 5, 6] (fun i _ _ wr => ∃ (k : Nat) (A1 : Option Addr) (c1 : Nat) (E1 : Option Addr) (d1 : Nat), k ≤ N ∧ i = .int .i64 k ∧ Cell2 wr w1.heap.size (.slice A1 k c1) (.slice E1 k d1) ∧ OI wr (w1.heap.size + 1) A1 k c1 ((pends (N : Int) zs N).take k) ∧ OI wr (w1.heap.size + 1) E1 k d1 ((pwinds (N : Int) zs N).take k) ∧ Apart A1 E1 ∧ Below w1.heap.size w1 wr) (fun i _ _ _ => N - (intOf i).toNat)
  case atStart => exact ⟨0, none, 0, none, 0, Nat.zero_le _, rfl, HM0.out, OI.none_ _ _, OI.none_ _ _, fun x hx => by simp [blk] at hx, (Below.refl _ _).alloc (Nat.le_refl _) _⟩
  case round =>
    obtain ⟨k, A1, c1, E1, d1, hk, rfl, hm, ho1, ho2, hap, hb⟩ := hrel
    have HM := Lib.hid hm; have O1 := Lib.hid ho1; have O2 := Lib.hid ho2; have HAP := Lib.hid hap; have HN := Lib.hid hb
    have HBX : Hid (BoxB wr w1.heap.size w.heap.size (N : Int) A n c zs) := HKA.out.step hb
    have a0 := HBX.out.c0; have a1 := HBX.out.c1
    have HCr := cellBelow HC (by have := HZ1.out; omega) hb
    have hsz : w1.heap.size < wr.heap.size := HM.out.lt
    clear hm ho1 ho2 hap hb
    by_cases hlt : k < N
    · have HPW := Lib.hid (PWires.wire HW.out (i := k) (by omega))
      have HT1 := Lib.hid (pends_take (N : Int) zs hlt)
      have HT2 := Lib.hid (pwinds_take (N : Int) zs hlt)
      have HD := Lib.hid (fun (wi : World) (hi : RI wi A n zs) => poDown_any (N : Int) A n c zs (k : Int) wi hi HPW.out)
      have hge : gi (pway (N : Int) zs (k : Int)) n = pat (N : Int) zs (k : Int) zs.length := by rw [gi_pway _ _ _ _ (by rw [hzl.out]; exact Nat.le_refl _), hzl.out]
      have HGE := Lib.hid hge
      have hpw : pwd (N : Int) zs (k : Int) n = pwd (N : Int) zs (k : Int) zs.length := by rw [hzl.out]
      have HPD := Lib.hid hpw
      obtain ⟨x, hx⟩ : ∃ x, x = pat (N : Int) zs (k : Int) zs.length := ⟨_, rfl⟩
      obtain ⟨y, hy⟩ : ∃ y, y = pwd (N : Int) zs (k : Int) zs.length := ⟨_, rfl⟩
      rw [← hx] at HGE HT1
      rw [← hy] at HPD HT2
      clear hge hpw hx hy
      go_wp2_with fail
      refine (HD.out _ HBX.out.rb.ri).mono ?_
      rw [HPD.out]
      rintro e w2 ⟨A2, c2, rfl, o2, hb⟩
      obtain ⟨b, off, rfl, hbw, hc⟩ := o2.ri.cell (Nat.lt_succ_self n)
      have hcn := hc n (Nat.lt_succ_self n)
      rw [HGE.out] at hcn
      replace HM := cellStep HM hb
      replace HCr := cellStep HCr hb
      replace O1 := oiStep O1 hb
      replace O2 := oiStep O2 hb
      have HN2 : Hid (Below w1.heap.size w1 w2) := Lib.hid (HN.out.trans (hb.mono HN.out.size))
      replace HBX : Hid (BoxB w2 w1.heap.size w.heap.size (N : Int) A n c zs) := HKA.out.step HN2.out
      have hs2 := hb.size
      replace a0 := HBX.out.c0; replace a1 := HBX.out.c1
      have m0 := HM.out.c0; have m1 := HM.out.c1; have mf0 := HM.out.f0; have mf1 := HM.out.f1; have mz := HM.out.lt
      clear hb hc o2 HD
      have i0 : (0 : Int) ≤ (n : Int) := by omega
      have i1 : (n : Int) < (n : Int) + 1 := by omega
      have i2 : n < n + 1 := by omega
      go_wp2
      go_region_law (refine step_append_intL _ rfl (.tmp 21) (.tmp 28) rfl (w1.heap.size + 1) A1 k c1 _ x w2.heap.size rfl rfl (by first | exact O1.out.alloc _ | exact oiD6 (O1.out.alloc _)) (by simp) (by omega) (by simp; omega) ?_; intro A3 c3 w3 ho3 hg3 hl3; have HM3 := cellKeptNe (cellDrew (cellAlloc HM _)) hg3 (oiD6 (O1.out.alloc _)) (Nat.lt_succ_self _); have n0 := HM3.out.c0; have n1 := HM3.out.c1; have nf0 := HM3.out.f0; have nf1 := HM3.out.f1; have nz := HM3.out.lt)
      all_goals
        have hbw : Below w1.heap.size w1 w3 := (HN2.out.alloc HN2.out.size _).drew.trans (ofMark (K := w1.heap.size) (oiD6 (O1.out.alloc _)) hg3 (Nat.le_succ _) (by simp; omega))
        have O2' : Hid (OI w3 (w1.heap.size + 1) E1 k d1 ((pwinds (N : Int) zs N).take k)) := Lib.hid ((oiD6 (O2.out.alloc _)).kept hg3 (fun x hx e => HAP.out x e hx))
        have hap3 : Apart A3 E1 := HAP.out.new hl3 (oiD6 (O2.out.alloc _)) (Nat.le_refl _)
        have O1' := Lib.hid ho3
        obtain ⟨w4, hw4⟩ : ∃ w4, w4 = w3.setCell ⟨w1.heap.size, 0, none⟩ (.slice A3 (k + 1) c3) := ⟨_, rfl⟩
        have HN4 : Hid (Below w1.heap.size w1 w4) := Lib.hid (by rw [hw4]; exact hbw.setCell (Nat.le_refl _) _)
        have O1b : Hid (OI w4 (w1.heap.size + 1) A3 (k + 1) c3 ((pends (N : Int) zs N).take (k + 1))) := Lib.hid (by rw [hw4, HT1.out]; exact O1'.out.setBelow (by simp) _)
        have O2b : Hid (OI w4 (w1.heap.size + 1) E1 k d1 ((pwinds (N : Int) zs N).take k)) := Lib.hid (by rw [hw4]; exact O2'.out.setBelow (by simp) _)
        have HMb : Hid (Cell2 w4 w1.heap.size (.slice A3 (k + 1) c3) (.slice E1 k d1)) := Lib.hid ⟨by rw [hw4]; exact World.cell?_setCell_same _ _ _ n0, by rw [hw4, World.cell?_setCell_other _ _ _ _ (by simp)]; exact n1, by rw [hw4]; simpa [go_sem] using nf0, by rw [hw4]; simpa [go_sem] using nf1, by rw [hw4]; simpa using nz⟩
        have HAPb := Lib.hid hap3
        have hs4 := HN4.out.size
        have hz4 : w1.heap.size < w4.heap.size := HMb.out.lt
        clear hbw hap3 ho3 hg3 hl3 HM3 O1' O2' n0 n1 nf0 nf1 nz m0 m1 mf0 mf1 mz a0 a1
        have m0 := HMb.out.c0; have m1 := HMb.out.c1; have mf0 := HMb.out.f0; have mf1 := HMb.out.f1
        have HBXb : Hid (BoxB w4 w1.heap.size w.heap.size (N : Int) A n c zs) := HKA.out.step HN4.out
        have a0 := HBXb.out.c0; have a1 := HBXb.out.c1
        rw [← hw4]
        clear hw4
        go_wp2_with (at_builtin; refine wpList_append_intL _ rfl _ _ rfl (w1.heap.size + 1) E1 k d1 _ y w4.heap.size rfl rfl (O2b.out.alloc _) (by simp) (by omega) (by simp; omega) ?_; intro E5 d5 w5 ho5 hg5 hl5; have HM5 := cellKeptNe (cellAlloc HMb _) hg5 (O2b.out.alloc _) (Nat.lt_succ_self _); have n0 := HM5.out.c0; have n1 := HM5.out.c1; have nf0 := HM5.out.f0; have nf1 := HM5.out.f1; have nz := HM5.out.lt)
        go_roundw
        case rel =>
          refine ⟨k + 1, A3, c3, E5, d5, by omega, by go_num, ?_, ?_, ?_, ?_, ?_⟩
          · exact (cellSet1 HM5 _).out
          · exact ((O1b.out.alloc _).kept hg5 (fun x hx e => HAPb.out x hx e)).setBelow (by simp) _
          · rw [HT2.out]; exact ho5.setBelow (by simp) _
          · exact (HAPb.out.symm.new hl5 (O1b.out.alloc _) (Nat.le_refl _)).symm
          · exact ((HN4.out.alloc hs4 _).trans (ofMark (K := w1.heap.size) (O2b.out.alloc _) hg5 (Nat.le_succ _) (by simp; omega))).setCell (Nat.le_refl _) _
        case measure => simp [intOf]; omega
    · obtain rfl : k = N := by omega
      have e1 : (pends (k : Int) zs k).take k = pends (k : Int) zs k := List.take_of_length_le (by rw [pends_length]; exact Nat.le_refl _)
      have e2 : (pwinds (k : Int) zs k).take k = pwinds (k : Int) zs k := List.take_of_length_le (by rw [pwinds_length]; exact Nat.le_refl _)
      have O1b : Hid (OI wr (w1.heap.size + 1) A1 k c1 (pends (k : Int) zs k)) := by have := O1.out; rwa [e1] at this
      have O2b : Hid (OI wr (w1.heap.size + 1) E1 k d1 (pwinds (k : Int) zs k)) := by have := O2.out; rwa [e2] at this
      have k0 := HCr.out.c0; have k1 := HCr.out.c1; have f0 := HCr.out.f0; have f1 := HCr.out.f1; have cz := HCr.out.lt
      have m0 := HM.out.c0; have m1 := HM.out.c1
      have hle := HB.out.size
      have hz : w.heap.size + 1 < w1.heap.size := by have := HZ1.out; omega
      go_wp2
      exact bodyPost_ret (v := .agg #[.slice A1 k c1, .slice E1 k d1]) (by simp [results, Try.results60, go_sem, k0, k1]) rfl
        ⟨A1, c1, E1, d1, rfl, ((O1b.out.setBelow (by simp; omega) _).setBelow (by simp; omega) _).mono (by omega), ((O2b.out.setBelow (by simp; omega) _).setBelow (by simp; omega) _).mono (by omega), ((HB.out.trans (HN.out.mono hle)).setCell (by simp) _).setCell (by simp) _⟩

end Go.Proofs.Ytijddnllacphfaa

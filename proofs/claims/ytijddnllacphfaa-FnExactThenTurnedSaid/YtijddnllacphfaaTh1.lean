/- ThenTurned of the model. -/
import Derived.Test.YtijddnllacphfaaPr2
import Derived.Test.YtijddnllacphfaaTl1
import Derived.Deep.CutRange
namespace Go.Proofs.Ytijddnllacphfaa
open Go Go.RowKit

/-- the ends and the winds of one turned order and then another -/
def thE (zs xs : List Int) : List Int := (List.range zs.length).map fun (k : Nat) => gi xs (gi zs k).toNat
def thW (zs us vs : List Int) : List Int := (List.range zs.length).map fun (k : Nat) => gi us k + gi vs (gi zs k).toNat
theorem thE_length (zs xs : List Int) : (thE zs xs).length = zs.length := by simp [thE]
theorem thW_length (zs us vs : List Int) : (thW zs us vs).length = zs.length := by simp [thW]
theorem gi_thE (zs xs : List Int) {k : Nat} (h : k < zs.length) : gi (thE zs xs) k = gi xs (gi zs k).toNat := by
  rw [gi_lt (by rw [thE_length]; exact h)]; simp [thE]
theorem gi_thW (zs us vs : List Int) {k : Nat} (h : k < zs.length) : gi (thW zs us vs) k = gi us k + gi vs (gi zs k).toNat := by
  rw [gi_lt (by rw [thW_length]; exact h)]; simp [thW]
theorem thE_take (zs xs : List Int) {k : Nat} (h : k < zs.length) : (thE zs xs).take (k + 1) = (thE zs xs).take k ++ [gi xs (gi zs k).toNat] := by
  have hl := thE_length zs xs
  rw [List.take_succ_eq_append_getElem (by omega), ← gi_lt, gi_thE _ _ h]
theorem thW_take (zs us vs : List Int) {k : Nat} (h : k < zs.length) : (thW zs us vs).take (k + 1) = (thW zs us vs).take k ++ [gi us k + gi vs (gi zs k).toNat] := by
  have hl := thW_length zs us vs
  rw [List.take_succ_eq_append_getElem (by omega), ← gi_lt, gi_thW _ _ _ h]
/-- do both fit -/
def thA (zs us xs vs : List Int) : Bool := trn zs us && trn xs vs && (zs.length == xs.length)
def thB (zs us xs vs : List Int) : Bool := thA zs us xs vs && trn (thE zs xs) (thW zs us vs)
theorem thE_len (zs us xs vs : List Int) : (ifL (thB zs us xs vs) (thE zs xs)).length ≤ 1000 := by
  rcases h : thB zs us xs vs with _ | _
  · rw [ifL_no]; simp
  · rw [ifL_yes, thE_length]
    simp only [thB, thA, Bool.and_eq_true] at h
    have := (TOk.of h.1.1.1).n8
    omega
theorem thW_len (zs us xs vs : List Int) : (ifL (thB zs us xs vs) (thW zs us vs)).length ≤ 1000 := by
  rcases h : thB zs us xs vs with _ | _
  · rw [ifL_no]; simp
  · rw [ifL_yes, thW_length]
    simp only [thB, thA, Bool.and_eq_true] at h
    have := (TOk.of h.1.1.1).n8
    omega

set_option maxRecDepth 100000 in
set_option maxHeartbeats 4000000 in
theorem poThen_any (A : Option Addr) (n c : Nat) (zs : List Int) (E : Option Addr) (m d : Nat) (us : List Int) (A' : Option Addr) (n' c' : Nat) (xs : List Int) (E' : Option Addr) (m' d' : Nat) (vs : List Int) (w : World) (h : RI w A n zs) (g : RI w E m us) (h' : RI w A' n' xs) (g' : RI w E' m' vs) (ok : TOk zs us) (ok' : TOk xs vs) (hl : zs.length = xs.length) :
    Calls Try.prog 48 #[.agg #[.slice A n c, .slice E m d], .agg #[.slice A' n' c', .slice E' m' d']] w (fun e w' => ∃ (A9 : Option Addr) (c9 : Nat) (E9 : Option Addr) (d9 : Nat), e = .returned (.agg #[.slice A9 n c9, .slice E9 n d9]) ∧ OI w' w.heap.size A9 n c9 (thE zs xs) ∧ OI w' w.heap.size E9 n d9 (thW zs us vs) ∧ Below w.heap.size w w') := by
  have hzl := h.1; have hul := g.1; have hxl := h'.1; have hvl := g'.1
  have n3 := ok.n3; have n8 := ok.n8; have hln := ok.len; have hln' := ok'.len
  have hmn : n ≤ m := by omega
  have hn' : n ≤ n' := by omega
  have hm' : n ≤ m' := by omega
  have hn8 : n ≤ 8 := by omega
  have HZL := Lib.hid hzl
  have HR1 : Hid (RB w w.heap.size A n zs) := RB.of_ri h
  have HR2 : Hid (RB w w.heap.size E m us) := RB.of_ri g
  have HR3 : Hid (RB w w.heap.size A' n' xs) := RB.of_ri h'
  have HR4 : Hid (RB w w.heap.size E' m' vs) := RB.of_ri g'
  have HIN : Hid (∀ k : Nat, k < n → ∃ z : Nat, gi zs k = (z : Int) ∧ z < n ∧ (-20 ≤ gi us k ∧ gi us k ≤ 20) ∧ (-20 ≤ gi vs z ∧ gi vs z ≤ 20) ∧ (thE zs xs).take (k + 1) = (thE zs xs).take k ++ [gi xs z] ∧ (thW zs us vs).take (k + 1) = (thW zs us vs).take k ++ [gi us k + gi vs z]) := by
    intro k hk
    have h1 := ok.zr k (by omega)
    refine ⟨(gi zs k).toNat, by omega, by omega, ok.ur k (by omega), ok'.ur _ (by omega), thE_take zs xs (by omega), thW_take zs us vs (by omega)⟩
  clear hzl hul hxl hvl hln hln' ok ok' hl h g h' g'
  go_enter Try.func48, Try.ntmps48
  go_wp2
  obtain ⟨w1, hw1⟩ : ∃ w1, w1 = ((w.alloc (.cells #[.slice A n c, .slice E m d] 27)).alloc (.cells #[.slice A' n' c', .slice E' m' d'] 27)).alloc (.cells #[.slice none 0 0, .slice none 0 0] 27) := ⟨_, rfl⟩
  have HA : Hid (Cell2 w1 w.heap.size (.slice A n c) (.slice E m d)) := by rw [hw1]; exact cellAlloc (cellAlloc (cellNew w _ _ 27) _) _
  have HA' : Hid (Cell2 w1 (w.heap.size + 1) (.slice A' n' c') (.slice E' m' d')) := by
    have h1 := cellAlloc (cellNew (w.alloc (.cells #[.slice A n c, .slice E m d] 27)) (.slice A' n' c') (.slice E' m' d') 27) (.cells #[.slice none 0 0, .slice none 0 0] 27)
    simp only [World.size_alloc] at h1
    rw [hw1]; exact h1
  have HC : Hid (Cell2 w1 (w.heap.size + 2) (.slice none 0 0) (.slice none 0 0)) := by
    have h1 := cellNew ((w.alloc (.cells #[.slice A n c, .slice E m d] 27)).alloc (.cells #[.slice A' n' c', .slice E' m' d'] 27)) (.slice none 0 0) (.slice none 0 0) 27
    simp only [World.size_alloc] at h1
    rw [hw1]; exact h1
  have HB : Hid (Below w.heap.size w w1) := by rw [hw1]; exact belAlloc (belAlloc (belAlloc belRefl _) _) _
  have hz1 : w1.heap.size = w.heap.size + 3 := by rw [hw1]; simp
  have HM0 := cellNew w1 (.slice none 0 0) (.slice none 0 0) 27
  rw [← hw1]
  have HZ1 := Lib.hid hz1
  clear hw1
  have e12 : w.heap.size + 1 + 1 + 1 = w1.heap.size := by omega
  rw [e12]
  clear hz1 e12
  go_loopw [6, 7, 12] (fun _ _ i wr => ∃ (k : Nat) (A1 : Option Addr) (c1 : Nat) (E1 : Option Addr) (d1 : Nat), k ≤ n ∧ i = .int .i64 k ∧ Cell2 wr w1.heap.size (.slice A1 k c1) (.slice E1 k d1) ∧ OI wr (w1.heap.size + 1) A1 k c1 ((thE zs xs).take k) ∧ OI wr (w1.heap.size + 1) E1 k d1 ((thW zs us vs).take k) ∧ Apart A1 E1 ∧ Below w1.heap.size w1 wr) (fun _ _ i _ => n - (intOf i).toNat)
  case atStart => exact ⟨0, none, 0, none, 0, Nat.zero_le _, rfl, HM0.out, OI.none_ _ _, OI.none_ _ _, fun x hx => by simp [blk] at hx, (Below.refl _ _).alloc (Nat.le_refl _) _⟩
  case round =>
    obtain ⟨k, A1, c1, E1, d1, hk, rfl, hm, ho1, ho2, hap, hb⟩ := hrel
    have HM := Lib.hid hm; have O1 := Lib.hid ho1; have O2 := Lib.hid ho2; have HAP := Lib.hid hap; have HN := Lib.hid hb
    have HAr := cellBelow HA (by have := HZ1.out; omega) hb
    have HAr' := cellBelow HA' (by have := HZ1.out; omega) hb
    have HCr := cellBelow HC (by have := HZ1.out; omega) hb
    have a0 := HAr.out.c0; have a1 := HAr.out.c1
    have b0 := HAr'.out.c0; have b1 := HAr'.out.c1
    have hsz : w1.heap.size < wr.heap.size := HM.out.lt
    clear hm ho1 ho2 hap hb
    by_cases hlt : k < n
    · obtain ⟨z, hzk, hzn, hu, hv, ht1, ht2⟩ := HIN.out k hlt
      have HT1 := Lib.hid ht1; have HT2 := Lib.hid ht2
      have hbw : Below w.heap.size w wr := HB.out.trans (HN.out.mono HB.out.size)
      obtain ⟨ba, oa, ea, la, hca⟩ := HR1.out.2.2 (by omega)
      obtain ⟨be, oe, ee, le, hce⟩ := HR2.out.2.2 (by omega)
      obtain ⟨bx, ox, ex, lx, hcx⟩ := HR3.out.2.2 (by omega)
      obtain ⟨bv, ov, ev, lv, hcv⟩ := HR4.out.2.2 (by omega)
      subst ea ee ex ev
      obtain ⟨x, hx⟩ : ∃ x, x = gi xs z := ⟨_, rfl⟩
      obtain ⟨u, hu'⟩ : ∃ u, u = gi us k := ⟨_, rfl⟩
      obtain ⟨v, hv'⟩ : ∃ v, v = gi vs z := ⟨_, rfl⟩
      have K0 : Hid (∀ wi, Below w.heap.size w wi → wi.cell? ⟨ba, oa + k, none⟩ = some (.int .i64 (z : Int))) := fun wi hb => (hb.cell (p := ⟨ba, oa + k, none⟩) la).trans (by rw [hca k hlt, hzk])
      have K1 : Hid (∀ wi, Below w.heap.size w wi → wi.cell? ⟨be, oe + k, none⟩ = some (.int .i64 u)) := fun wi hb => (hb.cell (p := ⟨be, oe + k, none⟩) le).trans (by rw [hce k (by omega), hu'])
      have K2 : Hid (∀ wi, Below w.heap.size w wi → wi.cell? ⟨bx, ox + z, none⟩ = some (.int .i64 x)) := fun wi hb => (hb.cell (p := ⟨bx, ox + z, none⟩) lx).trans (by rw [hcx z (by omega), hx])
      have K3 : Hid (∀ wi, Below w.heap.size w wi → wi.cell? ⟨bv, ov + z, none⟩ = some (.int .i64 v)) := fun wi hb => (hb.cell (p := ⟨bv, ov + z, none⟩) lv).trans (by rw [hcv z (by omega), hv'])
      rw [← hx] at HT1
      rw [← hu'] at HT2 hu
      rw [← hv'] at HT2 hv
      have hwr : IntKind.i64.wrap (u + v) = u + v := IntWalk.i64_in _ (by omega)
      have k0 := K0.out wr hbw; have k2 := K2.out wr hbw
      clear ht1 ht2 hca hce hcx hcv hx hu' hv' hzk hbw hu hv K0 K2
      have m0 := HM.out.c0; have m1 := HM.out.c1; have mf0 := HM.out.f0; have mf1 := HM.out.f1
      have i0 : (0 : Int) ≤ (k : Int) := by omega
      have i1 : (k : Int) < (n : Int) := by omega
      have i2 : (0 : Int) ≤ (z : Int) := by omega
      have i3 : (z : Int) < (n' : Int) := by omega
      have i4 : (k : Int) < (m : Int) := by omega
      have i5 : (z : Int) < (m' : Int) := by omega
      go_wp2
      have BD0 : Hid (Below w1.heap.size wr wr.drew) := Lib.hid ((Below.refl _ _).drew)
      have hlw : w1.heap.size ≤ wr.heap.size := by omega
      go_cut [12] from 13 to 43 (fun s12 wx => s12 = .int .i64 (k : Int) ∧ ∃ (A3 : Option Addr) (c3 : Nat), Cell2 wx w1.heap.size (.slice A3 (k + 1) c3) (.slice E1 k d1) ∧ OI wx (w1.heap.size + 1) A3 (k + 1) c3 ((thE zs xs).take (k + 1)) ∧ OI wx (w1.heap.size + 1) E1 k d1 ((thW zs us vs).take k) ∧ Apart A3 E1 ∧ Below w1.heap.size w1 wx)
      case first =>
        go_region_law (refine step_append_intL _ rfl (.tmp 18) (.tmp 24) rfl (w1.heap.size + 1) A1 k c1 _ x wr.heap.size rfl rfl (by first | exact O1.out.alloc _ | exact oiD6 (O1.out.alloc _)) (by simp) (by omega) (by simp; omega) ?_; intro A3 c3 w3 ho3 hg3 hl3; have HM3 := cellKeptNe (cellDrew (cellAlloc HM _)) hg3 (oiD6 (O1.out.alloc _)) (Nat.lt_succ_self _); have n0 := HM3.out.c0; have n1 := HM3.out.c1; have nf0 := HM3.out.f0; have nf1 := HM3.out.f1; have nz := HM3.out.lt; have B53 : Hid (Below w1.heap.size wr w3) := Lib.hid ((BD0.out.alloc hlw _).trans (ofMark (K := w1.heap.size) (oiD6 (O1.out.alloc _)) hg3 (Nat.le_succ _) (by simp; omega))))
        all_goals
          have hbw : Below w1.heap.size w1 w3 := HN.out.trans B53.out
          have O2' : Hid (OI w3 (w1.heap.size + 1) E1 k d1 ((thW zs us vs).take k)) := Lib.hid ((oiD6 (O2.out.alloc _)).kept hg3 (fun x hx e => by first | exact HAP.out x e hx | exact HAP.out x hx e))
          have hap3 : Apart A3 E1 := HAP.out.new hl3 (oiD6 (O2.out.alloc _)) (Nat.le_refl _)
          have O1' := Lib.hid ho3
          go_wp2
          go_meet
          case rel =>
            refine ⟨rfl, A3, c3, ?_, ?_, ?_, hap3, hbw.setCell (Nat.le_refl _) _⟩
            · exact ⟨World.cell?_setCell_same _ _ _ n0, by rw [World.cell?_setCell_other _ _ _ _ (by simp)]; exact n1, by simpa [go_sem] using nf0, by simpa [go_sem] using nf1, by simpa using nz⟩
            · rw [HT1.out]; exact O1'.out.setBelow (by simp) _
            · exact O2'.out.setBelow (by simp) _
      case rest =>
        obtain ⟨rfl, A3, c3, hmb, hob1, hob2, hapb, hnb⟩ := hcut
        obtain ⟨w4, hw4⟩ : ∃ w4 : World, w4 = wc := ⟨_, rfl⟩
        subst hw4
        have HN4 := Lib.hid hnb; have O1b := Lib.hid hob1; have O2b := Lib.hid hob2; have HMb := Lib.hid hmb; have HAPb := Lib.hid hapb
        have hs4 := HN4.out.size
        have hz4 : w1.heap.size < w4.heap.size := HMb.out.lt
        have hbw4 : Below w.heap.size w w4 := HB.out.trans (HN4.out.mono HB.out.size)
        clear hmb hob1 hob2 hapb hnb a0 a1 b0 b1 k0 k2 m0 m1 mf0 mf1 BD0
        have k1 := K1.out w4 hbw4; have k3 := K3.out w4 hbw4
        have HAr := cellBelow HA (by have := HZ1.out; omega) HN4.out
        have HAr' := cellBelow HA' (by have := HZ1.out; omega) HN4.out
        have m0 := HMb.out.c0; have m1 := HMb.out.c1; have mf0 := HMb.out.f0; have mf1 := HMb.out.f1
        have a0 := HAr.out.c0; have a1 := HAr.out.c1
        have b0 := HAr'.out.c0; have b1 := HAr'.out.c1
        clear hbw4
        go_wp2
        have BD6 : Hid (Below w1.heap.size w4 w4.drew) := Lib.hid ((Below.refl _ _).drew)
        have hlw6 : w1.heap.size ≤ w4.heap.size := by omega
        go_region_law (refine step_append_intL _ rfl (.tmp 28) (.tmp 40) rfl (w1.heap.size + 1) E1 k d1 _ (u + v) w4.heap.size rfl rfl (by first | exact O2b.out.alloc _ | exact oiD6 (O2b.out.alloc _)) (by simp) (by omega) (by simp; omega) ?_; intro E5 d5 w5 ho5 hg5 hl5; have HM5 := cellKeptNe (cellDrew (cellAlloc HMb _)) hg5 (oiD6 (O2b.out.alloc _)) (Nat.lt_succ_self _); have n0 := HM5.out.c0; have n1 := HM5.out.c1; have nf0 := HM5.out.f0; have nf1 := HM5.out.f1; have nz := HM5.out.lt; have B65 : Hid (Below w1.heap.size w4 w5) := Lib.hid ((BD6.out.alloc hlw6 _).trans (ofMark (K := w1.heap.size) (oiD6 (O2b.out.alloc _)) hg5 (Nat.le_succ _) (by simp; omega))))
        all_goals
          go_wp2
          go_roundw
          case rel =>
            refine ⟨k + 1, A3, c3, E5, d5, by omega, by go_num, ?_, ?_, ?_, ?_, ?_⟩
            · exact (cellSet1 HM5 _).out
            · exact ((oiD6 (O1b.out.alloc _)).kept hg5 (fun x hx e => by first | exact HAPb.out x e hx | exact HAPb.out x hx e)).setBelow (by simp) _
            · rw [HT2.out]; exact ho5.setBelow (by simp) _
            · exact (HAPb.out.symm.new hl5 (oiD6 (O1b.out.alloc _)) (Nat.le_refl _)).symm
            · exact (HN4.out.trans B65.out).setCell (Nat.le_refl _) _
          case measure => simp [intOf]; omega
    · obtain rfl : k = n := by omega
      have e1 : (thE zs xs).take k = thE zs xs := List.take_of_length_le (by rw [thE_length, HZL.out]; exact Nat.le_refl _)
      have e2 : (thW zs us vs).take k = thW zs us vs := List.take_of_length_le (by rw [thW_length, HZL.out]; exact Nat.le_refl _)
      have O1b : Hid (OI wr (w1.heap.size + 1) A1 k c1 (thE zs xs)) := by have := O1.out; rwa [e1] at this
      have O2b : Hid (OI wr (w1.heap.size + 1) E1 k d1 (thW zs us vs)) := by have := O2.out; rwa [e2] at this
      have k0 := HCr.out.c0; have k1 := HCr.out.c1; have f0 := HCr.out.f0; have f1 := HCr.out.f1; have cz := HCr.out.lt
      have m0 := HM.out.c0; have m1 := HM.out.c1
      have hle := HB.out.size
      have hz : w.heap.size + 2 < w1.heap.size := by have := HZ1.out; omega
      go_wp2
      exact bodyPost_ret (v := .agg #[.slice A1 k c1, .slice E1 k d1]) (by simp [results, Try.results48, go_sem, k0, k1]) rfl
        ⟨A1, c1, E1, d1, rfl, ((O1b.out.setBelow (by simp; omega) _).setBelow (by simp; omega) _).mono (by omega), ((O2b.out.setBelow (by simp; omega) _).setBelow (by simp; omega) _).mono (by omega), ((HB.out.trans (HN.out.mono hle)).setCell (by simp; omega) _).setCell (by simp; omega) _⟩
end Go.Proofs.Ytijddnllacphfaa

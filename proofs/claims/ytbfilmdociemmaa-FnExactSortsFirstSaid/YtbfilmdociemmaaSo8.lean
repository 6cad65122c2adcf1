/- What rungs that compare make of values, by the program: the first loop. -/
import Derived.Test.YtbfilmdociemmaaSo7
namespace Go.Proofs.Ytbfilmdociemmaa
open Go Go.RowKit Go.Conc

/-- two rows lie in blocks that differ -/
def ApartC (A E : Option Addr) : Prop := ∀ x, blk A = some x → blk E ≠ some x
/-- what holds ahead of round k: what the wires carry, what is gathered -/
structure CD (w wm wr : World) (g n p : Nat) (C : Nat → Nat) (zs vs : List Int) (k : Nat) (E : Option Addr) (d : Nat) : Prop where
  och : OCh wr (w.heap.size + 1) g n C (fun j => some (gi (runK zs vs k) j))
  cel : Cell2 wr p (.slice none 0 0) (.slice E (exK zs vs k).length d)
  exs : OI wr (p + 1) E (exK zs vs k).length d (exK zs vs k)
  bel : Below (w.heap.size + 1) wm wr

set_option maxRecDepth 100000 in
set_option maxHeartbeats 2000000 in
theorem compareDown_any (A : Option Addr) (m c : Nat) (zs : List Int) (A2 : Option Addr) (n c2 : Nat) (vs : List Int) (w : World) (h : RI w A m zs) (h2 : RI w A2 n vs) (hn : n ≤ 8) (h0 : 0 < n) (hm : m ≤ 60) (hz : rungsIn zs n) :
    Calls Try.prog 43 #[.slice A m c, .slice A2 n c2] w fun e w' => ∃ A1 c1 E d, e = .returned (.agg #[.slice A1 n c1, .slice E (exL zs vs).length d]) ∧
      OI w' w.heap.size A1 n c1 (runS zs vs) ∧ OI w' w.heap.size E (exL zs vs).length d (exL zs vs) ∧ Below w.heap.size w w' := by
  have hzl := h.1
  have HC0 := cellNew w (.slice none 0 0) (.slice none 0 0) 51
  have H0 := Lib.hid h
  have HZ := Lib.hid hz
  go_enter Try.func43, Try.ntmps43
  go_wp2_with fail
  refine (carriersOf_any A2 n c2 vs _ (h2.alloc _) hn h0).mono ?_
  rintro e w1 ⟨g, C, rfl, hO, hb⟩
  have HO := Lib.hid hO
  replace HC0 := cellStep HC0 hb
  have HB : Hid (Below w.heap.size w w1) := Lib.hid (((Below.refl _ _).alloc (Nat.le_refl _) _).trans (hb.mono (by simp)))
  have hs1 : w.heap.size + 1 ≤ w1.heap.size := by have := hb.size; simpa using this
  have HCl : Hid (∀ j, j < n → C j < w1.heap.size) := Lib.hid (fun j hj => hO.chLt hj)
  have HCg : Hid (∀ j, j < n → w.heap.size + 1 ≤ C j) := Lib.hid (fun j hj => by have := hO.lo.2 j hj; simpa using this)
  have HGl : Hid (g < w1.heap.size) := Lib.hid hO.lt
  have h2l := Lib.hid h2.1
  clear hO hb h h2 hz
  go_wp2
  obtain ⟨wm, hwm⟩ : ∃ v : World, v = w1.alloc (.cells #[.slice none 0 0, .slice none 0 0] 51) := ⟨_, rfl⟩
  have HM0 := cellNew w1 (.slice none 0 0) (.slice none 0 0) 51
  replace HO := ochStep HO (allocBel w1 (.cells #[.slice none 0 0, .slice none 0 0] 51))
  replace HC0 := cellStep HC0 (allocBel w1 (.cells #[.slice none 0 0, .slice none 0 0] 51))
  replace HB := belStep HB (allocBel w1 (.cells #[.slice none 0 0, .slice none 0 0] 51))
  rw [← hwm] at HM0 HO HC0 HB ⊢
  simp only [World.size_alloc] at HO
  clear hwm
  go_loopw [18] (fun i wr => ∃ (k : Nat) (E : Option Addr) (d : Nat), k ≤ m ∧ i = .int .i64 k ∧ CD w wm wr g n w1.heap.size C zs vs k E d) (fun i _ => m - (intOf i).toNat)
  case atStart =>
    exact ⟨0, none, 0, Nat.zero_le _, rfl, ⟨HO.out.congr (fun j _ => by rw [runK_zero]), HM0.out, OI.none_ _ _, Below.refl _ _⟩⟩
  case round =>
    obtain ⟨k, E, d, hk, rfl, hcd⟩ := hrel
    by_cases hlt : k < m
    · have hkz : k < zs.length := by omega
      obtain ⟨r, hrr⟩ : ∃ r : Nat, gi zs k = (r : Int) := ⟨(gi zs k).toNat, by have := (HZ.out k hkz).1; omega⟩
      have hr : r + 1 < n := by have := (HZ.out k hkz).2; rw [hrr] at this; simpa using this
      have HB2 : Hid (Below w.heap.size w wr) := Lib.hid (HB.out.trans (hcd.bel.mono (Nat.le_succ _)))
      obtain ⟨b, off, rfl, hbw, hc⟩ := H0.out.cell hlt
      have hck : wr.cell? ⟨b, off + k, none⟩ = some (.int .i64 (r : Int)) := (HB2.out.cell (p := ⟨b, off + k, none⟩) hbw).trans (by rw [hc k hlt, hrr])
      obtain ⟨x, hx⟩ : ∃ x, x = gi (runK zs vs k) r := ⟨_, rfl⟩
      obtain ⟨y, hy⟩ : ∃ y, y = gi (runK zs vs k) (r + 1) := ⟨_, rfl⟩
      have HX := Lib.hid hx
      have HY := Lib.hid hy
      have hrk := runK_succ zs vs k hkz
      have hek := exK_succ zs vs k
      rw [hrr, Int.toNat_natCast] at hrk hek
      have hel := exK_le zs vs k
      have HRK := Lib.hid hrk
      have HEK := Lib.hid hek
      have HEL := Lib.hid hel
      have O1 := Lib.hid hcd.och
      have M1 := Lib.hid hcd.cel
      have E1 := Lib.hid hcd.exs
      have B1 := Lib.hid hcd.bel
      clear hcd hc hx hy hrk hek hel HB2
      by_cases hxy : y < x
      · go_wp2_with fail
        refine (take_any _ _ g n C _ O1.out r hr hn x y (by rw [HX.out]) (by rw [HY.out])).mono ?_
        rintro e w2 ⟨rfl, hO2, hS2⟩
        have O2 := Lib.hid hO2
        replace M1 := cell2Chan M1 hS2 (fun j hj e => by have := HCl.out j hj; omega)
        replace E1 := oiChan E1 hS2 (fun j hj => by have := HCl.out j hj; omega)
        replace B1 : Hid (Below (w.heap.size + 1) wm w2) := Lib.hid (B1.out.trans (hS2.below (by have := B1.out.size; have := HB.out.size; have := HM0.out.lt; omega) HCg.out))
        clear hO2 hS2 hck
        go_wp2_with fail
        refine (inOrder_yes x y _ hxy).mono ?_
        rintro e w2 ⟨rfl, rfl⟩
        go_wp2_with fail
        refine (put_any _ _ g n C _ O2.out r hr hn (by simp) (by simp) y x).mono ?_
        rintro e w3 ⟨rfl, hO3, hS3⟩
        have O3 : Hid (OCh w3 (w.heap.size + 1) g n C (fun j => some (gi (runK zs vs (k + 1)) j))) := Lib.hid (hO3.congr (fun j hj => by
          rw [HRK.out, gi_cmpAt _ _ _ (by rw [runK_length]; have := h2l.out; omega), ← HX.out, ← HY.out]
          by_cases e1 : j = r
          · rw [if_pos e1, if_pos e1]; congr 1; omega
          · rw [if_neg e1, if_neg e1]
            by_cases e2 : j = r + 1
            · rw [if_pos e2, if_pos e2]; congr 1; omega
            · rw [if_neg e2, if_neg e2, if_neg e1, if_neg e2]))
        replace M1 := cell2Chan M1 hS3 (fun j hj e => by have := HCl.out j hj; omega)
        replace E1 := oiChan E1 hS3 (fun j hj => by have := HCl.out j hj; omega)
        replace B1 : Hid (Below (w.heap.size + 1) wm w3) := Lib.hid (B1.out.trans (hS3.below (by have := B1.out.size; have := HB.out.size; have := HM0.out.lt; omega) HCg.out))
        have m0 := M1.out.c0; have m1 := M1.out.c1; have mf0 := M1.out.f0; have mf1 := M1.out.f1; have mz := M1.out.lt
        clear hO3 hS3 O1 O2
        go_wp2_with (at_builtin; refine wpList_append_intL _ rfl _ _ rfl (w1.heap.size + 1) E _ d _ (k : Int) w3.heap.size rfl rfl (E1.out.alloc _) (by simp) (by have := HEL.out; omega) (by simp; omega) ?_; intro E5 d5 w5 ho5 hg5 hl5; have M5 := cellKeptNe (cellAlloc M1 _) hg5 (E1.out.alloc _) (Nat.lt_succ_self _); have n0 := M5.out.c0; have n1 := M5.out.c1; have nf0 := M5.out.f0; have nf1 := M5.out.f1; have nz := M5.out.lt)
        go_roundw
        case rel =>
          refine ⟨k + 1, E5, d5, by omega, by go_num, ?_, ?_, ?_, ?_⟩
          · refine (ochSet (ochGrown (ochStep O3 (allocBel _ _)) hg5 (fun b' hb' => ?_)) _ ?_).out
            · have h5 := (E1.out.blk b' hb').1
              have h6 := HGl.out
              exact ⟨by omega, fun j hj => by have := HCl.out j hj; omega⟩
            · have h6 := HGl.out
              exact ⟨by simp; omega, fun j hj => by have := HCl.out j hj; simp; omega⟩
          · rw [HEK.out, if_pos (exAt_iff.2 (by rw [← HX.out, ← HY.out]; exact hxy)), List.length_append, List.length_singleton]
            exact (cellSet1 M5 _).out
          · rw [HEK.out, if_pos (exAt_iff.2 (by rw [← HX.out, ← HY.out]; exact hxy)), List.length_append, List.length_singleton]
            exact ho5.setBelow (by simp) _
          · exact (((B1.out.alloc (by have := B1.out.size; have := HM0.out.lt; omega) _).trans (ofMark (K := w.heap.size + 1) (E1.out.alloc _) hg5 (by omega) (by simp; omega))).setCell (by simp; omega) _)
        case measure => simp [intOf]; omega
      · go_wp2_with fail
        refine (take_any _ _ g n C _ O1.out r hr hn x y (by rw [HX.out]) (by rw [HY.out])).mono ?_
        rintro e w2 ⟨rfl, hO2, hS2⟩
        have O2 := Lib.hid hO2
        replace M1 := cell2Chan M1 hS2 (fun j hj e => by have := HCl.out j hj; omega)
        replace E1 := oiChan E1 hS2 (fun j hj => by have := HCl.out j hj; omega)
        replace B1 : Hid (Below (w.heap.size + 1) wm w2) := Lib.hid (B1.out.trans (hS2.below (by have := B1.out.size; have := HB.out.size; have := HM0.out.lt; omega) HCg.out))
        clear hO2 hS2 hck
        go_wp2_with fail
        refine (inOrder_no x y _ (by omega)).mono ?_
        rintro e w2 ⟨rfl, rfl⟩
        go_wp2_with fail
        refine (put_any _ _ g n C _ O2.out r hr hn (by simp) (by simp) x y).mono ?_
        rintro e w3 ⟨rfl, hO3, hS3⟩
        have O3 : Hid (OCh w3 (w.heap.size + 1) g n C (fun j => some (gi (runK zs vs (k + 1)) j))) := Lib.hid (hO3.congr (fun j hj => by
          rw [HRK.out, gi_cmpAt _ _ _ (by rw [runK_length]; have := h2l.out; omega), ← HX.out, ← HY.out]
          by_cases e1 : j = r
          · rw [if_pos e1, if_pos e1]; congr 1; omega
          · rw [if_neg e1, if_neg e1]
            by_cases e2 : j = r + 1
            · rw [if_pos e2, if_pos e2]; congr 1; omega
            · rw [if_neg e2, if_neg e2, if_neg e1, if_neg e2]))
        replace M1 := cell2Chan M1 hS3 (fun j hj e => by have := HCl.out j hj; omega)
        replace E1 := oiChan E1 hS3 (fun j hj => by have := HCl.out j hj; omega)
        replace B1 : Hid (Below (w.heap.size + 1) wm w3) := Lib.hid (B1.out.trans (hS3.below (by have := B1.out.size; have := HB.out.size; have := HM0.out.lt; omega) HCg.out))
        have m0 := M1.out.c0; have m1 := M1.out.c1; have mf0 := M1.out.f0; have mf1 := M1.out.f1; have mz := M1.out.lt
        clear hO3 hS3 O1 O2
        go_wp2
        go_roundw
        case rel =>
          have hx1 : exK zs vs (k + 1) = exK zs vs k := by
            rw [HEK.out, if_neg]
            intro e1
            have := exAt_iff.1 e1
            rw [← HX.out, ← HY.out] at this
            omega
          exact ⟨k + 1, E, d, by omega, by go_num, O3.out, by rw [hx1]; exact M1.out, by rw [hx1]; exact E1.out, B1.out⟩
        case measure => simp [intOf]; omega
    · obtain rfl : k = m := by omega
      have HO1 : Hid (OCh wr (w.heap.size + 1) g n C (fun j => some (gi (runS zs vs) j))) := Lib.hid (by rw [← runK_all, hzl]; exact hcd.och)
      have hxl : exK zs vs k = exL zs vs := by unfold exL; rw [hzl]
      have M1 : Hid (Cell2 wr w1.heap.size (.slice none 0 0) (.slice E (exL zs vs).length d)) := Lib.hid (by rw [← hxl]; exact hcd.cel)
      have E1 : Hid (OI wr (w1.heap.size + 1) E (exL zs vs).length d (exL zs vs)) := Lib.hid (by rw [← hxl]; exact hcd.exs)
      have B1 := Lib.hid hcd.bel
      obtain ⟨R, hR⟩ : ∃ R, R = runS zs vs := ⟨_, rfl⟩
      have hRl : R.length = n := by rw [hR, runS_length]; exact h2l.out
      obtain ⟨X, hX⟩ : ∃ X, X = exL zs vs := ⟨_, rfl⟩
      rw [← hR] at HO1
      rw [← hX] at M1 E1
      have HRl := Lib.hid hRl
      have HRR := Lib.hid hR
      have HXX := Lib.hid hX
      clear hcd hR hX hRl hxl
      go_wp2
      obtain ⟨wn, hwn⟩ : ∃ v : World, v = wr := ⟨_, rfl⟩
      subst hwn
      go_loopw [48] (fun i wr => ∃ (j : Nat) (A1 : Option Addr) (c1 : Nat), j ≤ n ∧ i = .int .i64 j ∧ OCh wr (w.heap.size + 1) g n C (fun q => if q < j then none else some (gi R q)) ∧
        Cell2 wr w1.heap.size (.slice A1 j c1) (.slice E X.length d) ∧ OI wr (w1.heap.size + 1) A1 j c1 (R.take j) ∧ OI wr (w1.heap.size + 1) E X.length d X ∧ ApartC A1 E ∧ Below (w.heap.size + 1) wm wr) (fun i _ => n - (intOf i).toNat)
      case atStart =>
        exact ⟨0, none, 0, Nat.zero_le _, rfl, HO1.out.congr (fun q _ => by simp), M1.out, OI.none_ _ _, E1.out, fun q hq => by simp [blk] at hq, B1.out⟩
      case round =>
        obtain ⟨j, A1, c1, hj, rfl, hO, hM, hA, hE, hap, hB⟩ := hrel
        have HO := Lib.hid hO; have HM := Lib.hid hM; have HA := Lib.hid hA; have HE := Lib.hid hE; have HAP := Lib.hid hap; have HBl := Lib.hid hB
        have m0 := hM.c0; have m1 := hM.c1; have mf0 := hM.f0; have mf1 := hM.f1; have mz := hM.lt
        have hwz : w.heap.size + 1 ≤ wr.heap.size := by omega
        clear hM hA hE hap hB
        by_cases hlt : j < n
        · obtain ⟨s1, r1, e1⟩ := hO.chan j hlt
          rw [if_neg (by omega)] at e1
          have cj := hO.cell j hlt
          obtain ⟨x, hx⟩ : ∃ x, x = gi R j := ⟨_, rfl⟩
          rw [← hx] at e1
          have e1d : wr.drew.heap[C j]? = some (.chan 1 (bufOf (some x)) false s1 r1 false) := e1
          have hgot : got false ((bufOf (some x)).getD 0 undef) true = .int .i64 x := rfl
          have hbx : (bufOf (some x)).extract 1 (bufOf (some x)).size = bufOf none := by simp [bufOf]
          obtain ⟨wq, hwq⟩ : ∃ v : World, v = wr.drew.setChan (C j) 1 (bufOf none) false s1 (r1 + 1) false := ⟨_, rfl⟩
          have hS : ChanStep wr wq n C := by rw [hwq]; exact (ChanStep.refl wr n C).drew.set hlt _ _ _ _ _ _
          have O2 : Hid (OCh wq (w.heap.size + 1) g n C (fun q => if q < j + 1 then none else some (gi R q))) := Lib.hid (by
            rw [hwq]
            refine (HO.out.drew.set hlt none s1 (r1 + 1)).congr (fun q _ => ?_)
            by_cases a1 : q = j
            · rw [if_pos a1, if_pos (by omega)]
            · rw [if_neg a1]
              by_cases a2 : q < j
              · rw [if_pos a2, if_pos (by omega)]
              · rw [if_neg a2, if_neg (by omega)])
          have hCj : ∀ q, q < n → C q < w1.heap.size := HCl.out
          have M2 := cell2Chan HM hS (fun q hq e => by have := hCj q hq; omega)
          have A2' := oiChan HA hS (fun q hq => by have := hCj q hq; omega)
          have E2 := oiChan HE hS (fun q hq => by have := hCj q hq; omega)
          have B2 : Hid (Below (w.heap.size + 1) wm wq) := Lib.hid (HBl.out.trans (hS.below hwz HCg.out))
          have q0 := M2.out.c0; have q1 := M2.out.c1; have qf0 := M2.out.f0; have qf1 := M2.out.f1; have qz := M2.out.lt
          have d0 : wr.drew.cell? ⟨w1.heap.size, 0, none⟩ = some (.slice A1 j c1) := m0
          have HX := Lib.hid hx
          have HWQ := Lib.hid hwq
          clear hO hS hx hwq
          have HF : ∀ (oo : Obj) (A3 : Option Addr) (c3 : Nat) (w3 : World), OI w3 (w1.heap.size + 1) A3 (j + 1) c3 (R.take j ++ [x]) → (wq.alloc oo).grownBy w3 (blk A1) → (blk A3 = blk A1 ∨ blk A3 = some (wq.alloc oo).heap.size) →
              ∃ (j' : Nat) (A1 : Option Addr) (c1 : Nat), j' ≤ n ∧ Value.int .i64 ((j : Int) + 1) = .int .i64 j' ∧ OCh (w3.setCell ⟨w1.heap.size, 0, none⟩ (.slice A3 (j + 1) c3)) (w.heap.size + 1) g n C (fun q => if q < j' then none else some (gi R q)) ∧
                Cell2 (w3.setCell ⟨w1.heap.size, 0, none⟩ (.slice A3 (j + 1) c3)) w1.heap.size (.slice A1 j' c1) (.slice E X.length d) ∧ OI (w3.setCell ⟨w1.heap.size, 0, none⟩ (.slice A3 (j + 1) c3)) (w1.heap.size + 1) A1 j' c1 (R.take j') ∧ OI (w3.setCell ⟨w1.heap.size, 0, none⟩ (.slice A3 (j + 1) c3)) (w1.heap.size + 1) E X.length d X ∧ ApartC A1 E ∧ Below (w.heap.size + 1) wm (w3.setCell ⟨w1.heap.size, 0, none⟩ (.slice A3 (j + 1) c3)) := by
            intro oo A3 c3 w3 ho3 hg3 hl3
            have M3 := cellKeptNe (cellAlloc M2 oo) hg3 (A2'.out.alloc oo) (Nat.lt_succ_self _)
            have htk : R.take (j + 1) = R.take j ++ [x] := by
              rw [List.take_succ_eq_append_getElem (by rw [HRl.out]; exact hlt), HX.out, gi_lt (by rw [HRl.out]; exact hlt)]
            refine ⟨j + 1, A3, c3, by omega, by go_num, ?_, ⟨World.cell?_setCell_same _ _ _ M3.out.c0, by rw [World.cell?_setCell_other _ _ _ _ (by simp)]; exact M3.out.c1, by simpa [go_sem] using M3.out.f0, by simpa [go_sem] using M3.out.f1, by simpa using M3.out.lt⟩, ?_, ?_, ?_, ?_⟩
            · refine (ochSet (ochGrown (ochStep O2 (allocBel wq oo)) hg3 (fun b' hb' => ?_)) _ ?_).out
              · have h5 := (A2'.out.blk b' hb').1
                have h6 := HGl.out
                exact ⟨by omega, fun q hq => by have := hCj q hq; omega⟩
              · have h6 := HGl.out
                exact ⟨by simp; omega, fun q hq => by have := hCj q hq; simp; omega⟩
            · rw [htk]; exact ho3.setBelow (by simp) _
            · exact ((E2.out.alloc oo).kept hg3 (fun q hq e => HAP.out q e hq)).setBelow (by simp) _
            · intro q hq e
              rcases hl3 with h7 | h7
              · exact HAP.out q (h7 ▸ hq) e
              · rw [h7] at hq
                have h8 := (E2.out.blk q e).2
                have h9 := Option.some.inj hq
                simp at h9
                omega
            · exact (((B2.out.alloc (by have := B2.out.size; have := HM0.out.lt; omega) oo).trans (ofMark (K := w.heap.size + 1) (A2'.out.alloc oo) hg3 (by omega) (by simp; omega))).setCell (by simp; omega) _)
          go_wp2
          (with_reducible refine wp_region_any_to (id := 14) (by kernel_rfl) ?_)
          simp only [List.size_toArray, List.length_cons, List.length_nil, Nat.reduceAdd, Nat.zero_add]
          refine anyTo_step (rs := [0, 2]) (by kernel_rfl) (by decide) ?_
          intro q_ hq_
          simp only [List.mem_cons, List.not_mem_nil, or_false] at hq_
          rcases hq_ with rfl | rfl
          · (refine stepTo_oper rfl rfl (fun K_ hK_ hS_ => ?_); go_simp; (first | refine hK_ _ _ ?_ | refine hS_ _ ?_); clear hK_ hS_ K_; simp only [Act.put, List.getElem_toArray, List.getElem_cons_zero, List.getElem_cons_succ, List.setIfInBounds_toArray, List.set_cons_zero, List.set_cons_succ])
            refine anyTo_step (rs := [1, 2]) (by kernel_rfl) (by decide) ?_
            intro q_ hq_
            simp only [List.mem_cons, List.not_mem_nil, or_false] at hq_
            rcases hq_ with rfl | rfl
            · (refine stepTo_oper rfl rfl (fun K_ hK_ hS_ => ?_); go_simp; (first | refine hK_ _ _ ?_ | refine hS_ _ ?_); clear hK_ hS_ K_; simp only [Act.put, List.getElem_toArray, List.getElem_cons_zero, List.getElem_cons_succ, List.setIfInBounds_toArray, List.set_cons_zero, List.set_cons_succ])
              refine anyTo_step (rs := [2]) (by kernel_rfl) (by decide) ?_
              intro q_ hq_
              simp only [List.mem_cons, List.not_mem_nil, or_false] at hq_
              subst hq_
              (refine stepTo_oper rfl rfl (fun K_ hK_ hS_ => ?_); go_simp; (first | refine hK_ _ _ ?_ | refine hS_ _ ?_); clear hK_ hS_ K_; simp only [Act.put, List.getElem_toArray, List.getElem_cons_zero, List.getElem_cons_succ, List.setIfInBounds_toArray, List.set_cons_zero, List.set_cons_succ])
              refine anyTo_step (rs := [3]) (by kernel_rfl) (by decide) ?_
              intro q_ hq_
              simp only [List.mem_cons, List.not_mem_nil, or_false] at hq_
              subst hq_
              refine stepTo_recv (c := C j) (z := .int .i64 0) (cap := 1) (buf := bufOf (some x)) (closed := false) (s := s1) (r := r1) (tm := false) (w1 := wr.drew) false rfl rfl (by simp [go_sem, execOp, rcase, Act.eval]) e1d (by simp [bufOf]) ?_
              simp only [Act.put, List.getElem_toArray, List.getElem_cons_zero, List.getElem_cons_succ, List.setIfInBounds_toArray, List.set_cons_zero, List.set_cons_succ]
              rw [hgot, hbx, ← HWQ.out]
              refine anyTo_step (rs := [4]) (by kernel_rfl) (by decide) ?_
              intro q_ hq_
              simp only [List.mem_cons, List.not_mem_nil, or_false] at hq_
              subst hq_
              (refine stepTo_oper rfl rfl (fun K_ hK_ hS_ => ?_); go_simp; (first | refine hK_ _ _ ?_ | refine hS_ _ ?_); clear hK_ hS_ K_; simp only [Act.put, List.getElem_toArray, List.getElem_cons_zero, List.getElem_cons_succ, List.setIfInBounds_toArray, List.set_cons_zero, List.set_cons_succ])
              refine anyTo_step (rs := [5]) (by kernel_rfl) (by decide) ?_
              intro q_ hq_
              simp only [List.mem_cons, List.not_mem_nil, or_false] at hq_
              subst hq_
              refine stepTo_append_intL _ rfl rfl (.tmp 53) (.tmp 56) rfl (w1.heap.size + 1) A1 j c1 _ x wq.heap.size rfl rfl (A2'.out.alloc _) (by simp) (by omega) (by simp; omega) ?_
              intro A3 c3 w3 ho3 hg3 hl3
              have M3 := cellKeptNe (cellAlloc M2 _) hg3 (A2'.out.alloc _) (Nat.lt_succ_self _)
              have n0 := M3.out.c0
              have n1 := M3.out.c1
              have nf0 := M3.out.f0
              have nf1 := M3.out.f1
              have nz := M3.out.lt
              simp only [Act.put, List.getElem_toArray, List.getElem_cons_zero, List.getElem_cons_succ, List.setIfInBounds_toArray, List.set_cons_zero, List.set_cons_succ]
              refine anyTo_step (rs := [6]) (by kernel_rfl) (by decide) ?_
              intro q_ hq_
              simp only [List.mem_cons, List.not_mem_nil, or_false] at hq_
              subst hq_
              (refine stepTo_oper rfl rfl (fun K_ hK_ hS_ => ?_); go_simp; (first | refine hK_ _ _ ?_ | refine hS_ _ ?_); clear hK_ hS_ K_; simp only [Act.put, List.getElem_toArray, List.getElem_cons_zero, List.getElem_cons_succ, List.setIfInBounds_toArray, List.set_cons_zero, List.set_cons_succ])
              refine anyTo_step (rs := [7]) (by kernel_rfl) (by decide) ?_
              intro q_ hq_
              simp only [List.mem_cons, List.not_mem_nil, or_false] at hq_
              subst hq_
              (refine stepTo_oper rfl rfl (fun K_ hK_ hS_ => ?_); go_simp; (first | refine hK_ _ _ ?_ | refine hS_ _ ?_); clear hK_ hS_ K_; simp only [Act.put, List.getElem_toArray, List.getElem_cons_zero, List.getElem_cons_succ, List.setIfInBounds_toArray, List.set_cons_zero, List.set_cons_succ])
              refine anyTo_end (by kernel_rfl) ?_
              have HFIN := HF _ A3 c3 w3 ho3 hg3 hl3
              clear ho3 hg3 hl3 M3 n0 n1 nf0 nf1 nz
              go_wp2
              go_roundw
              case rel => exact HFIN
              case measure => simp [intOf]; omega
            · (refine stepTo_oper rfl rfl (fun K_ hK_ hS_ => ?_); go_simp; (first | refine hK_ _ _ ?_ | refine hS_ _ ?_); clear hK_ hS_ K_; simp only [Act.put, List.getElem_toArray, List.getElem_cons_zero, List.getElem_cons_succ, List.setIfInBounds_toArray, List.set_cons_zero, List.set_cons_succ])
              refine anyTo_step (rs := [1, 3]) (by kernel_rfl) (by decide) ?_
              intro q_ hq_
              simp only [List.mem_cons, List.not_mem_nil, or_false] at hq_
              rcases hq_ with rfl | rfl
              · (refine stepTo_oper rfl rfl (fun K_ hK_ hS_ => ?_); go_simp; (first | refine hK_ _ _ ?_ | refine hS_ _ ?_); clear hK_ hS_ K_; simp only [Act.put, List.getElem_toArray, List.getElem_cons_zero, List.getElem_cons_succ, List.setIfInBounds_toArray, List.set_cons_zero, List.set_cons_succ])
                refine anyTo_step (rs := [3]) (by kernel_rfl) (by decide) ?_
                intro q_ hq_
                simp only [List.mem_cons, List.not_mem_nil, or_false] at hq_
                subst hq_
                refine stepTo_recv (c := C j) (z := .int .i64 0) (cap := 1) (buf := bufOf (some x)) (closed := false) (s := s1) (r := r1) (tm := false) (w1 := wr.drew) false rfl rfl (by simp [go_sem, execOp, rcase, Act.eval]) e1d (by simp [bufOf]) ?_
                simp only [Act.put, List.getElem_toArray, List.getElem_cons_zero, List.getElem_cons_succ, List.setIfInBounds_toArray, List.set_cons_zero, List.set_cons_succ]
                rw [hgot, hbx, ← HWQ.out]
                refine anyTo_step (rs := [4]) (by kernel_rfl) (by decide) ?_
                intro q_ hq_
                simp only [List.mem_cons, List.not_mem_nil, or_false] at hq_
                subst hq_
                (refine stepTo_oper rfl rfl (fun K_ hK_ hS_ => ?_); go_simp; (first | refine hK_ _ _ ?_ | refine hS_ _ ?_); clear hK_ hS_ K_; simp only [Act.put, List.getElem_toArray, List.getElem_cons_zero, List.getElem_cons_succ, List.setIfInBounds_toArray, List.set_cons_zero, List.set_cons_succ])
                refine anyTo_step (rs := [5]) (by kernel_rfl) (by decide) ?_
                intro q_ hq_
                simp only [List.mem_cons, List.not_mem_nil, or_false] at hq_
                subst hq_
                refine stepTo_append_intL _ rfl rfl (.tmp 53) (.tmp 56) rfl (w1.heap.size + 1) A1 j c1 _ x wq.heap.size rfl rfl (A2'.out.alloc _) (by simp) (by omega) (by simp; omega) ?_
                intro A3 c3 w3 ho3 hg3 hl3
                have M3 := cellKeptNe (cellAlloc M2 _) hg3 (A2'.out.alloc _) (Nat.lt_succ_self _)
                have n0 := M3.out.c0
                have n1 := M3.out.c1
                have nf0 := M3.out.f0
                have nf1 := M3.out.f1
                have nz := M3.out.lt
                simp only [Act.put, List.getElem_toArray, List.getElem_cons_zero, List.getElem_cons_succ, List.setIfInBounds_toArray, List.set_cons_zero, List.set_cons_succ]
                refine anyTo_step (rs := [6]) (by kernel_rfl) (by decide) ?_
                intro q_ hq_
                simp only [List.mem_cons, List.not_mem_nil, or_false] at hq_
                subst hq_
                (refine stepTo_oper rfl rfl (fun K_ hK_ hS_ => ?_); go_simp; (first | refine hK_ _ _ ?_ | refine hS_ _ ?_); clear hK_ hS_ K_; simp only [Act.put, List.getElem_toArray, List.getElem_cons_zero, List.getElem_cons_succ, List.setIfInBounds_toArray, List.set_cons_zero, List.set_cons_succ])
                refine anyTo_step (rs := [7]) (by kernel_rfl) (by decide) ?_
                intro q_ hq_
                simp only [List.mem_cons, List.not_mem_nil, or_false] at hq_
                subst hq_
                (refine stepTo_oper rfl rfl (fun K_ hK_ hS_ => ?_); go_simp; (first | refine hK_ _ _ ?_ | refine hS_ _ ?_); clear hK_ hS_ K_; simp only [Act.put, List.getElem_toArray, List.getElem_cons_zero, List.getElem_cons_succ, List.setIfInBounds_toArray, List.set_cons_zero, List.set_cons_succ])
                refine anyTo_end (by kernel_rfl) ?_
                have HFIN := HF _ A3 c3 w3 ho3 hg3 hl3
                clear ho3 hg3 hl3 M3 n0 n1 nf0 nf1 nz
                go_wp2
                go_roundw
                case rel => exact HFIN
                case measure => simp [intOf]; omega
              · refine stepTo_recv (c := C j) (z := .int .i64 0) (cap := 1) (buf := bufOf (some x)) (closed := false) (s := s1) (r := r1) (tm := false) (w1 := wr.drew) false rfl rfl (by simp [go_sem, execOp, rcase, Act.eval]) e1d (by simp [bufOf]) ?_
                simp only [Act.put, List.getElem_toArray, List.getElem_cons_zero, List.getElem_cons_succ, List.setIfInBounds_toArray, List.set_cons_zero, List.set_cons_succ]
                rw [hgot, hbx, ← HWQ.out]
                refine anyTo_step (rs := [1, 4]) (by kernel_rfl) (by decide) ?_
                intro q_ hq_
                simp only [List.mem_cons, List.not_mem_nil, or_false] at hq_
                rcases hq_ with rfl | rfl
                · (refine stepTo_oper rfl rfl (fun K_ hK_ hS_ => ?_); go_simp; (first | refine hK_ _ _ ?_ | refine hS_ _ ?_); clear hK_ hS_ K_; simp only [Act.put, List.getElem_toArray, List.getElem_cons_zero, List.getElem_cons_succ, List.setIfInBounds_toArray, List.set_cons_zero, List.set_cons_succ])
                  refine anyTo_step (rs := [4]) (by kernel_rfl) (by decide) ?_
                  intro q_ hq_
                  simp only [List.mem_cons, List.not_mem_nil, or_false] at hq_
                  subst hq_
                  (refine stepTo_oper rfl rfl (fun K_ hK_ hS_ => ?_); go_simp; (first | refine hK_ _ _ ?_ | refine hS_ _ ?_); clear hK_ hS_ K_; simp only [Act.put, List.getElem_toArray, List.getElem_cons_zero, List.getElem_cons_succ, List.setIfInBounds_toArray, List.set_cons_zero, List.set_cons_succ])
                  refine anyTo_step (rs := [5]) (by kernel_rfl) (by decide) ?_
                  intro q_ hq_
                  simp only [List.mem_cons, List.not_mem_nil, or_false] at hq_
                  subst hq_
                  refine stepTo_append_intL _ rfl rfl (.tmp 53) (.tmp 56) rfl (w1.heap.size + 1) A1 j c1 _ x wq.heap.size rfl rfl (A2'.out.alloc _) (by simp) (by omega) (by simp; omega) ?_
                  intro A3 c3 w3 ho3 hg3 hl3
                  have M3 := cellKeptNe (cellAlloc M2 _) hg3 (A2'.out.alloc _) (Nat.lt_succ_self _)
                  have n0 := M3.out.c0
                  have n1 := M3.out.c1
                  have nf0 := M3.out.f0
                  have nf1 := M3.out.f1
                  have nz := M3.out.lt
                  simp only [Act.put, List.getElem_toArray, List.getElem_cons_zero, List.getElem_cons_succ, List.setIfInBounds_toArray, List.set_cons_zero, List.set_cons_succ]
                  refine anyTo_step (rs := [6]) (by kernel_rfl) (by decide) ?_
                  intro q_ hq_
                  simp only [List.mem_cons, List.not_mem_nil, or_false] at hq_
                  subst hq_
                  (refine stepTo_oper rfl rfl (fun K_ hK_ hS_ => ?_); go_simp; (first | refine hK_ _ _ ?_ | refine hS_ _ ?_); clear hK_ hS_ K_; simp only [Act.put, List.getElem_toArray, List.getElem_cons_zero, List.getElem_cons_succ, List.setIfInBounds_toArray, List.set_cons_zero, List.set_cons_succ])
                  refine anyTo_step (rs := [7]) (by kernel_rfl) (by decide) ?_
                  intro q_ hq_
                  simp only [List.mem_cons, List.not_mem_nil, or_false] at hq_
                  subst hq_
                  (refine stepTo_oper rfl rfl (fun K_ hK_ hS_ => ?_); go_simp; (first | refine hK_ _ _ ?_ | refine hS_ _ ?_); clear hK_ hS_ K_; simp only [Act.put, List.getElem_toArray, List.getElem_cons_zero, List.getElem_cons_succ, List.setIfInBounds_toArray, List.set_cons_zero, List.set_cons_succ])
                  refine anyTo_end (by kernel_rfl) ?_
                  have HFIN := HF _ A3 c3 w3 ho3 hg3 hl3
                  clear ho3 hg3 hl3 M3 n0 n1 nf0 nf1 nz
                  go_wp2
                  go_roundw
                  case rel => exact HFIN
                  case measure => simp [intOf]; omega
                · (refine stepTo_oper rfl rfl (fun K_ hK_ hS_ => ?_); go_simp; (first | refine hK_ _ _ ?_ | refine hS_ _ ?_); clear hK_ hS_ K_; simp only [Act.put, List.getElem_toArray, List.getElem_cons_zero, List.getElem_cons_succ, List.setIfInBounds_toArray, List.set_cons_zero, List.set_cons_succ])
                  refine anyTo_step (rs := [1]) (by kernel_rfl) (by decide) ?_
                  intro q_ hq_
                  simp only [List.mem_cons, List.not_mem_nil, or_false] at hq_
                  subst hq_
                  (refine stepTo_oper rfl rfl (fun K_ hK_ hS_ => ?_); go_simp; (first | refine hK_ _ _ ?_ | refine hS_ _ ?_); clear hK_ hS_ K_; simp only [Act.put, List.getElem_toArray, List.getElem_cons_zero, List.getElem_cons_succ, List.setIfInBounds_toArray, List.set_cons_zero, List.set_cons_succ])
                  refine anyTo_step (rs := [5]) (by kernel_rfl) (by decide) ?_
                  intro q_ hq_
                  simp only [List.mem_cons, List.not_mem_nil, or_false] at hq_
                  subst hq_
                  refine stepTo_append_intL _ rfl rfl (.tmp 53) (.tmp 56) rfl (w1.heap.size + 1) A1 j c1 _ x wq.heap.size rfl rfl (A2'.out.alloc _) (by simp) (by omega) (by simp; omega) ?_
                  intro A3 c3 w3 ho3 hg3 hl3
                  have M3 := cellKeptNe (cellAlloc M2 _) hg3 (A2'.out.alloc _) (Nat.lt_succ_self _)
                  have n0 := M3.out.c0
                  have n1 := M3.out.c1
                  have nf0 := M3.out.f0
                  have nf1 := M3.out.f1
                  have nz := M3.out.lt
                  simp only [Act.put, List.getElem_toArray, List.getElem_cons_zero, List.getElem_cons_succ, List.setIfInBounds_toArray, List.set_cons_zero, List.set_cons_succ]
                  refine anyTo_step (rs := [6]) (by kernel_rfl) (by decide) ?_
                  intro q_ hq_
                  simp only [List.mem_cons, List.not_mem_nil, or_false] at hq_
                  subst hq_
                  (refine stepTo_oper rfl rfl (fun K_ hK_ hS_ => ?_); go_simp; (first | refine hK_ _ _ ?_ | refine hS_ _ ?_); clear hK_ hS_ K_; simp only [Act.put, List.getElem_toArray, List.getElem_cons_zero, List.getElem_cons_succ, List.setIfInBounds_toArray, List.set_cons_zero, List.set_cons_succ])
                  refine anyTo_step (rs := [7]) (by kernel_rfl) (by decide) ?_
                  intro q_ hq_
                  simp only [List.mem_cons, List.not_mem_nil, or_false] at hq_
                  subst hq_
                  (refine stepTo_oper rfl rfl (fun K_ hK_ hS_ => ?_); go_simp; (first | refine hK_ _ _ ?_ | refine hS_ _ ?_); clear hK_ hS_ K_; simp only [Act.put, List.getElem_toArray, List.getElem_cons_zero, List.getElem_cons_succ, List.setIfInBounds_toArray, List.set_cons_zero, List.set_cons_succ])
                  refine anyTo_end (by kernel_rfl) ?_
                  have HFIN := HF _ A3 c3 w3 ho3 hg3 hl3
                  clear ho3 hg3 hl3 M3 n0 n1 nf0 nf1 nz
                  go_wp2
                  go_roundw
                  case rel => exact HFIN
                  case measure => simp [intOf]; omega
          · (refine stepTo_oper rfl rfl (fun K_ hK_ hS_ => ?_); go_simp; (first | refine hK_ _ _ ?_ | refine hS_ _ ?_); clear hK_ hS_ K_; simp only [Act.put, List.getElem_toArray, List.getElem_cons_zero, List.getElem_cons_succ, List.setIfInBounds_toArray, List.set_cons_zero, List.set_cons_succ])
            refine anyTo_step (rs := [0, 3]) (by kernel_rfl) (by decide) ?_
            intro q_ hq_
            simp only [List.mem_cons, List.not_mem_nil, or_false] at hq_
            rcases hq_ with rfl | rfl
            · (refine stepTo_oper rfl rfl (fun K_ hK_ hS_ => ?_); go_simp; (first | refine hK_ _ _ ?_ | refine hS_ _ ?_); clear hK_ hS_ K_; simp only [Act.put, List.getElem_toArray, List.getElem_cons_zero, List.getElem_cons_succ, List.setIfInBounds_toArray, List.set_cons_zero, List.set_cons_succ])
              refine anyTo_step (rs := [1, 3]) (by kernel_rfl) (by decide) ?_
              intro q_ hq_
              simp only [List.mem_cons, List.not_mem_nil, or_false] at hq_
              rcases hq_ with rfl | rfl
              · (refine stepTo_oper rfl rfl (fun K_ hK_ hS_ => ?_); go_simp; (first | refine hK_ _ _ ?_ | refine hS_ _ ?_); clear hK_ hS_ K_; simp only [Act.put, List.getElem_toArray, List.getElem_cons_zero, List.getElem_cons_succ, List.setIfInBounds_toArray, List.set_cons_zero, List.set_cons_succ])
                refine anyTo_step (rs := [3]) (by kernel_rfl) (by decide) ?_
                intro q_ hq_
                simp only [List.mem_cons, List.not_mem_nil, or_false] at hq_
                subst hq_
                refine stepTo_recv (c := C j) (z := .int .i64 0) (cap := 1) (buf := bufOf (some x)) (closed := false) (s := s1) (r := r1) (tm := false) (w1 := wr.drew) false rfl rfl (by simp [go_sem, execOp, rcase, Act.eval]) e1d (by simp [bufOf]) ?_
                simp only [Act.put, List.getElem_toArray, List.getElem_cons_zero, List.getElem_cons_succ, List.setIfInBounds_toArray, List.set_cons_zero, List.set_cons_succ]
                rw [hgot, hbx, ← HWQ.out]
                refine anyTo_step (rs := [4]) (by kernel_rfl) (by decide) ?_
                intro q_ hq_
                simp only [List.mem_cons, List.not_mem_nil, or_false] at hq_
                subst hq_
                (refine stepTo_oper rfl rfl (fun K_ hK_ hS_ => ?_); go_simp; (first | refine hK_ _ _ ?_ | refine hS_ _ ?_); clear hK_ hS_ K_; simp only [Act.put, List.getElem_toArray, List.getElem_cons_zero, List.getElem_cons_succ, List.setIfInBounds_toArray, List.set_cons_zero, List.set_cons_succ])
                refine anyTo_step (rs := [5]) (by kernel_rfl) (by decide) ?_
                intro q_ hq_
                simp only [List.mem_cons, List.not_mem_nil, or_false] at hq_
                subst hq_
                refine stepTo_append_intL _ rfl rfl (.tmp 53) (.tmp 56) rfl (w1.heap.size + 1) A1 j c1 _ x wq.heap.size rfl rfl (A2'.out.alloc _) (by simp) (by omega) (by simp; omega) ?_
                intro A3 c3 w3 ho3 hg3 hl3
                have M3 := cellKeptNe (cellAlloc M2 _) hg3 (A2'.out.alloc _) (Nat.lt_succ_self _)
                have n0 := M3.out.c0
                have n1 := M3.out.c1
                have nf0 := M3.out.f0
                have nf1 := M3.out.f1
                have nz := M3.out.lt
                simp only [Act.put, List.getElem_toArray, List.getElem_cons_zero, List.getElem_cons_succ, List.setIfInBounds_toArray, List.set_cons_zero, List.set_cons_succ]
                refine anyTo_step (rs := [6]) (by kernel_rfl) (by decide) ?_
                intro q_ hq_
                simp only [List.mem_cons, List.not_mem_nil, or_false] at hq_
                subst hq_
                (refine stepTo_oper rfl rfl (fun K_ hK_ hS_ => ?_); go_simp; (first | refine hK_ _ _ ?_ | refine hS_ _ ?_); clear hK_ hS_ K_; simp only [Act.put, List.getElem_toArray, List.getElem_cons_zero, List.getElem_cons_succ, List.setIfInBounds_toArray, List.set_cons_zero, List.set_cons_succ])
                refine anyTo_step (rs := [7]) (by kernel_rfl) (by decide) ?_
                intro q_ hq_
                simp only [List.mem_cons, List.not_mem_nil, or_false] at hq_
                subst hq_
                (refine stepTo_oper rfl rfl (fun K_ hK_ hS_ => ?_); go_simp; (first | refine hK_ _ _ ?_ | refine hS_ _ ?_); clear hK_ hS_ K_; simp only [Act.put, List.getElem_toArray, List.getElem_cons_zero, List.getElem_cons_succ, List.setIfInBounds_toArray, List.set_cons_zero, List.set_cons_succ])
                refine anyTo_end (by kernel_rfl) ?_
                have HFIN := HF _ A3 c3 w3 ho3 hg3 hl3
                clear ho3 hg3 hl3 M3 n0 n1 nf0 nf1 nz
                go_wp2
                go_roundw
                case rel => exact HFIN
                case measure => simp [intOf]; omega
              · refine stepTo_recv (c := C j) (z := .int .i64 0) (cap := 1) (buf := bufOf (some x)) (closed := false) (s := s1) (r := r1) (tm := false) (w1 := wr.drew) false rfl rfl (by simp [go_sem, execOp, rcase, Act.eval]) e1d (by simp [bufOf]) ?_
                simp only [Act.put, List.getElem_toArray, List.getElem_cons_zero, List.getElem_cons_succ, List.setIfInBounds_toArray, List.set_cons_zero, List.set_cons_succ]
                rw [hgot, hbx, ← HWQ.out]
                refine anyTo_step (rs := [1, 4]) (by kernel_rfl) (by decide) ?_
                intro q_ hq_
                simp only [List.mem_cons, List.not_mem_nil, or_false] at hq_
                rcases hq_ with rfl | rfl
                · (refine stepTo_oper rfl rfl (fun K_ hK_ hS_ => ?_); go_simp; (first | refine hK_ _ _ ?_ | refine hS_ _ ?_); clear hK_ hS_ K_; simp only [Act.put, List.getElem_toArray, List.getElem_cons_zero, List.getElem_cons_succ, List.setIfInBounds_toArray, List.set_cons_zero, List.set_cons_succ])
                  refine anyTo_step (rs := [4]) (by kernel_rfl) (by decide) ?_
                  intro q_ hq_
                  simp only [List.mem_cons, List.not_mem_nil, or_false] at hq_
                  subst hq_
                  (refine stepTo_oper rfl rfl (fun K_ hK_ hS_ => ?_); go_simp; (first | refine hK_ _ _ ?_ | refine hS_ _ ?_); clear hK_ hS_ K_; simp only [Act.put, List.getElem_toArray, List.getElem_cons_zero, List.getElem_cons_succ, List.setIfInBounds_toArray, List.set_cons_zero, List.set_cons_succ])
                  refine anyTo_step (rs := [5]) (by kernel_rfl) (by decide) ?_
                  intro q_ hq_
                  simp only [List.mem_cons, List.not_mem_nil, or_false] at hq_
                  subst hq_
                  refine stepTo_append_intL _ rfl rfl (.tmp 53) (.tmp 56) rfl (w1.heap.size + 1) A1 j c1 _ x wq.heap.size rfl rfl (A2'.out.alloc _) (by simp) (by omega) (by simp; omega) ?_
                  intro A3 c3 w3 ho3 hg3 hl3
                  have M3 := cellKeptNe (cellAlloc M2 _) hg3 (A2'.out.alloc _) (Nat.lt_succ_self _)
                  have n0 := M3.out.c0
                  have n1 := M3.out.c1
                  have nf0 := M3.out.f0
                  have nf1 := M3.out.f1
                  have nz := M3.out.lt
                  simp only [Act.put, List.getElem_toArray, List.getElem_cons_zero, List.getElem_cons_succ, List.setIfInBounds_toArray, List.set_cons_zero, List.set_cons_succ]
                  refine anyTo_step (rs := [6]) (by kernel_rfl) (by decide) ?_
                  intro q_ hq_
                  simp only [List.mem_cons, List.not_mem_nil, or_false] at hq_
                  subst hq_
                  (refine stepTo_oper rfl rfl (fun K_ hK_ hS_ => ?_); go_simp; (first | refine hK_ _ _ ?_ | refine hS_ _ ?_); clear hK_ hS_ K_; simp only [Act.put, List.getElem_toArray, List.getElem_cons_zero, List.getElem_cons_succ, List.setIfInBounds_toArray, List.set_cons_zero, List.set_cons_succ])
                  refine anyTo_step (rs := [7]) (by kernel_rfl) (by decide) ?_
                  intro q_ hq_
                  simp only [List.mem_cons, List.not_mem_nil, or_false] at hq_
                  subst hq_
                  (refine stepTo_oper rfl rfl (fun K_ hK_ hS_ => ?_); go_simp; (first | refine hK_ _ _ ?_ | refine hS_ _ ?_); clear hK_ hS_ K_; simp only [Act.put, List.getElem_toArray, List.getElem_cons_zero, List.getElem_cons_succ, List.setIfInBounds_toArray, List.set_cons_zero, List.set_cons_succ])
                  refine anyTo_end (by kernel_rfl) ?_
                  have HFIN := HF _ A3 c3 w3 ho3 hg3 hl3
                  clear ho3 hg3 hl3 M3 n0 n1 nf0 nf1 nz
                  go_wp2
                  go_roundw
                  case rel => exact HFIN
                  case measure => simp [intOf]; omega
                · (refine stepTo_oper rfl rfl (fun K_ hK_ hS_ => ?_); go_simp; (first | refine hK_ _ _ ?_ | refine hS_ _ ?_); clear hK_ hS_ K_; simp only [Act.put, List.getElem_toArray, List.getElem_cons_zero, List.getElem_cons_succ, List.setIfInBounds_toArray, List.set_cons_zero, List.set_cons_succ])
                  refine anyTo_step (rs := [1]) (by kernel_rfl) (by decide) ?_
                  intro q_ hq_
                  simp only [List.mem_cons, List.not_mem_nil, or_false] at hq_
                  subst hq_
                  (refine stepTo_oper rfl rfl (fun K_ hK_ hS_ => ?_); go_simp; (first | refine hK_ _ _ ?_ | refine hS_ _ ?_); clear hK_ hS_ K_; simp only [Act.put, List.getElem_toArray, List.getElem_cons_zero, List.getElem_cons_succ, List.setIfInBounds_toArray, List.set_cons_zero, List.set_cons_succ])
                  refine anyTo_step (rs := [5]) (by kernel_rfl) (by decide) ?_
                  intro q_ hq_
                  simp only [List.mem_cons, List.not_mem_nil, or_false] at hq_
                  subst hq_
                  refine stepTo_append_intL _ rfl rfl (.tmp 53) (.tmp 56) rfl (w1.heap.size + 1) A1 j c1 _ x wq.heap.size rfl rfl (A2'.out.alloc _) (by simp) (by omega) (by simp; omega) ?_
                  intro A3 c3 w3 ho3 hg3 hl3
                  have M3 := cellKeptNe (cellAlloc M2 _) hg3 (A2'.out.alloc _) (Nat.lt_succ_self _)
                  have n0 := M3.out.c0
                  have n1 := M3.out.c1
                  have nf0 := M3.out.f0
                  have nf1 := M3.out.f1
                  have nz := M3.out.lt
                  simp only [Act.put, List.getElem_toArray, List.getElem_cons_zero, List.getElem_cons_succ, List.setIfInBounds_toArray, List.set_cons_zero, List.set_cons_succ]
                  refine anyTo_step (rs := [6]) (by kernel_rfl) (by decide) ?_
                  intro q_ hq_
                  simp only [List.mem_cons, List.not_mem_nil, or_false] at hq_
                  subst hq_
                  (refine stepTo_oper rfl rfl (fun K_ hK_ hS_ => ?_); go_simp; (first | refine hK_ _ _ ?_ | refine hS_ _ ?_); clear hK_ hS_ K_; simp only [Act.put, List.getElem_toArray, List.getElem_cons_zero, List.getElem_cons_succ, List.setIfInBounds_toArray, List.set_cons_zero, List.set_cons_succ])
                  refine anyTo_step (rs := [7]) (by kernel_rfl) (by decide) ?_
                  intro q_ hq_
                  simp only [List.mem_cons, List.not_mem_nil, or_false] at hq_
                  subst hq_
                  (refine stepTo_oper rfl rfl (fun K_ hK_ hS_ => ?_); go_simp; (first | refine hK_ _ _ ?_ | refine hS_ _ ?_); clear hK_ hS_ K_; simp only [Act.put, List.getElem_toArray, List.getElem_cons_zero, List.getElem_cons_succ, List.setIfInBounds_toArray, List.set_cons_zero, List.set_cons_succ])
                  refine anyTo_end (by kernel_rfl) ?_
                  have HFIN := HF _ A3 c3 w3 ho3 hg3 hl3
                  clear ho3 hg3 hl3 M3 n0 n1 nf0 nf1 nz
                  go_wp2
                  go_roundw
                  case rel => exact HFIN
                  case measure => simp [intOf]; omega
            · refine stepTo_recv (c := C j) (z := .int .i64 0) (cap := 1) (buf := bufOf (some x)) (closed := false) (s := s1) (r := r1) (tm := false) (w1 := wr.drew) false rfl rfl (by simp [go_sem, execOp, rcase, Act.eval]) e1d (by simp [bufOf]) ?_
              simp only [Act.put, List.getElem_toArray, List.getElem_cons_zero, List.getElem_cons_succ, List.setIfInBounds_toArray, List.set_cons_zero, List.set_cons_succ]
              rw [hgot, hbx, ← HWQ.out]
              refine anyTo_step (rs := [0, 4]) (by kernel_rfl) (by decide) ?_
              intro q_ hq_
              simp only [List.mem_cons, List.not_mem_nil, or_false] at hq_
              rcases hq_ with rfl | rfl
              · (refine stepTo_oper rfl rfl (fun K_ hK_ hS_ => ?_); go_simp; (first | refine hK_ _ _ ?_ | refine hS_ _ ?_); clear hK_ hS_ K_; simp only [Act.put, List.getElem_toArray, List.getElem_cons_zero, List.getElem_cons_succ, List.setIfInBounds_toArray, List.set_cons_zero, List.set_cons_succ])
                refine anyTo_step (rs := [1, 4]) (by kernel_rfl) (by decide) ?_
                intro q_ hq_
                simp only [List.mem_cons, List.not_mem_nil, or_false] at hq_
                rcases hq_ with rfl | rfl
                · (refine stepTo_oper rfl rfl (fun K_ hK_ hS_ => ?_); go_simp; (first | refine hK_ _ _ ?_ | refine hS_ _ ?_); clear hK_ hS_ K_; simp only [Act.put, List.getElem_toArray, List.getElem_cons_zero, List.getElem_cons_succ, List.setIfInBounds_toArray, List.set_cons_zero, List.set_cons_succ])
                  refine anyTo_step (rs := [4]) (by kernel_rfl) (by decide) ?_
                  intro q_ hq_
                  simp only [List.mem_cons, List.not_mem_nil, or_false] at hq_
                  subst hq_
                  (refine stepTo_oper rfl rfl (fun K_ hK_ hS_ => ?_); go_simp; (first | refine hK_ _ _ ?_ | refine hS_ _ ?_); clear hK_ hS_ K_; simp only [Act.put, List.getElem_toArray, List.getElem_cons_zero, List.getElem_cons_succ, List.setIfInBounds_toArray, List.set_cons_zero, List.set_cons_succ])
                  refine anyTo_step (rs := [5]) (by kernel_rfl) (by decide) ?_
                  intro q_ hq_
                  simp only [List.mem_cons, List.not_mem_nil, or_false] at hq_
                  subst hq_
                  refine stepTo_append_intL _ rfl rfl (.tmp 53) (.tmp 56) rfl (w1.heap.size + 1) A1 j c1 _ x wq.heap.size rfl rfl (A2'.out.alloc _) (by simp) (by omega) (by simp; omega) ?_
                  intro A3 c3 w3 ho3 hg3 hl3
                  have M3 := cellKeptNe (cellAlloc M2 _) hg3 (A2'.out.alloc _) (Nat.lt_succ_self _)
                  have n0 := M3.out.c0
                  have n1 := M3.out.c1
                  have nf0 := M3.out.f0
                  have nf1 := M3.out.f1
                  have nz := M3.out.lt
                  simp only [Act.put, List.getElem_toArray, List.getElem_cons_zero, List.getElem_cons_succ, List.setIfInBounds_toArray, List.set_cons_zero, List.set_cons_succ]
                  refine anyTo_step (rs := [6]) (by kernel_rfl) (by decide) ?_
                  intro q_ hq_
                  simp only [List.mem_cons, List.not_mem_nil, or_false] at hq_
                  subst hq_
                  (refine stepTo_oper rfl rfl (fun K_ hK_ hS_ => ?_); go_simp; (first | refine hK_ _ _ ?_ | refine hS_ _ ?_); clear hK_ hS_ K_; simp only [Act.put, List.getElem_toArray, List.getElem_cons_zero, List.getElem_cons_succ, List.setIfInBounds_toArray, List.set_cons_zero, List.set_cons_succ])
                  refine anyTo_step (rs := [7]) (by kernel_rfl) (by decide) ?_
                  intro q_ hq_
                  simp only [List.mem_cons, List.not_mem_nil, or_false] at hq_
                  subst hq_
                  (refine stepTo_oper rfl rfl (fun K_ hK_ hS_ => ?_); go_simp; (first | refine hK_ _ _ ?_ | refine hS_ _ ?_); clear hK_ hS_ K_; simp only [Act.put, List.getElem_toArray, List.getElem_cons_zero, List.getElem_cons_succ, List.setIfInBounds_toArray, List.set_cons_zero, List.set_cons_succ])
                  refine anyTo_end (by kernel_rfl) ?_
                  have HFIN := HF _ A3 c3 w3 ho3 hg3 hl3
                  clear ho3 hg3 hl3 M3 n0 n1 nf0 nf1 nz
                  go_wp2
                  go_roundw
                  case rel => exact HFIN
                  case measure => simp [intOf]; omega
                · (refine stepTo_oper rfl rfl (fun K_ hK_ hS_ => ?_); go_simp; (first | refine hK_ _ _ ?_ | refine hS_ _ ?_); clear hK_ hS_ K_; simp only [Act.put, List.getElem_toArray, List.getElem_cons_zero, List.getElem_cons_succ, List.setIfInBounds_toArray, List.set_cons_zero, List.set_cons_succ])
                  refine anyTo_step (rs := [1]) (by kernel_rfl) (by decide) ?_
                  intro q_ hq_
                  simp only [List.mem_cons, List.not_mem_nil, or_false] at hq_
                  subst hq_
                  (refine stepTo_oper rfl rfl (fun K_ hK_ hS_ => ?_); go_simp; (first | refine hK_ _ _ ?_ | refine hS_ _ ?_); clear hK_ hS_ K_; simp only [Act.put, List.getElem_toArray, List.getElem_cons_zero, List.getElem_cons_succ, List.setIfInBounds_toArray, List.set_cons_zero, List.set_cons_succ])
                  refine anyTo_step (rs := [5]) (by kernel_rfl) (by decide) ?_
                  intro q_ hq_
                  simp only [List.mem_cons, List.not_mem_nil, or_false] at hq_
                  subst hq_
                  refine stepTo_append_intL _ rfl rfl (.tmp 53) (.tmp 56) rfl (w1.heap.size + 1) A1 j c1 _ x wq.heap.size rfl rfl (A2'.out.alloc _) (by simp) (by omega) (by simp; omega) ?_
                  intro A3 c3 w3 ho3 hg3 hl3
                  have M3 := cellKeptNe (cellAlloc M2 _) hg3 (A2'.out.alloc _) (Nat.lt_succ_self _)
                  have n0 := M3.out.c0
                  have n1 := M3.out.c1
                  have nf0 := M3.out.f0
                  have nf1 := M3.out.f1
                  have nz := M3.out.lt
                  simp only [Act.put, List.getElem_toArray, List.getElem_cons_zero, List.getElem_cons_succ, List.setIfInBounds_toArray, List.set_cons_zero, List.set_cons_succ]
                  refine anyTo_step (rs := [6]) (by kernel_rfl) (by decide) ?_
                  intro q_ hq_
                  simp only [List.mem_cons, List.not_mem_nil, or_false] at hq_
                  subst hq_
                  (refine stepTo_oper rfl rfl (fun K_ hK_ hS_ => ?_); go_simp; (first | refine hK_ _ _ ?_ | refine hS_ _ ?_); clear hK_ hS_ K_; simp only [Act.put, List.getElem_toArray, List.getElem_cons_zero, List.getElem_cons_succ, List.setIfInBounds_toArray, List.set_cons_zero, List.set_cons_succ])
                  refine anyTo_step (rs := [7]) (by kernel_rfl) (by decide) ?_
                  intro q_ hq_
                  simp only [List.mem_cons, List.not_mem_nil, or_false] at hq_
                  subst hq_
                  (refine stepTo_oper rfl rfl (fun K_ hK_ hS_ => ?_); go_simp; (first | refine hK_ _ _ ?_ | refine hS_ _ ?_); clear hK_ hS_ K_; simp only [Act.put, List.getElem_toArray, List.getElem_cons_zero, List.getElem_cons_succ, List.setIfInBounds_toArray, List.set_cons_zero, List.set_cons_succ])
                  refine anyTo_end (by kernel_rfl) ?_
                  have HFIN := HF _ A3 c3 w3 ho3 hg3 hl3
                  clear ho3 hg3 hl3 M3 n0 n1 nf0 nf1 nz
                  go_wp2
                  go_roundw
                  case rel => exact HFIN
                  case measure => simp [intOf]; omega
              · (refine stepTo_oper rfl rfl (fun K_ hK_ hS_ => ?_); go_simp; (first | refine hK_ _ _ ?_ | refine hS_ _ ?_); clear hK_ hS_ K_; simp only [Act.put, List.getElem_toArray, List.getElem_cons_zero, List.getElem_cons_succ, List.setIfInBounds_toArray, List.set_cons_zero, List.set_cons_succ])
                refine anyTo_step (rs := [0]) (by kernel_rfl) (by decide) ?_
                intro q_ hq_
                simp only [List.mem_cons, List.not_mem_nil, or_false] at hq_
                subst hq_
                (refine stepTo_oper rfl rfl (fun K_ hK_ hS_ => ?_); go_simp; (first | refine hK_ _ _ ?_ | refine hS_ _ ?_); clear hK_ hS_ K_; simp only [Act.put, List.getElem_toArray, List.getElem_cons_zero, List.getElem_cons_succ, List.setIfInBounds_toArray, List.set_cons_zero, List.set_cons_succ])
                refine anyTo_step (rs := [1]) (by kernel_rfl) (by decide) ?_
                intro q_ hq_
                simp only [List.mem_cons, List.not_mem_nil, or_false] at hq_
                subst hq_
                (refine stepTo_oper rfl rfl (fun K_ hK_ hS_ => ?_); go_simp; (first | refine hK_ _ _ ?_ | refine hS_ _ ?_); clear hK_ hS_ K_; simp only [Act.put, List.getElem_toArray, List.getElem_cons_zero, List.getElem_cons_succ, List.setIfInBounds_toArray, List.set_cons_zero, List.set_cons_succ])
                refine anyTo_step (rs := [5]) (by kernel_rfl) (by decide) ?_
                intro q_ hq_
                simp only [List.mem_cons, List.not_mem_nil, or_false] at hq_
                subst hq_
                refine stepTo_append_intL _ rfl rfl (.tmp 53) (.tmp 56) rfl (w1.heap.size + 1) A1 j c1 _ x wq.heap.size rfl rfl (A2'.out.alloc _) (by simp) (by omega) (by simp; omega) ?_
                intro A3 c3 w3 ho3 hg3 hl3
                have M3 := cellKeptNe (cellAlloc M2 _) hg3 (A2'.out.alloc _) (Nat.lt_succ_self _)
                have n0 := M3.out.c0
                have n1 := M3.out.c1
                have nf0 := M3.out.f0
                have nf1 := M3.out.f1
                have nz := M3.out.lt
                simp only [Act.put, List.getElem_toArray, List.getElem_cons_zero, List.getElem_cons_succ, List.setIfInBounds_toArray, List.set_cons_zero, List.set_cons_succ]
                refine anyTo_step (rs := [6]) (by kernel_rfl) (by decide) ?_
                intro q_ hq_
                simp only [List.mem_cons, List.not_mem_nil, or_false] at hq_
                subst hq_
                (refine stepTo_oper rfl rfl (fun K_ hK_ hS_ => ?_); go_simp; (first | refine hK_ _ _ ?_ | refine hS_ _ ?_); clear hK_ hS_ K_; simp only [Act.put, List.getElem_toArray, List.getElem_cons_zero, List.getElem_cons_succ, List.setIfInBounds_toArray, List.set_cons_zero, List.set_cons_succ])
                refine anyTo_step (rs := [7]) (by kernel_rfl) (by decide) ?_
                intro q_ hq_
                simp only [List.mem_cons, List.not_mem_nil, or_false] at hq_
                subst hq_
                (refine stepTo_oper rfl rfl (fun K_ hK_ hS_ => ?_); go_simp; (first | refine hK_ _ _ ?_ | refine hS_ _ ?_); clear hK_ hS_ K_; simp only [Act.put, List.getElem_toArray, List.getElem_cons_zero, List.getElem_cons_succ, List.setIfInBounds_toArray, List.set_cons_zero, List.set_cons_succ])
                refine anyTo_end (by kernel_rfl) ?_
                have HFIN := HF _ A3 c3 w3 ho3 hg3 hl3
                clear ho3 hg3 hl3 M3 n0 n1 nf0 nf1 nz
                go_wp2
                go_roundw
                case rel => exact HFIN
                case measure => simp [intOf]; omega
        · obtain rfl : j = n := by omega
          have e2 : R.take j = R := List.take_of_length_le (by rw [HRl.out]; exact Nat.le_refl _)
          have HCr : Hid (Cell2 wr w.heap.size (.slice none 0 0) (.slice none 0 0)) := cellBelow HC0 (Nat.lt_succ_self _) HBl.out
          have k0 := HCr.out.c0; have k1 := HCr.out.c1; have f0 := HCr.out.f0; have f1 := HCr.out.f1
          have HA' : Hid (OI wr (w1.heap.size + 1) A1 j c1 R) := Lib.hid (by have := HA.out; rwa [e2] at this)
          have hw0 : w.heap.size < wr.heap.size := by omega
          clear hO e2
          go_wp2
          exact bodyPost_ret (v := .agg #[.slice A1 j c1, .slice E X.length d]) (by simp [results, Try.results43, go_sem, k0, k1]) rfl
            ⟨A1, c1, E, d, by rw [HXX.out], ((by rw [← HRR.out]; exact ((HA'.out.setBelow (by simp; omega) _).setBelow (by simp; omega) _).mono (by omega))), (by rw [← HXX.out]; exact ((HE.out.setBelow (by simp; omega) _).setBelow (by simp; omega) _).mono (by omega)), (((HB.out.trans (HBl.out.mono (Nat.le_succ _))).setCell (by simp) _).setCell (by simp) _)⟩
end Go.Proofs.Ytbfilmdociemmaa

/- PoleDescents, of both. -/
import Derived.Test.YtpkdeoehfnnchaaTp1
import Derived.Deep.RegionHeld3
namespace Go.Proofs.Ytpkdeoehfnnchaa
open Go Go.RowKit

/-- the descents among the first k numbers -/
def dscK (zs us : List Int) : Nat → List Int
  | 0 => []
  | k + 1 => if plc zs us ((k : Int) + 1) < plc zs us (k : Int) then dscK zs us k ++ [(k : Int)] else dscK zs us k
theorem dscK_yes {zs us : List Int} {k : Nat} (h : plc zs us ((k : Int) + 1) < plc zs us (k : Int)) : dscK zs us (k + 1) = dscK zs us k ++ [(k : Int)] := by rw [dscK, if_pos h]
theorem dscK_no {zs us : List Int} {k : Nat} (h : ¬ plc zs us ((k : Int) + 1) < plc zs us (k : Int)) : dscK zs us (k + 1) = dscK zs us k := by rw [dscK, if_neg h]
theorem dscK_len (zs us : List Int) : ∀ k, (dscK zs us k).length ≤ k
  | 0 => Nat.le_refl _
  | k + 1 => by
    have := dscK_len zs us k
    by_cases h : plc zs us ((k : Int) + 1) < plc zs us (k : Int)
    · rw [dscK_yes h, List.length_append]; simp; omega
    · rw [dscK_no h]; omega
def dscN (zs us : List Int) : List Int := if trn zs us = true then dscK zs us zs.length else []
theorem dscN_yes {zs us : List Int} (h : trn zs us = true) : dscN zs us = dscK zs us zs.length := by unfold dscN; rw [if_pos h]
theorem dscN_no {zs us : List Int} (h : trn zs us = false) : dscN zs us = [] := by unfold dscN; rw [h]; rfl
theorem dscN_len (zs us : List Int) : (dscN zs us).length ≤ 1000 := by
  rcases h : trn zs us with _ | _
  · rw [dscN_no h]; simp
  · rw [dscN_yes h]; have := dscK_len zs us zs.length; have := (TOk.of h).n8; omega
theorem plc_in {zs us : List Int} (ok : TOk zs us) (i : Int) (hi : -1000000 ≤ i ∧ i ≤ 1000000) : -2000000 ≤ plc zs us i ∧ plc zs us i ≤ 2000000 := by
  have n3 := ok.n3; have n8 := ok.n8
  have hk0 := Int.emod_nonneg i (b := (zs.length : Int)) (by omega)
  have hk1 := Int.emod_lt_of_pos i (b := (zs.length : Int)) (by omega)
  unfold plc
  obtain ⟨k, hk⟩ : ∃ k : Nat, i % (zs.length : Int) = (k : Int) := ⟨(i % (zs.length : Int)).toNat, by omega⟩
  rw [hk] at hk0 hk1 ⊢
  rw [Int.toNat_natCast]
  have h1 := ok.zr k (by omega)
  have h2 := ok.ur k (by omega)
  have h3 := mulIn (W := (zs.length : Int)) (b := gi us k) (B := 20) (by omega) (by omega) (by omega) (by omega)
  omega

set_option maxRecDepth 100000 in
set_option maxHeartbeats 500000 in
theorem poDescents_any (A : Option Addr) (n c : Nat) (zs : List Int) (E : Option Addr) (m d : Nat) (us : List Int) (w : World) (h : RI w A n zs) (g : RI w E m us) (ok : TOk zs us) :
    Calls Try.prog 29 #[.agg #[.slice A n c, .slice E m d]] w (FreshI w (dscK zs us n).length (dscK zs us n)) := by
  have hn8 : n ≤ 8 := by have := ok.n8; rw [h.1] at this; exact this
  have HOK := Lib.hid ok
  have HA0 : Hid (RB w w.heap.size A n zs) := RB.of_ri h
  have HE0 : Hid (RB w w.heap.size E m us) := RB.of_ri g
  clear h g ok
  go_enter Try.func29, Try.ntmps29
  go_wp2
  obtain ⟨w1, hw1⟩ : ∃ w1, w1 = w.alloc (.cells #[.slice A n c, .slice E m d] 30) := ⟨_, rfl⟩
  have HC : Hid (Cell2 w1 w.heap.size (.slice A n c) (.slice E m d)) := by rw [hw1]; exact cellNew w _ _ _
  have HB : Hid (Below w.heap.size w w1) := by rw [hw1]; exact belAlloc belRefl _
  have HZ := Lib.hid HC.out.lt
  rw [← hw1]
  clear hw1
  go_loopw [3, 4, 8] (fun v _ i wr => ∃ (k : Nat) (A1 : Option Addr) (c1 : Nat), k ≤ n ∧ i = .int .i64 k ∧ v = .slice A1 (dscK zs us k).length c1 ∧ OI wr w1.heap.size A1 (dscK zs us k).length c1 (dscK zs us k) ∧ Below w1.heap.size w1 wr) (fun _ _ i _ => n - (intOf i).toNat)
  case atStart => exact ⟨0, none, 0, Nat.zero_le _, rfl, rfl, OI.none_ _ _, Below.refl _ _⟩
  case round =>
    obtain ⟨k, A1, c1, hk, rfl, rfl, ho, hbl⟩ := hrel
    have HO := Lib.hid ho
    have HN := Lib.hid hbl
    have HBr : Hid (Below w.heap.size w wr) := Lib.hid (HB.out.trans (hbl.mono (Nat.le_of_lt HZ.out)))
    have HCr : Hid (Cell2 wr w.heap.size (.slice A n c) (.slice E m d)) := cellBelow HC HZ.out hbl
    have p0 := HCr.out.c0; have p1 := HCr.out.c1; have pz := HCr.out.lt
    have hkl := dscK_len zs us k
    clear ho hbl
    by_cases hlt : k < n
    · have hpx := plc_in HOK.out (k : Int) (by omega)
      have hpy := plc_in HOK.out ((k : Int) + 1) (by omega)
      have hxy := @dscK_yes zs us k
      have hxn := @dscK_no zs us k
      obtain ⟨x, hx⟩ : ∃ x, x = plc zs us (k : Int) := ⟨_, rfl⟩
      obtain ⟨y, hy⟩ : ∃ y, y = plc zs us ((k : Int) + 1) := ⟨_, rfl⟩
      rw [← hx] at hpx hxy hxn
      rw [← hy] at hpy hxy hxn
      have HX := Lib.hid hx; have HY := Lib.hid hy
      have hwk : IntKind.i64.wrap ((k : Int) + 1) = (k : Int) + 1 := IntWalk.i64_in _ (by omega)
      clear hx hy
      by_cases hc : y < x
      · have HD := Lib.hid (hxy hc)
        clear hxy hxn
        go_wp2_with fail
        go_region_held3 (fun w' => w'.cell? ⟨w.heap.size, 0, none⟩ = some (.slice A n c) ∧ w'.cell? ⟨w.heap.size, 1, none⟩ = some (.slice E m d))
          (first | exact ⟨HCr.out.c0, HCr.out.c1⟩ | exact ⟨HC6.out.c0, HC6.out.c1⟩ | exact ⟨HC7.out.c0, HC7.out.c1⟩)
          (first
            | (go_at_call 41; have hx := HC6.out.c0; clear hx; refine (poPlace_any A n c zs E m d us ((k : Int) + 1) _ (rbK HA0 (HB6.out)) (rbK HE0 (HB6.out)) HOK.out (by omega)).mono ?_; rw [← HY.out]; rintro e w7 ⟨rfl, hb⟩; have HC7 := cellStep HC6 hb; have HB7 := belStep HB6 hb; have HO7 := oiStep HO6 hb; have HN7 : Hid (Below w1.heap.size w1 w7) := Lib.hid (HN6.out.trans (hb.mono HN6.out.size)); clear hb)
            | (go_at_call 41; refine (poPlace_any A n c zs E m d us (k : Int) _ (rbK HA0 (HBr.out.drew)) (rbK HE0 (HBr.out.drew)) HOK.out (by omega)).mono ?_; rw [← HX.out]; rintro e w6 ⟨rfl, hb⟩; have HC6 := cellStep (cellDrew HCr) hb; have HB6 := belStep (belDrew HBr) hb; have HO6 := oiStep (oiDrew HO) hb; have HN6 : Hid (Below w1.heap.size w1 w6) := Lib.hid (HN.out.drew.trans (hb.mono HN.out.size)); clear hb))
        go_wp2_with (at_builtin; refine wpList_append_int _ rfl _ _ rfl w1.heap.size A1 (dscK zs us k).length c1 _ (k : Int) w7.heap.size rfl rfl (HO7.out.alloc _) (by simp) (by omega) (by have := HN7.out.size; simp; omega) ?_; intro A2 c2 w8 ho8 hg8)
        go_roundw
        case rel =>
          refine ⟨k + 1, A2, c2, by omega, by go_num, by rw [HD.out, List.length_append]; rfl, by rw [HD.out, List.length_append]; exact ho8, ?_⟩
          exact (HN7.out.alloc HN7.out.size _).trans (ofMark (HO7.out.alloc _) hg8 (Nat.le_refl _) (by have := HN7.out.size; simp; omega))
        case measure => simp [intOf]; omega
      · have hc' : x ≤ y := by omega
        have HD := Lib.hid (hxn hc)
        clear hxy hxn hc
        go_wp2_with fail
        go_region_held3 (fun w' => w'.cell? ⟨w.heap.size, 0, none⟩ = some (.slice A n c) ∧ w'.cell? ⟨w.heap.size, 1, none⟩ = some (.slice E m d))
          (first | exact ⟨HCr.out.c0, HCr.out.c1⟩ | exact ⟨HC6.out.c0, HC6.out.c1⟩ | exact ⟨HC7.out.c0, HC7.out.c1⟩)
          (first
            | (go_at_call 41; have hx := HC6.out.c0; clear hx; refine (poPlace_any A n c zs E m d us ((k : Int) + 1) _ (rbK HA0 (HB6.out)) (rbK HE0 (HB6.out)) HOK.out (by omega)).mono ?_; rw [← HY.out]; rintro e w7 ⟨rfl, hb⟩; have HC7 := cellStep HC6 hb; have HB7 := belStep HB6 hb; have HO7 := oiStep HO6 hb; have HN7 : Hid (Below w1.heap.size w1 w7) := Lib.hid (HN6.out.trans (hb.mono HN6.out.size)); clear hb)
            | (go_at_call 41; refine (poPlace_any A n c zs E m d us (k : Int) _ (rbK HA0 (HBr.out.drew)) (rbK HE0 (HBr.out.drew)) HOK.out (by omega)).mono ?_; rw [← HX.out]; rintro e w6 ⟨rfl, hb⟩; have HC6 := cellStep (cellDrew HCr) hb; have HB6 := belStep (belDrew HBr) hb; have HO6 := oiStep (oiDrew HO) hb; have HN6 : Hid (Below w1.heap.size w1 w6) := Lib.hid (HN.out.drew.trans (hb.mono HN.out.size)); clear hb))
        go_wp2
        go_roundw
        case rel => exact ⟨k + 1, A1, c1, by omega, by go_num, by rw [HD.out], by rw [HD.out]; exact HO7.out, HN7.out⟩
        case measure => simp [intOf]; omega
    · obtain rfl : k = n := by omega
      go_wp2
      go_ret
      exact ⟨A1, c1, rfl, HO.out.mono (Nat.le_of_lt HZ.out), HBr.out⟩

set_option maxRecDepth 100000 in
set_option maxHeartbeats 500000 in
theorem sPoleDescents_any (A : Option Addr) (n c : Nat) (zs : List Int) (E : Option Addr) (m d : Nat) (us : List Int) (w : World) (h : RI w A n zs) (g : RI w E m us) (hn : n ≤ 1048576) (hm : m ≤ 1048576) (hnc : n ≤ c) :
    Calls Try.prog 16 #[.agg #[.slice A n c, .slice E m d]] w (FreshIB w (dscN zs us).length (dscN zs us) (trn zs us)) := by
  have HA0 : Hid (RB w w.heap.size A n zs) := RB.of_ri h
  have HE0 : Hid (RB w w.heap.size E m us) := RB.of_ri g
  rcases ht : trn zs us with _ | _
  · rw [dscN_no ht]
    have HT := Lib.hid ht
    clear ht
    go_enter Try.func16, Try.ntmps16
    go_wp2_with fail
    have HB := belAlloc (belRefl (w := w)) (.cells #[.slice A n c, .slice E m d] 30)
    refine (poTurned_any A n c zs E m d us _ (h.alloc _) (g.alloc _) hn hm hnc).mono ?_
    rw [HT.out]
    rintro e w1 ⟨rfl, hb⟩
    replace HB := belStep HB hb
    clear hb h g
    go_wp2
    go_ret2
    exact ⟨none, 0, rfl, OI.none_ _ _, HB.out⟩
  · have HOK := Lib.hid (TOk.of ht)
    have hzl := h.1
    rw [dscN_yes ht, hzl]
    have HT := Lib.hid ht
    clear ht
    go_enter Try.func16, Try.ntmps16
    go_wp2_with fail
    have HC := cellNew w (.slice A n c) (.slice E m d) 30
    have HB := belAlloc (belRefl (w := w)) (.cells #[.slice A n c, .slice E m d] 30)
    refine (poTurned_any A n c zs E m d us _ (h.alloc _) (g.alloc _) hn hm hnc).mono ?_
    rw [HT.out]
    rintro e w1 ⟨rfl, hb⟩
    replace HC := cellStep HC hb
    replace HB := belStep HB hb
    have p0 := HC.out.c0; have p1 := HC.out.c1
    have z1 := HB.out.size
    clear hb h g
    go_wp2_with fail
    refine (poDescents_any A n c zs E m d us _ (rbK HA0 HB.out) (rbK HE0 HB.out) HOK.out).mono ?_
    rintro e w2 ⟨A2, c2, rfl, ho, hb⟩
    have HO := Lib.hid (ho.mono z1)
    replace HB := belStep HB hb
    clear hb ho
    go_wp2
    go_ret2
    exact ⟨A2, c2, rfl, HO.out, HB.out⟩

set_option maxRecDepth 100000 in
set_option maxHeartbeats 500000 in
theorem iPoleDescents_raw (A : Option Addr) (n c : Nat) (zs : List Int) (E : Option Addr) (m d : Nat) (us : List Int) (w : World) (h : RI w A n zs) (g : RI w E m us) (hn : n ≤ 1048576) (hm : m ≤ 1048576) :
    Calls Try.prog 17 #[.agg #[.slice A n c, .slice E m d]] w (FreshIB w (dscN zs us).length (dscN zs us) (trn zs us)) := by
  have HA0 : Hid (RB w w.heap.size A n zs) := RB.of_ri h
  have HE0 : Hid (RB w w.heap.size E m us) := RB.of_ri g
  rcases ht : trn zs us with _ | _
  · rw [dscN_no ht]
    have HT := Lib.hid ht
    clear ht
    go_enter Try.func17, Try.ntmps17
    go_wp2_with fail
    have HB := belAlloc (belRefl (w := w)) (.cells #[.slice A n c, .slice E m d] 30)
    refine (iIsTurned_any A n c zs E m d us _ (h.alloc _) (g.alloc _) hn hm).mono ?_
    rw [HT.out]
    rintro e w1 ⟨rfl, hb⟩
    replace HB := belStep HB hb
    clear hb h g
    go_wp2
    go_ret2
    exact ⟨none, 0, rfl, OI.none_ _ _, HB.out⟩
  · have HOK := Lib.hid (TOk.of ht)
    have hzl := h.1
    have hn8 : n ≤ 8 := by have := HOK.out.n8; rw [hzl] at this; exact this
    rw [dscN_yes ht, hzl]
    have HT := Lib.hid ht
    clear ht hzl
    go_enter Try.func17, Try.ntmps17
    go_wp2_with fail
    have HC := cellNew w (.slice A n c) (.slice E m d) 30
    have HB := belAlloc (belRefl (w := w)) (.cells #[.slice A n c, .slice E m d] 30)
    refine (iIsTurned_any A n c zs E m d us _ (h.alloc _) (g.alloc _) hn hm).mono ?_
    rw [HT.out]
    rintro e w1 ⟨rfl, hb⟩
    replace HC := cellStep HC hb
    replace HB := belStep HB hb
    have HZ := Lib.hid HC.out.lt
    have p0 := HC.out.c0; have p1 := HC.out.c1
    clear hb h g
    go_wp2
    clear p0 p1
    go_loopw [4, 5, 12] (fun v _ i wr => ∃ (k : Nat) (A1 : Option Addr) (c1 : Nat), k ≤ n ∧ i = .int .i64 k ∧ v = .slice A1 (dscK zs us k).length c1 ∧ OI wr w1.heap.size A1 (dscK zs us k).length c1 (dscK zs us k) ∧ Below w1.heap.size w1 wr) (fun _ _ i _ => n - (intOf i).toNat)
    case atStart => exact ⟨0, none, 0, Nat.zero_le _, rfl, rfl, OI.none_ _ _, Below.refl _ _⟩
    case round =>
      obtain ⟨k, A1, c1, hk, rfl, rfl, ho, hbl⟩ := hrel
      have HO := Lib.hid ho
      have HN := Lib.hid hbl
      have HBr : Hid (Below w.heap.size w wr) := Lib.hid (HB.out.trans (hbl.mono (Nat.le_of_lt HZ.out)))
      have HCr : Hid (Cell2 wr w.heap.size (.slice A n c) (.slice E m d)) := cellBelow HC HZ.out hbl
      have p0 := HCr.out.c0; have p1 := HCr.out.c1; have pz := HCr.out.lt
      have hkl := dscK_len zs us k
      clear ho hbl
      by_cases hlt : k < n
      · have hpx := plc_in HOK.out (k : Int) (by omega)
        have hpy := plc_in HOK.out ((k : Int) + 1) (by omega)
        have hxy := @dscK_yes zs us k
        have hxn := @dscK_no zs us k
        obtain ⟨x, hx⟩ : ∃ x, x = plc zs us (k : Int) := ⟨_, rfl⟩
        obtain ⟨y, hy⟩ : ∃ y, y = plc zs us ((k : Int) + 1) := ⟨_, rfl⟩
        rw [← hx] at hpx hxy hxn
        rw [← hy] at hpy hxy hxn
        have HX := Lib.hid hx; have HY := Lib.hid hy
        have hwk : IntKind.i64.wrap ((k : Int) + 1) = (k : Int) + 1 := IntWalk.i64_in _ (by omega)
        clear hx hy
        by_cases hc : y < x
        · have HD := Lib.hid (hxy hc)
          clear hxy hxn
          go_wp2_with fail
          go_region_held3 (fun w' => w'.cell? ⟨w.heap.size, 0, none⟩ = some (.slice A n c) ∧ w'.cell? ⟨w.heap.size, 1, none⟩ = some (.slice E m d))
            (first | exact ⟨HCr.out.c0, HCr.out.c1⟩ | exact ⟨HC6.out.c0, HC6.out.c1⟩ | exact ⟨HC7.out.c0, HC7.out.c1⟩)
            (first
              | (go_at_call 34; have hx := HC6.out.c0; clear hx; refine (iplaceOf_any A n c zs E m d us ((k : Int) + 1) _ (rbK HA0 (HB6.out)) (rbK HE0 (HB6.out)) HOK.out (by omega)).mono ?_; rw [← HY.out]; rintro e w7 ⟨rfl, hb⟩; have HC7 := cellStep HC6 hb; have HB7 := belStep HB6 hb; have HO7 := oiStep HO6 hb; have HN7 : Hid (Below w1.heap.size w1 w7) := Lib.hid (HN6.out.trans (hb.mono HN6.out.size)); clear hb)
              | (go_at_call 34; refine (iplaceOf_any A n c zs E m d us (k : Int) _ (rbK HA0 (HBr.out.drew)) (rbK HE0 (HBr.out.drew)) HOK.out (by omega)).mono ?_; rw [← HX.out]; rintro e w6 ⟨rfl, hb⟩; have HC6 := cellStep (cellDrew HCr) hb; have HB6 := belStep (belDrew HBr) hb; have HO6 := oiStep (oiDrew HO) hb; have HN6 : Hid (Below w1.heap.size w1 w6) := Lib.hid (HN.out.drew.trans (hb.mono HN.out.size)); clear hb))
          go_wp2_with (at_builtin; refine wpList_append_int _ rfl _ _ rfl w1.heap.size A1 (dscK zs us k).length c1 _ (k : Int) w7.heap.size rfl rfl (HO7.out.alloc _) (by simp) (by omega) (by have := HN7.out.size; simp; omega) ?_; intro A2 c2 w8 ho8 hg8)
          go_roundw
          case rel =>
            refine ⟨k + 1, A2, c2, by omega, by go_num, by rw [HD.out, List.length_append]; rfl, by rw [HD.out, List.length_append]; exact ho8, ?_⟩
            exact (HN7.out.alloc HN7.out.size _).trans (ofMark (HO7.out.alloc _) hg8 (Nat.le_refl _) (by have := HN7.out.size; simp; omega))
          case measure => simp [intOf]; omega
        · have hc' : x ≤ y := by omega
          have HD := Lib.hid (hxn hc)
          clear hxy hxn hc
          go_wp2_with fail
          go_region_held3 (fun w' => w'.cell? ⟨w.heap.size, 0, none⟩ = some (.slice A n c) ∧ w'.cell? ⟨w.heap.size, 1, none⟩ = some (.slice E m d))
            (first | exact ⟨HCr.out.c0, HCr.out.c1⟩ | exact ⟨HC6.out.c0, HC6.out.c1⟩ | exact ⟨HC7.out.c0, HC7.out.c1⟩)
            (first
              | (go_at_call 34; have hx := HC6.out.c0; clear hx; refine (iplaceOf_any A n c zs E m d us ((k : Int) + 1) _ (rbK HA0 (HB6.out)) (rbK HE0 (HB6.out)) HOK.out (by omega)).mono ?_; rw [← HY.out]; rintro e w7 ⟨rfl, hb⟩; have HC7 := cellStep HC6 hb; have HB7 := belStep HB6 hb; have HO7 := oiStep HO6 hb; have HN7 : Hid (Below w1.heap.size w1 w7) := Lib.hid (HN6.out.trans (hb.mono HN6.out.size)); clear hb)
              | (go_at_call 34; refine (iplaceOf_any A n c zs E m d us (k : Int) _ (rbK HA0 (HBr.out.drew)) (rbK HE0 (HBr.out.drew)) HOK.out (by omega)).mono ?_; rw [← HX.out]; rintro e w6 ⟨rfl, hb⟩; have HC6 := cellStep (cellDrew HCr) hb; have HB6 := belStep (belDrew HBr) hb; have HO6 := oiStep (oiDrew HO) hb; have HN6 : Hid (Below w1.heap.size w1 w6) := Lib.hid (HN.out.drew.trans (hb.mono HN.out.size)); clear hb))
          go_wp2
          go_roundw
          case rel => exact ⟨k + 1, A1, c1, by omega, by go_num, by rw [HD.out], by rw [HD.out]; exact HO7.out, HN7.out⟩
          case measure => simp [intOf]; omega
      · obtain rfl : k = n := by omega
        go_wp2
        go_ret2
        exact ⟨A1, c1, rfl, HO.out.mono (Nat.le_of_lt HZ.out), HBr.out⟩
theorem iPoleDescents_any (A : Option Addr) (n c : Nat) (zs : List Int) (E : Option Addr) (m d : Nat) (us : List Int) (w : World) (h : RI w A n zs) (g : RI w E m us) (hn : n ≤ 1048576) (hm : m ≤ 1048576) (_ : n ≤ c) :
    Calls Try.prog 17 #[.agg #[.slice A n c, .slice E m d]] w (FreshIB w (dscN zs us).length (dscN zs us) (trn zs us)) := iPoleDescents_raw A n c zs E m d us w h g hn hm
end Go.Proofs.Ytpkdeoehfnnchaa

/- The law of AreSameFor, gone through: it returns true, and nothing that was there has turned. -/
import Derived.Test.YthalcjgpjagcoaaPz5
import Derived.Test.YthalcjgpjagcoaaMgC
import Derived.Test.YthalcjgpjagcoaaMgB
import Derived.Deep.RegionHeld3
namespace Go.Proofs.Ythalcjgpjagcoaa
open Go Go.RowKit

set_option maxRecDepth 100000 in
set_option maxHeartbeats 4000000 in
theorem lawAreSameFor_of (W : Int) (A : Option Addr) (n c : Nat) (zs : List Int) (V : Int) (A' : Option Addr) (n' c' : Nat) (zs' : List Int) (s : ByteArray) (w : World) (h : RI w A n zs) (h' : RI w A' n' zs') (hn2 : (n : Int) ≤ 1048576) (hn2' : (n' : Int) ≤ 1048576 - n) (is : ¬ (1048576 : Int) < (s.size : Int)) (r q : Bool)
    (hS : Hid (∀ (Aa : Option Addr) (ca : Nat) (Ab : Option Addr) (cb : Nat) (w2 : World), RI w2 Aa n zs → n ≤ ca → RI w2 Ab n' zs' → n' ≤ cb → Calls Try.prog 32 #[.agg #[.int .i64 W, .slice Aa n ca], .agg #[.int .i64 V, .slice Ab n' cb], .string s] w2 (RetBBz r q w2)))
    (hI : Hid (∀ (Aa : Option Addr) (ca : Nat) (Ab : Option Addr) (cb : Nat) (w2 : World), RI w2 Aa n zs → n ≤ ca → RI w2 Ab n' zs' → n' ≤ cb → Calls Try.prog 33 #[.agg #[.int .i64 W, .slice Aa n ca], .agg #[.int .i64 V, .slice Ab n' cb], .string s] w2 (RetBBz r q w2))) :
    Calls Try.prog 8 #[.agg #[.int .i64 W, .slice A n c], .agg #[.int .i64 V, .slice A' n' c'], .string s] w (RetB true w) := by
  have E := Lib.hid (szv_yes hn2).symm
  have E' := Lib.hid (szv_yes hn2').symm
  have hn : n ≤ 9223372036854775807 := by omega
  have hn3 : n ≤ 1048576 := by omega
  have hn' : n' ≤ 9223372036854775807 := by omega
  have hn3' : n' ≤ 1048576 := by omega
  have e0 : (q != q) = false := by simp
  have e1 : (r != r) = false := by simp
  go_enter Try.func8, Try.ntmps8
  go_wp2_with fail
  have HA := boxAlloc (boxNew (W := W) (c := c) 24 h) (.cells #[.int .i64 V, .slice A' n' c'] 24)
  have HD := boxNew (wi := w.alloc (.cells #[.int .i64 W, .slice A n c] 24)) (W := V) (c := c') 24 (h'.alloc _)
  have HB := belAlloc (belAlloc (belRefl (w := w)) (.cells #[.int .i64 W, .slice A n c] 24)) (.cells #[.int .i64 V, .slice A' n' c'] 24)
  simp only [World.size_alloc] at HD
  refine (szLadder_any W A n c _ _ (by omega) (by omega) hn).mono ?_
  rw [E.out]
  rintro e w1 ⟨rfl, hb⟩
  replace HA := boxStep HA hb
  replace HD := boxStep HD hb
  replace HB := belStep HB hb
  have a0 := HA.out.c0
  have a1 := HA.out.c1
  have az := HA.out.lt
  have y0 := HD.out.c0
  have y1 := HD.out.c1
  have yz := HD.out.lt
  clear hb h h'
  go_wp2_with fail
  refine (szLadder_any V A' n' c' _ _ (by omega) (by omega) hn').mono ?_
  rw [E'.out]
  rintro e w2 ⟨rfl, hb⟩
  replace HA := boxStep HA hb
  replace HD := boxStep HD hb
  replace HB := belStep HB hb
  replace a0 := HA.out.c0
  replace a1 := HA.out.c1
  replace az := HA.out.lt
  replace y0 := HD.out.c0
  replace y1 := HD.out.c1
  replace yz := HD.out.lt
  clear hb
  go_wp2_with fail
  have ED := boxDrew HA; have FD := boxDrew HD; have BD := belDrew HB
  go_region_held3 (fun w' => w'.cell? ⟨w.heap.size, 0, none⟩ = some (.int .i64 W) ∧ w'.cell? ⟨w.heap.size, 1, none⟩ = some (.slice A n c) ∧ w'.cell? ⟨w.heap.size + 1, 0, none⟩ = some (.int .i64 V) ∧ w'.cell? ⟨w.heap.size + 1, 1, none⟩ = some (.slice A' n' c'))
    (first | exact ⟨HA.out.c0, HA.out.c1, HD.out.c0, HD.out.c1⟩ | exact ⟨HA6.out.c0, HA6.out.c1, HD6.out.c0, HD6.out.c1⟩ | exact ⟨HA7.out.c0, HA7.out.c1, HD7.out.c0, HD7.out.c1⟩ | exact ⟨HA8.out.c0, HA8.out.c1, HD8.out.c0, HD8.out.c1⟩)
    (first
      | (go_at_call 13; refine (toLadder_any V A' n' c' zs' _ HD6.out.ri hn3').mono ?_; rintro e w7 ⟨A7, c7, rfl, o7, hb⟩; have HA7 := boxStep HA6 hb; have HD7 := boxStep HD6 hb; have HB7 := belStep HB6 hb; have O67 := oiStep O6 hb; have O7 := Lib.hid o7; clear hb o7)
      | (go_at_call 13; refine (toLadder_any W A n c zs _ ED.out.ri hn3).mono ?_; rintro e w6 ⟨A6, c6, rfl, o6, hb⟩; have HA6 := boxStep ED hb; have HD6 := boxStep FD hb; have HB6 := belStep BD hb; have O6 := Lib.hid o6; clear hb o6)
      | (go_at_call 32; refine (hS.out A6 c6 A7 c7 _ O67.out.ri O67.out.le O7.out.ri O7.out.le).mono ?_; rintro e w8 ⟨rfl, hb⟩; have HA8 := boxStep HA7 hb; have HD8 := boxStep HD7 hb; have HB8 := belStep HB7 hb; clear hb))
  replace HA := HA8; replace HD := HD8; replace HB := HB8
  clear ED FD BD HA6 HD6 HB6 HA7 HD7 HB7 HA8 HD8 HB8 O6 O67 O7
  replace a0 := HA.out.c0
  replace a1 := HA.out.c1
  replace az := HA.out.lt
  replace y0 := HD.out.c0
  replace y1 := HD.out.c1
  replace yz := HD.out.lt
  go_wp2_with fail
  refine (toLadder_any W A n c zs _ HA.out.ri hn3).mono ?_
  rintro e u1 ⟨B4, d4, rfl, o4, hb⟩
  replace HA := boxStep HA hb
  replace HD := boxStep HD hb
  replace HB := belStep HB hb
  replace a0 := HA.out.c0
  replace a1 := HA.out.c1
  replace az := HA.out.lt
  replace y0 := HD.out.c0
  replace y1 := HD.out.c1
  replace yz := HD.out.lt
  clear hb
  have HLE4 := Lib.hid o4.le
  go_wp2_with fail
  have HX := boxNew (W := W) (c := d4) 29 o4.ri
  replace HA := boxAlloc HA (.cells #[.int .i64 W, .slice B4 n d4] 29)
  replace HD := boxAlloc HD (.cells #[.int .i64 W, .slice B4 n d4] 29)
  replace HB := belAlloc HB (.cells #[.int .i64 W, .slice B4 n d4] 29)
  clear o4
  replace a0 := HA.out.c0
  replace a1 := HA.out.c1
  replace az := HA.out.lt
  replace y0 := HD.out.c0
  replace y1 := HD.out.c1
  replace yz := HD.out.lt
  have x0 := HX.out.c0
  have x1 := HX.out.c1
  have xz := HX.out.lt
  refine (toLadder_any V A' n' c' zs' _ HD.out.ri hn3').mono ?_
  rintro e u2 ⟨B5, d5, rfl, o5, hb⟩
  replace HA := boxStep HA hb
  replace HD := boxStep HD hb
  replace HX := boxStep HX hb
  replace HB := belStep HB hb
  replace a0 := HA.out.c0
  replace a1 := HA.out.c1
  replace az := HA.out.lt
  replace y0 := HD.out.c0
  replace y1 := HD.out.c1
  replace yz := HD.out.lt
  replace x0 := HX.out.c0
  replace x1 := HX.out.c1
  replace xz := HX.out.lt
  clear hb
  have HLE5 := Lib.hid o5.le
  go_wp2_with fail
  have HZ := boxNew (W := V) (c := d5) 29 o5.ri
  replace HA := boxAlloc HA (.cells #[.int .i64 V, .slice B5 n' d5] 29)
  replace HD := boxAlloc HD (.cells #[.int .i64 V, .slice B5 n' d5] 29)
  replace HX := boxAlloc HX (.cells #[.int .i64 V, .slice B5 n' d5] 29)
  replace HB := belAlloc HB (.cells #[.int .i64 V, .slice B5 n' d5] 29)
  clear o5
  replace a0 := HA.out.c0
  replace a1 := HA.out.c1
  replace az := HA.out.lt
  replace y0 := HD.out.c0
  replace y1 := HD.out.c1
  replace yz := HD.out.lt
  replace x0 := HX.out.c0
  replace x1 := HX.out.c1
  replace xz := HX.out.lt
  have z0 := HZ.out.c0
  have z1 := HZ.out.c1
  have zz := HZ.out.lt
  refine (hI.out B4 d4 B5 d5 _ HX.out.ri HLE4.out HZ.out.ri HLE5.out).mono ?_
  rintro e u3 ⟨rfl, hb⟩
  replace HA := boxStep HA hb
  replace HD := boxStep HD hb
  replace HX := boxStep HX hb
  replace HZ := boxStep HZ hb
  replace HB := belStep HB hb
  replace a0 := HA.out.c0
  replace a1 := HA.out.c1
  replace az := HA.out.lt
  replace y0 := HD.out.c0
  replace y1 := HD.out.c1
  replace yz := HD.out.lt
  replace x0 := HX.out.c0
  replace x1 := HX.out.c1
  replace xz := HX.out.lt
  replace z0 := HZ.out.c0
  replace z1 := HZ.out.c1
  replace zz := HZ.out.lt
  clear hb
  go_wp2_with fail
  have DA := boxDrew HA; have DD := boxDrew HD; have DX := boxDrew HX; have DZ := boxDrew HZ; have DB := belDrew HB
  go_region_held3 (fun w' => w'.cell? ⟨w.heap.size, 0, none⟩ = some (.int .i64 W) ∧ w'.cell? ⟨w.heap.size, 1, none⟩ = some (.slice A n c) ∧ w'.cell? ⟨u1.heap.size, 0, none⟩ = some (.int .i64 W) ∧ w'.cell? ⟨u1.heap.size, 1, none⟩ = some (.slice B4 n d4))
    (first | exact ⟨HA.out.c0, HA.out.c1, HX.out.c0, HX.out.c1⟩ | exact ⟨SA.out.c0, SA.out.c1, SX.out.c0, SX.out.c1⟩ | exact ⟨TA.out.c0, TA.out.c1, TX.out.c0, TX.out.c1⟩)
    (first
      | (go_at_call 13; refine (toLadder_any W A n c zs _ DA.out.ri hn3).mono ?_; rintro e p1a ⟨A6, c6, rfl, o6, hb⟩; have SA := boxStep DA hb; have SD := boxStep DD hb; have SX := boxStep DX hb; have SZ := boxStep DZ hb; have SB := belStep DB hb; clear hb)
      | (go_at_call 16; refine (eqLadder_any W B4 n d4 zs W A6 n c6 zs _ SX.out.ri o6.ri hn3 hn3).mono ?_; rw [(eqSelf W zs).out]; rintro e p2a ⟨rfl, hb⟩; have TA := boxStep SA hb; have TD := boxStep SD hb; have TX := boxStep SX hb; have TZ := boxStep SZ hb; have TB := belStep SB hb; clear hb))
  replace HA := TA; replace HD := TD; replace HX := TX; replace HZ := TZ; replace HB := TB
  clear DA DD DX DZ DB SA SD SX SZ SB TA TD TX TZ TB o6
  replace a0 := HA.out.c0
  replace a1 := HA.out.c1
  replace az := HA.out.lt
  replace y0 := HD.out.c0
  replace y1 := HD.out.c1
  replace yz := HD.out.lt
  replace x0 := HX.out.c0
  replace x1 := HX.out.c1
  replace xz := HX.out.lt
  replace z0 := HZ.out.c0
  replace z1 := HZ.out.c1
  replace zz := HZ.out.lt
  go_wp2_with fail
  have DA := boxDrew HA; have DD := boxDrew HD; have DX := boxDrew HX; have DZ := boxDrew HZ; have DB := belDrew HB
  go_region_held3 (fun w' => w'.cell? ⟨w.heap.size + 1, 0, none⟩ = some (.int .i64 V) ∧ w'.cell? ⟨w.heap.size + 1, 1, none⟩ = some (.slice A' n' c') ∧ w'.cell? ⟨u2.heap.size, 0, none⟩ = some (.int .i64 V) ∧ w'.cell? ⟨u2.heap.size, 1, none⟩ = some (.slice B5 n' d5))
    (first | exact ⟨HD.out.c0, HD.out.c1, HZ.out.c0, HZ.out.c1⟩ | exact ⟨SD.out.c0, SD.out.c1, SZ.out.c0, SZ.out.c1⟩ | exact ⟨TD.out.c0, TD.out.c1, TZ.out.c0, TZ.out.c1⟩)
    (first
      | (go_at_call 13; refine (toLadder_any V A' n' c' zs' _ DD.out.ri hn3').mono ?_; rintro e p1b ⟨A6, c6, rfl, o6, hb⟩; have SA := boxStep DA hb; have SD := boxStep DD hb; have SX := boxStep DX hb; have SZ := boxStep DZ hb; have SB := belStep DB hb; clear hb)
      | (go_at_call 16; refine (eqLadder_any V B5 n' d5 zs' V A6 n' c6 zs' _ SZ.out.ri o6.ri hn3' hn3').mono ?_; rw [(eqSelf V zs').out]; rintro e p2b ⟨rfl, hb⟩; have TA := boxStep SA hb; have TD := boxStep SD hb; have TX := boxStep SX hb; have TZ := boxStep SZ hb; have TB := belStep SB hb; clear hb))
  replace HA := TA; replace HD := TD; replace HX := TX; replace HZ := TZ; replace HB := TB
  clear DA DD DX DZ DB SA SD SX SZ SB TA TD TX TZ TB o6
  replace a0 := HA.out.c0
  replace a1 := HA.out.c1
  replace az := HA.out.lt
  replace y0 := HD.out.c0
  replace y1 := HD.out.c1
  replace yz := HD.out.lt
  replace x0 := HX.out.c0
  replace x1 := HX.out.c1
  replace xz := HX.out.lt
  replace z0 := HZ.out.c0
  replace z1 := HZ.out.c1
  replace zz := HZ.out.lt
  go_wp2
  go_ret
  exact ⟨rfl, HB.out⟩

set_option maxHeartbeats 1000000 in
theorem lawAreSameFor_any (W : Int) (A : Option Addr) (n c : Nat) (zs : List Int) (V : Int) (A' : Option Addr) (n' c' : Nat) (zs' : List Int) (s : ByteArray) (w : World) (h : RI w A n zs) (hn : n ≤ 9223372036854775807) (h' : RI w A' n' zs') (hn' : n' ≤ 9223372036854775807) (hzs : s.size ≤ 9223372036854775807) :
    Calls Try.prog 8 #[.agg #[.int .i64 W, .slice A n c], .agg #[.int .i64 V, .slice A' n' c'], .string s] w (RetB true w) := by
  rcases Nat.lt_or_ge 1048576 s.size with hss | hss
  · have is : (1048576 : Int) < (s.size : Int) := by omega
    clear h h'
    go_enter Try.func8, Try.ntmps8
    go_wp2_with fail
    go_ret
    exact ⟨rfl, (((Below.refl w.heap.size w).alloc (by simp <;> omega) _).alloc (by simp <;> omega) _)⟩
  have is : ¬ (1048576 : Int) < (s.size : Int) := by omega
  clear hzs
  by_cases hn2 : (n : Int) ≤ 1048576
  · by_cases hn3 : (n' : Int) ≤ 1048576 - n
    · exact lawAreSameFor_of W A n c zs V A' n' c' zs' s w h h' hn2 hn3 is _ _ (fun Aa ca Ab cb w2 r1 l1 r2 l2 => sAreSameFor_any W Aa n ca zs V Ab n' cb zs' s w2 r1 (by omega) r2 (by omega)) (fun Aa ca Ab cb w2 r1 l1 r2 l2 => iAreSameFor_any W Aa n ca zs V Ab n' cb zs' s w2 r1 (by omega) r2 (by omega) (by omega))
    · have E := Lib.hid (szv_yes hn2).symm
      have E' := Lib.hid (szv_no hn3).symm
      go_enter Try.func8, Try.ntmps8
      go_wp2_with fail
      have HB := belAlloc (belAlloc (belRefl (w := w)) (.cells #[.int .i64 W, .slice A n c] 24)) (.cells #[.int .i64 V, .slice A' n' c'] 24)
      have HD := boxNew (wi := w.alloc (.cells #[.int .i64 W, .slice A n c] 24)) (W := V) (c := c') 24 (h'.alloc _)
      refine (szLadder_any W A n c _ _ (by omega) (by omega) hn).mono ?_
      rw [E.out]
      rintro e w1 ⟨rfl, hb⟩
      replace HB := belStep HB hb
      replace HD := boxStep HD hb
      simp only [World.size_alloc] at HD
      have y0 := HD.out.c0; have y1 := HD.out.c1; have yz := HD.out.lt
      clear hb h h'
      go_wp2_with fail
      refine (szLadder_any V A' n' c' _ _ (by omega) (by omega) hn').mono ?_
      rw [E'.out]
      rintro e w2 ⟨rfl, hb⟩
      replace HB := belStep HB hb
      clear hb
      go_wp2_with fail
      go_ret
      exact ⟨rfl, HB.out⟩
  · have E := Lib.hid (szv_no hn2).symm
    go_enter Try.func8, Try.ntmps8
    go_wp2_with fail
    have HB := belAlloc (belAlloc (belRefl (w := w)) (.cells #[.int .i64 W, .slice A n c] 24)) (.cells #[.int .i64 V, .slice A' n' c'] 24)
    refine (szLadder_any W A n c _ _ (by omega) (by omega) hn).mono ?_
    rw [E.out]
    rintro e w1 ⟨rfl, hb⟩
    replace HB := belStep HB hb
    clear hb h h'
    go_wp2_with fail
    go_ret
    exact ⟨rfl, HB.out⟩
end Go.Proofs.Ythalcjgpjagcoaa

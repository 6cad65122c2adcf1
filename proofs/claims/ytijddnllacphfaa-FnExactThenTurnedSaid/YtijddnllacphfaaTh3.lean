/- ThenTurned of the model, whole. -/
import Derived.Test.YtijddnllacphfaaTh1
import Derived.Test.YtijddnllacphfaaUl2
namespace Go.Proofs.Ytijddnllacphfaa
open Go Go.RowKit

set_option maxRecDepth 100000 in
set_option maxHeartbeats 2000000 in
theorem sThenTurned_any (A : Option Addr) (n c : Nat) (zs : List Int) (E : Option Addr) (m d : Nat) (us : List Int) (A' : Option Addr) (n' c' : Nat) (xs : List Int) (E' : Option Addr) (m' d' : Nat) (vs : List Int) (w : World) (h : RI w A n zs) (g : RI w E m us) (h' : RI w A' n' xs) (g' : RI w E' m' vs) (hn : n ≤ 1048576) (hm : m ≤ 1048576) (hn' : n' ≤ 1048576) (hm' : m' ≤ 1048576) (hnc : n ≤ c) (hnc' : n' ≤ c') :
    Calls Try.prog 17 #[.agg #[.slice A n c, .slice E m d], .agg #[.slice A' n' c', .slice E' m' d']] w (ReadTB w (ifL (thB zs us xs vs) (thE zs xs)).length (ifL (thB zs us xs vs) (thE zs xs)) (ifL (thB zs us xs vs) (thW zs us vs)).length (ifL (thB zs us xs vs) (thW zs us vs)) (thB zs us xs vs)) := by
  have hzl := h.1; have hxl := h'.1
  have HR1 : Hid (RB w w.heap.size A n zs) := RB.of_ri h
  have HR2 : Hid (RB w w.heap.size E m us) := RB.of_ri g
  have HR3 : Hid (RB w w.heap.size A' n' xs) := RB.of_ri h'
  have HR4 : Hid (RB w w.heap.size E' m' vs) := RB.of_ri g'
  have HHC := Lib.hid hnc; have HHC' := Lib.hid hnc'
  clear h g h' g'
  rcases hq1 : trn zs us with _ | _
  · have hB : thB zs us xs vs = false := by unfold thB thA; rw [hq1]; rfl
    rw [hB, ifL_no, ifL_no]
    have HQ1 := Lib.hid hq1
    clear hq1 hB hzl hxl HHC HHC'
    go_enter Try.func17, Try.ntmps17
    go_wp2_with fail
    obtain ⟨w1, hw1⟩ : ∃ w1, w1 = ((w.alloc (.cells #[.slice A n c, .slice E m d] 27)).alloc (.cells #[.slice A' n' c', .slice E' m' d'] 27)).alloc (.cells #[.slice none 0 0, .slice none 0 0] 27) := ⟨_, rfl⟩
    have HA : Hid (Cell2 w1 w.heap.size (.slice A n c) (.slice E m d)) := by rw [hw1]; exact cellAlloc (cellAlloc (cellNew w _ _ 27) _) _
    have HA' : Hid (Cell2 w1 (w.heap.size + 1) (.slice A' n' c') (.slice E' m' d')) := by
      have h1 := cellAlloc (cellNew (w.alloc (.cells #[.slice A n c, .slice E m d] 27)) (.slice A' n' c') (.slice E' m' d') 27) (.cells #[.slice none 0 0, .slice none 0 0] 27)
      simp only [World.size_alloc] at h1
      rw [hw1]; exact h1
    have HC : Hid (Cell2 w1 (w.heap.size + 1 + 1) (.slice none 0 0) (.slice none 0 0)) := by
      have h1 := cellNew ((w.alloc (.cells #[.slice A n c, .slice E m d] 27)).alloc (.cells #[.slice A' n' c', .slice E' m' d'] 27)) (.slice none 0 0) (.slice none 0 0) 27
      simp only [World.size_alloc] at h1
      rw [hw1]; exact h1
    have HB : Hid (Below w.heap.size w w1) := by rw [hw1]; exact belAlloc (belAlloc (belAlloc belRefl _) _) _
    rw [← hw1]
    clear hw1
    refine (poTurned_any A n c zs E m d us _ (rbK HR1 HB.out) (rbK HR2 HB.out) hn hm hnc).mono ?_
    rw [HQ1.out]
    rintro e w2 ⟨rfl, hb⟩
    replace HB := belStep HB hb
    replace HA := cellStep HA hb
    replace HA' := cellStep HA' hb
    replace HC := cellStep HC hb
    clear hb
    have a0 := HA.out.c0; have a1 := HA.out.c1
    have b0 := HA'.out.c0; have b1 := HA'.out.c1
    have k0 := HC.out.c0; have k1 := HC.out.c1; have f0 := HC.out.f0; have f1 := HC.out.f1; have hz := HC.out.lt
    have hz0 : w.heap.size < w2.heap.size := by omega
    go_wp2
    exact bodyPost_ret (v := .tuple #[.agg #[.slice none 0 0, .slice none 0 0], .bool false]) (by simp [results, Try.results17, go_sem, k0, k1]) rfl ⟨none, 0, none, 0, rfl, (OI.none_ _ 0).ri, (OI.none_ _ 0).ri, (HB.out.setCell (by simp; omega) _).setCell (by simp; omega) _⟩
  rcases hq2 : trn xs vs with _ | _
  · have hB : thB zs us xs vs = false := by unfold thB thA; rw [hq1, hq2]; rfl
    rw [hB, ifL_no, ifL_no]
    have HQ1 := Lib.hid hq1; have HQ2 := Lib.hid hq2
    clear hq1 hq2 hB hzl hxl HHC HHC'
    go_enter Try.func17, Try.ntmps17
    go_wp2_with fail
    obtain ⟨w1, hw1⟩ : ∃ w1, w1 = ((w.alloc (.cells #[.slice A n c, .slice E m d] 27)).alloc (.cells #[.slice A' n' c', .slice E' m' d'] 27)).alloc (.cells #[.slice none 0 0, .slice none 0 0] 27) := ⟨_, rfl⟩
    have HA : Hid (Cell2 w1 w.heap.size (.slice A n c) (.slice E m d)) := by rw [hw1]; exact cellAlloc (cellAlloc (cellNew w _ _ 27) _) _
    have HA' : Hid (Cell2 w1 (w.heap.size + 1) (.slice A' n' c') (.slice E' m' d')) := by
      have h1 := cellAlloc (cellNew (w.alloc (.cells #[.slice A n c, .slice E m d] 27)) (.slice A' n' c') (.slice E' m' d') 27) (.cells #[.slice none 0 0, .slice none 0 0] 27)
      simp only [World.size_alloc] at h1
      rw [hw1]; exact h1
    have HC : Hid (Cell2 w1 (w.heap.size + 1 + 1) (.slice none 0 0) (.slice none 0 0)) := by
      have h1 := cellNew ((w.alloc (.cells #[.slice A n c, .slice E m d] 27)).alloc (.cells #[.slice A' n' c', .slice E' m' d'] 27)) (.slice none 0 0) (.slice none 0 0) 27
      simp only [World.size_alloc] at h1
      rw [hw1]; exact h1
    have HB : Hid (Below w.heap.size w w1) := by rw [hw1]; exact belAlloc (belAlloc (belAlloc belRefl _) _) _
    rw [← hw1]
    clear hw1
    refine (poTurned_any A n c zs E m d us _ (rbK HR1 HB.out) (rbK HR2 HB.out) hn hm hnc).mono ?_
    rw [HQ1.out]
    rintro e w2 ⟨rfl, hb⟩
    replace HB := belStep HB hb
    replace HA := cellStep HA hb
    replace HA' := cellStep HA' hb
    replace HC := cellStep HC hb
    clear hb
    have a0 := HA.out.c0; have a1 := HA.out.c1
    have b0 := HA'.out.c0; have b1 := HA'.out.c1
    have k0 := HC.out.c0; have k1 := HC.out.c1; have f0 := HC.out.f0; have f1 := HC.out.f1; have hz := HC.out.lt
    go_wp2_with fail
    refine (poTurned_any A' n' c' xs E' m' d' vs _ (rbK HR3 HB.out) (rbK HR4 HB.out) hn' hm' hnc').mono ?_
    rw [HQ2.out]
    rintro e w3 ⟨rfl, hb⟩
    replace HB := belStep HB hb
    replace HA := cellStep HA hb
    replace HA' := cellStep HA' hb
    replace HC := cellStep HC hb
    clear hb
    replace a0 := HA.out.c0; replace a1 := HA.out.c1
    replace b0 := HA'.out.c0; replace b1 := HA'.out.c1
    replace k0 := HC.out.c0; replace k1 := HC.out.c1; replace f0 := HC.out.f0; replace f1 := HC.out.f1; replace hz := HC.out.lt
    have hz0 : w.heap.size < w3.heap.size := by omega
    go_wp2
    exact bodyPost_ret (v := .tuple #[.agg #[.slice none 0 0, .slice none 0 0], .bool false]) (by simp [results, Try.results17, go_sem, k0, k1]) rfl ⟨none, 0, none, 0, rfl, (OI.none_ _ 0).ri, (OI.none_ _ 0).ri, (HB.out.setCell (by simp; omega) _).setCell (by simp; omega) _⟩
  by_cases hnn : n ≠ n'
  · have hB : thB zs us xs vs = false := by unfold thB thA; rw [hq1, hq2, hzl, hxl, show (n == n') = false from beq_eq_false_iff_ne.2 hnn]; rfl
    rw [hB, ifL_no, ifL_no]
    have HQ1 := Lib.hid hq1; have HQ2 := Lib.hid hq2
    have hnb : ((n : Int) != (n' : Int)) = true := by rw [bne_iff_ne]; omega
    clear hq1 hq2 hB hzl hxl HHC HHC'
    go_enter Try.func17, Try.ntmps17
    go_wp2_with fail
    obtain ⟨w1, hw1⟩ : ∃ w1, w1 = ((w.alloc (.cells #[.slice A n c, .slice E m d] 27)).alloc (.cells #[.slice A' n' c', .slice E' m' d'] 27)).alloc (.cells #[.slice none 0 0, .slice none 0 0] 27) := ⟨_, rfl⟩
    have HA : Hid (Cell2 w1 w.heap.size (.slice A n c) (.slice E m d)) := by rw [hw1]; exact cellAlloc (cellAlloc (cellNew w _ _ 27) _) _
    have HA' : Hid (Cell2 w1 (w.heap.size + 1) (.slice A' n' c') (.slice E' m' d')) := by
      have h1 := cellAlloc (cellNew (w.alloc (.cells #[.slice A n c, .slice E m d] 27)) (.slice A' n' c') (.slice E' m' d') 27) (.cells #[.slice none 0 0, .slice none 0 0] 27)
      simp only [World.size_alloc] at h1
      rw [hw1]; exact h1
    have HC : Hid (Cell2 w1 (w.heap.size + 1 + 1) (.slice none 0 0) (.slice none 0 0)) := by
      have h1 := cellNew ((w.alloc (.cells #[.slice A n c, .slice E m d] 27)).alloc (.cells #[.slice A' n' c', .slice E' m' d'] 27)) (.slice none 0 0) (.slice none 0 0) 27
      simp only [World.size_alloc] at h1
      rw [hw1]; exact h1
    have HB : Hid (Below w.heap.size w w1) := by rw [hw1]; exact belAlloc (belAlloc (belAlloc belRefl _) _) _
    rw [← hw1]
    clear hw1
    refine (poTurned_any A n c zs E m d us _ (rbK HR1 HB.out) (rbK HR2 HB.out) hn hm hnc).mono ?_
    rw [HQ1.out]
    rintro e w2 ⟨rfl, hb⟩
    replace HB := belStep HB hb
    replace HA := cellStep HA hb
    replace HA' := cellStep HA' hb
    replace HC := cellStep HC hb
    clear hb
    have a0 := HA.out.c0; have a1 := HA.out.c1
    have b0 := HA'.out.c0; have b1 := HA'.out.c1
    have k0 := HC.out.c0; have k1 := HC.out.c1; have f0 := HC.out.f0; have f1 := HC.out.f1; have hz := HC.out.lt
    go_wp2_with fail
    refine (poTurned_any A' n' c' xs E' m' d' vs _ (rbK HR3 HB.out) (rbK HR4 HB.out) hn' hm' hnc').mono ?_
    rw [HQ2.out]
    rintro e w3 ⟨rfl, hb⟩
    replace HB := belStep HB hb
    replace HA := cellStep HA hb
    replace HA' := cellStep HA' hb
    replace HC := cellStep HC hb
    clear hb
    replace a0 := HA.out.c0; replace a1 := HA.out.c1
    replace b0 := HA'.out.c0; replace b1 := HA'.out.c1
    replace k0 := HC.out.c0; replace k1 := HC.out.c1; replace f0 := HC.out.f0; replace f1 := HC.out.f1; replace hz := HC.out.lt
    have hz0 : w.heap.size < w3.heap.size := by omega
    go_wp2
    exact bodyPost_ret (v := .tuple #[.agg #[.slice none 0 0, .slice none 0 0], .bool false]) (by simp [results, Try.results17, go_sem, k0, k1]) rfl ⟨none, 0, none, 0, rfl, (OI.none_ _ 0).ri, (OI.none_ _ 0).ri, (HB.out.setCell (by simp; omega) _).setCell (by simp; omega) _⟩
  replace hnn := Decidable.not_not.1 hnn
  have hB : thB zs us xs vs = trn (thE zs xs) (thW zs us vs) := by unfold thB thA; rw [hq1, hq2, hzl, hxl, hnn]; simp
  rw [hB]
  have hlt : zs.length = xs.length := by omega
  have ok := TOk.of hq1; have ok' := TOk.of hq2
  obtain ⟨q, hqq⟩ : ∃ q, q = trn (thE zs xs) (thW zs us vs) := ⟨_, rfl⟩
  have HQQ := Lib.hid hqq
  rw [← hqq]
  have HQ1 := Lib.hid hq1; have HQ2 := Lib.hid hq2
  have n8 := ok.n8
  have HTE : Hid ((thE zs xs).length = n) := by show _ = _; rw [thE_length, hzl]
  have HTW : Hid ((thW zs us vs).length = n) := by show _ = _; rw [thW_length, hzl]
  have hnb : ((n : Int) != (n' : Int)) = false := by rw [bne_eq_false_iff_eq]; omega
  have HPT := Lib.hid (fun (w' : World) (r1 : RI w' A n zs) (r2 : RI w' E m us) (r3 : RI w' A' n' xs) (r4 : RI w' E' m' vs) => poThen_any A n c zs E m d us A' n' c' xs E' m' d' vs w' r1 r2 r3 r4 ok ok' hlt)
  have hn8 : n ≤ 8 := by omega
  clear hq1 hq2 hB hzl hxl hlt ok ok' hqq hnn n8
  go_enter Try.func17, Try.ntmps17
  go_wp2_with fail
  obtain ⟨w1, hw1⟩ : ∃ w1, w1 = ((w.alloc (.cells #[.slice A n c, .slice E m d] 27)).alloc (.cells #[.slice A' n' c', .slice E' m' d'] 27)).alloc (.cells #[.slice none 0 0, .slice none 0 0] 27) := ⟨_, rfl⟩
  have HA : Hid (Cell2 w1 w.heap.size (.slice A n c) (.slice E m d)) := by rw [hw1]; exact cellAlloc (cellAlloc (cellNew w _ _ 27) _) _
  have HA' : Hid (Cell2 w1 (w.heap.size + 1) (.slice A' n' c') (.slice E' m' d')) := by
    have h1 := cellAlloc (cellNew (w.alloc (.cells #[.slice A n c, .slice E m d] 27)) (.slice A' n' c') (.slice E' m' d') 27) (.cells #[.slice none 0 0, .slice none 0 0] 27)
    simp only [World.size_alloc] at h1
    rw [hw1]; exact h1
  have HC : Hid (Cell2 w1 (w.heap.size + 1 + 1) (.slice none 0 0) (.slice none 0 0)) := by
    have h1 := cellNew ((w.alloc (.cells #[.slice A n c, .slice E m d] 27)).alloc (.cells #[.slice A' n' c', .slice E' m' d'] 27)) (.slice none 0 0) (.slice none 0 0) 27
    simp only [World.size_alloc] at h1
    rw [hw1]; exact h1
  have HB : Hid (Below w.heap.size w w1) := by rw [hw1]; exact belAlloc (belAlloc (belAlloc belRefl _) _) _
  rw [← hw1]
  clear hw1
  refine (poTurned_any A n c zs E m d us _ (rbK HR1 HB.out) (rbK HR2 HB.out) hn hm hnc).mono ?_
  rw [HQ1.out]
  rintro e w2 ⟨rfl, hb⟩
  replace HB := belStep HB hb
  replace HA := cellStep HA hb
  replace HA' := cellStep HA' hb
  replace HC := cellStep HC hb
  clear hb
  have a0 := HA.out.c0; have a1 := HA.out.c1
  have b0 := HA'.out.c0; have b1 := HA'.out.c1
  have k0 := HC.out.c0; have k1 := HC.out.c1; have f0 := HC.out.f0; have f1 := HC.out.f1; have hz := HC.out.lt
  go_wp2_with fail
  refine (poTurned_any A' n' c' xs E' m' d' vs _ (rbK HR3 HB.out) (rbK HR4 HB.out) hn' hm' hnc').mono ?_
  rw [HQ2.out]
  rintro e w3 ⟨rfl, hb⟩
  replace HB := belStep HB hb
  replace HA := cellStep HA hb
  replace HA' := cellStep HA' hb
  replace HC := cellStep HC hb
  clear hb
  replace a0 := HA.out.c0; replace a1 := HA.out.c1
  replace b0 := HA'.out.c0; replace b1 := HA'.out.c1
  replace k0 := HC.out.c0; replace k1 := HC.out.c1; replace f0 := HC.out.f0; replace f1 := HC.out.f1; replace hz := HC.out.lt
  go_wp2_with fail
  refine (HPT.out _ (rbK HR1 HB.out) (rbK HR2 HB.out) (rbK HR3 HB.out) (rbK HR4 HB.out)).mono ?_
  rintro e w4 ⟨A9, c9, E9, d9, rfl, o1, o2, hb⟩
  replace HB := belStep HB hb
  replace HC := cellStep HC hb
  have O1 := Lib.hid o1; have O2 := Lib.hid o2
  have hz3 : w.heap.size + 1 + 1 < w3.heap.size := hz
  clear hb o1 o2 HPT HA HA' a0 a1 b0 b1
  go_wp2_with fail
  refine (poIf_any A9 n c9 (thE zs xs) E9 n d9 (thW zs us vs) _ O1.out.ri O2.out.ri (by omega) (by omega) O1.out.le).mono ?_
  rw [← HQQ.out]
  rintro e w5 ⟨rfl, hb⟩
  replace HB := belStep HB hb
  replace HC := cellStep HC hb
  replace O1 := oiStep O1 hb
  replace O2 := oiStep O2 hb
  replace k0 := HC.out.c0; replace k1 := HC.out.c1; replace f0 := HC.out.f0; replace f1 := HC.out.f1; replace hz := HC.out.lt
  clear hb
  cases q
  · go_wp2
    exact bodyPost_ret (v := .tuple #[.agg #[.slice none 0 0, .slice none 0 0], .bool false]) (by simp [results, Try.results17, go_sem, k0, k1]) rfl ⟨none, 0, none, 0, rfl, (OI.none_ _ 0).ri, (OI.none_ _ 0).ri, (HB.out.setCell (by simp; omega) _).setCell (by simp; omega) _⟩
  · go_wp2
    refine bodyPost_ret (v := .tuple #[.agg #[.slice A9 n c9, .slice E9 n d9], .bool true]) (by simp [results, Try.results17, go_sem, k0, k1]) rfl ⟨A9, c9, E9, d9, by rw [ifL_yes, ifL_yes, HTE.out, HTW.out], ?_, ?_, (HB.out.setCell (by simp; omega) _).setCell (by simp; omega) _⟩
    · rw [ifL_yes, HTE.out]; exact ((O1.out.setBelow (p := ⟨w.heap.size + 1 + 1, 0, none⟩) hz3 _).setBelow (p := ⟨w.heap.size + 1 + 1, 1, none⟩) hz3 _).ri
    · rw [ifL_yes, HTW.out]; exact ((O2.out.setBelow (p := ⟨w.heap.size + 1 + 1, 0, none⟩) hz3 _).setBelow (p := ⟨w.heap.size + 1 + 1, 1, none⟩) hz3 _).ri
end Go.Proofs.Ytijddnllacphfaa

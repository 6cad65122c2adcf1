/- ThenTurned of the program, whole. -/
import Derived.Test.YtijddnllacphfaaTh1
import Derived.Test.YtijddnllacphfaaTh2
import Derived.Test.YtijddnllacphfaaTo3
import Derived.Test.YtijddnllacphfaaUl2
import Derived.Deep.RegionHeld3
import Derived.Deep.Cut
import Derived.Laws.EntriesVeiled
namespace Go.Proofs.Ytijddnllacphfaa
open Go Go.RowKit

/-- a block of one cell -/
def FB (w : World) (b : Nat) (v : Value) : Prop := ∃ t, w.heap[b]? = some (.cells #[v] t (0, 0))
section
variable {w wi wj : World} {b b' K : Nat} {u v v' : Value}
theorem FB.new' (w : World) (v : Value) (t : TypeId) {b : Nat} (hb : b = w.heap.size) : FB (w.alloc (.cells #[v] t)) b v := by subst hb; exact ⟨t, heap_alloc_new w _⟩
theorem FB.lt (h : FB w b v) : b < w.heap.size := by obtain ⟨t, e⟩ := h; exact (Array.getElem?_eq_some_iff.1 e).1
theorem FB.below (h : FB wi b v) (hb : Below wi.heap.size wi wj) : FB wj b v := by
  have hl := h.lt
  obtain ⟨t, e⟩ := h
  exact ⟨t, (hb.block b hl).trans e⟩
theorem FB.alloc (h : FB wi b v) (o : Obj) : FB (wi.alloc o) b v := h.below ((Below.refl _ _).alloc (Nat.le_refl _) o)
theorem FB.drewU (h : FB w b v) : FB w.drew b v := h
theorem FB.cell (h : FB w b v) : w.cell? ⟨b, 0, none⟩ = some v := by obtain ⟨t, e⟩ := h; simp [World.cell?, e]
theorem FB.frozen (h : FB w b v) : w.frozen? ⟨b, 0, none⟩ = false := by obtain ⟨t, e⟩ := h; simp [World.frozen?, e]
theorem FB.set (h : FB w b v) (v' : Value) : FB (w.setCell ⟨b, 0, none⟩ v') b v' := by
  obtain ⟨t, e⟩ := h
  rw [setCell_eq_setRow w b 0 _ _ _ v' e]
  exact ⟨t, setRow_heap w b _ _ _ _ e⟩
theorem FB.other (h : FB w b v) (hne : b ≠ b') (u : Value) : FB (w.setCell ⟨b', 0, none⟩ u) b v := by
  obtain ⟨t, e⟩ := h
  exact ⟨t, (Below.heap_setCell w ⟨b', 0, none⟩ u b hne).trans e⟩
theorem FB.ne (h : FB w b v) (q : Cell2 w b' u v') : b' ≠ b := by
  obtain ⟨t, e⟩ := h
  intro e1
  subst e1
  have h1 := q.c1
  simp [World.cell?, e] at h1
end
theorem cellAway {w : World} {b b' : Nat} {x y : Value} (h : Cell2 w b x y) (hp : b ≠ b') (u : Value) : Cell2 (w.setCell ⟨b', 0, none⟩ u) b x y := cellFar h ⟨b', 0, none⟩ (fun e => hp e.symm) u
theorem cellPast {w : World} {b b' : Nat} {x y z : Value} (hF : FB w b' z) (h : Cell2 w b x y) (u : Value) : Cell2 (w.setCell ⟨b', 0, none⟩ u) b x y := cellAway h (hF.ne h) u
/-- what the two variables hold behind both stores -/
structure Tellers (w3 W : World) (b6 b7 f1 f2 : Nat) (G1 G2 x1 y1 x2 y2 : Value) : Prop where
  t6 : FB W b6 G1
  t7 : FB W b7 G2
  q1 : Cell2 W f1 x1 y1
  q2 : Cell2 W f2 x2 y2
  bel : Below w3.heap.size w3 W
theorem Tellers.below {w3 W W' : World} {b6 b7 f1 f2 : Nat} {G1 G2 x1 y1 x2 y2 : Value} (h : Tellers w3 W b6 b7 f1 f2 G1 G2 x1 y1 x2 y2) (hb : Below W.heap.size W W') : Tellers w3 W' b6 b7 f1 f2 G1 G2 x1 y1 x2 y2 :=
  ⟨h.t6.below hb, h.t7.below hb, (cellStep (Lib.hid h.q1) hb).out, (cellStep (Lib.hid h.q2) hb).out, h.bel.trans (hb.mono h.bel.size)⟩
def FreshF (A : Option Addr) (n c : Nat) (E : Option Addr) (m d : Nat) (w : World) (e : Ending) (w' : World) : Prop :=
  ∃ f : Nat, e = .returned (.func (.func 72) #[] #[.pointer (some ⟨f, 0, none⟩)]) ∧ Cell2 w' f (.slice A n c) (.slice E m d) ∧ Below w.heap.size w w'
theorem tellerF_any (A : Option Addr) (n c : Nat) (E : Option Addr) (m d : Nat) (w : World) :
    Calls Try.prog 49 #[.agg #[.slice A n c, .slice E m d]] w (FreshF A n c E m d w) := by
  refine (teller_any A n c E m d w).mono ?_
  rintro e w' ⟨h1, h2, h3⟩
  exact ⟨_, h1, h2, h3⟩

set_option maxRecDepth 100000 in
set_option maxHeartbeats 2000000 in
theorem iThenTurned_any (A : Option Addr) (n c : Nat) (zs : List Int) (E : Option Addr) (m d : Nat) (us : List Int) (A' : Option Addr) (n' c' : Nat) (xs : List Int) (E' : Option Addr) (m' d' : Nat) (vs : List Int) (w : World) (h : RI w A n zs) (g : RI w E m us) (h' : RI w A' n' xs) (g' : RI w E' m' vs) (hn : n ≤ 1048576) (hm : m ≤ 1048576) (hn' : n' ≤ 1048576) (hm' : m' ≤ 1048576) (hnc : n ≤ c) (hnc' : n' ≤ c') :
    Calls Try.prog 18 #[.agg #[.slice A n c, .slice E m d], .agg #[.slice A' n' c', .slice E' m' d']] w (FreshTB w (ifL (thB zs us xs vs) (thE zs xs)).length (ifL (thB zs us xs vs) (thE zs xs)) (ifL (thB zs us xs vs) (thW zs us vs)).length (ifL (thB zs us xs vs) (thW zs us vs)) (thB zs us xs vs)) := by
  have hzl := h.1; have hxl := h'.1
  have HR1 : Hid (RB w w.heap.size A n zs) := RB.of_ri h
  have HR2 : Hid (RB w w.heap.size E m us) := RB.of_ri g
  have HR3 : Hid (RB w w.heap.size A' n' xs) := RB.of_ri h'
  have HR4 : Hid (RB w w.heap.size E' m' vs) := RB.of_ri g'
  have HHC := Lib.hid hnc; have HHC' := Lib.hid hnc'
  clear h g h' g'
  rcases hq1 : trn zs us with _ | _
  · have hB : thB zs us xs vs = false := by unfold thB thA; rw [hq1]; rfl
    rw [hB, ifL_no, ifL_no]
    have HQ1 := Lib.hid hq1
    clear hq1 hB hzl hxl HHC HHC'
    go_enter Try.func18, Try.ntmps18
    go_wp2_with fail
    obtain ⟨w1, hw1⟩ : ∃ w1, w1 = ((w.alloc (.cells #[.slice A n c, .slice E m d] 27)).alloc (.cells #[.slice A' n' c', .slice E' m' d'] 27)).alloc (.cells #[.slice none 0 0, .slice none 0 0] 27) := ⟨_, rfl⟩
    have HA : Hid (Cell2 w1 w.heap.size (.slice A n c) (.slice E m d)) := by rw [hw1]; exact cellAlloc (cellAlloc (cellNew w _ _ 27) _) _
    have HA' : Hid (Cell2 w1 (w.heap.size + 1) (.slice A' n' c') (.slice E' m' d')) := by
      have h1 := cellAlloc (cellNew (w.alloc (.cells #[.slice A n c, .slice E m d] 27)) (.slice A' n' c') (.slice E' m' d') 27) (.cells #[.slice none 0 0, .slice none 0 0] 27)
      simp only [World.size_alloc] at h1
      rw [hw1]; exact h1
    have HC : Hid (Cell2 w1 (w.heap.size + 1 + 1) (.slice none 0 0) (.slice none 0 0)) := by
      have h1 := cellNew ((w.alloc (.cells #[.slice A n c, .slice E m d] 27)).alloc (.cells #[.slice A' n' c', .slice E' m' d'] 27)) (.slice none 0 0) (.slice none 0 0) 27
      simp only [World.size_alloc] at h1
      rw [hw1]; exact h1
    have HB : Hid (Below w.heap.size w w1) := by rw [hw1]; exact belAlloc (belAlloc (belAlloc belRefl _) _) _
    rw [← hw1]
    clear hw1
    refine (iIsTurned_any A n c zs E m d us _ (rbK HR1 HB.out) (rbK HR2 HB.out) hn hm).mono ?_
    rw [HQ1.out]
    rintro e w2 ⟨rfl, hb⟩
    replace HB := belStep HB hb
    replace HA := cellStep HA hb
    replace HA' := cellStep HA' hb
    replace HC := cellStep HC hb
    clear hb
    have a0 := HA.out.c0; have a1 := HA.out.c1
    have b0 := HA'.out.c0; have b1 := HA'.out.c1
    have k0 := HC.out.c0; have k1 := HC.out.c1; have f0 := HC.out.f0; have f1 := HC.out.f1; have hz := HC.out.lt
    have hz0 : w.heap.size < w2.heap.size := by omega
    go_wp2
    exact bodyPost_ret (v := .tuple #[.agg #[.slice none 0 0, .slice none 0 0], .bool false]) (by simp [results, Try.results18, go_sem, k0, k1]) rfl ⟨none, 0, none, 0, w.heap.size, rfl, OG.none_ (Nat.le_refl _) (by simp; omega), OG.none_ (by simp; omega) (by simp), (HB.out.setCell (by simp; omega) _).setCell (by simp; omega) _⟩
  rcases hq2 : trn xs vs with _ | _
  · have hB : thB zs us xs vs = false := by unfold thB thA; rw [hq1, hq2]; rfl
    rw [hB, ifL_no, ifL_no]
    have HQ1 := Lib.hid hq1; have HQ2 := Lib.hid hq2
    clear hq1 hq2 hB hzl hxl HHC HHC'
    go_enter Try.func18, Try.ntmps18
    go_wp2_with fail
    obtain ⟨w1, hw1⟩ : ∃ w1, w1 = ((w.alloc (.cells #[.slice A n c, .slice E m d] 27)).alloc (.cells #[.slice A' n' c', .slice E' m' d'] 27)).alloc (.cells #[.slice none 0 0, .slice none 0 0] 27) := ⟨_, rfl⟩
    have HA : Hid (Cell2 w1 w.heap.size (.slice A n c) (.slice E m d)) := by rw [hw1]; exact cellAlloc (cellAlloc (cellNew w _ _ 27) _) _
    have HA' : Hid (Cell2 w1 (w.heap.size + 1) (.slice A' n' c') (.slice E' m' d')) := by
      have h1 := cellAlloc (cellNew (w.alloc (.cells #[.slice A n c, .slice E m d] 27)) (.slice A' n' c') (.slice E' m' d') 27) (.cells #[.slice none 0 0, .slice none 0 0] 27)
      simp only [World.size_alloc] at h1
      rw [hw1]; exact h1
    have HC : Hid (Cell2 w1 (w.heap.size + 1 + 1) (.slice none 0 0) (.slice none 0 0)) := by
      have h1 := cellNew ((w.alloc (.cells #[.slice A n c, .slice E m d] 27)).alloc (.cells #[.slice A' n' c', .slice E' m' d'] 27)) (.slice none 0 0) (.slice none 0 0) 27
      simp only [World.size_alloc] at h1
      rw [hw1]; exact h1
    have HB : Hid (Below w.heap.size w w1) := by rw [hw1]; exact belAlloc (belAlloc (belAlloc belRefl _) _) _
    rw [← hw1]
    clear hw1
    refine (iIsTurned_any A n c zs E m d us _ (rbK HR1 HB.out) (rbK HR2 HB.out) hn hm).mono ?_
    rw [HQ1.out]
    rintro e w2 ⟨rfl, hb⟩
    replace HB := belStep HB hb
    replace HA := cellStep HA hb
    replace HA' := cellStep HA' hb
    replace HC := cellStep HC hb
    clear hb
    have a0 := HA.out.c0; have a1 := HA.out.c1
    have b0 := HA'.out.c0; have b1 := HA'.out.c1
    have k0 := HC.out.c0; have k1 := HC.out.c1; have f0 := HC.out.f0; have f1 := HC.out.f1; have hz := HC.out.lt
    go_wp2_with fail
    refine (iIsTurned_any A' n' c' xs E' m' d' vs _ (rbK HR3 HB.out) (rbK HR4 HB.out) hn' hm').mono ?_
    rw [HQ2.out]
    rintro e w3 ⟨rfl, hb⟩
    replace HB := belStep HB hb
    replace HA := cellStep HA hb
    replace HA' := cellStep HA' hb
    replace HC := cellStep HC hb
    clear hb
    replace a0 := HA.out.c0; replace a1 := HA.out.c1
    replace b0 := HA'.out.c0; replace b1 := HA'.out.c1
    replace k0 := HC.out.c0; replace k1 := HC.out.c1; replace f0 := HC.out.f0; replace f1 := HC.out.f1; replace hz := HC.out.lt
    have hz0 : w.heap.size < w3.heap.size := by omega
    go_wp2
    exact bodyPost_ret (v := .tuple #[.agg #[.slice none 0 0, .slice none 0 0], .bool false]) (by simp [results, Try.results18, go_sem, k0, k1]) rfl ⟨none, 0, none, 0, w.heap.size, rfl, OG.none_ (Nat.le_refl _) (by simp; omega), OG.none_ (by simp; omega) (by simp), (HB.out.setCell (by simp; omega) _).setCell (by simp; omega) _⟩
  by_cases hnn : n ≠ n'
  · have hB : thB zs us xs vs = false := by unfold thB thA; rw [hq1, hq2, hzl, hxl, show (n == n') = false from beq_eq_false_iff_ne.2 hnn]; rfl
    rw [hB, ifL_no, ifL_no]
    have HQ1 := Lib.hid hq1; have HQ2 := Lib.hid hq2
    have hnb : ((n : Int) != (n' : Int)) = true := by rw [bne_iff_ne]; omega
    clear hq1 hq2 hB hzl hxl HHC HHC'
    go_enter Try.func18, Try.ntmps18
    go_wp2_with fail
    obtain ⟨w1, hw1⟩ : ∃ w1, w1 = ((w.alloc (.cells #[.slice A n c, .slice E m d] 27)).alloc (.cells #[.slice A' n' c', .slice E' m' d'] 27)).alloc (.cells #[.slice none 0 0, .slice none 0 0] 27) := ⟨_, rfl⟩
    have HA : Hid (Cell2 w1 w.heap.size (.slice A n c) (.slice E m d)) := by rw [hw1]; exact cellAlloc (cellAlloc (cellNew w _ _ 27) _) _
    have HA' : Hid (Cell2 w1 (w.heap.size + 1) (.slice A' n' c') (.slice E' m' d')) := by
      have h1 := cellAlloc (cellNew (w.alloc (.cells #[.slice A n c, .slice E m d] 27)) (.slice A' n' c') (.slice E' m' d') 27) (.cells #[.slice none 0 0, .slice none 0 0] 27)
      simp only [World.size_alloc] at h1
      rw [hw1]; exact h1
    have HC : Hid (Cell2 w1 (w.heap.size + 1 + 1) (.slice none 0 0) (.slice none 0 0)) := by
      have h1 := cellNew ((w.alloc (.cells #[.slice A n c, .slice E m d] 27)).alloc (.cells #[.slice A' n' c', .slice E' m' d'] 27)) (.slice none 0 0) (.slice none 0 0) 27
      simp only [World.size_alloc] at h1
      rw [hw1]; exact h1
    have HB : Hid (Below w.heap.size w w1) := by rw [hw1]; exact belAlloc (belAlloc (belAlloc belRefl _) _) _
    rw [← hw1]
    clear hw1
    refine (iIsTurned_any A n c zs E m d us _ (rbK HR1 HB.out) (rbK HR2 HB.out) hn hm).mono ?_
    rw [HQ1.out]
    rintro e w2 ⟨rfl, hb⟩
    replace HB := belStep HB hb
    replace HA := cellStep HA hb
    replace HA' := cellStep HA' hb
    replace HC := cellStep HC hb
    clear hb
    have a0 := HA.out.c0; have a1 := HA.out.c1
    have b0 := HA'.out.c0; have b1 := HA'.out.c1
    have k0 := HC.out.c0; have k1 := HC.out.c1; have f0 := HC.out.f0; have f1 := HC.out.f1; have hz := HC.out.lt
    go_wp2_with fail
    refine (iIsTurned_any A' n' c' xs E' m' d' vs _ (rbK HR3 HB.out) (rbK HR4 HB.out) hn' hm').mono ?_
    rw [HQ2.out]
    rintro e w3 ⟨rfl, hb⟩
    replace HB := belStep HB hb
    replace HA := cellStep HA hb
    replace HA' := cellStep HA' hb
    replace HC := cellStep HC hb
    clear hb
    replace a0 := HA.out.c0; replace a1 := HA.out.c1
    replace b0 := HA'.out.c0; replace b1 := HA'.out.c1
    replace k0 := HC.out.c0; replace k1 := HC.out.c1; replace f0 := HC.out.f0; replace f1 := HC.out.f1; replace hz := HC.out.lt
    have hz0 : w.heap.size < w3.heap.size := by omega
    go_wp2
    exact bodyPost_ret (v := .tuple #[.agg #[.slice none 0 0, .slice none 0 0], .bool false]) (by simp [results, Try.results18, go_sem, k0, k1]) rfl ⟨none, 0, none, 0, w.heap.size, rfl, OG.none_ (Nat.le_refl _) (by simp; omega), OG.none_ (by simp; omega) (by simp), (HB.out.setCell (by simp; omega) _).setCell (by simp; omega) _⟩
  replace hnn := Decidable.not_not.1 hnn
  have hB : thB zs us xs vs = trn (thE zs xs) (thW zs us vs) := by unfold thB thA; rw [hq1, hq2, hzl, hxl, hnn]; simp
  rw [hB]
  have hlt : zs.length = xs.length := by omega
  have ok := TOk.of hq1; have ok' := TOk.of hq2
  obtain ⟨q, hqq⟩ : ∃ q, q = trn (thE zs xs) (thW zs us vs) := ⟨_, rfl⟩
  have HQQ := Lib.hid hqq
  rw [← hqq]
  have HQ1 := Lib.hid hq1; have HQ2 := Lib.hid hq2
  have n8 := ok.n8
  have HTE : Hid ((thE zs xs).length = n) := by show _ = _; rw [thE_length, hzl]
  have HTW : Hid ((thW zs us vs).length = n) := by show _ = _; rw [thW_length, hzl]
  have hnb : ((n : Int) != (n' : Int)) = false := by rw [bne_eq_false_iff_eq]; omega
  have n3 := ok.n3; have hln := ok.len; have hln' := ok'.len; have hul := HR2.out.1; have hvl := HR4.out.1
  have HIN : Hid (∀ k : Nat, k < n → ∃ z : Nat, (k < n ∧ k < m) ∧ (z < n' ∧ z < m') ∧ gi zs k = (z : Int) ∧ (-20 ≤ gi us k ∧ gi us k ≤ 20) ∧ (-20 ≤ gi vs z ∧ gi vs z ≤ 20) ∧ gi (thE zs xs) k = gi xs z ∧ gi (thW zs us vs) k = gi us k + gi vs z) := by
    intro k hk
    have h1 := ok.zr k (by omega)
    exact ⟨(gi zs k).toNat, by omega, by omega, by omega, ok.ur k (by omega), ok'.ur _ (by omega), gi_thE zs xs (by omega), gi_thW zs us vs (by omega)⟩
  have hs8 : n ≤ 8 ∧ m ≤ 8 ∧ n' ≤ 8 ∧ m' ≤ 8 := by have := ok'.n8; omega
  have HS8 := Lib.hid hs8; have hn38 : 3 ≤ n ∧ n ≤ 8 := by omega
  have hmf : ∀ (fn : Fn) (first cap : Array Value) (w : World), (Instr.makeFunc fn first cap).run Try.prog w = .ok (.func fn first cap) w := fun _ _ _ _ => rfl
  clear hq1 hq2 hB hzl hxl hlt ok ok' hqq hnn n8 n3 hln hln' hul hvl hs8
  go_enter Try.func18, Try.ntmps18
  go_wp2_with fail
  obtain ⟨w1, hw1⟩ : ∃ w1, w1 = ((w.alloc (.cells #[.slice A n c, .slice E m d] 27)).alloc (.cells #[.slice A' n' c', .slice E' m' d'] 27)).alloc (.cells #[.slice none 0 0, .slice none 0 0] 27) := ⟨_, rfl⟩
  have HA : Hid (Cell2 w1 w.heap.size (.slice A n c) (.slice E m d)) := by rw [hw1]; exact cellAlloc (cellAlloc (cellNew w _ _ 27) _) _
  have HA' : Hid (Cell2 w1 (w.heap.size + 1) (.slice A' n' c') (.slice E' m' d')) := by
    have h1 := cellAlloc (cellNew (w.alloc (.cells #[.slice A n c, .slice E m d] 27)) (.slice A' n' c') (.slice E' m' d') 27) (.cells #[.slice none 0 0, .slice none 0 0] 27)
    simp only [World.size_alloc] at h1
    rw [hw1]; exact h1
  have HC : Hid (Cell2 w1 (w.heap.size + 1 + 1) (.slice none 0 0) (.slice none 0 0)) := by
    have h1 := cellNew ((w.alloc (.cells #[.slice A n c, .slice E m d] 27)).alloc (.cells #[.slice A' n' c', .slice E' m' d'] 27)) (.slice none 0 0) (.slice none 0 0) 27
    simp only [World.size_alloc] at h1
    rw [hw1]; exact h1
  have HB : Hid (Below w.heap.size w w1) := by rw [hw1]; exact belAlloc (belAlloc (belAlloc belRefl _) _) _
  rw [← hw1]
  clear hw1
  refine (iIsTurned_any A n c zs E m d us _ (rbK HR1 HB.out) (rbK HR2 HB.out) hn hm).mono ?_
  rw [HQ1.out]
  rintro e w2 ⟨rfl, hb⟩
  replace HB := belStep HB hb
  replace HA := cellStep HA hb
  replace HA' := cellStep HA' hb
  replace HC := cellStep HC hb
  clear hb
  have a0 := HA.out.c0; have a1 := HA.out.c1
  have b0 := HA'.out.c0; have b1 := HA'.out.c1
  have k0 := HC.out.c0; have k1 := HC.out.c1; have f0 := HC.out.f0; have f1 := HC.out.f1; have hz := HC.out.lt
  go_wp2_with fail
  refine (iIsTurned_any A' n' c' xs E' m' d' vs _ (rbK HR3 HB.out) (rbK HR4 HB.out) hn' hm').mono ?_
  rw [HQ2.out]
  rintro e w3 ⟨rfl, hb⟩
  replace HB := belStep HB hb
  replace HA := cellStep HA hb
  replace HA' := cellStep HA' hb
  replace HC := cellStep HC hb
  clear hb
  replace a0 := HA.out.c0; replace a1 := HA.out.c1
  replace b0 := HA'.out.c0; replace b1 := HA'.out.c1
  replace k0 := HC.out.c0; replace k1 := HC.out.c1; replace f0 := HC.out.f0; replace f1 := HC.out.f1; replace hz := HC.out.lt
  go_upto_region 3 with fail
  have hz3 : w.heap.size + 1 + 1 < w3.heap.size := hz
  have HS : Hid (∀ w', Below w3.heap.size w3 w' → w'.cell? ⟨w.heap.size, 0, none⟩ = some (.slice A n c) ∧ w'.cell? ⟨w.heap.size, 1, none⟩ = some (.slice E m d) ∧ w'.cell? ⟨w.heap.size + 1, 0, none⟩ = some (.slice A' n' c') ∧ w'.cell? ⟨w.heap.size + 1, 1, none⟩ = some (.slice E' m' d')) := fun w' hb => ⟨(hb.cell (p := ⟨w.heap.size, 0, none⟩) HA.out.lt).trans a0, (hb.cell (p := ⟨w.heap.size, 1, none⟩) HA.out.lt).trans a1, (hb.cell (p := ⟨w.heap.size + 1, 0, none⟩) HA'.out.lt).trans b0, (hb.cell (p := ⟨w.heap.size + 1, 1, none⟩) HA'.out.lt).trans b1⟩
  clear a0 a1 b0 b1 k0 k1 f0 f1
  go_cut [6, 7] from 30 (fun s6 s7 wx => ∃ b6 b7 f1 f2 : Nat, s6 = .pointer (some ⟨b6, 0, none⟩) ∧ s7 = .pointer (some ⟨b7, 0, none⟩) ∧ Tellers w3 wx b6 b7 f1 f2 (.func (.func 72) #[] #[.pointer (some ⟨f1, 0, none⟩)]) (.func (.func 72) #[] #[.pointer (some ⟨f2, 0, none⟩)]) (.slice A n c) (.slice E m d) (.slice A' n' c') (.slice E' m' d'))
  case first =>
    go_region_held3 (fun w' => w'.cell? ⟨w.heap.size, 0, none⟩ = some (.slice A n c) ∧ w'.cell? ⟨w.heap.size, 1, none⟩ = some (.slice E m d) ∧ w'.cell? ⟨w.heap.size + 1, 0, none⟩ = some (.slice A' n' c') ∧ w'.cell? ⟨w.heap.size + 1, 1, none⟩ = some (.slice E' m' d'))
      (exact HS.out _ (by repeat (first | with_reducible exact B2.out | with_reducible exact B1.out | with_reducible exact Below.refl _ _ | refine Below.setCell ?_ (by first | exact Nat.le_refl _ | assumption | (simp; done) | (simp; omega)) _ | refine Below.alloc ?_ (by first | exact Nat.le_refl _ | assumption | (simp; done) | (simp; omega)) _ | refine Below.drew ?_)))
      (first
        | (go_at_call_of 49 (Value.slice A' n' c'); have hx := B1.out; clear hx; refine (tellerF_any A' n' c' E' m' d' _).mono ?_; rintro e wb ⟨f2, rfl, hq, hb⟩; have B2 : Hid (Below w3.heap.size w3 wb) := belStep (show Hid (Below w3.heap.size w3 _) from (by with_reducible first | exact B1 | exact belAlloc B1 _ | exact belAlloc (belAlloc B1 _) _)) hb; have Q2 := Lib.hid hq; have H2 := Lib.hid hb; have s2 := B2.out.size; (try (have R1 : Hid (FB wb (w3.heap.size) .nilFunc) := (by first | exact FB.below (P1.out) hb | exact FB.below (FB.alloc P1.out _) hb); have R1c := R1.out.cell; have R1f := R1.out.frozen; have R1l := R1.out.lt)); (try (have R2 : Hid (FB wb (w3.heap.size + 1) .nilFunc) := (by first | exact FB.below (P2.out) hb); have R2c := R2.out.cell; have R2f := R2.out.frozen; have R2l := R2.out.lt)); (try (have R3 : Hid (FB wb (wa.heap.size) .nilFunc) := (by first | exact FB.below (FB.new' _ _ _ rfl) hb | exact FB.below (FB.alloc (FB.new' _ _ _ rfl) _) hb); have R3c := R3.out.cell; have R3f := R3.out.frozen; have R3l := R3.out.lt)); (try (have R4 : Hid (FB wb (wa.heap.size + 1) .nilFunc) := (by first | exact FB.below (FB.new' _ _ _ (World.size_alloc _ _).symm) hb); have R4c := R4.out.cell; have R4f := R4.out.frozen; have R4l := R4.out.lt)); clear hb hq)
        | (go_at_call_of 49 (Value.slice A n c); refine (tellerF_any A n c E m d _).mono ?_; rintro e wa ⟨f1, rfl, hq, hb⟩; have B1 : Hid (Below w3.heap.size w3 wa) := belStep (show Hid (Below w3.heap.size w3 _) from (by with_reducible first | exact belDrew belRefl | exact belDrew (belAlloc belRefl _) | exact belDrew (belAlloc (belAlloc belRefl _) _) | exact belAlloc (belDrew belRefl) _ | exact belAlloc (belAlloc (belDrew belRefl) _) _)) hb; have Q1 := Lib.hid hq; have H1 := Lib.hid hb; have s1 := B1.out.size; (try (have P1 : Hid (FB wa (w3.heap.size) .nilFunc) := (by first | exact FB.below (FB.drewU (FB.new' _ _ _ rfl)) hb | exact FB.below (FB.drewU (FB.alloc (FB.new' _ _ _ rfl) _)) hb | exact FB.below (FB.new' _ _ _ rfl) hb | exact FB.below (FB.alloc (FB.new' _ _ _ rfl) _) hb); have P1c := P1.out.cell; have P1f := P1.out.frozen; have P1l := P1.out.lt)); (try (have P2 : Hid (FB wa (w3.heap.size + 1) .nilFunc) := (by first | exact FB.below (FB.drewU (FB.new' _ _ _ (World.size_alloc _ _).symm)) hb | exact FB.below (FB.new' _ _ _ (World.size_alloc _ _).symm) hb); have P2c := P2.out.cell; have P2f := P2.out.frozen; have P2l := P2.out.lt)); clear hb hq))
    all_goals
      go_wp2
      go_meet
      case rel =>
        refine ⟨_, _, f1, f2, rfl, rfl, ?_⟩
        refine ⟨?_, ?_, ?_, ?_, ?_⟩
        · repeat (first | with_reducible exact R1.out | with_reducible exact R2.out | with_reducible exact R3.out | with_reducible exact R4.out | with_reducible exact FB.set R1.out _ | with_reducible exact FB.set R2.out _ | with_reducible exact FB.set R3.out _ | with_reducible exact FB.set R4.out _ | with_reducible exact FB.set (FB.other R1.out (by omega) _) _ | with_reducible exact FB.set (FB.other R2.out (by omega) _) _ | with_reducible exact FB.set (FB.other R3.out (by omega) _) _ | with_reducible exact FB.set (FB.other R4.out (by omega) _) _ | with_reducible refine FB.other ?_ (by omega) _ | with_reducible exact FB.new' _ _ _ rfl | with_reducible exact FB.new' _ _ _ (by simp) | with_reducible refine FB.alloc ?_ _)
        · repeat (first | with_reducible exact R1.out | with_reducible exact R2.out | with_reducible exact R3.out | with_reducible exact R4.out | with_reducible exact FB.set R1.out _ | with_reducible exact FB.set R2.out _ | with_reducible exact FB.set R3.out _ | with_reducible exact FB.set R4.out _ | with_reducible exact FB.set (FB.other R1.out (by omega) _) _ | with_reducible exact FB.set (FB.other R2.out (by omega) _) _ | with_reducible exact FB.set (FB.other R3.out (by omega) _) _ | with_reducible exact FB.set (FB.other R4.out (by omega) _) _ | with_reducible refine FB.other ?_ (by omega) _ | with_reducible exact FB.new' _ _ _ rfl | with_reducible exact FB.new' _ _ _ (by simp) | with_reducible refine FB.alloc ?_ _)
        · repeat (first | with_reducible exact Q1.out | with_reducible exact Q2.out | with_reducible refine cellPast R1.out ?_ _ | with_reducible refine cellPast R2.out ?_ _ | with_reducible refine cellPast R3.out ?_ _ | with_reducible refine cellPast R4.out ?_ _ | with_reducible refine cellPast (FB.other R1.out (by omega) _) ?_ _ | with_reducible refine cellPast (FB.other R2.out (by omega) _) ?_ _ | with_reducible refine cellPast (FB.other R3.out (by omega) _) ?_ _ | with_reducible refine cellPast (FB.other R4.out (by omega) _) ?_ _ | with_reducible refine (cellAlloc (Lib.hid ?_) _).out | with_reducible refine (cellStep (Lib.hid ?_) H2.out).out)
        · repeat (first | with_reducible exact Q1.out | with_reducible exact Q2.out | with_reducible refine cellPast R1.out ?_ _ | with_reducible refine cellPast R2.out ?_ _ | with_reducible refine cellPast R3.out ?_ _ | with_reducible refine cellPast R4.out ?_ _ | with_reducible refine cellPast (FB.other R1.out (by omega) _) ?_ _ | with_reducible refine cellPast (FB.other R2.out (by omega) _) ?_ _ | with_reducible refine cellPast (FB.other R3.out (by omega) _) ?_ _ | with_reducible refine cellPast (FB.other R4.out (by omega) _) ?_ _ | with_reducible refine (cellAlloc (Lib.hid ?_) _).out | with_reducible refine (cellStep (Lib.hid ?_) H2.out).out)
        · exact (by repeat (first | with_reducible exact B2.out | with_reducible exact B1.out | with_reducible exact Below.refl _ _ | refine Below.setCell ?_ (by first | exact Nat.le_refl _ | assumption | (simp; done) | (simp; omega)) _ | refine Below.alloc ?_ (by first | exact Nat.le_refl _ | assumption | (simp; done) | (simp; omega)) _ | refine Below.drew ?_))
  case rest =>
    obtain ⟨b6, b7, f1, f2, rfl, rfl, ht⟩ := hcut
    have TT := Lib.hid ht
    replace HB := belStep HB ht.bel
    replace HA := cellStep HA ht.bel
    replace HC := cellStep HC ht.bel
    have hzw := ht.bel.size
    clear ht
    have HRT : Hid (∀ (i : Nat) (w' : World), i < n → Below wc.heap.size wc w' → Calls Try.prog 51 #[.agg #[.int .i64 (i : Int), .int .i64 0], .pointer (some ⟨b7, 0, none⟩), .pointer (some ⟨b6, 0, none⟩)] w' (RetP2 (gi (thE zs xs) i) (gi (thW zs us vs) i) w')) := by
      intro i w' hi hb
      obtain ⟨z, h1, h2, h3, h4, h5, h6, h7⟩ := HIN.out i hi
      have t := TT.out.below hb
      have hbw : Below w.heap.size w w' := HB.out.trans (hb.mono HB.out.size)
      rw [h6, h7]
      exact thenTell_any b7 b6 f1 f2 A n c zs E m d us A' n' c' xs E' m' d' vs i z w' t.t7.cell t.t6.cell t.t7.lt t.t6.lt t.q1 t.q2 (rbK HR1 hbw) (rbK HR2 hbw) (rbK HR3 hbw) (rbK HR4 hbw) h1 h2 h3 HS8.out h4 h5
    have a0 := HA.out.c0; have a1 := HA.out.c1
    go_wp2_with fail
    refine (turnedOf_then n (thE zs xs) (thW zs us vs) b7 b6 wc hn38 HTE.out HTW.out HRT).mono ?_
    rw [← HQQ.out]
    rintro e w6 ⟨A9, c9, E9, d9, mid, rfl, o1, o2, hb⟩
    replace HB := belStep HB hb
    replace HC := cellStep HC hb
    have O1 := Lib.hid o1; have O2 := Lib.hid o2
    have hs2 := hb.size
    have k0 := HC.out.c0; have k1 := HC.out.c1; have f0 := HC.out.f0; have f1' := HC.out.f1; have hzz := HC.out.lt
    have hm1 := o1.le; have hm2 := o1.top
    clear hb o1 o2 HRT a0 a1
    go_wp2
    refine bodyPost_ret (v := .tuple #[.agg #[.slice A9 (ifL q (thE zs xs)).length c9, .slice E9 (ifL q (thW zs us vs)).length d9], .bool q]) (by simp [results, Try.results18, go_sem, k0, k1]) rfl
      ⟨A9, c9, E9, d9, mid, rfl, ?_, ?_, (HB.out.setCell (by simp; omega) _).setCell (by simp; omega) _⟩
    · exact ((O1.out.setBelow (p := ⟨w.heap.size + 1 + 1, 0, none⟩) (by show w.heap.size + 1 + 1 < wc.heap.size; omega) (.slice A9 (ifL q (thE zs xs)).length c9)).setBelow (p := ⟨w.heap.size + 1 + 1, 1, none⟩) (by show w.heap.size + 1 + 1 < wc.heap.size; omega) (.slice E9 (ifL q (thW zs us vs)).length d9)).widen (by omega) (Nat.le_refl _) (by simp; omega)
    · have h3 := (O2.out.setBelow (p := ⟨w.heap.size + 1 + 1, 0, none⟩) (by show w.heap.size + 1 + 1 < mid; omega) (.slice A9 (ifL q (thE zs xs)).length c9)).setBelow (p := ⟨w.heap.size + 1 + 1, 1, none⟩) (by show w.heap.size + 1 + 1 < mid; omega) (.slice E9 (ifL q (thW zs us vs)).length d9)
      simpa using h3
end Go.Proofs.Ytijddnllacphfaa

/- The contracts of the functions by which the laws copy, compare, mark and look at turned orders. -/
import Derived.Test.YtpkdeoehfnnchaaUl1
import Derived.Test.YtpkdeoehfnnchaaBase3
import Derived.Test.YtpkdeoehfnnchaaMgB
namespace Go.Proofs.Ytpkdeoehfnnchaa
open Go Go.RowKit

def szt (n m : Nat) (left : Int) : Int := if (n : Int) ≤ left then szv m (left - n) else -1
theorem szt_yes {n m : Nat} {left : Int} (h : (n : Int) ≤ left) (g : (m : Int) ≤ left - n) : szt n m left = left - n - m := by unfold szt; rw [if_pos h, szv_yes g]
theorem szt_no1 {n m : Nat} {left : Int} (h : ¬ (n : Int) ≤ left) : szt n m left = -1 := by unfold szt; rw [if_neg h]
theorem szt_no2 {n m : Nat} {left : Int} (h : (n : Int) ≤ left) (g : ¬ (m : Int) ≤ left - n) : szt n m left = -1 := by unfold szt; rw [if_pos h, szv_no g]

set_option maxHeartbeats 400000 in
theorem szTurned_any (A : Option Addr) (n c : Nat) (E : Option Addr) (m d : Nat) (left : Int) (w : World) (h1 : 0 ≤ left) (h2 : left ≤ 1048576) (hn : n ≤ 9223372036854775807) (hm : m ≤ 9223372036854775807) :
    Calls Try.prog 7 #[.agg #[.slice A n c, .slice E m d], .int .i64 left] w (RetI (szt n m left) w) := by
  by_cases hc : (n : Int) ≤ left
  · by_cases hd : (m : Int) ≤ left - n
    · have E0 := Lib.hid (szt_yes hc hd)
      have E1 := Lib.hid (szv_yes hc).symm
      have E2 := Lib.hid (szv_yes hd).symm
      go_enter Try.func7, Try.ntmps7
      go_wp2_with fail
      refine (szIntS_any _ _ _ _ _ h1 h2 hn).mono ?_
      rw [E1.out]
      rintro e w1 ⟨rfl, hb⟩
      have HC := cellStep (cellNew w (.slice A n c) (.slice E m d) 24) hb
      have HB := belStep (belAlloc (belRefl (w := w)) (.cells #[.slice A n c, .slice E m d] 24)) hb
      have k0 := HC.out.c0; have k1 := HC.out.c1; have kz := HC.out.lt
      clear hb
      go_wp2_with fail
      refine (szIntS_any _ _ _ _ _ (by omega) (by omega) hm).mono ?_
      rw [E2.out]
      rintro e w2 ⟨rfl, hb⟩
      replace HB := belStep HB hb
      clear hb
      go_wp2
      go_ret
      exact ⟨ret_i E0.out.symm, HB.out⟩
    · have E0 := Lib.hid (szt_no2 hc hd)
      have E1 := Lib.hid (szv_yes hc).symm
      have E2 := Lib.hid (szv_no hd).symm
      go_enter Try.func7, Try.ntmps7
      go_wp2_with fail
      refine (szIntS_any _ _ _ _ _ h1 h2 hn).mono ?_
      rw [E1.out]
      rintro e w1 ⟨rfl, hb⟩
      have HC := cellStep (cellNew w (.slice A n c) (.slice E m d) 24) hb
      have HB := belStep (belAlloc (belRefl (w := w)) (.cells #[.slice A n c, .slice E m d] 24)) hb
      have k0 := HC.out.c0; have k1 := HC.out.c1; have kz := HC.out.lt
      clear hb
      go_wp2_with fail
      refine (szIntS_any _ _ _ _ _ (by omega) (by omega) hm).mono ?_
      rw [E2.out]
      rintro e w2 ⟨rfl, hb⟩
      replace HB := belStep HB hb
      clear hb
      go_wp2
      go_ret
      exact ⟨ret_i E0.out.symm, HB.out⟩
  · have E0 := Lib.hid (szt_no1 (m := m) hc)
    have E1 := Lib.hid (szv_no hc).symm
    go_enter Try.func7, Try.ntmps7
    go_wp2_with fail
    refine (szIntS_any _ _ _ _ _ h1 h2 hn).mono ?_
    rw [E1.out]
    rintro e w1 ⟨rfl, hb⟩
    have HB := belStep (belAlloc (belRefl (w := w)) (.cells #[.slice A n c, .slice E m d] 24)) hb
    clear hb
    go_wp2
    go_ret
    exact ⟨ret_i E0.out.symm, HB.out⟩

/-- a new turned order of the call's own -/
def FreshT (w : World) (n : Nat) (zs : List Int) (m : Nat) (us : List Int) (e : Ending) (w' : World) : Prop :=
  ∃ (A : Option Addr) (c : Nat) (E : Option Addr) (d mid : Nat), e = .returned (.agg #[.slice A n c, .slice E m d]) ∧ OG w' w.heap.size mid A n zs ∧ OG w' mid w'.heap.size E m us ∧ n ≤ c ∧ m ≤ d ∧ Below w.heap.size w w'

theorem OG.setBelow {w : World} {lo hi : Nat} {A : Option Addr} {n : Nat} {zs : List Int} (h : OG w lo hi A n zs) {p : Addr} (hp : p.block < lo) (u : Value) : OG (w.setCell p u) lo hi A n zs :=
  h.chg (lo' := p.block) (hi' := p.block + 1) ⟨rfl, rfl, rfl, by simp [World.setCell], fun i _ hd => Below.heap_setCell w p u i (by omega)⟩ (by omega)
theorem OG.widen {w : World} {lo hi lo' hi' : Nat} {A : Option Addr} {n : Nat} {zs : List Int} (h : OG w lo hi A n zs) (h1 : lo' ≤ lo) (h2 : hi ≤ hi') (h3 : hi' ≤ w.heap.size) : OG w lo' hi' A n zs :=
  ⟨h.of.mono h1, fun b hb => Nat.lt_of_lt_of_le (h.hi' b hb) h2, by have := h.le; omega, h3⟩

theorem OG.alloc {w : World} {lo hi : Nat} {A : Option Addr} {n : Nat} {zs : List Int} (h : OG w lo hi A n zs) (o : Obj) : OG (w.alloc o) lo hi A n zs := h.below ((Below.refl _ _).alloc (Nat.le_refl _) o)
theorem rbK {w wi : World} {K : Nat} {A : Option Addr} {n : Nat} {zs : List Int} (h : Hid (RB w K A n zs)) (hb : Below K w wi) : RI wi A n zs := (h.out.step hb).ri

set_option maxRecDepth 100000 in
set_option maxHeartbeats 2000000 in
theorem toTurned_any (A : Option Addr) (n c : Nat) (zs : List Int) (E : Option Addr) (m d : Nat) (us : List Int) (w : World) (h : RI w A n zs) (g : RI w E m us) (hn : n ≤ 1048576) (hm : m ≤ 1048576) :
    Calls Try.prog 9 #[.agg #[.slice A n c, .slice E m d]] w (FreshT w n zs m us) := by
  have HG : Hid (RB w w.heap.size E m us) := RB.of_ri g
  clear g
  go_enter Try.func9, Try.ntmps9
  go_wp2_with fail
  have HA := cellAlloc (cellAlloc (cellNew w (.slice A n c) (.slice E m d) 24) (.cells #[.slice none 0 0, .slice none 0 0] 30)) (.cells #[.slice none 0 0, .slice none 0 0] 30)
  have HC := cellAlloc (cellNew (w.alloc (.cells #[.slice A n c, .slice E m d] 24)) (.slice none 0 0) (.slice none 0 0) 30) (.cells #[.slice none 0 0, .slice none 0 0] 30)
  have HM := cellNew ((w.alloc (.cells #[.slice A n c, .slice E m d] 24)).alloc (.cells #[.slice none 0 0, .slice none 0 0] 30)) (.slice none 0 0) (.slice none 0 0) 30
  have HB := belAlloc (belAlloc (belAlloc (belRefl (w := w)) (.cells #[.slice A n c, .slice E m d] 24)) (.cells #[.slice none 0 0, .slice none 0 0] 30)) (.cells #[.slice none 0 0, .slice none 0 0] 30)
  refine (toIntS_any A n c zs _ ?h1 hn).mono ?_
  case h1 => exact ((h.alloc _).alloc _).alloc _
  rintro e w1 ⟨A1, c1, rfl, ho, hb⟩
  replace HA := cellStep HA hb
  replace HC := cellStep HC hb
  replace HM := cellStep HM hb
  replace HB := belStep HB hb
  simp only [World.size_alloc] at HC HM
  have hs1 := hb.size
  simp only [World.size_alloc] at hs1
  have HL := Lib.hid ho.le
  have H1 : Hid (OG w1 (w.heap.size + 3) w1.heap.size A1 n zs) := Lib.hid (OG.of_oi (ho.mono (by simp)) (by omega))
  have a1 := HA.out.c1
  have m0 := HM.out.c0; have m1 := HM.out.c1; have f0 := HM.out.f0; have f1 := HM.out.f1; have mz := HM.out.lt
  clear ho hb h
  go_wp2_with fail
  obtain ⟨wx, hwx⟩ : ∃ wx, wx = w1.setCell ⟨w.heap.size + 1 + 1, 0, none⟩ (.slice A1 n c1) := ⟨_, rfl⟩
  have hz : wx.heap.size = w1.heap.size := by rw [hwx]; simp
  have HMx : Hid (Cell2 wx (w.heap.size + 1 + 1) (.slice A1 n c1) (.slice none 0 0)) := Lib.hid ⟨by rw [hwx]; exact World.cell?_setCell_same _ _ _ m0, by rw [hwx, World.cell?_setCell_other _ _ _ _ (by simp)]; exact m1, by rw [hwx]; simpa [go_sem] using f0, by rw [hwx]; simpa [go_sem] using f1, by rw [hz]; exact mz⟩
  have HCh : Hid (Chg w1 wx (w.heap.size + 2) (w.heap.size + 3)) := Lib.hid ⟨by rw [hwx]; rfl, by rw [hwx]; rfl, by rw [hwx]; rfl, by rw [hz]; exact Nat.le_refl _, fun i _ hd => by rw [hwx]; exact Below.heap_setCell w1 _ _ i (by show i ≠ w.heap.size + 1 + 1; omega)⟩
  have HBx : Hid (Below w.heap.size w wx) := Lib.hid (HB.out.trans (HCh.out.below (by omega) (by omega)))
  have HCx := c2Chg HC HCh.out (.inl (Nat.lt_succ_self _))
  have HAx := c2Chg HA HCh.out (.inl (by omega))
  have H1x := ogChg H1 HCh.out (.inr (by omega))
  rw [← hwx]
  clear hwx m0 m1 f0 f1 a1 HCh HM HC HA H1 HB
  refine (toIntS_any E m d us wx (rbK HG HBx.out) hm).mono ?_
  rintro e w2 ⟨E1, d1, rfl, ho, hb⟩
  have HL2 := Lib.hid ho.le
  have HB := belStep HBx hb
  have HC := cellStep HCx hb
  have HM := cellStep HMx hb
  have H1 := ogStep H1x hb
  have hs2 := hb.size
  rw [hz] at hs2
  have H2 : Hid (OG w2 w1.heap.size w2.heap.size E1 m us) := Lib.hid (OG.of_oi (by rw [← hz]; exact ho) hs2)
  clear hb ho HBx HCx HMx H1x HAx
  have m0 := HM.out.c0; have m1 := HM.out.c1; have f0 := HM.out.f0; have f1 := HM.out.f1
  have k0 := HC.out.c0; have k1 := HC.out.c1; have g0 := HC.out.f0; have g1 := HC.out.f1; have cz := HC.out.lt
  go_wp2
  refine bodyPost_ret (v := .agg #[.slice A1 n c1, .slice E1 m d1]) (by simp [results, Try.results9, go_sem, k0, k1]) rfl
    ⟨A1, c1, E1, d1, w1.heap.size, rfl, ?_, ?_, HL.out, HL2.out, ?_⟩
  · exact ((((H1.out.setBelow (by simp) _).setBelow (by simp) _).setBelow (by simp) _).widen (by omega) (Nat.le_refl _) (by simp; omega))
  · have h3 := ((H2.out.setBelow (p := ⟨w.heap.size + 1 + 1, 1, none⟩) (by simp; omega) (.slice E1 m d1)).setBelow (p := ⟨w.heap.size + 1, 0, none⟩) (by simp; omega) (.slice A1 n c1)).setBelow (p := ⟨w.heap.size + 1, 1, none⟩) (by simp; omega) (.slice E1 m d1)
    simpa using h3
  · exact ((HB.out.setCell (by simp <;> omega) _).setCell (by simp) _).setCell (by simp) _

set_option maxHeartbeats 1000000 in
theorem eqTurned_same (A : Option Addr) (n c : Nat) (zs : List Int) (E : Option Addr) (m d : Nat) (us : List Int) (A2 : Option Addr) (c2 : Nat) (E2 : Option Addr) (d2 : Nat) (w : World)
    (h : RI w A n zs) (h2 : RI w A2 n zs) (g : RI w E m us) (g2 : RI w E2 m us) (hn : n ≤ 1048576) (hm : m ≤ 1048576) :
    Calls Try.prog 12 #[.agg #[.slice A n c, .slice E m d], .agg #[.slice A2 n c2, .slice E2 m d2]] w (RetB true w) := by
  have G1 : Hid (RB w w.heap.size E m us) := RB.of_ri g
  have G2 : Hid (RB w w.heap.size E2 m us) := RB.of_ri g2
  clear g g2
  go_enter Try.func12, Try.ntmps12
  go_wp2_with fail
  have HA := cellAlloc (cellNew w (.slice A n c) (.slice E m d) 30) (.cells #[.slice A2 n c2, .slice E2 m d2] 30)
  have HC := cellNew (w.alloc (.cells #[.slice A n c, .slice E m d] 30)) (.slice A2 n c2) (.slice E2 m d2) 30
  have HB := belAlloc (belAlloc (belRefl (w := w)) (.cells #[.slice A n c, .slice E m d] 30)) (.cells #[.slice A2 n c2, .slice E2 m d2] 30)
  refine (eqIntS_any A n c zs A2 n c2 zs _ ((h.alloc _).alloc _) ((h2.alloc _).alloc _) hn hn).mono ?_
  rw [eqB_self]
  rintro e w1 ⟨rfl, hb⟩
  replace HA := cellStep HA hb
  replace HC := cellStep HC hb
  replace HB := belStep HB hb
  simp only [World.size_alloc] at HC
  have a1 := HA.out.c1; have k1 := HC.out.c1
  clear hb h h2
  go_wp2_with fail
  refine (eqIntS_any E m d us E2 m d2 us _ (rbK G1 HB.out) (rbK G2 HB.out) hm hm).mono ?_
  rw [eqB_self]
  rintro e w2 ⟨rfl, hb⟩
  replace HB := belStep HB hb
  clear hb
  go_wp2
  go_ret
  exact ⟨rfl, HB.out⟩

/-- the marks of both rows of a turned order -/
def MarkedT (w : World) (lo mid hi : Nat) (A : Option Addr) (n : Nat) (E : Option Addr) (m : Nat) (k : Int) (e : Ending) (w' : World) : Prop :=
  e = .returned (.int .i64 (k + n + m)) ∧ OG w' lo mid A n (marks k n) ∧ OG w' mid hi E m (marks (k + n) m) ∧ Chg w w' lo hi
set_option maxHeartbeats 1000000 in
theorem markTurned_any (lo mid hi : Nat) (A : Option Addr) (n c : Nat) (zs : List Int) (E : Option Addr) (m d : Nat) (us : List Int) (k : Int) (w : World) (h : OG w lo mid A n zs) (g : OG w mid hi E m us) (hn : n ≤ 1048576) (hm : m ≤ 1048576) (hk : 0 ≤ k) (hk2 : k ≤ 1000000000) :
    Calls Try.prog 13 #[.agg #[.slice A n c, .slice E m d], .int .i64 k] w (MarkedT w lo mid hi A n E m k) := by
  have HG := Lib.hid (g.alloc (.cells #[.slice A n c, .slice E m d] 30))
  have HT := Lib.hid g.top
  have hle := h.le
  have hle2 := g.le
  go_enter Try.func13, Try.ntmps13
  go_wp2_with fail
  have HC := cellNew w (.slice A n c) (.slice E m d) 30
  refine (markG_any lo mid A n c zs k _ (h.alloc _) hn hk (by omega)).mono ?_
  rintro e w1 ⟨rfl, h1, hc⟩
  replace HC := c2Chg HC hc (.inr (by have := HT.out; omega))
  replace HG := ogChg HG hc (.inr (Nat.le_refl _))
  have H1 := Lib.hid h1
  have HCh : Hid (Chg w w1 lo mid) := Lib.hid ⟨hc.os, hc.tape, hc.output, by have := hc.size; simp at this; omega, fun i hi0 hd => (hc.same i (by simp; omega) hd).trans (Below.heap_alloc _ _ _ hi0)⟩
  have k1 := HC.out.c1
  clear hc h1 h g
  go_wp2_with fail
  refine (markG_any mid hi E m d us (k + n) _ HG.out hm (by omega) (by omega)).mono ?_
  rintro e w2 ⟨rfl, h2, hc⟩
  replace H1 := ogChg H1 hc (.inl (Nat.le_refl _))
  have H2 := Lib.hid h2
  replace HCh := Lib.hid ((HCh.out.mono (Nat.le_refl _) hle2).trans (hc.mono hle (Nat.le_refl _)))
  clear hc h2
  go_wp2
  go_ret
  exact ⟨rfl, H1.out, H2.out, HCh.out⟩

set_option maxHeartbeats 1000000 in
theorem heldTurned_any (A : Option Addr) (n c : Nat) (E : Option Addr) (m d : Nat) (k : Int) (w : World) (h : RI w A n (marks k n)) (g : RI w E m (marks (k + n) m)) (hn : n ≤ 1048576) (hm : m ≤ 1048576) (hk : 0 ≤ k) (hk2 : k ≤ 1000000000) :
    Calls Try.prog 25 #[.agg #[.slice A n c, .slice E m d], .int .i64 k] w (RetI (k + n + m) w) := by
  have HG : Hid (RB w w.heap.size E m (marks (k + n) m)) := RB.of_ri g
  clear g
  go_enter Try.func25, Try.ntmps25
  go_wp2_with fail
  have HC := cellNew w (.slice A n c) (.slice E m d) 30
  have HB := belAlloc (belRefl (w := w)) (.cells #[.slice A n c, .slice E m d] 30)
  refine (heldIntS_any A n c k _ (h.alloc _) hn hk (by omega)).mono ?_
  rintro e w1 ⟨rfl, hb⟩
  replace HC := cellStep HC hb
  replace HB := belStep HB hb
  have k1 := HC.out.c1
  clear hb h
  go_wp2_with fail
  refine (heldIntS_any E m d (k + n) _ (rbK HG HB.out) hm (by omega) (by omega)).mono ?_
  rintro e w2 ⟨rfl, hb⟩
  replace HB := belStep HB hb
  clear hb
  go_wp2
  go_ret
  exact ⟨rfl, HB.out⟩
end Go.Proofs.Ytpkdeoehfnnchaa

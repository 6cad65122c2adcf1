/- The contracts of the functions by which the laws copy, compare, mark and look at turned orders. -/
import Derived.Test.YtjdkicanamengaaUl1
import Derived.Test.YtjdkicanamengaaBase3
import Derived.Test.YtjdkicanamengaaMgB
namespace Go.Proofs.Ytjdkicanamengaa
open Go Go.RowKit

def szt (n m : Nat) (left : Int) : Int := if (n : Int) ≤ left then szv m (left - n) else -1
theorem szt_yes {n m : Nat} {left : Int} (h : (n : Int) ≤ left) (g : (m : Int) ≤ left - n) : szt n m left = left - n - m := by unfold szt; rw [if_pos h, szv_yes g]
theorem szt_no1 {n m : Nat} {left : Int} (h : ¬ (n : Int) ≤ left) : szt n m left = -1 := by unfold szt; rw [if_neg h]
theorem szt_no2 {n m : Nat} {left : Int} (h : (n : Int) ≤ left) (g : ¬ (m : Int) ≤ left - n) : szt n m left = -1 := by unfold szt; rw [if_pos h, szv_no g]

/-- a new turned order of the call's own -/
def FreshT (w : World) (n : Nat) (zs : List Int) (m : Nat) (us : List Int) (e : Ending) (w' : World) : Prop :=
  ∃ (A : Option Addr) (c : Nat) (E : Option Addr) (d mid : Nat), e = .returned (.agg #[.slice A n c, .slice E m d]) ∧ OG w' w.heap.size mid A n zs ∧ OG w' mid w'.heap.size E m us ∧ n ≤ c ∧ m ≤ d ∧ Below w.heap.size w w'

theorem OG.setBelow {w : World} {lo hi : Nat} {A : Option Addr} {n : Nat} {zs : List Int} (h : OG w lo hi A n zs) {p : Addr} (hp : p.block < lo) (u : Value) : OG (w.setCell p u) lo hi A n zs :=
  h.chg (lo' := p.block) (hi' := p.block + 1) ⟨rfl, rfl, rfl, by simp [World.setCell], fun i _ hd => Below.heap_setCell w p u i (by omega)⟩ (by omega)
theorem OG.widen {w : World} {lo hi lo' hi' : Nat} {A : Option Addr} {n : Nat} {zs : List Int} (h : OG w lo hi A n zs) (h1 : lo' ≤ lo) (h2 : hi ≤ hi') (h3 : hi' ≤ w.heap.size) : OG w lo' hi' A n zs :=
  ⟨h.of.mono h1, fun b hb => Nat.lt_of_lt_of_le (h.hi' b hb) h2, by have := h.le; omega, h3⟩

theorem OG.alloc {w : World} {lo hi : Nat} {A : Option Addr} {n : Nat} {zs : List Int} (h : OG w lo hi A n zs) (o : Obj) : OG (w.alloc o) lo hi A n zs := h.below ((Below.refl _ _).alloc (Nat.le_refl _) o)
theorem rbK {w wi : World} {K : Nat} {A : Option Addr} {n : Nat} {zs : List Int} (h : Hid (RB w K A n zs)) (hb : Below K w wi) : RI wi A n zs := (h.out.step hb).ri

set_option maxHeartbeats 1000000 in
theorem eqTurned_same (A : Option Addr) (n c : Nat) (zs : List Int) (E : Option Addr) (m d : Nat) (us : List Int) (A2 : Option Addr) (c2 : Nat) (E2 : Option Addr) (d2 : Nat) (w : World)
    (h : RI w A n zs) (h2 : RI w A2 n zs) (g : RI w E m us) (g2 : RI w E2 m us) (hn : n ≤ 1048576) (hm : m ≤ 1048576) :
    Calls Try.prog 27 #[.agg #[.slice A n c, .slice E m d], .agg #[.slice A2 n c2, .slice E2 m d2]] w (RetB true w) := by
  have G1 : Hid (RB w w.heap.size E m us) := RB.of_ri g
  have G2 : Hid (RB w w.heap.size E2 m us) := RB.of_ri g2
  clear g g2
  go_enter Try.func27, Try.ntmps27
  go_wp2_with fail
  have HA := cellAlloc (cellNew w (.slice A n c) (.slice E m d) 40) (.cells #[.slice A2 n c2, .slice E2 m d2] 40)
  have HC := cellNew (w.alloc (.cells #[.slice A n c, .slice E m d] 40)) (.slice A2 n c2) (.slice E2 m d2) 40
  have HB := belAlloc (belAlloc (belRefl (w := w)) (.cells #[.slice A n c, .slice E m d] 40)) (.cells #[.slice A2 n c2, .slice E2 m d2] 40)
  refine (eqIntS_any A n c zs A2 n c2 zs _ ((h.alloc _).alloc _) ((h2.alloc _).alloc _) hn hn).mono ?_
  rw [eqB_self]
  rintro e w1 ⟨rfl, hb⟩
  replace HA := cellStep HA hb
  replace HC := cellStep HC hb
  replace HB := belStep HB hb
  simp only [World.size_alloc] at HC
  have a1 := HA.out.c1; have k1 := HC.out.c1
  clear hb h h2
  go_wp2_with fail
  refine (eqIntS_any E m d us E2 m d2 us _ (rbK G1 HB.out) (rbK G2 HB.out) hm hm).mono ?_
  rw [eqB_self]
  rintro e w2 ⟨rfl, hb⟩
  replace HB := belStep HB hb
  clear hb
  go_wp2
  go_ret
  exact ⟨rfl, HB.out⟩

/-- the marks of both rows of a turned order -/
def MarkedT (w : World) (lo mid hi : Nat) (A : Option Addr) (n : Nat) (E : Option Addr) (m : Nat) (k : Int) (e : Ending) (w' : World) : Prop :=
  e = .returned (.int .i64 (k + n + m)) ∧ OG w' lo mid A n (marks k n) ∧ OG w' mid hi E m (marks (k + n) m) ∧ Chg w w' lo hi
set_option maxHeartbeats 1000000 in
theorem markTurned_any (lo mid hi : Nat) (A : Option Addr) (n c : Nat) (zs : List Int) (E : Option Addr) (m d : Nat) (us : List Int) (k : Int) (w : World) (h : OG w lo mid A n zs) (g : OG w mid hi E m us) (hn : n ≤ 1048576) (hm : m ≤ 1048576) (hk : 0 ≤ k) (hk2 : k ≤ 1000000000) :
    Calls Try.prog 28 #[.agg #[.slice A n c, .slice E m d], .int .i64 k] w (MarkedT w lo mid hi A n E m k) := by
  have HG := Lib.hid (g.alloc (.cells #[.slice A n c, .slice E m d] 40))
  have HT := Lib.hid g.top
  have hle := h.le
  have hle2 := g.le
  go_enter Try.func28, Try.ntmps28
  go_wp2_with fail
  have HC := cellNew w (.slice A n c) (.slice E m d) 40
  refine (markG_any lo mid A n c zs k _ (h.alloc _) hn hk (by omega)).mono ?_
  rintro e w1 ⟨rfl, h1, hc⟩
  replace HC := c2Chg HC hc (.inr (by have := HT.out; omega))
  replace HG := ogChg HG hc (.inr (Nat.le_refl _))
  have H1 := Lib.hid h1
  have HCh : Hid (Chg w w1 lo mid) := Lib.hid ⟨hc.os, hc.tape, hc.output, by have := hc.size; simp at this; omega, fun i hi0 hd => (hc.same i (by simp; omega) hd).trans (Below.heap_alloc _ _ _ hi0)⟩
  have k1 := HC.out.c1
  clear hc h1 h g
  go_wp2_with fail
  refine (markG_any mid hi E m d us (k + n) _ HG.out hm (by omega) (by omega)).mono ?_
  rintro e w2 ⟨rfl, h2, hc⟩
  replace H1 := ogChg H1 hc (.inl (Nat.le_refl _))
  have H2 := Lib.hid h2
  replace HCh := Lib.hid ((HCh.out.mono (Nat.le_refl _) hle2).trans (hc.mono hle (Nat.le_refl _)))
  clear hc h2
  go_wp2
  go_ret
  exact ⟨rfl, H1.out, H2.out, HCh.out⟩

set_option maxHeartbeats 1000000 in
theorem heldTurned_any (A : Option Addr) (n c : Nat) (E : Option Addr) (m d : Nat) (k : Int) (w : World) (h : RI w A n (marks k n)) (g : RI w E m (marks (k + n) m)) (hn : n ≤ 1048576) (hm : m ≤ 1048576) (hk : 0 ≤ k) (hk2 : k ≤ 1000000000) :
    Calls Try.prog 29 #[.agg #[.slice A n c, .slice E m d], .int .i64 k] w (RetI (k + n + m) w) := by
  have HG : Hid (RB w w.heap.size E m (marks (k + n) m)) := RB.of_ri g
  clear g
  go_enter Try.func29, Try.ntmps29
  go_wp2_with fail
  have HC := cellNew w (.slice A n c) (.slice E m d) 40
  have HB := belAlloc (belRefl (w := w)) (.cells #[.slice A n c, .slice E m d] 40)
  refine (heldIntS_any A n c k _ (h.alloc _) hn hk (by omega)).mono ?_
  rintro e w1 ⟨rfl, hb⟩
  replace HC := cellStep HC hb
  replace HB := belStep HB hb
  have k1 := HC.out.c1
  clear hb h
  go_wp2_with fail
  refine (heldIntS_any E m d (k + n) _ (rbK HG HB.out) hm (by omega) (by omega)).mono ?_
  rintro e w2 ⟨rfl, hb⟩
  replace HB := belStep HB hb
  clear hb
  go_wp2
  go_ret
  exact ⟨rfl, HB.out⟩
end Go.Proofs.Ytjdkicanamengaa

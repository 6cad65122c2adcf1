/- ThenTurned of the program: what its closure tells. -/
import Derived.Test.YtijddnllacphfaaTl1
import Derived.Test.YtijddnllacphfaaUl2
import Derived.Deep.RegionWith
namespace Go.Proofs.Ytijddnllacphfaa
open Go Go.RowKit

set_option maxRecDepth 100000 in
set_option maxHeartbeats 1000000 in
theorem thenTell_any (b7 b6 f1 f2 : Nat) (A : Option Addr) (n c : Nat) (zs : List Int) (E : Option Addr) (m d : Nat) (us : List Int) (A' : Option Addr) (n' c' : Nat) (xs : List Int) (E' : Option Addr) (m' d' : Nat) (vs : List Int) (i z : Nat) (w : World)
    (c7 : w.cell? ⟨b7, 0, none⟩ = some (.func (.func 72) #[] #[.pointer (some ⟨f2, 0, none⟩)])) (c6 : w.cell? ⟨b6, 0, none⟩ = some (.func (.func 72) #[] #[.pointer (some ⟨f1, 0, none⟩)])) (l7 : b7 < w.heap.size) (l6 : b6 < w.heap.size)
    (q1 : Cell2 w f1 (.slice A n c) (.slice E m d)) (q2 : Cell2 w f2 (.slice A' n' c') (.slice E' m' d')) (h : RI w A n zs) (g : RI w E m us) (h' : RI w A' n' xs) (g' : RI w E' m' vs)
    (hi : i < n ∧ i < m) (hz : z < n' ∧ z < m') (hzi : gi zs i = (z : Int)) (hs : n ≤ 8 ∧ m ≤ 8 ∧ n' ≤ 8 ∧ m' ≤ 8) (hu : -20 ≤ gi us i ∧ gi us i ≤ 20) (hv : -20 ≤ gi vs z ∧ gi vs z ≤ 20) :
    Calls Try.prog 51 #[.agg #[.int .i64 (i : Int), .int .i64 0], .pointer (some ⟨b7, 0, none⟩), .pointer (some ⟨b6, 0, none⟩)] w (RetP2 (gi xs z) (gi us i + gi vs z) w) := by
  obtain ⟨x, hx⟩ : ∃ x, x = gi xs z := ⟨_, rfl⟩
  obtain ⟨u, hu'⟩ : ∃ u, u = gi us i := ⟨_, rfl⟩
  obtain ⟨v, hv'⟩ : ∃ v, v = gi vs z := ⟨_, rfl⟩
  have HT1 : Hid (∀ w' : World, Cell2 w' f1 (.slice A n c) (.slice E m d) → RI w' A n zs → RI w' E m us → Calls Try.prog 72 #[.agg #[.int .i64 (i : Int), .int .i64 0], .pointer (some ⟨f1, 0, none⟩)] w' (RetP2 (z : Int) u w')) := by
    intro w' hc r1 r2
    have h := tell_any f1 A n c zs E m d us i 0 w' hc.c0 hc.c1 hc.lt r1 r2 (by omega) (by omega) (by omega) (by omega) (by omega) (by omega)
    rw [hzi, Int.zero_add, ← hu'] at h; exact h
  have HT2 : Hid (∀ w' : World, Cell2 w' f2 (.slice A' n' c') (.slice E' m' d') → RI w' A' n' xs → RI w' E' m' vs → Calls Try.prog 72 #[.agg #[.int .i64 (z : Int), .int .i64 u], .pointer (some ⟨f2, 0, none⟩)] w' (RetP2 x (u + v) w')) := by
    intro w' hc r1 r2
    have h := tell_any f2 A' n' c' xs E' m' d' vs z u w' hc.c0 hc.c1 hc.lt r1 r2 (by omega) (by omega) (by omega) (by omega) (by omega) (by omega)
    rw [← hx, ← hv'] at h; exact h
  rw [← hx, ← hu', ← hv']
  have R1 : Hid (RB w w.heap.size A n zs) := RB.of_ri h
  have R2 : Hid (RB w w.heap.size E m us) := RB.of_ri g
  have R3 : Hid (RB w w.heap.size A' n' xs) := RB.of_ri h'
  have R4 : Hid (RB w w.heap.size E' m' vs) := RB.of_ri g'
  have Q1 := Lib.hid q1; have Q2 := Lib.hid q2
  have L1 := q1.lt; have L2 := q2.lt
  have C7 := Lib.hid c7; have C6 := Lib.hid c6
  clear h g h' g' q1 q2 hx hu' hv' hzi hu hv hs hi hz
  go_enter Try.func51, Try.ntmps51
  obtain ⟨w0, hw0⟩ : ∃ w0, w0 = (w.alloc (.cells #[.int .i64 (i : Int), .int .i64 0] 63)).alloc (.cells #[.int .i64 0, .int .i64 0] 63) := ⟨_, rfl⟩
  have HB : Hid (Below w.heap.size w w0) := by rw [hw0]; exact belAlloc (belAlloc belRefl _) _
  have HP : Hid (Cell2 w0 w.heap.size (.int .i64 (i : Int)) (.int .i64 0)) := by rw [hw0]; exact cellAlloc (cellNew w _ _ 63) _
  have HC : Hid (Cell2 w0 (w.heap.size + 1) (.int .i64 0) (.int .i64 0)) := by
    have h1 := cellNew (w.alloc (.cells #[.int .i64 (i : Int), .int .i64 0] 63)) (.int .i64 0) (.int .i64 0) 63
    simp only [World.size_alloc] at h1
    rw [hw0]; exact h1
  have p0 := HP.out.c0; have p1 := HP.out.c1
  have z6 := (HB.out.cell (p := ⟨b6, 0, none⟩) l6).trans c6
  have z7 := (HB.out.cell (p := ⟨b7, 0, none⟩) l7).trans c7
  clear c6 c7
  go_upto_region 1 with fail
  rw [← hw0]
  clear hw0
  have HBd := belDrew HB
  have HCd := cellDrew HC
  go_region_with (first
    | (go_at_call_of 72 (Value.pointer (some ⟨f2, 0, none⟩)); refine (HT2.out _ ?_ ?_ ?_).mono ?_; exact (cellBelow Q2 L2 HB1.out).out; exact rbK R3 HB1.out; exact rbK R4 HB1.out; rintro e w2 ⟨rfl, hb⟩; have HB2 := belStep HB1 hb; have HC2 := cellStep HC1 hb; have k0 := HC2.out.c0; have k1 := HC2.out.c1; have kf0 := HC2.out.f0; have kf1 := HC2.out.f1; have kz := HC2.out.lt; clear hb)
    | (go_at_call_of 72 (Value.pointer (some ⟨f1, 0, none⟩)); refine (HT1.out _ ?_ ?_ ?_).mono ?_; (first | exact (cellBelow Q1 L1 HB.out).out | exact (cellBelow Q1 L1 HBd.out).out); (first | exact rbK R1 HB.out | exact rbK R1 HBd.out); (first | exact rbK R2 HB.out | exact rbK R2 HBd.out); rintro e w1 ⟨rfl, hb⟩; have HB1 : Hid (Below w.heap.size w w1) := (by first | exact belStep HB hb | exact belStep HBd hb); have HC1 : Hid (Cell2 w1 (w.heap.size + 1) (.int .i64 0) (.int .i64 0)) := (by first | exact cellStep HC hb | exact cellStep HCd hb); have y7 := (HB1.out.cell (p := ⟨b7, 0, none⟩) l7).trans C7.out; clear hb))
  all_goals
    go_wp2
    exact bodyPost_ret (v := .agg #[.int .i64 x, .int .i64 (u + v)]) (by simp [results, Try.results51, go_sem, k0, k1]) rfl ⟨rfl, (by repeat (first | exact HB2.out | refine Below.setCell ?_ (by simp <;> omega) _ | refine Below.alloc ?_ (by simp <;> omega) _ | refine Below.drew ?_))⟩
end Go.Proofs.Ytijddnllacphfaa

/- poTop: what is left of a turned order below a rung at the top, by the model. -/
import Derived.Test.YtpkdeoehfnnchaaLq1
import Derived.Test.YtpkdeoehfnnchaaMgE
import Derived.Test.YtpkdeoehfnnchaaTo1
import Derived.Test.YtpkdeoehfnnchaaUl2
import Derived.Deep.RegionHeld3
import Derived.Deep.Cut
import Derived.BigRegion
namespace Go.Proofs.Ytpkdeoehfnnchaa
open Go Go.RowKit

theorem oiOff {w : World} {B g k n c : Nat} {zs : List Int} (h : OI w B (some ⟨g, 0, none⟩) n c zs) (hne : g ≠ k) (j : Nat) (v : Value) : OI (w.setCell ⟨k, j, none⟩ v) B (some ⟨g, 0, none⟩) n c zs :=
  h.kept (row := some k) (grown_setCell (g := k) (grown_refl w _) (.inl rfl) _) (fun b hb e => by
    have h1 : g = b := by simpa [Go.Proofs.Ytpkdeoehfnnchaa.blk] using hb
    have h2 := Option.some.inj e
    omega)
theorem cellSet2 {w : World} {b : Nat} {u v : Value} (h : Cell2 w b u v) (u' v' : Value) : Cell2 ((w.setCell ⟨b, 0, none⟩ u').setCell ⟨b, 1, none⟩ v') b u' v' :=
  ⟨by rw [World.cell?_setCell_other _ _ _ _ (by simp)]; exact World.cell?_setCell_same _ _ _ h.c0,
   World.cell?_setCell_same _ _ _ (by rw [World.cell?_setCell_other _ _ _ _ (by simp)]; exact h.c1),
   by simpa [go_sem] using h.f0, by simpa [go_sem] using h.f1, by simpa [World.setCell] using h.lt⟩
theorem ownBlk {w : World} {K : Nat} {A : Option Addr} {n c : Nat} {zs : List Int} (h : OI w K A n c zs) (hn : 0 < n) : ∃ g, A = some ⟨g, 0, none⟩ ∧ K ≤ g ∧ g < w.heap.size := by
  obtain ⟨m, rfl⟩ : ∃ m, n = m + 1 := ⟨n - 1, by omega⟩
  obtain ⟨g, e, _⟩ := h.some_
  have := h.blk g (by rw [e]; rfl)
  exact ⟨g, e, this.1, this.2⟩
/-- the model's new order under way: its block and its two rows, the argument's box, the answer's place -/
structure TP (w W : World) (K b6 g1 g2 n c1 c2 : Nat) (P0 P1 : Value) (zs us : List Int) : Prop where
  bel : Below w.heap.size w W
  box : Cell2 W w.heap.size P0 P1
  res : Cell2 W (w.heap.size + 1) (.slice none 0 0) (.slice none 0 0)
  out : Cell2 W b6 (.slice (some ⟨g1, 0, none⟩) n c1) (.slice (some ⟨g2, 0, none⟩) n c2)
  r1 : OI W K (some ⟨g1, 0, none⟩) n c1 zs
  r2 : OI W K (some ⟨g2, 0, none⟩) n c2 us
  k : w.heap.size + 2 ≤ K
  b : K ≤ b6
  ne1 : b6 ≠ g1
  ne2 : b6 ≠ g2
  ne : g1 ≠ g2
section
variable {w W : World} {K b6 g1 g2 n c1 c2 : Nat} {P0 P1 : Value} {zs us : List Int}
theorem TP.st1 (h : TP w W K b6 g1 g2 n c1 c2 P0 P1 zs us) (j : Nat) (v : Int) : TP w (W.setCell ⟨g1, j, none⟩ (.int .i64 v)) K b6 g1 g2 n c1 c2 P0 P1 (zs.set j v) us := by
  have hk := h.k
  have hg := (h.r1.blk g1 rfl).1
  exact ⟨h.bel.setCell (by show w.heap.size ≤ g1; omega) _, cellFar h.box _ (by show g1 ≠ w.heap.size; omega) _, cellFar h.res _ (by show g1 ≠ w.heap.size + 1; omega) _, cellFar h.out _ (by show g1 ≠ b6; exact fun e => h.ne1 e.symm) _, h.r1.stored j v, oiOff h.r2 (fun e => h.ne e.symm) _ _, h.k, h.b, h.ne1, h.ne2, h.ne⟩
theorem TP.st2 (h : TP w W K b6 g1 g2 n c1 c2 P0 P1 zs us) (j : Nat) (v : Int) : TP w (W.setCell ⟨g2, j, none⟩ (.int .i64 v)) K b6 g1 g2 n c1 c2 P0 P1 zs (us.set j v) := by
  have hk := h.k
  have hg := (h.r2.blk g2 rfl).1
  exact ⟨h.bel.setCell (by show w.heap.size ≤ g2; omega) _, cellFar h.box _ (by show g2 ≠ w.heap.size; omega) _, cellFar h.res _ (by show g2 ≠ w.heap.size + 1; omega) _, cellFar h.out _ (by show g2 ≠ b6; exact fun e => h.ne2 e.symm) _, oiOff h.r1 h.ne _ _, h.r2.stored j v, h.k, h.b, h.ne1, h.ne2, h.ne⟩
theorem TP.drew (h : TP w W K b6 g1 g2 n c1 c2 P0 P1 zs us) : TP w W.drew K b6 g1 g2 n c1 c2 P0 P1 zs us :=
  ⟨h.bel.drew, (cellDrew (Lib.hid h.box)).out, (cellDrew (Lib.hid h.res)).out, (cellDrew (Lib.hid h.out)).out, h.r1, h.r2, h.k, h.b, h.ne1, h.ne2, h.ne⟩
theorem TP.at1 (h : TP w W K b6 g1 g2 n c1 c2 P0 P1 zs us) {j : Nat} (hj : j < n) : W.cell? ⟨g1, j, none⟩ = some (.int .i64 (gi zs j)) := by
  obtain ⟨b', o', e, _, hc⟩ := h.r1.ri.cell hj
  injection e with e; injection e with e1 e2 e3
  subst e1 e2
  have := hc j hj
  rwa [Nat.zero_add] at this
theorem TP.at2 (h : TP w W K b6 g1 g2 n c1 c2 P0 P1 zs us) {j : Nat} (hj : j < n) : W.cell? ⟨g2, j, none⟩ = some (.int .i64 (gi us j)) := by
  obtain ⟨b', o', e, _, hc⟩ := h.r2.ri.cell hj
  injection e with e; injection e with e1 e2 e3
  subst e1 e2
  have := hc j hj
  rwa [Nat.zero_add] at this
theorem TP.fz1 (h : TP w W K b6 g1 g2 n c1 c2 P0 P1 zs us) (j : Nat) : W.frozen? ⟨g1, j, none⟩ = false := h.r1.2.frozenAt j
theorem TP.fz2 (h : TP w W K b6 g1 g2 n c1 c2 P0 P1 zs us) (j : Nat) : W.frozen? ⟨g2, j, none⟩ = false := h.r2.2.frozenAt j
end
theorem rbEl {w W : World} {B ba oa n : Nat} {zs : List Int} (R : Hid (RB w B (some ⟨ba, oa, none⟩) n zs)) (hb : Below B w W) {j : Nat} (hj : j < n) : W.cell? ⟨ba, oa + j, none⟩ = some (.int .i64 (gi zs j)) := by
  obtain ⟨b', o', e, _, hc⟩ := (rbK R hb).cell hj
  injection e with e; injection e with e1 e2 e3
  subst e1 e2
  exact hc j hj
/-- a turned order in two lists, and nothing that was there has turned -/
def LeftQ (w : World) (n : Nat) (zs us : List Int) (e : Ending) (w' : World) : Prop :=
  ∃ (A : Option Addr) (c : Nat) (E : Option Addr) (d : Nat), e = .returned (.agg #[.slice A n c, .slice E n d]) ∧ RI w' A n zs ∧ RI w' E n us ∧ (∀ b, blk A = some b → w.heap.size ≤ b) ∧ (∀ b, blk E = some b → w.heap.size ≤ b) ∧ Below w.heap.size w w'
theorem topW_zero (us : List Int) (r x : Nat) : topW us r x 0 = (us.set r (gi us x)).set x (gi us r) := by simp [topW]
theorem topW_one {us : List Int} {r : Nat} (hr : r < us.length) (hne : r ≠ 0) (a b : Int) (ha : a = gi us 0) (hb : b = gi us r) : topW us r 0 1 = ((((us.set r a).set 0 b).set 0 (b - 1)).set r (a + 1)) := by
  rw [List.set_set, List.set_comm _ _ (fun e => hne e.symm), List.set_set, ha, hb]
  rfl

set_option maxRecDepth 100000 in
set_option maxHeartbeats 2000000 in
theorem poTop_any (A : Option Addr) (n c : Nat) (zs : List Int) (E : Option Addr) (d : Nat) (us : List Int) (r : Nat) (w : World) (h : RI w A n zs) (g : RI w E n us) (hn : 3 ≤ n ∧ n ≤ 8) (hr : r < n) (hu : ∀ j, j < n → -20 ≤ gi us j ∧ gi us j ≤ 20) :
    Calls Try.prog 30 #[.agg #[.slice A n c, .slice E n d], .int .i64 (r : Int)] w (LeftQ w n (topE zs r (nxtR n r)) (topW us r (nxtR n r) (wndR n r))) := by
  have R1 : Hid (RB w w.heap.size A n zs) := RB.of_ri h
  have R2 : Hid (RB w w.heap.size E n us) := RB.of_ri g
  have hzl := h.1; have hul := g.1
  obtain ⟨ba, oa, rfl, _, _⟩ := h.cell hr
  obtain ⟨be, oe, rfl, _, _⟩ := g.cell hr
  obtain ⟨x, hx⟩ : ∃ x, x = nxtR n r := ⟨_, rfl⟩
  have hxn : x < n := by rw [hx]; unfold nxtR; by_cases e : r + 1 = n <;> simp [e] <;> omega
  have hxr : r ≠ x := by rw [hx]; unfold nxtR; by_cases e : r + 1 = n <;> simp [e] <;> omega
  have hm : Int.tmod ((r : Int) + 1) (n : Int) = (x : Int) := by
    rw [Int.tmod_eq_emod_of_nonneg (by omega), hx]; unfold nxtR
    by_cases e : r + 1 = n
    · rw [if_pos e, ← e]; simp
    · rw [if_neg e, Int.emod_eq_of_lt (by omega) (by omega)]; simp
  have hX := Lib.hid hx
  have i0 : IntKind.i64.wrap ((r : Int) + 1) = (r : Int) + 1 := IntWalk.i64_in _ (by omega)
  have i1 : ¬ ((n : Int) = 0) := by omega
  have i2 : IntKind.i64.wrap (x : Int) = (x : Int) := IntWalk.i64_in _ (by omega)
  have i3 : (0 : Int) ≤ (r : Int) := by omega
  have i4 : (r : Int) < (n : Int) := by omega
  have i5 : (0 : Int) ≤ (x : Int) := by omega
  have i6 : (x : Int) < (n : Int) := by omega
  have hur := hu r hr
  have hux := hu x hxn
  rw [← hx]
  clear h g hu hx
  go_enter Try.func30, Try.ntmps30
  obtain ⟨w1, hw1⟩ : ∃ w1, w1 = (w.alloc (.cells #[.slice (some ⟨ba, oa, none⟩) n c, .slice (some ⟨be, oe, none⟩) n d] 30)).alloc (.cells #[.slice none 0 0, .slice none 0 0] 30) := ⟨_, rfl⟩
  have HB : Hid (Below w.heap.size w w1) := by rw [hw1]; exact belAlloc (belAlloc belRefl _) _
  have HP : Hid (Cell2 w1 w.heap.size (.slice (some ⟨ba, oa, none⟩) n c) (.slice (some ⟨be, oe, none⟩) n d)) := by rw [hw1]; exact cellAlloc (cellNew w _ _ 30) _
  have HC : Hid (Cell2 w1 (w.heap.size + 1) (.slice none 0 0) (.slice none 0 0)) := by
    have h1 := cellNew (w.alloc (.cells #[.slice (some ⟨ba, oa, none⟩) n c, .slice (some ⟨be, oe, none⟩) n d] 30)) (.slice none 0 0) (.slice none 0 0) 30
    simp only [World.size_alloc] at h1
    rw [hw1]; exact h1
  have p0 := HP.out.c0; have p1 := HP.out.c1
  go_upto_region 1 with fail
  rw [← hw1]
  clear hw1
  go_upto_region 2 with fail
  have hK : w.heap.size + 2 ≤ w1.heap.size := by have := HC.out.lt; omega
  go_cut [6] from 11 (fun s6 wx => ∃ b6 g1 g2 c1 c2 : Nat, s6 = .pointer (some ⟨b6, 0, none⟩) ∧ TP w wx w1.heap.size b6 g1 g2 n c1 c2 (.slice (some ⟨ba, oa, none⟩) n c) (.slice (some ⟨be, oe, none⟩) n d) zs us)
  case first =>
    have HBd := belDrew HB
    have hS : Hid (∀ w' : World, Below w1.heap.size w1 w' → w'.cell? ⟨w.heap.size, 0, none⟩ = some (.slice (some ⟨ba, oa, none⟩) n c) ∧ w'.cell? ⟨w.heap.size, 1, none⟩ = some (.slice (some ⟨be, oe, none⟩) n d)) :=
      fun w' hb => ⟨(hb.cell (p := ⟨w.heap.size, 0, none⟩) (by show w.heap.size < w1.heap.size; omega)).trans p0, (hb.cell (p := ⟨w.heap.size, 1, none⟩) (by show w.heap.size < w1.heap.size; omega)).trans p1⟩
    have HBw := HB
    replace HB : Hid (Below w.heap.size w w1.drew) := belDrew HB
    have hds : ∀ o, (w1.alloc o).drew.heap.size = w1.heap.size + 1 := fun o => World.size_alloc w1 o
    have HN0 : Hid (Below w1.heap.size w1 w1) := belRefl
    have HN : Hid (Below w1.heap.size w1 w1.drew) := (drewBel w1)
    clear p0 p1 HBd
    go_region_held3 (fun w' => w'.cell? ⟨w.heap.size, 0, none⟩ = some (.slice (some ⟨ba, oa, none⟩) n c) ∧ w'.cell? ⟨w.heap.size, 1, none⟩ = some (.slice (some ⟨be, oe, none⟩) n d))
      (first | exact hS.out _ HN.out | exact hS.out _ (belDrew (belAlloc HN0 _)).out | exact hS.out _ (belAlloc HN _).out | exact hS.out _ ((HN.out.setCell (Nat.le_refl _) _).setCell (Nat.le_refl _) _) | exact hS.out _ ((HN.out.setCell Za _).setCell Za _))
      (first
        | (go_at_call 42; (with_reducible refine (l1Own_any (some ⟨ba, oa, none⟩) n c zs _ (rbK R1 (by first | exact HB.out | exact (belDrew (belAlloc HBw _)).out)) (by omega)).mono ?_); rintro e wa ⟨Y1, c1, rfl, o1, hb⟩; obtain ⟨g1, rfl, ga, gb⟩ := ownBlk o1 (by omega); have O1 := Lib.hid o1; have Sa := hb.size; (try simp only [World.size_alloc] at Sa); (try simp only [World.size_alloc] at ga); (try rw [hds] at ga); replace HB := (by first | exact belStep HB hb | exact belStep (belDrew (belAlloc HBw _)) hb); replace HN := (by first | exact belStep HN hb | exact belStep (belDrew (belAlloc HN0 _)) hb); have Za : w1.heap.size ≤ wa.heap.size := HN.out.size; (first | (have F : Hid (Cell2 wa w1.heap.size (.slice none 0 0) (.slice none 0 0)) := cellStep (cellDrew (cellNew w1 (.slice none 0 0) (.slice none 0 0) 30)) hb; have fz : w1.heap.size < g1 := ga) | skip); clear hb o1)
        | (go_at_call 42; (with_reducible refine (l1Own_any (some ⟨be, oe, none⟩) n d us _ (rbK R2 (by first | exact HB.out | exact (belAlloc HB _).out)) (by omega)).mono ?_); rintro e wb ⟨Y2, c2, rfl, o2, hb⟩; obtain ⟨g2, rfl, gc, gd⟩ := ownBlk o2 (by omega); have O2 := Lib.hid o2; have Sb := hb.size; (try simp only [World.size_alloc] at Sb); (try simp only [World.size_alloc] at gc); replace HB := (by first | exact belStep HB hb | exact belStep (belAlloc HB _) hb); replace O1 := (by first | exact oiStep O1 hb | exact oiStep (Lib.hid (O1.out.alloc _)) hb); replace HN := (by first | exact belStep HN hb | exact belStep (belAlloc HN _) hb); (first | (have F2 : Hid (Cell2 wb wa.heap.size (.slice none 0 0) (.slice none 0 0)) := cellStep (cellNew wa (.slice none 0 0) (.slice none 0 0) 30) hb; have fz : wa.heap.size < g2 := gc; have F := F2; clear F2) | (replace F := cellStep F hb) | skip); (first | (have k0 := F.out.c0; have k1 := F.out.c1; have kf0 := F.out.f0; have kf1 := F.out.f1; have kz := F.out.lt) | skip); clear hb o2))
    all_goals
      have HP' := cellStep HP HN.out
      have HC' := cellStep HC HN.out
      have nw : w.heap.size + 1 < w1.heap.size := by omega
      have hsz := HN.out.size
      have O1' : Hid (OI wb w1.heap.size (some ⟨g1, 0, none⟩) n c1 zs) := Lib.hid (O1.out.mono (by first | exact Nat.le_refl _ | (simp only [hds]; omega)))
      have O2' : Hid (OI wb w1.heap.size (some ⟨g2, 0, none⟩) n c2 us) := Lib.hid (O2.out.mono (by first | omega | (simp only [World.size_alloc]; omega)))
      go_wp2
      go_meet
      case rel =>
        first
          | exact ⟨_, _, _, _, _, rfl, ⟨(belAlloc HB _).out, (cellAlloc HP' _).out, (cellAlloc HC' _).out, (cellNew wb _ _ 30).out, O1'.out.alloc _, O2'.out.alloc _, hK, hsz, by omega, by omega, by omega⟩⟩
          | exact ⟨_, _, _, _, _, rfl, ⟨(HB.out.setCell (by show w.heap.size ≤ wa.heap.size; omega) _).setCell (by show w.heap.size ≤ wa.heap.size; omega) _, cellFar (cellFar HP'.out ⟨wa.heap.size, 0, none⟩ (by show wa.heap.size ≠ w.heap.size; omega) _) ⟨wa.heap.size, 1, none⟩ (by show wa.heap.size ≠ w.heap.size; omega) _, cellFar (cellFar HC'.out ⟨wa.heap.size, 0, none⟩ (by show wa.heap.size ≠ w.heap.size + 1; omega) _) ⟨wa.heap.size, 1, none⟩ (by show wa.heap.size ≠ w.heap.size + 1; omega) _, cellSet2 F.out _ _, oiOff (oiOff O1'.out (k := wa.heap.size) (by omega) 0 _) (k := wa.heap.size) (by omega) 1 _, oiOff (oiOff O2'.out (k := wa.heap.size) (by omega) 0 _) (k := wa.heap.size) (by omega) 1 _, hK, Za, by omega, by omega, by omega⟩⟩
          | exact ⟨_, _, _, _, _, rfl, ⟨(HB.out.setCell (by show w.heap.size ≤ w1.heap.size; omega) _).setCell (by show w.heap.size ≤ w1.heap.size; omega) _, cellFar (cellFar HP'.out ⟨w1.heap.size, 0, none⟩ (by show w1.heap.size ≠ w.heap.size; omega) _) ⟨w1.heap.size, 1, none⟩ (by show w1.heap.size ≠ w.heap.size; omega) _, cellFar (cellFar HC'.out ⟨w1.heap.size, 0, none⟩ (by show w1.heap.size ≠ w.heap.size + 1; omega) _) ⟨w1.heap.size, 1, none⟩ (by show w1.heap.size ≠ w.heap.size + 1; omega) _, cellSet2 F.out _ _, oiOff (oiOff O1'.out (k := w1.heap.size) (by omega) 0 _) (k := w1.heap.size) (by omega) 1 _, oiOff (oiOff O2'.out (k := w1.heap.size) (by omega) 0 _) (k := w1.heap.size) (by omega) 1 _, hK, Nat.le_refl _, by omega, by omega, by omega⟩⟩
  case rest =>
    obtain ⟨b6, g1, g2, c1, c2, rfl, hT⟩ := hcut
    have T := Lib.hid hT
    clear hT HB HP HC hK
    try clear p0 p1
    obtain ⟨y1, hy1⟩ : ∃ y, y = gi zs x := ⟨_, rfl⟩
    obtain ⟨y2, hy2⟩ : ∃ y, y = gi zs r := ⟨_, rfl⟩
    obtain ⟨v1, hv1⟩ : ∃ y, y = gi us x := ⟨_, rfl⟩
    obtain ⟨v2, hv2⟩ : ∃ y, y = gi us r := ⟨_, rfl⟩
    have E1 : Hid (∀ W : World, Below w.heap.size w W → W.cell? ⟨ba, oa + x, none⟩ = some (.int .i64 y1)) := fun W hb => by rw [hy1]; exact rbEl R1 hb hxn
    have E2 : Hid (∀ W : World, Below w.heap.size w W → W.cell? ⟨ba, oa + r, none⟩ = some (.int .i64 y2)) := fun W hb => by rw [hy2]; exact rbEl R1 hb hr
    have D1 : Hid (∀ W : World, Below w.heap.size w W → W.cell? ⟨be, oe + x, none⟩ = some (.int .i64 v1)) := fun W hb => by rw [hv1]; exact rbEl R2 hb hxn
    have D2 : Hid (∀ W : World, Below w.heap.size w W → W.cell? ⟨be, oe + r, none⟩ = some (.int .i64 v2)) := fun W hb => by rw [hv2]; exact rbEl R2 hb hr
    rw [← hv1] at hux
    rw [← hv2] at hur
    have Y1 := Lib.hid hy1; have Y2 := Lib.hid hy2; have V1 := Lib.hid hv1; have V2 := Lib.hid hv2
    have HXN := Lib.hid hxn; have HRN := Lib.hid hr
    clear hy1 hy2 hv1 hv2
    have q0 := T.out.out.c0; have q1 := T.out.out.c1; have a0 := T.out.box.c0; have a1 := T.out.box.c1
    have e1 := E1.out _ T.out.bel
    have t1 := T.out.at1 hr
    have f1 := T.out.fz1 r
    go_upto_region 4 with fail
    go_region
    have T4 := Lib.hid (TP.drew (TP.st1 T.out r y1))
    obtain ⟨wd4, hwd4⟩ : ∃ W, W = (wc.setCell ⟨g1, r, none⟩ (.int .i64 y1)).drew := ⟨_, rfl⟩
    rw [← hwd4] at T4 ⊢
    clear hwd4 q0 q1 a0 a1 e1 t1 f1 T
    have q0 := T4.out.out.c0; have q1 := T4.out.out.c1; have a0 := T4.out.box.c0; have a1 := T4.out.box.c1
    have e1 := E2.out _ T4.out.bel
    have t1 := T4.out.at1 hxn
    have f1 := T4.out.fz1 x
    go_upto_region 5 with fail
    go_region
    have T5 := Lib.hid (TP.drew (TP.st1 T4.out x y2))
    obtain ⟨wd5, hwd5⟩ : ∃ W, W = (wd4.setCell ⟨g1, x, none⟩ (.int .i64 y2)).drew := ⟨_, rfl⟩
    rw [← hwd5] at T5 ⊢
    clear hwd5 q0 q1 a0 a1 e1 t1 f1 T4
    have q0 := T5.out.out.c0; have q1 := T5.out.out.c1; have a0 := T5.out.box.c0; have a1 := T5.out.box.c1
    have e1 := D1.out _ T5.out.bel
    have t1 := T5.out.at2 hr
    have f1 := T5.out.fz2 r
    go_upto_region 6 with fail
    go_region
    have T6 := Lib.hid (TP.drew (TP.st2 T5.out r v1))
    obtain ⟨wd6, hwd6⟩ : ∃ W, W = (wd5.setCell ⟨g2, r, none⟩ (.int .i64 v1)).drew := ⟨_, rfl⟩
    rw [← hwd6] at T6 ⊢
    clear hwd6 q0 q1 a0 a1 e1 t1 f1 T5
    have q0 := T6.out.out.c0; have q1 := T6.out.out.c1; have a0 := T6.out.box.c0; have a1 := T6.out.box.c1
    have e1 := D2.out _ T6.out.bel
    have t1 := T6.out.at2 hxn
    have f1 := T6.out.fz2 x
    go_upto_region 7 with fail
    go_region
    have T7 := Lib.hid (TP.drew (TP.st2 T6.out x v2))
    obtain ⟨wd7, hwd7⟩ : ∃ W, W = (wd6.setCell ⟨g2, x, none⟩ (.int .i64 v2)).drew := ⟨_, rfl⟩
    rw [← hwd7] at T7 ⊢
    clear hwd7 q0 q1 a0 a1 e1 t1 f1 T6
    by_cases hw : r + 1 = n
    · have ex : x = 0 := by rw [hX.out]; unfold nxtR; rw [if_pos hw]
      subst ex
      have i7 : (((0 : Nat) : Int) == 0) = true := rfl
      have HZ : Hid (topE zs r 0 = (zs.set r y1).set 0 y2) := by show _ = _; rw [Y1.out, Y2.out]; rfl
      have HW : Hid (topW us r 0 (wndR n r) = ((((us.set r v1).set 0 v2).set 0 (v2 - 1)).set r (v1 + 1))) := by
        show _ = _
        unfold wndR
        rw [if_pos hw]
        exact topW_one (by omega) hxr v1 v2 V1.out V2.out
      have g0 : gi ((us.set r v1).set 0 v2) 0 = v2 := by rw [gi_set _ _ _ _ (by rw [List.length_set]; omega)]; simp
      have g9 : gi (((us.set r v1).set 0 v2).set 0 (v2 - 1)) r = v1 := by
        rw [gi_set _ _ _ _ (by rw [List.length_set, List.length_set]; omega), if_neg hxr, gi_set _ _ _ _ (by rw [List.length_set]; omega), if_neg hxr, gi_set _ _ _ _ (by omega)]; simp
      have i8 : IntKind.i64.wrap (v2 - 1) = v2 - 1 := IntWalk.i64_in _ (by omega)
      have i9 : IntKind.i64.wrap (v1 + 1) = v1 + 1 := IntWalk.i64_in _ (by omega)
      have q0 := T7.out.out.c0; have q1 := T7.out.out.c1
      have t1 := T7.out.at2 hxn
      rw [g0] at t1
      have f1 := T7.out.fz2 0
      go_upto_region 10 with fail
      have T9 := Lib.hid (TP.st2 T7.out 0 (v2 - 1))
      obtain ⟨wd9, hwd9⟩ : ∃ W, W = wd7.setCell ⟨g2, 0, none⟩ (.int .i64 (v2 - 1)) := ⟨_, rfl⟩
      rw [← hwd9] at T9 ⊢
      clear hwd9 q0 q1 t1 f1 T7 g0
      have q0 := T9.out.out.c0; have q1 := T9.out.out.c1
      have t1 := T9.out.at2 HRN.out
      rw [g9] at t1
      have f1 := T9.out.fz2 r
      go_upto_region 11 with fail
      have T10 := Lib.hid (TP.st2 T9.out r (v1 + 1))
      obtain ⟨wd10, hwd10⟩ : ∃ W, W = wd9.setCell ⟨g2, r, none⟩ (.int .i64 (v1 + 1)) := ⟨_, rfl⟩
      rw [← hwd10] at T10 ⊢
      clear hwd10 q0 q1 t1 f1 T9 g9
      have s0 := T10.out.res.c0; have s1 := T10.out.res.c1; have sf0 := T10.out.res.f0; have sf1 := T10.out.res.f1; have sz := T10.out.res.lt
      have q0 := T10.out.out.c0; have q1 := T10.out.out.c1
      have hlt : w.heap.size + 1 < w1.heap.size := by have := T10.out.k; omega
      go_wp2
      refine bodyPost_ret (v := .agg #[.slice (some ⟨g1, 0, none⟩) n c1, .slice (some ⟨g2, 0, none⟩) n c2]) (by simp [results, Try.results30, go_sem, s0, s1]) rfl ⟨_, _, _, _, rfl, ?_, ?_, (fun b hb => by have h1 := (T10.out.r1.blk b hb).1; have h2 := T10.out.k; omega), (fun b hb => by have h1 := (T10.out.r2.blk b hb).1; have h2 := T10.out.k; omega), (T10.out.bel.setCell (by simp) _).setCell (by simp) _⟩
      · rw [HZ.out]; exact ((T10.out.r1.setBelow (p := ⟨w.heap.size + 1, 0, none⟩) hlt _).setBelow (p := ⟨w.heap.size + 1, 1, none⟩) hlt _).ri
      · rw [HW.out]; exact ((T10.out.r2.setBelow (p := ⟨w.heap.size + 1, 0, none⟩) hlt _).setBelow (p := ⟨w.heap.size + 1, 1, none⟩) hlt _).ri
    · have i7 : ((x : Int) == 0) = false := by
        have : x = r + 1 := by rw [hX.out]; unfold nxtR; rw [if_neg hw]
        simp; omega
      have HZ : Hid (topE zs r x = (zs.set r y1).set x y2) := by show _ = _; rw [Y1.out, Y2.out]; rfl
      have HW : Hid (topW us r x (wndR n r) = (us.set r v1).set x v2) := by
        show _ = _
        unfold wndR
        rw [if_neg hw, V1.out, V2.out]
        exact topW_zero us r x
      have s0 := T7.out.res.c0; have s1 := T7.out.res.c1; have sf0 := T7.out.res.f0; have sf1 := T7.out.res.f1; have sz := T7.out.res.lt
      have q0 := T7.out.out.c0; have q1 := T7.out.out.c1
      have hlt : w.heap.size + 1 < w1.heap.size := by have := T7.out.k; omega
      go_wp2
      refine bodyPost_ret (v := .agg #[.slice (some ⟨g1, 0, none⟩) n c1, .slice (some ⟨g2, 0, none⟩) n c2]) (by simp [results, Try.results30, go_sem, s0, s1]) rfl ⟨_, _, _, _, rfl, ?_, ?_, (fun b hb => by have h1 := (T7.out.r1.blk b hb).1; have h2 := T7.out.k; omega), (fun b hb => by have h1 := (T7.out.r2.blk b hb).1; have h2 := T7.out.k; omega), (T7.out.bel.setCell (by simp) _).setCell (by simp) _⟩
      · rw [HZ.out]; exact ((T7.out.r1.setBelow (p := ⟨w.heap.size + 1, 0, none⟩) hlt _).setBelow (p := ⟨w.heap.size + 1, 1, none⟩) hlt _).ri
      · rw [HW.out]; exact ((T7.out.r2.setBelow (p := ⟨w.heap.size + 1, 0, none⟩) hlt _).setBelow (p := ⟨w.heap.size + 1, 1, none⟩) hlt _).ri
end Go.Proofs.Ytpkdeoehfnnchaa

/- The counts for ladders with one more rung. -/
import Derived.Test.YtbgkhehopldilaaMp2
import Derived.Deep.RegionHeld3
namespace Go.Proofs.Ytbgkhehopldilaa
open Go Go.RowKit Go.Maps

/-- a new map with the counts for one rung more -/
def LongPost (n : Nat) (D : DataW Unit) (w : World) (x : Ending) (w' : World) : Prop :=
  ∃ b D', x = .returned (.map (some b)) ∧ w.heap.size ≤ b ∧ OE w' b (Maps.size D') D' ∧ Gm n D' ∧ (∀ f, W f D' = W (up ovE (n - 1) f) D) ∧ Below w.heap.size w w'

/-- while the entries are gone through -/
structure Lng (n : Nat) (D : DataW Unit) (left : Lit → Bool) (D2 : DataW Unit) : Prop where
  good : Gm n D2
  has : ∀ kl, left kl = true → Maps.has D kl = true
  wgt : ∀ f, W f D2 + Wl (up ovE (n - 1) f) left D = W (up ovE (n - 1) f) D
/-- while the places are gone through -/
structure Pls (n : Nat) (D2 : DataW Unit) (e : List Int) (c q : Nat) (D3 : DataW Unit) : Prop where
  good : Gm n D3
  wgt : ∀ f, W f D3 = W f D2 + up ovE q f e * c
theorem Lng.start {n : Nat} {D : DataW Unit} (h : Gm n D) : Lng n D (Maps.has D) (.map []) :=
  ⟨Gm.empty n, fun _ h => h, fun f => by rw [W_nil, Wl_start h, Nat.zero_add]⟩
theorem Pls.start {n : Nat} {D2 : DataW Unit} (h : Gm n D2) (e : List Int) (c : Nat) : Pls n D2 e c 0 D2 :=
  ⟨h, fun f => by show _ = _ + 0 * c; rw [Nat.zero_mul, Nat.add_zero]⟩
theorem Pls.step {n : Nat} {D2 D3 : DataW Unit} {e : List Int} {c q : Nat} (h : Pls n D2 e c q D3) (hn : n ≤ 6) (he : OKE n e) (hq : q + 1 < n) (hc : 0 < c) : Pls n D2 e c (q + 1) (addTo D3 (eL (ovE e (q : Int))) c) :=
  ⟨h.good.add (he.over hq) hc, fun f => by rw [W_add h.good hn f (he.over hq), h.wgt f, up_succ, Nat.add_mul, Nat.add_assoc]⟩
theorem Lng.step {n : Nat} {D D2 D3 : DataW Unit} {left : Lit → Bool} {e : List Int} {c : Nat} (h : Lng n D left D2) (hG : Gm n D) (hn : n ≤ 6) (he : OKE n e) (hl : left (eL e) = true) (hat : at0 D (eL e) = c) (hp : Pls n D2 e c (n - 1) D3) :
    Lng n D (fun z => left z && !z.sameKey (eL e)) D3 :=
  ⟨hp.good, left_has h.has e, fun f => by
    have h1 := Wl_strike hG hn (up ovE (n - 1) f) he hl
    have h2 := h.wgt f
    have h3 := hp.wgt f
    rw [hat] at h1
    omega⟩
theorem Lng.done {n : Nat} {D D2 : DataW Unit} {left : Lit → Bool} (h : Lng n D left D2) (hl : ∀ kl, left kl = false) : ∀ f, W f D2 = W (up ovE (n - 1) f) D := fun f => by
  have h1 := h.wgt f
  rw [Wl_none _ hl] at h1
  exact h1
theorem W_one_up (n : Nat) (D : DataW Unit) : W (up ovE (n - 1) one) D = (n - 1) * W one D := by
  show W (up ovE (n - 1) (fun _ => 1)) D = _
  rw [up_const]
  unfold W wt wtL
  rw [← ssum_mul]
  refine ssum_congr fun p _ => ?_
  show gE (fun _ => (n - 1) * 1) p.1 * valN p.2 = (n - 1) * (gE one p.1 * valN p.2)
  rw [← Nat.mul_assoc]
  congr 1
  unfold gE one
  split
  · rfl
  · rfl
/-- no number is too great -/
theorem Pls.small {n : Nat} {D D2 D3 : DataW Unit} {left : Lit → Bool} {e : List Int} {c q : Nat} (h : Lng n D left D2) (hG : Gm n D) (hn : n ≤ 6) (he : OKE n e) (hl : left (eL e) = true) (hat : at0 D (eL e) = c) (hp : Pls n D2 e c q D3) (hq : q + 1 ≤ n)
    (htot : (n - 1) * W one D ≤ 95367431640625) : W one D3 + (n - 1 - q) * c ≤ 95367431640625 := by
  have h1 := Wl_strike hG hn (up ovE (n - 1) one) he hl
  have h2 := h.wgt one
  have h3 := hp.wgt one
  rw [hat] at h1
  rw [W_one_up] at h2
  have e1 : ∀ (q : Nat) (x : List Int), up ovE q one x = q := fun q x => by
    show up ovE q (fun _ => 1) x = q
    rw [up_const]; simp
  rw [e1] at h1 h3
  have h4 : (n - 1 - q) * c + q * c = (n - 1) * c := by rw [← Nat.add_mul]; congr 1; omega
  omega
theorem Pls.at {n : Nat} {D D2 D3 : DataW Unit} {left : Lit → Bool} {e : List Int} {c q : Nat} (h : Lng n D left D2) (hG : Gm n D) (hn : n ≤ 6) (he : OKE n e) (hl : left (eL e) = true) (hat : at0 D (eL e) = c) (hp : Pls n D2 e c q D3) (hq : q + 1 < n)
    (htot : (n - 1) * W one D ≤ 95367431640625) : at0 D3 (eL (ovE e (q : Int))) + c ≤ 95367431640625 := by
  have h1 := Pls.small h hG hn he hl hat hp (by omega) htot
  have h2 := W_at hp.good hn one (he.over hq)
  have h3 : 1 * c ≤ (n - 1 - q) * c := Nat.mul_le_mul_right _ (by omega)
  have h4 : one (ovE e (q : Int)) * at0 D3 (eL (ovE e (q : Int))) = at0 D3 (eL (ovE e (q : Int))) := Nat.one_mul _
  omega
theorem Pls.room {n : Nat} {D D2 D3 : DataW Unit} {left : Lit → Bool} {e : List Int} {c q : Nat} (h : Lng n D left D2) (hG : Gm n D) (hn : n ≤ 6) (he : OKE n e) (hl : left (eL e) = true) (hat : at0 D (eL e) = c) (hp : Pls n D2 e c q D3) (hq : q + 1 ≤ n)
    (htot : (n - 1) * W one D ≤ 95367431640625) : Maps.size D3 < maxLen := by
  have h1 := Pls.small h hG hn he hl hat hp hq htot
  have h2 := hp.good.size hn
  unfold maxLen
  omega
theorem cells_new6 (w : World) (e : List Int) (t : TypeId) : (w.alloc (.cells #[.int .i64 (gi e 0), .int .i64 (gi e 1), .int .i64 (gi e 2), .int .i64 (gi e 3), .int .i64 (gi e 4), .int .i64 (gi e 5)] t)).cell? ⟨w.heap.size, 0, none⟩ = some (.int .i64 (gi e 0)) ∧ (w.alloc (.cells #[.int .i64 (gi e 0), .int .i64 (gi e 1), .int .i64 (gi e 2), .int .i64 (gi e 3), .int .i64 (gi e 4), .int .i64 (gi e 5)] t)).cell? ⟨w.heap.size, 1, none⟩ = some (.int .i64 (gi e 1)) ∧ (w.alloc (.cells #[.int .i64 (gi e 0), .int .i64 (gi e 1), .int .i64 (gi e 2), .int .i64 (gi e 3), .int .i64 (gi e 4), .int .i64 (gi e 5)] t)).cell? ⟨w.heap.size, 2, none⟩ = some (.int .i64 (gi e 2)) ∧ (w.alloc (.cells #[.int .i64 (gi e 0), .int .i64 (gi e 1), .int .i64 (gi e 2), .int .i64 (gi e 3), .int .i64 (gi e 4), .int .i64 (gi e 5)] t)).cell? ⟨w.heap.size, 3, none⟩ = some (.int .i64 (gi e 3)) ∧ (w.alloc (.cells #[.int .i64 (gi e 0), .int .i64 (gi e 1), .int .i64 (gi e 2), .int .i64 (gi e 3), .int .i64 (gi e 4), .int .i64 (gi e 5)] t)).cell? ⟨w.heap.size, 4, none⟩ = some (.int .i64 (gi e 4)) ∧ (w.alloc (.cells #[.int .i64 (gi e 0), .int .i64 (gi e 1), .int .i64 (gi e 2), .int .i64 (gi e 3), .int .i64 (gi e 4), .int .i64 (gi e 5)] t)).cell? ⟨w.heap.size, 5, none⟩ = some (.int .i64 (gi e 5)) :=
  row_cells (row_ends w e t) (fun _ _ => rfl)

theorem c6_below {w w' : World} {x : Nat} {e : List Int} (h : w.cell? ⟨x, 0, none⟩ = some (.int .i64 (gi e 0)) ∧ w.cell? ⟨x, 1, none⟩ = some (.int .i64 (gi e 1)) ∧ w.cell? ⟨x, 2, none⟩ = some (.int .i64 (gi e 2)) ∧ w.cell? ⟨x, 3, none⟩ = some (.int .i64 (gi e 3)) ∧ w.cell? ⟨x, 4, none⟩ = some (.int .i64 (gi e 4)) ∧ w.cell? ⟨x, 5, none⟩ = some (.int .i64 (gi e 5))) (hx : x < w.heap.size) (hb : Below w.heap.size w w') : w'.cell? ⟨x, 0, none⟩ = some (.int .i64 (gi e 0)) ∧ w'.cell? ⟨x, 1, none⟩ = some (.int .i64 (gi e 1)) ∧ w'.cell? ⟨x, 2, none⟩ = some (.int .i64 (gi e 2)) ∧ w'.cell? ⟨x, 3, none⟩ = some (.int .i64 (gi e 3)) ∧ w'.cell? ⟨x, 4, none⟩ = some (.int .i64 (gi e 4)) ∧ w'.cell? ⟨x, 5, none⟩ = some (.int .i64 (gi e 5)) := by
  have key : ∀ o, w'.cell? ⟨x, o, none⟩ = w.cell? ⟨x, o, none⟩ := fun o => hb.cell (p := ⟨x, o, none⟩) hx
  simp only [key]; exact h
theorem c6_grown {w w' : World} {x b : Nat} {e : List Int} (h : w.cell? ⟨x, 0, none⟩ = some (.int .i64 (gi e 0)) ∧ w.cell? ⟨x, 1, none⟩ = some (.int .i64 (gi e 1)) ∧ w.cell? ⟨x, 2, none⟩ = some (.int .i64 (gi e 2)) ∧ w.cell? ⟨x, 3, none⟩ = some (.int .i64 (gi e 3)) ∧ w.cell? ⟨x, 4, none⟩ = some (.int .i64 (gi e 4)) ∧ w.cell? ⟨x, 5, none⟩ = some (.int .i64 (gi e 5))) (hx : x < w.heap.size) (hg : w.grownBy w' (some b)) (hn : x ≠ b) : w'.cell? ⟨x, 0, none⟩ = some (.int .i64 (gi e 0)) ∧ w'.cell? ⟨x, 1, none⟩ = some (.int .i64 (gi e 1)) ∧ w'.cell? ⟨x, 2, none⟩ = some (.int .i64 (gi e 2)) ∧ w'.cell? ⟨x, 3, none⟩ = some (.int .i64 (gi e 3)) ∧ w'.cell? ⟨x, 4, none⟩ = some (.int .i64 (gi e 4)) ∧ w'.cell? ⟨x, 5, none⟩ = some (.int .i64 (gi e 5)) := by
  have key : ∀ o, w'.cell? ⟨x, o, none⟩ = w.cell? ⟨x, o, none⟩ := fun o => hg.cell_far ⟨x, o, none⟩ hx (fun e => hn (Option.some.inj e))
  simp only [key]; exact h

set_option maxRecDepth 100000 in
set_option maxHeartbeats 8000000 in
theorem longer_any (n : Nat) (B nb : Nat) (D : DataW Unit) (w : World) (hn2 : 2 ≤ n) (hn : n ≤ 6) (hown : OE w B nb D) (hG : Gm n D) (htot : (n - 1) * W one D ≤ 95367431640625) :
    Calls Try.prog 44 #[.map (some B), .int .i64 (n : Int)] w (LongPost n D w) := by
  have hmm := @run_makeMap Try.prog
  have HO := Lib.hid hown
  have HG := Lib.hid hG
  have HT := Lib.hid htot
  have hBw := hown.lt
  clear hown hG htot
  go_enter Try.func44, Try.ntmps44
  go_wp2_with (first
    | (at_range; refine wpList_range_own _ rfl _ 58 rfl 60 3 keyE Try.underlying58 _ B nb D rfl (HO.out.alloc _) ?_; intro w0 hrg0 hg0 hs0)
    | go_in)
  go_frame
  have HM0 : Hid (OE w0 w.heap.size 0 (.map [])) := Lib.hid ((World.ownsMap_made w _ _ _).kept hg0 (by simp))
  have HB0 : Hid (Below w.heap.size w w0) := Lib.hid (((Below.refl _ w).alloc (Nat.le_refl _) _).grown hg0 (by simp) (fun j hj => by cases hj))
  have HRG0 := Lib.hid hrg0
  obtain ⟨b, hb⟩ : ∃ b, b = w.heap.size := ⟨_, rfl⟩
  have hr : (w.alloc (.map #[] 0)).heap.size = b + 1 := by rw [hb]; simp
  rw [hr] at hs0 HRG0 ⊢
  rw [← hb] at HM0 HB0 hBw ⊢
  have HBB := Lib.hid hb
  have HS0 := Lib.hid hs0
  clear hrg0 hg0 hb hr hs0
  go_loopw [8] (fun _ wi => ∃ (left : Lit → Bool) (cnt : Nat) (D2 : DataW Unit), wi.ranges Try.prog 60 (plainElem Try.prog 3) B (b + 1) nb D left cnt ∧ Lng n D left D2 ∧ OE wi b (Maps.size D2) D2 ∧ Below b w wi ∧ b + 2 ≤ wi.heap.size) (fun _ wi => wi.rangeLeft B (b + 1))
  case atStart => exact ⟨_, _, .map [], HRG0.out, Lng.start HG.out, HM0.out.tight, HB0.out, by have := HS0.out; omega⟩
  case round =>
    obtain ⟨left, cnt, D2, hrg, hlng, hom, hbel, hsz⟩ := hrel
    have HRG := Lib.hid hrg
    have HL := Lib.hid hlng
    have HOM := Lib.hid hom
    have HBEL := Lib.hid hbel
    clear hrg hlng hom hbel
    go_wp2_with (first
      | (at_next; refine wpList_next_OE _ rfl _ rfl B (b + 1) nb n _ _ _ rfl HRG.out HG.out hn HL.out.has ?_ ?_)
      | go_in)
    · intro hno
      have HN := Lib.hid hno
      clear hno
      go_wp2
      go_ret
      exact ⟨b, D2, rfl, Nat.le_of_eq HBB.out.symm, HOM.out, HL.out.good, HL.out.done HN.out, HBB.out ▸ HBEL.out⟩
    · intro e c w1 cnt1 he hc0 hat hle hrg1 hlt1 hg1 hs1 hen
      have HE := Lib.hid he
      have HC0 := Lib.hid hc0
      have HAT := Lib.hid hat
      have HLE := Lib.hid hle
      have HRG1 := Lib.hid hrg1
      have HOM1 : Hid (OE w1 b (Maps.size D2) D2) := Lib.hid (HOM.out.kept hg1 (by simp))
      have HBEL1 : Hid (Below b w w1) := Lib.hid (HBEL.out.grown hg1 (by omega) (fun j hj => by injection hj with hj; omega))
      have hz1 : b + 2 ≤ w1.heap.size := by omega
      have HLT := Lib.hid hlt1
      clear he hc0 hat hle hrg1 hlt1 hg1 hs1
      go_wp2
      have hc6 := cells_new6 w1 e 60
      obtain ⟨x, hx⟩ : ∃ x, x = w1.heap.size := ⟨_, rfl⟩
      obtain ⟨w2, hw2⟩ : ∃ w2, w2 = w1.alloc (.cells #[.int .i64 (gi e 0), .int .i64 (gi e 1), .int .i64 (gi e 2), .int .i64 (gi e 3), .int .i64 (gi e 4), .int .i64 (gi e 5)] 60) := ⟨_, rfl⟩
      rw [← hw2, ← hx] at hc6
      have HC2 := Lib.hid hc6
      have HRG2 : Hid (w2.ranges Try.prog 60 (plainElem Try.prog 3) B (b + 1) nb D (fun z => left z && !z.sameKey (eL e)) cnt1) := Lib.hid (by rw [hw2]; exact HRG1.out.alloc _)
      have HOM2 : Hid (OE w2 b (Maps.size D2) D2) := Lib.hid (by rw [hw2]; exact HOM1.out.alloc _)
      have HBEL2 : Hid (Below b w w2) := Lib.hid (by rw [hw2]; exact HBEL1.out.alloc (by omega) _)
      have HX2 : Hid (b + 2 ≤ x ∧ x < w2.heap.size) := Lib.hid ⟨by omega, by rw [hw2, hx]; simp⟩
      rw [← hx, ← hw2]
      clear hw2 hx HRG1 HOM1 HBEL1 hc6 hz1
      go_loopw [19, 8] (fun s19 _ wi => ∃ (q : Nat) (D3 : DataW Unit), q + 1 ≤ n ∧ s19 = .int .i64 (q : Int) ∧ wi.ranges Try.prog 60 (plainElem Try.prog 3) B (b + 1) nb D (fun z => left z && !z.sameKey (eL e)) cnt1 ∧ Pls n D2 e c q D3 ∧ OE wi b (Maps.size D3) D3 ∧ (wi.cell? ⟨x, 0, none⟩ = some (.int .i64 (gi e 0)) ∧ wi.cell? ⟨x, 1, none⟩ = some (.int .i64 (gi e 1)) ∧ wi.cell? ⟨x, 2, none⟩ = some (.int .i64 (gi e 2)) ∧ wi.cell? ⟨x, 3, none⟩ = some (.int .i64 (gi e 3)) ∧ wi.cell? ⟨x, 4, none⟩ = some (.int .i64 (gi e 4)) ∧ wi.cell? ⟨x, 5, none⟩ = some (.int .i64 (gi e 5))) ∧ Below b w wi ∧ x < wi.heap.size) (fun s19 _ _ => n - (intOf s19).toNat)
      case atStart => exact ⟨0, D2, by omega, rfl, HRG2.out, Pls.start HL.out.good e c, HOM2.out, HC2.out, HBEL2.out, HX2.out.2⟩
      case round =>
        obtain ⟨q, D3, hq, rfl, hrg, hpl, hom, hcs, hbel, hxl⟩ := hrel
        have HRG3 := Lib.hid hrg
        have HPL := Lib.hid hpl
        have HOM3 := Lib.hid hom
        have HC3 := Lib.hid hcs
        have HBEL3 := Lib.hid hbel
        have HXL := Lib.hid hxl
        clear hrg hpl hom hcs hbel hxl
        by_cases hlt : (q : Int) < (n : Int) - 1
        · have hq1 : q + 1 < n := by omega
          have HOV : Hid (∀ w, Calls Try.prog 45 #[.agg #[.int .i64 (gi e 0), .int .i64 (gi e 1), .int .i64 (gi e 2), .int .i64 (gi e 3), .int .i64 (gi e 4), .int .i64 (gi e 5)], .int .i64 (q : Int)] w (EndsPost (ovE e (q : Int)) w)) := fun w => over_any e n q w HE.out hn (by omega)
          have HEO : Hid (OKE n (ovE e (q : Int))) := Lib.hid (HE.out.over hq1)
          have HAT3 := Lib.hid (Pls.at HL.out HG.out hn HE.out HLE.out HAT.out HPL.out hq1 HT.out)
          have HRM := Lib.hid (Pls.room HL.out HG.out hn HE.out HLE.out HAT.out HPL.out (by omega) HT.out)
          have HST := Lib.hid (HPL.out.step hn HE.out hq1 HC0.out)
          obtain ⟨E, hE⟩ : ∃ E, E = ovE e (q : Int) := ⟨_, rfl⟩
          rw [← hE] at HOV HEO HAT3 HST
          obtain ⟨m, hm⟩ : ∃ m, m = at0 D3 (eL E) := ⟨_, rfl⟩
          rw [← hm] at HAT3
          have HM := Lib.hid hm
          have hmc : (m : Int) + (c : Int) ≤ 95367431640625 := by have := HAT3.out; omega
          have hw64 : IntKind.i64.wrap ((m : Int) + (c : Int)) = (m : Int) + (c : Int) := IntWalk.i64_in _ (by omega)
          clear hE hm
          go_wp2
          go_region_held3 (fun w' => w'.cell? ⟨x, 0, none⟩ = some (.int .i64 (gi e 0)) ∧ w'.cell? ⟨x, 1, none⟩ = some (.int .i64 (gi e 1)) ∧ w'.cell? ⟨x, 2, none⟩ = some (.int .i64 (gi e 2)) ∧ w'.cell? ⟨x, 3, none⟩ = some (.int .i64 (gi e 3)) ∧ w'.cell? ⟨x, 4, none⟩ = some (.int .i64 (gi e 4)) ∧ w'.cell? ⟨x, 5, none⟩ = some (.int .i64 (gi e 5)))
            (first | exact HC3.out | exact HC5.out | exact HC6.out | exact HC7.out)
            (first
              | (go_at_call 45; refine (HOV.out _).mono ?_; rintro e5 w5 ⟨rfl, hb5⟩
                 have HB5 : Hid (Below wr.heap.size wr w5) := Lib.hid ((Below.refl _ wr).drew.trans hb5)
                 have HC5 : Hid (w5.cell? ⟨x, 0, none⟩ = some (.int .i64 (gi e 0)) ∧ w5.cell? ⟨x, 1, none⟩ = some (.int .i64 (gi e 1)) ∧ w5.cell? ⟨x, 2, none⟩ = some (.int .i64 (gi e 2)) ∧ w5.cell? ⟨x, 3, none⟩ = some (.int .i64 (gi e 3)) ∧ w5.cell? ⟨x, 4, none⟩ = some (.int .i64 (gi e 4)) ∧ w5.cell? ⟨x, 5, none⟩ = some (.int .i64 (gi e 5))) := Lib.hid (c6_below HC3.out HXL.out HB5.out)
                 have HO5 : Hid (OE w5 b (Maps.size D3) D3) := Lib.hid (HOM3.out.kept (grown_of_below HB5.out none) (by simp))
                 obtain ⟨v0, st, w6, w7, hE5, hl5, hl6, hS6, hg6, ho7, hg7⟩ := entry_facts HO5.out HPL.out.good hn HRM.out HEO.out HM.out.symm c (by have := HAT3.out; omega)
                 have HC6 : Hid (w6.cell? ⟨x, 0, none⟩ = some (.int .i64 (gi e 0)) ∧ w6.cell? ⟨x, 1, none⟩ = some (.int .i64 (gi e 1)) ∧ w6.cell? ⟨x, 2, none⟩ = some (.int .i64 (gi e 2)) ∧ w6.cell? ⟨x, 3, none⟩ = some (.int .i64 (gi e 3)) ∧ w6.cell? ⟨x, 4, none⟩ = some (.int .i64 (gi e 4)) ∧ w6.cell? ⟨x, 5, none⟩ = some (.int .i64 (gi e 5))) := Lib.hid (c6_grown HC5.out (by have := HB5.out.size; have := HXL.out; omega) hg6 (by have := HX2.out; omega))
                 have HC7 : Hid (w7.cell? ⟨x, 0, none⟩ = some (.int .i64 (gi e 0)) ∧ w7.cell? ⟨x, 1, none⟩ = some (.int .i64 (gi e 1)) ∧ w7.cell? ⟨x, 2, none⟩ = some (.int .i64 (gi e 2)) ∧ w7.cell? ⟨x, 3, none⟩ = some (.int .i64 (gi e 3)) ∧ w7.cell? ⟨x, 4, none⟩ = some (.int .i64 (gi e 4)) ∧ w7.cell? ⟨x, 5, none⟩ = some (.int .i64 (gi e 5))) := Lib.hid (c6_grown HC5.out (by have := HB5.out.size; have := HXL.out; omega) hg7 (by have := HX2.out; omega))
                 have HO7 := Lib.hid ho7
                 have HG7 := Lib.hid hg7
                 clear hb5 hg6 ho7 hg7))
          all_goals
            go_wp2
            go_roundw
            case rel =>
              refine ⟨q + 1, _, by omega, by go_num, ?_, HST.out, HO7.out.tight, HC7.out, ?_, ?_⟩
              · exact ((HRG3.out.kept (grown_of_below HB5.out none) (by simp) (by simp)).kept HG7.out (by simp; omega) (by simp))
              · exact (HBEL3.out.trans (HB5.out.mono (by have := HBEL3.out.size; have := HX2.out; have := HXL.out; omega))).grown HG7.out (by have := HB5.out.size; have := HXL.out; have := HX2.out; omega) (fun j hj => by injection hj with hj; omega)
              · have := HB5.out.size; have := HG7.out.size; have := HXL.out; omega
            case measure => simp [intOf]; omega
        · obtain rfl : q = n - 1 := by omega
          go_wp2
          go_roundw
          case rel => exact ⟨_, cnt1, D3, HRG3.out, HL.out.step HG.out hn HE.out HLE.out HAT.out HPL.out, HOM3.out, HBEL3.out, by have := HX2.out; have := HXL.out; omega⟩
          case measure => rw [HRG3.out.left_eq, HRG.out.left_eq]; exact HLT.out
end Go.Proofs.Ytbgkhehopldilaa

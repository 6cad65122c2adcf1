/- In how many ladders one comes out at each wire, as the program counts it. -/
import Derived.Test.YtbgkhehopldilaaCe9
import Derived.Test.YtbgkhehopldilaaCe4
namespace Go.Proofs.Ytbgkhehopldilaa
open Go Go.RowKit Go.Maps

theorem W_pos {n : Nat} {D : DataW Unit} (h : Gm n D) (hn : n ≤ 6) {e : List Int} (he : OKE n e) {f : List Int → Nat} (hf : W f D = 0) (hfe : 0 < f e) : at0 D (eL e) = 0 := by
  have h1 := W_at h hn f he
  rw [hf] at h1
  rcases Nat.eq_zero_or_pos (at0 D (eL e)) with h2 | h2
  · exact h2
  · have := Nat.mul_pos hfe h2; omega

/-- the counts of one start -/
structure OneC (n K s : Nat) (D : DataW Unit) : Prop where
  good : Gm n D
  wgt : ∀ f, W f D = ups ovE (n - 1) K f (endsL [(s : Int)])
theorem gi_ends_one (a : Int) : gi (endsL [a]) 0 = a := by rw [gi_endsL (by omega)]; rfl
theorem endsL_one_inj {a b : Int} (h : endsL [a] = endsL [b]) : a = b := by
  have h1 : gi (endsL [a]) 0 = gi (endsL [b]) 0 := by rw [h]
  rwa [gi_ends_one, gi_ends_one] at h1
/-- where the wire's ends are among n wires -/
def InW (n : Nat) (x : Int) : Prop := 0 ≤ x ∧ x < n
theorem thro {n : Nat} (f : List Int → Nat) (K : Nat) {s : Int} (hs : InW n s) : ups ovE (n - 1) K f (endsL [s]) = ups ovW (n - 1) K (fun x => f (endsL [x])) s :=
  ups_through (S := InW n) (φ := fun x => endsL [x]) (fun b r hb hr => ⟨ovW_in0 hb (by omega), ovE_endsL [b] r⟩) f K s hs
theorem OneC.at {n K s : Nat} {D : DataW Unit} (h : OneC n K s D) (hn2 : 2 ≤ n) (hn : n ≤ 6) (hs : s < n) {v : Nat} (hv : v < n) : at0 D (eL (endsL [(v : Int)])) = ups ovW (n - 1) K (ind (v : Int)) (s : Int) := by
  rw [← W_single h.good hn (OKE.ends (fun x hx => by simp at hx; omega) (by omega)), h.wgt, thro _ _ ⟨by omega, by omega⟩]
  congr 1
  funext x
  unfold single ind
  by_cases e : x = (v : Int)
  · rw [if_pos (by rw [e]), if_pos e]
  · rw [if_neg (fun h => e (endsL_one_inj h)), if_neg e]
/-- all keys are ends of one -/
theorem OneC.key {n K s : Nat} {D : DataW Unit} (h : OneC n K s D) (hn2 : 2 ≤ n) (hn : n ≤ 6) (hs : s < n) {e : List Int} (he : OKE n e) {c : Nat} (hc : 0 < c) (hat : at0 D (eL e) = c) : ∃ v : Nat, v < n ∧ e = endsL [(v : Int)] := by
  apply Classical.byContradiction
  intro hno
  have hz : W (single e) D = 0 := by
    rw [h.wgt, thro _ _ ⟨by omega, by omega⟩]
    have h1 : ups ovW (n - 1) K (fun x => single e (endsL [x])) (s : Int) = ups ovW (n - 1) K (fun _ => 0) (s : Int) :=
      ups_on (S := InW n) (fun b r hb hr => ovW_in0 hb (by omega)) (fun x hx => by
        unfold single
        rw [if_neg]
        rintro rfl
        exact hno ⟨x.toNat, by have := hx.1; have := hx.2; omega, by congr 2; have := hx.1; omega⟩) K _ ⟨by omega, by omega⟩
    rw [h1, ups_const]
    simp
  rw [W_single h.good hn he] at hz
  omega

/-- the row while the entries are gone through -/
def seenC (n : Nat) (D : DataW Unit) (left : Lit → Bool) (j : Nat) : Int :=
  if j < n then (if left (eL (endsL [(j : Int)])) = true then 0 else (at0 D (eL (endsL [(j : Int)])) : Int)) else 0
theorem seen_start {n : Nat} {D : DataW Unit} (j : Nat) : seenC n D (Maps.has D) j = 0 := by
  unfold seenC
  split
  · split
    · rfl
    · rename_i h
      have h' : Maps.has D (eL (endsL [(j : Int)])) = false := by simpa using h
      have : at0 D (eL (endsL [(j : Int)])) = 0 := by unfold at0; rw [atKey_of_not_has h', valN_nd]
      omega
  · rfl
theorem seen_done {n : Nat} {D : DataW Unit} {left : Lit → Bool} (hl : ∀ kl, left kl = false) {j : Nat} (hj : j < n) : seenC n D left j = (at0 D (eL (endsL [(j : Int)])) : Int) := by
  unfold seenC
  rw [if_pos hj, hl]; rfl
theorem seen_step {n : Nat} {D : DataW Unit} {left : Lit → Bool} {v c : Nat} (hn : n ≤ 6) (hn2 : 0 < n) (hv : v < n) (hc : at0 D (eL (endsL [(v : Int)])) = c) (j : Nat) :
    seenC n D (fun z => left z && !z.sameKey (eL (endsL [(v : Int)]))) j = if j = v then (c : Int) else seenC n D left j := by
  unfold seenC
  by_cases e : j = v
  · subst e
    rw [if_pos hv, if_pos rfl, hc]
    simp [eL_same]
  · rw [if_neg e]
    by_cases hj : j < n
    · rw [if_pos hj, if_pos hj]
      have hne : eL (endsL [(j : Int)]) ≠ eL (endsL [(v : Int)]) := fun h => e (by
        have := endsL_one_inj (eL_inj (OKE.ends (n := n) (fun x hx => by simp at hx; omega) hn2) (OKE.ends (n := n) (fun x hx => by simp at hx; omega) hn2) hn hn h)
        omega)
      simp [sameKey_ne hne]
    · rw [if_neg hj, if_neg hj]

set_option maxRecDepth 100000 in
set_option maxHeartbeats 4000000 in
theorem countsOfEnds_at (n K s : Nat) (w : World) (hn2 : 2 ≤ n) (hn : n ≤ 6) (hK : K ≤ 20) (hs : s < n) :
    Calls Try.prog 21 #[.int .i64 (n : Int), .int .i64 (K : Int), .int .i64 (s : Int)] w
      (fun e w' => ∃ g, e = .returned (.slice (some ⟨g, 0, none⟩) n n) ∧ w.heap.size ≤ g ∧ RI w' (some ⟨g, 0, none⟩) n (endsC n K (s : Int)) ∧ Below w.heap.size w w') := by
  have hni : (n : Int) ≤ 6 := by omega
  have hn0 : (0 : Int) ≤ (n : Int) := by omega
  go_enter Try.func21, Try.ntmps21
  go_wp2_with fail
  have HA0 : Hid (((w.alloc (.cells #[.int .i64 0, .int .i64 0, .int .i64 0, .int .i64 0, .int .i64 0, .int .i64 0] 56)).alloc (.cells #[.int .i64 (s : Int)] 3)).rowIs w.heap.size 56 6 (fun _ => .int .i64 0)) := Lib.hid (rowAlloc (row_six w _ _) _)
  have HB0 : Hid (Below w.heap.size w ((w.alloc (.cells #[.int .i64 0, .int .i64 0, .int .i64 0, .int .i64 0, .int .i64 0, .int .i64 0] 56)).alloc (.cells #[.int .i64 (s : Int)] 3))) := Lib.hid (((Below.refl _ _).alloc (Nat.le_refl _) _).alloc (by simp) _)
  have hri := RI.single (w.alloc (.cells #[.int .i64 0, .int .i64 0, .int .i64 0, .int .i64 0, .int .i64 0, .int .i64 0] 56)) (s : Int)
  rw [World.size_alloc] at hri
  have HFF := Lib.hid (fallFrom_any n K _ 1 1 [(s : Int)] _ hn2 hn hK hri (by omega) (fun x hx => by simp at hx; omega))
  clear hri
  obtain ⟨wa, hwa⟩ : ∃ wa, wa = (w.alloc (.cells #[.int .i64 0, .int .i64 0, .int .i64 0, .int .i64 0, .int .i64 0, .int .i64 0] 56)).alloc (.cells #[.int .i64 (s : Int)] 3) := ⟨_, rfl⟩
  have HZA : Hid (w.heap.size + 2 ≤ wa.heap.size) := by show _ ≤ _; rw [hwa]; simp
  rw [← hwa] at HA0 HB0 HFF ⊢
  clear hwa
  refine HFF.out.mono ?_
  rintro e w1 ⟨b, D, rfl, hb1, ho1, hg1, hw1, hbel1⟩
  have HOC : Hid (OneC n K s D) := Lib.hid ⟨hg1, hw1⟩
  have HO1 := Lib.hid ho1
  have HA1 : Hid (w1.rowIs w.heap.size 56 6 (fun _ => .int .i64 0)) := rowStep HA0 hbel1
  have HB1 : Hid (Below w.heap.size w w1) := Lib.hid (HB0.out.trans (hbel1.mono HB0.out.size))
  have hbb : w.heap.size + 2 ≤ b := Nat.le_trans HZA.out hb1
  have hblt := ho1.lt
  clear ho1 hg1 hw1 hbel1 HFF HA0 HB0 hb1
  go_wp2_with (first
    | (at_range; refine wpList_range_own _ rfl _ 58 rfl 60 3 keyE Try.underlying58 _ b _ D rfl HO1.out ?_; intro w0 hrg0 hg0 hs0)
    | fail)
  go_frame
  have HRG0 := Lib.hid hrg0
  have hb0 : Below w1.heap.size w1 w0 := ⟨hg0.os, hg0.tape, hg0.output, hg0.size, fun i hi => hg0.block i hi (by simp)⟩
  have HA00 := rowStep HA1 hb0
  have HB00 : Hid (Below w.heap.size w w0) := Lib.hid (HB1.out.trans (hb0.mono HB1.out.size))
  obtain ⟨r, hr⟩ : ∃ r, r = w1.heap.size := ⟨_, rfl⟩
  rw [← hr] at HRG0 hs0 hblt ⊢
  clear hrg0 hg0 hb0 HA1 HB1 HO1 hr
  obtain ⟨a, ha⟩ : ∃ a, a = w.heap.size := ⟨_, rfl⟩
  rw [← ha] at HA00 HB00 hbb ⊢
  have HAA := Lib.hid ha
  clear ha
  go_loopw [9] (fun _ wi => ∃ (left : Lit → Bool) (cnt : Nat), wi.ranges Try.prog 60 (plainElem Try.prog 3) b r (Maps.size D) D left cnt ∧ (∀ kl, left kl = true → Maps.has D kl = true) ∧ wi.rowIs a 56 6 (fun j => .int .i64 (seenC n D left j)) ∧ Below a w wi ∧ r + 1 ≤ wi.heap.size) (fun _ wi => wi.rangeLeft b r)
  case atStart => exact ⟨_, _, HRG0.out, fun _ h => h, HA00.out.congr (fun j _ => by rw [seen_start]), HB00.out, by omega⟩
  case round =>
    obtain ⟨left, cnt, hrg, hhas, hrow, hbel, hsz⟩ := hrel
    have HRG := Lib.hid hrg
    have HHAS := Lib.hid hhas
    have HROW := Lib.hid hrow
    have HBEL := Lib.hid hbel
    clear hrg hhas hrow hbel
    go_wp2_with (first
      | (at_next; refine wpList_next_OE _ rfl _ rfl b r _ n _ _ _ rfl HRG.out HOC.out.good hn HHAS.out ?_ ?_)
      | fail)
    · intro hno
      have hEN : ∀ j, j < n → seenC n D left j = gi (endsC n K (s : Int)) j := fun j hj => by rw [seen_done hno hj, HOC.out.at hn2 hn hs hj, gi_endsC hj]
      have HEN := Lib.hid hEN
      clear hno hEN
      go_wp2
      go_ret
      refine ⟨a, rfl, Nat.le_of_eq HAA.out.symm, ⟨endsC_length _ _ _, fun _ => ⟨a, 0, rfl, by omega, fun j hj => ?_⟩⟩, HAA.out ▸ HBEL.out⟩
      rw [Nat.zero_add, HROW.out.cell (show j < 6 by omega), HEN.out j hj]
    · intro e c w2 cnt2 he hc0 hat hle hrg2 hlt2 hg2 hs2 hen
      obtain ⟨v, hv, hev⟩ := HOC.out.key hn2 hn hs he hc0 hat
      have h0 : gi e 0 = (v : Int) := by rw [hev, gi_ends_one]
      rw [h0] at hen
      rw [h0]
      rw [hev] at hat hrg2
      have HAT := Lib.hid hat
      have HRG2 := Lib.hid hrg2
      have hb2 : Below wr.heap.size wr wr := Below.refl _ _
      have HROW2 : Hid (w2.rowIs a 56 6 (fun j => .int .i64 (seenC n D left j))) := by
        obtain ⟨cc, hh, hs1, hc1⟩ := HROW.out
        exact ⟨cc, (hg2.block a (by omega) (fun e => by have := Option.some.inj e; omega)).trans hh, hs1, hc1⟩
      have HBEL2 : Hid (Below a w w2) := Lib.hid (HBEL.out.grown hg2 (by omega) (fun j hj => by injection hj with hj; omega))
      have hz2 : r + 1 ≤ w2.heap.size := by omega
      have HLT := Lib.hid hlt2
      have hd := HROW2.out.cell (show v < 6 by omega)
      have hf := HROW2.out.frozen v
      have hvi : (v : Int) < 6 := by omega
      have hv0 : (0 : Int) ≤ (v : Int) := by omega
      have hblk : a < w2.heap.size := by omega
      have HRGF : Hid (∀ o, ((w2.setCell ⟨a, v, none⟩ (.int .i64 (c : Int))).alloc o).ranges Try.prog 60 (plainElem Try.prog 3) b r (Maps.size D) D (fun z => left z && !z.sameKey (eL (endsL [(v : Int)]))) cnt2) :=
        Lib.hid fun o => (HRG2.out.kept (grown_setCell (g := a) (grown_refl w2 _) (.inl rfl) _) (by simp; omega) (by simp; omega)).alloc o
      have HROWF : Hid (∀ o, ((w2.setCell ⟨a, v, none⟩ (.int .i64 (c : Int))).alloc o).rowIs a 56 6 (fun j => .int .i64 (seenC n D (fun z => left z && !z.sameKey (eL (endsL [(v : Int)]))) j))) :=
        Lib.hid fun o => rowAlloc ((HROW2.out.set v _).congr (fun j hj => by rw [seen_step hn (by omega) hv HAT.out]; split <;> rfl)) o
      clear he hc0 hat hle hrg2 hg2 hs2 hev h0 hlt2 hb2
      go_wp2
      go_roundw
      case rel => exact ⟨_, cnt2, HRGF.out _, left_has HHAS.out _, HROWF.out _, (HBEL2.out.setCell (Nat.le_refl _) _).alloc (by simp; omega) _, by simp; omega⟩
      case measure => rw [(HRGF.out _).left_eq, HRG.out.left_eq]; exact HLT.out
theorem countsOfEnds_any (n K s : Nat) (w : World) (hn2 : 2 ≤ n) (hn : n ≤ 6) (hK : K ≤ 20) (hs : s < n) :
    Calls Try.prog 21 #[.int .i64 (n : Int), .int .i64 (K : Int), .int .i64 (s : Int)] w
      (fun e w' => ∃ g, e = .returned (.slice (some ⟨g, 0, none⟩) n n) ∧ RI w' (some ⟨g, 0, none⟩) n (endsC n K (s : Int)) ∧ Below w.heap.size w w') :=
  (countsOfEnds_at n K s w hn2 hn hK hs).mono (by rintro e w' ⟨g, h1, _, h2, h3⟩; exact ⟨g, h1, h2, h3⟩)
end Go.Proofs.Ytbgkhehopldilaa

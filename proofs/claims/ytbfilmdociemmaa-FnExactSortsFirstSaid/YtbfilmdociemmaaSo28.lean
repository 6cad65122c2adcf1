/- SortsFirst, of the program. -/
import Derived.Test.YtbfilmdociemmaaSo27
import Derived.Test.YtbfilmdociemmaaEqI
import Derived.Deep.RegionHeld3
namespace Go.Proofs.Ytbfilmdociemmaa
open Go Go.RowKit

/-- what slices.Values hands back, held in a cell of its own -/
def ValAt (w : World) (Bs : Nat) (v : Value) : Prop := Bs < w.heap.size ∧ w.cell? ⟨Bs, 0, none⟩ = some v
theorem valStep {wi wj : World} {Bs : Nat} {v : Value} (h : Hid (ValAt wi Bs v)) (hb : Below wi.heap.size wi wj) : Hid (ValAt wj Bs v) :=
  ⟨Nat.lt_of_lt_of_le h.out.1 hb.size, (hb.cell (p := ⟨Bs, 0, none⟩) h.out.1).trans h.out.2⟩
theorem valuesE_any (A : Option Addr) (N c : Nat) (w : World) :
    Calls Try.prog 59 #[.slice A N c] w fun e w' => ∃ Bs, e = .returned (.func (.func 72) #[] #[.pointer (some ⟨Bs, 0, none⟩)]) ∧ ValAt w' Bs (.slice A N c) ∧ Below w.heap.size w w' := by
  refine (values_any A N c w).mono ?_
  rintro e w' ⟨rfl, rfl⟩
  exact ⟨_, rfl, ⟨by simp, by have := cell_one_new w (.slice A N c) 22 0 _ rfl; exact this⟩, (Below.refl _ w).alloc (Nat.le_refl _) _⟩
/-- what a round holds on to: the ladder, the noughts and ones, and what was there -/
def SfAt (w wi : World) (W : Int) (A : Option Addr) (m c : Nat) (zs : List Int) (B : Nat) (a : Option Addr) (N d : Nat) (v : List Int) : Prop :=
  Box wi w.heap.size W A m c zs ∧ OI wi B a N d v ∧ Below w.heap.size w wi
theorem sfStep {w wi wj : World} {W : Int} {A : Option Addr} {m c : Nat} {zs : List Int} {B : Nat} {a : Option Addr} {N d : Nat} {v : List Int} (h : Hid (SfAt w wi W A m c zs B a N d v)) (hb : Below wi.heap.size wi wj) : Hid (SfAt w wj W A m c zs B a N d v) :=
  ⟨h.out.1.keep hb, h.out.2.1.below hb, h.out.2.2.trans (hb.mono h.out.2.2.size)⟩

theorem sfForm {w : World} {B : Nat} {a : Option Addr} {N d : Nat} {v : List Int} (o : Hid (OI w B a N d v)) (h0 : 0 < N) : ∃ g, a = some ⟨g, 0, none⟩ := by
  rcases o.out.form with ⟨_, _, e0⟩ | ⟨g1, cur, e1, _⟩
  · omega
  · exact ⟨g1, e1⟩
theorem sfCap {w : World} {B : Nat} {a : Option Addr} {N d K : Nat} {v : List Int} (o : Hid (OI w B a N d v)) (h0 : 0 < N) (hK : K ≤ N) : K ≤ d := by
  rcases o.out.form with ⟨_, _, e0⟩ | ⟨g1, cur, e1, _, _, _, hc, _⟩
  · omega
  · omega
theorem sfBlk {w wi : World} {W : Int} {A : Option Addr} {m c : Nat} {zs : List Int} {B : Nat} {g : Nat} {N d : Nat} {v : List Int} (h : Hid (SfAt w wi W A m c zs B (some ⟨g, 0, none⟩) N d v)) (h0 : 0 < N) : g < wi.heap.size := by
  rcases h.out.2.1.form with ⟨_, _, e0⟩ | ⟨g1, cur, e1, _, hg, _⟩
  · omega
  · cases e1; exact hg
theorem sfCells {w wi : World} {W : Int} {A : Option Addr} {m c : Nat} {zs : List Int} {B : Nat} {g : Nat} {N d : Nat} {v : List Int} (h : Hid (SfAt w wi W A m c zs B (some ⟨g, 0, none⟩) N d v)) : ∀ j, j < N → wi.cell? ⟨g, 0 + j, none⟩ = some (.int .i64 (gi v j)) := fun j hj => by
  obtain ⟨b, off, e, _, hc⟩ := h.out.2.1.ri.2 (by omega)
  cases e
  exact hc j hj

set_option maxRecDepth 100000 in
set_option maxHeartbeats 2000000 in
theorem iSortsFirst_any (W : Int) (A : Option Addr) (m c : Nat) (zs : List Int) (x : Int) (w : World) (h : RI w A m zs) (hm : m ≤ 1048576) :
    Calls Try.prog 36 #[.agg #[.int .i64 W, .slice A m c], .int .i64 x] w (RetBB (sfV W zs x) (sfQ W zs x) w) := by
  rcases hq : lad W zs with _ | _
  · have e1 : sfQ W zs x = false := by unfold sfQ; rw [hq]; rfl
    have e2 : sfV W zs x = false := by unfold sfV; rw [e1]; rfl
    rw [e1, e2]
    have HW := Lib.hid hq
    clear hq e1 e2
    go_enter Try.func36, Try.ntmps36
    go_wp2_with fail
    have HB := belAlloc (belRefl (w := w)) (.cells #[.int .i64 W, .slice A m c] 28)
    refine (iIsLadder_any W A m c zs _ (h.alloc _) hm).mono ?_
    rw [HW.out]
    rintro e w1 ⟨rfl, hb⟩
    replace HB := belStep HB hb
    clear hb h
    go_wp2
    go_ret2
    exact ⟨rfl, HB.out⟩
  · rcases hy : inB x 0 W with _ | _
    · have e1 : sfQ W zs x = false := by unfold sfQ; rw [hq, hy]; rfl
      have e2 : sfV W zs x = false := by unfold sfV; rw [e1]; rfl
      rw [e1, e2]
      have HW := Lib.hid hq
      have HX : x < 0 ∨ (0 ≤ x ∧ W < x) := by
        rcases Int.lt_or_le x 0 with h0 | h0
        · exact .inl h0
        · refine .inr ⟨h0, ?_⟩
          apply Classical.byContradiction
          intro hc
          have := inB_iff.2 ⟨h0, Int.not_lt.1 hc⟩
          rw [hy] at this
          cases this
      clear hq e1 e2 hy
      go_enter Try.func36, Try.ntmps36
      go_wp2_with fail
      have HA := boxNew (W := W) (c := c) 28 h
      have HB := belAlloc (belRefl (w := w)) (.cells #[.int .i64 W, .slice A m c] 28)
      refine (iIsLadder_any W A m c zs _ (h.alloc _) hm).mono ?_
      rw [HW.out]
      rintro e w1 ⟨rfl, hb⟩
      replace HA := boxStep HA hb
      replace HB := belStep HB hb
      have a0 := HA.out.c0; have a1 := HA.out.c1; have az := HA.out.lt
      clear hb h
      rcases HX with h0 | ⟨h0, h1⟩
      · go_wp2
        go_ret2
        exact ⟨rfl, HB.out⟩
      · have h2 : ¬ x < 0 := by omega
        go_wp2
        go_ret2
        exact ⟨rfl, HB.out⟩
    · have e1 : sfQ W zs x = true := by unfold sfQ; rw [hq, hy]; rfl
      have e2 : sfV W zs x = sfA W.toNat zs x.toNat := by unfold sfV; rw [e1]; rfl
      rw [e1, e2]
      have hxx := inB_iff.1 hy
      have h4 := (lad_iff.1 hq).1
      have h5 := (lad_iff.1 hq).2.1
      have hml := h.1
      obtain ⟨N, rfl⟩ : ∃ N : Nat, W = (N : Int) := ⟨W.toNat, by omega⟩
      obtain ⟨K, rfl⟩ : ∃ K : Nat, x = (K : Int) := ⟨x.toNat, by omega⟩
      simp only [Int.toNat_natCast]
      have hKN : K ≤ N := by omega
      have hz : rungsIn zs N := by have := rungsIn_of_lad hq; rwa [Int.toNat_natCast] at this
      have HW := Lib.hid hq
      have hn8 : N ≤ 8 := by omega
      have hn0 : 0 < N := by omega
      have hm6 : m ≤ 60 := by omega
      have hP2 : 2 ^ N ≤ 256 := pow2_le hn8
      have HCD := Lib.hid (fun w2 A2 c2 v (_ : v.length = N) (r : RI w2 A m zs) (r2 : RI w2 A2 N v) => compareDown_any A m c zs A2 N c2 v w2 r r2 hn8 hn0 hm6 hz)
      have HSV := Lib.hid (fun w2 Bs b off c2 v (hl : v.length = N) (hb : b < w2.heap.size) (hv : ValAt w2 Bs (.slice (some ⟨b, off, none⟩) N c2)) (hc : ∀ j, j < N → w2.cell? ⟨b, off + j, none⟩ = some (.int .i64 (gi v j))) => sortedV_any Bs b off N c2 v hl (by omega) hn0 w2 hb hv.1 hv.2 hc)
      have HFI := Lib.hid (fun v (hv : isBits v) (hl : v.length = N) => sf_test (zs := zs) (k := K) hv hl hKN hz)
      obtain ⟨L, hL⟩ : ∃ L, L = bitsAll N := ⟨_, rfl⟩
      have HAB := Lib.hid (fun w2 => allBits_any N w2 hn8)
      rw [← hL] at HAB
      have HGL : Hid (∀ k, k < L.length → gz L k = bitsL N k) := Lib.hid (fun k hk => by rw [hL, bitsAll_length] at hk; rw [hL]; exact gz_bitsAll hk)
      have HLP : Hid (L.length = 2 ^ N) := Lib.hid (by rw [hL, bitsAll_length])
      have hLl : L.length ≤ 256 := by rw [HLP.out]; exact hP2
      clear hq hy h4 h5 hz hml hP2 e1 e2 hL
      go_enter Try.func36, Try.ntmps36
      go_wp2_with fail
      have HA := boxNew (W := (N : Int)) (c := c) 28 h
      have HB := belAlloc (belRefl (w := w)) (.cells #[.int .i64 (N : Int), .slice A m c] 28)
      refine (iIsLadder_any (N : Int) A m c zs _ (h.alloc _) hm).mono ?_
      rw [HW.out]
      rintro e w1 ⟨rfl, hb⟩
      replace HA := boxStep HA hb
      replace HB := belStep HB hb
      have a0 := HA.out.c0; have a1 := HA.out.c1; have az := HA.out.lt
      have z1 := HB.out.size
      have x1 : ¬ (K : Int) < 0 := by omega
      have x2 : ¬ (N : Int) < (K : Int) := by omega
      clear hb h
      go_wp2_with fail
      refine (HAB.out _).mono ?_
      rintro e w2 ⟨F2, d2, M2, S2, rfl, o2, hb⟩
      have O2 := Lib.hid o2
      replace HA := boxStep HA hb
      replace HB := belStep HB hb
      replace a0 := HA.out.c0; replace a1 := HA.out.c1; replace az := HA.out.lt
      clear hb o2 HAB
      go_wp2
      go_loopw [25] (fun i wr => ∃ k : Nat, k ≤ L.length ∧ i = .int .i64 k ∧ (∀ j, j < k → firB N zs K (bitsL N j) = true) ∧ Box wr w.heap.size (N : Int) A m c zs ∧ Below w.heap.size w wr ∧ Below w2.heap.size w2 wr) (fun i _ => L.length - (intOf i).toNat)
      case atStart => exact ⟨0, Nat.zero_le _, rfl, fun j hj => absurd hj (by omega), HA.out, HB.out, Below.refl _ _⟩
      case round =>
        obtain ⟨k, hk, rfl, hall, hA, hb, hb2⟩ := hrel
        have HALL := Lib.hid hall
        have HB := Lib.hid hb
        have HB2 := Lib.hid hb2
        have HA := Lib.hid hA
        have HLr := Lib.hid (O2.out.below hb2)
        clear hall hA hb hb2
        by_cases hlt : k < L.length
        · obtain ⟨b, a, n', d, rfl, hbk, _, hSk, hck2, hra⟩ := HLr.out.row hlt
          rw [HGL.out k hlt] at hra
          obtain rfl : n' = N := by rw [← hra.1, bitsL_length]
          have HBI : Hid (isBits (bitsL n' k)) := Lib.hid (isBits_bitsL n' k)
          have HVL : Hid ((bitsL n' k).length = n') := Lib.hid (bitsL_length n' k)
          have HQQ := Lib.hid (HFI.out _ HBI.out HVL.out)
          obtain ⟨v, hv⟩ : ∃ v, v = bitsL n' k := ⟨_, rfl⟩
          rw [← hv] at hra HVL HQQ
          have HV := Lib.hid hv
          obtain ⟨r, hr⟩ : ∃ r, r = runS zs v := ⟨_, rfl⟩
          obtain ⟨q, hqq⟩ : ∃ q, q = firB n' zs K v := ⟨_, rfl⟩
          rw [← hr, ← hqq] at HQQ
          have HQ := Lib.hid hqq
          have HCD2 := Lib.hid (fun w3 A2 c2 (r1 : RI w3 A m zs) (r2 : RI w3 A2 n' v) => HCD.out w3 A2 c2 v HVL.out r1 r2)
          rw [← hr] at HCD2
          obtain ⟨g, rfl⟩ : ∃ g, a = some ⟨g, 0, none⟩ := by
            rcases hra.form with ⟨_, _, e0⟩ | ⟨g1, cur, e1, _⟩
            · omega
            · exact ⟨g1, e1⟩
          have HEQ := Lib.hid (fun w3 A1 c1 A2 c2 (r1 : RI w3 A1 K (r.take K)) (r2 : RI w3 A2 K ((srt v).take K)) => (by
            have := equalI_any A1 K c1 (r.take K) A2 K c2 ((srt v).take K) w3 r1 r2 (by omega) (by omega)
            rw [HQQ.out] at this
            exact this : Calls Try.prog 57 #[.slice A1 K c1, .slice A2 K c2] w3 (RetB q w3)))
          have HK0 : Hid (SfAt w wr (n' : Int) A m c zs w1.heap.size (some ⟨g, 0, none⟩) n' d v) := Lib.hid ⟨HA.out, hra, HB.out⟩
          have a0 := HA.out.c0; have a1 := HA.out.c1; have az := HA.out.lt
          have x3 : (0 : Int) ≤ (K : Int) := by omega
          have hfd := fieldBottom
          clear hra hv hr hqq HA HB
          go_wp2
          have HK : Hid (SfAt w wr.drew (n' : Int) A m c zs w1.heap.size (some ⟨g, 0, none⟩) n' d v) := sfStep HK0 ((Below.refl _ wr).drew)
          have HBD : Hid (Below wr.heap.size wr wr.drew) := Lib.hid ((Below.refl _ wr).drew)
          go_region_held3 (fun w' => w'.cell? ⟨w.heap.size, 0, none⟩ = some (.int .i64 (n' : Int)) ∧ w'.cell? ⟨w.heap.size, 1, none⟩ = some (.slice A m c))
            (exact ⟨HK.out.1.c0, HK.out.1.c1⟩)
            (first
              | (go_at_call 43; refine (HCD2.out _ _ _ HK.out.1.ri HK.out.2.1.ri).mono ?_; rintro e w3 ⟨A1, c1, E, dd, rfl, o3, -, hb⟩; replace HK := sfStep HK hb; replace HBD := belStep HBD hb; (try replace OS := oiStep OS hb); (try replace HVA := valStep HVA hb); have O3 := Lib.hid o3; obtain ⟨g3, rfl⟩ : ∃ g, A1 = some ⟨g, 0, none⟩ := sfForm O3 hn0; have k1 : K ≤ c1 := sfCap O3 hn0 hKN; have k1' : (K : Int) ≤ (c1 : Int) := (by omega); clear hb o3)
              | (go_at_call 59; refine (valuesE_any _ _ _ _).mono ?_; rintro e w4 ⟨Bs, rfl, hva, hb⟩; replace HK := sfStep HK hb; replace HBD := belStep HBD hb; (try replace O3 := oiStep O3 hb); have HVA := Lib.hid hva; clear hb hva)
              | (go_at_call 58; refine (HSV.out _ _ g 0 d v HVL.out (sfBlk HK hn0) HVA.out (sfCells HK)).mono ?_; rintro e w5 ⟨gs, ds, rfl, os, hb⟩; replace HK := sfStep HK hb; replace HBD := belStep HBD hb; (try replace O3 := oiStep O3 hb); have OS := Lib.hid os; have k2 : K ≤ ds := sfCap OS hn0 hKN; have k2' : (K : Int) ≤ (ds : Int) := (by omega); clear hb os)
              | (go_at_call 57; refine (HEQ.out _ _ _ _ _ (O3.out.ri.take hKN) (OS.out.ri.take hKN)).mono ?_; rintro e w6 ⟨rfl, hb⟩; replace HK := sfStep HK hb; replace HBD := belStep HBD hb; clear hb))
          all_goals
            cases q
            · have HFF := Lib.hid (sfA_no (N := n') (zs := zs) (k := K) (num := k) (by rw [← HLP.out]; exact hlt) (by rw [← HV.out]; exact HQ.out.symm))
              go_wp2
              go_ret2
              rw [HFF.out]
              exact ⟨rfl, HK.out.2.2⟩
            · go_wp2
              go_roundw
              case rel =>
                refine ⟨k + 1, by omega, by go_num, fun j hj => ?_, HK.out.1, HK.out.2.2, HB2.out.trans (HBD.out.mono HB2.out.size)⟩
                by_cases e : j = k
                · subst e; rw [← HV.out]; exact HQ.out.symm
                · exact HALL.out j (by omega)
              case measure => simp [intOf]; omega
        · obtain rfl : k = L.length := by omega
          have HFU := Lib.hid (sfA_yes (N := N) (zs := zs) (k := K) (fun num hn => HALL.out num (by rw [HLP.out]; exact hn)))
          go_wp2
          go_ret2
          rw [HFU.out]
          exact ⟨rfl, HB.out⟩
end Go.Proofs.Ytbfilmdociemmaa

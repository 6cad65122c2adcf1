/- The contracts of MeetTwice, of the program and of its model. -/
import Derived.Test.YtbilpjlbbglccaaNf1
import Derived.Test.YtbilpjlbbglccaaC1i
import Derived.Test.YtbilpjlbbglccaaC1f
import Derived.Test.YtbilpjlbbglccaaSt
namespace Go.Proofs.Ytbilpjlbbglccaa
open Go Go.RowKit

def mtM (zs : List Int) (i j : Nat) : Bool := decide (1 < meets zs (i : Int) (j : Int) zs.length)
def mtw (zs : List Int) (N : Nat) : Option (Nat × Nat) := twA (mtM zs) N N
def mtL (W : Int) (zs : List Int) : List Int := if lad W zs = true then (match mtw zs W.toNat with
  | some x => [(x.1 : Int), (x.2 : Int)]
  | none => []) else []
def mtB (W : Int) (zs : List Int) : Bool := lad W zs && (mtw zs W.toNat).isSome
theorem mt_no {W : Int} {zs : List Int} (h : lad W zs = false) : mtL W zs = [] ∧ mtB W zs = false := by unfold mtL mtB; rw [h]; exact ⟨rfl, rfl⟩
theorem mt_none {N : Nat} {zs : List Int} (h : lad (N : Int) zs = true) (e : mtw zs N = none) : mtL N zs = [] ∧ mtB N zs = false := by
  unfold mtL mtB; rw [h, Int.toNat_natCast, e]; exact ⟨rfl, rfl⟩
theorem mt_some {N : Nat} {zs : List Int} {a b : Nat} (h : lad (N : Int) zs = true) (e : mtw zs N = some (a, b)) : mtL N zs = [(a : Int), (b : Int)] ∧ mtB N zs = true := by
  unfold mtL mtB; rw [h, Int.toNat_natCast, e]; exact ⟨rfl, rfl⟩
theorem mtL_len (W : Int) (zs : List Int) : (mtL W zs).length ≤ 1000 := by
  unfold mtL
  split
  · split <;> simp
  · simp
theorem mt_found {N : Nat} {zs : List Int} {k p : Nat} (h : twA (mtM zs) N k = none) (hb : twB (mtM zs) k (p - (k + 1)) = none) (h1 : k + 1 ≤ p) (h2 : p < N) (hM : 1 < meets zs (k : Int) (p : Int) zs.length) : mtw zs N = some (k, p) := by
  have e : k + 1 + (p - (k + 1)) = p := by omega
  have := tw_found h hb (by omega) (by rw [e]; exact decide_eq_true hM)
  rwa [e] at this
theorem mt_next {zs : List Int} {k p : Nat} (hb : twB (mtM zs) k (p - (k + 1)) = none) (h1 : k + 1 ≤ p) (hM : ¬ 1 < meets zs (k : Int) (p : Int) zs.length) : twB (mtM zs) k (p + 1 - (k + 1)) = none := by
  have e : p + 1 - (k + 1) = p - (k + 1) + 1 := by omega
  have e2 : k + 1 + (p - (k + 1)) = p := by omega
  rw [e]
  exact twB_no hb (by rw [e2]; exact decide_eq_false hM)
theorem OI.litTwo (w : World) (B : Nat) (x y : Int) (hB : B ≤ w.heap.size) : OI (w.alloc (.cells #[.int .i64 x, .int .i64 y] 3)) B (some ⟨w.heap.size, 0, none⟩) 2 2 [x, y] :=
  ⟨rfl, World.ownsRow_lit _ _ _ hB (by decide) rfl⟩

set_option maxRecDepth 100000 in
set_option maxHeartbeats 1000000 in
theorem sMeetTwice_any (W : Int) (A : Option Addr) (n c : Nat) (zs : List Int) (w : World) (h : RI w A n zs) (hn : n ≤ 1048576) :
    Calls Try.prog 20 #[.agg #[.int .i64 W, .slice A n c]] w (FreshIB w (mtL W zs).length (mtL W zs) (mtB W zs)) := by
  rcases hq : lad W zs with _ | _
  · rw [(mt_no hq).1, (mt_no hq).2]
    have HW := Lib.hid hq
    clear hq
    go_enter Try.func20, Try.ntmps20
    go_wp2_with fail
    have HB := belAlloc (belRefl (w := w)) (.cells #[.int .i64 W, .slice A n c] 26)
    refine (laGood_any W A n c zs _ (h.alloc _) hn).mono ?_
    rw [HW.out]
    rintro e w1 ⟨rfl, hb⟩
    have HB := belStep HB hb
    clear hb h
    go_wp2
    go_ret2
    exact ⟨none, 0, rfl, OI.none_ _ _, HB.out⟩
  · have hW := (lad_iff.1 hq).1
    obtain ⟨N, rfl⟩ : ∃ N : Nat, W = (N : Int) := ⟨W.toNat, by omega⟩
    have hl := h.1
    have hn60 : n ≤ 60 := by have := (lad_iff.1 hq).2.1; omega
    have HW := Lib.hid hq
    clear hq
    go_enter Try.func20, Try.ntmps20
    go_wp2_with fail
    have HA := boxNew (W := (N : Int)) (c := c) 26 h
    have HB := belAlloc (belRefl (w := w)) (.cells #[.int .i64 (N : Int), .slice A n c] 26)
    refine (laGood_any (N : Int) A n c zs _ (h.alloc _) hn).mono ?_
    rw [HW.out]
    rintro e w1 ⟨rfl, hb⟩
    replace HA := boxStep HA hb; replace HB := belStep HB hb
    have HK : Hid (BoxB w1 w1.heap.size w.heap.size (N : Int) A n c zs) := BoxB.of HA.out
    have HZ := Lib.hid HB.out.size
    have a0 := HA.out.c0; have a1 := HA.out.c1
    clear hb h HA
    go_wp2_with fail
    clear a0 a1
    go_loopw [4, 5] (fun s4 _ wr => ∃ k : Nat, k ≤ N ∧ s4 = .int .i64 k ∧ twA (mtM zs) N k = none ∧ Below w1.heap.size w1 wr) (fun s4 _ _ => N - (intOf s4).toNat)
    case atStart => exact ⟨0, Nat.zero_le _, rfl, rfl, Below.refl _ _⟩
    case round =>
      obtain ⟨k, hk, rfl, ht, hb⟩ := hrel
      have HT := Lib.hid ht
      have H1 := Lib.hid hb
      have HX : Hid (BoxB wr w1.heap.size w.heap.size (N : Int) A n c zs) := HK.out.step hb
      have a0 := HX.out.c0; have a1 := HX.out.c1
      clear ht hb
      by_cases hlt : k < N
      · go_wp2_with fail
        clear a0 a1
        go_loopw [5] (fun s5 wi => ∃ p : Nat, k + 1 ≤ p ∧ p ≤ N ∧ s5 = .int .i64 p ∧ twB (mtM zs) k (p - (k + 1)) = none ∧ Below w1.heap.size w1 wi) (fun s5 _ => N - (intOf s5).toNat)
        case atStart => exact ⟨k + 1, Nat.le_refl _, hlt, by go_num, by simp [twB], H1.out⟩
        case round =>
          obtain ⟨p, hp1, hp2, rfl, ht, hb⟩ := hrel
          have HTP := Lib.hid ht
          have H2 := Lib.hid hb
          have HX2 : Hid (BoxB wr w1.heap.size w.heap.size (N : Int) A n c zs) := HK.out.step hb
          have a0 := HX2.out.c0; have a1 := HX2.out.c1
          clear ht hb
          by_cases hlp : p < N
          · obtain ⟨mm, hmm⟩ : ∃ mm, mm = meets zs (k : Int) (p : Int) n := ⟨_, rfl⟩
            have hml := meets_le zs (k : Int) (p : Int) n
            rw [← hmm] at hml
            have HMM : Hid (meets zs (k : Int) (p : Int) zs.length = mm) := by show _ = _; rw [hl, hmm]
            have HMC : Hid (∀ w, RI w A n zs → Calls Try.prog 37 #[.slice A n c, .int .i64 (k : Int), .int .i64 (p : Int)] w (fun e w' => e = .returned (.int .i64 mm) ∧ w' = w)) := fun w h => (laMeet_any A n c zs (k : Int) (p : Int) w h hn (Wires.wire HW.out (by omega))).mono (by rw [← hmm]; rintro e w' ⟨rfl, h2⟩; exact ⟨rfl, by first | exact h2 | exact h2.symm⟩)
            clear hmm
            by_cases hm1 : 1 < mm
            · go_wp2_with ((go_at_call 37; refine (HMC.out _ HX2.out.rb.ri).mono ?_; rintro e w3 ⟨rfl, hw3⟩; replace hw3 := hw3.symm; subst hw3))
              go_ret2
              have e := mt_found HT.out HTP.out hp1 hlp (by rw [HMM.out]; exact hm1)
              rw [(mt_some HW.out e).1, (mt_some HW.out e).2]
              exact ⟨_, _, rfl, OI.litTwo _ _ _ _ (by have := HZ.out; have := H2.out.size; omega), HB.out.trans (((H2.out.alloc H2.out.size _)).mono HZ.out)⟩
            · have hm2 : mm ≤ 1 := by omega
              go_wp2_with ((go_at_call 37; refine (HMC.out _ HX2.out.rb.ri).mono ?_; rintro e w3 ⟨rfl, hw3⟩; replace hw3 := hw3.symm; subst hw3))
              go_roundw
              case rel => exact ⟨p + 1, by omega, by omega, by go_num, mt_next HTP.out hp1 (by rw [HMM.out]; omega), H2.out⟩
              case measure => simp [intOf]; omega
          · obtain rfl : p = N := by omega
            go_wp2
            go_roundw
            case rel => exact ⟨k + 1, by omega, by go_num, twA_no HT.out HTP.out, H2.out⟩
            case measure => simp [intOf]; omega
      · obtain rfl : k = N := by omega
        have e : mtw zs k = none := HT.out
        go_wp2
        go_ret2
        rw [(mt_none HW.out e).1, (mt_none HW.out e).2]
        exact ⟨none, 0, rfl, OI.none_ _ _, HB.out.trans (H1.out.mono HZ.out)⟩

set_option maxRecDepth 100000 in
set_option maxHeartbeats 1000000 in
theorem iMeetTwice_any (W : Int) (A : Option Addr) (n c : Nat) (zs : List Int) (w : World) (h : RI w A n zs) (hn : n ≤ 1048576) :
    Calls Try.prog 21 #[.agg #[.int .i64 W, .slice A n c]] w (FreshIB w (mtL W zs).length (mtL W zs) (mtB W zs)) := by
  rcases hq : lad W zs with _ | _
  · rw [(mt_no hq).1, (mt_no hq).2]
    have HW := Lib.hid hq
    clear hq
    go_enter Try.func21, Try.ntmps21
    go_wp2_with fail
    have HB := belAlloc (belRefl (w := w)) (.cells #[.int .i64 W, .slice A n c] 26)
    refine (iIsLadder_any W A n c zs _ (h.alloc _) hn).mono ?_
    rw [HW.out]
    rintro e w1 ⟨rfl, hb⟩
    have HB := belStep HB hb
    clear hb h
    go_wp2
    go_ret2
    exact ⟨none, 0, rfl, OI.none_ _ _, HB.out⟩
  · have hW := (lad_iff.1 hq).1
    obtain ⟨N, rfl⟩ : ∃ N : Nat, W = (N : Int) := ⟨W.toNat, by omega⟩
    have hl := h.1
    have hn60 : n ≤ 60 := by have := (lad_iff.1 hq).2.1; omega
    have HW := Lib.hid hq
    clear hq
    go_enter Try.func21, Try.ntmps21
    go_wp2_with fail
    have HA := boxNew (W := (N : Int)) (c := c) 26 h
    have HB := belAlloc (belRefl (w := w)) (.cells #[.int .i64 (N : Int), .slice A n c] 26)
    refine (iIsLadder_any (N : Int) A n c zs _ (h.alloc _) hn).mono ?_
    rw [HW.out]
    rintro e w1 ⟨rfl, hb⟩
    replace HA := boxStep HA hb; replace HB := belStep HB hb
    have HK : Hid (BoxB w1 w1.heap.size w.heap.size (N : Int) A n c zs) := BoxB.of HA.out
    have HZ := Lib.hid HB.out.size
    have a0 := HA.out.c0; have a1 := HA.out.c1
    clear hb h HA
    go_wp2_with fail
    clear a0 a1
    go_loopw [4, 5, 6, 7, 13] (fun _ _ _ _ s13 wr => ∃ k : Nat, k ≤ N ∧ s13 = .int .i64 k ∧ twA (mtM zs) N k = none ∧ Below w1.heap.size w1 wr) (fun _ _ _ _ s13 _ => N - (intOf s13).toNat)
    case atStart => exact ⟨0, Nat.zero_le _, rfl, rfl, Below.refl _ _⟩
    case round =>
      obtain ⟨k, hk, rfl, ht, hb⟩ := hrel
      have HT := Lib.hid ht
      have H1 := Lib.hid hb
      have HX : Hid (BoxB wr w1.heap.size w.heap.size (N : Int) A n c zs) := HK.out.step hb
      have a0 := HX.out.c0; have a1 := HX.out.c1
      clear ht hb
      by_cases hlt : k < N
      · go_wp2_with fail
        clear a0 a1
        go_loopw [5, 6, 7] (fun s5 _ _ wi => ∃ p : Nat, k + 1 ≤ p ∧ p ≤ N ∧ s5 = .int .i64 p ∧ twB (mtM zs) k (p - (k + 1)) = none ∧ Below w1.heap.size w1 wi) (fun s5 _ _ _ => N - (intOf s5).toNat)
        case atStart => exact ⟨k + 1, Nat.le_refl _, hlt, by go_num, by simp [twB], H1.out⟩
        case round =>
          obtain ⟨p, hp1, hp2, rfl, ht, hb⟩ := hrel
          have HTP := Lib.hid ht
          have H2 := Lib.hid hb
          have HX2 : Hid (BoxB wr w1.heap.size w.heap.size (N : Int) A n c zs) := HK.out.step hb
          have a0 := HX2.out.c0; have a1 := HX2.out.c1
          clear ht hb
          by_cases hlp : p < N
          · obtain ⟨mm, hmm⟩ : ∃ mm, mm = meets zs (k : Int) (p : Int) n := ⟨_, rfl⟩
            have hml := meets_le zs (k : Int) (p : Int) n
            rw [← hmm] at hml
            have HMM : Hid (meets zs (k : Int) (p : Int) zs.length = mm) := by show _ = _; rw [hl, hmm]
            have hmb : meetB (N : Int) zs (k : Int) (p : Int) = true := meetB_4 (wire_iff.2 ⟨HW.out, by omega, by omega⟩) (wire_iff.2 ⟨HW.out, by omega, by omega⟩) (by omega)
            have HMC : Hid (∀ w, RI w A n zs → Calls Try.prog 39 #[.agg #[.int .i64 (N : Int), .slice A n c], .int .i64 (k : Int), .int .i64 (p : Int)] w (RetIB mm true w)) := fun w h => by
              have := iMeetingsOf_any (N : Int) A n c zs (k : Int) (p : Int) w h hn
              rwa [meetN_yes hmb, hmb, HMM.out] at this
            clear hmb
            clear hmm
            by_cases hm1 : 1 < mm
            · go_wp2_with ((go_at_call 39; refine (HMC.out _ HX2.out.rb.ri).mono ?_; rintro e w3 ⟨rfl, hb3⟩; have H3 : Hid (Below w1.heap.size w1 w3) := H2.out.trans (hb3.mono H2.out.size); clear hb3))
              go_ret2
              have e := mt_found HT.out HTP.out hp1 hlp (by rw [HMM.out]; exact hm1)
              rw [(mt_some HW.out e).1, (mt_some HW.out e).2]
              exact ⟨_, _, rfl, OI.litTwo _ _ _ _ (by have := HZ.out; have := H3.out.size; omega), HB.out.trans (((H3.out.alloc H3.out.size _)).mono HZ.out)⟩
            · have hm2 : mm ≤ 1 := by omega
              go_wp2_with ((go_at_call 39; refine (HMC.out _ HX2.out.rb.ri).mono ?_; rintro e w3 ⟨rfl, hb3⟩; have H3 : Hid (Below w1.heap.size w1 w3) := H2.out.trans (hb3.mono H2.out.size); clear hb3))
              go_roundw
              case rel => exact ⟨p + 1, by omega, by omega, by go_num, mt_next HTP.out hp1 (by rw [HMM.out]; omega), H3.out⟩
              case measure => simp [intOf]; omega
          · obtain rfl : p = N := by omega
            go_wp2
            go_roundw
            case rel => exact ⟨k + 1, by omega, by go_num, twA_no HT.out HTP.out, H2.out⟩
            case measure => simp [intOf]; omega
      · obtain rfl : k = N := by omega
        have e : mtw zs k = none := HT.out
        go_wp2
        go_ret2
        rw [(mt_none HW.out e).1, (mt_none HW.out e).2]
        exact ⟨none, 0, rfl, OI.none_ _ _, HB.out.trans (H1.out.mono HZ.out)⟩
end Go.Proofs.Ytbilpjlbbglccaa

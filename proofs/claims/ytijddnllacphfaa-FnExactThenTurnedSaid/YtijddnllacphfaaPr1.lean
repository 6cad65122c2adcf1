/- PoleResult of the program; poIf of the model. -/
import Derived.Test.YtijddnllacphfaaTo1
namespace Go.Proofs.Ytijddnllacphfaa
open Go Go.RowKit

set_option maxRecDepth 100000 in
set_option maxHeartbeats 1000000 in
theorem resTell_any (b : Nat) (W : Int) (A : Option Addr) (n c : Nat) (zs : List Int) (i q : Int) (w : World) (hb : Box w b W A n c zs) (hw : PWires W zs i) :
    Calls Try.prog 76 #[.agg #[.int .i64 i, .int .i64 q], .pointer (some ⟨b, 0, none⟩)] w (RetP2 (pat W zs i n) (pwd W zs i n) w) := by
  have HX := boxAlloc (boxAlloc (Lib.hid hb) (.cells #[.int .i64 i, .int .i64 q] 63)) (.cells #[.int .i64 0, .int .i64 0] 63)
  have HP := Lib.hid (fun (wi : World) (hi : RI wi A n zs) => pend_any W A n c zs i wi hi hw)
  have a0 := hb.c0; have a1 := hb.c1; have az := hb.lt
  clear hb hw
  go_enter Try.func76, Try.ntmps76
  go_wp2_with fail
  have HB := belAlloc (belAlloc (belRefl (w := w)) (.cells #[.int .i64 i, .int .i64 q] 63)) (.cells #[.int .i64 0, .int .i64 0] 63)
  have HC := cellNew (w.alloc (.cells #[.int .i64 i, .int .i64 q] 63)) (.int .i64 0) (.int .i64 0) 63
  refine (HP.out _ HX.out.ri).mono ?_
  rintro e w1 ⟨rfl, hb⟩
  replace HB := belStep HB hb
  replace HC := cellStep HC hb
  have k0 := HC.out.c0; have k1 := HC.out.c1; have f0 := HC.out.f0; have f1 := HC.out.f1; have hz := HC.out.lt
  simp only [World.size_alloc] at k0 k1 f0 f1 hz
  clear hb HP
  go_wp2
  exact bodyPost_ret (v := .agg #[.int .i64 (pat W zs i n), .int .i64 (pwd W zs i n)]) (by simp [results, Try.results76, go_sem, k0, k1]) rfl ⟨rfl, (by repeat (first | exact Below.refl _ _ | exact HB.out | refine Below.setCell ?_ (by simp <;> omega) _ | refine Below.alloc ?_ (by simp <;> omega) _ | refine below_drewN ?_ _))⟩

/-- is there a result -/
def prB (W : Int) (zs : List Int) : Bool := pol W zs && trn (pends W zs W.toNat) (pwinds W zs W.toNat)
theorem prB_1 {W : Int} {zs : List Int} (h : pol W zs = false) : prB W zs = false := by unfold prB; rw [h]; rfl
theorem prB_2 {W : Int} {zs : List Int} (h : pol W zs = true) : prB W zs = trn (pends W zs W.toNat) (pwinds W zs W.toNat) := by unfold prB; rw [h]; rfl
theorem prE_len (W : Int) (zs : List Int) : (ifL (prB W zs) (pends W zs W.toNat)).length ≤ 1000 := by
  rcases h : prB W zs with _ | _
  · rw [ifL_no]; simp
  · rw [ifL_yes, pends_length]
    unfold prB at h
    rw [Bool.and_eq_true] at h
    have := (pol_iff.1 h.1).1
    omega
theorem prW_len (W : Int) (zs : List Int) : (ifL (prB W zs) (pwinds W zs W.toNat)).length ≤ 1000 := by
  rcases h : prB W zs with _ | _
  · rw [ifL_no]; simp
  · rw [ifL_yes, pwinds_length]
    unfold prB at h
    rw [Bool.and_eq_true] at h
    have := (pol_iff.1 h.1).1
    omega

set_option maxRecDepth 100000 in
set_option maxHeartbeats 1000000 in
theorem iPoleResult_any (W : Int) (A : Option Addr) (n c : Nat) (zs : List Int) (w : World) (h : RI w A n zs) (hn : n ≤ 1048576) :
    Calls Try.prog 61 #[.agg #[.int .i64 W, .slice A n c]] w (FreshTB w (ifL (prB W zs) (pends W zs W.toNat)).length (ifL (prB W zs) (pends W zs W.toNat)) (ifL (prB W zs) (pwinds W zs W.toNat)).length (ifL (prB W zs) (pwinds W zs W.toNat)) (prB W zs)) := by
  rcases hq : pol W zs with _ | _
  · rw [prB_1 hq, ifL_no, ifL_no]
    have HW := Lib.hid hq
    clear hq
    go_enter Try.func61, Try.ntmps61
    go_wp2_with fail
    have HB := belAlloc (belAlloc (belRefl (w := w)) (.cells #[.int .i64 W, .slice A n c] 45)) (.cells #[.slice none 0 0, .slice none 0 0] 27)
    have HC := cellNew (w.alloc (.cells #[.int .i64 W, .slice A n c] 45)) (.slice none 0 0) (.slice none 0 0) 27
    refine (iIsPole_any W A n c zs _ ((h.alloc _).alloc _) hn).mono ?_
    rw [HW.out]
    rintro e w1 ⟨rfl, hb⟩
    replace HB := belStep HB hb
    replace HC := cellStep HC hb
    have k0 := HC.out.c0; have k1 := HC.out.c1; have f0 := HC.out.f0; have f1 := HC.out.f1; have hz := HC.out.lt
    simp only [World.size_alloc] at k0 k1 f0 f1 hz
    clear hb h
    go_wp2
    exact bodyPost_ret (v := .tuple #[.agg #[.slice none 0 0, .slice none 0 0], .bool false]) (by simp [results, Try.results61, go_sem, k0, k1]) rfl ⟨none, 0, none, 0, w.heap.size, rfl, OG.none_ (Nat.le_refl _) (by simp; omega), OG.none_ (by simp; omega) (by simp), (HB.out.setCell (by simp) _).setCell (by simp) _⟩
  · rw [prB_2 hq]
    have hW := (pol_iff.1 hq).1
    have hzl := h.1
    obtain ⟨N, rfl⟩ : ∃ N : Nat, W = (N : Int) := ⟨W.toNat, by omega⟩
    rw [Int.toNat_natCast]
    have HW := Lib.hid hq
    obtain ⟨ys, hys⟩ : ∃ ys, ys = pends (N : Int) zs N := ⟨_, rfl⟩
    obtain ⟨vs, hvs⟩ : ∃ vs, vs = pwinds (N : Int) zs N := ⟨_, rfl⟩
    have HRT := Lib.hid (fun (b : Nat) (i : Nat) (w' : World) (hi : i < N) (hb : Box w' b (N : Int) A n c zs) => (by
      have h1 := resTell_any b (N : Int) A n c zs (i : Int) 0 w' hb (PWires.wire hq (by omega))
      rw [← hzl, ← gi_pends (N : Int) zs hi, ← gi_pwinds (N : Int) zs hi, ← hys, ← hvs] at h1
      exact h1 : Calls Try.prog 76 #[.agg #[.int .i64 (i : Int), .int .i64 0], .pointer (some ⟨b, 0, none⟩)] w' (RetP2 (gi ys i) (gi vs i) w')))
    have HY : Hid (ys.length = N) := by show ys.length = N; rw [hys, pends_length]
    have HV : Hid (vs.length = N) := by show vs.length = N; rw [hvs, pwinds_length]
    rw [← hys, ← hvs]
    obtain ⟨q, hqq⟩ : ∃ q, q = trn ys vs := ⟨_, rfl⟩
    have HQQ := Lib.hid hqq
    rw [← hqq]
    clear hq hys hvs hqq hzl
    go_enter Try.func61, Try.ntmps61
    go_wp2_with fail
    have HA := boxAlloc (boxNew (W := (N : Int)) (c := c) 45 h) (.cells #[.slice none 0 0, .slice none 0 0] 27)
    have HB := belAlloc (belAlloc (belRefl (w := w)) (.cells #[.int .i64 (N : Int), .slice A n c] 45)) (.cells #[.slice none 0 0, .slice none 0 0] 27)
    have HC := cellNew (w.alloc (.cells #[.int .i64 (N : Int), .slice A n c] 45)) (.slice none 0 0) (.slice none 0 0) 27
    refine (iIsPole_any (N : Int) A n c zs _ HA.out.ri hn).mono ?_
    rw [HW.out]
    rintro e w1 ⟨rfl, hb⟩
    replace HA := boxStep HA hb
    replace HB := belStep HB hb
    replace HC := cellStep HC hb
    simp only [World.size_alloc] at HC
    have a0 := HA.out.c0; have a1 := HA.out.c1; have az := HA.out.lt
    have cz := HC.out.lt
    clear hb h
    go_wp2_with fail
    refine (turnedOf_res N ys vs w.heap.size w1 (by omega) HY.out HV.out (Lib.hid fun i w' hi hb => HRT.out w.heap.size i w' hi (boxStep HA hb).out)).mono ?_
    rw [← HQQ.out]
    rintro e w2 ⟨A9, c9, E9, d9, mid, rfl, o1, o2, hb⟩
    replace HB := belStep HB hb
    replace HC := cellStep HC hb
    have O1 := Lib.hid o1; have O2 := Lib.hid o2
    have hs2 := hb.size
    have k0 := HC.out.c0; have k1 := HC.out.c1; have f0 := HC.out.f0; have f1 := HC.out.f1; have hz := HC.out.lt
    have hm1 := o1.le; have hm2 := o1.top
    clear hb o1 o2 HRT a0 a1
    go_wp2
    refine bodyPost_ret (v := .tuple #[.agg #[.slice A9 (ifL q ys).length c9, .slice E9 (ifL q vs).length d9], .bool q]) (by simp [results, Try.results61, go_sem, k0, k1]) rfl
      ⟨A9, c9, E9, d9, mid, rfl, ?_, ?_, (HB.out.setCell (by simp) _).setCell (by simp) _⟩
    · exact ((O1.out.setBelow (p := ⟨w.heap.size + 1, 0, none⟩) (by show w.heap.size + 1 < w1.heap.size; omega) (.slice A9 (ifL q ys).length c9)).setBelow (p := ⟨w.heap.size + 1, 1, none⟩) (by show w.heap.size + 1 < w1.heap.size; omega) (.slice E9 (ifL q vs).length d9)).widen (by omega) (Nat.le_refl _) (by simp; omega)
    · have h3 := (O2.out.setBelow (p := ⟨w.heap.size + 1, 0, none⟩) (by show w.heap.size + 1 < mid; omega) (.slice A9 (ifL q ys).length c9)).setBelow (p := ⟨w.heap.size + 1, 1, none⟩) (by show w.heap.size + 1 < mid; omega) (.slice E9 (ifL q vs).length d9)
      simpa using h3

set_option maxHeartbeats 400000 in
theorem poIf_any (A : Option Addr) (n c : Nat) (zs : List Int) (E : Option Addr) (m d : Nat) (us : List Int) (w : World) (h : RI w A n zs) (g : RI w E m us) (hn : n ≤ 1048576) (hm : m ≤ 1048576) (hnc : n ≤ c) :
    Calls Try.prog 47 #[.agg #[.slice A n c, .slice E m d]] w (fun e w' => e = .returned (.tuple #[if trn zs us = true then .agg #[.slice A n c, .slice E m d] else .agg #[.slice none 0 0, .slice none 0 0], .bool (trn zs us)]) ∧ Below w.heap.size w w') := by
  obtain ⟨q, hq⟩ : ∃ q, q = trn zs us := ⟨_, rfl⟩
  have HQ := Lib.hid hq
  rw [← hq]
  clear hq
  go_enter Try.func47, Try.ntmps47
  go_wp2_with fail
  have HA := cellAlloc (cellNew w (.slice A n c) (.slice E m d) 27) (.cells #[.slice none 0 0, .slice none 0 0] 27)
  have HC := cellNew (w.alloc (.cells #[.slice A n c, .slice E m d] 27)) (.slice none 0 0) (.slice none 0 0) 27
  have HB := belAlloc (belAlloc (belRefl (w := w)) (.cells #[.slice A n c, .slice E m d] 27)) (.cells #[.slice none 0 0, .slice none 0 0] 27)
  refine (poTurned_any A n c zs E m d us _ ((h.alloc _).alloc _) ((g.alloc _).alloc _) hn hm hnc).mono ?_
  rw [← HQ.out]
  rintro e w1 ⟨rfl, hb⟩
  replace HA := cellStep HA hb
  replace HC := cellStep HC hb
  replace HB := belStep HB hb
  simp only [World.size_alloc] at HC
  have a0 := HA.out.c0; have a1 := HA.out.c1
  have k0 := HC.out.c0; have k1 := HC.out.c1; have f0 := HC.out.f0; have f1 := HC.out.f1; have hz := HC.out.lt
  clear hb h g
  cases q
  · go_wp2
    exact bodyPost_ret (v := .tuple #[.agg #[.slice none 0 0, .slice none 0 0], .bool false]) (by simp [results, Try.results47, go_sem, k0, k1]) rfl ⟨rfl, (HB.out.setCell (by simp) _).setCell (by simp) _⟩
  · go_wp2
    exact bodyPost_ret (v := .tuple #[.agg #[.slice A n c, .slice E m d], .bool true]) (by simp [results, Try.results47, go_sem, k0, k1]) rfl ⟨rfl, (HB.out.setCell (by simp) _).setCell (by simp) _⟩
end Go.Proofs.Ytijddnllacphfaa

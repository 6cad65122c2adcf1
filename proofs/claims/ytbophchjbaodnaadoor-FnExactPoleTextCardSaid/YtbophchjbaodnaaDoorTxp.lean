/- PoleText, of the program and of its model. -/
import Derived.Test.YtbophchjbaodnaaDoorMgH
import Derived.Test.YtbophchjbaodnaaDoorPo3
import Derived.Deep.RegionHeld3
namespace Go.Proofs.YtbophchjbaodnaaDoor
open Go Go.RowKit

theorem pol_dig {W : Int} {zs : List Int} (h : pol W zs = true) : Dig zs := by
  intro j hj
  have h1 := pol_iff.1 h
  have h2 := h1.2.2
  unfold allIn at h2
  rw [List.all_eq_true] at h2
  have h3 := inB_iff.1 (h2 (gi zs j) (by rw [gi_lt hj]; exact List.getElem_mem hj))
  omega

def textPT (W : Int) (zs : List Int) : List UInt8 := (numT W ++ [42]) ++ numsT zs

def textPN (W : Int) (zs : List Int) : List UInt8 := if pol W zs = true then textPT W zs else []

set_option maxRecDepth 100000 in
set_option maxHeartbeats 2000000 in
theorem sPoleText_any (W : Int) (A : Option Addr) (n c : Nat) (zs : List Int) (w : World) (h : RI w A n zs) (hn : n ≤ 1048576) :
    Calls Tryd.prog 5 #[.agg #[.int .i64 W, .slice A n c]] w (RetSB (textPN W zs) (pol W zs) w) := by
  rcases hq : pol W zs with _ | _
  · have HN : Hid (textPN W zs = []) := by show _ = _; unfold textPN; rw [hq]; rfl
    have HQ := Lib.hid hq
    clear hq
    go_enter Tryd.func5, Tryd.ntmps5
    go_wp2_with fail
    have HB := belAlloc (belRefl (w := w)) (.cells #[.int .i64 W, .slice A n c] 28)
    refine (poGood_any W A n c zs _ (h.alloc _) hn).mono ?_
    rw [HQ.out]
    rintro e w1 ⟨rfl, hb⟩
    replace HB := belStep HB hb
    clear hb h
    go_wp2
    go_ret2
    exact ⟨by rw [HN.out]; rfl, HB.out⟩
  · have HN : Hid (textPN W zs = textPT W zs) := by show _ = _; unfold textPN; rw [if_pos hq]
    have HQ := Lib.hid hq
    have hW := (pol_iff.1 hq).1
    have hn60 : n ≤ 60 := by have := (pol_iff.1 hq).2.1; rw [h.1] at this; exact this
    have hd := pol_dig hq
    have hnl := numsT_len hd
    rw [h.1] at hnl
    obtain ⟨x, rfl⟩ : ∃ x : Nat, W = (x : Int) := ⟨W.toNat, by omega⟩
    have hx : x < 10 := by omega
    obtain ⟨u, hu⟩ : ∃ u, u = bs (numT (x : Int)) := ⟨_, rfl⟩
    obtain ⟨v, hv⟩ : ∃ v, v = bs (numsT zs) := ⟨_, rfl⟩
    have HS : Hid (bs (textPT x zs) = (u ++ ⟨#[42]⟩) ++ v) := by
      show _ = _
      unfold textPT
      rw [hu, hv, ← bs_append, ← bs_append]; rfl
    have hzu : u.size = 1 := by rw [hu, bs_size, numT_len (by omega)]
    have hzv : v.size ≤ 200 := by rw [hv, bs_size]; omega
    have hz1 : ¬ 9223372036854775807 < u.size + 1 := by omega
    have hz2 : ¬ 9223372036854775807 < u.size + 1 + v.size := by omega
    have HU : Hid (∀ wr : World, Calls Tryd.prog 11 #[.int .i64 (x : Int)] wr fun e w' => e = .returned (.string u) ∧ Below wr.heap.size wr w') := fun wr => by rw [hu]; exact l1Num_any x wr hx
    have HV : Hid (∀ wr : World, RI wr A n zs → Calls Tryd.prog 12 #[.slice A n c] wr fun e w' => e = .returned (.string v) ∧ Below wr.heap.size wr w') := fun wr hr => by rw [hv]; exact laNumbers_any A n c zs wr hr (by omega) hd
    clear hu hv hq hW hd hnl hzu
    go_enter Tryd.func5, Tryd.ntmps5
    go_wp2_with fail
    have HB := belAlloc (belRefl (w := w)) (.cells #[.int .i64 (x : Int), .slice A n c] 28)
    have HA := boxNew (W := (x : Int)) (c := c) 28 h
    refine (poGood_any x A n c zs _ HA.out.ri hn).mono ?_
    rw [HQ.out]
    rintro e w1 ⟨rfl, hb⟩
    replace HB := belStep HB hb
    replace HA := boxStep HA hb
    have a0 := HA.out.c0; have a1 := HA.out.c1; have az := HA.out.lt
    clear hb h
    have HAD := boxDrew HA
    have HBD := belDrew HB
    go_wp2_with fail
    go_region_held3 (fun w' => w'.cell? ⟨w.heap.size, 0, none⟩ = some (.int .i64 (x : Int)) ∧ w'.cell? ⟨w.heap.size, 1, none⟩ = some (.slice A n c))
      (first | exact ⟨HA.out.c0, HA.out.c1⟩ | exact ⟨H3.out.c0, H3.out.c1⟩ | exact ⟨H4.out.c0, H4.out.c1⟩)
      (first
        | (go_at_call 11; refine (HU.out _).mono ?_; rintro e w3 ⟨rfl, hb⟩; have H3 := boxStep HAD hb; have B3 := belStep HBD hb; clear hb)
        | (go_at_call 12; refine (HV.out _ H3.out.ri).mono ?_; rintro e w4 ⟨rfl, hb⟩; have H4 := boxStep H3 hb; have B4 := belStep B3 hb; clear hb))
    go_wp2
    go_ret2
    exact ⟨by rw [HN.out]; unfold str; rw [HS.out]; rfl, B4.out⟩

set_option maxRecDepth 100000 in
set_option maxHeartbeats 2000000 in
theorem iPoleText_any (W : Int) (A : Option Addr) (n c : Nat) (zs : List Int) (w : World) (h : RI w A n zs) (hn : n ≤ 1048576) :
    Calls Tryd.prog 7 #[.agg #[.int .i64 W, .slice A n c]] w (RetSB (textPN W zs) (pol W zs) w) := by
  rcases hq : pol W zs with _ | _
  · have HN : Hid (textPN W zs = []) := by show _ = _; unfold textPN; rw [hq]; rfl
    have HQ := Lib.hid hq
    clear hq
    go_enter Tryd.func7, Tryd.ntmps7
    go_wp2_with fail
    have HB := belAlloc (belRefl (w := w)) (.cells #[.int .i64 W, .slice A n c] 28)
    refine (iIsPole_any W A n c zs _ (h.alloc _) hn).mono ?_
    rw [HQ.out]
    rintro e w1 ⟨rfl, hb⟩
    replace HB := belStep HB hb
    clear hb h
    go_wp2
    go_ret2
    exact ⟨by rw [HN.out]; rfl, HB.out⟩
  · have HN : Hid (textPN W zs = textPT W zs) := by show _ = _; unfold textPN; rw [if_pos hq]
    have HQ := Lib.hid hq
    have hW := (pol_iff.1 hq).1
    have hn60 : n ≤ 60 := by have := (pol_iff.1 hq).2.1; rw [h.1] at this; exact this
    have hd := pol_dig hq
    have hnl := numsT_len hd
    rw [h.1] at hnl
    obtain ⟨x, rfl⟩ : ∃ x : Nat, W = (x : Int) := ⟨W.toNat, by omega⟩
    have hx : x < 10 := by omega
    obtain ⟨u, hu⟩ : ∃ u, u = bs (numT (x : Int)) := ⟨_, rfl⟩
    obtain ⟨v, hv⟩ : ∃ v, v = bs (numsT zs) := ⟨_, rfl⟩
    have HS : Hid (bs (textPT x zs) = (u ++ ⟨#[42]⟩) ++ v) := by
      show _ = _
      unfold textPT
      rw [hu, hv, ← bs_append, ← bs_append]; rfl
    have hzu : u.size = 1 := by rw [hu, bs_size, numT_len (by omega)]
    have hzv : v.size ≤ 200 := by rw [hv, bs_size]; omega
    have hz1 : ¬ 9223372036854775807 < u.size + 1 := by omega
    have hz2 : ¬ 9223372036854775807 < u.size + 1 + v.size := by omega
    have HU : Hid (∀ wr : World, Calls Tryd.prog 15 #[.int .i64 (x : Int)] wr fun e w' => e = .returned (.string u) ∧ w' = wr) := fun wr => by rw [hu]; exact strconv_Itoa_small x (by omega) wr
    have HV : Hid (∀ wr : World, RI wr A n zs → Calls Tryd.prog 16 #[.slice A n c] wr fun e w' => e = .returned (.string v) ∧ Below wr.heap.size wr w') := fun wr hr => by rw [hv]; exact listText_any A n c zs wr hr (by omega) hd
    clear hu hv hq hW hd hnl hzu
    go_enter Tryd.func7, Tryd.ntmps7
    go_wp2_with fail
    have HB := belAlloc (belRefl (w := w)) (.cells #[.int .i64 (x : Int), .slice A n c] 28)
    have HA := boxNew (W := (x : Int)) (c := c) 28 h
    refine (iIsPole_any x A n c zs _ HA.out.ri hn).mono ?_
    rw [HQ.out]
    rintro e w1 ⟨rfl, hb⟩
    replace HB := belStep HB hb
    replace HA := boxStep HA hb
    have a0 := HA.out.c0; have a1 := HA.out.c1; have az := HA.out.lt
    clear hb h
    have HAD := boxDrew HA
    have HBD := belDrew HB
    go_wp2_with fail
    go_region_held3 (fun w' => w'.cell? ⟨w.heap.size, 0, none⟩ = some (.int .i64 (x : Int)) ∧ w'.cell? ⟨w.heap.size, 1, none⟩ = some (.slice A n c))
      (first | exact ⟨HA.out.c0, HA.out.c1⟩ | exact ⟨HAD.out.c0, HAD.out.c1⟩ | exact ⟨H4.out.c0, H4.out.c1⟩)
      (first
        | (go_at_call 15; refine (HU.out _).mono ?_; rintro e w3 ⟨rfl, rfl⟩)
        | (go_at_call 16; refine (HV.out _ HAD.out.ri).mono ?_; rintro e w4 ⟨rfl, hb⟩; have H4 := boxStep HAD hb; have B4 := belStep HBD hb; clear hb))
    go_wp2
    go_ret2
    exact ⟨by rw [HN.out]; unfold str; rw [HS.out]; rfl, B4.out⟩
end Go.Proofs.YtbophchjbaodnaaDoor

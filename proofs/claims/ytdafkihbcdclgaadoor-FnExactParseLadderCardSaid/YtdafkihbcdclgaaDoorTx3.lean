/- The contracts of the program's LadderText. -/
import Derived.Test.YtdafkihbcdclgaaDoorTx2
namespace Go.Proofs.YtdafkihbcdclgaaDoor
open Go Go.RowKit

theorem infoStr : (Tryd.prog.info? 9).map (fun i => (i.zero, i.size, i.bytes)) = some (some (.string ⟨#[]⟩), 1, 16) := by kernel_rfl

set_option maxRecDepth 100000 in
set_option maxHeartbeats 2000000 in
theorem listText_any (A : Option Addr) (n c : Nat) (zs : List Int) (w : World) (h : RI w A n zs) (hn : n ≤ 1000) (hd : Dig zs) : Calls Tryd.prog 20 #[.slice A n c] w (RetS (numsT zs) w) := by
  have hl := h.1
  by_cases h0 : n = 0
  · subst h0
    have HN : Hid (numsT zs = [45]) := by show _ = _; unfold numsT; rw [if_pos hl]
    clear h hd hl
    go_enter Tryd.func20, Tryd.ntmps20
    go_wp2
    go_ret
    exact ⟨by rw [HN.out]; rfl, Below.refl _ _⟩
  have HNL := Lib.hid (numsT_len hd)
  have HJ := Lib.hid (join_nums (zs := zs) (by omega))
  have HA := Lib.hid h
  have HD := Lib.hid hd
  have i0 : ((n : Int) == 0) = false := by simp; omega
  have hmk := run_make_row' (P := Tryd.prog) 53 9 (.string ⟨#[]⟩) 16 Tryd.underlying53 infoStr rfl .i64 .i64 n (by omega) (by omega)
  clear h hd
  go_enter Tryd.func20, Tryd.ntmps20
  go_wp2
  go_loopw [4, 5, 14] (fun _ _ i wr => ∃ k : Nat, k ≤ n ∧ i = .int .i64 (k : Int) ∧ wr.rowIs w.heap.size 9 n (fun j => .string (if j < k then bs (numT (gi zs j)) else ⟨#[]⟩)) ∧ Below w.heap.size w wr) (fun _ _ i _ => n - (intOf i).toNat)
  case atStart => exact ⟨0, Nat.zero_le _, rfl, (World.rowIs_made w (.string ⟨#[]⟩) n 9).congr (fun j _ => by simp), (Below.refl _ _).alloc (Nat.le_refl _) _⟩
  case round =>
    obtain ⟨k, hk, rfl, hrow, hb⟩ := hrel
    have HR := Lib.hid hrow
    have HB := Lib.hid hb
    by_cases hlt : k < n
    · obtain ⟨b, off, rfl, hbw, hc⟩ := HA.out.cell hlt
      have hck : wr.cell? ⟨b, off + k, none⟩ = some (.int .i64 (gi zs k)) := (hb.cell (p := ⟨b, off + k, none⟩) hbw).trans (hc k hlt)
      have hdk := HD.out k (by omega)
      obtain ⟨x, hx⟩ : ∃ x : Nat, gi zs k = (x : Int) := ⟨(gi zs k).toNat, by omega⟩
      have hx10 : x < 10 := by omega
      obtain ⟨u, hu⟩ : ∃ u, u = bs (numT (gi zs k)) := ⟨_, rfl⟩
      have HU := Lib.hid hu
      have HI : Hid (Calls Tryd.prog 19 #[.int .i64 (x : Int)] wr fun e w' => e = .returned (.string u) ∧ w' = wr) := by
        show Calls _ _ _ _ _
        rw [hu, hx]
        exact strconv_Itoa_small x (by omega) wr
      have hd := hrow.cell hlt
      have hf := hrow.frozen k
      rw [if_neg (Nat.lt_irrefl k)] at hd
      rw [hx] at hck
      clear hrow hb hc hmk hdk hx hu
      go_wp2_with fail
      refine HI.out.mono ?_
      rintro e w' ⟨rfl, hw⟩
      obtain rfl : wr = w' := hw.symm
      go_wp2
      go_roundw
      case rel =>
        refine ⟨k + 1, by omega, by go_num, (HR.out.set k _).congr (fun j hj => ?_), HB.out.setCell (by simp) _⟩
        by_cases e : j = k
        · subst e
          simp [HU.out]
        · by_cases e2 : j < k
          · simp [e, e2, show j < k + 1 by omega]
          · simp [e, e2, show ¬ j < k + 1 by omega]
      case measure => simp [intOf]; omega
    · obtain rfl : k = n := by omega
      have HJC : Hid (Calls Tryd.prog 33 #[.slice (some ⟨w.heap.size, 0, none⟩) k k, .string ⟨#[44]⟩] wr fun e w' => e = .returned (str (numsT zs)) ∧ Below wr.heap.size wr w') := by
        show Calls _ _ _ _ _
        have hml : ((zs.map fun x => bs (numT x)).map (·.data.toList)) = zs.map numT := by
          rw [List.map_map]
          exact List.map_congr_left fun x _ => by simp [bs]
        have hlen : (zs.map fun x => bs (numT x)).length = k := by rw [List.length_map, hl]
        have hj := strings_Join w.heap.size 0 k (zs.map fun x => bs (numT x)) ⟨#[44]⟩ wr (fun j v hj => by
          have hjl : j < k := by have := (List.getElem?_eq_some_iff.1 hj).1; rw [hlen] at this; exact this
          rw [Nat.zero_add, HR.out.cell hjl, if_pos hjl]
          rw [List.getElem?_map, List.getElem?_eq_getElem (by omega)] at hj
          injection hj with hj
          rw [← hj, gi_lt (by omega)]) (by
            obtain ⟨cs, hh, _⟩ := HR.out
            exact (Array.getElem?_eq_some_iff.1 hh).1) (by rw [hlen]; omega) (by rw [hlen]; exact Nat.le_refl _) (by
            rw [hml]
            have e : (⟨#[44]⟩ : ByteArray).data.toList = [44] := rfl
            rw [e, HJ.out]
            have := HNL.out
            omega)
        rw [hlen, hml] at hj
        have e : (⟨#[44]⟩ : ByteArray).data.toList = [44] := rfl
        rw [e, HJ.out] at hj
        exact hj
      clear hrow hb hmk
      go_wp2_with fail
      refine HJC.out.mono ?_
      unfold str
      rintro e w2 ⟨rfl, hb2⟩
      replace HB := belStep HB hb2
      clear hb2
      obtain ⟨t, ht⟩ : ∃ t, t = bs (numsT zs) := ⟨_, rfl⟩
      rw [← ht]
      have HT := Lib.hid ht
      clear ht
      go_wp2
      go_ret
      exact ⟨by unfold str; rw [← HT.out]; rfl, HB.out⟩

set_option maxRecDepth 100000 in
set_option maxHeartbeats 2000000 in
theorem iLadderText_any (W : Int) (A : Option Addr) (n c : Nat) (zs : List Int) (w : World) (h : RI w A n zs) (hn : n ≤ 1048576) :
    Calls Tryd.prog 8 #[.agg #[.int .i64 W, .slice A n c]] w (RetSB (textN W zs) (lad W zs) w) := by
  rcases hq : lad W zs with _ | _
  · have HN : Hid (textN W zs = []) := by show _ = _; unfold textN; rw [hq]; rfl
    have HQ := Lib.hid hq
    clear hq
    go_enter Tryd.func8, Tryd.ntmps8
    go_wp2_with fail
    have HB := belAlloc (belRefl (w := w)) (.cells #[.int .i64 W, .slice A n c] 28)
    refine (iIsLadder_any W A n c zs _ (h.alloc _) hn).mono ?_
    rw [HQ.out]
    rintro e w1 ⟨rfl, hb⟩
    replace HB := belStep HB hb
    clear hb h
    go_wp2
    go_ret2
    exact ⟨by rw [HN.out]; rfl, HB.out⟩
  · have HN : Hid (textN W zs = textT W zs) := by show _ = _; unfold textN; rw [if_pos hq]
    have HQ := Lib.hid hq
    have hW := (lad_iff.1 hq).1
    have hn60 : n ≤ 60 := by have := (lad_iff.1 hq).2.1; rw [h.1] at this; exact this
    have hd := lad_dig hq
    have hnl := numsT_len hd
    rw [h.1] at hnl
    obtain ⟨x, rfl⟩ : ∃ x : Nat, W = (x : Int) := ⟨W.toNat, by omega⟩
    have hx : x < 10 := by omega
    obtain ⟨u, hu⟩ : ∃ u, u = bs (numT (x : Int)) := ⟨_, rfl⟩
    obtain ⟨v, hv⟩ : ∃ v, v = bs (numsT zs) := ⟨_, rfl⟩
    have HS : Hid (bs (textT x zs) = (u ++ ⟨#[58]⟩) ++ v) := by
      show _ = _
      unfold textT
      rw [hu, hv, ← bs_append, ← bs_append]; rfl
    have hzu : u.size = 1 := by rw [hu, bs_size, numT_len (by omega)]
    have hzv : v.size ≤ 200 := by rw [hv, bs_size]; omega
    have hz1 : ¬ 9223372036854775807 < u.size + 1 := by omega
    have hz2 : ¬ 9223372036854775807 < u.size + 1 + v.size := by omega
    have HU : Hid (∀ wr : World, Calls Tryd.prog 19 #[.int .i64 (x : Int)] wr fun e w' => e = .returned (.string u) ∧ w' = wr) := fun wr => by rw [hu]; exact strconv_Itoa_small x (by omega) wr
    have HV : Hid (∀ wr : World, RI wr A n zs → Calls Tryd.prog 20 #[.slice A n c] wr fun e w' => e = .returned (.string v) ∧ Below wr.heap.size wr w') := fun wr hr => by rw [hv]; exact listText_any A n c zs wr hr (by omega) hd
    clear hu hv hq hW hd hnl hzu
    go_enter Tryd.func8, Tryd.ntmps8
    go_wp2_with fail
    have HB := belAlloc (belRefl (w := w)) (.cells #[.int .i64 (x : Int), .slice A n c] 28)
    have HA := boxNew (W := (x : Int)) (c := c) 28 h
    refine (iIsLadder_any x A n c zs _ HA.out.ri hn).mono ?_
    rw [HQ.out]
    rintro e w1 ⟨rfl, hb⟩
    replace HB := belStep HB hb
    replace HA := boxStep HA hb
    have a0 := HA.out.c0; have a1 := HA.out.c1; have az := HA.out.lt
    clear hb h
    have HAD := boxDrew HA
    have HBD := belDrew HB
    go_wp2_with fail
    go_region_held3 (fun w' => w'.cell? ⟨w.heap.size, 0, none⟩ = some (.int .i64 (x : Int)) ∧ w'.cell? ⟨w.heap.size, 1, none⟩ = some (.slice A n c))
      (first | exact ⟨HA.out.c0, HA.out.c1⟩ | exact ⟨HAD.out.c0, HAD.out.c1⟩ | exact ⟨H4.out.c0, H4.out.c1⟩)
      (first
        | (go_at_call 19; refine (HU.out _).mono ?_; rintro e w3 ⟨rfl, rfl⟩)
        | (go_at_call 20; refine (HV.out _ HAD.out.ri).mono ?_; rintro e w4 ⟨rfl, hb⟩; have H4 := boxStep HAD hb; have B4 := belStep HBD hb; clear hb))
    go_wp2
    go_ret2
    exact ⟨by rw [HN.out]; unfold str; rw [HS.out]; rfl, B4.out⟩
end Go.Proofs.YtdafkihbcdclgaaDoor

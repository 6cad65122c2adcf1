/- StaysOn, of the program and of its model: a function value that bears a slice's variable. -/
import Derived.Test.YthalcjgpjagcoaaMt4
import Derived.Test.YthalcjgpjagcoaaFl1
import Derived.Deep.Cut
import Derived.Deep.CutRange
namespace Go.Proofs.Ythalcjgpjagcoaa
open Go Go.RowKit

/-- who goes over no rung -/
def syP (zs : List Int) (k : Nat) : Bool := usN zs k zs.length == 0
def syL (W : Int) (zs : List Int) : List Int := if lad W zs = true then fltL (syP zs) W.toNat else []
theorem syL_yes {W : Int} {zs : List Int} (h : lad W zs = true) : syL W zs = fltL (syP zs) W.toNat := by unfold syL; rw [if_pos h]
theorem syL_no {W : Int} {zs : List Int} (h : lad W zs = false) : syL W zs = [] := by unfold syL; rw [h]; rfl
theorem syL_len (W : Int) (zs : List Int) : (syL W zs).length ≤ 1000 := by
  unfold syL
  split
  · rename_i h
    have h1 := (lad_iff.1 h).1
    have := fltL_len (syP zs) W.toNat
    omega
  · simp

set_option maxRecDepth 100000 in
set_option maxHeartbeats 2000000 in
theorem startsWith_sy (N : Nat) (A : Option Addr) (n c : Nat) (B : Nat → Bool) (bl : Nat) (w : World) (hN : N ≤ 8)
    (hT : Hid (∀ (i : Nat) (w' : World), i < N → Below w.heap.size w w' → Calls Try.prog 60 #[.int .i64 (i : Int), .pointer (some ⟨bl, 0, none⟩)] w' (RetB (B i) w'))) :
    Calls Try.prog 57 #[.agg #[.int .i64 (N : Int), .slice A n c], .func (.func 60) #[] #[.pointer (some ⟨bl, 0, none⟩)]] w (FreshI w (fltL B N).length (fltL B N)) := by
  go_enter Try.func57, Try.ntmps57
  have HC0 := cellNew w (.int .i64 (N : Int)) (.slice A n c) 29
  go_wp2
  go_loopw [5, 6, 9] (fun v _ i wr => ∃ (k : Nat) (A1 : Option Addr) (c1 : Nat), k ≤ N ∧ i = .int .i64 (k : Int) ∧ v = .slice A1 (fltL B k).length c1 ∧ OI wr w.heap.size A1 (fltL B k).length c1 (fltL B k) ∧ Below w.heap.size w wr) (fun _ _ i _ => N - (intOf i).toNat)
  case atStart => exact ⟨0, none, 0, Nat.zero_le _, rfl, rfl, OI.none_ _ _, (Below.refl _ _).alloc (Nat.le_refl _) _⟩
  case round =>
    obtain ⟨k, A1, c1, hk, rfl, rfl, ho, hb⟩ := hrel
    have HO := Lib.hid ho
    have HB := Lib.hid hb
    have hul := fltL_len B k
    have hbs := hb.size
    clear ho hb
    by_cases hlt : k < N
    · have HTk := Lib.hid (hT.out k wr hlt HB.out)
      rcases hq : B k with _ | _
      · rw [hq] at HTk
        have HF := Lib.hid (fltL_no hq)
        clear hq
        go_wp2_with fail
        refine HTk.out.mono ?_
        rintro e w2 ⟨rfl, hb⟩
        replace HO := oiStep HO hb
        replace HB := belStep HB hb
        clear hb HTk
        go_wp2
        go_roundw
        case rel => exact ⟨k + 1, A1, c1, by omega, by go_num, by rw [HF.out], by rw [HF.out]; exact HO.out, HB.out⟩
        case measure => simp [intOf]; omega
      · rw [hq] at HTk
        have HF := Lib.hid (fltL_yes hq)
        have HFL : Hid ((fltL B k).length + 1 = (fltL B (k + 1)).length) := by show _ = _; rw [HF.out]; simp
        clear hq
        go_wp2_with fail
        refine HTk.out.mono ?_
        rintro e w2 ⟨rfl, hb⟩
        replace HO := oiStep HO hb
        replace HB := belStep HB hb
        have hbs2 := HB.out.size
        clear hb HTk
        go_wp2_with (at_builtin; refine wpList_append_int _ rfl _ _ rfl w.heap.size A1 (fltL B k).length c1 _ (k : Int) w2.heap.size rfl rfl (HO.out.alloc _) (by simp) (by omega) (by simp; omega) ?_; intro A3 c3 w3 ho3 hg3)
        go_roundw
        case rel =>
          refine ⟨k + 1, A3, c3, by omega, by go_num, by rw [← HFL.out], by rw [← HFL.out, HF.out]; exact ho3, (belGrown (belAlloc HB _) (HO.out.alloc _) hg3 (Nat.le_refl _)).out⟩
        case measure => simp [intOf]; omega
    · obtain rfl : k = N := by omega
      go_wp2
      go_ret
      exact ⟨A1, c1, rfl, HO.out, HB.out⟩

set_option maxRecDepth 100000 in
set_option maxHeartbeats 2000000 in
theorem syClo_any (bl : Nat) (A : Option Addr) (N c : Nat) (U : List Int) (q : Bool) (i : Nat) (w : World) (h1 : w.cell? ⟨bl, 0, none⟩ = some (.slice A N c)) (hU : RI w A N U) (hN : N ≤ 8) (hi : i < N) (hq : q = (gi U i == 0)) :
    Calls Try.prog 60 #[.int .i64 (i : Int), .pointer (some ⟨bl, 0, none⟩)] w (RetB q w) := by
  obtain ⟨b, off, rfl, hbw, hc⟩ := hU.cell hi
  have hci := hc i hi
  obtain ⟨x, hx⟩ : ∃ x, x = gi U i := ⟨_, rfl⟩
  rw [← hx] at hci hq
  have i0 : (0 : Int) ≤ (i : Int) := by omega
  have i1 : (i : Int) < (N : Int) := by omega
  have HQ := Lib.hid hq
  clear hU hc hx hq
  go_enter Try.func60, Try.ntmps60
  go_wp2
  go_ret
  exact ⟨by rw [HQ.out]; rfl, Below.refl _ _⟩

set_option maxRecDepth 100000 in
set_option maxHeartbeats 2000000 in
theorem iStaysOn_any (W : Int) (A : Option Addr) (n c : Nat) (zs : List Int) (w : World) (h : RI w A n zs) (hn : n ≤ 1048576) :
    Calls Try.prog 35 #[.agg #[.int .i64 W, .slice A n c]] w (FreshIB w (syL W zs).length (syL W zs) (lad W zs)) := by
  have hmf : ∀ (fn : Fn) (first cap : Array Value) (w : World), (Instr.makeFunc fn first cap).run Try.prog w = .ok (.func fn first cap) w := fun _ _ _ _ => rfl
  have hl := h.1
  have HA := boxNew (W := W) (c := c) 29 h
  have HB := belAlloc (belRefl (w := w)) (.cells #[.int .i64 W, .slice A n c] 29)
  have HR := Lib.hid (fun w2 (r : RI w2 A n zs) => iRungsOn_any W A n c zs w2 r hn)
  rcases hq : lad W zs with _ | _
  · rw [syL_no hq]
    rw [hq] at HR
    clear hq h
    go_enter Try.func35, Try.ntmps35
    go_wp2_with fail
    refine (HR.out _ HA.out.ri).mono ?_
    rintro e w1 ⟨A1, c1, rfl, _, hb⟩
    replace HB := belStep HB hb
    replace HB := belAlloc HB (.cells #[.slice A1 (usT W zs).length c1] 22)
    clear hb
    go_wp2
    go_ret2
    exact ⟨none, 0, rfl, OI.none_ _ _, HB.out⟩
  · rw [syL_yes hq]
    rw [hq] at HR
    have hW := (lad_iff.1 hq).1
    obtain ⟨N, rfl⟩ : ∃ N : Nat, W = (N : Int) := ⟨W.toNat, by omega⟩
    rw [Int.toNat_natCast]
    have HUE : Hid ((usT (N : Int) zs).length = N) := by show _ = _; rw [usT_yes hq, Int.toNat_natCast, usL_len]
    have HSP : Hid (∀ i, i < N → syP zs i = (gi (usT (N : Int) zs) i == 0)) := fun i hi => by
      rw [usT_yes hq, Int.toNat_natCast, gi_usL _ _ _ hi]; rfl
    rw [HUE.out] at HR
    obtain ⟨U, hU⟩ : ∃ U, U = usT (N : Int) zs := ⟨_, rfl⟩
    rw [← hU] at HR HSP
    obtain ⟨B, hB⟩ : ∃ B, B = syP zs := ⟨_, rfl⟩
    rw [← hB] at HSP ⊢
    clear hq h hU hB HUE
    go_enter Try.func35, Try.ntmps35
    have a0 := HA.out.c0; have a1 := HA.out.c1; have az := HA.out.lt
    go_wp2_with fail
    refine (HR.out _ HA.out.ri).mono ?_
    rintro e w1 ⟨A1, c1, rfl, o1, hb⟩
    replace HA := boxStep HA hb; replace HB := belStep HB hb
    have O1 := Lib.hid (o1.alloc (.cells #[.slice A1 N c1] 22))
    replace HA := boxAlloc HA (.cells #[.slice A1 N c1] 22)
    replace HB := belAlloc HB (.cells #[.slice A1 N c1] 22)
    have d0 : (w1.alloc (.cells #[.slice A1 N c1] 22)).cell? ⟨w1.heap.size, 0, none⟩ = some (.slice A1 N c1) := by simp
    replace a0 := HA.out.c0; replace a1 := HA.out.c1; replace az := HA.out.lt
    clear hb o1
    have dz : w1.heap.size < (w1.alloc (.cells #[.slice A1 N c1] 22)).heap.size := by simp
    have z1 := HB.out.size
    obtain ⟨wk, hwk⟩ : ∃ v : World, v = w1.alloc (.cells #[.slice A1 N c1] 22) := ⟨_, rfl⟩
    go_upto_region 4 with fail
    rw [← hwk] at O1 HA HB a0 a1 az d0 dz z1 ⊢
    clear hwk
    go_wp2_with fail
    refine (startsWith_sy N A n c B w1.heap.size wk (by omega) (fun i w' hi hb => syClo_any _ A1 N c1 U (B i) i w' ((hb.cell (p := ⟨w1.heap.size, 0, none⟩) dz).trans d0) (O1.out.below hb).ri (by omega) hi (HSP.out i hi))).mono ?_
    rintro e w2 ⟨A2, c2, rfl, ho, hb⟩
    have HO := Lib.hid (ho.mono z1)
    replace HB := belStep HB hb
    clear ho hb
    go_wp2
    go_ret2
    exact ⟨A2, c2, rfl, HO.out, HB.out⟩

set_option maxRecDepth 100000 in
set_option maxHeartbeats 2000000 in
theorem sStaysOn_any (W : Int) (A : Option Addr) (n c : Nat) (zs : List Int) (w : World) (h : RI w A n zs) (hn : n ≤ 1048576) :
    Calls Try.prog 34 #[.agg #[.int .i64 W, .slice A n c]] w (FreshIB w (syL W zs).length (syL W zs) (lad W zs)) := by
  have hl := h.1
  have HA := boxNew (W := W) (c := c) 29 h
  have HB := belAlloc (belRefl (w := w)) (.cells #[.int .i64 W, .slice A n c] 29)
  have HI := Lib.hid (fun w2 (r : RI w2 A n zs) => laGood_any W A n c zs w2 r hn)
  rcases hq : lad W zs with _ | _
  · rw [syL_no hq]
    rw [hq] at HI
    clear hq h
    go_enter Try.func34, Try.ntmps34
    go_wp2_with fail
    refine (HI.out _ HA.out.ri).mono ?_
    rintro e w1 ⟨rfl, hb⟩
    replace HB := belStep HB hb
    clear hb
    go_wp2
    go_ret2
    exact ⟨none, 0, rfl, OI.none_ _ _, HB.out⟩
  · rw [syL_yes hq]
    rw [hq] at HI
    have hW := (lad_iff.1 hq).1
    have hn60 : n ≤ 60 := by have := (lad_iff.1 hq).2.1; omega
    obtain ⟨N, rfl⟩ : ∃ N : Nat, W = (N : Int) := ⟨W.toNat, by omega⟩
    rw [Int.toNat_natCast]
    have HM := Lib.hid (fun w2 (r : RI w2 A n zs) => mrOver_any N A n c zs w2 r hn60 hq)
    have HSP : Hid (∀ i, i < N → syP zs i = (gi (usL zs N) i == 0)) := fun i hi => by
      rw [gi_usL _ _ _ hi]; rfl
    obtain ⟨U, hU⟩ : ∃ U, U = usL zs N := ⟨_, rfl⟩
    rw [← hU] at HM HSP
    obtain ⟨B, hB⟩ : ∃ B, B = syP zs := ⟨_, rfl⟩
    rw [← hB] at HSP ⊢
    clear hq h hU hB
    go_enter Try.func34, Try.ntmps34
    go_wp2_with fail
    refine (HI.out _ HA.out.ri).mono ?_
    rintro e w1 ⟨rfl, hb⟩
    replace HA := boxStep HA hb; replace HB := belStep HB hb
    have a0 := HA.out.c0; have a1 := HA.out.c1; have az := HA.out.lt
    have z1 := HB.out.size
    clear hb
    go_wp2_with fail
    refine (HM.out _ HA.out.ri).mono ?_
    rintro e w2 ⟨A2, c2, rfl, ho, hb⟩
    have HRU := Lib.hid ho.ri
    replace HB := belStep HB hb
    have z2 := HB.out.size
    clear hb ho a0 a1
    go_wp2
    go_loopw [4, 13] (fun v i wr => ∃ (k : Nat) (A1 : Option Addr) (c1 : Nat), k ≤ N ∧ i = .int .i64 (k : Int) ∧ v = .slice A1 (fltL B k).length c1 ∧ OI wr w2.heap.size A1 (fltL B k).length c1 (fltL B k) ∧ Below w2.heap.size w2 wr) (fun _ i _ => N - (intOf i).toNat)
    case atStart => exact ⟨0, none, 0, Nat.zero_le _, rfl, rfl, OI.none_ _ _, Below.refl _ _⟩
    case round =>
      obtain ⟨k, A1, c1, hk, rfl, rfl, ho, hb⟩ := hrel
      have HO := Lib.hid ho
      have HR := Lib.hid hb
      have hul := fltL_len B k
      have hbs := hb.size
      clear ho hb
      by_cases hlt : k < N
      · obtain ⟨b, off, rfl, hbw, hc⟩ := (HRU.out.below HR.out (Nat.le_refl _)).cell hlt
        have hck := hc k hlt
        have HSk := Lib.hid (HSP.out k hlt)
        obtain ⟨x, hx⟩ : ∃ x, x = gi U k := ⟨_, rfl⟩
        rw [← hx] at hck HSk
        clear hc hx
        by_cases he : x = 0
        · subst he
          have HFL : Hid ((fltL B k).length + 1 = (fltL B (k + 1)).length) := by show _ = _; rw [fltL_yes (HSk.out)]; simp
          have HF := Lib.hid (fltL_yes (B := B) (k := k) HSk.out)
          go_wp2_with (at_builtin; refine wpList_append_int _ rfl _ _ rfl w2.heap.size A1 (fltL B k).length c1 _ (k : Int) wr.heap.size rfl rfl (HO.out.alloc _) (by simp) (by omega) (by simp; omega) ?_; intro A3 c3 w3 ho3 hg3)
          go_roundw
          case rel =>
            refine ⟨k + 1, A3, c3, by omega, by go_num, by rw [← HFL.out], by rw [← HFL.out, HF.out]; exact ho3, (belGrown (belAlloc HR _) (HO.out.alloc _) hg3 (Nat.le_refl _)).out⟩
          case measure => simp [intOf]; omega
        · have e1 : (x == 0) = false := beq_eq_false_iff_ne.2 he
          have HF := Lib.hid (fltL_no (B := B) (k := k) (HSk.out.trans e1))
          clear he
          go_wp2
          go_roundw
          case rel => exact ⟨k + 1, A1, c1, by omega, by go_num, by rw [HF.out], by rw [HF.out]; exact HO.out, HR.out⟩
          case measure => simp [intOf]; omega
      · obtain rfl : k = N := by omega
        go_wp2
        go_ret2
        exact ⟨A1, c1, rfl, HO.out.mono z2, HB.out.trans (HR.out.mono z2)⟩
end Go.Proofs.Ythalcjgpjagcoaa

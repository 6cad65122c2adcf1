/- Starts of which something is so, and ThroughWire, of the program and of its model. -/
import Derived.Test.YtmlkccihpkpjfaaMr3
import Derived.Test.YtmlkccihpkpjfaaFl1
import Derived.Test.YtmlkccihpkpjfaaLB
namespace Go.Proofs.Ytmlkccihpkpjfaa
open Go Go.RowKit

/-- whoever starts at k is on a wire -/
def twP (zs : List Int) (a : Int) (k : Nat) : Bool := hasM (down zs (k : Int)) a
def twL (W : Int) (zs : List Int) (a : Int) : List Int := if wire W zs a = true then fltL (twP zs a) W.toNat else []
theorem twL_yes {W : Int} {zs : List Int} {a : Int} (h : wire W zs a = true) : twL W zs a = fltL (twP zs a) W.toNat := by unfold twL; rw [if_pos h]
theorem twL_no {W : Int} {zs : List Int} {a : Int} (h : wire W zs a = false) : twL W zs a = [] := by unfold twL; rw [h]; rfl
theorem twL_len (W : Int) (zs : List Int) (a : Int) : (twL W zs a).length ≤ 1000 := by
  unfold twL
  split
  · rename_i h
    have h1 := (lad_iff.1 (wire_iff.1 h).1).1
    have := fltL_len (twP zs a) W.toNat
    omega
  · simp

set_option maxRecDepth 100000 in
set_option maxHeartbeats 2000000 in
theorem startsWith_tw (N : Nat) (A : Option Addr) (n c : Nat) (B : Nat → Bool) (bl bi : Nat) (w : World) (hN : N ≤ 8)
    (hT : Hid (∀ (i : Nat) (w' : World), i < N → Below w.heap.size w w' → Calls Try.prog 60 #[.int .i64 (i : Int), .pointer (some ⟨bl, 0, none⟩), .pointer (some ⟨bi, 0, none⟩)] w' (RetB (B i) w'))) :
    Calls Try.prog 59 #[.agg #[.int .i64 (N : Int), .slice A n c], .func (.func 60) #[] #[.pointer (some ⟨bl, 0, none⟩), .pointer (some ⟨bi, 0, none⟩)]] w (FreshI w (fltL B N).length (fltL B N)) := by
  go_enter Try.func59, Try.ntmps59
  have HC0 := cellNew w (.int .i64 (N : Int)) (.slice A n c) 26
  go_wp2
  go_loopw [5, 6, 9] (fun v _ i wr => ∃ (k : Nat) (A1 : Option Addr) (c1 : Nat), k ≤ N ∧ i = .int .i64 (k : Int) ∧ v = .slice A1 (fltL B k).length c1 ∧ OI wr w.heap.size A1 (fltL B k).length c1 (fltL B k) ∧ Below w.heap.size w wr) (fun _ _ i _ => N - (intOf i).toNat)
  case atStart => exact ⟨0, none, 0, Nat.zero_le _, rfl, rfl, OI.none_ _ _, (Below.refl _ _).alloc (Nat.le_refl _) _⟩
  case round =>
    obtain ⟨k, A1, c1, hk, rfl, rfl, ho, hb⟩ := hrel
    have HO := Lib.hid ho
    have HB := Lib.hid hb
    have hul := fltL_len B k
    have hbs := hb.size
    clear ho hb
    by_cases hlt : k < N
    · have HTk := Lib.hid (hT.out k wr hlt HB.out)
      rcases hq : B k with _ | _
      · rw [hq] at HTk
        have HF := Lib.hid (fltL_no hq)
        clear hq
        go_wp2_with fail
        refine HTk.out.mono ?_
        rintro e w2 ⟨rfl, hb⟩
        replace HO := oiStep HO hb
        replace HB := belStep HB hb
        clear hb HTk
        go_wp2
        go_roundw
        case rel => exact ⟨k + 1, A1, c1, by omega, by go_num, by rw [HF.out], by rw [HF.out]; exact HO.out, HB.out⟩
        case measure => simp [intOf]; omega
      · rw [hq] at HTk
        have HF := Lib.hid (fltL_yes hq)
        have HFL : Hid ((fltL B k).length + 1 = (fltL B (k + 1)).length) := by show _ = _; rw [HF.out]; simp
        clear hq
        go_wp2_with fail
        refine HTk.out.mono ?_
        rintro e w2 ⟨rfl, hb⟩
        replace HO := oiStep HO hb
        replace HB := belStep HB hb
        have hbs2 := HB.out.size
        clear hb HTk
        go_wp2_with (at_builtin; refine wpList_append_int _ rfl _ _ rfl w.heap.size A1 (fltL B k).length c1 _ (k : Int) w2.heap.size rfl rfl (HO.out.alloc _) (by simp) (by omega) (by simp; omega) ?_; intro A3 c3 w3 ho3 hg3)
        go_roundw
        case rel =>
          refine ⟨k + 1, A3, c3, by omega, by go_num, by rw [← HFL.out], by rw [← HFL.out, HF.out]; exact ho3, (belGrown (belAlloc HB _) (HO.out.alloc _) hg3 (Nat.le_refl _)).out⟩
        case measure => simp [intOf]; omega
    · obtain rfl : k = N := by omega
      go_wp2
      go_ret
      exact ⟨A1, c1, rfl, HO.out, HB.out⟩

theorem startAt {W : Int} {zs : List Int} (h : lad W zs = true) {i : Nat} (hi : (i : Int) < W) : Wires zs (i : Int) :=
  ⟨W, by have := (lad_iff.1 h).1; omega, fun _ hj => lad_at h hj, by omega, by omega⟩

set_option maxRecDepth 100000 in
set_option maxHeartbeats 2000000 in
theorem twClo_any (bl bi : Nat) (W : Int) (A : Option Addr) (n c : Nat) (zs : List Int) (a : Int) (i : Nat) (w : World) (hA : Hid (Box w bl W A n c zs)) (hi : w.cell? ⟨bi, 0, none⟩ = some (.int .i64 a)) (hbi : bi < w.heap.size) (hn : n ≤ 60) (hw : Wires zs (i : Int)) :
    Calls Try.prog 60 #[.int .i64 (i : Int), .pointer (some ⟨bl, 0, none⟩), .pointer (some ⟨bi, 0, none⟩)] w (RetB (twP zs a i) w) := by
  have a0 := hA.out.c0; have a1 := hA.out.c1; have az := hA.out.lt
  have HW := Lib.hid (fun w2 (r : RI w2 A n zs) => wayDown_any A n c zs (i : Int) w2 r (by omega) hw)
  have HC := Lib.hid (fun A2 c2 w2 (r : RI w2 A2 (n + 1) (down zs (i : Int))) => containsM_any A2 (n + 1) c2 (down zs (i : Int)) a w2 r (by omega))
  obtain ⟨q, hq⟩ : ∃ q, q = twP zs a i := ⟨_, rfl⟩
  have HQ := Lib.hid hq
  rw [← hq]
  have HC' : Hid (∀ A2 c2 w2, RI w2 A2 (n + 1) (down zs (i : Int)) → Calls Try.prog 51 #[.slice A2 (n + 1) c2, .int .i64 a] w2 (SameB q w2)) := fun A2 c2 w2 r => by rw [HQ.out]; exact HC.out A2 c2 w2 r
  clear hq hw HC
  go_enter Try.func60, Try.ntmps60
  go_wp2_with fail
  have HD := boxDrew hA
  have KS := Lib.hid (fun (wx : World) (hb : Below w.heap.size w wx) => (⟨(hb.cell (p := ⟨bl, 1, none⟩) az).trans a1, (hb.cell (p := ⟨bi, 0, none⟩) hbi).trans hi⟩ : wx.cell? ⟨bl, 1, none⟩ = some (.slice A n c) ∧ wx.cell? ⟨bi, 0, none⟩ = some (.int .i64 a)))
  go_region_held3 (fun w' => w'.cell? ⟨bl, 1, none⟩ = some (.slice A n c) ∧ w'.cell? ⟨bi, 0, none⟩ = some (.int .i64 a))
    (with_reducible first | exact KS.out _ (hidOut (belDrew belRefl)) | exact KS.out _ (hidOut belRefl) | exact KS.out _ (hidOut b6))
    (first
      | (go_at_call 61; refine (HW.out _ HD.out.ri).mono ?_; rintro e w6 ⟨A6, c6, rfl, o6, hb⟩; have b6 : Hid (Below w.heap.size w w6) := (Below.refl _ _).drew.trans hb; have O6 := Lib.hid o6; clear hb o6)
      | (go_at_call 51; refine (HC'.out _ _ _ O6.out.ri).mono ?_; rintro e w7 ⟨rfl, rfl⟩))
  go_wp2
  go_ret
  exact ⟨rfl, b6.out⟩

set_option maxRecDepth 100000 in
set_option maxHeartbeats 2000000 in
theorem iThroughWire_any (W : Int) (A : Option Addr) (n c : Nat) (zs : List Int) (a : Int) (w : World) (h : RI w A n zs) (hn : n ≤ 1048576) :
    Calls Try.prog 37 #[.agg #[.int .i64 W, .slice A n c], .int .i64 a] w (FreshIB w (twL W zs a).length (twL W zs a) (wire W zs a)) := by
  have hl := h.1
  have hmf : ∀ (fn : Fn) (first cap : Array Value) (w : World), (Instr.makeFunc fn first cap).run Try.prog w = .ok (.func fn first cap) w := fun _ _ _ _ => rfl
  have HA := boxAlloc (boxNew (W := W) (c := c) 26 h) (.cells #[.int .i64 a] 3)
  have HB := belAlloc (belAlloc (belRefl (w := w)) (.cells #[.int .i64 W, .slice A n c] 26)) (.cells #[.int .i64 a] 3)
  have d0 : ((w.alloc (.cells #[.int .i64 W, .slice A n c] 26)).alloc (.cells #[.int .i64 a] 3)).cell? ⟨w.heap.size + 1, 0, none⟩ = some (.int .i64 a) := by
    have : ((w.alloc (.cells #[.int .i64 W, .slice A n c] 26)).alloc (.cells #[.int .i64 a] 3)).cell? ⟨(w.alloc (.cells #[.int .i64 W, .slice A n c] 26)).heap.size, 0, none⟩ = some (.int .i64 a) := by simp
    simpa only [World.size_alloc] using this
  have HI := Lib.hid (fun w2 (r : RI w2 A n zs) => isStart_any W A n c zs a w2 r hn)
  rcases hq : wire W zs a with _ | _
  · rw [twL_no hq]
    rw [hq] at HI
    clear hq h
    go_enter Try.func37, Try.ntmps37
    have a0 := HA.out.c0; have a1 := HA.out.c1; have az := HA.out.lt
    go_wp2_with fail
    refine (HI.out _ HA.out.ri).mono ?_
    rintro e w1 ⟨rfl, hb⟩
    replace HB := belStep HB hb
    clear hb
    go_wp2
    go_ret2
    exact ⟨none, 0, rfl, OI.none_ _ _, HB.out⟩
  · rw [twL_yes hq]
    rw [hq] at HI
    have hl1 := (wire_iff.1 hq).1
    have hW := (lad_iff.1 hl1).1
    have hn60 : n ≤ 60 := by have := (lad_iff.1 hl1).2.1; omega
    obtain ⟨N, rfl⟩ : ∃ N : Nat, W = (N : Int) := ⟨W.toNat, by omega⟩
    rw [Int.toNat_natCast]
    have HST := Lib.hid (fun i (hi : i < N) => startAt hl1 (i := i) (by omega))
    clear hq h hl1
    go_enter Try.func37, Try.ntmps37
    have a0 := HA.out.c0; have a1 := HA.out.c1; have az := HA.out.lt
    go_wp2_with fail
    refine (HI.out _ HA.out.ri).mono ?_
    rintro e w1 ⟨rfl, hb⟩
    replace HA := boxStep HA hb; replace HB := belStep HB hb
    replace d0 := (hb.cell (p := ⟨w.heap.size + 1, 0, none⟩) (by simp)).trans d0
    have dz : w.heap.size + 1 < w1.heap.size := by have := hb.size; simp at this; omega
    replace a0 := HA.out.c0; replace a1 := HA.out.c1; replace az := HA.out.lt
    have z1 := HB.out.size
    clear hb
    go_wp2_with fail
    refine (startsWith_tw N A n c (twP zs a) w.heap.size (w.heap.size + 1) w1 (by omega) (fun i w' hi hb => twClo_any _ _ (N : Int) A n c zs a i w' (boxStep HA hb) ((hb.cell (p := ⟨w.heap.size + 1, 0, none⟩) dz).trans d0) (by have := hb.size; omega) hn60 (HST.out i hi))).mono ?_
    rintro e w2 ⟨A2, c2, rfl, ho, hb⟩
    have HO := Lib.hid (ho.mono z1)
    replace HB := belStep HB hb
    clear ho hb
    go_wp2
    go_ret2
    exact ⟨A2, c2, rfl, HO.out, HB.out⟩

set_option maxRecDepth 100000 in
set_option maxHeartbeats 2000000 in
theorem sThroughWire_any (W : Int) (A : Option Addr) (n c : Nat) (zs : List Int) (a : Int) (w : World) (h : RI w A n zs) (hn : n ≤ 1048576) :
    Calls Try.prog 36 #[.agg #[.int .i64 W, .slice A n c], .int .i64 a] w (FreshIB w (twL W zs a).length (twL W zs a) (wire W zs a)) := by
  have hl := h.1
  have HA := boxNew (W := W) (c := c) 26 h
  have HB := belAlloc (belRefl (w := w)) (.cells #[.int .i64 W, .slice A n c] 26)
  have HI := Lib.hid (fun w2 (r : RI w2 A n zs) => laWire_any W A n c zs a w2 r hn)
  rcases hq : wire W zs a with _ | _
  · rw [twL_no hq]
    rw [hq] at HI
    clear hq h
    go_enter Try.func36, Try.ntmps36
    go_wp2_with fail
    refine (HI.out _ HA.out.ri).mono ?_
    rintro e w1 ⟨rfl, hb⟩
    replace HB := belStep HB hb
    clear hb
    go_wp2
    go_ret2
    exact ⟨none, 0, rfl, OI.none_ _ _, HB.out⟩
  · rw [twL_yes hq]
    rw [hq] at HI
    have hl1 := (wire_iff.1 hq).1
    have hW := (lad_iff.1 hl1).1
    have hn60 : n ≤ 60 := by have := (lad_iff.1 hl1).2.1; omega
    obtain ⟨N, rfl⟩ : ∃ N : Nat, W = (N : Int) := ⟨W.toNat, by omega⟩
    rw [Int.toNat_natCast]
    have HST := Lib.hid (fun i (hi : i < N) => startAt hl1 (i := i) (by omega))
    have HTP : Hid (∀ k, twP zs a k = hasM (down zs (k : Int)) a) := fun k => rfl
    obtain ⟨B, hB⟩ : ∃ B, B = twP zs a := ⟨_, rfl⟩
    rw [← hB] at HTP ⊢
    clear hq h hl1 hB
    go_enter Try.func36, Try.ntmps36
    go_wp2_with fail
    refine (HI.out _ HA.out.ri).mono ?_
    rintro e w1 ⟨rfl, hb⟩
    replace HA := boxStep HA hb; replace HB := belStep HB hb
    have z1 := HB.out.size
    clear hb
    go_wp2
    go_loopw [6, 7] (fun v i wr => ∃ (k : Nat) (A1 : Option Addr) (c1 : Nat), k ≤ N ∧ i = .int .i64 (k : Int) ∧ v = .slice A1 (fltL B k).length c1 ∧ OI wr w1.heap.size A1 (fltL B k).length c1 (fltL B k) ∧ Below w1.heap.size w1 wr) (fun _ i _ => N - (intOf i).toNat)
    case atStart => exact ⟨0, none, 0, Nat.zero_le _, rfl, rfl, OI.none_ _ _, Below.refl _ _⟩
    case round =>
      obtain ⟨k, A1, c1, hk, rfl, rfl, ho, hb⟩ := hrel
      have HO := Lib.hid ho
      have HR := Lib.hid hb
      have HAr := boxStep HA hb
      have hul := fltL_len B k
      have hbs := hb.size
      have a0 := HAr.out.c0; have a1 := HAr.out.c1; have az := HAr.out.lt
      clear ho hb
      by_cases hlt : k < N
      · have HLD := Lib.hid (fun w2 (r : RI w2 A n zs) => laDown_any A n c zs (k : Int) w2 r (by omega) (HST.out k hlt))
        have HHM := Lib.hid (fun A2 c2 w2 (r : RI w2 A2 (n + 1) (down zs (k : Int))) => l1HasM_any A2 (n + 1) c2 (down zs (k : Int)) a w2 r (by omega))
        rw [← HTP.out k] at HHM
        rcases hq : B k with _ | _
        · rw [hq] at HHM
          have HF := Lib.hid (fltL_no hq)
          clear hq
          go_wp2_with (first
            | (go_at_call 58; refine (HLD.out _ HAr.out.ri).mono ?_; rintro e w2 ⟨A2, c2, rfl, o2, hb⟩; have O2 := Lib.hid o2; have HO2 := oiStep HO hb; have HR2 := Lib.hid (HR.out.trans (hb.mono hbs)); clear o2 hb)
            | (go_at_call 48; refine (HHM.out _ _ _ O2.out.ri).mono ?_; rintro e w' ⟨rfl, rfl⟩))
          go_roundw
          case rel => exact ⟨k + 1, A1, c1, by omega, by go_num, by rw [HF.out], by rw [HF.out]; exact HO2.out, HR2.out⟩
          case measure => simp [intOf]; omega
        · rw [hq] at HHM
          have HF := Lib.hid (fltL_yes hq)
          have HFL : Hid ((fltL B k).length + 1 = (fltL B (k + 1)).length) := by show _ = _; rw [HF.out]; simp
          clear hq
          go_wp2_with (first
            | (go_at_call 58; refine (HLD.out _ HAr.out.ri).mono ?_; rintro e w2 ⟨A2, c2, rfl, o2, hb⟩; have O2 := Lib.hid o2; have HO2 := oiStep HO hb; have HR2 := Lib.hid (HR.out.trans (hb.mono hbs)); have hbs2 := HR2.out.size; clear o2 hb)
            | (go_at_call 48; refine (HHM.out _ _ _ O2.out.ri).mono ?_; rintro e w' ⟨rfl, rfl⟩)
            | (at_builtin; refine wpList_append_int _ rfl _ _ rfl w1.heap.size A1 (fltL B k).length c1 _ (k : Int) w2.heap.size rfl rfl (HO2.out.alloc _) (by simp) (by omega) (by simp; omega) ?_; intro A3 c3 w3 ho3 hg3))
          go_roundw
          case rel =>
            refine ⟨k + 1, A3, c3, by omega, by go_num, by rw [← HFL.out], by rw [← HFL.out, HF.out]; exact ho3, ?_⟩
            exact (HR2.out.alloc hbs2 _).trans (ofMark (HO2.out.alloc _) hg3 (Nat.le_refl _) (by simp; omega))
          case measure => simp [intOf]; omega
      · obtain rfl : k = N := by omega
        go_wp2
        go_ret2
        exact ⟨A1, c1, rfl, HO.out.mono z1, HB.out.trans (HR.out.mono z1)⟩
end Go.Proofs.Ytmlkccihpkpjfaa

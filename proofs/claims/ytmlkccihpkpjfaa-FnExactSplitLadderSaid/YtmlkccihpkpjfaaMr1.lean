/- Whether a number is among others, and IsSplit, of the program and of its model. -/
import Derived.Test.YtmlkccihpkpjfaaMgD
import Derived.Test.YtmlkccihpkpjfaaStL
namespace Go.Proofs.Ytmlkccihpkpjfaa
open Go Go.RowKit

def hasM (q : List Int) (v : Int) : Bool := q.contains v
theorem conNo {q : List Int} {v : Int} (h : ∀ j, j < q.length → gi q j ≠ v) : hasM q v = false := by
  unfold hasM
  rw [← Bool.not_eq_true, List.contains_iff_mem]
  intro hm
  obtain ⟨j, hj, e⟩ := List.getElem_of_mem hm
  exact h j hj (by rw [gi_lt hj]; exact e)
theorem conYes {q : List Int} {v : Int} {j : Nat} (hj : j < q.length) (h : gi q j = v) : hasM q v = true := by
  unfold hasM
  rw [List.contains_iff_mem, ← h, gi_lt hj]; exact List.getElem_mem hj
def IdxPostM (q : List Int) (v : Int) (w : World) (e : Ending) (w' : World) : Prop :=
  ∃ i : Int, e = .returned (.int .i64 i) ∧ decide (0 ≤ i) = hasM q v ∧ w' = w

set_option maxRecDepth 100000 in
set_option maxHeartbeats 1000000 in
theorem indexM_any (a : Option Addr) (k d : Nat) (q : List Int) (v : Int) (w : World) (h : RI w a k q) (hk : k ≤ 1048576) : Calls Try.prog 65 #[.slice a k d, .int .i64 v] w (IdxPostM q v w) := by
  have hl := h.1
  go_enter Try.func65, Try.ntmps65
  go_wp2
  go_loopw [5, 8] (fun _ i wr => ∃ j : Nat, j ≤ k ∧ i = .int .i64 (j : Int) ∧ wr = w ∧ ∀ y, y < j → gi q y ≠ v) (fun _ i _ => k - (intOf i).toNat)
  case atStart => exact ⟨0, Nat.zero_le _, rfl, rfl, fun y hy => absurd hy (Nat.not_lt_zero _)⟩
  case round =>
    obtain ⟨j, hj, rfl, rfl, hno⟩ := hrel
    have HN := Lib.hid hno
    clear hno
    by_cases hlt : j < k
    · obtain ⟨b, off, rfl, hbw, hc⟩ := h.cell hlt
      have hcj := hc j hlt
      obtain ⟨y, hy⟩ : ∃ y, y = gi q j := ⟨_, rfl⟩
      rw [← hy] at hcj
      have HY := Lib.hid hy
      clear hc hy h
      by_cases hd : v = y
      · have HC := Lib.hid (conYes (q := q) (v := v) (j := j) (by omega) (by rw [← HY.out]; exact hd.symm))
        subst hd
        go_wp2
        go_ret
        exact ⟨(j : Int), rfl, by rw [HC.out]; simp, rfl⟩
      · have HD := Lib.hid (fun e : gi q j = v => hd (by rw [HY.out]; exact e.symm))
        go_wp2
        go_roundw
        case rel => exact ⟨j + 1, hlt, by go_num, by first | rfl | trivial, fun z hz => by
          rcases Nat.lt_or_ge z j with e | e
          · exact HN.out z e
          · have e2 : z = j := by omega
            subst e2
            exact HD.out⟩
        case measure => simp [intOf]; omega
    · have HC := Lib.hid (conNo (q := q) (v := v) (fun z hz => HN.out z (by omega)))
      clear h
      go_wp2
      go_ret
      exact ⟨-1, by first | rfl | trivial, by rw [HC.out]; rfl, by first | rfl | trivial⟩

set_option maxRecDepth 100000 in
set_option maxHeartbeats 1000000 in
theorem containsM_any (a : Option Addr) (k d : Nat) (q : List Int) (v : Int) (w : World) (h : RI w a k q) (hk : k ≤ 1048576) : Calls Try.prog 51 #[.slice a k d, .int .i64 v] w (SameB (hasM q v) w) := by
  have HX := Lib.hid (indexM_any a k d q v w h hk)
  obtain ⟨B, hB⟩ : ∃ B, B = hasM q v := ⟨_, rfl⟩
  have HBB := Lib.hid hB
  rw [← hB]
  clear hB h
  go_enter Try.func51, Try.ntmps51
  go_wp2_with fail
  refine HX.out.mono ?_
  rintro e w1 ⟨i, rfl, hi, rfl⟩
  have HII := Lib.hid hi
  clear hi
  go_wp2
  go_ret
  exact ⟨by rw [HBB.out, ← HII.out]; rfl, rfl⟩

set_option maxHeartbeats 1000000 in
theorem l1HasM_any (A : Option Addr) (n c : Nat) (zs : List Int) (x : Int) (w : World) (h : RI w A n zs) (hn : n ≤ 1048576) :
    Calls Try.prog 48 #[.slice A n c, .int .i64 x] w (SameB (hasM zs x) w) := by
  go_enter Try.func48, Try.ntmps48
  go_wp2
  go_loop [6, 9] (fun _ i => ∃ k : Nat, k ≤ n ∧ i = .int .i64 k ∧ ∀ j, j < k → gi zs j ≠ x) (fun _ i => n - (intOf i).toNat)
  case atStart => exact ⟨0, Nat.zero_le _, rfl, fun j hj => absurd hj (by omega)⟩
  case round =>
    obtain ⟨k, hk, rfl, hall⟩ := hrel
    have H3 := Lib.hid hall
    clear hall
    by_cases hlt : k < n
    · obtain ⟨b, off, rfl, hbw, hc⟩ := h.cell hlt
      have hck := hc k hlt
      clear hc
      by_cases hx : gi zs k = x
      · have e1 : (gi zs k == x) = true := beq_iff_eq.2 hx
        have HX := Lib.hid (conYes (by rw [h.1]; exact hlt) hx)
        clear hx
        go_wp2
        go_ret
        exact ⟨ret_b HX.out.symm, rfl⟩
      · have e1 : (gi zs k == x) = false := beq_eq_false_iff_ne.2 hx
        have HX := Lib.hid hx
        clear hx
        go_wp2
        go_round
        case rel =>
          refine ⟨k + 1, by omega, by go_num, fun j hj => ?_⟩
          by_cases e : j = k
          · rw [e]; exact HX.out
          · exact H3.out j (by omega)
        case measure => simp [intOf]; omega
    · obtain rfl : k = n := by omega
      go_wp2
      go_ret
      exact ⟨ret_b (conNo (by rw [h.1]; exact H3.out)).symm, rfl⟩

/-! IsSplit -/
def ispB (W : Int) (zs : List Int) (a : Int) : Bool := lad W zs && inB a 1 (W - 1)
def ispV (W : Int) (zs : List Int) (a : Int) : Bool := ispB W zs a && !(hasM zs (a - 1))

set_option maxRecDepth 100000 in
set_option maxHeartbeats 1000000 in
theorem iIsSplit_any (W : Int) (A : Option Addr) (n c : Nat) (zs : List Int) (a : Int) (w : World) (h : RI w A n zs) (hn : n ≤ 1048576) :
    Calls Try.prog 35 #[.agg #[.int .i64 W, .slice A n c], .int .i64 a] w (RetBB (ispV W zs a) (ispB W zs a) w) := by
  have HA := boxNew (W := W) (c := c) 26 h
  have HB := belAlloc (belRefl (w := w)) (.cells #[.int .i64 W, .slice A n c] 26)
  have HI := Lib.hid (fun w2 (r : RI w2 A n zs) => iIsLadder_any W A n c zs w2 r hn)
  have HC := Lib.hid (fun w2 (r : RI w2 A n zs) => containsM_any A n c zs (a - 1) w2 r)
  rcases hq : lad W zs with _ | _
  · have e : ispB W zs a = false := by unfold ispB; rw [hq]; rfl
    unfold ispV
    rw [e]
    rw [hq] at HI
    clear hq h e
    go_enter Try.func35, Try.ntmps35
    go_wp2_with fail
    refine (HI.out _ HA.out.ri).mono ?_
    rintro e w1 ⟨rfl, hb⟩
    replace HB := belStep HB hb
    clear hb
    go_wp2
    go_ret2
    exact ⟨rfl, HB.out⟩
  · rw [hq] at HI
    have hW := (lad_iff.1 hq).1
    have hn60 : n ≤ 60 := by have := (lad_iff.1 hq).2.1; rw [h.1] at this; exact this
    have e : ispB W zs a = inB a 1 (W - 1) := by unfold ispB; rw [hq]; rfl
    unfold ispV
    rw [e]
    clear hq e
    by_cases ha : 1 ≤ a ∧ a ≤ W - 1
    · rw [inB_true ha]
      obtain ⟨q, hqq⟩ : ∃ q, q = hasM zs (a - 1) := ⟨_, rfl⟩
      rw [← hqq] at HC
      rw [← hqq]
      clear hqq h
      have e1 : IntKind.i64.wrap (a - 1) = a - 1 := IntWalk.i64_in _ (by omega)
      go_enter Try.func35, Try.ntmps35
      have a0 := HA.out.c0; have a1 := HA.out.c1; have az := HA.out.lt
      go_wp2_with fail
      refine (HI.out _ HA.out.ri).mono ?_
      rintro e w1 ⟨rfl, hb⟩
      replace HA := boxStep HA hb; replace HB := belStep HB hb; replace a0 := HA.out.c0; replace a1 := HA.out.c1; replace az := HA.out.lt; clear hb
      go_wp2_with (go_at_call 51; refine (HC.out _ HA.out.ri (by omega)).mono ?_; rintro e w' ⟨rfl, rfl⟩)
      go_ret2
      exact ⟨by cases q <;> rfl, HB.out⟩
    · rw [inB_false ha]
      clear h
      go_enter Try.func35, Try.ntmps35
      have a0 := HA.out.c0; have a1 := HA.out.c1; have az := HA.out.lt
      go_wp2_with fail
      refine (HI.out _ HA.out.ri).mono ?_
      rintro e w1 ⟨rfl, hb⟩
      replace HA := boxStep HA hb; replace HB := belStep HB hb; replace a0 := HA.out.c0; replace a1 := HA.out.c1; replace az := HA.out.lt; clear hb
      by_cases ha1 : a < 1
      · go_wp2
        go_ret2
        exact ⟨rfl, HB.out⟩
      · have ha2 : W ≤ a := by omega
        go_wp2
        go_ret2
        exact ⟨rfl, HB.out⟩

set_option maxRecDepth 100000 in
set_option maxHeartbeats 1000000 in
theorem sIsSplit_any (W : Int) (A : Option Addr) (n c : Nat) (zs : List Int) (a : Int) (w : World) (h : RI w A n zs) (hn : n ≤ 1048576) :
    Calls Try.prog 34 #[.agg #[.int .i64 W, .slice A n c], .int .i64 a] w (RetBB (ispV W zs a) (ispB W zs a) w) := by
  have HA := boxNew (W := W) (c := c) 26 h
  have HB := belAlloc (belRefl (w := w)) (.cells #[.int .i64 W, .slice A n c] 26)
  have HI := Lib.hid (fun w2 (r : RI w2 A n zs) => laGood_any W A n c zs w2 r hn)
  have HC := Lib.hid (fun w2 (r : RI w2 A n zs) => l1HasM_any A n c zs (a - 1) w2 r hn)
  rcases hq : lad W zs with _ | _
  · have e : ispB W zs a = false := by unfold ispB; rw [hq]; rfl
    unfold ispV
    rw [e]
    rw [hq] at HI
    clear hq h e
    go_enter Try.func34, Try.ntmps34
    go_wp2_with fail
    refine (HI.out _ HA.out.ri).mono ?_
    rintro e w1 ⟨rfl, hb⟩
    replace HB := belStep HB hb
    clear hb
    go_wp2
    go_ret2
    exact ⟨rfl, HB.out⟩
  · rw [hq] at HI
    have hW := (lad_iff.1 hq).1
    have e : ispB W zs a = inB a 1 (W - 1) := by unfold ispB; rw [hq]; rfl
    unfold ispV
    rw [e]
    clear hq e
    have HL := Lib.hid (fun w2 => l1In_any a 1 (W - 1) w2)
    by_cases ha : 1 ≤ a ∧ a ≤ W - 1
    · rw [inB_true ha]
      rw [inB_true ha] at HL
      obtain ⟨q, hqq⟩ : ∃ q, q = hasM zs (a - 1) := ⟨_, rfl⟩
      rw [← hqq] at HC
      rw [← hqq]
      clear hqq h
      have e1 : IntKind.i64.wrap (a - 1) = a - 1 := IntWalk.i64_in _ (by omega)
      go_enter Try.func34, Try.ntmps34
      have a0 := HA.out.c0; have a1 := HA.out.c1; have az := HA.out.lt
      go_wp2_with fail
      refine (HI.out _ HA.out.ri).mono ?_
      rintro e w1 ⟨rfl, hb⟩
      replace HA := boxStep HA hb; replace HB := belStep HB hb; replace a0 := HA.out.c0; replace a1 := HA.out.c1; replace az := HA.out.lt; clear hb
      go_wp2_with (first | (go_at_call 52; refine (HL.out _).mono ?_; rintro e w' ⟨rfl, rfl⟩) | (go_at_call 48; refine (HC.out _ HA.out.ri).mono ?_; rintro e w' ⟨rfl, rfl⟩))
      go_ret2
      exact ⟨by cases q <;> rfl, HB.out⟩
    · rw [inB_false ha]
      rw [inB_false ha] at HL
      clear h
      go_enter Try.func34, Try.ntmps34
      have a0 := HA.out.c0; have a1 := HA.out.c1; have az := HA.out.lt
      go_wp2_with fail
      refine (HI.out _ HA.out.ri).mono ?_
      rintro e w1 ⟨rfl, hb⟩
      replace HA := boxStep HA hb; replace HB := belStep HB hb; replace a0 := HA.out.c0; replace a1 := HA.out.c1; replace az := HA.out.lt; clear hb
      go_wp2_with (go_at_call 52; refine (HL.out _).mono ?_; rintro e w' ⟨rfl, rfl⟩)
      go_ret2
      exact ⟨rfl, HB.out⟩
end Go.Proofs.Ytmlkccihpkpjfaa

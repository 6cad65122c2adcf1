/- IsLevel, of the program and of its model. -/
import Derived.Test.YtnhhbpogjhcibaaMgD
import Derived.Test.YtnhhbpogjhcibaaBk2
import Derived.Test.YtnhhbpogjhcibaaMgC
import Derived.BigQuiet
namespace Go.Proofs.Ytnhhbpogjhcibaa
open Go Go.RowKit

/-- the number j of a list may stand there in a level of n wires -/
def okAt (n : Int) (zs : List Int) (j : Nat) : Bool := inB (gi zs j) 0 (n - 2) && (decide (j = 0) || decide (gi zs (j - 1) + 2 ≤ gi zs j))
def lvB (n : Int) (zs : List Int) : Bool := (List.range zs.length).all (okAt n zs)
theorem lvB_false {n : Int} {zs : List Int} {j : Nat} (hj : j < zs.length) (h : okAt n zs j = false) : lvB n zs = false := by
  rw [← Bool.not_eq_true]
  intro e
  unfold lvB at e
  rw [List.all_eq_true] at e
  have := e j (List.mem_range.2 hj)
  rw [h] at this
  cases this
theorem lvB_true {n : Int} {zs : List Int} (h : ∀ j, j < zs.length → okAt n zs j = true) : lvB n zs = true := by
  unfold lvB
  rw [List.all_eq_true]
  exact fun j hj => h j (List.mem_range.1 hj)
theorem lvB_at {n : Int} {zs : List Int} (h : lvB n zs = true) {j : Nat} (hj : j < zs.length) : okAt n zs j = true := by
  unfold lvB at h
  rw [List.all_eq_true] at h
  exact h j (List.mem_range.2 hj)
theorem okAt_in {n : Int} {zs : List Int} {j : Nat} (h : okAt n zs j = true) : 0 ≤ gi zs j ∧ gi zs j ≤ n - 2 := by
  unfold okAt at h
  rw [Bool.and_eq_true] at h
  exact inB_iff.1 h.1
theorem okAt_step {n : Int} {zs : List Int} {j : Nat} (h : okAt n zs j = true) (h0 : 0 < j) : gi zs (j - 1) + 2 ≤ gi zs j := by
  unfold okAt at h
  rw [Bool.and_eq_true] at h
  have := h.2
  simp at this
  omega
theorem okAt_no1 {n : Int} {zs : List Int} {j : Nat} (h : ¬ (0 ≤ gi zs j ∧ gi zs j ≤ n - 2)) : okAt n zs j = false := by
  unfold okAt; rw [inB_false h]; rfl
theorem okAt_no2 {n : Int} {zs : List Int} {j : Nat} (h0 : 0 < j) (h : gi zs j < gi zs (j - 1) + 2) : okAt n zs j = false := by
  rw [← Bool.not_eq_true]
  intro e
  have := okAt_step e h0
  omega
theorem okAt_yes {n : Int} {zs : List Int} {j : Nat} (h : 0 ≤ gi zs j ∧ gi zs j ≤ n - 2) (h2 : 0 < j → gi zs (j - 1) + 2 ≤ gi zs j) : okAt n zs j = true := by
  unfold okAt
  rw [inB_true h]
  by_cases e : j = 0
  · simp [e]
  · have := h2 (by omega)
    simp [e, this]

set_option maxRecDepth 100000 in
set_option maxHeartbeats 1000000 in
theorem isLevel_any (n : Int) (A : Option Addr) (m c : Nat) (zs : List Int) (w : World) (h : RI w A m zs) (hm : m ≤ 1048576) (h2 : 2 ≤ n) (h8 : n ≤ 8) :
    Calls Try.prog 52 #[.int .i64 n, .slice A m c] w (RetB (lvB n zs) w) := by
  have hl := h.1
  go_enter Try.func52, Try.ntmps52
  go_wp2
  go_loopw [5, 10] (fun s5 i wr => ∃ (k : Nat) (l : Int), k ≤ m ∧ i = .int .i64 (k : Int) ∧ s5 = .int .i64 l ∧ (∀ j, j < k → okAt n zs j = true) ∧ (k = 0 → l = 0) ∧ (0 < k → l = gi zs (k - 1) + 2) ∧ 0 ≤ l ∧ l ≤ 8 ∧ wr = w) (fun _ i _ => m - (intOf i).toNat)
  case atStart => exact ⟨0, 0, Nat.zero_le _, by go_num, rfl, fun j hj => absurd hj (by omega), fun _ => rfl, fun h => absurd h (by omega), by omega, by omega, rfl⟩
  case round =>
    obtain ⟨k, l, hk, rfl, rfl, hall, hl0, hl1, hln, hl8, rfl⟩ := hrel
    by_cases hlt : k < m
    · obtain ⟨b, off, rfl, hbw, hc⟩ := h.cell hlt
      have hck := hc k hlt
      clear hc
      have H3 := Lib.hid hall
      have HL0 := Lib.hid hl0
      have HL1 := Lib.hid hl1
      have HH := Lib.hid hl
      obtain ⟨z, hz⟩ : ∃ z, z = gi zs k := ⟨_, rfl⟩
      rw [← hz] at hck
      have HZ := Lib.hid hz
      clear hall hl0 hl1 hl hz
      by_cases h3 : z < l
      · go_wp2
        go_ret
        refine ⟨ret_b (lvB_false (j := k) (by rw [HH.out]; exact hlt) ?_).symm, Below.refl _ _⟩
        by_cases e : k = 0
        · exact okAt_no1 (by rw [← HZ.out]; have := HL0.out e; omega)
        · exact okAt_no2 (by omega) (by rw [← HZ.out]; have := HL1.out (by omega); omega)
      · by_cases h4 : n - 2 < z
        · go_wp2
          go_ret
          exact ⟨ret_b (lvB_false (j := k) (by rw [HH.out]; exact hlt) (okAt_no1 (by rw [← HZ.out]; omega))).symm, Below.refl _ _⟩
        · go_wp2
          go_roundw
          case rel =>
            refine ⟨k + 1, z + 2, by omega, by go_num, rfl, fun j hj => ?_, fun e => absurd e (by omega), fun _ => by rw [Nat.add_sub_cancel, ← HZ.out], by omega, by omega, trivial⟩
            by_cases e : j = k
            · rw [e]; exact okAt_yes (by rw [← HZ.out]; omega) (fun e2 => by rw [← HZ.out]; have := HL1.out e2; omega)
            · exact H3.out j (by omega)
          case measure => simp [intOf]; omega
    · obtain rfl : k = m := by omega
      have HH := Lib.hid hl
      have H3 := Lib.hid hall
      clear hall hl hl0 hl1
      go_wp2
      go_ret
      exact ⟨ret_b (lvB_true (by rw [HH.out]; exact H3.out)).symm, Below.refl _ _⟩

set_option maxRecDepth 100000 in
set_option maxHeartbeats 1000000 in
theorem lvGood_any (n : Int) (A : Option Addr) (m c : Nat) (zs : List Int) (w : World) (h : RI w A m zs) (hm : m ≤ 1048576) (h2 : 2 ≤ n) (h8 : n ≤ 8) :
    Calls Try.prog 51 #[.int .i64 n, .slice A m c] w (RetB (lvB n zs) w) := by
  have hl := h.1
  go_enter Try.func51, Try.ntmps51
  go_wp2
  go_loopw [9] (fun i wr => ∃ (k : Nat), k ≤ m ∧ i = .int .i64 (k : Int) ∧ (∀ j, j < k → okAt n zs j = true) ∧ Below w.heap.size w wr) (fun i _ => m - (intOf i).toNat)
  case atStart => exact ⟨0, Nat.zero_le _, by go_num, fun j hj => absurd hj (by omega), Below.refl _ _⟩
  case round =>
    obtain ⟨k, hk, rfl, hall, hb⟩ := hrel
    have HB := Lib.hid hb
    have hR := h.below hb (Nat.le_refl _)
    clear hb
    by_cases hlt : k < m
    · obtain ⟨b, off, rfl, hbw, hc⟩ := hR.cell hlt
      have hck := hc k hlt
      have hcp : 0 < k → wr.cell? ⟨b, off + (k - 1), none⟩ = some (.int .i64 (gi zs (k - 1))) := fun e => hc (k - 1) (by omega)
      clear hc hR
      have H3 := Lib.hid hall
      have HH := Lib.hid hl
      obtain ⟨z, hz⟩ : ∃ z, z = gi zs k := ⟨_, rfl⟩
      rw [← hz] at hck
      have HZ := Lib.hid hz
      have HCP := Lib.hid hcp
      clear hall hl hz hcp
      go_wp2_with fail
      obtain ⟨q, hq⟩ : ∃ q, q = inB z 0 (n - 2) := ⟨_, rfl⟩
      have HQ := Lib.hid hq
      refine (l1In_any z 0 (n - 2) _).mono ?_
      rw [← hq]
      rintro e w1 ⟨rfl, rfl⟩
      clear hq
      rcases q with _ | _
      · go_wp2
        go_ret
        exact ⟨ret_b (lvB_false (j := k) (by rw [HH.out]; exact hlt) (okAt_no1 (by rw [← HZ.out]; intro e; have := inB_true e; rw [← HQ.out] at this; cases this))).symm, HB.out⟩
      · have hin := inB_iff.1 HQ.out.symm
        by_cases hk0 : k = 0
        · subst hk0
          go_wp2
          go_roundw
          case rel =>
            refine ⟨1, by omega, by go_num, fun j hj => ?_, HB.out⟩
            obtain rfl : j = 0 := by omega
            exact okAt_yes (by rw [← HZ.out]; exact hin) (fun e => absurd e (by omega))
          case measure => simp [intOf]; omega
        · have hcq := HCP.out (by omega)
          have hpr := okAt_in (H3.out (k - 1) (by omega))
          obtain ⟨y, hy⟩ : ∃ y, y = gi zs (k - 1) := ⟨_, rfl⟩
          rw [← hy] at hcq hpr
          have HY := Lib.hid hy
          obtain ⟨p, hp⟩ : ∃ p, p = k - 1 := ⟨_, rfl⟩
          rw [← hp] at hcq
          have hkp : (k : Int) - 1 = (p : Int) := by omega
          have hk1 : (0 : Int) < (k : Int) := by omega
          have hpm : (p : Int) < (m : Int) := by omega
          have hp0 : (0 : Int) ≤ (p : Int) := by omega
          clear hy hp
          by_cases h5 : z < y + 2
          · go_wp2
            go_ret
            exact ⟨ret_b (lvB_false (j := k) (by rw [HH.out]; exact hlt) (okAt_no2 (by omega) (by rw [← HZ.out, ← HY.out]; exact h5))).symm, HB.out⟩
          · go_wp2
            go_roundw
            case rel =>
              refine ⟨k + 1, by omega, by go_num, fun j hj => ?_, HB.out⟩
              by_cases e : j = k
              · rw [e]; exact okAt_yes (by rw [← HZ.out]; exact hin) (fun _ => by rw [← HZ.out, ← HY.out]; omega)
              · exact H3.out j (by omega)
            case measure => simp [intOf]; omega
    · obtain rfl : k = m := by omega
      have HH := Lib.hid hl
      have H3 := Lib.hid hall
      clear hall hl
      go_wp2
      go_ret
      exact ⟨ret_b (lvB_true (by rw [HH.out]; exact H3.out)).symm, HB.out⟩

def lvbB (n : Int) (zs : List Int) : Bool := inB n 2 8 && lvB n zs
/-- two truth values, and nothing that was there has turned -/
def RetBBz (r q : Bool) (w : World) (e : Ending) (w' : World) : Prop := e = .returned (.tuple #[.bool r, .bool q]) ∧ Below w.heap.size w w'
set_option maxHeartbeats 1000000 in
theorem iIsLevel_one (n : Int) (A : Option Addr) (m c : Nat) (zs : List Int) (w : World) (h : RI w A m zs) (hm : m ≤ 1048576) :
    Calls Try.prog 26 #[.int .i64 n, .slice A m c] w (RetBBz (lvbB n zs) (inB n 2 8) w) := by
  unfold lvbB
  by_cases h1 : n < 2
  · rw [inB_false (by omega)]
    go_enter Try.func26, Try.ntmps26
    go_wp2
    go_ret2
    exact ⟨rfl, Below.refl _ _⟩
  · by_cases h2 : 8 < n
    · rw [inB_false (by omega)]
      go_enter Try.func26, Try.ntmps26
      go_wp2
      go_ret2
      exact ⟨rfl, Below.refl _ _⟩
    · rw [inB_true (by omega), Bool.true_and]
      have HI := Lib.hid (isLevel_any n A m c zs w h hm (by omega) (by omega))
      go_enter Try.func26, Try.ntmps26
      go_wp2_with fail
      refine HI.out.mono ?_
      rintro e w1 ⟨rfl, hb⟩
      go_wp2
      go_ret2
      exact ⟨rfl, hb⟩
set_option maxHeartbeats 1000000 in
theorem sIsLevel_one (n : Int) (A : Option Addr) (m c : Nat) (zs : List Int) (w : World) (h : RI w A m zs) (hm : m ≤ 1048576) :
    Calls Try.prog 24 #[.int .i64 n, .slice A m c] w (RetBBz (lvbB n zs) (inB n 2 8) w) := by
  unfold lvbB
  by_cases h1 : 2 ≤ n ∧ n ≤ 8
  · have HW := Lib.hid (inB_true (n := n) (lo := 2) (hi := 8) h1)
    rw [HW.out, Bool.true_and]
    have HI := Lib.hid (lvGood_any n A m c zs w h hm (by omega) (by omega))
    go_enter Try.func24, Try.ntmps24
    go_wp2_with fail
    refine (lvWires_any n _).mono ?_
    rw [HW.out]
    rintro e w1 ⟨rfl, rfl⟩
    go_wp2_with fail
    refine HI.out.mono ?_
    rintro e w1 ⟨rfl, hb⟩
    go_wp2
    go_ret2
    exact ⟨rfl, hb⟩
  · have HW := Lib.hid (inB_false (n := n) (lo := 2) (hi := 8) h1)
    rw [HW.out]
    go_enter Try.func24, Try.ntmps24
    go_wp2_with fail
    refine (lvWires_any n _).mono ?_
    rw [HW.out]
    rintro e w1 ⟨rfl, rfl⟩
    go_wp2
    go_ret2
    exact ⟨rfl, Below.refl _ _⟩
theorem iIsLevel_any (n : Int) (A : Option Addr) (m c : Nat) (zs : List Int) (w : World) (h : RI w A m zs) (hm : m ≤ 1048576) (_hc : m ≤ c) :
    Calls Try.prog 26 #[.int .i64 n, .slice A m c] w (RetBBz (lvbB n zs) (inB n 2 8) w) := iIsLevel_one n A m c zs w h hm
theorem sIsLevel_any (n : Int) (A : Option Addr) (m c : Nat) (zs : List Int) (w : World) (h : RI w A m zs) (hm : m ≤ 1048576) (_hc : m ≤ c) :
    Calls Try.prog 24 #[.int .i64 n, .slice A m c] w (RetBBz (lvbB n zs) (inB n 2 8) w) := sIsLevel_one n A m c zs w h hm
end Go.Proofs.Ytnhhbpogjhcibaa

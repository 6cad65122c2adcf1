/- slices.Grow at a nil slice, and slices.Concat: the rungs of all parts, one after the other, in new memory. -/
import Derived.Test.YtgeeifjbfceogaaGreatDoorMgB
import Derived.Test.YtgeeifjbfceogaaGreatDoorMgC
namespace Go.Proofs.YtgeeifjbfceogaaGreatDoor
open Go Go.RowKit

theorem run_append_zeros (n : Nat) (w : World) (ty : TypeId) (hpos : 0 < n) (hn : n ≤ 1000000000) :
    ∃ G w', (Builtin.append_ #[22, 3] ty #[.slice none 0 0, .int .i64 (n : Int)]).run Tryz.prog w = .ok (.slice (some ⟨w.heap.size, 0, none⟩) n G) w' ∧ n ≤ G ∧ G ≤ maxLen ∧
      OI w' w.heap.size (some ⟨w.heap.size, 0, none⟩) 0 G [] ∧ Below w.heap.size w w' := by
  obtain ⟨i0, hi0, hz0, hz1, hz2⟩ := info_parts infoInt
  have h := Lib.run_append_grow_zeros (P := Tryz.prog) w 22 3 ty 3 i0 (.int .i64 0) .i64 .i64 Tryz.underlying22 Tryz.underlying3 hi0 hz0 none 0 0 [] (run_firstCells_none w.drew i0.size 0 0 0) n hpos (by omega) (by omega) (by omega) (by rw [hz2]; omega)
    (growslice_fits (by omega) (by rw [hz2]; omega))
  have hG := grownCap_ge w (0 + n) 0 3
  have hG2 := grownCap_le_maxLen w (0 + n) 0 3 (by unfold maxLen; omega)
  rw [Nat.zero_add] at h hG hG2
  refine ⟨_, _, h, hG, hG2, ⟨rfl, rfl, .inr ⟨w.heap.size, _, _, rfl, Nat.le_refl _, heap_alloc_new w.drew _, Nat.zero_le _, hG2, ?_, rfl⟩⟩, (Below.refl _ _).drew.alloc (Nat.le_refl _) _⟩
  simp [size_zeroCells, Value.cells]
  omega

theorem wpList_append_zeros {ops : Array Oper} {rest : List Oper} {o : Oper} {a : Act} {Q : Exit → Act → World → Prop} (w : World) (hgd : o.guard = none) (s x : Operand)
    (ho : o.op = .call { callee := .builtin .append, args := #[s, x], argTypes := #[22, 3] }) (n : Nat) (hs : a.eval s = .slice none 0 0) (hx : a.eval x = .int .i64 (n : Int)) (hpos : 0 < n) (hn : n ≤ 1000000000)
    (h : ∀ G w', n ≤ G → G ≤ maxLen → OI w' w.heap.size (some ⟨w.heap.size, 0, none⟩) 0 G [] → Below w.heap.size w w' → wpList Tryz.prog ops Q rest (a.put o.dst (.slice (some ⟨w.heap.size, 0, none⟩) n G)) w') : wpList Tryz.prog ops Q (o :: rest) a w := by
  refine wpList_plain hgd fun K hK => ?_
  obtain ⟨G, w', hrun, h1, h2, h3, h4⟩ := run_append_zeros n w o.type hpos hn
  unfold Oper.wp
  simp only [execOp, ho, resolve, invoke, builtin, Sem.run_bind, Sem.run_pure, Result.andThen_ok, List.map_toArray, List.map_cons, List.map_nil, hs, hx, hrun]
  exact hK _ _ (h G w' h1 h2 h3 h4)

set_option maxRecDepth 100000 in
set_option maxHeartbeats 4000000 in
theorem grow_any (n : Nat) (w : World) (hn : n ≤ 1000000000) : Calls Tryz.prog 98 #[.slice none 0 0, .int .i64 (n : Int)] w (FreshI w 0 []) := by
  by_cases h0 : n = 0
  · subst h0
    go_enter Tryz.func98, Tryz.ntmps98
    go_wp2
    go_ret
    exact ⟨none, 0, rfl, OI.none_ _ _, Below.refl _ _⟩
  · have hpos : 0 < n := by omega
    go_enter Tryz.func98, Tryz.ntmps98
    go_wp2_with (at_builtin; refine wpList_append_zeros _ rfl _ _ rfl n rfl rfl hpos hn ?_; intro G w1 hG1 hG2 ho hb; have HO := Lib.hid ho; have HB := Lib.hid hb; unfold maxLen at hG2; clear ho hb)
    go_ret
    exact ⟨_, _, rfl, HO.out, HB.out⟩

/-- the first j parts, one after the other -/
def cat (PZ : Nat → List Int) : Nat → List Int
  | 0 => []
  | j + 1 => cat PZ j ++ PZ j
theorem cat_le (PZ : Nat → List Int) {j k : Nat} (h : j ≤ k) : (cat PZ j).length ≤ (cat PZ k).length := by
  induction k with
  | zero => obtain rfl : j = 0 := by omega
            exact Nat.le_refl _
  | succ k ih =>
    by_cases e : j = k + 1
    · subst e; exact Nat.le_refl _
    · have := ih (by omega)
      simp only [cat, List.length_append]
      omega
/-- a slice of k slices: part j reads as PZ j -/
def Parts (w : World) (PP : Option Addr) (k : Nat) (PA : Nat → Option Addr) (PN PC : Nat → Nat) (PZ : Nat → List Int) : Prop :=
  (0 < k → ∃ b off, PP = some ⟨b, off, none⟩ ∧ b < w.heap.size ∧ ∀ j, j < k → w.cell? ⟨b, off + j, none⟩ = some (.slice (PA j) (PN j) (PC j))) ∧ ∀ j, j < k → RI w (PA j) (PN j) (PZ j)

set_option maxRecDepth 100000 in
set_option maxHeartbeats 4000000 in
theorem concat_any (PP : Option Addr) (k kc : Nat) (PA : Nat → Option Addr) (PN PC : Nat → Nat) (PZ : Nat → List Int) (w : World) (h : Parts w PP k PA PN PC PZ) (hk : k ≤ 1000000) (ht : (cat PZ k).length ≤ 1048576) :
    Calls Tryz.prog 84 #[.slice PP k kc] w (FreshI w (cat PZ k).length (cat PZ k)) := by
  go_enter Tryz.func84, Tryz.ntmps84
  go_wp2
  go_loop [3, 5, 11] (fun s3 _ i => ∃ j : Nat, j ≤ k ∧ i = .int .i64 j ∧ s3 = .int .i64 ((cat PZ j).length : Nat)) (fun _ _ i => k - (intOf i).toNat)
  case atStart => exact ⟨0, Nat.zero_le _, rfl, rfl⟩
  case round =>
    obtain ⟨j, hj, rfl, rfl⟩ := hrel
    by_cases hlt : j < k
    · obtain ⟨b, off, rfl, hbw, hc⟩ := h.1 (by omega)
      have hck := hc j hlt
      have hl1 := cat_le PZ hj
      have hl2 := cat_le PZ (show j + 1 ≤ k by omega)
      have HS : Hid ((cat PZ (j + 1)).length = (cat PZ j).length + PN j) := by show (cat PZ (j + 1)).length = (cat PZ j).length + PN j; simp only [cat, List.length_append, (h.2 j hlt).1]
      have hl3 : (cat PZ j).length + PN j ≤ 1048576 := by rw [← HS.out]; omega
      clear hc
      go_wp2
      go_round
      case rel => exact ⟨j + 1, by omega, by go_num, by rw [HS.out]; go_num⟩
      case measure => simp [intOf]; omega
    · obtain rfl : j = k := by omega
      clear hlt hj
      go_wp2_with fail
      refine (grow_any (cat PZ j).length _ (by omega)).mono ?_
      rintro e w1 ⟨A1, c1, rfl, ho, hb⟩
      have HO := Lib.hid ho
      have HB := Lib.hid hb
      clear ho hb
      go_wp2
      go_loopw [6, 8, 27] (fun v _ i wr => ∃ (m : Nat) (A2 : Option Addr) (c2 : Nat), m ≤ j ∧ i = .int .i64 m ∧ v = .slice A2 (cat PZ m).length c2 ∧ OI wr w.heap.size A2 (cat PZ m).length c2 (cat PZ m) ∧ Below w.heap.size w wr) (fun _ _ i _ => j - (intOf i).toNat)
      case atStart => exact ⟨0, A1, c1, Nat.zero_le _, rfl, rfl, HO.out, HB.out⟩
      case round =>
        obtain ⟨m, A2, c2, hm, rfl, rfl, ho2, hb2⟩ := hrel
        have HO2 := Lib.hid ho2
        have HB2 := Lib.hid hb2
        by_cases hlt : m < j
        · obtain ⟨b, off, rfl, hbw, hc⟩ := h.1 (by omega)
          have hck : wr.cell? ⟨b, off + m, none⟩ = some (.slice (PA m) (PN m) (PC m)) := (hb2.cell (p := ⟨b, off + m, none⟩) hbw).trans (hc m hlt)
          have hri : RI wr (PA m) (PN m) (PZ m) := (h.2 m hlt).below hb2 (Nat.le_refl _)
          have HRI := Lib.hid hri
          have hl1 := cat_le PZ hm
          have hl2 := cat_le PZ (show m + 1 ≤ j by omega)
          have HS : Hid ((cat PZ m).length + PN m = (cat PZ (m + 1)).length) := by show (cat PZ m).length + PN m = (cat PZ (m + 1)).length; simp only [cat, List.length_append, (h.2 m hlt).1]
          have hl3 : (cat PZ m).length + PN m ≤ 1048576 := by rw [HS.out]; omega
          clear hc ho2 hb2 hri
          go_wp2_with (at_builtin; refine wpList_append_ints _ rfl _ _ rfl w.heap.size A2 (cat PZ m).length c2 _ (PA m) (PN m) (PC m) (PZ m) rfl rfl HO2.out HRI.out (by omega) (by omega) HB2.out.size ?_; intro A3 c3 w3 ho3 hg3)
          go_roundw
          case rel =>
            refine ⟨m + 1, A3, c3, by omega, by go_num, by rw [← HS.out], by rw [← HS.out]; exact ho3, (belGrown HB2 HO2.out hg3 (Nat.le_refl _)).out⟩
          case measure => simp [intOf]; omega
        · obtain rfl : m = j := by omega
          clear ho2 hb2
          go_wp2
          go_ret
          exact ⟨A2, c2, rfl, HO2.out, HB2.out⟩
end Go.Proofs.YtgeeifjbfceogaaGreatDoor

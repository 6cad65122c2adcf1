/- The deferred closure of PutWire, and madeRoom where a rung is in the way. -/
import Derived.Test.YtmlkccihpkpjfaaMr10
import Derived.Defers
import Derived.Recover
import Derived.WalkLawsBesides
namespace Go.Proofs.Ytmlkccihpkpjfaa
open Go Go.RowKit

set_option maxRecDepth 100000 in
set_option maxHeartbeats 2000000 in
theorem pwIdle (p q : Addr) (w : World) :
    CallsD Try.prog 54 #[.pointer (some p), .pointer (some q)] .returning w fun e u' w' => e = .returned (.tuple #[]) ∧ u' = .returning ∧ Below w.heap.size w w' := by
  have hta : ∀ w, (Instr.typeAssert .nilIface 20 58 true).run Try.prog w = .ok (.tuple #[.agg #[], .bool false]) w := fun _ => by kernel_rfl
  have HB : Below w.heap.size w (w.alloc (.cells #[] 58)) := (Below.refl _ _).alloc (Nat.le_refl _) _
  refine callsD_of_wpS Try.func54 rfl fun c₀ cs hu => ?_
  apply wpS_seq
  apply wpS_region
  simp [wpOpsS, go_sem, recoverD, hu, hta, Try.ntmps54, Exit.thenS]
  apply wpS_seq
  apply wpS_region
  simp [wpOpsS, go_sem, Exit.thenS, Array.replicate]
  refine wpS_cond (t := false) (by simp [Act.eval, Array.replicate]) ?_
  simp only [Bool.false_eq_true, if_false]
  refine wpS_of_wp (wp_skip ?_)
  cases c₀
  simp_all [bodyPostS, results, Try.results54]

set_option maxRecDepth 100000 in
set_option maxHeartbeats 2000000 in
theorem pwCatch (p q : Nat) (x0 x1 x2 : Value) (older : List PanicEntry) (w : World) (hpw : p < w.heap.size) (hqw : q < w.heap.size) (hpq : p ≠ q)
    (h0 : w.cell? ⟨p, 0, none⟩ = some x0) (h1 : w.cell? ⟨p, 1, none⟩ = some x1) (h2 : w.cell? ⟨q, 0, none⟩ = some x2) (f0 : w.frozen? ⟨p, 0, none⟩ = false) (f1 : w.frozen? ⟨p, 1, none⟩ = false) (f2 : w.frozen? ⟨q, 0, none⟩ = false) :
    CallsD Try.prog 54 #[.pointer (some ⟨p, 0, none⟩), .pointer (some ⟨q, 0, none⟩)] (.panicking ({ v := .iface 58 (.agg #[]), recovered := false } :: older)) w fun e u' w' =>
      e = .returned (.tuple #[]) ∧ u' = .panicking ({ v := .iface 58 (.agg #[]), recovered := true } :: older) ∧ w' = (((w.alloc (.cells #[] 58)).setCell ⟨p, 0, none⟩ (.int .i64 0)).setCell ⟨p, 1, none⟩ (.slice none 0 0)).setCell ⟨q, 0, none⟩ (.bool false) := by
  have hta : ∀ w, (Instr.typeAssert (.iface 58 (.agg #[])) 20 58 true).run Try.prog w = .ok (.tuple #[.agg #[], .bool true]) w := fun _ => by kernel_rfl
  have HB : Below w.heap.size w (w.alloc (.cells #[] 58)) := (Below.refl _ _).alloc (Nat.le_refl _) _
  have k0 := (HB.cell (p := ⟨p, 0, none⟩) hpw).trans h0
  have k1 := (HB.cell (p := ⟨p, 1, none⟩) hpw).trans h1
  have k2 := (HB.cell (p := ⟨q, 0, none⟩) hqw).trans h2
  have g0 := (HB.frozen (p := ⟨p, 0, none⟩) hpw).trans f0
  have g1 := (HB.frozen (p := ⟨p, 1, none⟩) hpw).trans f1
  have g2 := (HB.frozen (p := ⟨q, 0, none⟩) hqw).trans f2
  refine callsD_of_wpS Try.func54 rfl fun c₀ cs hu => ?_
  apply wpS_seq
  apply wpS_region
  simp [wpOpsS, go_sem, recoverD, hu, hta, Try.ntmps54, Exit.thenS]
  apply wpS_seq
  apply wpS_region
  simp [wpOpsS, go_sem, Exit.thenS, Array.replicate]
  refine wpS_cond (t := true) (by simp [Act.eval, Array.replicate]) ?_
  simp only [if_true]
  apply wpS_region
  obtain ⟨v, hv⟩ : ∃ v, v = w.alloc (.cells #[] 58) := ⟨_, rfl⟩
  rw [← hv] at k0 k1 k2 g0 g1 g2 ⊢
  simp [wpOpsS, go_sem, k0, k1, k2, g0, g1, g2, hpq, bodyPostS, results, Try.results54]

set_option maxRecDepth 100000 in
set_option maxHeartbeats 2000000 in
theorem madeRoom_no (A : Option Addr) (n c : Nat) (zs : List Int) (a : Int) (w : World) (h : RI w A n zs) (hn : n ≤ 1048576) (hd : -1000 ≤ a ∧ a ≤ 1000) (hz : ∀ j, j < n → -1000 ≤ gi zs j ∧ gi zs j ≤ 1000) (hyes : hasM zs (a - 1) = true) :
    Calls Try.prog 55 #[.slice A n c, .int .i64 a] w (fun e w' => e = .panicked [{ v := .iface 58 (.agg #[]), recovered := false }] ∧ Below w.heap.size w w') := by
  have hl := h.1
  have hmk := run_make_row' (P := Try.prog) 22 3 (.int .i64 0) 8 Try.underlying22 infoInt rfl .i64 .i64 n (by omega) (by omega)
  have e1 : IntKind.i64.wrap (a - 1) = a - 1 := IntWalk.i64_in _ (by omega)
  have HY := Lib.hid hyes
  clear hyes
  go_enter Try.func55, Try.ntmps55
  go_wp2
  go_loopw [6, 7, 13] (fun _ _ i wr => ∃ (k : Nat) (f : Nat → Value), k ≤ n ∧ i = .int .i64 k ∧ wr.rowIs w.heap.size 3 n f ∧ Below w.heap.size w wr ∧ ∀ j, j < k → gi zs j ≠ a - 1) (fun _ _ i _ => n - (intOf i).toNat)
  case atStart =>
    exact ⟨0, _, Nat.zero_le _, rfl, World.rowIs_made w (.int .i64 0) n 3, (Below.refl _ _).alloc (Nat.le_refl _) _, fun j hj => absurd hj (by omega)⟩
  case round =>
    obtain ⟨k, f, hk, rfl, hrow, hb, hno⟩ := hrel
    have HN := Lib.hid hno
    clear hno
    by_cases hlt : k < n
    · obtain ⟨b, off, rfl, hbw, hc⟩ := h.cell hlt
      have hck : wr.cell? ⟨b, off + k, none⟩ = some (.int .i64 (gi zs k)) := (hb.cell (p := ⟨b, off + k, none⟩) hbw).trans (hc k hlt)
      have hdd := hrow.cell hlt
      have hf := hrow.frozen k
      have hzk := hz k hlt
      obtain ⟨r, hr⟩ : ∃ r, r = gi zs k := ⟨_, rfl⟩
      rw [← hr] at hck hzk
      have HR := Lib.hid hr
      have hwr : IntKind.i64.wrap (r + 1) = r + 1 := IntWalk.i64_in _ (by omega)
      have H1 := Lib.hid hrow
      have H2 := Lib.hid hb
      clear hrow hb hc hmk hr
      by_cases hra1 : r = a - 1
      · have hne : (r == a - 1) = true := beq_iff_eq.2 hra1
        clear hra1
        go_wp2
        exact ⟨rfl, rfl, H2.out⟩
      · have hne : (r == a - 1) = false := beq_eq_false_iff_ne.2 hra1
        have HNE := Lib.hid hra1
        clear hra1
        by_cases hra : r < a
        · go_wp2
          go_roundw
          case rel =>
            refine ⟨k + 1, _, by omega, by go_num, H1.out.set k _, H2.out.setCell (by simp) _, fun j hj => ?_⟩
            by_cases e : j = k
            · subst e; rw [← HR.out]; exact HNE.out
            · exact HN.out j (by omega)
          case measure => simp [intOf]; omega
        · have hra2 : a ≤ r := by omega
          clear hra
          go_wp2
          go_roundw
          case rel =>
            refine ⟨k + 1, _, by omega, by go_num, H1.out.set k _, H2.out.setCell (by simp) _, fun j hj => ?_⟩
            by_cases e : j = k
            · subst e; rw [← HR.out]; exact HNE.out
            · exact HN.out j (by omega)
          case measure => simp [intOf]; omega
    · have e := conNo (q := zs) (v := a - 1) (fun j hj => HN.out j (by omega))
      rw [HY.out] at e
      cases e
end Go.Proofs.Ytmlkccihpkpjfaa

/- Wires that carry values: channels made one by one, each with its value. -/
import Derived.Test.YtbfilmdociemmaaSo5
namespace Go.Proofs.Ytbfilmdociemmaa
open Go Go.RowKit Go.Conc

theorem infoChan : (Try.prog.info? 77).map (fun i => (i.zero, i.size, i.bytes)) = some (some (.chan none), 1, 8) := by kernel_rfl

set_option maxRecDepth 100000 in
set_option maxHeartbeats 1000000 in
theorem carriersOf_any (A : Option Addr) (n c : Nat) (vs : List Int) (w : World) (h : RI w A n vs) (hn : n ≤ 8) (h0 : 0 < n) :
    Calls Try.prog 61 #[.slice A n c] w fun e w' => ∃ g C, e = .returned (.slice (some ⟨g, 0, none⟩) n n) ∧ OCh w' w.heap.size g n C (fun j => some (gi vs j)) ∧ Below w.heap.size w w' := by
  have hmk := run_make_row' (P := Try.prog) 70 77 (.chan none) 8 Try.underlying70 infoChan rfl .i64 .i64 n (by omega) (by omega)
  have hmc := mkChan
  go_enter Try.func61, Try.ntmps61
  go_wp2
  go_loopw [11] (fun i wr => ∃ k : Nat, k ≤ n ∧ i = .int .i64 k ∧ wr.rowIs w.heap.size 77 n (fun j => if j < k then .chan (some (w.heap.size + 1 + j)) else .chan none) ∧
      (∀ j, j < k → wr.heap[w.heap.size + 1 + j]? = some (.chan 1 (bufOf (some (gi vs j))) false 1 0 false)) ∧ wr.heap.size = w.heap.size + 1 + k ∧ Below w.heap.size w wr) (fun i _ => n - (intOf i).toNat)
  case atStart =>
    refine ⟨0, Nat.zero_le _, rfl, (World.rowIs_made w (.chan none) n 77).congr (fun j _ => by simp), fun j hj => absurd hj (by omega), by simp, (Below.refl _ _).alloc (Nat.le_refl _) _⟩
  case round =>
    obtain ⟨k, hk, rfl, hrow, hch, hsz, hb⟩ := hrel
    by_cases hlt : k < n
    · obtain ⟨b, off, rfl, hbw, hc⟩ := h.cell hlt
      have hck : wr.cell? ⟨b, off + k, none⟩ = some (.int .i64 (gi vs k)) := (hb.cell (p := ⟨b, off + k, none⟩) hbw).trans (hc k hlt)
      have hd := hrow.cell hlt
      have hf := hrow.frozen k
      simp only [Nat.lt_irrefl, if_false] at hd
      have hlt0 : w.heap.size < wr.heap.size := by omega
      have hal : Below wr.heap.size wr (wr.alloc (.chan 1 #[] false 0 0 false)) := (Below.refl _ _).alloc (Nat.le_refl _) _
      have hda : (wr.alloc (.chan 1 #[] false 0 0 false)).cell? ⟨w.heap.size, k, none⟩ = some (.chan none) := (hal.cell (p := ⟨w.heap.size, k, none⟩) hlt0).trans hd
      have hfa : (wr.alloc (.chan 1 #[] false 0 0 false)).frozen? ⟨w.heap.size, k, none⟩ = false := (hal.frozen (p := ⟨w.heap.size, k, none⟩) hlt0).trans hf
      have H4 : Hid (((wr.alloc (.chan 1 #[] false 0 0 false)).setCell ⟨w.heap.size, k, none⟩ (.chan (some (w.heap.size + 1 + k)))).heap[w.heap.size + 1 + k]? = some (.chan 1 #[] false 0 0 false)) := by
        refine Lib.hid ?_
        rw [Below.heap_setCell _ _ _ _ (by simp; omega), ← hsz]
        exact heap_alloc_new wr _
      have H1 := Lib.hid hrow
      have H2 := Lib.hid hb
      have H3 := Lib.hid hch
      clear hrow hb hc hmk hch hal hd hf
      repeat' (first
        | ((with_reducible refine wp_region_to (id := 6) ?_)
           simp only [List.size_toArray, List.length_cons, List.length_nil, Nat.reduceAdd, Nat.zero_add, List.range, List.range.loop]
           (refine opsTo_oper rfl rfl (fun K_ hK_ hS_ => ?_); go_simp; (first | refine hK_ _ _ ?_ | refine hS_ _ ?_); clear hK_ hS_ K_; simp only [Act.put, List.getElem_toArray, List.getElem_cons_zero, List.getElem_cons_succ, List.setIfInBounds_toArray, List.set_cons_zero, List.set_cons_succ])
           (refine opsTo_oper rfl rfl (fun K_ hK_ hS_ => ?_); go_simp; (first | refine hK_ _ _ ?_ | refine hS_ _ ?_); clear hK_ hS_ K_; simp only [Act.put, List.getElem_toArray, List.getElem_cons_zero, List.getElem_cons_succ, List.setIfInBounds_toArray, List.set_cons_zero, List.set_cons_succ])
           (refine opsTo_oper rfl rfl (fun K_ hK_ hS_ => ?_); go_simp; (first | refine hK_ _ _ ?_ | refine hS_ _ ?_); clear hK_ hS_ K_; simp only [Act.put, List.getElem_toArray, List.getElem_cons_zero, List.getElem_cons_succ, List.setIfInBounds_toArray, List.set_cons_zero, List.set_cons_succ])
           (refine opsTo_oper rfl rfl (fun K_ hK_ hS_ => ?_); go_simp; (first | refine hK_ _ _ ?_ | refine hS_ _ ?_); clear hK_ hS_ K_; simp only [Act.put, List.getElem_toArray, List.getElem_cons_zero, List.getElem_cons_succ, List.setIfInBounds_toArray, List.set_cons_zero, List.set_cons_succ])
           (refine opsTo_oper rfl rfl (fun K_ hK_ hS_ => ?_); go_simp; (first | refine hK_ _ _ ?_ | refine hS_ _ ?_); clear hK_ hS_ K_; simp only [Act.put, List.getElem_toArray, List.getElem_cons_zero, List.getElem_cons_succ, List.setIfInBounds_toArray, List.set_cons_zero, List.set_cons_succ])
           refine opsTo_send (c := w.heap.size + 1 + k) (cap := 1) (buf := #[]) (s := 0) (r := 0) (tm := false) (v := .int .i64 (gi vs k)) (z := .tuple #[]) rfl rfl (by simp [execOp, scase, Act.eval]) H4.out (by simp) ?_
           simp only [Act.put, List.getElem_toArray, List.getElem_cons_zero, List.getElem_cons_succ, List.setIfInBounds_toArray, List.set_cons_zero, List.set_cons_succ]
           refine opsTo_end ?_)
        | go_values | go_skip | go_guarded | go_step | go_upon | go_back)
      have hr1 : (wr.alloc (.chan 1 #[] false 0 0 false)).rowIs w.heap.size 77 n (fun j => if j < k then .chan (some (w.heap.size + 1 + j)) else .chan none) := by
        obtain ⟨c0, hh, hs, hc⟩ := H1.out
        exact ⟨c0, (Below.heap_alloc _ _ _ hlt0).trans hh, hs, hc⟩
      have hr2 := hr1.set k (.chan (some (w.heap.size + 1 + k)))
      refine ⟨⟨k + 1, by omega, by go_num, ?_, ?_, ?_, ?_⟩, by simp [intOf]; omega⟩
      · obtain ⟨c0, hh, hs, hc⟩ := hr2
        refine ⟨c0, (setChan_far _ _ _ _ _ _ _ _ _ (by omega)).trans hh, hs, fun j hj => ?_⟩
        rw [hc j hj]
        by_cases e : j = k
        · simp [e]
        · by_cases e2 : j < k
          · simp [e, e2, show j < k + 1 by omega]
          · simp [e, e2, show ¬ j < k + 1 by omega]
      · intro j hj
        by_cases e : j = k
        · subst e
          rw [heap_setChan _ _ _ _ _ _ _ _ (by simp [World.setCell]; omega)]; rfl
        · rw [setChan_far _ _ _ _ _ _ _ _ _ (by omega), Below.heap_setCell _ _ _ _ (by simp; omega), Below.heap_alloc _ _ _ (by omega)]
          exact H3.out j (by omega)
      · rw [size_setChan]; simp [World.setCell]; omega
      · exact below_setChan ((H2.out.alloc (by omega) _).setCell (by simp) _) (by omega) _ _ _ _ _ _
    · obtain rfl : k = n := by omega
      go_wp2
      go_ret
      refine ⟨w.heap.size, fun j => w.heap.size + 1 + j, rfl, ⟨fun j hj => ?_, fun j hj => ⟨1, 0, hch j hj⟩, fun i j _ _ e => by omega, fun j _ => by omega, ⟨Nat.le_refl _, fun j _ => by omega⟩, by omega⟩, hb⟩
      have := hrow.cell hj
      rwa [if_pos hj] at this
end Go.Proofs.Ytbfilmdociemmaa

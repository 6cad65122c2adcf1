/- Where the program's ends are behind a rung, and with the first two exchanged. -/
import Derived.Test.YtbgkhehopldilaaCe6
namespace Go.Proofs.Ytbgkhehopldilaa
open Go Go.RowKit

theorem index6 (e : List Int) : ∀ (k : Nat), k < 6 → ∀ w : World, (Instr.index 60 (.agg #[.int .i64 (gi e 0), .int .i64 (gi e 1), .int .i64 (gi e 2), .int .i64 (gi e 3), .int .i64 (gi e 4), .int .i64 (gi e 5)]) (.int .i64 (k : Int))).run Try.prog w = .ok (.int .i64 (gi e k)) w
  | 0, _ => fun w => by kernel_rfl
  | 1, _ => fun w => by kernel_rfl
  | 2, _ => fun w => by kernel_rfl
  | 3, _ => fun w => by kernel_rfl
  | 4, _ => fun w => by kernel_rfl
  | 5, _ => fun w => by kernel_rfl
  | n + 6, h => absurd h (by omega)

theorem row_ends (w : World) (e : List Int) (t : TypeId) : (w.alloc (.cells #[.int .i64 (gi e 0), .int .i64 (gi e 1), .int .i64 (gi e 2), .int .i64 (gi e 3), .int .i64 (gi e 4), .int .i64 (gi e 5)] t)).rowIs w.heap.size t 6 (fun j => .int .i64 (gi e j)) :=
  ⟨_, heap_alloc_new w _, rfl, fun i hi => by
    match i, hi with
    | 0, _ => rfl
    | 1, _ => rfl
    | 2, _ => rfl
    | 3, _ => rfl
    | 4, _ => rfl
    | 5, _ => rfl⟩
theorem row_cells {w : World} {b : Nat} {t : TypeId} {f : Nat → Value} {e : List Int} (h : w.rowIs b t 6 f) (hf : ∀ j, j < 6 → f j = .int .i64 (gi e j)) : w.cell? ⟨b, 0, none⟩ = some (.int .i64 (gi e 0)) ∧ w.cell? ⟨b, 1, none⟩ = some (.int .i64 (gi e 1)) ∧ w.cell? ⟨b, 2, none⟩ = some (.int .i64 (gi e 2)) ∧ w.cell? ⟨b, 3, none⟩ = some (.int .i64 (gi e 3)) ∧ w.cell? ⟨b, 4, none⟩ = some (.int .i64 (gi e 4)) ∧ w.cell? ⟨b, 5, none⟩ = some (.int .i64 (gi e 5)) := by
  have key : ∀ j, j < 6 → w.cell? ⟨b, j, none⟩ = some (.int .i64 (gi e j)) := fun j hj => by rw [h.cell hj, hf j hj]
  exact ⟨key 0 (by omega), key 1 (by omega), key 2 (by omega), key 3 (by omega), key 4 (by omega), key 5 (by omega)⟩

theorem list6 {ys : List Int} (h : ys.length = 6) : I ys = [.int .i64 (gi ys 0), .int .i64 (gi ys 1), .int .i64 (gi ys 2), .int .i64 (gi ys 3), .int .i64 (gi ys 4), .int .i64 (gi ys 5)] := by
  match ys, h with
  | [a, b, c, d, e, f], _ => rfl
theorem storeEnds {ys : List Int} (h : ys.length = 6) (c : Array Value) : (List.take 0 c.toList ++ I ys).toArray = #[.int .i64 (gi ys 0), .int .i64 (gi ys 1), .int .i64 (gi ys 2), .int .i64 (gi ys 3), .int .i64 (gi ys 4), .int .i64 (gi ys 5)] := by
  rw [arr6 h, List.take_zero, List.nil_append]

theorem row_arr {w : World} {b : Nat} {t : TypeId} {f : Nat → Value} {e : List Int} (he : e.length = 6) (h : w.rowIs b t 6 f) (hf : ∀ j, j < 6 → f j = .int .i64 (gi e j)) : w.heap[b]? = some (.cells #[.int .i64 (gi e 0), .int .i64 (gi e 1), .int .i64 (gi e 2), .int .i64 (gi e 3), .int .i64 (gi e 4), .int .i64 (gi e 5)] t (0, 0)) := by
  obtain ⟨c, hh, hs, hc⟩ := h
  have : c = (I e).toArray := by
    apply Array.ext
    · simp [hs, I_length, he]
    · intro j h1 h2
      have hj : j < 6 := by omega
      have h3 := hc j hj
      rw [hf j hj] at h3
      have h4 : (I e).toArray[j]? = some (.int .i64 (gi e j)) := by simpa using I_at (zs := e) (j := j) (by omega)
      rw [Array.getElem?_eq_getElem h1] at h3
      rw [Array.getElem?_eq_getElem h2] at h4
      exact Option.some.inj (h3.trans h4.symm)
  rw [hh, this, arr6 he]

set_option maxRecDepth 100000 in
set_option maxHeartbeats 2000000 in
theorem over_any (e : List Int) (n r : Nat) (w : World) (he : OKE n e) (_hn : n ≤ 6) (hr : r ≤ 5) : Calls Try.prog 45 #[.agg #[.int .i64 (gi e 0), .int .i64 (gi e 1), .int .i64 (gi e 2), .int .i64 (gi e 3), .int .i64 (gi e 4), .int .i64 (gi e 5)], .int .i64 (r : Int)] w (EndsPost (ovE e (r : Int)) w) := by
  have HI := Lib.hid (index6 e)
  have HE := Lib.hid he
  have hel := he.1
  clear he
  go_enter Try.func45, Try.ntmps45
  go_wp2
  go_loopw [8, 5, 6] (fun i _ _ wr => ∃ k : Nat, k ≤ 6 ∧ i = .int .i64 (k : Int) ∧ wr.rowIs w.heap.size 60 6 (fun j => .int .i64 (if j < k then ovW (gi e j) (r : Int) else gi e j)) ∧ wr.rowIs (w.heap.size + 1) 60 6 (fun _ => .int .i64 0) ∧ Below w.heap.size w wr) (fun i _ _ _ => 6 - (intOf i).toNat)
  case atStart =>
    refine ⟨0, Nat.zero_le _, rfl, ?_, ?_, ((Below.refl _ _).alloc (Nat.le_refl _) _).alloc (by simp) _⟩
    · exact (rowAlloc (row_ends w e _) _).congr (fun j _ => by simp)
    · have := row_six (w.alloc (.cells #[.int .i64 (gi e 0), .int .i64 (gi e 1), .int .i64 (gi e 2), .int .i64 (gi e 3), .int .i64 (gi e 4), .int .i64 (gi e 5)] 60)) 60 (.int .i64 0)
      rw [World.size_alloc] at this
      exact this
  case round =>
    obtain ⟨k, hk, rfl, hr3, hr2, hb⟩ := hrel
    have HR3 := Lib.hid hr3
    have HR2 := Lib.hid hr2
    have HB := Lib.hid hb
    by_cases hlt : k < 6
    · have hd := hr3.cell hlt
      have hf := hr3.frozen k
      simp only [Nat.lt_irrefl, if_false] at hd
      have hki := HI.out k hlt
      have hin := HE.out.at hlt
      have hlk : k < e.length := by omega
      obtain ⟨x, hx⟩ : ∃ x, x = gi e k := ⟨_, rfl⟩
      rw [← hx] at hd hki hin
      have HX := Lib.hid hx
      clear hr3 hr2 hb hx
      by_cases h1 : x = (r : Int)
      · have HW : Hid ((r : Int) + 1 = ovW (gi e k) (r : Int)) := by show _ = _; rw [← HX.out]; unfold ovW; rw [if_pos h1, h1]
        go_wp2
        go_roundw
        case rel =>
          refine ⟨k + 1, by omega, by go_num, (HR3.out.set k _).congr (fun j hj => ?_), HR2.out.setOther (by simp) _, HB.out.setCell (by simp) _⟩
          by_cases e1 : j = k
          · subst e1; simp [← HW.out]
          · by_cases e2 : j < k
            · simp [e1, e2, show j < k + 1 by omega]
            · simp [e1, e2, show ¬ j < k + 1 by omega]
        case measure => simp [intOf]; omega
      · by_cases h2 : x = (r : Int) + 1
        · have HW : Hid ((r : Int) = ovW (gi e k) (r : Int)) := by show _ = _; rw [← HX.out]; unfold ovW; rw [if_neg h1, if_pos h2]; omega
          go_wp2
          go_roundw
          case rel =>
            refine ⟨k + 1, by omega, by go_num, (HR3.out.set k _).congr (fun j hj => ?_), HR2.out.setOther (by simp) _, HB.out.setCell (by simp) _⟩
            by_cases e1 : j = k
            · subst e1; simp [← HW.out]
            · by_cases e2 : j < k
              · simp [e1, e2, show j < k + 1 by omega]
              · simp [e1, e2, show ¬ j < k + 1 by omega]
          case measure => simp [intOf]; omega
        · have HW : Hid (gi e k = ovW (gi e k) (r : Int)) := by show _ = _; rw [← HX.out]; unfold ovW; rw [if_neg h1, if_neg h2]
          go_wp2
          go_roundw
          case rel =>
            refine ⟨k + 1, by omega, by go_num, HR3.out.congr (fun j hj => ?_), HR2.out, HB.out⟩
            by_cases e1 : j = k
            · subst e1; simp [← HW.out]
            · by_cases e2 : j < k
              · simp [e2, show j < k + 1 by omega]
              · simp [e2, show ¬ j < k + 1 by omega]
          case measure => simp [intOf]; omega
    · obtain rfl : k = 6 := by omega
      obtain ⟨E, hE⟩ : ∃ E, E = ovE e (r : Int) := ⟨_, rfl⟩
      have hEl : E.length = 6 := by rw [hE, ovE_length]; exact hel
      have hh3 := row_arr hEl hr3 (fun j hj => by simp only [hj, if_true]; rw [hE, gi_ovE _ _ (by omega)])
      obtain ⟨c2r, hh2, hs2, hc2⟩ := hr2
      have HEE := Lib.hid hE
      obtain ⟨arr, harr⟩ : ∃ arr : Array Value, arr = #[.int .i64 (gi E 0), .int .i64 (gi E 1), .int .i64 (gi E 2), .int .i64 (gi E 3), .int .i64 (gi E 4), .int .i64 (gi E 5)] := ⟨_, rfl⟩
      rw [← harr] at hh3
      have HARR := Lib.hid harr
      have hasz : Hid (arr.size = 6) := by show arr.size = 6; rw [harr]; rfl
      have haone : Hid (arr.all (·.oneCell') = true) := by show arr.all (·.oneCell') = true; rw [harr, arr6 hEl, Array.all_eq_true_iff_forall_mem]; intro x hx; exact I_one _ x (by simpa using hx)
      have hfin := setRow_heap wr (w.heap.size + 1) c2r arr 60 (0, 0) hh2
      have HF := Lib.hid hfin
      have H2 := Lib.hid hh2
      have H3 := Lib.hid hh3
      clear hb hlt hk hr3 hh2 hc2 hfin hE hh3 harr
      go_wp2_with (with_reducible refine wpList_load_row (o := ⟨some 31, _, _, _, _, _⟩) rfl 60 (.tmp 2) rfl w.heap.size rfl 60 arr (0, 0) _ H3.out Try.underlying60 rfl (by rw [hasz.out]; exact infoEnds) ?_; revert HB)
      intro HB
      refine wpList_store_row rfl 60 (.tmp 4) (.tmp 31) rfl (w.heap.size + 1) arr rfl rfl 60 c2r H2.out (by rw [hasz.out]; exact infoEnds) (by rw [hasz.out]; exact hs2) haone.out ?_
      go_wp2
      refine bodyPost_ret (results_cell_row rfl _ _ (w.heap.size + 1) 60 arr (0, 0) _ rfl HF.out Try.underlying60 rfl (by rw [hasz.out]; exact infoEnds)) rfl ⟨?_, below_setRow HB.out (Nat.le_succ _) _⟩
      rw [HARR.out, HEE.out]
end Go.Proofs.Ytbgkhehopldilaa

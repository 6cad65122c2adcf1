/- Two values taken off the wires that a rung joins. -/
import Derived.Test.YtbfilmdociemmaaSo4
namespace Go.Proofs.Ytbfilmdociemmaa
open Go Go.RowKit Go.Conc

/-- what has been taken after k rounds -/
def TakeRel (w : World) (B g n : Nat) (C : Nat → Nat) (F : Nat → Option Int) (r : Nat) (x y : Int) (k : Nat) (lv rv : Value) (wr : World) : Prop :=
  (k = 0 ∧ OCh wr B g n C F) ∨ (k = 1 ∧ lv = .int .i64 x ∧ OCh wr B g n C (fun j => if j = r then none else F j)) ∨
  (k = 1 ∧ rv = .int .i64 y ∧ OCh wr B g n C (fun j => if j = r + 1 then none else F j)) ∨
  (k = 2 ∧ lv = .int .i64 x ∧ rv = .int .i64 y ∧ OCh wr B g n C (fun j => if j = r then none else if j = r + 1 then none else F j))

set_option maxRecDepth 100000 in
set_option maxHeartbeats 1000000 in
theorem take_any (w : World) (B g n : Nat) (C : Nat → Nat) (F : Nat → Option Int) (h : OCh w B g n C F) (r : Nat) (hr : r + 1 < n) (hn : n ≤ 8) (x y : Int) (h1 : F r = some x) (h2 : F (r + 1) = some y) :
    Calls Try.prog 63 #[.slice (some ⟨g, 0, none⟩) n n, .int .i64 (r : Int)] w fun e w' =>
      e = .returned (.tuple #[.int .i64 x, .int .i64 y]) ∧ OCh w' B g n C (fun j => if j = r then none else if j = r + 1 then none else F j) ∧ ChanStep w w' n C := by
  have hr0 : r < n := by omega
  have hw1 : IntKind.i64.wrap ((r : Int) + 1) = (r : Int) + 1 := IntWalk.i64_in _ (by omega)
  have hr1 : (0 : Int) ≤ (r : Int) + 1 := by omega
  have hr2 : (r : Int) + 1 < (n : Int) := by omega
  go_enter Try.func63, Try.ntmps63
  go_wp2
  go_loopw [4, 5, 6] (fun lv rv i wr => ∃ k : Nat, i = .int .i64 k ∧ TakeRel w B g n C F r x y k lv rv wr ∧ ChanStep w wr n C) (fun _ _ i _ => 2 - (intOf i).toNat)
  case atStart => exact ⟨0, rfl, .inl ⟨rfl, h⟩, ChanStep.refl _ _ _⟩
  case round =>
    obtain ⟨k, rfl, hR, hS⟩ := hrel
    rcases hR with ⟨rfl, hO⟩ | ⟨rfl, rfl, hO⟩ | ⟨rfl, rfl, hO⟩ | ⟨rfl, rfl, rfl, hO⟩
    · obtain ⟨s1, r1, e1⟩ := hO.chan r (by omega)
      obtain ⟨s2, r2, e2⟩ := hO.chan (r + 1) hr
      rw [h1] at e1
      rw [h2] at e2
      have c1 := hO.cell r (by omega)
      have c2 := hO.cell (r + 1) hr
      have HO := Lib.hid hO
      have HS := Lib.hid hS
      clear hO hS h h1 h2
      repeat' (first
        | ((with_reducible refine wp_region_to (id := 5) ?_)
           simp only [List.size_toArray, List.length_cons, List.length_nil, Nat.reduceAdd, Nat.zero_add, List.range, List.range.loop]
           refine opsTo_sel_both (c := C r) (d := C (r + 1)) (z := .int .i64 0) (z2 := .int .i64 0) rfl rfl (by simp [go_sem, execOp, rcase, Act.eval]) e1 (by simp [bufOf]) e2 (by simp [bufOf]) ?_ ?_
           all_goals
             simp only [Act.put, List.getElem_toArray, List.getElem_cons_zero, List.getElem_cons_succ, List.setIfInBounds_toArray, List.set_cons_zero, List.set_cons_succ]
             (refine opsTo_oper rfl rfl (fun K_ hK_ hS_ => ?_); go_simp; (first | refine hK_ _ _ ?_ | refine hS_ _ ?_); clear hK_ hS_ K_; simp only [Act.put, List.getElem_toArray, List.getElem_cons_zero, List.getElem_cons_succ, List.setIfInBounds_toArray, List.set_cons_zero, List.set_cons_succ])
             (refine opsTo_oper rfl rfl (fun K_ hK_ hS_ => ?_); go_simp; (first | refine hK_ _ _ ?_ | refine hS_ _ ?_); clear hK_ hS_ K_; simp only [Act.put, List.getElem_toArray, List.getElem_cons_zero, List.getElem_cons_succ, List.setIfInBounds_toArray, List.set_cons_zero, List.set_cons_succ])
             (refine opsTo_oper rfl rfl (fun K_ hK_ hS_ => ?_); go_simp; (first | refine hK_ _ _ ?_ | refine hS_ _ ?_); clear hK_ hS_ K_; simp only [Act.put, List.getElem_toArray, List.getElem_cons_zero, List.getElem_cons_succ, List.setIfInBounds_toArray, List.set_cons_zero, List.set_cons_succ])
             refine opsTo_end ?_)
        | go_values | go_skip | go_guarded | go_step | go_upon | go_back)
      · refine ⟨⟨1, rfl, .inr (.inl ⟨rfl, rfl, ?_⟩), ?_⟩, by simp [intOf]⟩
        · exact HO.out.drew.set hr0 none s1 (r1 + 1)
        · exact HS.out.drew.set hr0 _ _ _ _ _ _
      · refine ⟨⟨1, rfl, .inr (.inr (.inl ⟨rfl, rfl, ?_⟩)), ?_⟩, by simp [intOf]⟩
        · exact HO.out.drew.set hr none s2 (r2 + 1)
        · exact HS.out.drew.set hr _ _ _ _ _ _
    · obtain ⟨s1, r1, e1⟩ := hO.chan r (by omega)
      obtain ⟨s2, r2, e2⟩ := hO.chan (r + 1) hr
      rw [if_pos rfl] at e1
      rw [if_neg (by omega), h2] at e2
      have c1 := hO.cell r (by omega)
      have c2 := hO.cell (r + 1) hr
      have HO := Lib.hid hO
      have HS := Lib.hid hS
      clear hO hS h h1 h2
      repeat' (first
        | ((with_reducible refine wp_region_to (id := 5) ?_)
           simp only [List.size_toArray, List.length_cons, List.length_nil, Nat.reduceAdd, Nat.zero_add, List.range, List.range.loop]
           refine opsTo_sel_snd (c := C r) (d := C (r + 1)) (z := .int .i64 0) (z2 := .int .i64 0) rfl rfl (by simp [go_sem, execOp, rcase, Act.eval]) e1 e2 (by simp [bufOf]) ?_
           all_goals
             simp only [Act.put, List.getElem_toArray, List.getElem_cons_zero, List.getElem_cons_succ, List.setIfInBounds_toArray, List.set_cons_zero, List.set_cons_succ]
             (refine opsTo_oper rfl rfl (fun K_ hK_ hS_ => ?_); go_simp; (first | refine hK_ _ _ ?_ | refine hS_ _ ?_); clear hK_ hS_ K_; simp only [Act.put, List.getElem_toArray, List.getElem_cons_zero, List.getElem_cons_succ, List.setIfInBounds_toArray, List.set_cons_zero, List.set_cons_succ])
             (refine opsTo_oper rfl rfl (fun K_ hK_ hS_ => ?_); go_simp; (first | refine hK_ _ _ ?_ | refine hS_ _ ?_); clear hK_ hS_ K_; simp only [Act.put, List.getElem_toArray, List.getElem_cons_zero, List.getElem_cons_succ, List.setIfInBounds_toArray, List.set_cons_zero, List.set_cons_succ])
             (refine opsTo_oper rfl rfl (fun K_ hK_ hS_ => ?_); go_simp; (first | refine hK_ _ _ ?_ | refine hS_ _ ?_); clear hK_ hS_ K_; simp only [Act.put, List.getElem_toArray, List.getElem_cons_zero, List.getElem_cons_succ, List.setIfInBounds_toArray, List.set_cons_zero, List.set_cons_succ])
             refine opsTo_end ?_)
        | go_values | go_skip | go_guarded | go_step | go_upon | go_back)
      · refine ⟨⟨2, rfl, .inr (.inr (.inr ⟨rfl, rfl, rfl, ?_⟩)), ?_⟩, by simp [intOf]⟩
        · refine (HO.out.set hr none s2 (r2 + 1)).congr (fun j _ => ?_)
          by_cases a1 : j = r + 1
          · rw [if_pos a1, if_neg (by omega), if_pos a1]
          · rw [if_neg a1, if_neg a1]
        · exact HS.out.set hr _ _ _ _ _ _
    · obtain ⟨s1, r1, e1⟩ := hO.chan r (by omega)
      obtain ⟨s2, r2, e2⟩ := hO.chan (r + 1) hr
      rw [if_neg (by omega), h1] at e1
      rw [if_pos rfl] at e2
      have c1 := hO.cell r (by omega)
      have c2 := hO.cell (r + 1) hr
      have HO := Lib.hid hO
      have HS := Lib.hid hS
      clear hO hS h h1 h2
      repeat' (first
        | ((with_reducible refine wp_region_to (id := 5) ?_)
           simp only [List.size_toArray, List.length_cons, List.length_nil, Nat.reduceAdd, Nat.zero_add, List.range, List.range.loop]
           refine opsTo_sel_fst (c := C r) (d := C (r + 1)) (z := .int .i64 0) (z2 := .int .i64 0) rfl rfl (by simp [go_sem, execOp, rcase, Act.eval]) e1 (by simp [bufOf]) e2 ?_
           all_goals
             simp only [Act.put, List.getElem_toArray, List.getElem_cons_zero, List.getElem_cons_succ, List.setIfInBounds_toArray, List.set_cons_zero, List.set_cons_succ]
             (refine opsTo_oper rfl rfl (fun K_ hK_ hS_ => ?_); go_simp; (first | refine hK_ _ _ ?_ | refine hS_ _ ?_); clear hK_ hS_ K_; simp only [Act.put, List.getElem_toArray, List.getElem_cons_zero, List.getElem_cons_succ, List.setIfInBounds_toArray, List.set_cons_zero, List.set_cons_succ])
             (refine opsTo_oper rfl rfl (fun K_ hK_ hS_ => ?_); go_simp; (first | refine hK_ _ _ ?_ | refine hS_ _ ?_); clear hK_ hS_ K_; simp only [Act.put, List.getElem_toArray, List.getElem_cons_zero, List.getElem_cons_succ, List.setIfInBounds_toArray, List.set_cons_zero, List.set_cons_succ])
             (refine opsTo_oper rfl rfl (fun K_ hK_ hS_ => ?_); go_simp; (first | refine hK_ _ _ ?_ | refine hS_ _ ?_); clear hK_ hS_ K_; simp only [Act.put, List.getElem_toArray, List.getElem_cons_zero, List.getElem_cons_succ, List.setIfInBounds_toArray, List.set_cons_zero, List.set_cons_succ])
             refine opsTo_end ?_)
        | go_values | go_skip | go_guarded | go_step | go_upon | go_back)
      · refine ⟨⟨2, rfl, .inr (.inr (.inr ⟨rfl, rfl, rfl, ?_⟩)), ?_⟩, by simp [intOf]⟩
        · exact HO.out.set hr0 none s1 (r1 + 1)
        · exact HS.out.set hr0 _ _ _ _ _ _
    · have HO := Lib.hid hO
      have HS := Lib.hid hS
      clear hO hS h h1 h2
      go_wp2
      go_ret2
      exact ⟨rfl, HO.out, HS.out⟩
end Go.Proofs.Ytbfilmdociemmaa

/- Two values in order; what lies beside the channels. -/
import Derived.Test.YtbfilmdociemmaaSo6
import Derived.Test.YtbfilmdociemmaaApL
namespace Go.Proofs.Ytbfilmdociemmaa
open Go Go.RowKit Go.Conc

theorem inOrder_no (x y : Int) (w : World) (h : ¬ y < x) : Calls Try.prog 62 #[.int .i64 x, .int .i64 y] w fun e w' => e = .returned (.tuple #[.int .i64 x, .int .i64 y, .bool false]) ∧ w' = w := by
  have hd : decide (y < x) = false := by simpa using h
  have HD := Lib.hid hd
  go_enter Try.func62, Try.ntmps62
  go_wp2
  exact bodyPost_ret (v := .tuple #[.int .i64 x, .int .i64 y, .bool false]) (by simp [results, Try.results62]) rfl ⟨rfl, rfl⟩
theorem inOrder_yes (x y : Int) (w : World) (h : y < x) : Calls Try.prog 62 #[.int .i64 x, .int .i64 y] w fun e w' => e = .returned (.tuple #[.int .i64 y, .int .i64 x, .bool true]) ∧ w' = w := by
  go_enter Try.func62, Try.ntmps62
  go_wp2
  exact bodyPost_ret (v := .tuple #[.int .i64 y, .int .i64 x, .bool true]) (by simp [results, Try.results62]) rfl ⟨rfl, rfl⟩

/-- one number appended, in a region taken operation by operation -/
theorem stepTo_append_intL {ops : Array Oper} {o : Oper} {a : Act} {K : Act → World → Prop} {Q : Exit → Act → World → Prop} {i : Nat} (w : World) (ho : ops[i]? = some o) (hgd : o.guard = none) (s x : Operand)
    (hop : o.op = .call { callee := .builtin .append, args := #[s, x], argTypes := #[22, 22] })
    (B : Nat) (A : Option Addr) (n c : Nat) (zs : List Int) (z : Int) (b : Nat) (hs : a.eval s = .slice A n c) (hx : a.eval x = .slice (some ⟨b, 0, none⟩) 1 1) (hown : OI w B A n c zs)
    (hc : w.cell? ⟨b, 0, none⟩ = some (.int .i64 z)) (hn : n ≤ 1000000000000) (hB : B ≤ w.heap.size)
    (h : ∀ A' c' w', OI w' B A' (n + 1) c' (zs ++ [z]) → w.grownBy w' (blk A) → (blk A' = blk A ∨ blk A' = some w.heap.size) → K (a.put o.dst (.slice A' (n + 1) c')) w') : StepTo Try.prog ops Q i K a w := by
  obtain ⟨i0, hi0, hz0, hz1, hz2⟩ := info_parts infoInt
  obtain ⟨g, c', w', hr, hown', hg, hat, _⟩ := run_append_lies (P := Try.prog) w 22 o.type B 3 i0 (.int .i64 0) 1 8 Try.underlying22 hi0 hz0 hz1 hz2 rfl (by decide) (.slice A n c) n (I zs) hown.2 ⟨b, 0, none⟩ 1 1 [.int .i64 z] rfl
    (by
      intro j u hu
      match j, hu with
      | 0, hu => simp at hu; subst hu; simpa [Addr.add] using hc)
    (by
      intro u hu
      simp at hu; subst hu; rfl) (by omega) (by unfold maxLen; omega) (by omega) hB _ rfl
  rw [ownBlock_eq] at hg hat
  refine stepTo_value ho (by simp [Region.wanted, hgd]) (v := .slice (some ⟨g, 0, none⟩) (n + 1) c') (w1 := w') ?_ (h (some ⟨g, 0, none⟩) c' w' ⟨by have := hown.1; simp; omega, by simpa [I] using hown'⟩ hg ?_)
  · simp only [execOp, hop, resolve, invoke, builtin, Sem.run_bind, Sem.run_pure, Result.andThen_ok, List.map_toArray, List.map_cons, List.map_nil, hs, hx, hr]
  · rcases hat with hat | hat
    · exact .inl hat.symm
    · exact .inr (by rw [hat]; rfl)

section
variable {wi wj : World} {n : Nat} {C : Nat → Nat}
theorem cell2Chan {b : Nat} {u v : Value} (h : Hid (Cell2 wi b u v)) (hs : ChanStep wi wj n C) (hne : ∀ j, j < n → b ≠ C j) : Hid (Cell2 wj b u v) := by
  have e := hs.2.2.2.2 b h.out.lt hne
  exact Lib.hid ⟨(World.cell?_of_block (w := wi) (a := ⟨b, 0, none⟩) e).trans h.out.c0, (World.cell?_of_block (w := wi) (a := ⟨b, 1, none⟩) e).trans h.out.c1, (World.frozen?_of_block (w := wi) (a := ⟨b, 0, none⟩) e).trans h.out.f0, (World.frozen?_of_block (w := wi) (a := ⟨b, 1, none⟩) e).trans h.out.f1, Nat.lt_of_lt_of_le h.out.lt hs.2.2.2.1⟩
theorem oiChan {B : Nat} {A : Option Addr} {m c : Nat} {zs : List Int} (h : Hid (OI wi B A m c zs)) (hs : ChanStep wi wj n C) (hne : ∀ j, j < n → C j < B) : Hid (OI wj B A m c zs) := by
  refine Lib.hid ⟨h.out.1, h.out.2.1, ?_⟩
  rcases h.out.2.2 with h0 | ⟨g, cap, cur, hv, hb, hh, hr⟩
  · exact .inl h0
  · refine .inr ⟨g, cap, cur, hv, hb, ?_, hr⟩
    rw [← hh]
    exact hs.2.2.2.2 g (Array.getElem?_eq_some_iff.1 hh).1 (fun j hj e => by have := hne j hj; omega)
theorem ochGrown {B g : Nat} {F : Nat → Option Int} {A : Option Addr} (h : Hid (OCh wi B g n C F)) (hg : wi.grownBy wj (blk A)) (hne : ∀ b, blk A = some b → b ≠ g ∧ ∀ j, j < n → b ≠ C j) : Hid (OCh wj B g n C F) := by
  have hgb : wj.heap[g]? = wi.heap[g]? := hg.block g h.out.lt (fun e => (hne g e.symm).1 rfl)
  refine Lib.hid ⟨fun j hj => (cell_of_heap hgb).trans (h.out.cell j hj), fun j hj => ?_, h.out.inj, h.out.ne, h.out.lo, Nat.lt_of_lt_of_le h.out.lt hg.size⟩
  obtain ⟨s, r, e⟩ := h.out.chan j hj
  exact ⟨s, r, (hg.block _ (h.out.chLt hj) (fun x => (hne _ x.symm).2 j hj rfl)).trans e⟩
theorem ochSet {B g : Nat} {F : Nat → Option Int} (h : Hid (OCh wi B g n C F)) {p : Addr} (v : Value) (hne : p.block ≠ g ∧ ∀ j, j < n → p.block ≠ C j) : Hid (OCh (wi.setCell p v) B g n C F) := by
  refine Lib.hid ⟨fun j hj => (cell_of_heap (Below.heap_setCell wi p v g (fun e => hne.1 e.symm))).trans (h.out.cell j hj), fun j hj => ?_, h.out.inj, h.out.ne, h.out.lo, by simpa [World.setCell] using h.out.lt⟩
  obtain ⟨s, r, e⟩ := h.out.chan j hj
  exact ⟨s, r, (Below.heap_setCell wi p v _ (fun x => hne.2 j hj x.symm)).trans e⟩
theorem ochStep {B g : Nat} {F : Nat → Option Int} (h : Hid (OCh wi B g n C F)) (hb : Below wi.heap.size wi wj) : Hid (OCh wj B g n C F) := Lib.hid (h.out.below hb)
end
end Go.Proofs.Ytbfilmdociemmaa

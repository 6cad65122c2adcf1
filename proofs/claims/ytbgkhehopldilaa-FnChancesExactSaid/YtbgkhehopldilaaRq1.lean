/- Slices of ratios: rows of two numbers each; how the laws compare, mark and look at them. -/
import Derived.Test.YtbgkhehopldilaaMgB
import Derived.Test.YtbgkhehopldilaaCe14
import Derived.Deep.RegionHeld3
namespace Go.Proofs.Ytbgkhehopldilaa
open Go Go.RowKit

/-- the slice of ratios at A reads as F, two numbers a ratio -/
def RQ (w : World) (A : Option Addr) (n : Nat) (F : List Int) : Prop :=
  F.length = n * 2 ∧ (0 < n → ∃ b off, A = some ⟨b, off, none⟩ ∧ b < w.heap.size ∧ ∀ j, j < n * 2 → w.cell? ⟨b, off + j, none⟩ = some (.int .i64 (gi F j)))
/-- it is a row of the call's own -/
def OQ (w : World) (B : Nat) (A : Option Addr) (n c : Nat) (F : List Int) : Prop := F.length = n * 2 ∧ w.ownsRow B 32 2 (.slice A n c) n (I F)

theorem infoRat : (Try.prog.info? 32).map (fun i => (i.zero, i.size, i.bytes)) = some (some (.agg #[.int .i64 0, .int .i64 0]), 2, 16) := by kernel_rfl
theorem info_parts' {t : TypeId} {z : Value} {s b : Nat} (h : (Try.prog.info? t).map (fun i => (i.zero, i.size, i.bytes)) = some (some z, s, b)) : ∃ i, Try.prog.info? t = some i ∧ i.zero = some z ∧ i.size = s ∧ i.bytes = b := by
  cases hq : Try.prog.info? t with
  | none => simp [hq] at h
  | some i =>
    simp only [hq, Option.map_some, Option.some.injEq, Prod.mk.injEq] at h
    exact ⟨i, rfl, h.1, h.2.1, h.2.2⟩

section
variable {w wi wj : World} {B : Nat} {A : Option Addr} {n c : Nat} {F : List Int}
theorem RQ.below (h : RQ wi A n F) (hb : Below wi.heap.size wi wj) : RQ wj A n F := ⟨h.1, fun hn => by
  obtain ⟨b, off, e, hbk, hc⟩ := h.2 hn
  exact ⟨b, off, e, Nat.lt_of_lt_of_le hbk hb.size, fun j hj => (hb.cell (p := ⟨b, off + j, none⟩) hbk).trans (hc j hj)⟩⟩
theorem RQ.grown (h : RQ wi A n F) {row : Option Nat} (hg : wi.grownBy wj row) (hne : ∀ b, blk A = some b → row ≠ some b) : RQ wj A n F := ⟨h.1, fun hn => by
  obtain ⟨b, off, rfl, hbk, hc⟩ := h.2 hn
  exact ⟨b, off, rfl, Nat.lt_of_lt_of_le hbk hg.size, fun j hj => (World.cell?_of_block (w := wi) (hg.block b hbk (fun e => hne b rfl e.symm))).trans (hc j hj)⟩⟩
theorem OQ.form (h : OQ w B A n c F) : (A = none ∧ c = 0 ∧ n = 0) ∨ ∃ g, A = some ⟨g, 0, none⟩ ∧ B ≤ g ∧ g < w.heap.size := by
  rcases h.2.2 with ⟨hv, hn⟩ | ⟨g, cap, cur, hv, hb, hh, h1, h2, h3, h4⟩
  · injection hv with e1 e2 e3
    exact .inl ⟨e1, e3, hn⟩
  · injection hv with e1 e2 e3
    subst e1 e3
    exact .inr ⟨g, rfl, hb, (Array.getElem?_eq_some_iff.1 hh).1⟩
theorem OQ.cells {g : Nat} (h : OQ w B (some ⟨g, 0, none⟩) n c F) {j : Nat} (hj : j < n * 2) : w.cell? ⟨g, j, none⟩ = some (.int .i64 (gi F j)) := by
  rw [h.2.cellAt j (by omega), I_at (by rw [h.1]; exact hj)]
theorem OQ.rq (h : OQ w B A n c F) : RQ w A n F := ⟨h.1, fun hn => by
  rcases h.form with ⟨_, _, h0⟩ | ⟨g, rfl, _, hg⟩
  · omega
  · exact ⟨g, 0, rfl, hg, fun j hj => by rw [Nat.zero_add]; exact h.cells hj⟩⟩
theorem OQ.blk (h : OQ w B A n c F) : ∀ b, blk A = some b → B ≤ b ∧ b < w.heap.size := by
  intro b hb
  rcases h.form with ⟨rfl, _, _⟩ | ⟨g, rfl, h1, h2⟩
  · simp [Go.Proofs.Ytbgkhehopldilaa.blk] at hb
  · simp [Go.Proofs.Ytbgkhehopldilaa.blk] at hb; omega
theorem OQ.below (h : OQ wi B A n c F) (hb : Below wi.heap.size wi wj) : OQ wj B A n c F :=
  ⟨h.1, h.2.kept ⟨hb.os, hb.tape, hb.output, hb.size, fun k hk _ => hb.block k hk⟩ (row := none) (by
    cases A with
    | none => exact .inl rfl
    | some a => exact .inr (by simp [Value.ownBlock]))⟩
theorem OQ.alloc (h : OQ w B A n c F) (o : Obj) : OQ (w.alloc o) B A n c F := h.below ((Below.refl _ _).alloc (Nat.le_refl _) o)
theorem OQ.mono {B' : Nat} (h : OQ w B A n c F) (hB : B' ≤ B) : OQ w B' A n c F := ⟨h.1, h.2.1, by
  rcases h.2.2 with h0 | ⟨g, cap, cur, hv, hb, hr⟩
  · exact .inl h0
  · exact .inr ⟨g, cap, cur, hv, by omega, hr⟩⟩
theorem OQ.stored {g : Nat} (h : OQ w B (some ⟨g, 0, none⟩) n c F) (j : Nat) (v : Int) : OQ (w.setCell ⟨g, j, none⟩ (.int .i64 v)) B (some ⟨g, 0, none⟩) n c (F.set j v) := by
  refine ⟨by rw [List.length_set]; exact h.1, ?_⟩
  have := (h.2.stored j (.int .i64 v)).1
  unfold I at this ⊢
  rw [List.map_set]
  exact this
theorem OQ.none_ (w : World) (B : Nat) : OQ w B none 0 0 [] := ⟨rfl, World.ownsRow_nil _ _ _ _⟩
theorem OQ.of_own {v : Value} {xs : List Value} (h : w.ownsRow B 32 2 v n xs) (hx : xs = I F) : ∃ A c, v = .slice A n c ∧ OQ w B A n c F := by
  subst hx
  have hl : F.length = n * 2 := by have := h.1; rwa [I_length] at this
  rcases h.2 with ⟨hv, hn⟩ | ⟨g, cap, cur, hv, hb, hr⟩
  · exact ⟨none, 0, by rw [hv, hn], hl, by rw [hn] at h ⊢; rw [hv] at h; exact h⟩
  · exact ⟨some ⟨g, 0, none⟩, cap, hv, hl, by rw [hv] at h; exact h⟩
end
theorem made_rat (n : Nat) : (madeCells (Value.agg #[.int .i64 0, .int .i64 0]).cells (n * 2)).toList = I (List.replicate (n * 2) 0) := by
  apply List.ext_getElem?
  intro j
  by_cases hj : j < n * 2
  · have e1 : (madeCells (Value.agg #[.int .i64 0, .int .i64 0]).cells (n * 2)).toList[j]? = some ((#[Value.int .i64 0, Value.int .i64 0] : Array Value)[j % 2]!) := by
      simp [madeCells, Value.cells, hj]
    rw [e1, I_at (by simpa using hj)]
    rcases Nat.mod_two_eq_zero_or_one j with h | h
    · rw [h]; simp [gi, List.getD, hj]
    · rw [h]; simp [gi, List.getD, hj]
  · rw [List.getElem?_eq_none (by simp [madeCells]; omega), List.getElem?_eq_none (by simp [I]; omega)]

set_option maxRecDepth 100000 in
theorem wpList_append_ratio {ops : Array Oper} {rest : List Oper} {o : Oper} {a : Act} {Q : Exit → Act → World → Prop} (w : World) (hgd : o.guard = none) (s x : Operand)
    (ho : o.op = .call { callee := .builtin .append, args := #[s, x], argTypes := #[26, 26] })
    (B : Nat) (A : Option Addr) (n c : Nat) (F : List Int) (g m : Nat) (p q : Int) (hs : a.eval s = .slice A n c) (hx : a.eval x = .slice (some ⟨g, 0, none⟩) 1 m) (hown : OQ w B A n c F)
    (h0 : w.cell? ⟨g, 0, none⟩ = some (.int .i64 p)) (h1 : w.cell? ⟨g, 1, none⟩ = some (.int .i64 q)) (hn : n ≤ 1000000) (hB : B ≤ w.heap.size)
    (h : ∀ A' c' w', OQ w' B A' (n + 1) c' (F ++ [p, q]) → w.grownBy w' (blk A) → wpList Try.prog ops Q rest (a.put o.dst (.slice A' (n + 1) c')) w') : wpList Try.prog ops Q (o :: rest) a w := by
  refine wpList_plain hgd fun K hK => ?_
  obtain ⟨i0, hi0, hz0, hz1, hz2⟩ := info_parts' infoRat
  have hcells : ∀ j u, (I [p, q])[j]? = some u → w.cell? ((⟨g, 0, none⟩ : Addr).add j) = some u := by
    intro j u hu
    match j, hu with
    | 0, hu => simp [I] at hu; subst hu; simpa [Addr.add] using h0
    | 1, hu => simp [I] at hu; subst hu; simpa [Addr.add] using h1
    | j + 2, hu => simp [I] at hu
  obtain ⟨v', w', hrun, h2, h3, _⟩ := run_append_own (P := Try.prog) w B 26 o.type 32 i0 (.agg #[.int .i64 0, .int .i64 0]) 2 16 Try.underlying26 hi0 hz0 hz1 hz2 rfl (by decide) _ n (I F) hown.2 ⟨g, 0, none⟩ 1 m (I [p, q]) (by simp [I]) hcells (I_one [p, q]) (by unfold maxLen; omega) (by omega) hB
  obtain ⟨A', c', rfl, ho'⟩ := OQ.of_own (F := F ++ [p, q]) h2 (by simp [I])
  unfold Oper.wp
  simp only [execOp, ho, resolve, invoke, builtin, Sem.run_bind, Sem.run_pure, Result.andThen_ok, List.map_toArray, List.map_cons, List.map_nil, hs, hx, hrun]
  exact hK _ _ (h A' c' w' ho' (by rwa [ownBlock_eq] at h3))

def MarkedQ (w : World) (B : Nat) (A : Option Addr) (n c : Nat) (k : Int) (e : Ending) (w' : World) : Prop :=
  e = .returned (.int .i64 (k + ((n * 2 : Nat) : Int))) ∧ OQ w' B A n c (marks k (n * 2)) ∧ w.grownBy w' (blk A)
end Go.Proofs.Ytbgkhehopldilaa

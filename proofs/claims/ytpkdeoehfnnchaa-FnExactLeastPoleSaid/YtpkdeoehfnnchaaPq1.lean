/- Slices of places: rows of two numbers each. -/
import Derived.Test.YtpkdeoehfnnchaaMgB
import Derived.Test.YtpkdeoehfnnchaaPl1
import Derived.Deep.RegionHeld3
namespace Go.Proofs.Ytpkdeoehfnnchaa
open Go Go.RowKit

/-- the slice of places at A reads as F, two numbers a ratio -/
def RPq (w : World) (A : Option Addr) (n : Nat) (F : List Int) : Prop :=
  F.length = n * 2 ∧ (0 < n → ∃ b off, A = some ⟨b, off, none⟩ ∧ b < w.heap.size ∧ ∀ j, j < n * 2 → w.cell? ⟨b, off + j, none⟩ = some (.int .i64 (gi F j)))
/-- it is a row of the call's own -/
def OPq (w : World) (B : Nat) (A : Option Addr) (n c : Nat) (F : List Int) : Prop := F.length = n * 2 ∧ w.ownsRow B 53 2 (.slice A n c) n (I F)

theorem infoPlace : (Try.prog.info? 53).map (fun i => (i.zero, i.size, i.bytes)) = some (some (.agg #[.int .i64 0, .int .i64 0]), 2, 16) := by kernel_rfl
theorem info_partsP {t : TypeId} {z : Value} {s b : Nat} (h : (Try.prog.info? t).map (fun i => (i.zero, i.size, i.bytes)) = some (some z, s, b)) : ∃ i, Try.prog.info? t = some i ∧ i.zero = some z ∧ i.size = s ∧ i.bytes = b := by
  cases hq : Try.prog.info? t with
  | none => simp [hq] at h
  | some i =>
    simp only [hq, Option.map_some, Option.some.injEq, Prod.mk.injEq] at h
    exact ⟨i, rfl, h.1, h.2.1, h.2.2⟩

section
variable {w wi wj : World} {B : Nat} {A : Option Addr} {n c : Nat} {F : List Int}
theorem RPq.below (h : RPq wi A n F) (hb : Below wi.heap.size wi wj) : RPq wj A n F := ⟨h.1, fun hn => by
  obtain ⟨b, off, e, hbk, hc⟩ := h.2 hn
  exact ⟨b, off, e, Nat.lt_of_lt_of_le hbk hb.size, fun j hj => (hb.cell (p := ⟨b, off + j, none⟩) hbk).trans (hc j hj)⟩⟩
theorem RPq.grown (h : RPq wi A n F) {row : Option Nat} (hg : wi.grownBy wj row) (hne : ∀ b, blk A = some b → row ≠ some b) : RPq wj A n F := ⟨h.1, fun hn => by
  obtain ⟨b, off, rfl, hbk, hc⟩ := h.2 hn
  exact ⟨b, off, rfl, Nat.lt_of_lt_of_le hbk hg.size, fun j hj => (World.cell?_of_block (w := wi) (hg.block b hbk (fun e => hne b rfl e.symm))).trans (hc j hj)⟩⟩
theorem OPq.form (h : OPq w B A n c F) : (A = none ∧ c = 0 ∧ n = 0) ∨ ∃ g, A = some ⟨g, 0, none⟩ ∧ B ≤ g ∧ g < w.heap.size := by
  rcases h.2.2 with ⟨hv, hn⟩ | ⟨g, cap, cur, hv, hb, hh, h1, h2, h3, h4⟩
  · injection hv with e1 e2 e3
    exact .inl ⟨e1, e3, hn⟩
  · injection hv with e1 e2 e3
    subst e1 e3
    exact .inr ⟨g, rfl, hb, (Array.getElem?_eq_some_iff.1 hh).1⟩
theorem OPq.cells {g : Nat} (h : OPq w B (some ⟨g, 0, none⟩) n c F) {j : Nat} (hj : j < n * 2) : w.cell? ⟨g, j, none⟩ = some (.int .i64 (gi F j)) := by
  rw [h.2.cellAt j (by omega), I_at (by rw [h.1]; exact hj)]
theorem OPq.rq (h : OPq w B A n c F) : RPq w A n F := ⟨h.1, fun hn => by
  rcases h.form with ⟨_, _, h0⟩ | ⟨g, rfl, _, hg⟩
  · omega
  · exact ⟨g, 0, rfl, hg, fun j hj => by rw [Nat.zero_add]; exact h.cells hj⟩⟩
theorem OPq.blk (h : OPq w B A n c F) : ∀ b, blk A = some b → B ≤ b ∧ b < w.heap.size := by
  intro b hb
  rcases h.form with ⟨rfl, _, _⟩ | ⟨g, rfl, h1, h2⟩
  · simp [Go.Proofs.Ytpkdeoehfnnchaa.blk] at hb
  · simp [Go.Proofs.Ytpkdeoehfnnchaa.blk] at hb; omega
theorem OPq.below (h : OPq wi B A n c F) (hb : Below wi.heap.size wi wj) : OPq wj B A n c F :=
  ⟨h.1, h.2.kept ⟨hb.os, hb.tape, hb.output, hb.size, fun k hk _ => hb.block k hk⟩ (row := none) (by
    cases A with
    | none => exact .inl rfl
    | some a => exact .inr (by simp [Value.ownBlock]))⟩
theorem OPq.alloc (h : OPq w B A n c F) (o : Obj) : OPq (w.alloc o) B A n c F := h.below ((Below.refl _ _).alloc (Nat.le_refl _) o)
theorem OPq.mono {B' : Nat} (h : OPq w B A n c F) (hB : B' ≤ B) : OPq w B' A n c F := ⟨h.1, h.2.1, by
  rcases h.2.2 with h0 | ⟨g, cap, cur, hv, hb, hr⟩
  · exact .inl h0
  · exact .inr ⟨g, cap, cur, hv, by omega, hr⟩⟩
theorem OPq.stored {g : Nat} (h : OPq w B (some ⟨g, 0, none⟩) n c F) (j : Nat) (v : Int) : OPq (w.setCell ⟨g, j, none⟩ (.int .i64 v)) B (some ⟨g, 0, none⟩) n c (F.set j v) := by
  refine ⟨by rw [List.length_set]; exact h.1, ?_⟩
  have := (h.2.stored j (.int .i64 v)).1
  unfold I at this ⊢
  rw [List.map_set]
  exact this
theorem OPq.none_ (w : World) (B : Nat) : OPq w B none 0 0 [] := ⟨rfl, World.ownsRow_nil _ _ _ _⟩
theorem OPq.of_own {v : Value} {xs : List Value} (h : w.ownsRow B 53 2 v n xs) (hx : xs = I F) : ∃ A c, v = .slice A n c ∧ OPq w B A n c F := by
  subst hx
  have hl : F.length = n * 2 := by have := h.1; rwa [I_length] at this
  rcases h.2 with ⟨hv, hn⟩ | ⟨g, cap, cur, hv, hb, hr⟩
  · exact ⟨none, 0, by rw [hv, hn], hl, by rw [hn] at h ⊢; rw [hv] at h; exact h⟩
  · exact ⟨some ⟨g, 0, none⟩, cap, hv, hl, by rw [hv] at h; exact h⟩
end
theorem OPq.lit (w : World) (B : Nat) (x y : Int) (hB : B ≤ w.heap.size) : OPq (w.alloc (.cells #[.int .i64 x, .int .i64 y] 53)) B (some ⟨w.heap.size, 0, none⟩) 1 1 [x, y] :=
  ⟨rfl, World.ownsRow_lit w _ 1 hB (by decide) rfl⟩
end Go.Proofs.Ytpkdeoehfnnchaa

/- Words for slices of slices of numbers: a row of the call's own whose parts are rows of its own, how both are read, and how they are kept. -/
import Derived.Test.YtcomgoapekkleaaStP
namespace Go.Proofs.Ytcomgoapekkleaa
open Go Go.RowKit

abbrev Sl := Option Addr × Nat × Nat
def sl (s : Sl) : Value := .slice s.1 s.2.1 s.2.2
/-- part j -/
def gz (zss : List (List Int)) (j : Nat) : List Int := zss.getD j []
theorem gz_at {zss : List (List Int)} {j : Nat} (h : j < zss.length) : zss[j]? = some (gz zss j) := by simp [gz, List.getD, h]
/-- how many numbers the first j parts have -/
def tot (zss : List (List Int)) : Nat → Nat
  | 0 => 0
  | j + 1 => tot zss j + (gz zss j).length

structure OII (w : World) (B M : Nat) (A : Option Addr) (n c : Nat) (zss : List (List Int)) (S : List Sl) : Prop where
  own : w.ownsRow B 22 1 (.slice A n c) n (S.map sl)
  lS : S.length = n
  lz : zss.length = n
  inn : ∀ (j : Nat) (s : Sl), S[j]? = some s → OI w B s.1 s.2.1 s.2.2 (gz zss j)
  dis : ∀ (i j : Nat) (s t : Sl), i < j → S[i]? = some s → S[j]? = some t → ∀ b, blk s.1 = some b → blk t.1 ≠ some b
  lt : ∀ (j : Nat) (s : Sl), S[j]? = some s → ∀ b, blk s.1 = some b → b < M
  le : M ≤ w.heap.size

/-- the slice of slices reads as zss, all of it below block K -/
def RBB (w : World) (K : Nat) (A : Option Addr) (n : Nat) (zss : List (List Int)) : Prop :=
  zss.length = n ∧ K ≤ w.heap.size ∧ (0 < n → ∃ b off, A = some ⟨b, off, none⟩ ∧ b < K ∧ ∀ j, j < n → ∃ (a : Option Addr) (m d : Nat), w.cell? ⟨b, off + j, none⟩ = some (.slice a m d) ∧ RB w K a m (gz zss j))

section
variable {w wi wj : World} {B B' M K : Nat} {A : Option Addr} {n c : Nat} {zss : List (List Int)} {S : List Sl}
theorem RBB.step (h : RBB wi K A n zss) (hb : Below K wi wj) : RBB wj K A n zss := ⟨h.1, Nat.le_trans h.2.1 hb.size, fun hn => by
  obtain ⟨b, off, e, hbk, hc⟩ := h.2.2 hn
  refine ⟨b, off, e, hbk, fun j hj => ?_⟩
  obtain ⟨a, m, d, h1, h2⟩ := hc j hj
  exact ⟨a, m, d, (hb.cell (p := ⟨b, off + j, none⟩) hbk).trans h1, h2.step hb⟩⟩

theorem OII.form (h : OII w B M A n c zss S) : (A = none ∧ c = 0 ∧ n = 0) ∨ ∃ g cur, A = some ⟨g, 0, none⟩ ∧ B ≤ g ∧ g < w.heap.size ∧ w.heap[g]? = some (.cells cur 22 (0, 0)) ∧ n ≤ c ∧ c ≤ maxLen ∧ cur.size = c ∧ cur.toList.take n = S.map sl := by
  rcases h.own.2 with ⟨hv, hn⟩ | ⟨g, cap, cur, hv, hb, hh, h1, h2, h3, h4⟩
  · injection hv with e1 e2 e3
    exact .inl ⟨e1, e3, hn⟩
  · injection hv with e1 e2 e3
    subst e1 e3
    exact .inr ⟨g, cur, rfl, hb, (Array.getElem?_eq_some_iff.1 hh).1, hh, h1, h2, by simpa using h3, by simpa using h4⟩

theorem OII.rb (h : OII w B M A n c zss S) : RBB w w.heap.size A n zss := by
  refine ⟨h.lz, Nat.le_refl _, fun hn => ?_⟩
  rcases h.form with ⟨_, _, h0⟩ | ⟨g, cur, rfl, _, hg, hh, h1, _, h3, h4⟩
  · omega
  · refine ⟨g, 0, rfl, hg, fun j hj => ?_⟩
    obtain ⟨s, hS⟩ : ∃ s, S[j]? = some s := ⟨_, List.getElem?_eq_getElem (by rw [h.lS]; exact hj)⟩
    refine ⟨s.1, s.2.1, s.2.2, ?_, RB.of_ri (h.inn j _ hS).ri⟩
    rw [Nat.zero_add, h.own.cellAt j (by omega)]
    simp [hS, sl]

theorem OII.mono (h : OII w B M A n c zss S) (hB : B' ≤ B) : OII w B' M A n c zss S :=
  ⟨⟨h.own.1, by
      rcases h.own.2 with h0 | ⟨g, cap, cur, hv, hb, hr⟩
      · exact .inl h0
      · exact .inr ⟨g, cap, cur, hv, by omega, hr⟩⟩, h.lS, h.lz, fun j s hs => (h.inn j s hs).mono hB, h.dis, h.lt, h.le⟩

theorem OII.none_ (w : World) (B : Nat) : OII w B w.heap.size none 0 0 [] [] :=
  ⟨World.ownsRow_nil _ _ _ _, rfl, rfl, fun j s h => by simp at h, fun i j s t _ h => by simp at h, fun j s h => by simp at h, Nat.le_refl _⟩

/-- a part lies in another block than the row of parts -/
theorem OII.apart (h : OII w B M A n c zss S) {j : Nat} {s : Sl} (hs : S[j]? = some s) : ∀ b, blk s.1 = some b → blk A ≠ some b := by
  intro b hb e
  rcases (h.inn j s hs).form with ⟨e1, _, _⟩ | ⟨g, cur, e1, _, _, hh, _⟩
  · rw [e1] at hb; simp [blk] at hb
  · rcases h.form with ⟨e2, _, _⟩ | ⟨g2, cur2, e2, _, _, hh2, _⟩
    · rw [e2] at e; simp [blk] at e
    · rw [e1] at hb
      rw [e2] at e
      simp [blk] at hb e
      subst hb
      rw [e, hh] at hh2
      injection hh2 with h5
      injection h5 with _ h6 _
      exact absurd h6 (by decide)

/-- all of it stays under calls that turn nothing below the heap's size -/
theorem OII.below (h : OII wi B M A n c zss S) (hb : Below wi.heap.size wi wj) : OII wj B M A n c zss S :=
  ⟨h.own.kept ⟨hb.os, hb.tape, hb.output, hb.size, fun k hk _ => hb.block k hk⟩ (row := none) (by
    cases A with
    | none => exact .inl rfl
    | some a => exact .inr (by simp [Value.ownBlock])), h.lS, h.lz, fun j s hs => (h.inn j s hs).below hb, h.dis, h.lt, Nat.le_trans h.le hb.size⟩
/-- .. and where a row is written whose block lies below B -/
theorem OII.kept (h : OII wi B M A n c zss S) {A' : Option Addr} (hg : wi.grownBy wj (blk A')) (hlt : ∀ b, blk A' = some b → b < B) : OII wj B M A n c zss S :=
  ⟨h.own.kept hg (by
    rcases h.form with ⟨rfl, rfl, rfl⟩ | ⟨g, cur, rfl, hB, _⟩
    · exact .inl rfl
    · exact .inr (by
        simp only [Value.ownBlock]
        intro e
        have := hlt g e.symm
        omega)), h.lS, h.lz, fun j s hs => (h.inn j s hs).kept hg (fun b hb e => by have h1 := ((h.inn j s hs).blk b hb).1; have h2 := hlt b e; omega), h.dis, h.lt, Nat.le_trans h.le hg.size⟩
/-- one part is written -/
theorem OII.upd (h : OII wi B M A n c zss S) {i : Nat} {s : Sl} (hs : S[i]? = some s) {zs : List Int} (ho : OI wj B s.1 s.2.1 s.2.2 zs) (hg : wi.grownBy wj (blk s.1)) : OII wj B M A n c (zss.set i zs) S := by
  have hi : i < n := by
    rw [← h.lS]
    exact (List.getElem?_eq_some_iff.1 hs).1
  refine ⟨h.own.kept hg ?_, h.lS, by rw [List.length_set]; exact h.lz, fun j t ht => ?_, h.dis, h.lt, Nat.le_trans h.le hg.size⟩
  · rcases h.form with ⟨rfl, rfl, rfl⟩ | ⟨g, cur, rfl, hB, _⟩
    · exact .inl rfl
    · refine .inr ?_
      simp only [Value.ownBlock]
      intro e
      exact h.apart hs g e.symm rfl
  · by_cases e : i = j
    · subst e
      rw [hs] at ht
      injection ht with ht
      subst ht
      have : gz (zss.set i zs) i = zs := by simp [gz, List.getD, h.lz, hi]
      rw [this]; exact ho
    · have : gz (zss.set i zs) j = gz zss j := by simp [gz, List.getD, e]
      rw [this]
      refine (h.inn j t ht).kept hg (fun b hb e2 => ?_)
      rcases Nat.lt_or_gt_of_ne e with hlt | hgt
      · exact h.dis i j s t hlt hs ht b e2 hb
      · exact h.dis j i t s hgt ht hs b hb e2
end
end Go.Proofs.Ytcomgoapekkleaa

/- Words for slices of ladders: rows of a number and a row of numbers each. -/
import Derived.Test.YtgeeifjbfceogaaGreatDoorMgF
namespace Go.Proofs.YtgeeifjbfceogaaGreatDoor
open Go Go.RowKit

/-- the cells of a row of ladders -/
def lcs : List Int → List Sl → List Value
  | W :: Ws, s :: S => .int .i64 W :: sl s :: lcs Ws S
  | _, _ => []
theorem lcs_length : ∀ {Ws : List Int} {S : List Sl}, Ws.length = S.length → (lcs Ws S).length = Ws.length * 2
  | [], [], _ => rfl
  | [], _ :: _, h => by simp at h
  | _ :: _, [], h => by simp at h
  | _ :: Ws, _ :: S, h => by
    simp only [List.length_cons] at h
    simp only [lcs, List.length_cons]
    rw [lcs_length (Ws := Ws) (S := S) (by omega)]
    omega
theorem lcs_even : ∀ {Ws : List Int} {S : List Sl} (j : Nat), Ws.length = S.length → j < Ws.length → (lcs Ws S)[j * 2]? = some (.int .i64 (gi Ws j))
  | [], _, j, _, h => by simp at h
  | _ :: _, [], _, h, _ => by simp at h
  | W :: Ws, s :: S, 0, _, _ => by simp [lcs, gi, List.getD]
  | W :: Ws, s :: S, j + 1, h, hj => by
    simp only [List.length_cons] at h hj
    have := lcs_even (Ws := Ws) (S := S) j (by omega) (by omega)
    rw [show (j + 1) * 2 = j * 2 + 1 + 1 by omega]
    simp only [lcs, List.getElem?_cons_succ]
    rw [this]
    simp [gi, List.getD]
theorem lcs_odd : ∀ {Ws : List Int} {S : List Sl} (j : Nat) (s : Sl), Ws.length = S.length → S[j]? = some s → (lcs Ws S)[j * 2 + 1]? = some (sl s)
  | _, [], j, s, _, h => by simp at h
  | [], _ :: _, _, _, h, _ => by simp at h
  | W :: Ws, t :: S, 0, s, _, h => by simp at h; subst h; simp [lcs]
  | W :: Ws, t :: S, j + 1, s, h, hj => by
    simp only [List.length_cons] at h
    simp only [List.getElem?_cons_succ] at hj
    have := lcs_odd (Ws := Ws) (S := S) j s (by omega) hj
    rw [show (j + 1) * 2 + 1 = j * 2 + 1 + 1 + 1 by omega]
    simp only [lcs, List.getElem?_cons_succ]
    exact this
theorem lcs_snoc (W : Int) (s : Sl) : ∀ {Ws : List Int} {S : List Sl}, Ws.length = S.length → lcs (Ws ++ [W]) (S ++ [s]) = lcs Ws S ++ [.int .i64 W, sl s]
  | [], [], _ => rfl
  | [], _ :: _, h => by simp at h
  | _ :: _, [], h => by simp at h
  | V :: Ws, t :: S, h => by
    simp only [List.length_cons] at h
    simp only [List.cons_append, lcs]
    rw [lcs_snoc W s (Ws := Ws) (S := S) (by omega)]
theorem lcs_set (v : Int) : ∀ {Ws : List Int} {S : List Sl} (j : Nat), (lcs Ws S).set (j * 2) (.int .i64 v) = lcs (Ws.set j v) S
  | [], S, j => by simp [lcs]
  | W :: Ws, [], j => by cases j <;> simp [lcs]
  | W :: Ws, s :: S, 0 => by simp [lcs]
  | W :: Ws, s :: S, j + 1 => by
    rw [show (j + 1) * 2 = j * 2 + 1 + 1 by omega]
    simp only [lcs, List.set_cons_succ]
    rw [lcs_set v (Ws := Ws) (S := S) j]

structure OLL (w : World) (B M : Nat) (A : Option Addr) (n c : Nat) (Ws : List Int) (zss : List (List Int)) (S : List Sl) : Prop where
  own : w.ownsRow B 44 2 (.slice A n c) n (lcs Ws S)
  lW : Ws.length = n
  lS : S.length = n
  lz : zss.length = n
  inn : ∀ (j : Nat) (s : Sl), S[j]? = some s → OI w B s.1 s.2.1 s.2.2 (gz zss j)
  dis : ∀ (i j : Nat) (s t : Sl), i < j → S[i]? = some s → S[j]? = some t → ∀ b, blk s.1 = some b → blk t.1 ≠ some b
  lt : ∀ (j : Nat) (s : Sl), S[j]? = some s → ∀ b, blk s.1 = some b → b < M
  le : M ≤ w.heap.size

/-- the slice of ladders reads as Ws and zss, all of it below block K -/
def RLL (w : World) (K : Nat) (A : Option Addr) (n : Nat) (Ws : List Int) (zss : List (List Int)) : Prop :=
  zss.length = n ∧ K ≤ w.heap.size ∧ (0 < n → ∃ b off, A = some ⟨b, off, none⟩ ∧ b < K ∧ ∀ j, j < n → w.cell? ⟨b, off + j * 2, none⟩ = some (.int .i64 (gi Ws j)) ∧ ∃ (a : Option Addr) (m d : Nat), w.cell? ⟨b, off + j * 2 + 1, none⟩ = some (.slice a m d) ∧ RB w K a m (gz zss j))

section
variable {w wi wj : World} {B B' M K : Nat} {A : Option Addr} {n c : Nat} {Ws : List Int} {zss : List (List Int)} {S : List Sl}
theorem RLL.step (h : RLL wi K A n Ws zss) (hb : Below K wi wj) : RLL wj K A n Ws zss := ⟨h.1, Nat.le_trans h.2.1 hb.size, fun hn => by
  obtain ⟨b, off, e, hbk, hc⟩ := h.2.2 hn
  refine ⟨b, off, e, hbk, fun j hj => ?_⟩
  obtain ⟨h0, a, m, d, h1, h2⟩ := hc j hj
  exact ⟨(hb.cell (p := ⟨b, off + j * 2, none⟩) hbk).trans h0, a, m, d, (hb.cell (p := ⟨b, off + j * 2 + 1, none⟩) hbk).trans h1, h2.step hb⟩⟩

theorem OLL.form (h : OLL w B M A n c Ws zss S) : (A = none ∧ c = 0 ∧ n = 0) ∨ ∃ g cur, A = some ⟨g, 0, none⟩ ∧ B ≤ g ∧ g < w.heap.size ∧ w.heap[g]? = some (.cells cur 44 (0, 0)) ∧ n ≤ c ∧ c ≤ maxLen := by
  rcases h.own.2 with ⟨hv, hn⟩ | ⟨g, cap, cur, hv, hb, hh, h1, h2, h3, h4⟩
  · injection hv with e1 e2 e3
    exact .inl ⟨e1, e3, hn⟩
  · injection hv with e1 e2 e3
    subst e1 e3
    exact .inr ⟨g, cur, rfl, hb, (Array.getElem?_eq_some_iff.1 hh).1, hh, h1, h2⟩

theorem OLL.row (h : OLL w B M A n c Ws zss S) {j : Nat} (hj : j < n) : ∃ g s, A = some ⟨g, 0, none⟩ ∧ g < w.heap.size ∧ B ≤ g ∧ S[j]? = some s ∧ w.cell? ⟨g, j * 2, none⟩ = some (.int .i64 (gi Ws j)) ∧ w.cell? ⟨g, j * 2 + 1, none⟩ = some (sl s) ∧ w.frozen? ⟨g, j * 2, none⟩ = false ∧ OI w B s.1 s.2.1 s.2.2 (gz zss j) := by
  rcases h.form with ⟨_, _, h0⟩ | ⟨g, cur, rfl, hB, hg, hh, h1, _⟩
  · omega
  · obtain ⟨s, hS⟩ : ∃ s, S[j]? = some s := ⟨_, List.getElem?_eq_getElem (by rw [h.lS]; exact hj)⟩
    have e : Ws.length = S.length := by rw [h.lW, h.lS]
    exact ⟨g, s, rfl, hg, hB, hS, by rw [h.own.cellAt (j * 2) (by omega), lcs_even j e (by rw [h.lW]; exact hj)], by rw [h.own.cellAt (j * 2 + 1) (by omega), lcs_odd j s e hS], h.own.frozenAt _, h.inn j s hS⟩

theorem OLL.rb (h : OLL w B M A n c Ws zss S) : RLL w w.heap.size A n Ws zss := by
  refine ⟨h.lz, Nat.le_refl _, fun hn => ?_⟩
  rcases h.form with ⟨_, _, h0⟩ | ⟨g, cur, rfl, hB, hg, hh, h1, _⟩
  · omega
  · refine ⟨g, 0, rfl, hg, fun j hj => ?_⟩
    obtain ⟨g', s, e, _, _, _, h2, h3, _, h4⟩ := h.row hj
    injection e with e; injection e with e _ _
    subst e
    rw [Nat.zero_add]
    exact ⟨h2, s.1, s.2.1, s.2.2, h3, RB.of_ri h4.ri⟩

theorem OLL.mono (h : OLL w B M A n c Ws zss S) (hB : B' ≤ B) : OLL w B' M A n c Ws zss S :=
  ⟨⟨h.own.1, by
      rcases h.own.2 with h0 | ⟨g, cap, cur, hv, hb, hr⟩
      · exact .inl h0
      · exact .inr ⟨g, cap, cur, hv, by omega, hr⟩⟩, h.lW, h.lS, h.lz, fun j s hs => (h.inn j s hs).mono hB, h.dis, h.lt, h.le⟩

theorem OLL.none_ (w : World) (B : Nat) : OLL w B w.heap.size none 0 0 [] [] [] :=
  ⟨World.ownsRow_nil _ _ _ _, rfl, rfl, rfl, fun j s h => by simp at h, fun i j s t _ h => by simp at h, fun j s h => by simp at h, Nat.le_refl _⟩

/-- a row of numbers lies in another block than a row of ladders -/
theorem OLL.apartOI (h : OLL w B M A n c Ws zss S) {A1 : Option Addr} {m d : Nat} {zs : List Int} (h1 : OI w B' A1 m d zs) : ∀ b, blk A1 = some b → blk A ≠ some b := by
  intro b hb e
  rcases h1.form with ⟨e1, _, _⟩ | ⟨g, cur, e1, _, _, hh, _⟩
  · rw [e1] at hb; simp [blk] at hb
  · rcases h.form with ⟨e2, _, _⟩ | ⟨g2, cur2, e2, _, _, hh2, _⟩
    · rw [e2] at e; simp [blk] at e
    · rw [e1] at hb
      rw [e2] at e
      simp [blk] at hb e
      subst hb
      rw [e, hh] at hh2
      injection hh2 with h5
      injection h5 with _ h6 _
      exact absurd h6 (by decide)
theorem OLL.apart (h : OLL w B M A n c Ws zss S) {j : Nat} {s : Sl} (hs : S[j]? = some s) : ∀ b, blk s.1 = some b → blk A ≠ some b := h.apartOI (h.inn j s hs)

/-- all of it stays under calls that turn nothing below the heap's size -/
theorem OLL.below (h : OLL wi B M A n c Ws zss S) (hb : Below wi.heap.size wi wj) : OLL wj B M A n c Ws zss S :=
  ⟨h.own.kept ⟨hb.os, hb.tape, hb.output, hb.size, fun k hk _ => hb.block k hk⟩ (row := none) (by
    cases A with
    | none => exact .inl rfl
    | some a => exact .inr (by simp [Value.ownBlock])), h.lW, h.lS, h.lz, fun j s hs => (h.inn j s hs).below hb, h.dis, h.lt, Nat.le_trans h.le hb.size⟩
/-- .. and where a row is written whose block lies below B -/
theorem OLL.kept (h : OLL wi B M A n c Ws zss S) {A' : Option Addr} (hg : wi.grownBy wj (blk A')) (hlt : ∀ b, blk A' = some b → b < B) : OLL wj B M A n c Ws zss S :=
  ⟨h.own.kept hg (by
    rcases h.form with ⟨rfl, rfl, rfl⟩ | ⟨g, cur, rfl, hB, _⟩
    · exact .inl rfl
    · exact .inr (by
        simp only [Value.ownBlock]
        intro e
        have := hlt g e.symm
        omega)), h.lW, h.lS, h.lz, fun j s hs => (h.inn j s hs).kept hg (fun b hb e => by have h1 := ((h.inn j s hs).blk b hb).1; have h2 := hlt b e; omega), h.dis, h.lt, Nat.le_trans h.le hg.size⟩
/-- one row of numbers is written -/
theorem OLL.upd (h : OLL wi B M A n c Ws zss S) {i : Nat} {s : Sl} (hs : S[i]? = some s) {zs : List Int} (ho : OI wj B s.1 s.2.1 s.2.2 zs) (hg : wi.grownBy wj (blk s.1)) : OLL wj B M A n c Ws (zss.set i zs) S := by
  have hi : i < n := by
    rw [← h.lS]
    exact (List.getElem?_eq_some_iff.1 hs).1
  refine ⟨h.own.kept hg ?_, h.lW, h.lS, by rw [List.length_set]; exact h.lz, fun j t ht => ?_, h.dis, h.lt, Nat.le_trans h.le hg.size⟩
  · rcases h.form with ⟨rfl, rfl, rfl⟩ | ⟨g, cur, rfl, hB, _⟩
    · exact .inl rfl
    · refine .inr ?_
      simp only [Value.ownBlock]
      intro e
      exact h.apart hs g e.symm rfl
  · by_cases e : i = j
    · subst e
      rw [hs] at ht
      injection ht with ht
      subst ht
      have : gz (zss.set i zs) i = zs := by simp [gz, List.getD, h.lz, hi]
      rw [this]; exact ho
    · have : gz (zss.set i zs) j = gz zss j := by simp [gz, List.getD, e]
      rw [this]
      refine (h.inn j t ht).kept hg (fun b hb e2 => ?_)
      rcases Nat.lt_or_gt_of_ne e with hlt | hgt
      · exact h.dis i j s t hlt hs ht b e2 hb
      · exact h.dis j i t s hgt ht hs b hb e2
/-- one number of wires is written -/
theorem OLL.setW {g : Nat} (h : OLL w B M (some ⟨g, 0, none⟩) n c Ws zss S) (i : Nat) (v : Int) : OLL (w.setCell ⟨g, i * 2, none⟩ (.int .i64 v)) B M (some ⟨g, 0, none⟩) n c (Ws.set i v) zss S :=
  ⟨by have := (h.own.stored (i * 2) (.int .i64 v)).1; rw [lcs_set] at this; exact this, by rw [List.length_set]; exact h.lW, h.lS, h.lz, fun j s hs => (h.inn j s hs).kept (grown_setCell (g := g) (grown_refl w _) (.inl rfl) _) (fun b hb e => h.apart hs b hb (by simpa [blk] using e)), h.dis, h.lt, by simpa using h.le⟩
theorem OLL.up (h : OLL w B M A n c Ws zss S) (hM : M ≤ K) (hK : K ≤ w.heap.size) : OLL w B K A n c Ws zss S :=
  ⟨h.own, h.lW, h.lS, h.lz, h.inn, h.dis, fun j s hs b hb => Nat.lt_of_lt_of_le (h.lt j s hs b hb) hM, hK⟩
theorem OLL.top (h : OLL w B M A n c Ws zss S) : OLL w B w.heap.size A n c Ws zss S := h.up h.le (Nat.le_refl _)
theorem OLL.blkB (h : OLL w B M A n c Ws zss S) : ∀ x, blk A = some x → B ≤ x := by
  intro x hx
  rcases h.form with ⟨e, _, _⟩ | ⟨g, cur, e, hB, _⟩
  · rw [e] at hx; simp [blk] at hx
  · rw [e] at hx; simp [blk] at hx; omega
theorem OLL.alloc (h : OLL w B M A n c Ws zss S) (o : Obj) : OLL (w.alloc o) B M A n c Ws zss S := h.below ((Below.refl _ _).alloc (Nat.le_refl _) o)
theorem OLL.drewN (h : OLL w B M A n c Ws zss S) (k : Nat) : OLL (w.drewN k) B M A n c Ws zss S := h.below (below_drewN (Below.refl _ _) k)
end
end Go.Proofs.YtgeeifjbfceogaaGreatDoor

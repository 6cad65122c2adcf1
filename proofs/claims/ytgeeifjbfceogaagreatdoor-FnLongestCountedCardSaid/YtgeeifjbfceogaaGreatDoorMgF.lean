/- Words for slices of slices of numbers: a row of the call's own whose parts are rows of its own, how both are read, and how they are kept. Slices of slices of numbers: how the laws compare, mark and look at them, and how one is appended to. A row of numbers appended to a row of rows. A new slice of slices as an answer; how one is kept while it grows. -/
import Derived.Test.YtgeeifjbfceogaaGreatDoorStP
import Derived.Deep.RegionHeld3
import Derived.Test.YtgeeifjbfceogaaGreatDoorMgB
namespace Go.Proofs.YtgeeifjbfceogaaGreatDoor
open Go Go.RowKit

abbrev Sl := Option Addr × Nat × Nat
def sl (s : Sl) : Value := .slice s.1 s.2.1 s.2.2
/-- part j -/
def gz (zss : List (List Int)) (j : Nat) : List Int := zss.getD j []
theorem gz_at {zss : List (List Int)} {j : Nat} (h : j < zss.length) : zss[j]? = some (gz zss j) := by simp [gz, List.getD, h]
/-- how many numbers the first j parts have -/
def tot (zss : List (List Int)) : Nat → Nat
  | 0 => 0
  | j + 1 => tot zss j + (gz zss j).length

structure OII (w : World) (B M : Nat) (A : Option Addr) (n c : Nat) (zss : List (List Int)) (S : List Sl) : Prop where
  own : w.ownsRow B 22 1 (.slice A n c) n (S.map sl)
  lS : S.length = n
  lz : zss.length = n
  inn : ∀ (j : Nat) (s : Sl), S[j]? = some s → OI w B s.1 s.2.1 s.2.2 (gz zss j)
  dis : ∀ (i j : Nat) (s t : Sl), i < j → S[i]? = some s → S[j]? = some t → ∀ b, blk s.1 = some b → blk t.1 ≠ some b
  lt : ∀ (j : Nat) (s : Sl), S[j]? = some s → ∀ b, blk s.1 = some b → b < M
  le : M ≤ w.heap.size

/-- the slice of slices reads as zss, all of it below block K -/
def RBB (w : World) (K : Nat) (A : Option Addr) (n : Nat) (zss : List (List Int)) : Prop :=
  zss.length = n ∧ K ≤ w.heap.size ∧ (0 < n → ∃ b off, A = some ⟨b, off, none⟩ ∧ b < K ∧ ∀ j, j < n → ∃ (a : Option Addr) (m d : Nat), w.cell? ⟨b, off + j, none⟩ = some (.slice a m d) ∧ RB w K a m (gz zss j))

section
variable {w wi wj : World} {B B' M K : Nat} {A : Option Addr} {n c : Nat} {zss : List (List Int)} {S : List Sl}
theorem RBB.step (h : RBB wi K A n zss) (hb : Below K wi wj) : RBB wj K A n zss := ⟨h.1, Nat.le_trans h.2.1 hb.size, fun hn => by
  obtain ⟨b, off, e, hbk, hc⟩ := h.2.2 hn
  refine ⟨b, off, e, hbk, fun j hj => ?_⟩
  obtain ⟨a, m, d, h1, h2⟩ := hc j hj
  exact ⟨a, m, d, (hb.cell (p := ⟨b, off + j, none⟩) hbk).trans h1, h2.step hb⟩⟩

theorem OII.form (h : OII w B M A n c zss S) : (A = none ∧ c = 0 ∧ n = 0) ∨ ∃ g cur, A = some ⟨g, 0, none⟩ ∧ B ≤ g ∧ g < w.heap.size ∧ w.heap[g]? = some (.cells cur 22 (0, 0)) ∧ n ≤ c ∧ c ≤ maxLen ∧ cur.size = c ∧ cur.toList.take n = S.map sl := by
  rcases h.own.2 with ⟨hv, hn⟩ | ⟨g, cap, cur, hv, hb, hh, h1, h2, h3, h4⟩
  · injection hv with e1 e2 e3
    exact .inl ⟨e1, e3, hn⟩
  · injection hv with e1 e2 e3
    subst e1 e3
    exact .inr ⟨g, cur, rfl, hb, (Array.getElem?_eq_some_iff.1 hh).1, hh, h1, h2, by simpa using h3, by simpa using h4⟩

theorem OII.rb (h : OII w B M A n c zss S) : RBB w w.heap.size A n zss := by
  refine ⟨h.lz, Nat.le_refl _, fun hn => ?_⟩
  rcases h.form with ⟨_, _, h0⟩ | ⟨g, cur, rfl, _, hg, hh, h1, _, h3, h4⟩
  · omega
  · refine ⟨g, 0, rfl, hg, fun j hj => ?_⟩
    obtain ⟨s, hS⟩ : ∃ s, S[j]? = some s := ⟨_, List.getElem?_eq_getElem (by rw [h.lS]; exact hj)⟩
    refine ⟨s.1, s.2.1, s.2.2, ?_, RB.of_ri (h.inn j _ hS).ri⟩
    rw [Nat.zero_add, h.own.cellAt j (by omega)]
    simp [hS, sl]

theorem OII.mono (h : OII w B M A n c zss S) (hB : B' ≤ B) : OII w B' M A n c zss S :=
  ⟨⟨h.own.1, by
      rcases h.own.2 with h0 | ⟨g, cap, cur, hv, hb, hr⟩
      · exact .inl h0
      · exact .inr ⟨g, cap, cur, hv, by omega, hr⟩⟩, h.lS, h.lz, fun j s hs => (h.inn j s hs).mono hB, h.dis, h.lt, h.le⟩

theorem OII.none_ (w : World) (B : Nat) : OII w B w.heap.size none 0 0 [] [] :=
  ⟨World.ownsRow_nil _ _ _ _, rfl, rfl, fun j s h => by simp at h, fun i j s t _ h => by simp at h, fun j s h => by simp at h, Nat.le_refl _⟩

/-- a part lies in another block than the row of parts -/
theorem OII.apart (h : OII w B M A n c zss S) {j : Nat} {s : Sl} (hs : S[j]? = some s) : ∀ b, blk s.1 = some b → blk A ≠ some b := by
  intro b hb e
  rcases (h.inn j s hs).form with ⟨e1, _, _⟩ | ⟨g, cur, e1, _, _, hh, _⟩
  · rw [e1] at hb; simp [blk] at hb
  · rcases h.form with ⟨e2, _, _⟩ | ⟨g2, cur2, e2, _, _, hh2, _⟩
    · rw [e2] at e; simp [blk] at e
    · rw [e1] at hb
      rw [e2] at e
      simp [blk] at hb e
      subst hb
      rw [e, hh] at hh2
      injection hh2 with h5
      injection h5 with _ h6 _
      exact absurd h6 (by decide)

/-- all of it stays under calls that turn nothing below the heap's size -/
theorem OII.below (h : OII wi B M A n c zss S) (hb : Below wi.heap.size wi wj) : OII wj B M A n c zss S :=
  ⟨h.own.kept ⟨hb.os, hb.tape, hb.output, hb.size, fun k hk _ => hb.block k hk⟩ (row := none) (by
    cases A with
    | none => exact .inl rfl
    | some a => exact .inr (by simp [Value.ownBlock])), h.lS, h.lz, fun j s hs => (h.inn j s hs).below hb, h.dis, h.lt, Nat.le_trans h.le hb.size⟩
/-- .. and where a row is written whose block lies below B -/
theorem OII.kept (h : OII wi B M A n c zss S) {A' : Option Addr} (hg : wi.grownBy wj (blk A')) (hlt : ∀ b, blk A' = some b → b < B) : OII wj B M A n c zss S :=
  ⟨h.own.kept hg (by
    rcases h.form with ⟨rfl, rfl, rfl⟩ | ⟨g, cur, rfl, hB, _⟩
    · exact .inl rfl
    · exact .inr (by
        simp only [Value.ownBlock]
        intro e
        have := hlt g e.symm
        omega)), h.lS, h.lz, fun j s hs => (h.inn j s hs).kept hg (fun b hb e => by have h1 := ((h.inn j s hs).blk b hb).1; have h2 := hlt b e; omega), h.dis, h.lt, Nat.le_trans h.le hg.size⟩
/-- one part is written -/
theorem OII.upd (h : OII wi B M A n c zss S) {i : Nat} {s : Sl} (hs : S[i]? = some s) {zs : List Int} (ho : OI wj B s.1 s.2.1 s.2.2 zs) (hg : wi.grownBy wj (blk s.1)) : OII wj B M A n c (zss.set i zs) S := by
  have hi : i < n := by
    rw [← h.lS]
    exact (List.getElem?_eq_some_iff.1 hs).1
  refine ⟨h.own.kept hg ?_, h.lS, by rw [List.length_set]; exact h.lz, fun j t ht => ?_, h.dis, h.lt, Nat.le_trans h.le hg.size⟩
  · rcases h.form with ⟨rfl, rfl, rfl⟩ | ⟨g, cur, rfl, hB, _⟩
    · exact .inl rfl
    · refine .inr ?_
      simp only [Value.ownBlock]
      intro e
      exact h.apart hs g e.symm rfl
  · by_cases e : i = j
    · subst e
      rw [hs] at ht
      injection ht with ht
      subst ht
      have : gz (zss.set i zs) i = zs := by simp [gz, List.getD, h.lz, hi]
      rw [this]; exact ho
    · have : gz (zss.set i zs) j = gz zss j := by simp [gz, List.getD, e]
      rw [this]
      refine (h.inn j t ht).kept hg (fun b hb e2 => ?_)
      rcases Nat.lt_or_gt_of_ne e with hlt | hgt
      · exact h.dis i j s t hlt hs ht b e2 hb
      · exact h.dis j i t s hgt ht hs b hb e2
end
end Go.Proofs.YtgeeifjbfceogaaGreatDoor
namespace Go.Proofs.YtgeeifjbfceogaaGreatDoor
open Go Go.RowKit

/-- all parts are marked, one after the other, from k on -/
def mkss (k : Int) (zss : List (List Int)) : List (List Int) := (List.range zss.length).map fun (j : Nat) => marks (k + (tot zss j : Int)) (gz zss j).length
theorem mkss_length (k : Int) (zss : List (List Int)) : (mkss k zss).length = zss.length := by simp [mkss]
theorem gz_mkss (k : Int) (zss : List (List Int)) (j : Nat) (h : j < zss.length) : gz (mkss k zss) j = marks (k + (tot zss j : Int)) (gz zss j).length := by
  simp [gz, mkss, List.getD, h]
theorem gz_ext {xs ys : List (List Int)} (hl : xs.length = ys.length) (h : ∀ j, j < xs.length → gz xs j = gz ys j) : xs = ys := by
  apply List.ext_getElem?
  intro j
  by_cases hj : j < xs.length
  · rw [gz_at hj, gz_at (by omega), h j hj]
  · rw [List.getElem?_eq_none (by omega), List.getElem?_eq_none (by omega)]
theorem tot_le (zss : List (List Int)) {i j : Nat} (h : i ≤ j) : tot zss i ≤ tot zss j := by
  induction j with
  | zero => obtain rfl : i = 0 := by omega
            exact Nat.le_refl _
  | succ j ih =>
    by_cases e : i = j + 1
    · subst e; exact Nat.le_refl _
    · have := ih (by omega)
      simp only [tot]; omega

def MarkedSS (w : World) (B M : Nat) (A : Option Addr) (n c : Nat) (k : Int) (zss : List (List Int)) (S : List Sl) (e : Ending) (w' : World) : Prop :=
  e = .returned (.int .i64 (k + (tot zss n : Int))) ∧ OII w' B M A n c (mkss k zss) S ∧ Below B w w'

end Go.Proofs.YtgeeifjbfceogaaGreatDoor
namespace Go.Proofs.YtgeeifjbfceogaaGreatDoor
open Go Go.RowKit

theorem infoSlice : (Tryz.prog.info? 22).map (fun i => (i.zero, i.size, i.bytes)) = some (some (.slice none 0 0), 1, 24) := by kernel_rfl

theorem apart_types {w : World} {B B' : Nat} {A A1 : Option Addr} {n c m d : Nat} {zss : List (List Int)} {zs : List Int} {S : List Sl} {M : Nat} (h : OII w B M A n c zss S) (h1 : OI w B' A1 m d zs) : ∀ b, blk A1 = some b → blk A ≠ some b := by
  intro b hb e
  rcases h1.form with ⟨e1, _, _⟩ | ⟨g, cur, e1, _, _, hh, _⟩
  · rw [e1] at hb; simp [blk] at hb
  · rcases h.form with ⟨e2, _, _⟩ | ⟨g2, cur2, e2, _, _, hh2, _⟩
    · rw [e2] at e; simp [blk] at e
    · rw [e1] at hb
      rw [e2] at e
      simp [blk] at hb e
      subst hb
      rw [e, hh] at hh2
      injection hh2 with h5
      injection h5 with _ h6 _
      exact absurd h6 (by decide)

theorem OII.snoc {w w' : World} {B M : Nat} {A A' A1 : Option Addr} {n c c' m d : Nat} {zss : List (List Int)} {zs : List Int} {S : List Sl} (h : OII w B M A n c zss S) (h1 : OI w M A1 m d zs) (hBM : B ≤ M)
    (hown : w'.ownsRow B 22 1 (.slice A' (n + 1) c') (n + 1) (S.map sl ++ [sl (A1, m, d)])) (hg : w.grownBy w' (blk A)) : OII w' B w.heap.size A' (n + 1) c' (zss ++ [zs]) (S ++ [(A1, m, d)]) := by
  have hlz := h.lz
  have hlS := h.lS
  refine ⟨by simpa using hown, by simp [hlS], by simp [hlz], fun j s hs => ?_, fun i j s t hij hs ht b hb => ?_, fun j s hs b hb => ?_, hg.size⟩
  · by_cases e : j < n
    · rw [List.getElem?_append_left (by omega)] at hs
      have : gz (zss ++ [zs]) j = gz zss j := by simp [gz, List.getD, List.getElem?_append_left (show j < zss.length by omega)]
      rw [this]
      exact (h.inn j s hs).kept hg (fun b hb => h.apart hs b hb)
    · rw [List.getElem?_append_right (by omega)] at hs
      have hj : j = n := by
        have := (List.getElem?_eq_some_iff.1 hs).1
        simp at this; omega
      subst hj
      simp [hlS] at hs
      subst hs
      have : gz (zss ++ [zs]) j = zs := by simp [gz, List.getD, hlz]
      rw [this]
      exact (h1.mono hBM).kept hg (fun b hb => apart_types h h1 b hb)
  · by_cases ej : j < n
    · rw [List.getElem?_append_left (by omega)] at hs ht
      exact h.dis i j s t hij hs ht b hb
    · rw [List.getElem?_append_right (show S.length ≤ j by omega)] at ht
      have hj : j = n := by
        have := (List.getElem?_eq_some_iff.1 ht).1
        simp at this; omega
      subst hj
      simp [hlS] at ht
      subst ht
      rw [List.getElem?_append_left (by omega)] at hs
      intro e
      have l1 := h.lt i s hs b hb
      have l2 := (h1.blk b e).1
      omega
  · by_cases e : j < n
    · rw [List.getElem?_append_left (by omega)] at hs
      have := h.lt j s hs b hb
      have := h.le
      omega
    · rw [List.getElem?_append_right (by omega)] at hs
      have hj : j = n := by
        have := (List.getElem?_eq_some_iff.1 hs).1
        simp at this; omega
      subst hj
      simp [hlS] at hs
      subst hs
      exact (h1.blk b hb).2

theorem wpList_append_sl {ops : Array Oper} {rest : List Oper} {o : Oper} {a : Act} {Q : Exit → Act → World → Prop} (w : World) (hgd : o.guard = none) (s x : Operand)
    (ho : o.op = .call { callee := .builtin .append, args := #[s, x], argTypes := #[57, 57] })
    (B M : Nat) (A : Option Addr) (n c : Nat) (zss : List (List Int)) (S : List Sl) (A1 : Option Addr) (m d : Nat) (zs : List Int) (b : Nat) (hs : a.eval s = .slice A n c) (hx : a.eval x = .slice (some ⟨b, 0, none⟩) 1 1) (h : OII w B M A n c zss S) (h1 : OI w M A1 m d zs) (hBM : B ≤ M)
    (hc : w.cell? ⟨b, 0, none⟩ = some (.slice A1 m d)) (hn : n ≤ 1000000000000) (hB : B ≤ w.heap.size)
    (hQ : ∀ A' c' w', OII w' B w.heap.size A' (n + 1) c' (zss ++ [zs]) (S ++ [(A1, m, d)]) → w.grownBy w' (blk A) → wpList Tryz.prog ops Q rest (a.put o.dst (.slice A' (n + 1) c')) w') : wpList Tryz.prog ops Q (o :: rest) a w := by
  obtain ⟨i0, hi0, hz0, hz1, hz2⟩ := info_parts infoSlice
  refine wpList_append_own w hgd s x 57 ho B 22 i0 (.slice none 0 0) 1 24 Tryz.underlying57 hi0 hz0 hz1 hz2 rfl (by decide) _ n (S.map sl) hs h.own ⟨b, 0, none⟩ 1 1 [.slice A1 m d] hx rfl ?_ ?_ (by unfold maxLen; omega) (by omega) hB ?_
  · intro j u hu
    match j, hu with
    | 0, hu => simp at hu; subst hu; simpa [Addr.add] using hc
  · intro u hu
    simp at hu; subst hu; rfl
  · intro v' w' hown' hg _
    have hv : ∃ A' c', v' = .slice A' (n + 1) c' := by
      rcases hown'.2 with ⟨_, h0⟩ | ⟨g, cap, cur, e, _⟩
      · omega
      · exact ⟨_, _, e⟩
    obtain ⟨A', c', rfl⟩ := hv
    rw [ownBlock_eq] at hg
    exact hQ A' c' w' (h.snoc h1 hBM hown' hg) hg
end Go.Proofs.YtgeeifjbfceogaaGreatDoor
namespace Go.Proofs.YtgeeifjbfceogaaGreatDoor
open Go Go.RowKit

/-- a new slice of slices of the call's own -/
def FreshSS (w : World) (zss : List (List Int)) (e : Ending) (w' : World) : Prop :=
  ∃ A c M S, e = .returned (.slice A zss.length c) ∧ OII w' w.heap.size M A zss.length c zss S ∧ Below w.heap.size w w'
def FreshSSB (w : World) (zss : List (List Int)) (b : Bool) (e : Ending) (w' : World) : Prop :=
  ∃ A c M S, e = .returned (.tuple #[.slice A zss.length c, .bool b]) ∧ OII w' w.heap.size M A zss.length c zss S ∧ Below w.heap.size w w'
section
variable {w wi wj : World} {B M K : Nat} {A : Option Addr} {n c : Nat} {zss : List (List Int)} {S : List Sl}
theorem OII.up (h : OII w B M A n c zss S) (hM : M ≤ K) (hK : K ≤ w.heap.size) : OII w B K A n c zss S :=
  ⟨h.own, h.lS, h.lz, h.inn, h.dis, fun j s hs b hb => Nat.lt_of_lt_of_le (h.lt j s hs b hb) hM, hK⟩
theorem OII.top (h : OII w B M A n c zss S) : OII w B w.heap.size A n c zss S := h.up h.le (Nat.le_refl _)
theorem OII.blkB (h : OII w B M A n c zss S) : ∀ x, blk A = some x → B ≤ x := by
  intro x hx
  rcases h.form with ⟨e, _, _⟩ | ⟨g, cur, e, hB, _⟩
  · rw [e] at hx; simp [blk] at hx
  · rw [e] at hx; simp [blk] at hx; omega
theorem belGrownSS (h : Hid (Below w.heap.size w wi)) (ho : OII wi B M A n c zss S) (hg : wi.grownBy wj (blk A)) (hB : w.heap.size ≤ B) : Hid (Below w.heap.size w wj) :=
  h.out.grown hg h.out.size (fun k hk => by have := ho.blkB k hk; omega)
theorem OII.alloc (h : OII w B M A n c zss S) (o : Obj) : OII (w.alloc o) B M A n c zss S := h.below ((Below.refl _ _).alloc (Nat.le_refl _) o)
theorem OII.drewN (h : OII w B M A n c zss S) (k : Nat) : OII (w.drewN k) B M A n c zss S := h.below (below_drewN (Below.refl _ _) k)
end
/-- two numbers in a new block -/
theorem OI.two (w : World) (B : Nat) (x y : Int) (hB : B ≤ w.heap.size) : OI (w.alloc (.cells #[.int .i64 x, .int .i64 y] 3)) B (some ⟨w.heap.size, 0, none⟩) 2 2 [x, y] :=
  ⟨rfl, World.ownsRow_lit _ _ _ hB (by decide) rfl⟩
theorem cellNewAt (w : World) (v : Value) (t : TypeId) {b : Nat} (hb : b = w.heap.size) : (w.alloc (.cells #[v] t)).cell? ⟨b, 0, none⟩ = some v := by subst hb; simp
theorem belDrewN {w wi : World} (h : Hid (Below w.heap.size w wi)) (k : Nat) : Hid (Below w.heap.size w (wi.drewN k)) := below_drewN h.out k
end Go.Proofs.YtgeeifjbfceogaaGreatDoor

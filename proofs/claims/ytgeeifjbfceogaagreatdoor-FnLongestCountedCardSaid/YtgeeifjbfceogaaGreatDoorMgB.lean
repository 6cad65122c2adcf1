/- One number appended to a row of the call's own. Many numbers appended to a row of the call's own; slices.Grow at a nil slice. The cells of a row of the call's own. -/
import Derived.Test.YtgeeifjbfceogaaGreatDoorMgA
import Derived.Laws.AppendOwn
import Derived.OwnWalk
import Derived.Laws.AppendOwnNone
import Derived.Lib.AppendZerosOnto
import Derived.Lib.SliceRun
import Derived.Deep.AppendLies
namespace Go.Proofs.YtgeeifjbfceogaaGreatDoor
open Go Go.RowKit

theorem I_append (xs ys : List Int) : I (xs ++ ys) = I xs ++ I ys := by simp [I]

theorem OI.of_own {w : World} {B : Nat} {v : Value} {n : Nat} {xs : List Value} {zs : List Int} (h : w.ownsRow B 3 1 v n xs) (hx : xs = I zs) : ∃ A c, v = .slice A n c ∧ OI w B A n c zs := by
  subst hx
  have hl : zs.length = n := by have := h.1; simpa [I] using this
  rcases h.2 with ⟨rfl, rfl⟩ | ⟨g, cap, cur, rfl, _⟩
  · exact ⟨none, 0, rfl, hl, h⟩
  · exact ⟨some ⟨g, 0, none⟩, cap, rfl, hl, h⟩

theorem OI.none_ (w : World) (B : Nat) : OI w B none 0 0 [] := ⟨rfl, World.ownsRow_nil _ _ _ _⟩

theorem ownBlock_eq (A : Option Addr) (n c : Nat) : (Value.slice A n c).ownBlock = blk A := by cases A <;> rfl

theorem wpList_append_int {ops : Array Oper} {rest : List Oper} {o : Oper} {a : Act} {Q : Exit → Act → World → Prop} (w : World) (hgd : o.guard = none) (s x : Operand)
    (ho : o.op = .call { callee := .builtin .append, args := #[s, x], argTypes := #[22, 22] })
    (B : Nat) (A : Option Addr) (n c : Nat) (zs : List Int) (z : Int) (b : Nat) (hs : a.eval s = .slice A n c) (hx : a.eval x = .slice (some ⟨b, 0, none⟩) 1 1) (hown : OI w B A n c zs)
    (hc : w.cell? ⟨b, 0, none⟩ = some (.int .i64 z)) (hn : n ≤ 1000000000000) (hB : B ≤ w.heap.size)
    (h : ∀ A' c' w', OI w' B A' (n + 1) c' (zs ++ [z]) → w.grownBy w' (blk A) → wpList Tryz.prog ops Q rest (a.put o.dst (.slice A' (n + 1) c')) w') : wpList Tryz.prog ops Q (o :: rest) a w := by
  obtain ⟨i0, hi0, hz0, hz1, hz2⟩ := info_parts infoInt
  refine wpList_append_own w hgd s x 22 ho B 3 i0 (.int .i64 0) 1 8 Tryz.underlying22 hi0 hz0 hz1 hz2 rfl (by decide) _ n (I zs) hs hown.2 ⟨b, 0, none⟩ 1 1 [.int .i64 z] hx rfl ?_ ?_ (by unfold maxLen; omega) (by omega) hB ?_
  · intro j u hu
    match j, hu with
    | 0, hu => simp at hu; subst hu; simpa [Addr.add] using hc
  · intro u hu
    simp at hu; subst hu; rfl
  · intro v' w' hown' hg _
    obtain ⟨A', c', rfl, ho'⟩ := OI.of_own (zs := zs ++ [z]) hown' (by simp [I])
    exact h A' c' w' ho' (by rwa [ownBlock_eq] at hg)

/-- the row has grown: nothing below it has turned -/
theorem belGrown {w wi wj : World} {B : Nat} {A : Option Addr} {n c : Nat} {zs : List Int} (h : Hid (Below w.heap.size w wi)) (ho : OI wi B A n c zs) (hg : wi.grownBy wj (blk A)) (hB : w.heap.size ≤ B) : Hid (Below w.heap.size w wj) :=
  h.out.grown hg h.out.size (fun k hk => by have := (ho.blk k hk).1; omega)
end Go.Proofs.YtgeeifjbfceogaaGreatDoor
namespace Go.Proofs.YtgeeifjbfceogaaGreatDoor
open Go Go.RowKit

theorem run_append_nil {P : Program} (w : World) (B : Nat) (t ty e : TypeId) (i : TypeInfo) (ht : P.underlying t = some (.slice e)) (hi : P.info? e = some i)
    (v : Value) (n : Nat) (xs : List Value) (hown : w.ownsRow B e 1 v n xs) (c : Nat) : (Builtin.append_ #[t, t] ty #[v, .slice none 0 c]).run P w = .ok v w := by
  rcases hown.2 with ⟨rfl, rfl⟩ | ⟨g, cap, cur, rfl, _, _, hnc, _⟩
  · simp [Builtin.append_, run_underlying ht, sizeOf, typeInfo, hi, Builtin.lenOf, Builtin.firstCells]
  · simp [Builtin.append_, run_underlying ht, sizeOf, typeInfo, hi, Builtin.lenOf, Builtin.firstCells, hnc, storeCells]

theorem I_one (zs : List Int) : ∀ u ∈ I zs, u.oneCell' = true := ints_oneCell _ zs

set_option maxRecDepth 100000 in
theorem run_append_ints (w : World) (ty : TypeId) (B : Nat) (A : Option Addr) (n c : Nat) (zs : List Int) (A2 : Option Addr) (m c2 : Nat) (ys : List Int) (hown : OI w B A n c zs) (hr : RI w A2 m ys)
    (hn : n ≤ 1000000000000) (hm : m ≤ 1000000000000) (hB : B ≤ w.heap.size) :
    ∃ A' c' w', (Builtin.append_ #[22, 22] ty #[.slice A n c, .slice A2 m c2]).run Tryz.prog w = .ok (.slice A' (n + m) c') w' ∧ OI w' B A' (n + m) c' (zs ++ ys) ∧ w.grownBy w' (blk A) := by
  obtain ⟨i0, hi0, hz0, hz1, hz2⟩ := info_parts infoInt
  rcases A2 with _ | ad
  · have hm0 : m = 0 := by
      rcases Nat.eq_zero_or_pos m with h0 | h0
      · exact h0
      · obtain ⟨b, off, e, _⟩ := hr.2 h0
        cases e
    subst hm0
    have hy : ys = [] := List.eq_nil_of_length_eq_zero hr.1
    subst hy
    exact ⟨A, c, w, run_append_nil w B _ _ _ i0 Tryz.underlying22 hi0 _ n _ hown.2 c2, by simpa using hown, grown_refl _ _⟩
  · have hcells : ∀ j u, (I ys)[j]? = some u → w.cell? (ad.add j) = some u := by
      intro j u hu
      have hj : j < ys.length := by
        rcases Nat.lt_or_ge j ys.length with h | h
        · exact h
        · rw [List.getElem?_eq_none (by rw [I_length]; exact h)] at hu; cases hu
      obtain ⟨b, off, e, _, hc⟩ := hr.2 (by have := hr.1; omega)
      injection e with e
      subst e
      rw [I_at hj] at hu
      injection hu with hu
      subst hu
      have := hc j (by have := hr.1; omega)
      unfold Addr.add
      by_cases h0 : j = 0
      · subst h0; simpa using this
      · simpa [h0] using this
    obtain ⟨v', w', hrun, h2, h3, _⟩ := run_append_own (P := Tryz.prog) w B 22 ty 3 i0 (.int .i64 0) 1 8 Tryz.underlying22 hi0 hz0 hz1 hz2 rfl (by decide) _ n (I zs) hown.2 ad m c2 (I ys) (by rw [I_length, hr.1]; simp) hcells (I_one ys) (by unfold maxLen; omega) (by omega) hB
    obtain ⟨A', c', rfl, ho'⟩ := OI.of_own (zs := zs ++ ys) h2 (by simp [I])
    exact ⟨A', c', w', hrun, ho', by rwa [ownBlock_eq] at h3⟩

theorem wpList_append_ints {ops : Array Oper} {rest : List Oper} {o : Oper} {a : Act} {Q : Exit → Act → World → Prop} (w : World) (hgd : o.guard = none) (s x : Operand)
    (ho : o.op = .call { callee := .builtin .append, args := #[s, x], argTypes := #[22, 22] })
    (B : Nat) (A : Option Addr) (n c : Nat) (zs : List Int) (A2 : Option Addr) (m c2 : Nat) (ys : List Int) (hs : a.eval s = .slice A n c) (hx : a.eval x = .slice A2 m c2) (hown : OI w B A n c zs) (hr : RI w A2 m ys)
    (hn : n ≤ 1000000000000) (hm : m ≤ 1000000000000) (hB : B ≤ w.heap.size)
    (h : ∀ A' c' w', OI w' B A' (n + m) c' (zs ++ ys) → w.grownBy w' (blk A) → wpList Tryz.prog ops Q rest (a.put o.dst (.slice A' (n + m) c')) w') : wpList Tryz.prog ops Q (o :: rest) a w := by
  refine wpList_plain hgd fun K hK => ?_
  obtain ⟨A', c', w', hrun, h2, h3⟩ := run_append_ints w o.type B A n c zs A2 m c2 ys hown hr hn hm hB
  unfold Oper.wp
  simp only [execOp, ho, resolve, invoke, builtin, Sem.run_bind, Sem.run_pure, Result.andThen_ok, List.map_toArray, List.map_cons, List.map_nil, hs, hx, hrun]
  exact hK _ _ (h A' c' w' h2 h3)

theorem step_append_ints {ops : Array Oper} {o : Oper} {a : Act} {K : Act → World → Prop} {Q : Exit → Act → World → Prop} {E : Prop} (w : World) (hgd : o.guard = none) (s x : Operand)
    (ho : o.op = .call { callee := .builtin .append, args := #[s, x], argTypes := #[22, 22] })
    (B : Nat) (A : Option Addr) (n c : Nat) (zs : List Int) (A2 : Option Addr) (m c2 : Nat) (ys : List Int) (hs : a.eval s = .slice A n c) (hx : a.eval x = .slice A2 m c2) (hown : OI w B A n c zs) (hr : RI w A2 m ys)
    (hn : n ≤ 1000000000000) (hm : m ≤ 1000000000000) (hB : B ≤ w.heap.size)
    (h : ∀ A' c' w', OI w' B A' (n + m) c' (zs ++ ys) → w.grownBy w' (blk A) → K (a.put o.dst (.slice A' (n + m) c')) w') :
    if Region.wanted o (yielded ops a.tmps) = true then Oper.wp Tryz.prog o a w K Q else E := by
  have hw : Region.wanted o (yielded ops a.tmps) = true := by simp [Region.wanted, hgd]
  rw [if_pos hw]
  obtain ⟨A', c', w', hrun, h2, h3⟩ := run_append_ints w o.type B A n c zs A2 m c2 ys hown hr hn hm hB
  unfold Oper.wp
  simp only [execOp, ho, resolve, invoke, builtin, Sem.run_bind, Sem.run_pure, Result.andThen_ok, List.map_toArray, List.map_cons, List.map_nil, hs, hx, hrun]
  exact h A' c' w' h2 h3
/-- one number in a new block reads as a list of one -/
theorem RI.single (w : World) (z : Int) : RI (w.alloc (.cells #[.int .i64 z] 3)) (some ⟨w.heap.size, 0, none⟩) 1 [z] :=
  ⟨rfl, fun _ => ⟨w.heap.size, 0, rfl, by simp, fun j hj => by obtain rfl : j = 0 := by omega
                                                               simp [gi]⟩⟩
end Go.Proofs.YtgeeifjbfceogaaGreatDoor
namespace Go.Proofs.YtgeeifjbfceogaaGreatDoor
open Go Go.RowKit
theorem OI.cells {w : World} {B g n c : Nat} {zs : List Int} (h : OI w B (some ⟨g, 0, none⟩) n c zs) : ∀ j, j < n → w.cell? ⟨g, j, none⟩ = some (.int .i64 (gi zs j)) := by
  intro j hj
  obtain ⟨b', off', e, _, hc'⟩ := h.ri.cell hj
  injection e with e; injection e with e1 e2 e3
  subst e1 e2
  have := hc' j hj
  rwa [Nat.zero_add] at this

theorem OI.le {w : World} {B : Nat} {A : Option Addr} {n c : Nat} {zs : List Int} (h : OI w B A n c zs) : n ≤ c := by
  rcases h.form with ⟨_, rfl, rfl⟩ | ⟨g, cur, _, _, _, _, h1, _⟩
  · exact Nat.le_refl _
  · exact h1
/-- two rows apart -/
def Apart2 (A B : Option Addr) : Prop := ∀ b, blk A = some b → blk B ≠ some b
end Go.Proofs.YtgeeifjbfceogaaGreatDoor

/- One number appended to a row of the call's own. -/
import Derived.Test.YtbophchjbaodnaaDoorMgA
import Derived.Laws.AppendOwn
import Derived.OwnWalk
namespace Go.Proofs.YtbophchjbaodnaaDoor
open Go Go.RowKit

theorem I_append (xs ys : List Int) : I (xs ++ ys) = I xs ++ I ys := by simp [I]

theorem OI.of_own {w : World} {B : Nat} {v : Value} {n : Nat} {xs : List Value} {zs : List Int} (h : w.ownsRow B 3 1 v n xs) (hx : xs = I zs) : ∃ A c, v = .slice A n c ∧ OI w B A n c zs := by
  subst hx
  have hl : zs.length = n := by have := h.1; simpa [I] using this
  rcases h.2 with ⟨rfl, rfl⟩ | ⟨g, cap, cur, rfl, _⟩
  · exact ⟨none, 0, rfl, hl, h⟩
  · exact ⟨some ⟨g, 0, none⟩, cap, rfl, hl, h⟩

theorem OI.none_ (w : World) (B : Nat) : OI w B none 0 0 [] := ⟨rfl, World.ownsRow_nil _ _ _ _⟩

theorem ownBlock_eq (A : Option Addr) (n c : Nat) : (Value.slice A n c).ownBlock = blk A := by cases A <;> rfl

theorem wpList_append_int {ops : Array Oper} {rest : List Oper} {o : Oper} {a : Act} {Q : Exit → Act → World → Prop} (w : World) (hgd : o.guard = none) (s x : Operand)
    (ho : o.op = .call { callee := .builtin .append, args := #[s, x], argTypes := #[22, 22] })
    (B : Nat) (A : Option Addr) (n c : Nat) (zs : List Int) (z : Int) (b : Nat) (hs : a.eval s = .slice A n c) (hx : a.eval x = .slice (some ⟨b, 0, none⟩) 1 1) (hown : OI w B A n c zs)
    (hc : w.cell? ⟨b, 0, none⟩ = some (.int .i64 z)) (hn : n ≤ 1000000000000) (hB : B ≤ w.heap.size)
    (h : ∀ A' c' w', OI w' B A' (n + 1) c' (zs ++ [z]) → w.grownBy w' (blk A) → wpList Tryd.prog ops Q rest (a.put o.dst (.slice A' (n + 1) c')) w') : wpList Tryd.prog ops Q (o :: rest) a w := by
  obtain ⟨i0, hi0, hz0, hz1, hz2⟩ := info_parts infoInt
  refine wpList_append_own w hgd s x 22 ho B 3 i0 (.int .i64 0) 1 8 Tryd.underlying22 hi0 hz0 hz1 hz2 rfl (by decide) _ n (I zs) hs hown.2 ⟨b, 0, none⟩ 1 1 [.int .i64 z] hx rfl ?_ ?_ (by unfold maxLen; omega) (by omega) hB ?_
  · intro j u hu
    match j, hu with
    | 0, hu => simp at hu; subst hu; simpa [Addr.add] using hc
  · intro u hu
    simp at hu; subst hu; rfl
  · intro v' w' hown' hg _
    obtain ⟨A', c', rfl, ho'⟩ := OI.of_own (zs := zs ++ [z]) hown' (by simp [I])
    exact h A' c' w' ho' (by rwa [ownBlock_eq] at hg)

/-- the row has grown: nothing below it has turned -/
theorem belGrown {w wi wj : World} {B : Nat} {A : Option Addr} {n c : Nat} {zs : List Int} (h : Hid (Below w.heap.size w wi)) (ho : OI wi B A n c zs) (hg : wi.grownBy wj (blk A)) (hB : w.heap.size ≤ B) : Hid (Below w.heap.size w wj) :=
  h.out.grown hg h.out.size (fun k hk => by have := (ho.blk k hk).1; omega)
end Go.Proofs.YtbophchjbaodnaaDoor

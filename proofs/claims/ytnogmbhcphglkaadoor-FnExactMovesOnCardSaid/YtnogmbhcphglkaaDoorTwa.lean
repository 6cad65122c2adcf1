/- One text appended to a row of the call's own. -/
import Derived.Test.YtnogmbhcphglkaaDoorTw
import Derived.Test.YtnogmbhcphglkaaDoorApp
import Derived.Laws.AppendOwn
import Derived.OwnWalk
namespace Go.Proofs.YtnogmbhcphglkaaDoor
open Go Go.RowKit

theorem infoText : (Tryd.prog.info? 9).map (fun i => (i.zero, i.size, i.bytes)) = some (some (.string ⟨#[]⟩), 1, 16) := by kernel_rfl
theorem TS_append (xs ys : List (List UInt8)) : TS (xs ++ ys) = TS xs ++ TS ys := by simp [TS]

theorem OT.of_own {w : World} {B : Nat} {v : Value} {n : Nat} {xs : List Value} {zs : List (List UInt8)} (h : w.ownsRow B 9 1 v n xs) (hx : xs = TS zs) : ∃ A c, v = .slice A n c ∧ OT w B A n c zs := by
  subst hx
  have hl : zs.length = n := by have := h.1; simpa [TS] using this
  rcases h.2 with ⟨rfl, rfl⟩ | ⟨g, cap, cur, rfl, _⟩
  · exact ⟨none, 0, rfl, hl, h⟩
  · exact ⟨some ⟨g, 0, none⟩, cap, rfl, hl, h⟩

theorem OT.none_ (w : World) (B : Nat) : OT w B none 0 0 [] := ⟨rfl, World.ownsRow_nil _ _ _ _⟩

theorem wpList_append_text {ops : Array Oper} {rest : List Oper} {o : Oper} {a : Act} {Q : Exit → Act → World → Prop} (w : World) (hgd : o.guard = none) (s x : Operand)
    (ho : o.op = .call { callee := .builtin .append, args := #[s, x], argTypes := #[26, 26] })
    (B : Nat) (A : Option Addr) (n c : Nat) (zs : List (List UInt8)) (z : List UInt8) (b : Nat) (hs : a.eval s = .slice A n c) (hx : a.eval x = .slice (some ⟨b, 0, none⟩) 1 1) (hown : OT w B A n c zs)
    (hc : w.cell? ⟨b, 0, none⟩ = some (str z)) (hn : n ≤ 1000000000000) (hB : B ≤ w.heap.size)
    (h : ∀ A' c' w', OT w' B A' (n + 1) c' (zs ++ [z]) → w.grownBy w' (blk A) → wpList Tryd.prog ops Q rest (a.put o.dst (.slice A' (n + 1) c')) w') : wpList Tryd.prog ops Q (o :: rest) a w := by
  obtain ⟨i0, hi0, hz0, hz1, hz2⟩ := info_parts infoText
  refine wpList_append_own w hgd s x 26 ho B 9 i0 (.string ⟨#[]⟩) 1 16 Tryd.underlying26 hi0 hz0 hz1 hz2 rfl (by decide) _ n (TS zs) hs hown.2 ⟨b, 0, none⟩ 1 1 [str z] hx rfl ?_ ?_ (by unfold maxLen; omega) (by omega) hB ?_
  · intro j u hu
    match j, hu with
    | 0, hu => simp at hu; subst hu; simpa [Addr.add] using hc
  · intro u hu
    simp at hu; subst hu; rfl
  · intro v' w' hown' hg _
    obtain ⟨A', c', rfl, ho'⟩ := OT.of_own (zs := zs ++ [z]) hown' (by simp [TS])
    exact h A' c' w' ho' (by rwa [ownBlock_eq] at hg)

end Go.Proofs.YtnogmbhcphglkaaDoor

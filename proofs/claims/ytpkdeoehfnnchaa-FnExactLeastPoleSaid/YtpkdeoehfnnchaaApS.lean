/- One number appended to a row of the call's own in a region that draws its order; it is said where the new row lies. -/
import Derived.Test.YtpkdeoehfnnchaaApL
namespace Go.Proofs.Ytpkdeoehfnnchaa
open Go Go.RowKit

theorem step_append_intL {ops : Array Oper} {o : Oper} {a : Act} {K : Act → World → Prop} {Q : Exit → Act → World → Prop} {F : Prop} (w : World) (hgd : o.guard = none) (s x : Operand)
    (ho : o.op = .call { callee := .builtin .append, args := #[s, x], argTypes := #[22, 22] })
    (B : Nat) (A : Option Addr) (n c : Nat) (zs : List Int) (z : Int) (b : Nat) (hs : a.eval s = .slice A n c) (hx : a.eval x = .slice (some ⟨b, 0, none⟩) 1 1) (hown : OI w B A n c zs)
    (hc : w.cell? ⟨b, 0, none⟩ = some (.int .i64 z)) (hn : n ≤ 1000000000000) (hB : B ≤ w.heap.size)
    (h : ∀ A' c' w', OI w' B A' (n + 1) c' (zs ++ [z]) → w.grownBy w' (blk A) → (blk A' = blk A ∨ blk A' = some w.heap.size) → K (a.put o.dst (.slice A' (n + 1) c')) w') :
    if Region.wanted o (yielded ops a.tmps) = true then Oper.wp Try.prog o a w K Q else F := by
  obtain ⟨i0, hi0, hz0, hz1, hz2⟩ := info_parts infoInt
  refine step_append_lies w hgd s x 22 ho B 3 i0 (.int .i64 0) 1 8 Try.underlying22 hi0 hz0 hz1 hz2 rfl (by decide) _ n (I zs) hs hown.2 ⟨b, 0, none⟩ 1 1 [.int .i64 z] hx rfl ?_ ?_ (by omega) (by unfold maxLen; omega) (by omega) hB _ rfl ?_
  · intro j u hu
    match j, hu with
    | 0, hu => simp at hu; subst hu; simpa [Addr.add] using hc
  · intro u hu
    simp at hu; subst hu; rfl
  · intro g c' w' hown' hg hat _
    rw [ownBlock_eq] at hg hat
    refine h (some ⟨g, 0, none⟩) c' w' ⟨by have := hown.1; simp; omega, by simpa [I] using hown'⟩ hg ?_
    rcases hat with hat | hat
    · exact .inl hat.symm
    · exact .inr (by rw [hat]; rfl)
end Go.Proofs.Ytpkdeoehfnnchaa

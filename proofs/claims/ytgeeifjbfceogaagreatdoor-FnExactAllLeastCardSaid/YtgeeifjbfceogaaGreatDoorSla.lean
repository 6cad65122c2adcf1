/- A row appended to a row of rows, and where the new row of rows lies. -/
import Derived.Test.YtgeeifjbfceogaaGreatDoorMgF
import Derived.Deep.AppendLies
namespace Go.Proofs.YtgeeifjbfceogaaGreatDoor
open Go Go.RowKit

/-- all of it stays where a row is written whose block lies elsewhere -/
theorem OII.far {wi wj : World} {B M K : Nat} {A : Option Addr} {n c : Nat} {zss : List (List Int)} {S : List Sl} (h : OII wi B M A n c zss S) (hMK : M ≤ K) (hAK : ∀ b, blk A = some b → b < K) {A' : Option Addr} (hg : wi.grownBy wj (blk A')) (hf : ∀ b, blk A' = some b → b < B ∨ K ≤ b) : OII wj B M A n c zss S :=
  ⟨h.own.kept hg (by
    rcases h.form with ⟨rfl, rfl, rfl⟩ | ⟨g, cur, rfl, hB, _⟩
    · exact .inl rfl
    · exact .inr (by
        simp only [Value.ownBlock]
        intro e
        have h1 := hf g e.symm
        have h2 := hAK g rfl
        omega)), h.lS, h.lz, fun j s hs => (h.inn j s hs).kept hg (fun b hb e => by have h1 := ((h.inn j s hs).blk b hb).1; have h2 := hf b e; have h3 := h.lt j s hs b hb; omega), h.dis, h.lt, Nat.le_trans h.le hg.size⟩

theorem wpList_append_slA {ops : Array Oper} {rest : List Oper} {o : Oper} {a : Act} {Q : Exit → Act → World → Prop} (w : World) (hgd : o.guard = none) (s x : Operand)
    (ho : o.op = .call { callee := .builtin .append, args := #[s, x], argTypes := #[57, 57] })
    (B M : Nat) (A : Option Addr) (n c : Nat) (zss : List (List Int)) (S : List Sl) (A1 : Option Addr) (m d : Nat) (zs : List Int) (b : Nat) (hs : a.eval s = .slice A n c) (hx : a.eval x = .slice (some ⟨b, 0, none⟩) 1 1) (h : OII w B M A n c zss S) (h1 : OI w M A1 m d zs) (hBM : B ≤ M)
    (hc : w.cell? ⟨b, 0, none⟩ = some (.slice A1 m d)) (hn : n ≤ 1000000000000) (hB : B ≤ w.heap.size)
    (hQ : ∀ A' c' w', OII w' B w.heap.size A' (n + 1) c' (zss ++ [zs]) (S ++ [(A1, m, d)]) → w.grownBy w' (blk A) → (blk A' = blk A ∨ blk A' = some w.heap.size) → wpList Tryz.prog ops Q rest (a.put o.dst (.slice A' (n + 1) c')) w') : wpList Tryz.prog ops Q (o :: rest) a w := by
  obtain ⟨i0, hi0, hz0, hz1, hz2⟩ := info_parts infoSlice
  refine wpList_append_lies w hgd s x 57 ho B 22 i0 (.slice none 0 0) 1 24 Tryz.underlying57 hi0 hz0 hz1 hz2 rfl (by decide) _ n (S.map sl) hs h.own ⟨b, 0, none⟩ 1 1 [.slice A1 m d] hx rfl ?_ ?_ (by omega) (by unfold maxLen; omega) (by omega) hB _ rfl ?_
  · intro j u hu
    match j, hu with
    | 0, hu => simp at hu; subst hu; simpa [Addr.add] using hc
  · intro u hu
    simp at hu; subst hu; rfl
  · intro g c' w' hown' hg hat _
    rw [ownBlock_eq] at hg hat
    refine hQ (some ⟨g, 0, none⟩) c' w' (h.snoc h1 hBM hown' hg) hg ?_
    rcases hat with hat | hat
    · exact .inl hat.symm
    · exact .inr (by rw [hat]; rfl)
end Go.Proofs.YtgeeifjbfceogaaGreatDoor

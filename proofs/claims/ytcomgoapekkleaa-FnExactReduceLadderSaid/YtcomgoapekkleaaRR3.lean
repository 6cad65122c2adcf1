/- A row of numbers appended to a row of rows. -/
import Derived.Test.YtcomgoapekkleaaRR2
import Derived.Test.YtcomgoapekkleaaApp
namespace Go.Proofs.Ytcomgoapekkleaa
open Go Go.RowKit

theorem infoSlice : (Try.prog.info? 22).map (fun i => (i.zero, i.size, i.bytes)) = some (some (.slice none 0 0), 1, 24) := by kernel_rfl

theorem apart_types {w : World} {B B' : Nat} {A A1 : Option Addr} {n c m d : Nat} {zss : List (List Int)} {zs : List Int} {S : List Sl} {M : Nat} (h : OII w B M A n c zss S) (h1 : OI w B' A1 m d zs) : ∀ b, blk A1 = some b → blk A ≠ some b := by
  intro b hb e
  rcases h1.form with ⟨e1, _, _⟩ | ⟨g, cur, e1, _, _, hh, _⟩
  · rw [e1] at hb; simp [blk] at hb
  · rcases h.form with ⟨e2, _, _⟩ | ⟨g2, cur2, e2, _, _, hh2, _⟩
    · rw [e2] at e; simp [blk] at e
    · rw [e1] at hb
      rw [e2] at e
      simp [blk] at hb e
      subst hb
      rw [e, hh] at hh2
      injection hh2 with h5
      injection h5 with _ h6 _
      exact absurd h6 (by decide)

theorem OII.snoc {w w' : World} {B M : Nat} {A A' A1 : Option Addr} {n c c' m d : Nat} {zss : List (List Int)} {zs : List Int} {S : List Sl} (h : OII w B M A n c zss S) (h1 : OI w M A1 m d zs) (hBM : B ≤ M)
    (hown : w'.ownsRow B 22 1 (.slice A' (n + 1) c') (n + 1) (S.map sl ++ [sl (A1, m, d)])) (hg : w.grownBy w' (blk A)) : OII w' B w.heap.size A' (n + 1) c' (zss ++ [zs]) (S ++ [(A1, m, d)]) := by
  have hlz := h.lz
  have hlS := h.lS
  refine ⟨by simpa using hown, by simp [hlS], by simp [hlz], fun j s hs => ?_, fun i j s t hij hs ht b hb => ?_, fun j s hs b hb => ?_, hg.size⟩
  · by_cases e : j < n
    · rw [List.getElem?_append_left (by omega)] at hs
      have : gz (zss ++ [zs]) j = gz zss j := by simp [gz, List.getD, List.getElem?_append_left (show j < zss.length by omega)]
      rw [this]
      exact (h.inn j s hs).kept hg (fun b hb => h.apart hs b hb)
    · rw [List.getElem?_append_right (by omega)] at hs
      have hj : j = n := by
        have := (List.getElem?_eq_some_iff.1 hs).1
        simp at this; omega
      subst hj
      simp [hlS] at hs
      subst hs
      have : gz (zss ++ [zs]) j = zs := by simp [gz, List.getD, hlz]
      rw [this]
      exact (h1.mono hBM).kept hg (fun b hb => apart_types h h1 b hb)
  · by_cases ej : j < n
    · rw [List.getElem?_append_left (by omega)] at hs ht
      exact h.dis i j s t hij hs ht b hb
    · rw [List.getElem?_append_right (show S.length ≤ j by omega)] at ht
      have hj : j = n := by
        have := (List.getElem?_eq_some_iff.1 ht).1
        simp at this; omega
      subst hj
      simp [hlS] at ht
      subst ht
      rw [List.getElem?_append_left (by omega)] at hs
      intro e
      have l1 := h.lt i s hs b hb
      have l2 := (h1.blk b e).1
      omega
  · by_cases e : j < n
    · rw [List.getElem?_append_left (by omega)] at hs
      have := h.lt j s hs b hb
      have := h.le
      omega
    · rw [List.getElem?_append_right (by omega)] at hs
      have hj : j = n := by
        have := (List.getElem?_eq_some_iff.1 hs).1
        simp at this; omega
      subst hj
      simp [hlS] at hs
      subst hs
      exact (h1.blk b hb).2

theorem wpList_append_sl {ops : Array Oper} {rest : List Oper} {o : Oper} {a : Act} {Q : Exit → Act → World → Prop} (w : World) (hgd : o.guard = none) (s x : Operand)
    (ho : o.op = .call { callee := .builtin .append, args := #[s, x], argTypes := #[28, 28] })
    (B M : Nat) (A : Option Addr) (n c : Nat) (zss : List (List Int)) (S : List Sl) (A1 : Option Addr) (m d : Nat) (zs : List Int) (b : Nat) (hs : a.eval s = .slice A n c) (hx : a.eval x = .slice (some ⟨b, 0, none⟩) 1 1) (h : OII w B M A n c zss S) (h1 : OI w M A1 m d zs) (hBM : B ≤ M)
    (hc : w.cell? ⟨b, 0, none⟩ = some (.slice A1 m d)) (hn : n ≤ 1000000000000) (hB : B ≤ w.heap.size)
    (hQ : ∀ A' c' w', OII w' B w.heap.size A' (n + 1) c' (zss ++ [zs]) (S ++ [(A1, m, d)]) → w.grownBy w' (blk A) → wpList Try.prog ops Q rest (a.put o.dst (.slice A' (n + 1) c')) w') : wpList Try.prog ops Q (o :: rest) a w := by
  obtain ⟨i0, hi0, hz0, hz1, hz2⟩ := info_parts infoSlice
  refine wpList_append_own w hgd s x 28 ho B 22 i0 (.slice none 0 0) 1 24 Try.underlying28 hi0 hz0 hz1 hz2 rfl (by decide) _ n (S.map sl) hs h.own ⟨b, 0, none⟩ 1 1 [.slice A1 m d] hx rfl ?_ ?_ (by unfold maxLen; omega) (by omega) hB ?_
  · intro j u hu
    match j, hu with
    | 0, hu => simp at hu; subst hu; simpa [Addr.add] using hc
  · intro u hu
    simp at hu; subst hu; rfl
  · intro v' w' hown' hg _
    have hv : ∃ A' c', v' = .slice A' (n + 1) c' := by
      rcases hown'.2 with ⟨_, h0⟩ | ⟨g, cap, cur, e, _⟩
      · omega
      · exact ⟨_, _, e⟩
    obtain ⟨A', c', rfl⟩ := hv
    rw [ownBlock_eq] at hg
    exact hQ A' c' w' (h.snoc h1 hBM hown' hg) hg
end Go.Proofs.Ytcomgoapekkleaa

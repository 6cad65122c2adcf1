/- A ladder put behind a slice of ladders. -/
import Derived.Test.YtmlkccihpkpjfaaLL1
import Derived.Test.YtmlkccihpkpjfaaMgB
import Derived.OwnWalk
namespace Go.Proofs.Ytmlkccihpkpjfaa
open Go Go.RowKit

theorem infoLadS : (Try.prog.info? 26).map (fun i => (i.zero, i.size, i.bytes)) = some (some (.agg #[.int .i64 0, .slice none 0 0]), 2, 32) := by kernel_rfl
theorem info_partsS {i : Option TypeInfo} {z : Value} {s b : Nat} (h : i.map (fun i => (i.zero, i.size, i.bytes)) = some (some z, s, b)) : ∃ i0, i = some i0 ∧ i0.zero = some z ∧ i0.size = s ∧ i0.bytes = b := by
  obtain ⟨i0, h1, h2⟩ := Option.map_eq_some_iff.1 h
  simp only [Prod.mk.injEq] at h2
  exact ⟨i0, h1, h2.1, h2.2.1, h2.2.2⟩

theorem grownSetS (w : World) (p : Addr) (v : Value) : w.grownBy (w.setCell p v) (blk (some p)) :=
  grown_setCell (g := p.block) (grown_refl w _) (.inl rfl) v
theorem OLL.snoc {w w' : World} {B M : Nat} {A A' A1 : Option Addr} {n c c' m d : Nat} {Ws : List Int} {W : Int} {zss : List (List Int)} {zs : List Int} {S : List Sl} (h : OLL w B M A n c Ws zss S) (h1 : OI w M A1 m d zs) (hBM : B ≤ M)
    (hown : w'.ownsRow B 26 2 (.slice A' (n + 1) c') (n + 1) (lcs Ws S ++ [.int .i64 W, sl (A1, m, d)])) (hg : w.grownBy w' (blk A)) : OLL w' B w.heap.size A' (n + 1) c' (Ws ++ [W]) (zss ++ [zs]) (S ++ [(A1, m, d)]) := by
  have hlz := h.lz
  have hlS := h.lS
  have hlW := h.lW
  refine ⟨by rw [lcs_snoc _ _ (by omega)]; exact hown, by simp [hlW], by simp [hlS], by simp [hlz], fun j s hs => ?_, fun i j s t hij hs ht b hb => ?_, fun j s hs b hb => ?_, hg.size⟩
  · by_cases e : j < n
    · rw [List.getElem?_append_left (by omega)] at hs
      have : gz (zss ++ [zs]) j = gz zss j := by simp [gz, List.getD, List.getElem?_append_left (show j < zss.length by omega)]
      rw [this]
      exact (h.inn j s hs).kept hg (fun b hb => h.apart hs b hb)
    · rw [List.getElem?_append_right (by omega)] at hs
      have hj : j = n := by
        have := (List.getElem?_eq_some_iff.1 hs).1
        simp at this; omega
      subst hj
      simp [hlS] at hs
      subst hs
      have : gz (zss ++ [zs]) j = zs := by simp [gz, List.getD, hlz]
      rw [this]
      exact (h1.mono hBM).kept hg (fun b hb => h.apartOI h1 b hb)
  · by_cases ej : j < n
    · rw [List.getElem?_append_left (by omega)] at hs ht
      exact h.dis i j s t hij hs ht b hb
    · rw [List.getElem?_append_right (show S.length ≤ j by omega)] at ht
      have hj : j = n := by
        have := (List.getElem?_eq_some_iff.1 ht).1
        simp at this; omega
      subst hj
      simp [hlS] at ht
      subst ht
      rw [List.getElem?_append_left (by omega)] at hs
      intro e
      have l1 := h.lt i s hs b hb
      have l2 := (h1.blk b e).1
      omega
  · by_cases e : j < n
    · rw [List.getElem?_append_left (by omega)] at hs
      have := h.lt j s hs b hb
      have := h.le
      omega
    · rw [List.getElem?_append_right (by omega)] at hs
      have hj : j = n := by
        have := (List.getElem?_eq_some_iff.1 hs).1
        simp at this; omega
      subst hj
      simp [hlS] at hs
      subst hs
      exact (h1.blk b hb).2

theorem wpList_append_ld {ops : Array Oper} {rest : List Oper} {o : Oper} {a : Act} {Q : Exit → Act → World → Prop} (w : World) (hgd : o.guard = none) (s x : Operand)
    (ho : o.op = .call { callee := .builtin .append, args := #[s, x], argTypes := #[42, 42] })
    (B M : Nat) (A : Option Addr) (n c : Nat) (Ws : List Int) (zss : List (List Int)) (S : List Sl) (W : Int) (A1 : Option Addr) (m d : Nat) (zs : List Int) (b : Nat) (hs : a.eval s = .slice A n c) (hx : a.eval x = .slice (some ⟨b, 0, none⟩) 1 1) (h : OLL w B M A n c Ws zss S) (h1 : OI w M A1 m d zs) (hBM : B ≤ M)
    (hc0 : w.cell? ⟨b, 0, none⟩ = some (.int .i64 W)) (hc1 : w.cell? ⟨b, 1, none⟩ = some (.slice A1 m d)) (hn : n ≤ 1000000000000) (hB : B ≤ w.heap.size)
    (hQ : ∀ A' c' w', OLL w' B w.heap.size A' (n + 1) c' (Ws ++ [W]) (zss ++ [zs]) (S ++ [(A1, m, d)]) → w.grownBy w' (blk A) → wpList Try.prog ops Q rest (a.put o.dst (.slice A' (n + 1) c')) w') : wpList Try.prog ops Q (o :: rest) a w := by
  obtain ⟨i0, hi0, hz0, hz1, hz2⟩ := info_partsS infoLadS
  refine wpList_append_own w hgd s x 42 ho B 26 i0 (.agg #[.int .i64 0, .slice none 0 0]) 2 32 Try.underlying42 hi0 hz0 hz1 hz2 rfl (by decide) _ n (lcs Ws S) hs h.own ⟨b, 0, none⟩ 1 1 [.int .i64 W, .slice A1 m d] hx rfl ?_ ?_ (by unfold maxLen; omega) (by omega) hB ?_
  · intro j u hu
    match j, hu with
    | 0, hu => simp at hu; subst hu; simpa [Addr.add] using hc0
    | 1, hu => simp at hu; subst hu; simpa [Addr.add] using hc1
  · intro u hu
    simp at hu
    rcases hu with rfl | rfl <;> rfl
  · intro v' w' hown' hg _
    have hv : ∃ A' c', v' = .slice A' (n + 1) c' := by
      rcases hown'.2 with ⟨_, h0⟩ | ⟨g, cap, cur, e, _⟩
      · omega
      · exact ⟨_, _, e⟩
    obtain ⟨A', c', rfl⟩ := hv
    rw [ownBlock_eq] at hg
    exact hQ A' c' w' (h.snoc h1 hBM hown' hg) hg

/-- a row of numbers beside it has grown, or was written -/
theorem OLL.keptRow' {wi wj : World} {B M K : Nat} {A A1 : Option Addr} {n c m d : Nat} {Ws : List Int} {zss : List (List Int)} {zs : List Int} {S : List Sl} (h : OLL wi B M A n c Ws zss S) (h1 : OI wi K A1 m d zs) (hMK : M ≤ K) (hg : wi.grownBy wj (blk A1)) : OLL wj B M A n c Ws zss S := by
  refine ⟨h.own.kept hg ?_, h.lW, h.lS, h.lz, fun j s hs => (h.inn j s hs).kept hg (fun b hb e => ?_), h.dis, h.lt, Nat.le_trans h.le hg.size⟩
  · rcases h.form with ⟨rfl, rfl, rfl⟩ | ⟨g, cur, rfl, hB, _⟩
    · exact .inl rfl
    · refine .inr ?_
      simp only [Value.ownBlock]
      intro e
      exact h.apartOI h1 g e.symm rfl
  · have l1 := h.lt j s hs b hb
    have l2 := (h1.blk b e).1
    omega
/-- .. or a new block was written that is no part of it -/
theorem OLL.blkLt {w : World} {B M : Nat} {A : Option Addr} {n c : Nat} {Ws : List Int} {zss : List (List Int)} {S : List Sl} (h : OLL w B M A n c Ws zss S) : ∀ x, blk A = some x → x < w.heap.size := by
  intro x hx
  rcases h.form with ⟨rfl, _, _⟩ | ⟨g, cur, rfl, _, hg, _⟩
  · simp [blk] at hx
  · simp [blk] at hx; omega
theorem OLL.setNew {w : World} {B M : Nat} {A : Option Addr} {n c : Nat} {Ws : List Int} {zss : List (List Int)} {S : List Sl} (h : OLL w B M A n c Ws zss S) {p : Addr} (hp : blk A ≠ some p.block) (hp2 : ∀ (j : Nat) (s : Sl), S[j]? = some s → blk s.1 ≠ some p.block) (v : Value) : OLL (w.setCell p v) B M A n c Ws zss S := by
  have hg := grownSetS w p v
  refine ⟨h.own.kept hg ?_, h.lW, h.lS, h.lz, fun j s hs => (h.inn j s hs).kept hg (fun b hb e => ?_), h.dis, h.lt, Nat.le_trans h.le hg.size⟩
  · rcases h.form with ⟨rfl, rfl, rfl⟩ | ⟨g, cur, rfl, hB, _⟩
    · exact .inl rfl
    · refine .inr ?_
      simp only [Value.ownBlock]
      intro e
      apply hp
      simp [blk] at e ⊢
      exact e
  · apply hp2 j s hs
    rw [hb]
    simp [blk] at e
    rw [e]
/-- a new slice of ladders of the call's own, and whether it is one -/
def FreshLSB (w : World) (Ws : List Int) (zss : List (List Int)) (b : Bool) (e : Ending) (w' : World) : Prop :=
  ∃ A c M S, e = .returned (.tuple #[.slice A zss.length c, .bool b]) ∧ OLL w' w.heap.size M A zss.length c Ws zss S ∧ Below w.heap.size w w'
end Go.Proofs.Ytmlkccihpkpjfaa

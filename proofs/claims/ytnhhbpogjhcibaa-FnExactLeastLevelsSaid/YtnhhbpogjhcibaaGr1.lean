/- A new slice of slices that is filled part by part. -/
import Derived.Test.YtnhhbpogjhcibaaMgF
import Derived.Test.YtnhhbpogjhcibaaStP
import Derived.Test.YtnhhbpogjhcibaaLB
import Derived.Deep.WholeRow
namespace Go.Proofs.Ytnhhbpogjhcibaa
open Go Go.RowKit

theorem infoSlI : (Try.prog.info? 22).map (fun i => (i.zero, i.size, i.bytes)) = some (some (.slice none 0 0), 1, 24) := by kernel_rfl
def slotV (S : List Sl) (j : Nat) : Value := match S[j]? with | some s => sl s | none => .slice none 0 0
theorem slotV_none {S : List Sl} {j : Nat} (h : S.length ≤ j) : slotV S j = .slice none 0 0 := by unfold slotV; rw [List.getElem?_eq_none h]
theorem slotV_snoc {S : List Sl} (s : Sl) (j : Nat) : slotV (S ++ [s]) j = if j = S.length then sl s else slotV S j := by
  unfold slotV
  by_cases e : j = S.length
  · subst e; simp
  · rw [if_neg e]
    by_cases e2 : j < S.length
    · rw [List.getElem?_append_left e2]
    · rw [List.getElem?_eq_none (by simp; omega), List.getElem?_eq_none (by omega)]
/-- a made slice of N slices in block g, of which the first ones lie in S -/
structure GR (w : World) (g M N : Nat) (F : Nat → List Int) (S : List Sl) : Prop where
  row : w.rowIs g 22 N (slotV S)
  inn : ∀ (j : Nat) (s : Sl), S[j]? = some s → OI w (g + 1) s.1 s.2.1 s.2.2 (F j)
  dis : ∀ (i j : Nat) (s t : Sl), i < j → S[i]? = some s → S[j]? = some t → ∀ b, blk s.1 = some b → blk t.1 ≠ some b
  lt : ∀ (j : Nat) (s : Sl), S[j]? = some s → ∀ b, blk s.1 = some b → b < M
  le : M ≤ w.heap.size
  gM : g < M
section
variable {w wi wj : World} {g M N : Nat} {F : Nat → List Int} {S : List Sl}
theorem GR.step (h : GR wi g M N F S) (hb : Below wi.heap.size wi wj) : GR wj g M N F S :=
  ⟨(rowStep (Lib.hid h.row) hb).out, fun j s hs => (h.inn j s hs).below hb, h.dis, h.lt, Nat.le_trans h.le hb.size, h.gM⟩
theorem GR.snoc (h : GR wi g M N F S) {A : Option Addr} {m d : Nat} (ho : OI wi M A m d (F S.length)) (_hk : S.length < N) : GR (wi.setCell ⟨g, S.length, none⟩ (.slice A m d)) g wi.heap.size N F (S ++ [(A, m, d)]) := by
  have hg := h.gM
  refine ⟨(h.row.set S.length _).congr (fun j hj => by rw [slotV_snoc]; rfl), fun j s hs => ?_, fun i j s t hij hs ht b hb => ?_, fun j s hs b hb => ?_, by simp [World.setCell], Nat.lt_of_lt_of_le hg h.le⟩
  · by_cases e : j < S.length
    · rw [List.getElem?_append_left e] at hs
      exact (h.inn j s hs).setBelow (by simp) _
    · rw [List.getElem?_append_right (by omega)] at hs
      have hj : j = S.length := by
        have := (List.getElem?_eq_some_iff.1 hs).1
        simp at this; omega
      subst hj
      simp at hs
      subst hs
      exact (ho.mono (by omega)).setBelow (by simp) _
  · by_cases ej : j < S.length
    · rw [List.getElem?_append_left (by omega)] at hs ht
      exact h.dis i j s t hij hs ht b hb
    · rw [List.getElem?_append_right (by omega)] at ht
      have hj : j = S.length := by
        have := (List.getElem?_eq_some_iff.1 ht).1
        simp at this; omega
      subst hj
      simp at ht
      subst ht
      rw [List.getElem?_append_left (by omega)] at hs
      intro e
      have l1 := h.lt i s hs b hb
      have l2 := (ho.blk b e).1
      omega
  · by_cases e : j < S.length
    · rw [List.getElem?_append_left e] at hs
      exact Nat.lt_of_lt_of_le (h.lt j s hs b hb) h.le
    · rw [List.getElem?_append_right (by omega)] at hs
      have hj : j = S.length := by
        have := (List.getElem?_eq_some_iff.1 hs).1
        simp at this; omega
      subst hj
      simp at hs
      subst hs
      exact (ho.blk b hb).2
theorem GR.oii (h : GR w g M N F S) (hS : S.length = N) {zss : List (List Int)} (hz : zss.length = N) (hF : ∀ j, j < N → gz zss j = F j) (hN : N ≤ maxLen) {B : Nat} (hB : B ≤ g) : OII w B M (some ⟨g, 0, none⟩) N N zss S := by
  obtain ⟨cs, hh, hs, hc⟩ := h.row
  refine ⟨⟨by simp [hS], .inr ⟨g, N, cs, rfl, hB, hh, Nat.le_refl _, hN, by simpa using hs, ?_⟩⟩, hS, hz, fun j s hs2 => ?_, h.dis, h.lt, h.le⟩
  · apply List.ext_getElem?
    intro j
    by_cases hj : j < N
    · have h1 := hc j hj
      have h2 : S[j]? = some (S[j]'(by omega)) := List.getElem?_eq_getElem (by omega)
      unfold slotV at h1
      rw [h2] at h1
      rw [List.getElem?_map, h2]
      simp [hj]
      simpa using h1
    · rw [List.getElem?_eq_none (by simp; omega), List.getElem?_eq_none (by simp; omega)]
  · have hj : j < N := by have := (List.getElem?_eq_some_iff.1 hs2).1; omega
    rw [hF j hj]
    exact (h.inn j s hs2).mono (by omega)
end


theorem rowBelow {wi wj : World} {b t n K : Nat} {f : Nat → Value} (h : wi.rowIs b t n f) (hb : Below K wi wj) (hk : b < K) : wj.rowIs b t n f := by
  obtain ⟨cs, hh, h1, h2⟩ := h
  exact ⟨cs, (hb.block b hk).trans hh, h1, h2⟩
/-- .. whose next part is being made -/
structure GP (w : World) (g M N : Nat) (F : Nat → List Int) (S : List Sl) (A : Option Addr) (m c : Nat) (zs : List Int) : Prop where
  row : w.rowIs g 22 N (fun j => if j = S.length then .slice A m c else slotV S j)
  inn : ∀ (j : Nat) (s : Sl), S[j]? = some s → OI w (g + 1) s.1 s.2.1 s.2.2 (F j)
  dis : ∀ (i j : Nat) (s t : Sl), i < j → S[i]? = some s → S[j]? = some t → ∀ b, blk s.1 = some b → blk t.1 ≠ some b
  lt : ∀ (j : Nat) (s : Sl), S[j]? = some s → ∀ b, blk s.1 = some b → b < M
  own : OI w M A m c zs
  le : M ≤ w.heap.size
  gM : g < M
section
variable {w wi wj : World} {g M N m c : Nat} {F : Nat → List Int} {S : List Sl} {A : Option Addr} {zs : List Int}
theorem GR.start (h : GR w g M N F S) : GP w g w.heap.size N F S none 0 0 [] :=
  ⟨h.row.congr (fun j _ => by
    by_cases e : j = S.length
    · subst e; simp [slotV_none (Nat.le_refl _)]
    · simp [e]), h.inn, h.dis, fun j s hs b hb => Nat.lt_of_lt_of_le (h.lt j s hs b hb) h.le, OI.none_ _ _, Nat.le_refl _, Nat.lt_of_lt_of_le h.gM h.le⟩
theorem GP.step (h : GP wi g M N F S A m c zs) (hb : Below wi.heap.size wi wj) : GP wj g M N F S A m c zs :=
  ⟨(rowStep (Lib.hid h.row) hb).out, fun j s hs => (h.inn j s hs).below hb, h.dis, h.lt, h.own.below hb, Nat.le_trans h.le hb.size, h.gM⟩
theorem GP.cell (h : GP w g M N F S A m c zs) (hk : S.length < N) : w.cell? ⟨g, S.length, none⟩ = some (.slice A m c) := by
  have := h.row.cell hk
  simpa using this
theorem GP.app (h : GP wi g M N F S A m c zs) {A' : Option Addr} {m' c' : Nat} {zs' : List Int} (ho : OI wj M A' m' c' zs') (hg : wi.grownBy wj (blk A)) (_hk : S.length < N) :
    GP (wj.setCell ⟨g, S.length, none⟩ (.slice A' m' c')) g M N F S A' m' c' zs' := by
  have hb : Below M wi wj := ofMark h.own hg (Nat.le_refl _) h.le
  have hgM := h.gM
  refine ⟨((rowBelow h.row hb h.gM).set S.length _).congr (fun j _ => by
      by_cases e : j = S.length
      · simp [e]
      · simp [e]), fun j s hs => ?_, h.dis, h.lt, ho.setBelow (by simpa using h.gM) _, ?_, h.gM⟩
  · refine ((h.inn j s hs).kept hg (fun b hb2 e => ?_)).setBelow (by simp) _
    have h1 := h.lt j s hs b hb2
    have h2 := (h.own.blk b e).1
    omega
  · have := hb.size; have := h.le
    show M ≤ _
    simp [World.setCell]; omega
theorem GP.done (h : GP w g M N F S A m c zs) (hz : zs = F S.length) : GR w g w.heap.size N F (S ++ [(A, m, c)]) := by
  subst hz
  have hgM := h.gM
  refine ⟨h.row.congr (fun j hj => by rw [slotV_snoc]; rfl), fun j s hs => ?_, fun i j s t hij hs ht b hb => ?_, fun j s hs b hb => ?_, Nat.le_refl _, Nat.lt_of_lt_of_le hgM h.le⟩
  · by_cases e : j < S.length
    · rw [List.getElem?_append_left e] at hs
      exact h.inn j s hs
    · rw [List.getElem?_append_right (by omega)] at hs
      have hj : j = S.length := by
        have := (List.getElem?_eq_some_iff.1 hs).1
        simp at this; omega
      subst hj
      simp at hs
      subst hs
      exact h.own.mono (by omega)
  · by_cases ej : j < S.length
    · rw [List.getElem?_append_left (by omega)] at hs ht
      exact h.dis i j s t hij hs ht b hb
    · rw [List.getElem?_append_right (by omega)] at ht
      have hj : j = S.length := by
        have := (List.getElem?_eq_some_iff.1 ht).1
        simp at this; omega
      subst hj
      simp at ht
      subst ht
      rw [List.getElem?_append_left (by omega)] at hs
      intro e
      have l1 := h.lt i s hs b hb
      have l2 := (h.own.blk b e).1
      omega
  · by_cases e : j < S.length
    · rw [List.getElem?_append_left e] at hs
      exact Nat.lt_of_lt_of_le (h.lt j s hs b hb) h.le
    · rw [List.getElem?_append_right (by omega)] at hs
      have hj : j = S.length := by
        have := (List.getElem?_eq_some_iff.1 hs).1
        simp at this; omega
      subst hj
      simp at hs
      subst hs
      exact (h.own.blk b hb).2
end
end Go.Proofs.Ytnhhbpogjhcibaa

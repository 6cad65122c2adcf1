/- The contracts of TurnLadder, of the program and of its model. -/
import Derived.Test.YtjdkicanamengaaMgE
import Derived.BigRegion
namespace Go.Proofs.Ytjdkicanamengaa
open Go Go.RowKit

/-- the list with its first i and its last i numbers exchanged -/
def Turned (zs ys : List Int) (n i : Nat) : Prop := ∀ p, p < n → gi ys p = if p < i ∨ n - i ≤ p then gi zs (n - 1 - p) else gi zs p

set_option maxRecDepth 100000 in
set_option maxHeartbeats 4000000 in
theorem reverse_any (B : Nat) (A : Option Addr) (n c : Nat) (zs : List Int) (w : World) (h : OI w B A n c zs) (hn : n ≤ 1000000) :
    Calls Try.prog 61 #[.slice A n c] w (fun e w' => e = .returned (.tuple #[]) ∧ OI w' B A n c zs.reverse ∧ w.grownBy w' (blk A)) := by
  go_enter Try.func61, Try.ntmps61
  go_wp2
  go_loopw [2, 3] (fun s2 s3 wr => ∃ (i : Nat) (j' : Int) (ys : List Int), 2 * i ≤ n ∧ s2 = .int .i64 i ∧ s3 = .int .i64 j' ∧ j' = (n : Int) - 1 - i ∧ OI wr B A n c ys ∧ Turned zs ys n i ∧ w.grownBy wr (blk A)) (fun s2 _ _ => n - (intOf s2).toNat)
  case atStart => exact ⟨0, _, zs, by omega, rfl, rfl, by omega, h, fun p hp => by rw [if_neg (by omega)], grown_refl _ _⟩
  case round =>
    obtain ⟨i, j', ys, hi, rfl, rfl, hj', ho, ht, hg⟩ := hrel
    have HO := Lib.hid ho
    have HT := Lib.hid ht
    have HG := Lib.hid hg
    have HJ := Lib.hid hj'
    clear ht hg ho
    by_cases hlt : (i : Int) < j'
    · obtain ⟨j, rfl⟩ : ∃ j : Nat, j' = (j : Int) := ⟨j'.toNat, by omega⟩
      have hij : i < j := by omega
      have hjn : j < n := by omega
      have hjj : j = n - 1 - i := by omega
      rcases HO.out.form with ⟨_, _, h0⟩ | ⟨g, cur, rfl, hBg, hgw, hh, h1, h2, h3, h4⟩
      · omega
      have hcell : ∀ p, p < n → wr.cell? ⟨g, p, none⟩ = some (.int .i64 (gi ys p)) := by
        obtain ⟨b', off', e, _, hc'⟩ := HO.out.ri.cell (j := i) (by omega)
        injection e with e; injection e with e1 e2 e3
        subst e1 e2
        intro p hp
        have := hc' p hp
        rwa [Nat.zero_add] at this
      have ci := hcell i (by omega)
      have cj := hcell j hjn
      have fi : wr.frozen? ⟨g, i, none⟩ = false := HO.out.2.frozenAt i
      have fj : wr.frozen? ⟨g, j, none⟩ = false := HO.out.2.frozenAt j
      have HJJ := Lib.hid hjj
      clear hcell hh h4 h3 h2 hj' hjj h
      go_wp2
      go_region
      all_goals
        go_wp2
        go_roundw
        case rel =>
          refine ⟨i + 1, _, (ys.set i (gi ys j)).set j (gi ys i), by have := HJJ.out; omega, by go_num, rfl, by have := HJJ.out; omega, ?_, ?_, ?_⟩
          · exact (HO.out.stored i _).stored j _
          · intro p hp
            have hl := HO.out.1
            have hj := HJJ.out
            have hi' : gi ys i = gi zs i := by rw [HT.out i (by omega), if_neg (by omega)]
            have hj' : gi ys j = gi zs j := by rw [HT.out j hjn, if_neg (by omega)]
            rw [gi_set _ _ _ _ (by rw [List.length_set]; omega), gi_set _ _ _ _ (by omega), hi', hj']
            by_cases e1 : p = j
            · rw [if_pos e1, if_pos (by omega), e1, show n - 1 - j = i by omega]
            · rw [if_neg e1]
              by_cases e2 : p = i
              · rw [if_pos e2, if_pos (by omega), e2, show n - 1 - i = j by omega]
              · rw [if_neg e2, HT.out p hp]
                by_cases e3 : p < i ∨ n - i ≤ p
                · rw [if_pos e3, if_pos (by omega)]
                · rw [if_neg e3, if_neg (by omega)]
          · exact grown_drew (grown_setCell (g := g) (p := ⟨g, j, none⟩) (grown_setCell (g := g) (p := ⟨g, i, none⟩) HG.out (.inl rfl) _) (.inl rfl) _)
        case measure => simp [intOf]; omega
    · have hl := HO.out.1
      have e : ys = zs.reverse := by
        apply gi_ext (by rw [List.length_reverse, h.1, hl])
        intro p hp
        have hpn : p < zs.length := by rw [h.1]; omega
        have hr : gi zs.reverse p = gi zs (n - 1 - p) := by
          rw [gi_lt (by rw [List.length_reverse]; exact hpn), gi_lt (by rw [h.1]; omega), List.getElem_reverse]
          simp only [h.1]
        rw [HT.out p (by omega), hr]
        split
        · rfl
        · congr 1; have := HJ.out; omega
      go_wp2
      go_end0
      exact ⟨rfl, by rw [← e]; exact HO.out, HG.out⟩

theorem revN_len (W : Int) (zs : List Int) : (ifL (lad W zs) zs.reverse).length ≤ 1000 := by
  rcases h : lad W zs with _ | _
  · rw [ifL_no]; simp
  · rw [ifL_yes, List.length_reverse]
    have := (lad_iff.1 h).2.1
    omega

end Go.Proofs.Ytjdkicanamengaa

/- LeastLevels, of the program: the first level that makes an order easier. -/
import Derived.Test.YtnhhbpogjhcibaaLc1
import Derived.Laws.EntriesVeiled
namespace Go.Proofs.Ytnhhbpogjhcibaa
open Go Go.RowKit Go.Maps

/-- where the first level stands that makes the order easier -/
noncomputable def fstI (n : Nat) (p : List Int) : Nat := (LV n).findIdx fun l => decide (dep n (top p l) < dep n p)
theorem gz_get {L : List (List Int)} {j : Nat} (h : j < L.length) : gz L j = L[j] := by simp [gz, List.getD, h]
theorem fstI_before {n : Nat} {p : List Int} {j : Nat} (h : j < fstI n p) : ¬ dep n (top p (gz (LV n) j)) < dep n p := by
  have h1 : j < (LV n).length := Nat.lt_of_lt_of_le h List.findIdx_le_length
  have h3 := List.not_of_lt_findIdx h
  rw [gz_get h1]
  simpa using h3
theorem fstI_at {n : Nat} {p : List Int} (h : fstI n p < (LV n).length) : dep n (top p (gz (LV n) (fstI n p))) < dep n p := by
  have h3 := List.findIdx_getElem (w := h)
  rw [gz_get h]
  exact of_decide_eq_true h3
theorem fstI_is {n : Nat} {p : List Int} {j : Nat} (hj : j < (LV n).length) (h : dep n (top p (gz (LV n) j)) < dep n p) (hb : ∀ i, i < j → ¬ dep n (top p (gz (LV n) i)) < dep n p) : fstI n p = j := by
  have hlt : fstI n p < (LV n).length := by
    unfold fstI
    rw [List.findIdx_lt_length]
    exact ⟨gz (LV n) j, mem_gz.2 ⟨j, hj, rfl⟩, by simpa using h⟩
  rcases Nat.lt_trichotomy (fstI n p) j with h1 | h1 | h1
  · exact absurd (fstI_at hlt) (hb _ h1)
  · exact h1
  · exact absurd h (fstI_before h1)
theorem fstI_lt {n : Nat} (h2 : 2 ≤ n) (h6 : n ≤ 6) {p : List Int} (hp : OKp n p) (h : 0 < dep n p) : fstI n p < (LV n).length := by
  obtain ⟨m, hm⟩ : ∃ m, dep n p = m + 1 := ⟨dep n p - 1, by omega⟩
  obtain ⟨l, hl, h3⟩ := dep_down h2 h6 hp hm
  unfold fstI
  rw [List.findIdx_lt_length]
  exact ⟨l, hl, by simp; omega⟩

set_option maxRecDepth 100000 in
set_option maxHeartbeats 2000000 in
theorem indexFunc_any (n b4 b7 bm nb B M : Nat) (D : DataW Unit) (p : List Int) (AL : Option Addr) (cL : Nat) (SL : List Sl) (w : World) (h2 : 2 ≤ n) (h6 : n ≤ 6) (hB : B ≤ w.heap.size) (h : Lk w n b4 b7 bm nb D p) (hL : OII w B M AL (LV n).length cL (LV n) SL) (hp : 0 < dep n p) :
    Calls Try.prog 62 #[.slice AL (LV n).length cL, .func (.func 63) #[] #[.pointer (some ⟨b4, 0, none⟩), .pointer (some ⟨b7, 0, none⟩)]] w (RetI (fstI n p : Int) w) := by
  have hLl := LV_len' n h6
  have hlt := fstI_lt h2 h6 h.ok hp
  have HLK := Lib.hid h
  have HL := Lib.hid hL
  have HLT := Lib.hid hlt
  clear h hL hlt
  go_enter Try.func62, Try.ntmps62
  go_wp2
  go_loopw [5, 8] (fun _ i wr => ∃ (j : Nat), i = .int .i64 (j : Int) ∧ j ≤ fstI n p ∧ Lk wr n b4 b7 bm nb D p ∧ OII wr B M AL (LV n).length cL (LV n) SL ∧ Below w.heap.size w wr) (fun _ i _ => 300000 - (intOf i).toNat)
  case atStart => exact ⟨0, by go_num, Nat.zero_le _, HLK.out, HL.out, Below.refl _ _⟩
  case round =>
    obtain ⟨j, rfl, hj, hlk, hL, hb⟩ := hrel
    have HLKr := Lib.hid hlk
    have HLr := Lib.hid hL
    have HBr := Lib.hid hb
    have hjl : j < (LV n).length := Nat.lt_of_le_of_lt hj HLT.out
    obtain ⟨gl, la, lm, ld, rfl, hgl, _, _, hcl, hol⟩ := hL.row hjl
    have hl : gz (LV n) j ∈ LV n := mem_gz.2 ⟨j, hjl, rfl⟩
    have hlm : lm ≤ 1048576 := by rw [← hol.1]; have := lvK_row n n 0 _ hl; omega
    have HCC := Lib.hid (leastC_any n b4 b7 bm nb D p la lm ld (gz (LV n) j) wr h2 h6 hlk hol.ri hlm hl)
    have j0 : (0 : Int) ≤ (j : Int) := by omega
    have j1 : (j : Int) < ((LV n).length : Int) := by omega
    have HJ := Lib.hid hj
    obtain ⟨q, hq⟩ : ∃ q, q = decide (dep n (top p (gz (LV n) j)) < dep n p) := ⟨_, rfl⟩
    rw [← hq] at HCC
    have HQ := Lib.hid hq
    clear hlk hL hb hol hq hj hl
    go_wp2_with fail
    refine HCC.out.mono ?_
    rintro e w5 ⟨rfl, hb5⟩
    have HLK5 := Lib.hid (HLKr.out.below hb5)
    have HL5 := Lib.hid (HLr.out.below hb5)
    have HB5 := Lib.hid (HBr.out.trans (hb5.mono HBr.out.size))
    clear hb5
    rcases q with _ | _
    · have hne : ¬ dep n (top p (gz (LV n) j)) < dep n p := of_decide_eq_false HQ.out.symm
      have hj2 : j < fstI n p := by
        rcases Nat.lt_or_ge j (fstI n p) with h | h
        · exact h
        · have e : j = fstI n p := by have := HJ.out; omega
          rw [e] at hne
          exact absurd (fstI_at HLT.out) hne
      clear hne
      go_wp2
      go_roundw
      case rel => exact ⟨j + 1, by go_num, hj2, HLK5.out, HL5.out, HB5.out⟩
      case measure => simp [intOf]; omega
    · have hyes : dep n (top p (gz (LV n) j)) < dep n p := of_decide_eq_true HQ.out.symm
      have e : fstI n p = j := fstI_is hjl hyes (fun i hi => fstI_before (by have := HJ.out; omega))
      have HE := Lib.hid e
      clear hyes e
      go_wp2
      go_ret
      rw [HE.out]
      exact ⟨rfl, HB5.out⟩
end Go.Proofs.Ytnhhbpogjhcibaa

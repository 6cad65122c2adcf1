/- How many of some lists are sorted, and the first one that is not. -/
import Derived.Test.YtbfilmdociemmaaSo10
import Derived.Test.YtbfilmdociemmaaOii
namespace Go.Proofs.Ytbfilmdociemmaa
open Go Go.RowKit

/-- how many of the first j lists are sorted -/
def cntK (zs : List Int) (L : List (List Int)) : Nat → Nat
  | 0 => 0
  | j + 1 => cntK zs L j + (if srtB (runS zs (gz L j)) = true then 1 else 0)
theorem cntK_le (zs : List Int) (L : List (List Int)) : ∀ j, cntK zs L j ≤ j
  | 0 => Nat.le_refl _
  | j + 1 => by have := cntK_le zs L j; simp only [cntK]; split <;> omega
theorem cntK_yes {zs : List Int} {L : List (List Int)} {j : Nat} (h : srtB (runS zs (gz L j)) = true) : cntK zs L (j + 1) = cntK zs L j + 1 := by simp only [cntK]; rw [if_pos h]
theorem cntK_no {zs : List Int} {L : List (List Int)} {j : Nat} (h : srtB (runS zs (gz L j)) = false) : cntK zs L (j + 1) = cntK zs L j := by simp only [cntK]; rw [if_neg (by rw [h]; decide)]; rfl
/-- the first one that is not sorted -/
def fuB (zs : List Int) (L : List (List Int)) : Bool := L.any fun v => !srtB (runS zs v)
def fuL (zs : List Int) (L : List (List Int)) : List Int := (L.find? fun v => !srtB (runS zs v)).getD []
theorem fu_cons (zs v : List Int) (L : List (List Int)) : (fuB zs (v :: L) = if srtB (runS zs v) = true then fuB zs L else true) ∧ (fuL zs (v :: L) = if srtB (runS zs v) = true then fuL zs L else v) := by
  unfold fuB fuL
  rcases h : srtB (runS zs v) with _ | _
  · simp [List.find?, h]
  · simp [List.find?, h]
theorem fu_all {zs : List Int} {L : List (List Int)} (h : ∀ i, i < L.length → srtB (runS zs (gz L i)) = true) : fuB zs L = false ∧ fuL zs L = [] := by
  induction L with
  | nil => exact ⟨rfl, rfl⟩
  | cons v L ih =>
    have h0 : srtB (runS zs v) = true := h 0 (by simp)
    have ih' := ih (fun i hi => h (i + 1) (by simpa using hi))
    rw [(fu_cons zs v L).1, (fu_cons zs v L).2, if_pos h0, if_pos h0]
    exact ih'
theorem fu_at {zs : List Int} {L : List (List Int)} {j : Nat} (hj : j < L.length) (h : ∀ i, i < j → srtB (runS zs (gz L i)) = true) (hn : srtB (runS zs (gz L j)) = false) : fuB zs L = true ∧ fuL zs L = gz L j := by
  induction L generalizing j with
  | nil => simp at hj
  | cons v L ih =>
    rw [(fu_cons zs v L).1, (fu_cons zs v L).2]
    rcases j with _ | j
    · have h0 : srtB (runS zs v) = false := hn
      rw [if_neg (by rw [h0]; decide), if_neg (by rw [h0]; decide)]
      exact ⟨rfl, rfl⟩
    · have h0 : srtB (runS zs v) = true := h 0 (by omega)
      rw [if_pos h0, if_pos h0]
      exact ih (j := j) (by simpa using hj) (fun i hi => h (i + 1) (by omega)) hn

set_option maxRecDepth 100000 in
set_option maxHeartbeats 1000000 in
theorem countSorted_any (A : Option Addr) (m c : Nat) (zs : List Int) (K : Nat) (A2 : Option Addr) (p c2 : Nat) (L : List (List Int)) (n : Nat) (w : World) (h : RI w A m zs) (h2 : RBB w K A2 p L) (hn : n ≤ 8) (h0 : 0 < n) (hm : m ≤ 60) (hz : rungsIn zs n) (hp : p ≤ 1000000) (hl : ∀ j, j < p → (gz L j).length = n) :
    Calls Try.prog 50 #[.slice A m c, .slice A2 p c2] w (RetI (cntK zs L p) w) := by
  have HR := Lib.hid h
  have HLs := Lib.hid h2
  have HL := Lib.hid hl
  clear h h2 hl
  go_enter Try.func50, Try.ntmps50
  go_wp2
  go_loopw [5, 10] (fun s i wr => ∃ k : Nat, k ≤ p ∧ i = .int .i64 k ∧ s = .int .i64 (cntK zs L k : Int) ∧ Below w.heap.size w wr) (fun _ i _ => p - (intOf i).toNat)
  case atStart => exact ⟨0, Nat.zero_le _, rfl, rfl, Below.refl _ _⟩
  case round =>
    obtain ⟨k, hk, rfl, rfl, hb⟩ := hrel
    have HB := Lib.hid hb
    have hck := cntK_le zs L k
    by_cases hlt : k < p
    · have HR2 := Lib.hid (HR.out.below hb (Nat.le_refl _))
      obtain ⟨b, off, rfl, hbk, hc⟩ := (HLs.out.step (hb.mono HLs.out.2.1)).2.2 (by omega)
      obtain ⟨a, n', d, hck2, hra⟩ := hc k hlt
      obtain rfl : n' = n := by rw [← hra.1]; exact HL.out k hlt
      have HRA := Lib.hid hra.ri
      have HS := Lib.hid (fun w2 (r : RI w2 A m zs) (r2 : RI w2 a n' (gz L k)) => sorts_any A m c zs a n' d (gz L k) w2 r r2 hn h0 hm hz)
      obtain ⟨q, hq⟩ : ∃ q, q = srtB (runS zs (gz L k)) := ⟨_, rfl⟩
      rw [← hq] at HS
      have HQ := Lib.hid hq
      clear hb hc hra hq
      go_wp2_with fail
      refine (HS.out _ HR2.out HRA.out).mono ?_
      rintro e w1 ⟨rfl, hb⟩
      replace HB := belStep HB hb
      clear hb HS
      cases q
      · go_wp2
        go_roundw
        case rel => exact ⟨k + 1, by omega, by go_num, by rw [cntK_no HQ.out.symm], HB.out⟩
        case measure => simp [intOf]; omega
      · go_wp2
        go_roundw
        case rel => exact ⟨k + 1, by omega, by go_num, by rw [cntK_yes HQ.out.symm]; go_num, HB.out⟩
        case measure => simp [intOf]; omega
    · obtain rfl : k = p := by omega
      clear hb
      go_wp2
      go_ret
      exact ⟨rfl, HB.out⟩

set_option maxRecDepth 100000 in
set_option maxHeartbeats 1000000 in
theorem firstUnsorted_any (A : Option Addr) (m c : Nat) (zs : List Int) (B M : Nat) (A2 : Option Addr) (p c2 : Nat) (L : List (List Int)) (S : List Sl) (n : Nat) (w : World) (h : RI w A m zs) (h2 : OII w B M A2 p c2 L S) (hn : n ≤ 8) (h0 : 0 < n) (hm : m ≤ 60) (hz : rungsIn zs n) (hp : p ≤ 1000000) (hl : ∀ j, j < p → (gz L j).length = n) :
    Calls Try.prog 52 #[.slice A m c, .slice A2 p c2] w fun e w' => ∃ A9 c9, e = .returned (.tuple #[.slice A9 (fuL zs L).length c9, .bool (fuB zs L)]) ∧ OI w' B A9 (fuL zs L).length c9 (fuL zs L) ∧ Below w.heap.size w w' := by
  have HR := Lib.hid h
  have HLs := Lib.hid h2
  have HL := Lib.hid hl
  have hLl := h2.lz
  clear h h2 hl
  go_enter Try.func52, Try.ntmps52
  go_wp2
  go_loopw [10] (fun i wr => ∃ k : Nat, k ≤ p ∧ i = .int .i64 k ∧ (∀ j, j < k → srtB (runS zs (gz L j)) = true) ∧ Below w.heap.size w wr) (fun i _ => p - (intOf i).toNat)
  case atStart => exact ⟨0, Nat.zero_le _, rfl, fun j hj => absurd hj (by omega), Below.refl _ _⟩
  case round =>
    obtain ⟨k, hk, rfl, hall, hb⟩ := hrel
    have HB := Lib.hid hb
    have HALL := Lib.hid hall
    have HLr := Lib.hid (HLs.out.below hb)
    by_cases hlt : k < p
    · have HR2 := Lib.hid (HR.out.below hb (Nat.le_refl _))
      obtain ⟨b, a, n', d, rfl, hbk, _, hSk, hck2, hra⟩ := HLr.out.row hlt
      obtain rfl : n' = n := by rw [← hra.1]; exact HL.out k hlt
      have HRA := Lib.hid hra
      have HS := Lib.hid (fun w2 (r : RI w2 A m zs) (r2 : RI w2 a n' (gz L k)) => sorts_any A m c zs a n' d (gz L k) w2 r r2 hn h0 hm hz)
      obtain ⟨q, hq⟩ : ∃ q, q = srtB (runS zs (gz L k)) := ⟨_, rfl⟩
      rw [← hq] at HS
      have HQ := Lib.hid hq
      clear hb hra hq hall
      go_wp2_with fail
      refine (HS.out _ HR2.out HRA.out.ri).mono ?_
      rintro e w1 ⟨rfl, hb⟩
      replace HB := belStep HB hb
      replace HRA := oiStep HRA hb
      clear hb HS
      cases q
      · have hfu := fu_at (zs := zs) (L := L) (j := k) (by omega) HALL.out HQ.out.symm
        have HFU := Lib.hid hfu
        have hll : (gz L k).length = n' := HRA.out.1
        have HLL := Lib.hid hll
        clear hfu hll
        go_wp2
        go_ret2
        refine ⟨a, d, ?_, ?_, HB.out⟩
        · rw [HFU.out.1, HFU.out.2, HLL.out]; rfl
        · rw [HFU.out.2, HLL.out]; exact HRA.out
      · go_wp2
        go_roundw
        case rel =>
          refine ⟨k + 1, by omega, by go_num, fun j hj => ?_, HB.out⟩
          by_cases e : j = k
          · subst e; exact HQ.out.symm
          · exact HALL.out j (by omega)
        case measure => simp [intOf]; omega
    · obtain rfl : k = p := by omega
      have HFU := Lib.hid (fu_all (zs := zs) (L := L) (fun i hi => HALL.out i (by omega)))
      clear hb hall
      go_wp2
      go_ret2
      refine ⟨none, 0, ?_, ?_, HB.out⟩
      · rw [HFU.out.1, HFU.out.2]; rfl
      · rw [HFU.out.2]; exact OI.none_ _ _
end Go.Proofs.Ytbfilmdociemmaa

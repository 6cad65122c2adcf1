/- The least beginning that sorts: the model. -/
import Derived.Test.YtbodimhjbbmniaaSo15
import Derived.Test.YtbodimhjbbmniaaMgB
namespace Go.Proofs.Ytbodimhjbbmniaa
open Go Go.RowKit

theorem lb_unsorted {zs : List Int} {n : Nat} (hz : rungsIn zs n) (hs : srtB (runS zs (fallL n)) = false) (k : Nat) (hk : k ≤ zs.length) : srtB (runK zs (fallL n) k) = false := by
  have hz' : rungsIn zs (fallL n).length := by rw [fallL_length]; exact hz
  rcases h6 : srtB (runK zs (fallL n) k) with _ | _
  · rfl
  · have := runK_sorted hz' h6 zs.length hk (Nat.le_refl _)
    rw [runK_all] at this
    rw [← this, hs] at h6; cases h6

set_option maxRecDepth 100000 in
set_option maxHeartbeats 2000000 in
theorem sLeastBeginning_any (W : Int) (A : Option Addr) (m c : Nat) (zs : List Int) (w : World) (h : RI w A m zs) (hm : m ≤ 1048576) (hmc : m ≤ c) :
    Calls Try.prog 37 #[.agg #[.int .i64 W, .slice A m c]] w (RetIB (lbV W zs) (isB W zs) w) := by
  rcases hq : lad W zs with _ | _
  · rw [lbV_no (isB_no hq), isB_no hq]
    have HW := Lib.hid hq
    clear hq
    go_enter Try.func37, Try.ntmps37
    go_wp2_with fail
    have HB := belAlloc (belRefl (w := w)) (.cells #[.int .i64 W, .slice A m c] 28)
    refine (laGood_any W A m c zs _ (h.alloc _) hm).mono ?_
    rw [HW.out]
    rintro e w1 ⟨rfl, hb⟩
    replace HB := belStep HB hb
    clear hb h
    go_wp2
    go_ret2
    exact ⟨rfl, HB.out⟩
  · have h4 := (lad_iff.1 hq).1
    have h5 := (lad_iff.1 hq).2.1
    have hml := h.1
    obtain ⟨N, rfl⟩ : ∃ N : Nat, W = (N : Int) := ⟨W.toNat, by omega⟩
    have hz : rungsIn zs N := by have := rungsIn_of_lad hq; rwa [Int.toNat_natCast] at this
    have HW := Lib.hid hq
    have hn8 : N ≤ 8 := by omega
    have hn0 : 0 < N := by omega
    have hm6 : m ≤ 60 := by omega
    have HS := Lib.hid (fun w2 k (hk : k ≤ m) (r : RI w2 A k (zs.take k)) => soAll_any N A k c (zs.take k) w2 r hn8 hn0 (by omega) (rungsIn_take hz k))
    -- what is answered: E is the least number, or there is none
    obtain ⟨v, q, E, hv1, hq1, hE1, hE2⟩ : ∃ (v : Int) (q : Bool) (E : Nat), v = lbV (N : Int) zs ∧ q = isB (N : Int) zs ∧ (∀ k, k < E → k ≤ m → srtB (runK zs (fallL N) k) = false) ∧ ((q = true ∧ E ≤ m ∧ v = (E : Int) ∧ srtB (runK zs (fallL N) E) = true) ∨ (q = false ∧ v = 0 ∧ E = m + 1)) := by
      rcases h6 : srtB (runS zs (fallL N)) with _ | _
      · have e : isB (N : Int) zs = false := by rw [isB_yes hq, Int.toNat_natCast]; exact h6
        exact ⟨_, _, m + 1, rfl, rfl, fun k _ hk => lb_unsorted hz h6 k (by omega), .inr ⟨e, lbV_no e, rfl⟩⟩
      · have e : isB (N : Int) zs = true := by rw [isB_yes hq, Int.toNat_natCast]; exact h6
        obtain ⟨e0, he0, hx0, hx1, hx2, hx3⟩ := least_end (by omega) hz h6
        refine ⟨_, _, e0 + 1, rfl, rfl, fun k hk _ => hx3 k (by omega), .inl ⟨e, by omega, ?_, hx2⟩⟩
        rw [lbV_yes e, Int.toNat_natCast, hx1]; omega
    rw [← hv1, ← hq1]
    have HE1 := Lib.hid hE1
    have HE2 := Lib.hid hE2
    have hEm : E ≤ m + 1 := by rcases hE2 with ⟨_, h1, _⟩ | ⟨_, _, h1⟩ <;> omega
    clear hq h4 h5 hz hml hv1 hq1 hE1 hE2
    go_enter Try.func37, Try.ntmps37
    go_wp2_with fail
    have HA := boxNew (W := (N : Int)) (c := c) 28 h
    have HB := belAlloc (belRefl (w := w)) (.cells #[.int .i64 (N : Int), .slice A m c] 28)
    refine (laGood_any (N : Int) A m c zs _ (h.alloc _) hm).mono ?_
    rw [HW.out]
    rintro e w1 ⟨rfl, hb⟩
    replace HA := boxStep HA hb
    replace HB := belStep HB hb
    have a0 := HA.out.c0; have a1 := HA.out.c1; have az := HA.out.lt
    clear hb h
    go_wp2
    go_loopw [4] (fun i wr => ∃ k : Nat, k ≤ E ∧ i = .int .i64 k ∧ Box wr w.heap.size (N : Int) A m c zs ∧ Below w.heap.size w wr) (fun i _ => E + 1 - (intOf i).toNat)
    case atStart => exact ⟨0, Nat.zero_le _, rfl, HA.out, HB.out⟩
    case round =>
      obtain ⟨k, hk, rfl, hA, hb⟩ := hrel
      have HA := Lib.hid hA
      have HB := Lib.hid hb
      have a0 := hA.c0; have a1 := hA.c1; have az := hA.lt
      clear hA hb
      by_cases hlt : k ≤ m
      · have hi1 : (0 : Int) ≤ (k : Int) := by omega
        have hi2 : (k : Int) ≤ (c : Int) := by omega
        have hi3 : k ≤ c := by omega
        have HT := Lib.hid hlt
        obtain ⟨s, hs⟩ : ∃ s, s = srtB (runK zs (fallL N) k) := ⟨_, rfl⟩
        have HS2 := Lib.hid (fun w2 (r : RI w2 A k (zs.take k)) => HS.out w2 k hlt r)
        rw [runK_take, ← hs] at HS2
        have HSS := Lib.hid hs
        clear hs
        go_wp2
        have AD := boxDrew HA; have BD := belDrew HB
        go_region_held3 (fun w' => w'.cell? ⟨w.heap.size, 0, none⟩ = some (.int .i64 (N : Int)) ∧ w'.cell? ⟨w.heap.size, 1, none⟩ = some (.slice A m c))
          (first | exact ⟨HA.out.c0, HA.out.c1⟩ | exact ⟨A2.out.c0, A2.out.c1⟩)
          (first
            | (go_at_call 45; refine (HS2.out _ (AD.out.ri.take HT.out)).mono ?_; rintro e w2 ⟨rfl, hb⟩; have A2 := boxStep AD hb; have B2 := belStep BD hb; clear hb))
        cases s
        · have hkE : k < E := by
            rcases HE2.out with ⟨_, h2, _, h4⟩ | ⟨_, _, h3⟩
            · by_cases e : k = E
              · subst e; rw [← HSS.out] at h4; cases h4
              · omega
            · omega
          go_wp2
          go_roundw
          case rel => exact ⟨k + 1, by omega, by go_num, A2.out, B2.out⟩
          case measure => simp [intOf]; omega
        · have hkE : k = E := by
            by_cases e : k = E
            · exact e
            · have := HE1.out k (by omega) hlt
              rw [← HSS.out] at this; cases this
          have hqv : q = true ∧ v = (k : Int) := by
            rcases HE2.out with ⟨h1, h2, h3, _⟩ | ⟨_, _, h3⟩
            · exact ⟨h1, by rw [h3, hkE]⟩
            · omega
          obtain ⟨rfl, rfl⟩ := hqv
          go_wp2
          go_ret2
          exact ⟨rfl, B2.out⟩
      · have hqv : q = false ∧ v = 0 := by
          rcases HE2.out with ⟨h1, h2, h3, _⟩ | ⟨h1, h2, h3⟩
          · omega
          · exact ⟨h1, h2⟩
        obtain ⟨rfl, rfl⟩ := hqv
        go_wp2
        go_ret2
        exact ⟨rfl, HB.out⟩
end Go.Proofs.Ytbodimhjbbmniaa

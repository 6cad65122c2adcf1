/- Taking out a start: mathematics, and the contracts of mrTake, rungsWithout and TakeStart. -/
import Derived.Test.YtmlkccihpkpjfaaMr1
import Derived.Test.YtmlkccihpkpjfaaMgE
namespace Go.Proofs.Ytmlkccihpkpjfaa
open Go Go.RowKit

/-- what a rung leaves where the one at a is taken out -/
def tsO (a r : Int) : List Int := if a < r then [r - 1] else if r + 1 < a then [r] else []
/-- what the first k rungs leave -/
def tsR (zs : List Int) (s : Int) : Nat → List Int
  | 0 => []
  | k + 1 => tsR zs s k ++ tsO (at_ zs s k) (gi zs k)
def tsL (zs : List Int) (s : Int) : List Int := tsR zs s zs.length
theorem tsO_len (a r : Int) : (tsO a r).length ≤ 1 := by
  unfold tsO; split
  · exact Nat.le_refl _
  · split <;> simp
theorem tsR_len (zs : List Int) (s : Int) (k : Nat) : (tsR zs s k).length ≤ k := by
  induction k with
  | zero => simp [tsR]
  | succ k ih => have := tsO_len (at_ zs s k) (gi zs k); simp only [tsR, List.length_append]; omega
theorem tsL_len (zs : List Int) (s : Int) : (tsL zs s).length ≤ zs.length := tsR_len _ _ _
theorem ts_same {zs : List Int} {s : Int} {k : Nat} (h : at_ zs s k = gi zs k ∨ at_ zs s k = gi zs k + 1) : tsR zs s (k + 1) = tsR zs s k := by
  have e : tsO (at_ zs s k) (gi zs k) = [] := by
    unfold tsO; rw [if_neg (by omega), if_neg (by omega)]
  simp [tsR, e]
theorem ts_left {zs : List Int} {s : Int} {k : Nat} (h : at_ zs s k < gi zs k) : tsR zs s (k + 1) = tsR zs s k ++ [gi zs k - 1] := by
  simp [tsR, tsO, h]
theorem ts_right {zs : List Int} {s : Int} {k : Nat} (h : gi zs k + 1 < at_ zs s k) : tsR zs s (k + 1) = tsR zs s k ++ [gi zs k] := by
  have e : ¬ at_ zs s k < gi zs k := by omega
  simp [tsR, tsO, h, e]
def tsB (W : Int) (zs : List Int) (s : Int) : Bool := wire W zs s && decide (3 ≤ W)
theorem tsR_mem {W : Int} {zs : List Int} {s : Int} (hz : ∀ j, j < zs.length → 0 ≤ gi zs j ∧ gi zs j ≤ W - 2) (hs : 0 ≤ s ∧ s ≤ W - 1) (k : Nat) (hk : k ≤ zs.length) :
    ∀ x ∈ tsR zs s k, 0 ≤ x ∧ x ≤ W - 3 := by
  induction k with
  | zero => simp [tsR]
  | succ k ih =>
    intro x hx
    simp only [tsR, List.mem_append] at hx
    rcases hx with hx | hx
    · exact ih (by omega) x hx
    · have h1 := hz k (by omega)
      have h2 := at_le hz hs k (by omega)
      unfold tsO at hx
      split at hx
      · simp at hx; omega
      · split at hx
        · simp at hx; omega
        · simp at hx
theorem allIn_of {zs : List Int} {lo hi : Int} (h : ∀ x ∈ zs, lo ≤ x ∧ x ≤ hi) : allIn zs lo hi = true := by
  unfold allIn
  rw [List.all_eq_true]
  intro x hx
  exact inB_true (h x hx)
theorem ts_lad {W : Int} {zs : List Int} {s : Int} (h : tsB W zs s = true) : lad (W - 1) (tsL zs s) = true := by
  unfold tsB at h
  rw [Bool.and_eq_true, decide_eq_true_iff] at h
  obtain ⟨h1, h3⟩ := h
  have hw := wire_iff.1 h1
  have hl := lad_iff.1 hw.1
  refine lad_iff.2 ⟨by omega, Nat.le_trans (tsL_len _ _) hl.2.1, allIn_of (fun x hx => ?_)⟩
  have := tsR_mem (W := W) (zs := zs) (s := s) (fun j hj => lad_at hw.1 hj) hw.2 zs.length (Nat.le_refl _) x hx
  omega

set_option maxRecDepth 100000 in
set_option maxHeartbeats 2000000 in
theorem mrTake_any (A : Option Addr) (n c : Nat) (zs : List Int) (s : Int) (w : World) (h : RI w A n zs) (hn : n ≤ 1048576) (hw : Wires zs s) :
    Calls Try.prog 41 #[.slice A n c, .int .i64 s] w (FreshI w (tsL zs s).length (tsL zs s)) := by
  have hl := h.1
  have H := Lib.hid h
  unfold tsL
  rw [hl]
  have HWI := Lib.hid hw
  clear h hw
  go_enter Try.func41, Try.ntmps41
  go_wp2
  go_loopw [1, 5, 11] (fun s1 v i wr => ∃ (k : Nat) (A1 : Option Addr) (c1 : Nat), k ≤ n ∧ i = .int .i64 k ∧ s1 = .int .i64 (at_ zs s k) ∧ v = .slice A1 (tsR zs s k).length c1 ∧ OI wr w.heap.size A1 (tsR zs s k).length c1 (tsR zs s k) ∧ Below w.heap.size w wr) (fun _ _ i _ => n - (intOf i).toNat)
  case atStart => exact ⟨0, none, 0, Nat.zero_le _, rfl, by rw [at_zero], rfl, OI.none_ _ _, Below.refl _ _⟩
  case round =>
    obtain ⟨k, A1, c1, hk, rfl, rfl, rfl, ho, hb⟩ := hrel
    have hul := tsR_len zs s k
    have HO := Lib.hid ho
    have HB := Lib.hid hb
    by_cases hlt : k < n
    · obtain ⟨b, off, rfl, hbw, hc⟩ := H.out.cell hlt
      have hck : wr.cell? ⟨b, off + k, none⟩ = some (.int .i64 (gi zs k)) := (hb.cell (p := ⟨b, off + k, none⟩) hbw).trans (hc k hlt)
      have g1 := HWI.out.rung (k := k) (by omega)
      have g2 := HWI.out.at (k := k) (by omega)
      have HS := Lib.hid (at_succ zs s k (by omega))
      have hbs := hb.size
      clear hc ho hb
      rcases Int.lt_trichotomy (at_ zs s k) (gi zs k) with hcase | hcase | hcase
      · have e1 : over (at_ zs s k) (gi zs k) = at_ zs s k := (over_3 (by omega) (by omega)).symm
        have HT := Lib.hid (ts_left hcase)
        have HTL : Hid ((tsR zs s k).length + 1 = (tsR zs s (k + 1)).length) := by show _ = _; rw [HT.out]; simp
        have e2 := HS.out.trans e1
        have HE2 := Lib.hid e2
        obtain ⟨a, ha⟩ : ∃ a, a = at_ zs s k := ⟨_, rfl⟩
        obtain ⟨r, hr⟩ : ∃ r, r = gi zs k := ⟨_, rfl⟩
        rw [← ha, ← hr] at hcase
        rw [← hr] at hck g1
        rw [← ha] at g2
        rw [← ha]
        have HOV : Hid (over a r = a) := by rw [ha, hr]; exact e1
        have HA := Lib.hid ha
        have HR := Lib.hid hr
        have hwr : IntKind.i64.wrap (r - 1) = r - 1 := IntWalk.i64_in _ (by omega)
        clear e1 e2 ha hr HS
        go_wp2_with (first
          | (go_at_call 62; refine (laOver_any _ _ _ (by omega)).mono ?_; rw [HOV.out]; rintro e w' ⟨rfl, rfl⟩)
          | (at_builtin; refine wpList_append_int _ rfl _ _ rfl w.heap.size A1 (tsR zs s k).length c1 _ (r - 1) wr.heap.size rfl rfl (HO.out.alloc _) (by simp) (by omega) (by simp; omega) ?_; intro A2 c2 w2 ho2 hg2))
        go_roundw
        case rel =>
          refine ⟨k + 1, A2, c2, by omega, by go_num, by rw [HE2.out, HA.out], by rw [← HTL.out], ?_, ?_⟩
          · rw [← HTL.out, HT.out, ← HR.out]; exact ho2
          · exact (belGrown (belAlloc HB _) (HO.out.alloc _) hg2 (Nat.le_refl _)).out
        case measure => simp [intOf]; omega
      · have e1 : over (at_ zs s k) (gi zs k) = gi zs k + 1 := (over_1 hcase).symm
        have HT := Lib.hid (ts_same (.inl hcase))
        have e2 := HS.out.trans e1
        have HE2 := Lib.hid e2
        obtain ⟨a, ha⟩ : ∃ a, a = at_ zs s k := ⟨_, rfl⟩
        obtain ⟨r, hr⟩ : ∃ r, r = gi zs k := ⟨_, rfl⟩
        rw [← ha, ← hr] at hcase
        rw [← hr] at hck g1
        rw [← ha] at g2
        rw [← ha]
        have HOV : Hid (over a r = r + 1) := by rw [ha, hr]; exact e1
        have HR := Lib.hid hr
        subst hcase
        have e3 : (a + 1 != a) = true := by rw [bne_iff_ne]; omega
        clear e1 e2 ha hr HS
        go_wp2_with (first
          | (go_at_call 62; refine (laOver_any _ _ _ (by omega)).mono ?_; rw [HOV.out]; rintro e w' ⟨rfl, rfl⟩))
        go_roundw
        case rel =>
          exact ⟨k + 1, A1, c1, by omega, by go_num, by rw [HE2.out, HR.out], by rw [HT.out], by rw [HT.out]; exact HO.out, HB.out⟩
        case measure => simp [intOf]; omega
      · by_cases hc2 : at_ zs s k = gi zs k + 1
        · have e1 : over (at_ zs s k) (gi zs k) = gi zs k := (over_2 (by omega) hc2).symm
          have HT := Lib.hid (ts_same (.inr hc2))
          have e2 := HS.out.trans e1
          have HE2 := Lib.hid e2
          obtain ⟨a, ha⟩ : ∃ a, a = at_ zs s k := ⟨_, rfl⟩
          obtain ⟨r, hr⟩ : ∃ r, r = gi zs k := ⟨_, rfl⟩
          rw [← ha, ← hr] at hc2
          rw [← hr] at hck g1
          rw [← ha] at g2
          rw [← ha]
          have HOV : Hid (over a r = r) := by rw [ha, hr]; exact e1
          have HR := Lib.hid hr
          subst hc2
          have e3 : (r != r + 1) = true := by rw [bne_iff_ne]; omega
          clear e1 e2 ha hr HS hcase
          go_wp2_with (first
            | (go_at_call 62; refine (laOver_any _ _ _ (by omega)).mono ?_; rw [HOV.out]; rintro e w' ⟨rfl, rfl⟩))
          go_roundw
          case rel =>
            exact ⟨k + 1, A1, c1, by omega, by go_num, by rw [HE2.out, HR.out], by rw [HT.out], by rw [HT.out]; exact HO.out, HB.out⟩
          case measure => simp [intOf]; omega
        · have hc3 : gi zs k + 1 < at_ zs s k := by omega
          have e1 : over (at_ zs s k) (gi zs k) = at_ zs s k := (over_3 (by omega) (by omega)).symm
          have HT := Lib.hid (ts_right hc3)
          have HTL : Hid ((tsR zs s k).length + 1 = (tsR zs s (k + 1)).length) := by show _ = _; rw [HT.out]; simp
          have e2 := HS.out.trans e1
          have HE2 := Lib.hid e2
          obtain ⟨a, ha⟩ : ∃ a, a = at_ zs s k := ⟨_, rfl⟩
          obtain ⟨r, hr⟩ : ∃ r, r = gi zs k := ⟨_, rfl⟩
          rw [← ha, ← hr] at hc3
          rw [← hr] at hck g1
          rw [← ha] at g2
          rw [← ha]
          have HOV : Hid (over a r = a) := by rw [ha, hr]; exact e1
          have HA := Lib.hid ha
          have HR := Lib.hid hr
          have e4 : r ≤ a := by omega
          clear e1 e2 ha hr HS hcase hc2
          go_wp2_with (first
            | (go_at_call 62; refine (laOver_any _ _ _ (by omega)).mono ?_; rw [HOV.out]; rintro e w' ⟨rfl, rfl⟩)
            | (at_builtin; refine wpList_append_int _ rfl _ _ rfl w.heap.size A1 (tsR zs s k).length c1 _ r wr.heap.size rfl rfl (HO.out.alloc _) (by simp) (by omega) (by simp; omega) ?_; intro A2 c2 w2 ho2 hg2))
          go_roundw
          case rel =>
            refine ⟨k + 1, A2, c2, by omega, by go_num, by rw [HE2.out, HA.out], by rw [← HTL.out], ?_, ?_⟩
            · rw [← HTL.out, HT.out, ← HR.out]; exact ho2
            · exact (belGrown (belAlloc HB _) (HO.out.alloc _) hg2 (Nat.le_refl _)).out
          case measure => simp [intOf]; omega
    · obtain rfl : k = n := by omega
      clear ho hb
      go_wp2
      go_ret
      exact ⟨A1, c1, rfl, HO.out, HB.out⟩
end Go.Proofs.Ytmlkccihpkpjfaa

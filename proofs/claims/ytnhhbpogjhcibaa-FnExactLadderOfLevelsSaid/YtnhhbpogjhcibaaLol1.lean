/- LadderOfLevels, of the program. -/
import Derived.Test.YtnhhbpogjhcibaaIl2
import Derived.Test.YtnhhbpogjhcibaaMgF
import Derived.Test.YtnhhbpogjhcibaaMgE
import Derived.Test.YtnhhbpogjhcibaaGr1
namespace Go.Proofs.Ytnhhbpogjhcibaa
open Go Go.RowKit

theorem lvB_two {n : Int} {zs : List Int} (h : lvB n zs = true) : ∀ j, j < zs.length → 2 * (j : Int) ≤ gi zs j
  | 0, hj => by have := okAt_in (lvB_at h hj); omega
  | j + 1, hj => by
    have h1 := lvB_two h j (by omega)
    have h2 := okAt_step (lvB_at h hj) (by omega)
    rw [Nat.add_sub_cancel] at h2
    push_cast
    omega
theorem lvB_len {n : Int} {zs : List Int} (h : lvB n zs = true) (hn : n ≤ 8) : zs.length ≤ 4 := by
  rcases Nat.lt_or_ge 4 zs.length with h4 | h4
  · have h1 := lvB_two h 4 h4
    have h2 := okAt_in (lvB_at h h4)
    omega
  · exact h4
def allLv (x : Int) (zss : List (List Int)) : Bool := (List.range zss.length).all fun j => lvB x (gz zss j)
theorem allLv_true {x : Int} {zss : List (List Int)} (h : ∀ j, j < zss.length → lvB x (gz zss j) = true) : allLv x zss = true := by
  unfold allLv; rw [List.all_eq_true]; exact fun j hj => h j (List.mem_range.1 hj)
theorem allLv_false {x : Int} {zss : List (List Int)} {j : Nat} (hj : j < zss.length) (h : lvB x (gz zss j) = false) : allLv x zss = false := by
  rw [← Bool.not_eq_true]
  intro e
  unfold allLv at e
  rw [List.all_eq_true] at e
  have := e j (List.mem_range.2 hj)
  rw [h] at this
  cases this
/-- the rungs of levels, one below the other -/
def lolZ (zss : List (List Int)) : List Int := cat (fun j => gz zss j) zss.length
def lolB (x : Int) (zss : List (List Int)) : Bool := decide (zss.length ≤ 60) && (inB x 2 8 && (allLv x zss && lad x (lolZ zss)))
def lolL (x : Int) (zss : List (List Int)) : List Int := ifL (lolB x zss) (lolZ zss)
theorem lolB_long {x : Int} {zss : List (List Int)} (h : ¬ zss.length ≤ 60) : lolB x zss = false := by unfold lolB; rw [decide_eq_false h]; rfl
theorem lolB_wires {x : Int} {zss : List (List Int)} (h : inB x 2 8 = false) : lolB x zss = false := by unfold lolB; rw [h]; simp
theorem lolB_level {x : Int} {zss : List (List Int)} (h : allLv x zss = false) : lolB x zss = false := by unfold lolB; rw [h]; simp
theorem lolB_yes {x : Int} {zss : List (List Int)} (h : zss.length ≤ 60) (h1 : inB x 2 8 = true) (h2 : allLv x zss = true) : lolB x zss = lad x (lolZ zss) := by
  unfold lolB; rw [decide_eq_true h, h1, h2]; simp
theorem cat_small {x : Int} (hx : x ≤ 8) {zss : List (List Int)} : ∀ k, (∀ j, j < k → lvB x (gz zss j) = true) → (cat (fun j => gz zss j) k).length ≤ 4 * k
  | 0, _ => by simp [cat]
  | k + 1, h => by
    have h1 := cat_small hx (zss := zss) k (fun j hj => h j (by omega))
    have h2 := lvB_len (h k (by omega)) hx
    simp only [cat, List.length_append]
    omega
theorem lol_len1000 (x : Int) (zss : List (List Int)) : (lolL x zss).length ≤ 1000 := by
  unfold lolL
  rcases h : lolB x zss with _ | _
  · rw [ifL_no]; simp
  · rw [ifL_yes]
    unfold lolB at h
    simp only [Bool.and_eq_true] at h
    have h1 := inB_iff.1 h.2.1
    have h0 : zss.length ≤ 60 := of_decide_eq_true h.1
    have h2 := h.2.2.1
    unfold allLv at h2
    rw [List.all_eq_true] at h2
    have := cat_small h1.2 (zss := zss) zss.length (fun j hj => h2 j (List.mem_range.2 hj))
    unfold lolZ
    omega
theorem RBB.parts {w : World} {K : Nat} {A : Option Addr} {n : Nat} {zss : List (List Int)} (h : RBB w K A n zss) : ∃ PA PN PC, Parts w A n PA PN PC (fun j => gz zss j) := by
  rcases Nat.eq_zero_or_pos n with h0 | h0
  · subst h0
    exact ⟨fun _ => none, fun _ => 0, fun _ => 0, fun h => absurd h (by omega), fun j hj => absurd hj (by omega)⟩
  · obtain ⟨b, off, rfl, hb, hc⟩ := h.2.2 h0
    have : ∀ j, ∃ s : Sl, j < n → w.cell? ⟨b, off + j, none⟩ = some (.slice s.1 s.2.1 s.2.2) ∧ RB w K s.1 s.2.1 (gz zss j) := by
      intro j
      by_cases hj : j < n
      · obtain ⟨a, m, d, h1, h2⟩ := hc j hj
        exact ⟨(a, m, d), fun _ => ⟨h1, h2⟩⟩
      · exact ⟨(none, 0, 0), fun h => absurd h hj⟩
    obtain ⟨f, hf⟩ := Classical.skolem.1 this
    exact ⟨fun j => (f j).1, fun j => (f j).2.1, fun j => (f j).2.2, fun _ => ⟨b, off, rfl, Nat.lt_of_lt_of_le hb h.2.1, fun j hj => (hf j hj).1⟩, fun j hj => (hf j hj).2.ri⟩

set_option maxRecDepth 100000 in
set_option maxHeartbeats 2000000 in
theorem iLadderOfLevels_any (x : Int) (K : Nat) (A : Option Addr) (n c : Nat) (zss : List (List Int)) (w : World) (h : RBB w K A n zss) (hn : n ≤ 1048576) (hm : ∀ j, (gz zss j).length ≤ 1048576) :
    Calls Try.prog 21 #[.int .i64 x, .slice A n c] w (FreshLB w (ifW (lolB x zss) x) (lolL x zss).length (lolL x zss) (lolB x zss)) := by
  have hlz := h.1
  have HB := belAlloc (belRefl (w := w)) (.cells #[.int .i64 0, .slice none 0 0] 24)
  have HC := cellNew w (.int .i64 0) (.slice none 0 0) 24
  by_cases h60 : n ≤ 60
  · have HH := Lib.hid h
    have HLZ := Lib.hid hlz
    have i60 : ¬ (60 : Int) < (n : Int) := by omega
    have HZ1 : Hid (w.heap.size < (w.alloc (.cells #[.int .i64 0, .slice none 0 0] 24)).heap.size) := Lib.hid (by simp)
    clear h hlz
    go_enter Try.func21, Try.ntmps21
    go_wp2
    obtain ⟨w1, hw1⟩ : ∃ w1, w1 = w.alloc (.cells #[.int .i64 0, .slice none 0 0] 24) := ⟨_, rfl⟩
    rw [← hw1] at HB HC HZ1 ⊢
    have HS1 : Hid (Below w.heap.size w w1) := HB
    clear hw1
    go_loopw [7, 8, 9, 16] (fun _ _ _ i wr => ∃ (k : Nat), k ≤ n ∧ i = .int .i64 (k : Int) ∧ (∀ j, j < k → lvB x (gz zss j) = true) ∧ (0 < k → inB x 2 8 = true) ∧ Below w1.heap.size w1 wr) (fun _ _ _ i _ => n - (intOf i).toNat)
    case atStart => exact ⟨0, Nat.zero_le _, by go_num, fun j hj => absurd hj (by omega), fun h => absurd h (by omega), Below.refl _ _⟩
    case round =>
      obtain ⟨k, hk, rfl, hall, hx0, hb⟩ := hrel
      have HBr := Lib.hid hb
      have HAL := Lib.hid hall
      have HX0 := Lib.hid hx0
      have HCr := cellStep HC hb
      have HR := HH.out.step (hb.mono (Nat.le_trans HH.out.2.1 HS1.out.size) |> fun g => (HS1.out.mono HH.out.2.1).trans g)
      clear hb hall hx0
      by_cases hlt : k < n
      · obtain ⟨b, off, rfl, hbk, hc⟩ := HR.2.2 (by omega)
        obtain ⟨a, m, d, hcj, hrb⟩ := hc k hlt
        have hbw : b < wr.heap.size := Nat.lt_of_lt_of_le hbk HR.2.1
        have hm2 := hm k
        have hlen : m ≤ 1048576 := by rw [← hrb.ri.1]; exact hm2
        obtain ⟨z, hz⟩ : ∃ z, z = gz zss k := ⟨_, rfl⟩
        rw [← hz] at hrb
        have HZ := Lib.hid hz
        have HRB := Lib.hid hrb
        have hlc : m ≤ d ∨ True := .inr trivial
        have j0 : (0 : Int) ≤ (k : Int) := by omega
        have j1 : (k : Int) < (n : Int) := by omega
        clear hc hrb HR hz hlc
        go_wp2_with fail
        refine (iIsLevel_one x a m d z _ HRB.out.ri hlen).mono ?_
        rintro e w2 ⟨rfl, hb2⟩
        have HB2 := Lib.hid (HBr.out.trans (hb2.mono HBr.out.size))
        have HC2 := cellStep HCr hb2
        have k0 := HC2.out.c0; have k1 := HC2.out.c1; have f0 := HC2.out.f0; have f1 := HC2.out.f1; have cz := HC2.out.lt
        clear hb2
        obtain ⟨q, hq⟩ : ∃ q, q = lvbB x z := ⟨_, rfl⟩
        obtain ⟨p, hp⟩ : ∃ p, p = inB x 2 8 := ⟨_, rfl⟩
        have HQ := Lib.hid hq
        have HP := Lib.hid hp
        rw [← hq, ← hp]
        clear hq hp
        rcases q with _ | _
        · have HF : Hid (lolB x zss = false) := by
            have h1 := HQ.out
            unfold lvbB at h1
            rcases e1 : inB x 2 8 with _ | _
            · exact Lib.hid (lolB_wires e1)
            · rw [e1] at h1
              exact Lib.hid (lolB_level (allLv_false (j := k) (by rw [HLZ.out]; exact hlt) (by rw [← HZ.out]; simpa using h1.symm)))
          go_wp2
          refine bodyPost_ret (v := .tuple #[.agg #[.int .i64 0, .slice none 0 0], .bool false]) (by simp [results, Try.results21, go_sem, k0, k1]) rfl ?_
          unfold lolL
          rw [HF.out, ifW_no, ifL_no]
          exact ⟨none, 0, rfl, OI.none_ _ _, ((HS1.out.trans (HB2.out.mono HS1.out.size)).setCell (by simp) _).setCell (by simp) _⟩
        · have h1 := HQ.out
          unfold lvbB at h1
          have h2 := Bool.and_eq_true_iff.1 h1.symm
          have HL2 := Lib.hid h2.2
          have HX2 := Lib.hid h2.1
          have ep : p = true := by rw [HP.out]; exact h2.1
          subst ep
          clear h1 h2
          go_wp2
          go_roundw
          case rel =>
            refine ⟨k + 1, by omega, by go_num, fun j hj => ?_, fun _ => HX2.out, HB2.out⟩
            by_cases e : j = k
            · rw [e, ← HZ.out]; exact HL2.out
            · exact HAL.out j (by omega)
          case measure => simp [intOf]; omega
      · obtain rfl : k = n := by omega
        obtain ⟨PA, PN, PC, hp⟩ := HR.parts
        have HP := Lib.hid hp
        have HALL : Hid (allLv x zss = true) := Lib.hid (allLv_true (by rw [HLZ.out]; exact HAL.out))
        have HEQ : Hid (cat (fun j => gz zss j) k = lolZ zss) := Lib.hid (by unfold lolZ; rw [HLZ.out])
        have HE : Hid (lolB x zss = lad x (lolZ zss)) := by
          rcases e1 : inB x 2 8 with _ | _
          · refine Lib.hid ?_
            rw [lolB_wires e1]
            symm
            rw [← Bool.not_eq_true]
            intro e
            have := inB_true (n := x) (lo := 2) (hi := 8) (lad_iff.1 e).1
            rw [e1] at this
            cases this
          · exact Lib.hid (lolB_yes (by rw [HLZ.out]; exact h60) e1 HALL.out)
        have hlen : (lolZ zss).length ≤ 1000 := by
          rcases Nat.eq_zero_or_pos k with h0 | h0
          · rw [← HEQ.out, h0]; simp [cat]
          · have := cat_small (inB_iff.1 (HX0.out h0)).2 (zss := zss) k HAL.out
            rw [← HEQ.out]; omega
        obtain ⟨ys, hys⟩ : ∃ ys, ys = lolZ zss := ⟨_, rfl⟩
        have HYS := Lib.hid hys
        rw [← hys] at HEQ hlen
        have hz1 := HZ1.out
        clear hp HR hys
        go_wp2_with fail
        refine (ladderOf_any x A k c PA PN PC _ _ HP.out (by omega) ys HEQ.out (by omega)).mono ?_
        rintro e w2 ⟨A2, c2, rfl, o2, hb2⟩
        have HB2 := Lib.hid (HBr.out.trans (hb2.mono HBr.out.size))
        have HC2 := cellStep HCr hb2
        have k0 := HC2.out.c0; have k1 := HC2.out.c1; have f0 := HC2.out.f0; have f1 := HC2.out.f1; have cz := HC2.out.lt
        have HO2 := Lib.hid (o2.mono (B' := w1.heap.size) HBr.out.size)
        clear hb2 o2
        go_wp2
        refine bodyPost_ret (v := .tuple #[.agg #[.int .i64 (ifW (lad x ys) x), .slice A2 (ifL (lad x ys) ys).length c2], .bool (lad x ys)]) (by simp [results, Try.results21, go_sem, k0, k1]) rfl ?_
        unfold lolL
        rw [HE.out, ← HYS.out]
        exact ⟨A2, c2, rfl, ((HO2.out.setBelow (by first | exact hz1 | (simp <;> omega)) _).setBelow (by first | exact hz1 | (simp <;> omega)) _).mono HS1.out.size, ((HS1.out.trans (HB2.out.mono HS1.out.size)).setCell (by simp) _).setCell (by simp) _⟩
  · have HQ := Lib.hid (lolB_long (x := x) (zss := zss) (by omega))
    unfold lolL
    rw [HQ.out, ifW_no, ifL_no]
    have k0 := HC.out.c0; have k1 := HC.out.c1; have f0 := HC.out.f0; have f1 := HC.out.f1; have hz := HC.out.lt
    have i60 : (60 : Int) < (n : Int) := by omega
    clear h
    go_enter Try.func21, Try.ntmps21
    go_wp2
    exact bodyPost_ret (v := .tuple #[.agg #[.int .i64 0, .slice none 0 0], .bool false]) (by simp [results, Try.results21, go_sem, k0, k1]) rfl ⟨none, 0, rfl, OI.none_ _ _, (by repeat (first | exact Below.refl _ _ | exact HB.out | refine Below.setCell ?_ (by simp <;> omega) _ | refine Below.alloc ?_ (by simp <;> omega) _ | refine below_drewN ?_ _))⟩
end Go.Proofs.Ytnhhbpogjhcibaa

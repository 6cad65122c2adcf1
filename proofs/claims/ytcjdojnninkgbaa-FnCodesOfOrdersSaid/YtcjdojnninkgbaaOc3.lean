/- The contract of the program's OrderOfCode. -/
import Derived.Test.YtcjdojnninkgbaaOc1
import Derived.Test.YtcjdojnninkgbaaMgG
import Derived.Test.YtcjdojnninkgbaaDel
import Derived.Test.YtcjdojnninkgbaaMgD
import Derived.IntWalk
namespace Go.Proofs.Ytcjdojnninkgbaa
open Go Go.RowKit

theorem I_take (zs : List Int) (k : Nat) : (I zs).take k = I (zs.take k) := by simp [I, List.map_take]
/-- one number taken out of the first numbers of a block -/
theorem del_any (g : Nat) (t : TypeId) (cs : Array Value) (left : List Int) (f i : Nat) (w : World) (hg : w.heap[g]? = some (.cells cs t (0, 0))) (hf : left.length = f) (hs : f ≤ cs.size) (ht : cs.toList.take f = I left) (hi : i < f) (h8 : f ≤ 8) :
    Calls Try.prog 22 #[.slice (some ⟨g, 0, none⟩) f 8, .int .i64 (i : Int), .int .i64 ((i : Int) + 1)] w
      (fun e w' => e = .returned (.slice (some ⟨g, 0, none⟩) (f - 1) 8) ∧ ∃ cs' : Array Value, w'.heap[g]? = some (.cells cs' t (0, 0)) ∧ cs'.size = cs.size ∧ cs'.toList.take (f - 1) = I (left.eraseIdx i) ∧ w.grownBy w' (some g)) := by
  subst hf
  have h := slices_Delete_int g 0 8 i (i + 1) left w (holds_of_blockI hg ht) h8 (by omega) (by omega) (by omega)
  have e1 : ((i + 1 : Nat) : Int) = (i : Int) + 1 := by omega
  rw [e1] at h
  refine h.mono ?_
  rintro e w' ⟨rfl, q, rfl⟩
  have hgr := Go.Sort.grow_empty (Go.Sort.putRow (Value.int .i64) (Go.Sort.ahead w q) g 0 (left.take i ++ left.drop (i + 1) ++ List.replicate (i + 1 - i) 0).toArray)
  have htl : (left.take i ++ left.drop (i + 1) ++ List.replicate (i + 1 - i) (0 : Int)).length = left.length := by simp; omega
  refine ⟨by rw [show i + 1 - i = 1 by omega], Go.Sort.putCells (Value.int .i64) 0 (left.take i ++ left.drop (i + 1) ++ List.replicate (i + 1 - i) 0).toArray cs, ?_, by simp [Go.Sort.putCells], ?_, ?_⟩
  · rw [← hgr]; exact heap_sortedI _ hg
  · have h1 := take_putCellsI cs (left.take i ++ left.drop (i + 1) ++ List.replicate (i + 1 - i) 0) (by rw [htl]; exact hs)
    rw [htl] at h1
    have h2 : (List.take left.length (Go.Sort.putCells (Value.int .i64) 0 (left.take i ++ left.drop (i + 1) ++ List.replicate (i + 1 - i) 0).toArray cs).toList).take (left.length - 1) = I (left.eraseIdx i) := by
      rw [h1]
      show (I _).take _ = _
      rw [I_take, List.take_left' (by simp; omega), List.eraseIdx_eq_take_drop_succ]
    rwa [List.take_take, show min (left.length - 1) left.length = left.length - 1 by omega] at h2
  · rw [← hgr]; exact grownBy_sortedI _
theorem cellOf {w : World} {g : Nat} {cs : Array Value} {t : TypeId} {zs : List Int} {f j : Nat} (hg : w.heap[g]? = some (.cells cs t (0, 0))) (ht : cs.toList.take f = I zs) (hj : j < f) (hl : zs.length = f) : w.cell? ⟨g, j, none⟩ = some (.int .i64 (gi zs j)) := by
  have h1 : (cs.toList.take f)[j]? = (I zs)[j]? := by rw [ht]
  rw [List.getElem?_take_of_lt hj, I_at (by omega)] at h1
  simp only [World.cell?, hg]
  simpa using h1
theorem rowKept9 {wi wj : World} {b t n : Nat} {f : Nat → Value} {r : Option Nat} (h : wi.rowIs b t n f) (hg : wi.grownBy wj r) (hne : r ≠ some b) : wj.rowIs b t n f := by
  obtain ⟨cs, hh, h1, h2⟩ := h
  exact ⟨cs, (hg.block b (Array.getElem?_eq_some_iff.1 hh).1 (fun e => hne e.symm)).trans hh, h1, h2⟩
theorem gi_snoc (out : List Int) (x : Int) (j : Nat) : gi (out ++ [x]) j = if j = out.length then x else gi out j := by
  unfold gi
  simp only [List.getD_eq_getElem?_getD, List.getElem?_append]
  by_cases h : j < out.length
  · rw [if_pos h, if_neg (by omega)]
  · rw [if_neg h]
    by_cases e : j = out.length
    · rw [if_pos e, e]; simp
    · rw [if_neg e, List.getElem?_eq_none (by simp; omega), List.getElem?_eq_none (by omega)]
theorem home_upto {n : Nat} (h : n ≤ 8) : home8.take n = upto n := by
  have : n = 0 ∨ n = 1 ∨ n = 2 ∨ n = 3 ∨ n = 4 ∨ n = 5 ∨ n = 6 ∨ n = 7 ∨ n = 8 := by omega
  rcases this with rfl | rfl | rfl | rfl | rfl | rfl | rfl | rfl | rfl <;> decide

set_option maxRecDepth 100000 in
set_option maxHeartbeats 2000000 in
theorem iOrderOfCode_any (A0 : Option Addr) (n c0 : Nat) (zs : List Int) (w : World) (h : RI w A0 n zs) (hn : n ≤ 1048576) (_hnc : n ≤ c0) :
    Calls Try.prog 10 #[.slice A0 n c0] w (FreshIB w (ocL zs).length (ocL zs) (ocB zs)) := by
  have hl := h.1
  have HA := Lib.hid h
  clear h
  by_cases h18 : 1 ≤ n ∧ n ≤ 8
  · have h1n := h18.1
    have h8 := h18.2
    have HQ : Hid (inB (zs.length : Int) 1 8 = true) := inB_true (by omega)
    have hmk := run_make_row' (P := Try.prog) 24 3 (.int .i64 0) 8 Try.underlying24 infoInt rfl .i64 .i64 n (by omega) (by omega)
    clear h18
    have i1 : (1 : Int) ≤ (n : Int) := by omega
    have i2 : (n : Int) ≤ 8 := by omega
    have i3 : (0 : Int) ≤ (n : Int) := by omega
    go_enter Try.func10, Try.ntmps10
    go_wp2_with fail
    refine (seatsOf_any none 0 0 [] _ ⟨rfl, fun h => absurd h (by omega)⟩ (by omega)).mono ?_
    rintro e w1 ⟨rfl, hb⟩
    have HB1 := Lib.hid hb
    clear hb
    rw [seats_nil]
    have hst := storeNew8 w1 38 (.int .i64 0) home8 rfl
    obtain ⟨hs, hhs⟩ : ∃ hs, hs = home8 := ⟨_, rfl⟩
    have HHS := Lib.hid hhs
    have hI : (I hs).length = 8 := by rw [I_length, hhs]; rfl
    rw [← hhs] at hst ⊢
    clear hhs
    go_wp2_with fail
    clear hmk hst
    have HI8 := Lib.hid hI
    clear hI
    go_loopw [5, 26] (fun s5 i wr => ∃ (k : Nat) (out left : List Int) (cs : Array Value), k ≤ n ∧ i = .int .i64 k ∧ s5 = .slice (some ⟨w1.heap.size, 0, none⟩) (n - k) 8 ∧ ORel zs out left k ∧ wr.heap[w1.heap.size]? = some (.cells cs 38 (0, 0)) ∧ cs.size = 8 ∧ cs.toList.take (n - k) = I left ∧ wr.rowIs (w1.heap.size + 1) 3 n (fun j => .int .i64 (gi out j)) ∧ Below w1.heap.size w1 wr ∧ w1.heap.size + 1 < wr.heap.size) (fun _ i _ => n - (intOf i).toNat)
    case atStart =>
      refine ⟨0, [], upto zs.length, (I hs).toArray, Nat.zero_le _, rfl, rfl, ORel.start zs, ?_, by simpa using HI8.out, ?_, ?_, ((Below.refl _ _).alloc (Nat.le_refl _) _).alloc (by simp) _, by simp⟩
      · exact (((Below.refl (w1.alloc (.cells (I hs).toArray 38)).heap.size _).alloc (Nat.le_refl _) _).block _ (by simp)).trans (heap_alloc_new w1 _)
      · show (I hs).take n = _
        rw [I_take, HHS.out, home_upto h8, hl]
      · have := World.rowIs_made (w1.alloc (.cells (I hs).toArray 38)) (.int .i64 0) n 3
        rw [World.size_alloc] at this
        exact this.congr (fun j _ => by simp [gi])
    case round =>
      obtain ⟨k, out, left, cs, hk, rfl, rfl, hN, h4, hs8, ht, hrow, hb, hz⟩ := hrel
      have HN := Lib.hid hN
      have H4 := Lib.hid h4
      have HT := Lib.hid ht
      have HR := Lib.hid hrow
      have HB := Lib.hid hb
      have HZ1 := Lib.hid HB1.out.size
      have hll := hN.ll
      have hlo := hN.lo
      by_cases hlt : k < n
      · obtain ⟨bc, oc, rfl, hbc, hcc0⟩ := HA.out.cell hlt
        have hcx := (hb.cell (p := ⟨bc, oc + k, none⟩) (show bc < w1.heap.size from Nat.lt_of_lt_of_le hbc HZ1.out)).trans ((HB1.out.cell (p := ⟨bc, oc + k, none⟩) hbc).trans (hcc0 k hlt))
        have i8 : (0 : Int) ≤ (k : Int) := by omega
        have i9 : (k : Int) < (n : Int) := by omega
        by_cases hx : 0 ≤ gi zs k ∧ gi zs k < ((n - k : Nat) : Int)
        · obtain ⟨p, hp⟩ : ∃ p : Nat, gi zs k = (p : Int) := ⟨(gi zs k).toNat, by omega⟩
          have HS : Hid (ORel zs (out ++ [gi left p]) (left.eraseIdx p) (k + 1)) := HN.out.step (by omega) hp (by omega)
          have hpl : p < n - k := by omega
          rw [hp] at hcx
          have HLL : Hid (left.length = n - k) := by show _ = _; omega
          have hcl := cellOf h4 ht hpl HLL.out
          obtain ⟨f, hf⟩ : ∃ f, f = n - k := ⟨_, rfl⟩
          have HF := Lib.hid hf
          rw [← hf] at hpl HT HLL ⊢
          have hf8 : f ≤ 8 := by omega
          have hd := hrow.cell hlt
          have hfz := hrow.frozen k
          have j0 : (0 : Int) ≤ (p : Int) := by omega
          have j1 : (p : Int) < (f : Int) := by omega
          have j2 : ¬ (p : Int) < 0 := by omega
          have j3 : ¬ (f : Int) ≤ (p : Int) := by omega
          have s1 : IntKind.i64.wrap ((p : Int) + 1) = (p : Int) + 1 := IntWalk.i64_in _ (by omega)
          clear hN h4 ht hrow hb hcc0 hf hx hp hll
          go_wp2_with (go_at_call 22; refine (del_any w1.heap.size 38 cs left f p _ ((Below.heap_setCell _ _ _ _ (by simp)).trans H4.out) HLL.out (by omega) HT.out hpl hf8).mono ?_; rintro e w4 ⟨rfl, cs', g1, g2, g3, g4⟩; have G1 := Lib.hid g1; have G2 := Lib.hid g2; have G3 := Lib.hid g3; have G4 := Lib.hid g4; clear g1 g2 g3 g4)
          go_roundw
          case rel =>
            have hf2 := HF.out
            have hB4 : Below w1.heap.size w1 w4 := (HB.out.setCell (p := ⟨w1.heap.size + 1, k, none⟩) (by simp) _).grown G4.out (by simp; omega) (fun x hx => by simp at hx; omega)
            have g3 := G3.out
            rw [show f - 1 = n - (k + 1) by omega] at g3
            refine ⟨k + 1, out ++ [gi left p], left.eraseIdx p, cs', by omega, by go_num, by rw [show f - 1 = n - (k + 1) by omega], HS.out, G1.out, by rw [G2.out, hs8], g3, ?_, hB4, ?_⟩
            · refine (rowKept9 (HR.out.set k (.int .i64 (gi left p))) G4.out (by simp)).congr (fun j hj => ?_)
              show _ = Value.int .i64 (gi (out ++ [gi left p]) j)
              rw [gi_snoc, hlo]
              by_cases e : j = k
              · simp [e]
              · simp [e]
            · have := G4.out.size
              simp at this
              omega
          case measure => simp [intOf]; omega
        · have e := HN.out.bad (by omega) (by rw [show (left.length : Int) = ((n - k : Nat) : Int) by omega]; exact hx)
          have EN := Lib.hid e
          have HBF : Hid (Below w.heap.size w wr) := HB1.out.trans (hb.mono HZ1.out)
          clear hN h4 ht hrow hb hcc0 e
          rcases (show gi zs k < 0 ∨ (0 ≤ gi zs k ∧ ((n - k : Nat) : Int) ≤ gi zs k) by omega) with h1 | ⟨h1, h2⟩
          · clear hx
            go_wp2
            go_ret2
            rw [(oc_none EN.out).1, (oc_none EN.out).2]
            exact ⟨none, 0, rfl, OI.none_ _ _, HBF.out⟩
          · clear hx
            obtain ⟨f, hf⟩ : ∃ f, f = n - k := ⟨_, rfl⟩
            rw [← hf] at h2 ⊢
            clear hf
            go_wp2
            go_ret2
            rw [(oc_none EN.out).1, (oc_none EN.out).2]
            exact ⟨none, 0, rfl, OI.none_ _ _, HBF.out⟩
      · have hkn : k = n := by omega
        have e := HN.out.done (by omega)
        clear hN h4 ht hrow hb
        go_wp2
        go_ret2
        rw [(oc_some HQ.out e).1, (oc_some HQ.out e).2]
        have HO : OI wr w.heap.size (some ⟨w1.heap.size + 1, 0, none⟩) n n out := OI.of_rowIs (by have := HZ1.out; omega) HR.out (by simp only [maxLen]; omega) (by omega) (fun j hj => rfl)
        have hon : out.length = n := by omega
        refine ⟨some ⟨w1.heap.size + 1, 0, none⟩, n, ?_, ?_, HB1.out.trans (HB.out.mono HZ1.out)⟩
        · rw [hon]; rfl
        · rw [hon]; exact HO
  · have hq : inB (zs.length : Int) 1 8 = false := inB_false (by omega)
    rw [(oc_no hq).1, (oc_no hq).2]
    clear hq
    rcases (show (n : Int) < 1 ∨ (1 ≤ (n : Int) ∧ 8 < (n : Int)) by omega) with h1 | ⟨h1, h2⟩
    · clear h18
      go_enter Try.func10, Try.ntmps10
      go_wp2
      go_ret2
      exact ⟨none, 0, rfl, OI.none_ _ _, Below.refl _ _⟩
    · clear h18
      go_enter Try.func10, Try.ntmps10
      go_wp2
      go_ret2
      exact ⟨none, 0, rfl, OI.none_ _ _, Below.refl _ _⟩
end Go.Proofs.Ytcjdojnninkgbaa

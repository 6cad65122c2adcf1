/- slices.Sorted(slices.Values(xs)): a new slice with the numbers of xs, sorted. -/
import Derived.RangeFuncNested
import Derived.RangeFuncBox
import Derived.RangeFuncLeaves
import Derived.Shelf.Abstract
import Derived.WalkKit
import Derived.OwnWalkIn
import Derived.TacticsInMore
import Derived.LoopNIn
import Derived.LoopIn
import Derived.Maps.AppendAt
import Derived.Sort.OwnSortedInts
import Derived.Test.YtbfilmdociemmaaSrt
import Derived.Test.YtbfilmdociemmaaSo26
namespace Go.Proofs.Ytbfilmdociemmaa
open Go Go.RowKit Go.Shelf

attribute [local go_sem] Oper.semAt_some

set_option maxRecDepth 100000 in
set_option maxHeartbeats 2000000 in
/-- what slices.Values hands back, called: each number in its order -/
theorem valuesC_in (n : Nat) (hn : 1 ≤ n) (l Bs n0 b off N c : Nat) (zs : List Int) (hl : zs.length = N) (hN : N ≤ 1000) (hb : b < n0) (J Jx : List Int → World → Prop)
    (hY : ∀ pre x W, J pre W → pre.length < N → YieldAt Fence.wide (n - 1) Try.prog l #[.int .i64 x] W fun e W' =>
      (e = .returned (.bool true) ∧ J (pre ++ [x]) W' ∧ Below n0 W W') ∨ (e = .returned (.bool false) ∧ Jx (pre ++ [x]) W'))
    (W : World) (hBs : W.cell? ⟨Bs, 0, none⟩ = some (.slice (some ⟨b, off, none⟩) N c)) (hc : ∀ j, j < N → W.cell? ⟨b, off + j, none⟩ = some (.int .i64 (gi zs j))) (h0 : J [] W) :
    CallsIn Fence.wide n Try.prog 72 #[.func (.yield l) #[] #[], .pointer (some ⟨Bs, 0, none⟩)] W fun e W' => (∃ v, e = .returned v) ∧
      ((∃ ys, ys = zs ∧ J ys W') ∨ (∃ pre, True ∧ Jx pre W')) := by
  refine callsIn_of_wp Try.func72 rfl trivial ?_ rfl
  simp only [Try.ntmps72, List.size_toArray, List.length_cons, List.length_nil, Nat.reduceAdd, Nat.reduceSub, Array.replicate_succ, Array.replicate_zero, List.push_toArray, List.append_toArray, List.nil_append, List.cons_append]
  gi_wp2
  gi_loopw [7] (fun i wr => ∃ k : Nat, k ≤ N ∧ i = .int .i64 k ∧ J (zs.take k) wr ∧ Below n0 W wr) (fun i _ => N - (intOf i).toNat)
  case atStart => exact ⟨0, Nat.zero_le _, rfl, h0, Below.refl _ _⟩
  case round =>
    obtain ⟨k, hk, rfl, hJ, hbl⟩ := hrel
    by_cases hlt : k < N
    · have hck : wr.cell? ⟨b, off + k, none⟩ = some (.int .i64 (gi zs k)) := (hbl.cell (p := ⟨b, off + k, none⟩) hb).trans (hc k hlt)
      have htk : zs.take k ++ [gi zs k] = zs.take (k + 1) := by rw [List.take_succ_eq_append_getElem (by omega), gi_lt (by omega)]
      obtain ⟨fn, tmps, assign, body, hy, hR⟩ := hY _ (gi zs k) wr hJ (by rw [List.length_take]; omega)
      gi_wp2
      refine hR.mono ?_
      rintro e W3 (⟨rfl, hJ3, hb3⟩ | ⟨rfl, hJ3⟩)
      · gi_wp2
        go_roundw
        case rel => exact ⟨k + 1, hlt, by simp, by rw [← htk]; exact hJ3, hbl.trans hb3⟩
        case measure => simp [intOf]; omega
      · gi_wp2
        refine bodyPost_ret (results_none rfl _ _ _) rfl ?_
        exact ⟨⟨_, rfl⟩, .inr ⟨_, trivial, hJ3⟩⟩
    · obtain rfl : k = N := by omega
      gi_wp2
      go_end0
      exact ⟨⟨_, rfl⟩, .inl ⟨_, List.take_of_length_le (by omega), hJ⟩⟩

theorem values_seq (n : Nat) (hn : 1 ≤ n) (Bs n0 b off N c : Nat) (zs : List Int) (hl : zs.length = N) (hN : N ≤ 1000) (hb : b < n0) (w : World) (hBs : Bs < w.heap.size) (h0 : n0 ≤ w.heap.size)
    (hcs : w.cell? ⟨Bs, 0, none⟩ = some (.slice (some ⟨b, off, none⟩) N c)) (hc : ∀ j, j < N → w.cell? ⟨b, off + j, none⟩ = some (.int .i64 (gi zs j))) :
    SeqStopsK Fence.wide n Try.prog 72 #[.pointer (some ⟨Bs, 0, none⟩)] (fun x : Int => #[Value.int .i64 x]) (Below n0) (fun ys => ys = zs) (fun _ => True) N w := fun l J Jx W hW _ _ hY hJ0 =>
  valuesC_in n hn l Bs n0 b off N c zs hl hN hb J Jx hY W ((hW.cell (p := ⟨Bs, 0, none⟩) hBs).trans hcs) (fun j hj => (hW.cell (p := ⟨b, off + j, none⟩) (show b < w.heap.size from Nat.lt_of_lt_of_le hb h0)).trans (hc j hj)) hJ0

theorem infoI1 : (Try.prog.info? 3).map (fun i => (i.zero, i.size, i.bytes)) = some (some (.int .i64 0), 1, 8) := by kernel_rfl

set_option maxRecDepth 100000 in
set_option maxHeartbeats 2000000 in
/-- slices.AppendSeq of the nil slice and such an iterator -/
theorem appendSeq_in (n : Nat) (hn : 3 ≤ n) (Bs b off N c : Nat) (zs : List Int) (hl : zs.length = N) (hN : N ≤ 1000) (w : World) (hb : b < w.heap.size) (hBs : Bs < w.heap.size)
    (hcs : w.cell? ⟨Bs, 0, none⟩ = some (.slice (some ⟨b, off, none⟩) N c)) (hc : ∀ j, j < N → w.cell? ⟨b, off + j, none⟩ = some (.int .i64 (gi zs j))) :
    CallsIn Fence.wide n Try.prog 75 #[.slice none 0 0, .func (.func 72) #[] #[.pointer (some ⟨Bs, 0, none⟩)]] w fun e W' => ∃ v, e = .returned v ∧ W'.ownsRow w.heap.size 3 1 v N (I zs) ∧ Below w.heap.size w W' := by
  have h1 : 1 ≤ n := by omega
  obtain ⟨i0, hi, hz0, hz1, hz2⟩ := info_parts infoI1
  refine callsIn_of_wp_marks Try.func75 rfl trivial ?_ rfl
  simp only [Try.ntmps75, List.size_toArray, List.length_cons, List.length_nil, Nat.reduceAdd, Nat.reduceSub, Array.replicate_succ, Array.replicate_zero, List.push_toArray, List.append_toArray, List.nil_append, List.cons_append]
  gi_wp2
  have bO := Boxed.new w 22 (.slice none 0 0)
  have hB0 : Below w.heap.size w (w.alloc (.cells #[.slice none 0 0] 22)) := (Below.refl _ w).alloc (Nat.le_refl _) _
  have hcs' : (w.alloc (.cells #[.slice none 0 0] 22)).cell? ⟨Bs, 0, none⟩ = some (.slice (some ⟨b, off, none⟩) N c) := (hB0.cell (p := ⟨Bs, 0, none⟩) hBs).trans hcs
  have hc' : ∀ j, j < N → (w.alloc (.cells #[.slice none 0 0] 22)).cell? ⟨b, off + j, none⟩ = some (.int .i64 (gi zs j)) := fun j hj => (hB0.cell (p := ⟨b, off + j, none⟩) hb).trans (hc j hj)
  refine wpIn_rangeFunc_ownG rfl h1 (gf := 72) (lb := #[.pointer (some ⟨Bs, 0, none⟩)]) rfl trivial (enters_of Try.func72 (by kernel_rfl) rfl)
    (values_seq (n - 1) (by omega) Bs w.heap.size b off N c zs hl hN hb _ (by simp; omega) (by simp) hcs' hc') belowK_t (belowK_b (by simp)) (Below.refl _ _) (fun _ => rfl)
    (fun (pre : List Int) W => (∃ v, Boxed W w.heap.size 22 v ∧ W.ownsRow w.heap.size 3 1 v pre.length (pre.map (Value.int .i64)) ∧ True) ∧ Below w.heap.size w W)
    (fun _ _ _ => False)
    (OwnFrom.and (Own.from (holdsRow_own w.heap.size w.heap.size 22 3 1 (fun pre : List Int => pre.length) (fun pre : List Int => pre.map (Value.int .i64)) (fun _ _ => True)) _) (ownFrom_below (Nat.le_refl _) (by simp)))
    (fun _ _ _ _ _ hs _ _ => hs)
    ⟨⟨_, bO, World.ownsRow_nil _ _ _ _, trivial⟩, hB0⟩
    (fun x => { tmps := #[.slice none 0 0, .func (.func 72) #[] #[.pointer (some ⟨Bs, 0, none⟩)], .pointer (some ⟨w.heap.size, 0, none⟩), undef, .slice none 0 0, .int .i64 x, .func (.func 72) #[] #[.pointer (some ⟨Bs, 0, none⟩)], .int .i64 x, undef, undef, undef, undef, undef], defers := [] }) ?assign ?body ?done ?stop
  case assign =>
    intro l x W K hK
    gi_wp2
    exact hK
  case body =>
    rintro l pre x W ⟨⟨v, hv, hrow, -⟩, hB⟩ hlt
    have hc := hv.cell
    have hml : N ≤ maxLen := by simp only [maxLen]; omega
    have hmb : N * 8 ≤ 140737488355328 := by omega
    gi_wp2_with (gi_at_builtin; refine wpListIn_append_own _ rfl _ _ 22 rfl w.heap.size 3 i0 (.int .i64 0) 1 8 Try.underlying22 hi hz0 hz1 hz2 rfl (by decide) _ _ _ rfl (hrow.alloc _) ⟨W.heap.size, 0, none⟩ 1 1 [.int .i64 x] rfl rfl (cell_one_new _ _ _) (by simp [Value.oneCell']) (by omega) (by omega) (by have := hB.size; simp; omega) ?_; intro v' w1 hown' hgrow _; obtain ⟨g', cap', rfl⟩ := ownsRow_succ hown'; obtain ⟨hv1, hv2, hr2, hk2, hb2⟩ := hv.appended (by decide) hrow hB.size (Nat.le_refl _) hown' hgrow; have hc1 := hv1.cell; have hf1 := hv1.frozen)
    exact ⟨hk2.from _, hb2, ⟨_, hv2, by simpa using hr2, trivial⟩, hB.trans hb2⟩
  case done =>
    rintro D ys W hD rfl ⟨⟨v, hv, hrow, -⟩, hB⟩ hK
    have hc := hv.cell
    gi_wp2
    refine ⟨by simp, .inl ⟨_, _, rfl, run_takeDeferred hK, ?_⟩⟩
    have hrow2 : W.ownsRow w.heap.size 3 1 v N (I ys) := by rw [← hl]; exact hrow
    refine ⟨_, results_tmp rfl _ _ _, v, rfl, ownsRow_putObj hrow2 _ hK rfl, hB.trans (belowK_b (w := w) (Nat.le_refl _) W D _ _ (by simp at hD; omega) hK rfl rfl)⟩
  case stop =>
    rintro D c pre W _ _ h _
    exact h.elim

theorem collect_any (Bs b off N c : Nat) (zs : List Int) (hl : zs.length = N) (hN : N ≤ 1000) (hN0 : 0 < N) (w : World) (hb : b < w.heap.size) (hBs : Bs < w.heap.size)
    (hcs : w.cell? ⟨Bs, 0, none⟩ = some (.slice (some ⟨b, off, none⟩) N c)) (hc : ∀ j, j < N → w.cell? ⟨b, off + j, none⟩ = some (.int .i64 (gi zs j))) :
    Calls Try.prog 70 #[.func (.func 72) #[] #[.pointer (some ⟨Bs, 0, none⟩)]] w fun e W' => ∃ g d, e = .returned (.slice (some ⟨g, 0, none⟩) N d) ∧ OI W' w.heap.size (some ⟨g, 0, none⟩) N d zs ∧ Below w.heap.size w W' := by
  have HAP := Lib.hid (callsIn_wide.1 (appendSeq_in 9 (by omega) Bs b off N c zs hl hN w hb hBs hcs hc))
  have HL := Lib.hid hl
  clear hcs hc hl
  go_enter Try.func70, Try.ntmps70
  go_wp2_with fail
  refine HAP.out.mono ?_
  rintro e w1 ⟨v, rfl, hrow, hb1⟩
  obtain ⟨m, rfl⟩ : ∃ m, N = m + 1 := ⟨N - 1, by omega⟩
  obtain ⟨g, d, rfl⟩ := ownsRow_succ hrow
  have HO := Lib.hid hrow
  have HB := Lib.hid hb1
  clear hrow hb1
  go_wp2
  go_ret
  exact ⟨g, d, rfl, ⟨HL.out, HO.out⟩, HB.out⟩

theorem sortedV_any (Bs b off N c : Nat) (zs : List Int) (hl : zs.length = N) (hN : N ≤ 1000) (hN0 : 0 < N) (w : World) (hb : b < w.heap.size) (hBs : Bs < w.heap.size)
    (hcs : w.cell? ⟨Bs, 0, none⟩ = some (.slice (some ⟨b, off, none⟩) N c)) (hc : ∀ j, j < N → w.cell? ⟨b, off + j, none⟩ = some (.int .i64 (gi zs j))) :
    Calls Try.prog 58 #[.func (.func 72) #[] #[.pointer (some ⟨Bs, 0, none⟩)]] w fun e W' => ∃ g d, e = .returned (.slice (some ⟨g, 0, none⟩) N d) ∧ OI W' w.heap.size (some ⟨g, 0, none⟩) N d (srt zs) ∧ Below w.heap.size w W' := by
  have HC := Lib.hid (collect_any Bs b off N c zs hl hN hN0 w hb hBs hcs hc)
  have HL := Lib.hid hl
  clear hcs hc hl
  go_enter Try.func58, Try.ntmps58
  go_wp2_with fail
  refine HC.out.mono ?_
  rintro e w1 ⟨g, d, rfl, o, hb1⟩
  obtain ⟨cur, hBg, hg, hcur, h1, h2, h3, h4⟩ : ∃ cur, w.heap.size ≤ g ∧ g < w1.heap.size ∧ w1.heap[g]? = some (.cells cur 3 (0, 0)) ∧ N ≤ d ∧ d ≤ maxLen ∧ cur.size = d ∧ cur.toList.take N = I zs := by
    rcases o.form with ⟨e1, _, _⟩ | ⟨g', cur, e1, e2⟩
    · cases e1
    · cases e1; exact ⟨cur, e2⟩
  have hS := slices_Sort_int g 0 d zs w1 (holds_of_blockI hcur (by rw [HL.out]; exact h4)) hg (by rw [HL.out]; omega)
  rw [HL.out] at hS
  have HS := Lib.hid hS
  have HCU := Lib.hid hcur
  have HB := Lib.hid hb1
  have H3 := Lib.hid h3
  have H2 := Lib.hid h2
  clear hS hcur hb1 h3 h4 o h2
  go_wp2_with fail
  refine HS.out.mono ?_
  rintro e w2 ⟨rfl, nn, os, rfl⟩
  have HB2 := Lib.hid (HB.out.grown (grownBy_sortedI (n := nn) (os := os) (g := g) (srt zs).toArray) HB.out.size (fun j hj => by cases hj; exact hBg))
  have HO2 := Lib.hid (ownsRow_sortedI (n := nn) (os := os) (ss := zs) (ts := srt zs) (srt_length zs) hBg HCU.out (by rw [HL.out]; exact h1) H2.out (by rw [H3.out, Nat.mul_one]))
  go_wp2
  go_ret
  refine ⟨g, d, rfl, ⟨by rw [srt_length]; exact HL.out, ?_⟩, HB2.out⟩
  have := HO2.out
  rw [HL.out] at this
  exact this

theorem values_any (A : Option Addr) (N c : Nat) (w : World) :
    Calls Try.prog 59 #[.slice A N c] w fun e w' => e = .returned (.func (.func 72) #[] #[.pointer (some ⟨w.heap.size, 0, none⟩)]) ∧ w' = w.alloc (.cells #[.slice A N c] 22) := by
  go_enter Try.func59, Try.ntmps59
  go_wp2
  go_ret
  exact ⟨rfl, rfl⟩
end Go.Proofs.Ytbfilmdociemmaa

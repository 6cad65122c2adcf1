/- PassesOf, of the program. -/
import Derived.Test.YtamkkmjldkhicaaPs1
import Derived.Test.YtamkkmjldkhicaaMgB
import Derived.Test.YtamkkmjldkhicaaMgE
import Derived.Lib.SliceRun
namespace Go.Proofs.Ytamkkmjldkhicaa
open Go Go.RowKit

set_option maxRecDepth 100000 in
set_option maxHeartbeats 1000000 in
theorem cloneP_any (A : Option Addr) (n c : Nat) (zs : List Int) (w : World) (h : RI w A n zs) (hn : n ≤ 1048576) : Calls Try.prog 58 #[.slice A n c] w (FreshI w n zs) := by
  have q22 : ∀ (w : World) (a : Option Addr) (n c n' c' : Nat), (binOp .eql 22 (.slice a n c) (.slice none n' c')).run Try.prog w = .ok (.bool a.isNone) w := fun w a n c n' c' => Lib.run_eql_slice_nil w _ _ a n c n' c' Try.underlying22
  rcases A with _ | a
  · have h0 : n = 0 := by
      by_cases e : n = 0
      · exact e
      · obtain ⟨b, off, e, _⟩ := h.2 (by omega)
        cases e
    subst h0
    have hz : zs = [] := List.length_eq_zero_iff.1 h.1
    subst hz
    clear h
    go_enter Try.func58, Try.ntmps58
    go_wp2
    go_ret
    exact ⟨none, 0, rfl, OI.none_ _ _, Below.refl _ _⟩
  · go_enter Try.func58, Try.ntmps58
    go_wp2_with (at_builtin; refine wpList_append_ints _ rfl _ _ rfl w.heap.size (some ⟨w.heap.size, 0, none⟩) 0 0 [] (some a) n c zs rfl rfl (OI.empty w _ (Nat.le_refl _)) (h.alloc _) (by omega) (by omega) (by simp) ?_; intro A1 c1 w1 ho hg; have HO := Lib.hid ho; have HB : Hid (Below w.heap.size w w1) := belGrown (belAlloc (belRefl (w := w)) _) (OI.empty w _ (Nat.le_refl _)) hg (Nat.le_refl _); clear ho hg)
    go_ret
    have := HO.out
    simp only [Nat.zero_add, List.nil_append] at this
    exact ⟨A1, c1, by simp, this, HB.out⟩

def pasV (zs : List Int) : Nat := if zs.length ≤ 100 then pasN zs else 0

set_option maxRecDepth 100000 in
set_option maxHeartbeats 1000000 in
theorem iPassesOf_any (A0 : Option Addr) (n c0 : Nat) (zs : List Int) (w : World) (h : RI w A0 n zs) (hn : n ≤ 1048576) (_hnc : n ≤ c0) :
    Calls Try.prog 27 #[.slice A0 n c0] w (RetIB (pasV zs : Int) (decide (zs.length ≤ 100)) w) := by
  have hl := h.1
  unfold pasV
  by_cases h1 : n ≤ 100
  · rw [if_pos (by omega), decide_eq_true (show zs.length ≤ 100 by omega)]
    have hiv := ninv_100 (l := zs) (by omega)
    have HC := Lib.hid (cloneP_any A0 n c0 zs w h hn)
    clear h
    go_enter Try.func27, Try.ntmps27
    go_wp2_with fail
    refine HC.out.mono ?_
    rintro e w1 ⟨A, c, rfl, ho, hb⟩
    have HB := Lib.hid hb
    have HO := Lib.hid ho
    obtain ⟨M, hM⟩ : ∃ M, M = ninv zs := ⟨_, rfl⟩
    have HM := Lib.hid hM
    rw [← hM] at hiv
    clear hb ho hM HC
    go_wp2
    go_loopw [5] (fun s5 wr => ∃ (p : Nat) (l : List Int), s5 = .int .i64 (p : Int) ∧ l.length = n ∧ p + pasN l = pasN zs ∧ p + ninv l ≤ M ∧ OI wr w.heap.size A n c l ∧ Below w.heap.size w wr) (fun s5 _ => M - (intOf s5).toNat)
    case atStart => exact ⟨0, zs, rfl, hl, by omega, by rw [HM.out]; omega, HO.out, HB.out⟩
    case round =>
      obtain ⟨p, l, rfl, hll, hp, hpi, ho, hb⟩ := hrel
      have HO2 := Lib.hid ho
      have HB2 := Lib.hid hb
      have HP := Lib.hid hp
      have HN := Lib.hid hpi
      have hpM : p ≤ M := by omega
      clear ho hb hp hpi
      rcases hq : passB l with _ | _
      · have HY := Lib.hid (pasN_no hq)
        have HQ := Lib.hid hq
        clear hq
        go_wp2_with fail
        refine (passOver_any A n c w.heap.size l _ HO2.out h1).mono ?_
        rw [HQ.out]
        rintro e w2 ⟨rfl, ho2, hb2⟩
        have HB3 := Lib.hid (HB2.out.trans hb2)
        clear ho2 hb2
        go_wp2
        go_ret2
        refine ⟨?_, HB3.out⟩
        rw [← HP.out, HY.out]; rfl
      · have HY := Lib.hid (pasN_yes hq)
        have HL := Lib.hid (pass_less hq)
        have HQ := Lib.hid hq
        clear hq
        go_wp2_with fail
        refine (passOver_any A n c w.heap.size l _ HO2.out h1).mono ?_
        rw [HQ.out]
        rintro e w2 ⟨rfl, ho2, hb2⟩
        have HO3 := Lib.hid ho2
        have HB3 := Lib.hid (HB2.out.trans hb2)
        have hlt : p < M := by have := HL.out; have := HN.out; omega
        clear ho2 hb2
        go_wp2
        go_roundw
        case rel => exact ⟨p + 1, passL l, by go_num, by rw [passL_len]; exact hll, by have := HY.out; have := HP.out; omega, by have := HL.out; have := HN.out; omega, HO3.out, HB3.out⟩
        case measure => simp [intOf]; omega
  · rw [if_neg (by omega), decide_eq_false (show ¬ zs.length ≤ 100 by omega)]
    clear h
    go_enter Try.func27, Try.ntmps27
    go_wp2
    go_ret2
    exact ⟨rfl, Below.refl _ _⟩
end Go.Proofs.Ytamkkmjldkhicaa

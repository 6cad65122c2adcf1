/- The placing game: the model's answers. -/
import Derived.Test.YtbfdpjnkpclcbaaGp3
import Derived.Deep.RegionWith
namespace Go.Proofs.Ytbfdpjnkpclcbaa
open Go Go.RowKit

def gpB (n g m : Int) : Bool := inB n 2 8 && (inB g 0 (n - 1) && inB m 0 8)
theorem gpB_iff {n g m : Int} : gpB n g m = true ↔ (2 ≤ n ∧ n ≤ 8) ∧ (0 ≤ g ∧ g ≤ n - 1) ∧ (0 ≤ m ∧ m ≤ 8) := by
  unfold gpB
  simp only [Bool.and_eq_true, inB_iff]
theorem plB_gp {n a g m : Int} : plB n a g m = (gpB n g m && inB a 0 (n - 1)) := by
  rw [Bool.eq_iff_iff, Bool.and_eq_true, plB_iff, gpB_iff, inB_iff]
  exact ⟨fun ⟨h1, h2, h3, h4⟩ => ⟨⟨h1, h3, h4⟩, h2⟩, fun ⟨⟨h1, h3, h4⟩, h2⟩ => ⟨h1, h2, h3, h4⟩⟩
theorem pls_gp {n g m : Int} : plsB n g m = gpB n g m := by
  unfold plsB
  rw [plB_gp]
  rcases h : gpB n g m with _ | _
  · rfl
  · have := gpB_iff.1 h
    rw [inB_true (by omega)]; rfl
theorem inG (a lo hi : Int) (w : World) : Calls Try.prog 45 #[.int .i64 a, .int .i64 lo, .int .i64 hi] w (fun e w' => e = .returned (.bool (inB a lo hi)) ∧ w' = w) := (l1In_any a lo hi w).mono (by rintro e w' ⟨rfl, h⟩; exact ⟨rfl, h.symm⟩)

set_option maxRecDepth 100000 in
set_option maxHeartbeats 1000000 in
theorem gaPlacing_any (n g m : Int) (w : World) : Calls Try.prog 44 #[.int .i64 n, .int .i64 g, .int .i64 m] w (fun e w' => e = .returned (.bool (gpB n g m)) ∧ w' = w) := by
  have H1 := Lib.hid (fun w2 => inG n 2 8 w2)
  have H3 := Lib.hid (fun w2 => inG m 0 8 w2)
  unfold gpB
  rcases hq : inB n 2 8 with _ | _
  · rw [hq] at H1
    clear hq
    go_enter Try.func44, Try.ntmps44
    go_wp2_with fail
    refine (H1.out _).mono ?_
    rintro e w9 ⟨rfl, hw9⟩; replace hw9 := hw9.symm; subst hw9
    go_wp2
    go_ret
    exact ⟨rfl, rfl⟩
  · rw [hq] at H1
    have hn := inB_iff.1 hq
    have hw : IntKind.i64.wrap (n - 1) = n - 1 := IntWalk.i64_in _ (by omega)
    have hn1 := hn.1
    have hn2 := hn.2
    have H2 := Lib.hid (fun w2 => inG g 0 (n - 1) w2)
    obtain ⟨q2, hq2⟩ : ∃ q, q = inB g 0 (n - 1) := ⟨_, rfl⟩
    obtain ⟨q3, hq3⟩ : ∃ q, q = inB m 0 8 := ⟨_, rfl⟩
    rw [← hq2] at H2 ⊢
    rw [← hq3] at H3 ⊢
    clear hq hq2 hq3 hn
    cases q2
    · go_enter Try.func44, Try.ntmps44
      go_wp2_with fail
      refine (H1.out _).mono ?_
      rintro e w9 ⟨rfl, hw9⟩; replace hw9 := hw9.symm; subst hw9
      go_wp2_with fail
      refine (H2.out _).mono ?_
      rintro e w9 ⟨rfl, hw9⟩; replace hw9 := hw9.symm; subst hw9
      go_wp2
      go_ret
      exact ⟨rfl, rfl⟩
    · cases q3
      all_goals
        go_enter Try.func44, Try.ntmps44
        go_wp2_with fail
        refine (H1.out _).mono ?_
        rintro e w9 ⟨rfl, hw9⟩; replace hw9 := hw9.symm; subst hw9
        go_wp2_with fail
        refine (H2.out _).mono ?_
        rintro e w9 ⟨rfl, hw9⟩; replace hw9 := hw9.symm; subst hw9
        go_wp2_with fail
        refine (H3.out _).mono ?_
        rintro e w9 ⟨rfl, hw9⟩; replace hw9 := hw9.symm; subst hw9
        go_wp2
        go_ret
        exact ⟨rfl, rfl⟩

/-- the model's table tells the program's outlook -/
theorem wn_top {N g m a : Nat} (h2 : 2 ≤ N) : wnL N g (fsP m true) m a = (ovL N g (fsP m true) m a).1 := by
  rw [wnL_ov h2 m a (fun i hi => fsP_turn i hi), fsP_top, if_pos rfl]
theorem plO_at {N a g m : Nat} (ha : a < 8) : (plO (N : Int) (a : Int) (g : Int) (m : Int)) = ovL N g (fsP m true) m a := by
  unfold plO ovP plp
  simp only [Int.toNat_natCast]
  rw [show (m * 8 + a) / 8 = m by omega, show (m * 8 + a) % 8 = a by omega]

set_option maxRecDepth 100000 in
set_option maxHeartbeats 2000000 in
theorem sPlaceWinner_any (n a g m : Int) (w : World) :
    Calls Try.prog 25 #[.int .i64 n, .int .i64 a, .int .i64 g, .int .i64 m] w (RetBB (plwB n a g m) (plB n a g m) w) := by
  have HG := Lib.hid (fun w2 => gaPlacing_any n g m w2)
  rcases hq : gpB n g m with _ | _
  · have e : plB n a g m = false := by rw [plB_gp, hq]; rfl
    rw [plwB_no e, e]
    rw [hq] at HG
    clear hq e
    go_enter Try.func25, Try.ntmps25
    go_wp2_with fail
    refine (HG.out _).mono ?_
    rintro e w9 ⟨rfl, hw9⟩; replace hw9 := hw9.symm; subst hw9
    go_wp2
    go_ret2
    exact ⟨rfl, Below.refl _ _⟩
  · obtain ⟨hn, hg, hm⟩ := gpB_iff.1 hq
    rw [hq] at HG
    have hw : IntKind.i64.wrap (n - 1) = n - 1 := IntWalk.i64_in _ (by omega)
    have HA := Lib.hid (fun w2 => inG a 0 (n - 1) w2)
    rcases hqa : inB a 0 (n - 1) with _ | _
    · have e : plB n a g m = false := by rw [plB_gp, hqa, Bool.and_false]
      rw [plwB_no e, e]
      rw [hqa] at HA
      have hn1 := hn.1
      have hn2 := hn.2
      clear hq hqa e hn hg hm
      go_enter Try.func25, Try.ntmps25
      go_wp2_with fail
      refine (HG.out _).mono ?_
      rintro e w9 ⟨rfl, hw9⟩; replace hw9 := hw9.symm; subst hw9
      go_wp2_with fail
      refine (HA.out _).mono ?_
      rintro e w9 ⟨rfl, hw9⟩; replace hw9 := hw9.symm; subst hw9
      go_wp2
      go_ret2
      exact ⟨rfl, Below.refl _ _⟩
    · have e : plB n a g m = true := by rw [plB_gp, hq, hqa]; rfl
      rw [plwB_yes e, e]
      rw [hqa] at HA
      have ha := inB_iff.1 hqa
      obtain ⟨N, rfl⟩ : ∃ N : Nat, n = (N : Int) := ⟨n.toNat, by omega⟩
      obtain ⟨a, rfl⟩ : ∃ N : Nat, a = (N : Int) := ⟨a.toNat, by omega⟩
      obtain ⟨g, rfl⟩ : ∃ N : Nat, g = (N : Int) := ⟨g.toNat, by omega⟩
      obtain ⟨m, rfl⟩ : ∃ N : Nat, m = (N : Int) := ⟨m.toNat, by omega⟩
      rw [plO_at (by omega), ← wn_top (by omega)]
      have HP := Lib.hid (fun w2 => gaPlaces_any N g m true w2 (by omega) (by omega) (by omega) (by omega))
      unfold GpPost at HP
      obtain ⟨f, hf⟩ : ∃ f, f = wnL N g (fsP m true) m := ⟨_, rfl⟩
      rw [← hf] at HP ⊢
      have haN : a < N := by omega
      have hai : (a : Int) < (N : Int) := by omega
      have hn1 := hn.1
      have hn2 := hn.2
      clear hq hqa e hn hg hm ha hf
      go_enter Try.func25, Try.ntmps25
      go_wp2_with fail
      refine (HG.out _).mono ?_
      rintro e w9 ⟨rfl, hw9⟩; replace hw9 := hw9.symm; subst hw9
      go_wp2_with fail
      refine (HA.out _).mono ?_
      rintro e w9 ⟨rfl, hw9⟩; replace hw9 := hw9.symm; subst hw9
      go_wp2_with fail
      refine (HP.out _).mono ?_
      rintro e w2 ⟨b, rfl, ho, hb⟩
      have hc := ho.2.cell haN
      have HB := Lib.hid hb
      clear ho hb HP
      go_wp2
      go_ret2
      exact ⟨rfl, HB.out⟩

set_option maxRecDepth 100000 in
set_option maxHeartbeats 2000000 in
theorem sPlacesWon_any (n g m : Int) (w : World) :
    Calls Try.prog 29 #[.int .i64 n, .int .i64 g, .int .i64 m] w (FreshIB w (plsL n g m).length (plsL n g m) (plsB n g m)) := by
  have HG := Lib.hid (fun w2 => gaPlacing_any n g m w2)
  rcases hq : gpB n g m with _ | _
  · have e : plsB n g m = false := by rw [pls_gp, hq]
    rw [plsL_no e, e]
    rw [hq] at HG
    clear hq e
    go_enter Try.func29, Try.ntmps29
    go_wp2_with fail
    refine (HG.out _).mono ?_
    rintro e w9 ⟨rfl, hw9⟩; replace hw9 := hw9.symm; subst hw9
    go_wp2
    go_ret2
    exact ⟨none, 0, rfl, OI.none_ _ _, Below.refl _ _⟩
  · obtain ⟨hn, hg, hm⟩ := gpB_iff.1 hq
    rw [hq] at HG
    have e : plsB n g m = true := by rw [pls_gp, hq]
    rw [plsL_yes e, e]
    obtain ⟨N, rfl⟩ : ∃ N : Nat, n = (N : Int) := ⟨n.toNat, by omega⟩
    obtain ⟨g, rfl⟩ : ∃ N : Nat, g = (N : Int) := ⟨g.toNat, by omega⟩
    obtain ⟨m, rfl⟩ : ∃ N : Nat, m = (N : Int) := ⟨m.toNat, by omega⟩
    rw [Int.toNat_natCast]
    have HP := Lib.hid (fun w2 => gaPlaces_any N g m true w2 (by omega) (by omega) (by omega) (by omega))
    unfold GpPost at HP
    have hfl : flK (fun (a : Nat) => plwB (N : Int) (a : Int) (g : Int) (m : Int)) N = flK (wnL N g (fsP m true) m) N := flK_congr N fun a ha => by
      rw [plwB_yes (plB_iff.2 ⟨by omega, by omega, by omega, by omega⟩), plO_at (by omega), ← wn_top (by omega)]
    rw [hfl]
    obtain ⟨f, hf⟩ : ∃ f, f = wnL N g (fsP m true) m := ⟨_, rfl⟩
    rw [← hf] at HP ⊢
    have hn1 := hn.1
    have hn2 := hn.2
    clear hq e hn hg hm hf hfl
    go_enter Try.func29, Try.ntmps29
    go_wp2_with fail
    refine (HG.out _).mono ?_
    rintro e w9 ⟨rfl, hw9⟩; replace hw9 := hw9.symm; subst hw9
    go_wp2_with fail
    refine (HP.out _).mono ?_
    rintro e w1 ⟨b, rfl, ho, hb⟩
    have HO := Lib.hid ho
    have HB := Lib.hid hb
    clear ho hb HP
    go_wp2
    go_loopw [8, 21] (fun v i wr => ∃ (k : Nat) (E : Option Addr) (d : Nat), k ≤ N ∧ i = .int .i64 (k : Int) ∧ v = .slice E (flK f k).length d ∧ OI wr w1.heap.size E (flK f k).length d (flK f k) ∧ Below w1.heap.size w1 wr) (fun _ i _ => N - (intOf i).toNat)
    case atStart => exact ⟨0, none, 0, Nat.zero_le _, rfl, rfl, OI.none_ _ _, Below.refl _ _⟩
    case round =>
      obtain ⟨k, E, d, hk, rfl, rfl, ho, hb⟩ := hrel
      have HE := Lib.hid ho; have HBr := Lib.hid hb
      have HOr := obStep HO hb
      have hgl := flK_len f k
      have hzz := hb.size
      clear ho hb
      by_cases hkn : k < N
      · have hc := HOr.out.2.cell hkn
        have hki : (k : Int) < (N : Int) := by omega
        have hY := Lib.hid (@flK_yes f k)
        have hNo := Lib.hid (@flK_no f k)
        obtain ⟨q, hq⟩ : ∃ q, q = f k := ⟨_, rfl⟩
        rw [← hq] at hc hY hNo
        clear hq
        cases q
        · have HL := Lib.hid (hNo.out rfl)
          go_wp2
          go_roundw
          case rel => exact ⟨k + 1, E, d, by omega, by go_num, by rw [HL.out], by rw [HL.out]; exact HE.out, HBr.out⟩
          case measure => simp [intOf]; omega
        · have HL := Lib.hid (hY.out rfl)
          have HLl := Lib.hid (show (flK f (k + 1)).length = (flK f k).length + 1 by rw [hY.out rfl]; simp)
          go_wp2_with (at_builtin; refine wpList_append_int _ rfl _ _ rfl w1.heap.size E (flK f k).length d _ (k : Int) _ rfl rfl (HE.out.alloc _) (by simp) (by omega) (by simp; omega) ?_; intro E5 d5 w5 ho5 hg5; have HBK := Lib.hid (below_ap (K := w1.heap.size) HE.out hg5 (Nat.le_refl _) (by omega)); clear hg5)
          go_roundw
          case rel => exact ⟨k + 1, E5, d5, by omega, by go_num, by rw [HLl.out], by rw [HLl.out, HL.out]; exact ho5, HBr.out.trans HBK.out⟩
          case measure => simp [intOf]; omega
      · obtain rfl : k = N := by omega
        go_wp2
        go_ret2
        exact ⟨E, d, rfl, HE.out.mono HB.out.size, HB.out.trans (HBr.out.mono HB.out.size)⟩
end Go.Proofs.Ytbfdpjnkpclcbaa

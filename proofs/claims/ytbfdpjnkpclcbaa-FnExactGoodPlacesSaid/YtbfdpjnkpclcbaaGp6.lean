/- The placing game: the model's good rungs. -/
import Derived.Test.YtbfdpjnkpclcbaaGp4
namespace Go.Proofs.Ytbfdpjnkpclcbaa
open Go Go.RowKit

/-- the rungs after which the first one wins -/
theorem plg_none {N a g : Nat} (ha : a < 8) : gdP (chP N) nxP (ovP N g (fsP 0 true)) (plp (a : Int) ((0 : Nat) : Int)) = [] := by
  have e : chP N (plp (a : Int) ((0 : Nat) : Int)) = [] := by
    unfold chP plp
    simp only [Int.toNat_natCast]
    rw [if_pos (by omega)]
  unfold gdP
  rw [e]
  rfl
theorem plg_some {N a g M : Nat} (h2 : 2 ≤ N) (h8 : N ≤ 8) (ha : a < N) :
    ∃ f : Nat → OutP, gdP (chP N) nxP (ovP N g (fsP (M + 1) true)) (plp (a : Int) ((M + 1 : Nat) : Int)) = gdK f (upJ (N - 1)) (N - 1) ∧ ∀ k, k < N - 1 → (f k).1 = wnL N g (fsP M false) M (ovr a k) := by
  obtain ⟨p, hp⟩ : ∃ p, p = plp (a : Int) ((M + 1 : Nat) : Int) := ⟨_, rfl⟩
  have hp' : p = (M + 1) * 8 + a := by
    rw [hp]; unfold plp
    simp only [Int.toNat_natCast]
  have hd : p / 8 = M + 1 := by omega
  have hm : p % 8 = a := by omega
  have e : chP N p = upJ (N - 1) := by unfold chP; rw [if_neg (by omega)]
  rw [← hp]
  unfold gdP
  rw [e, upJ_len]
  refine ⟨_, rfl, fun k hk => ?_⟩
  rw [gi_upJ hk, Int.toNat_natCast]
  unfold ovP
  obtain ⟨h1, h3⟩ := nxP_parts (p := p) (i := k) h8 (by omega) (by omega)
  rw [h1, h3, hd, hm, Nat.add_sub_cancel]
  rw [wnL_congr M _ (fun i hi => fsP_less hi), wnL_ov h2 M _ (fun i hi => fsP_turn i (by omega))]
  have hf : fsP (M + 1) true M = false := by rw [fsP_turn M (by omega), fsP_top]; rfl
  rw [hf]
  rfl

set_option maxRecDepth 100000 in
set_option maxHeartbeats 2000000 in
theorem sGoodPlaces_any (n a g m : Int) (w : World) :
    Calls Try.prog 27 #[.int .i64 n, .int .i64 a, .int .i64 g, .int .i64 m] w (FreshIB w (plgL n a g m).length (plgL n a g m) (plB n a g m)) := by
  have HG := Lib.hid (fun w2 => gaPlacing_any n g m w2)
  rcases hq : gpB n g m with _ | _
  · have e : plB n a g m = false := by rw [plB_gp, hq]; rfl
    rw [plgL_no e, e]
    rw [hq] at HG
    clear hq e
    go_enter Try.func27, Try.ntmps27
    go_wp2_with fail
    refine (HG.out _).mono ?_
    rintro e w9 ⟨rfl, hw9⟩; replace hw9 := hw9.symm; subst hw9
    go_wp2
    go_ret2
    exact ⟨none, 0, rfl, OI.none_ _ _, Below.refl _ _⟩
  · obtain ⟨hn, hg, hm⟩ := gpB_iff.1 hq
    rw [hq] at HG
    have hw : IntKind.i64.wrap (n - 1) = n - 1 := IntWalk.i64_in _ (by omega)
    have HA := Lib.hid (fun w2 => inG a 0 (n - 1) w2)
    have hn1 := hn.1
    have hn2 := hn.2
    rcases hqa : inB a 0 (n - 1) with _ | _
    · have e : plB n a g m = false := by rw [plB_gp, hqa, Bool.and_false]
      rw [plgL_no e, e]
      rw [hqa] at HA
      clear hq hqa e hn hg hm
      go_enter Try.func27, Try.ntmps27
      go_wp2_with fail
      refine (HG.out _).mono ?_
      rintro e w9 ⟨rfl, hw9⟩; replace hw9 := hw9.symm; subst hw9
      go_wp2_with fail
      refine (HA.out _).mono ?_
      rintro e w9 ⟨rfl, hw9⟩; replace hw9 := hw9.symm; subst hw9
      go_wp2
      go_ret2
      exact ⟨none, 0, rfl, OI.none_ _ _, Below.refl _ _⟩
    · have e : plB n a g m = true := by rw [plB_gp, hq, hqa]; rfl
      rw [plgL_yes e, e]
      rw [hqa] at HA
      have ha := inB_iff.1 hqa
      obtain ⟨N, rfl⟩ : ∃ N : Nat, n = (N : Int) := ⟨n.toNat, by omega⟩
      obtain ⟨a, rfl⟩ : ∃ N : Nat, a = (N : Int) := ⟨a.toNat, by omega⟩
      obtain ⟨g, rfl⟩ : ∃ N : Nat, g = (N : Int) := ⟨g.toNat, by omega⟩
      obtain ⟨m, rfl⟩ : ∃ N : Nat, m = (N : Int) := ⟨m.toNat, by omega⟩
      have haN : a < N := by omega
      have hgN : g < N := by omega
      simp only [Int.toNat_natCast]
      rcases m with _ | M
      · rw [plg_none (by omega)]
        have hm0 : ¬ (0 : Int) < ((0 : Nat) : Int) := by omega
        clear hq hqa e hn hg hm ha
        go_enter Try.func27, Try.ntmps27
        go_wp2_with fail
        refine (HG.out _).mono ?_
        rintro e w9 ⟨rfl, hw9⟩; replace hw9 := hw9.symm; subst hw9
        go_wp2_with fail
        refine (HA.out _).mono ?_
        rintro e w9 ⟨rfl, hw9⟩; replace hw9 := hw9.symm; subst hw9
        go_wp2
        go_ret2
        exact ⟨none, 0, rfl, OI.none_ _ _, Below.refl _ _⟩
      · obtain ⟨fo, hfo, hfk⟩ := plg_some (g := g) (M := M) (by omega) (by omega) haN
        rw [hfo]
        have HP := Lib.hid (fun w2 => gaPlaces_any N g M false w2 (by omega) (by omega) hgN (by omega))
        unfold GpPost at HP
        obtain ⟨f, hf⟩ : ∃ f, f = wnL N g (fsP M false) M := ⟨_, rfl⟩
        rw [← hf] at HP hfk
        obtain ⟨G, hG⟩ : ∃ G : Nat → List Int, G = gdK fo (upJ (N - 1)) := ⟨_, rfl⟩
        rw [← hG]
        have HY : Hid (∀ k, k < N - 1 → f (ovr a k) = true → G (k + 1) = G k ++ [(k : Int)]) := Lib.hid (fun k hk h9 => by rw [hG, gdK_yes ((hfk k hk).trans h9), gi_upJ hk])
        have HNo : Hid (∀ k, k < N - 1 → f (ovr a k) = false → G (k + 1) = G k) := Lib.hid (fun k hk h9 => by rw [hG, gdK_no ((hfk k hk).trans h9)])
        have HGl : Hid (∀ k, (G k).length ≤ k) := Lib.hid (fun k => by rw [hG]; exact gdK_len fo _ k)
        have HG0 : Hid (G 0 = []) := Lib.hid (by rw [hG]; rfl)
        have hmM : (((M + 1 : Nat) : Int)) = (M : Int) + 1 := by omega
        have hm8 : M ≤ 7 := by omega
        rw [hmM] at HG ⊢
        have hm0 : (0 : Int) < (M : Int) + 1 := by omega
        clear hq hqa e hn hg hm ha hf hG hfo hfk hmM
        go_enter Try.func27, Try.ntmps27
        go_wp2_with fail
        refine (HG.out _).mono ?_
        rintro e w9 ⟨rfl, hw9⟩; replace hw9 := hw9.symm; subst hw9
        go_wp2_with fail
        refine (HA.out _).mono ?_
        rintro e w9 ⟨rfl, hw9⟩; replace hw9 := hw9.symm; subst hw9
        go_wp2_with fail
        try rw [Int.add_sub_cancel]
        refine (HP.out _).mono ?_
        rintro e w1 ⟨b, rfl, ho, hb⟩
        have HO := Lib.hid ho
        have HB := Lib.hid hb
        clear ho hb HP HA HG
        go_wp2
        go_loopw [10, 12] (fun v i wr => ∃ (k : Nat) (E : Option Addr) (d : Nat), k ≤ N - 1 ∧ i = .int .i64 (k : Int) ∧ v = .slice E (G k).length d ∧ OI wr w1.heap.size E (G k).length d (G k) ∧ Below w1.heap.size w1 wr) (fun _ i _ => N - 1 - (intOf i).toNat)
        case atStart => exact ⟨0, none, 0, Nat.zero_le _, rfl, by rw [HG0.out]; rfl, by rw [HG0.out]; exact OI.none_ _ _, Below.refl _ _⟩
        case round =>
          obtain ⟨k, E, d, hk, rfl, rfl, ho, hb⟩ := hrel
          have HE := Lib.hid ho; have HBr := Lib.hid hb
          have HOr := obStep HO hb
          have hgl := HGl.out k
          have hzz := hb.size
          clear ho hb
          by_cases hkn : k < N - 1
          · have hov := ovr_lt haN (show k + 1 < N by omega)
            have hc := HOr.out.2.cell hov
            have HOV := Lib.hid (fun w2 => laOver_any (a : Int) (k : Int) w2 (by omega))
            rw [ovr_over] at HOV
            have hki : (k : Int) < (N : Int) - 1 := by omega
            have hY := Lib.hid (HY.out k hkn)
            have hNo := Lib.hid (HNo.out k hkn)
            obtain ⟨o, ho⟩ : ∃ o, o = ovr a k := ⟨_, rfl⟩
            rw [← ho] at hov hc HOV hY hNo
            have hoi : (o : Int) < (N : Int) := by omega
            obtain ⟨q, hq⟩ : ∃ q, q = f o := ⟨_, rfl⟩
            rw [← hq] at hc hY hNo
            clear hq ho
            cases q
            · have HL := Lib.hid (hNo.out rfl)
              go_wp2_with (go_at_call 48; refine (HOV.out _).mono ?_; rintro e w' ⟨rfl, rfl⟩)
              go_roundw
              case rel => exact ⟨k + 1, E, d, by omega, by go_num, by rw [HL.out], by rw [HL.out]; exact HE.out, HBr.out⟩
              case measure => simp [intOf]; omega
            · have HL := Lib.hid (hY.out rfl)
              have HLl := Lib.hid (show (G (k + 1)).length = (G k).length + 1 by rw [hY.out rfl]; simp)
              go_wp2_with first
                | (go_at_call 48; refine (HOV.out _).mono ?_; rintro e w' ⟨rfl, hw9⟩; replace hw9 := hw9.symm; subst hw9)
                | (at_builtin; refine wpList_append_int _ rfl _ _ rfl w1.heap.size E (G k).length d _ (k : Int) _ rfl rfl (HE.out.alloc _) (by simp) (by omega) (by simp; omega) ?_; intro E5 d5 w5 ho5 hg5; have HBK := Lib.hid (below_ap (K := w1.heap.size) HE.out hg5 (Nat.le_refl _) (by omega)); clear hg5)
              go_roundw
              case rel => exact ⟨k + 1, E5, d5, by omega, by go_num, by rw [HLl.out], by rw [HLl.out, HL.out]; exact ho5, HBr.out.trans HBK.out⟩
              case measure => simp [intOf]; omega
          · obtain rfl : k = N - 1 := by omega
            go_wp2
            go_ret2
            exact ⟨E, d, rfl, HE.out.mono HB.out.size, HB.out.trans (HBr.out.mono HB.out.size)⟩
end Go.Proofs.Ytbfdpjnkpclcbaa

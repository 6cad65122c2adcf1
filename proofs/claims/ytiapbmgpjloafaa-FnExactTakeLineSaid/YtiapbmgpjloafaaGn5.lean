/- The model's taking game: good rungs, and the line. -/
import Derived.Test.YtiapbmgpjloafaaGn4
namespace Go.Proofs.Ytiapbmgpjloafaa
open Go Go.RowKit

def upI (k : Nat) : List Int := (List.range k).map fun (i : Nat) => (i : Int)
theorem upI_succ (k : Nat) : upI (k + 1) = upI k ++ [(k : Int)] := by simp [upI, List.range_succ]
theorem upI_len (k : Nat) : (upI k).length = k := by simp [upI]
theorem full_bit {n k : Nat} (h : k < n) : (2 ^ n - 1).testBit k = true := by rw [Nat.testBit_two_pow_sub_one]; exact decide_eq_true h
theorem indK_full {n : Nat} : ∀ k, k ≤ n → indK (2 ^ n - 1) k = upI k
  | 0, _ => rfl
  | k + 1, h => by rw [indK_yes (full_bit (by omega)), indK_full k (by omega), ← upI_succ]
theorem gi_upI {n k : Nat} (h : k < n) : gi (upI n) k = (k : Int) := by rw [gi_lt (by simp [upI]; exact h)]; simp [upI]

set_option maxRecDepth 100000 in
set_option maxHeartbeats 4000000 in
theorem sGoodTakes_any (W : Int) (A : Option Addr) (n c : Nat) (zs : List Int) (w : World) (h : RI w A n zs) (hn : n ≤ 1048576) :
    Calls Try.prog 15 #[.agg #[.int .i64 W, .slice A n c]] w (FreshIB w (tkgL W zs).length (tkgL W zs) (tkB W zs)) := by
  have hz := h.1
  have HA := boxNew (W := W) (c := c) 28 h
  have HB := belAlloc (belRefl (w := w)) (.cells #[.int .i64 W, .slice A n c] 28)
  have HG := Lib.hid (fun w2 (r : RI w2 A n zs) => gaTaking_any W A n c zs w2 r hn)
  have HH := Lib.hid (fun w2 (r : Below w.heap.size w w2) => h.below r (Nat.le_refl _))
  rcases hq : tkB W zs with _ | _
  · rw [tkgL_no hq]
    rw [hq] at HG
    clear hq h hz
    go_enter Try.func15, Try.ntmps15
    go_wp2_with fail
    refine (HG.out _ HA.out.ri).mono ?_
    rintro e w1 ⟨rfl, hb⟩
    replace HB := belStep HB hb
    clear hb
    go_wp2
    go_ret2
    exact ⟨none, 0, rfl, OI.none_ _ _, HB.out⟩
  · rw [tkgL_yes hq]
    rw [hq] at HG
    have hq2 := tkB_iff.1 hq
    have hn12 : n ≤ 12 := by omega
    have hW := (lad_iff.1 hq2.1).1
    have hfh := full_home hq
    obtain ⟨N, rfl⟩ : ∃ N : Nat, W = (N : Int) := ⟨W.toNat, by omega⟩
    rw [Int.toNat_natCast] at hfh ⊢
    have HN := Lib.hid (fun w2 (r : RI w2 A n zs) => gaNew_any N A n c zs w2 r hn12 hq2.1)
    have hch := chL_ind hfh
    rw [hz] at hch ⊢
    rw [indK_full n (Nat.le_refl _)] at hch
    unfold gdT
    obtain ⟨f, hf⟩ : ∃ f : Nat → OutP, f = fun j => behP (ovS zs N (nxT (2 ^ n - 1) (gi (chL zs N (2 ^ n - 1)) j).toNat)) := ⟨_, rfl⟩
    rw [← hf, hch, upI_len]
    rw [hch] at hf
    have HF : Hid (∀ k, k < n → f k = behP (ovS zs N (nxT (2 ^ n - 1) k))) := Lib.hid (fun k hk => by rw [hf]; simp only; rw [gi_upI hk, Int.toNat_natCast])
    have hp1 := Nat.two_pow_pos n
    have hp2 := pow12 hn12
    have HBT := Lib.hid (fun k (hk : k < n) => full_bit (n := n) hk)
    unfold GaPost at HN
    obtain ⟨P, hP⟩ : ∃ P, P = 2 ^ n := ⟨_, rfl⟩
    rw [← hP] at HN hp1 hp2 HBT HF
    have hpw : IntKind.i64.wrap ((P : Int) - 1) = ((P - 1 : Nat) : Int) := by rw [IntWalk.i64_in _ (by omega)]; omega
    obtain ⟨Q, hQ⟩ : ∃ Q, Q = P - 1 := ⟨_, rfl⟩
    rw [← hQ] at hpw HBT HF
    have hQP : Q < P := by omega
    obtain ⟨G, hG⟩ : ∃ G : Nat → List Int, G = gdK f (upI n) := ⟨_, rfl⟩
    rw [show gdK f (upI n) n = G n by rw [hG]]
    have HY : Hid (∀ k, k < n → (f k).1 = true → G (k + 1) = G k ++ [(k : Int)]) := Lib.hid (fun k hk h9 => by rw [hG, gdK_yes h9, gi_upI hk])
    have HNo : Hid (∀ k, k < n → (f k).1 = false → G (k + 1) = G k) := Lib.hid (fun k hk h9 => by rw [hG, gdK_no h9])
    have HGl : Hid (∀ k, (G k).length ≤ k) := Lib.hid (fun k => by rw [hG]; exact gdK_len f _ k)
    have HG0 : Hid (G 0 = []) := Lib.hid (by rw [hG]; rfl)
    clear hq h hz hq2 hfh hP hQ hW hch hf hG
    go_enter Try.func15, Try.ntmps15
    go_wp2_with fail
    refine (HG.out _ HA.out.ri).mono ?_
    rintro e w1 ⟨rfl, hb⟩
    replace HA := boxStep HA hb; replace HB := belStep HB hb
    have a0 := HA.out.c0; have a1 := HA.out.c1; have az := HA.out.lt
    clear hb HG
    go_wp2_with fail
    refine (HN.out _ HA.out.ri).mono ?_
    rintro e w2 ⟨g, gh, gl, rfl, hT, hRH, hRL, hb⟩
    replace HA := boxStep HA hb; replace HB := belStep HB hb
    replace a0 := HA.out.c0; replace a1 := HA.out.c1; replace az := HA.out.lt
    have HT := Lib.hid hT; have HRH := Lib.hid hRH; have HRL := Lib.hid hRL
    clear hb hT hRH hRL HN
    go_wp2
    go_loopw [5, 16] (fun v i wr => ∃ (k : Nat) (E : Option Addr) (d : Nat), k ≤ n ∧ i = .int .i64 (k : Int) ∧ v = .slice E (G k).length d ∧ OI wr w2.heap.size E (G k).length d (G k) ∧ Below w2.heap.size w2 wr) (fun _ i _ => n - (intOf i).toNat)
    case atStart => exact ⟨0, none, 0, Nat.zero_le _, rfl, by rw [HG0.out]; rfl, by rw [HG0.out]; exact OI.none_ _ _, Below.refl _ _⟩
    case round =>
      obtain ⟨k, E, d, hk, rfl, rfl, ho, hb⟩ := hrel
      have HO := Lib.hid ho
      have HBr := Lib.hid hb
      have HTr := tkStep HT hb
      have HRHr := rowStep HRH hb
      have HRLr := rowStep HRL hb
      have hzz := hb.size
      have hgl := HGl.out k
      have g2 := HTr.out.c2; have g3 := HTr.out.c3; have gz := HTr.out.lt
      clear ho hb a0 a1
      by_cases hkn : k < n
      · have hbit := HBT.out k hkn
        have hlt2 := nxT_lt hbit
        obtain ⟨Pk, hPk⟩ : ∃ Pk, Pk = 2 ^ k := ⟨_, rfl⟩
        have hpwk := pow_wrap (show k ≤ 12 by omega) hPk
        have hab := andNot_bit (S := Q) (i := k) (by omega) (by omega) hbit
        have hna : nxT Q k = Q - Pk := by unfold nxT; rw [hPk]
        have hfk := HF.out k hkn
        rw [← hPk] at hab
        obtain ⟨a, ha⟩ : ∃ a, a = nxT Q k := ⟨_, rfl⟩
        rw [← hna, ← ha] at hab
        rw [← ha] at hlt2 hfk
        have haP : a < P := by omega
        have hha := HRHr.out.cell haP
        have hla := HRLr.out.cell haP
        have hai : (a : Int) < (P : Int) := by omega
        have ha0 : (0 : Int) ≤ (a : Int) := by omega
        have hKY := HY.out k hkn
        have hKN := HNo.out k hkn
        rw [hfk] at hKY hKN
        clear hbit hna ha hPk hfk
        rcases hqa : homeQ zs N a with _ | _
        · rw [hqa] at hha
          have hsn := sc_neg (ovS_pos (zs := zs) (N := N) hqa)
          obtain ⟨y, hy⟩ : ∃ y, y = scO (ovS zs N a) := ⟨_, rfl⟩
          rw [← hy] at hla hsn
          have hfb : (behP (ovS zs N a)).1 = !(ovS zs N a).1 := rfl
          rw [hfb, ← hsn] at hKY hKN
          clear hy hfb hqa hsn
          by_cases hy0 : y < 0
          · have d1 : decide (y < 0) = true := decide_eq_true hy0
            have HK := Lib.hid (hKY d1)
            have HKl := Lib.hid (show (G (k + 1)).length = (G k).length + 1 by rw [hKY d1]; simp)
            clear hKY hKN
            go_wp2
            go_region
            all_goals
              go_wp2_with (at_builtin; refine wpList_append_int _ rfl _ _ rfl w2.heap.size E (G k).length d _ (k : Int) _ rfl rfl (by first | exact HO.out.alloc _ | exact (HO.out.drewN 1).alloc _) (by simp) (by omega) (by simp; omega) ?_; intro E5 d5 w5 ho5 hg5; have HBK := Lib.hid (below_ap (K := w2.heap.size) (wr := wr.drew) (by exact HO.out) hg5 (Nat.le_refl _) (by simpa using hzz)); clear hg5)
              go_roundw
              case rel => exact ⟨k + 1, E5, d5, by omega, by go_num, by rw [HKl.out], by rw [HKl.out, HK.out]; exact ho5, HBr.out.drew.trans HBK.out⟩
              case measure => simp [intOf]; omega
          · have d1 : decide (y < 0) = false := decide_eq_false hy0
            have HK := Lib.hid (hKN d1)
            have hy1 : 0 ≤ y := by omega
            clear hKY hKN hy0
            go_wp2
            go_region
            all_goals
              go_wp2
              go_roundw
              case rel => exact ⟨k + 1, E, d, by omega, by go_num, by rw [HK.out], by rw [HK.out]; exact HO.out, HBr.out.drew⟩
              case measure => simp [intOf]; omega
        · rw [hqa] at hha
          rw [ovS_home hqa] at hKY
          have HK := Lib.hid (hKY rfl)
          have HKl := Lib.hid (show (G (k + 1)).length = (G k).length + 1 by rw [hKY rfl]; simp)
          clear hKY hKN hqa
          go_wp2
          go_region
          all_goals
            go_wp2_with (at_builtin; refine wpList_append_int _ rfl _ _ rfl w2.heap.size E (G k).length d _ (k : Int) _ rfl rfl (by first | exact HO.out.alloc _ | exact (HO.out.drewN 1).alloc _) (by simp) (by omega) (by simp; omega) ?_; intro E5 d5 w5 ho5 hg5; have HBK := Lib.hid (below_ap (K := w2.heap.size) (wr := wr.drew) (by exact HO.out) hg5 (Nat.le_refl _) (by simpa using hzz)); clear hg5)
            go_roundw
            case rel => exact ⟨k + 1, E5, d5, by omega, by go_num, by rw [HKl.out], by rw [HKl.out, HK.out]; exact ho5, HBr.out.drew.trans HBK.out⟩
            case measure => simp [intOf]; omega
      · obtain rfl : k = n := by omega
        go_wp2
        go_ret2
        exact ⟨E, d, rfl, HO.out.mono (by have := HB.out.size; omega), HB.out.trans (HBr.out.mono (by have := HB.out.size; omega))⟩
end Go.Proofs.Ytiapbmgpjloafaa

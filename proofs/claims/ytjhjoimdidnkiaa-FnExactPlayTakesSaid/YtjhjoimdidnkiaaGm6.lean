/- IsTaking, of the program and of the model; the taking game at first; the sizes of the sets that leave everybody at home. -/
import Derived.Test.YtjhjoimdidnkiaaGm5
namespace Go.Proofs.Ytjhjoimdidnkiaa
open Go Go.RowKit

set_option maxRecDepth 100000 in
set_option maxHeartbeats 1000000 in
theorem sIsTaking_any (W : Int) (A : Option Addr) (n c : Nat) (zs : List Int) (w : World) (h : RI w A n zs) (hn : n ≤ 1048576) :
    Calls Try.prog 10 #[.agg #[.int .i64 W, .slice A n c]] w (RetB (tkB W zs) w) := by
  have HG := Lib.hid (fun w2 (r : RI w2 A n zs) => gaTaking_any W A n c zs w2 r hn)
  obtain ⟨q, hq⟩ : ∃ q, q = tkB W zs := ⟨_, rfl⟩
  rw [← hq] at HG ⊢
  have HB := belAlloc (belRefl (w := w)) (.cells #[.int .i64 W, .slice A n c] 27)
  clear hq
  go_enter Try.func10, Try.ntmps10
  go_wp2_with fail
  refine (HG.out _ (h.alloc _)).mono ?_
  rintro e w1 ⟨rfl, hb⟩
  replace HB := belStep HB hb
  clear hb h
  go_wp2
  go_ret
  exact ⟨rfl, HB.out⟩

set_option maxRecDepth 100000 in
set_option maxHeartbeats 1000000 in
theorem iIsTaking_any (W : Int) (A : Option Addr) (n c : Nat) (zs : List Int) (w : World) (h : RI w A n zs) (hn : n ≤ 1048576) :
    Calls Try.prog 12 #[.agg #[.int .i64 W, .slice A n c]] w (RetB (tkB W zs) w) := by
  have hlz := h.1
  have HA := boxNew (W := W) (c := c) 27 h
  have HB := belAlloc (belRefl (w := w)) (.cells #[.int .i64 W, .slice A n c] 27)
  have HG : Hid (∀ w, RI w A n zs → Calls Try.prog 32 #[.agg #[.int .i64 W, .slice A n c]] w (RetB (lad W zs) w)) := fun w h => iIsLadder_any W A n c zs w h hn
  rcases hq : lad W zs with _ | _
  · rw [tkB_no1 hq]
    rw [hq] at HG
    clear hq h
    go_enter Try.func12, Try.ntmps12
    go_wp2_with fail
    have a0 := HA.out.c0; have a1 := HA.out.c1; have az := HA.out.lt
    refine (HG.out _ HA.out.ri).mono ?_
    rintro e w1 ⟨rfl, hb⟩
    replace HB := belStep HB hb
    clear hb
    go_wp2
    go_ret
    exact ⟨rfl, HB.out⟩
  · rw [hq] at HG
    by_cases h12 : zs.length ≤ 12
    · rw [tkB_yes hq h12]
      have hn12 : (n : Int) ≤ 12 := by omega
      have HH := Lib.hid (fun w2 (r : RI w2 A n zs) => isHome_any W A n c zs w2 r (by omega) hq)
      obtain ⟨q, hqq⟩ : ∃ q, q = homeB zs W.toNat := ⟨_, rfl⟩
      rw [← hqq] at HH ⊢
      clear hq h hqq hlz h12
      go_enter Try.func12, Try.ntmps12
      go_wp2_with fail
      have a0 := HA.out.c0; have a1 := HA.out.c1; have az := HA.out.lt
      refine (HG.out _ HA.out.ri).mono ?_
      rintro e w1 ⟨rfl, hb⟩
      replace HA := boxStep HA hb; replace HB := belStep HB hb; replace a0 := HA.out.c0; replace a1 := HA.out.c1; replace az := HA.out.lt; clear hb
      go_wp2_with fail
      refine (HH.out _ HA.out.ri).mono ?_
      rintro e w2 ⟨rfl, hb⟩
      replace HB := belStep HB hb
      clear hb HA a0 a1
      cases q
      all_goals
        go_wp2
        go_ret
        exact ⟨rfl, HB.out⟩
    · rw [tkB_no2 h12]
      have hn12 : ¬ (n : Int) ≤ 12 := by omega
      clear hq h hlz h12
      go_enter Try.func12, Try.ntmps12
      go_wp2_with fail
      have a0 := HA.out.c0; have a1 := HA.out.c1; have az := HA.out.lt
      refine (HG.out _ HA.out.ri).mono ?_
      rintro e w1 ⟨rfl, hb⟩
      replace HA := boxStep HA hb; replace HB := belStep HB hb; replace a0 := HA.out.c0; replace a1 := HA.out.c1; replace az := HA.out.lt; clear hb
      go_wp2
      go_ret
      exact ⟨rfl, HB.out⟩

theorem pow12 {n : Nat} (h : n ≤ 12) : 2 ^ n ≤ 4096 := by
  have := Nat.pow_le_pow_right (show 0 < 2 by decide) h
  simpa using this
theorem pow_wrap {n P : Nat} (h : n ≤ 12) (hP : P = 2 ^ n) : wrap64 ((2 : Int) ^ n) = (P : Int) := by
  have h1 := pow12 h
  have e : ((2 : Int) ^ n) = (P : Int) := by rw [hP]; simp
  rw [e]; exact IntWalk.wrap64_in _ (by omega)

/-- the taking game at first -/
def RetT (W : Int) (A : Option Addr) (n c S : Nat) (w : World) (e : Ending) (w' : World) : Prop := e = .returned (.agg #[.int .i64 W, .slice A n c, .int .i64 (S : Int)]) ∧ Below w.heap.size w w'
set_option maxRecDepth 100000 in
set_option maxHeartbeats 1000000 in
theorem takingOf_any (W : Int) (A : Option Addr) (n c : Nat) (zs : List Int) (w : World) (h : RI w A n zs) (hn : n ≤ 12) :
    Calls Try.prog 37 #[.agg #[.int .i64 W, .slice A n c]] w (RetT W A n c (2 ^ n - 1) w) := by
  have hp1 : 1 ≤ 2 ^ n := Nat.one_le_two_pow
  have hp2 := pow12 hn
  obtain ⟨P, hP⟩ : ∃ P, P = 2 ^ n := ⟨_, rfl⟩
  have hpw := pow_wrap hn hP
  rw [← hP] at hp1 hp2 ⊢
  have hps : IntKind.i64.wrap ((P : Int) - 1) = ((P - 1 : Nat) : Int) := by rw [IntWalk.i64_in _ (by omega)]; omega
  have HA := boxAlloc (boxNew (W := W) (c := c) 27 h) (.cells #[.int .i64 0, .slice none 0 0, .int .i64 0] 48)
  have HB := belAlloc (belAlloc (belRefl (w := w)) (.cells #[.int .i64 W, .slice A n c] 27)) (.cells #[.int .i64 0, .slice none 0 0, .int .i64 0] 48)
  clear h hP
  go_enter Try.func37, Try.ntmps37
  have a0 := HA.out.c0; have a1 := HA.out.c1; have az := HA.out.lt
  go_wp2
  go_region
  go_wp2
  exact bodyPost_ret (v := .agg #[.int .i64 W, .slice A n c, .int .i64 ((P - 1 : Nat) : Int)]) (by simp [results, Try.results37, go_sem]) rfl ⟨rfl, (by repeat (first | exact Below.refl _ _ | exact HB.out | refine Below.setCell ?_ (by simp <;> omega) _ | refine Below.alloc ?_ (by simp <;> omega) _ | refine below_drewN ?_ _))⟩

set_option maxRecDepth 100000 in
set_option maxHeartbeats 1000000 in
theorem without_any (W : Int) (A : Option Addr) (n c : Nat) (S i : Nat) (w : World) (hS : S < 4096) (hi : i < 12) (hb : S.testBit i = true) :
    Calls Try.prog 40 #[.agg #[.int .i64 W, .slice A n c, .int .i64 (S : Int)], .int .i64 (i : Int)] w (RetT W A n c (S - 2 ^ i) w) := by
  obtain ⟨P, hP⟩ : ∃ P, P = 2 ^ i := ⟨_, rfl⟩
  have hpw := pow_wrap (by omega) hP
  have hab := andNot_bit hS hi hb
  rw [← hP] at hab ⊢
  clear hP hb
  go_enter Try.func40, Try.ntmps40
  go_wp2
  go_region
  go_wp2
  exact bodyPost_ret (v := .agg #[.int .i64 W, .slice A n c, .int .i64 ((S - P : Nat) : Int)]) (by simp [results, Try.results40, go_sem]) rfl ⟨rfl, (by repeat (first | exact Below.refl _ _ | exact HB.out | refine Below.setCell ?_ (by simp <;> omega) _ | refine Below.alloc ?_ (by simp <;> omega) _ | refine below_drewN ?_ _))⟩

/-- the choices at a position -/
def chL (zs : List Int) (N S : Nat) : List Int := if homeQ zs N S = true then [] else indK S zs.length
theorem chL_len (zs : List Int) (N S : Nat) : (chL zs N S).length ≤ zs.length := by
  unfold chL
  split
  · simp
  · exact indK_le _ _
set_option maxRecDepth 100000 in
set_option maxHeartbeats 1000000 in
theorem choices_any (W : Int) (A : Option Addr) (n c : Nat) (zs : List Int) (S : Nat) (w : World) (h : RI w A n zs) (hn : n ≤ 12) (hS : S < 4096) (hl : lad W zs = true) :
    Calls Try.prog 39 #[.agg #[.int .i64 W, .slice A n c, .int .i64 (S : Int)]] w (FreshI w (chL zs W.toNat S).length (chL zs W.toNat S)) := by
  have hz := h.1
  have hLl := leftK_len zs S zs.length
  have HH := Lib.hid (fun w2 A2 c2 (r : RI w2 A2 (leftL zs S).length (leftL zs S)) => isHome_any W A2 _ c2 _ w2 r (by unfold leftL; omega) (leftL_lad hl S))
  have HLd := Lib.hid (fun w2 (r : RI w2 A n zs) => ladder_any W A n c zs S w2 r (by omega) hS)
  have HId := Lib.hid (fun w2 (r : RI w2 A n zs) => indices_any W A n c zs S w2 r (by omega) hS)
  have HA := btNew (W := W) (c := c) (S := S) 48 h
  have HB := belAlloc (belRefl (w := w)) (.cells #[.int .i64 W, .slice A n c, .int .i64 (S : Int)] 48)
  have hq : ∃ q, homeB (leftL zs S) W.toNat = q := ⟨_, rfl⟩
  obtain ⟨q, hq⟩ := hq
  have hch : chL zs W.toNat S = if q = true then [] else indK S n := by unfold chL homeQ; rw [hq, hz]
  obtain ⟨L, hL⟩ : ∃ L, L = chL zs W.toNat S := ⟨_, rfl⟩
  rw [← hL]
  rw [hch] at hL
  have HLq := Lib.hid hL
  rw [hq] at HH
  clear hz hLl h hq hch hl hL
  go_enter Try.func39, Try.ntmps39
  have a0 := HA.out.c0; have a1 := HA.out.c1; have a2 := HA.out.c2; have az := HA.out.lt
  go_wp2_with fail
  refine (HLd.out _ HA.out.ri).mono ?_
  rintro e w1 ⟨L1, d1, rfl, o1, hb⟩
  replace HA := btStep HA hb; replace HB := belStep HB hb
  replace a0 := HA.out.c0; replace a1 := HA.out.c1; replace a2 := HA.out.c2; replace az := HA.out.lt
  have HO1 := Lib.hid o1
  clear hb o1
  go_wp2_with fail
  refine (HH.out _ _ _ HO1.out.ri).mono ?_
  rintro e w2 ⟨rfl, hb⟩
  replace HA := btStep HA hb; replace HB := belStep HB hb
  replace a0 := HA.out.c0; replace a1 := HA.out.c1; replace a2 := HA.out.c2; replace az := HA.out.lt
  clear hb HO1 HH HLd
  cases q
  · obtain rfl : L = indK S n := by rw [HLq.out]; rfl
    clear HLq
    go_wp2_with fail
    refine (HId.out _ HA.out.ri).mono ?_
    rintro e w3 ⟨I1, d3, rfl, o3, hb⟩
    have HO3 := Lib.hid (o3.mono HB.out.size)
    replace HB := belStep HB hb
    clear hb o3
    go_wp2
    go_ret
    exact ⟨I1, d3, rfl, HO3.out, HB.out⟩
  · obtain rfl : L = [] := by rw [HLq.out]; rfl
    go_wp2
    go_ret
    exact ⟨none, 0, rfl, OI.none_ _ _, HB.out⟩

/-- the sizes of the sets below S that leave everybody at home -/
def hsK (zs : List Int) (N : Nat) : Nat → List Int
  | 0 => []
  | S + 1 => if homeQ zs N S = true then hsK zs N S ++ [((leftL zs S).length : Int)] else hsK zs N S
theorem hsK_yes {zs : List Int} {N S : Nat} (h : homeQ zs N S = true) : hsK zs N (S + 1) = hsK zs N S ++ [((leftL zs S).length : Int)] := by simp only [hsK]; rw [if_pos h]
theorem hsK_no {zs : List Int} {N S : Nat} (h : homeQ zs N S = false) : hsK zs N (S + 1) = hsK zs N S := by simp only [hsK]; rw [if_neg (by rw [h]; decide)]
theorem hsK_len (zs : List Int) (N : Nat) : ∀ S, (hsK zs N S).length ≤ S
  | 0 => Nat.le_refl _
  | S + 1 => by have := hsK_len zs N S; simp only [hsK]; split <;> simp <;> omega
theorem hsK_pos (zs : List Int) (N : Nat) : ∀ S, 0 < S → 0 < (hsK zs N S).length
  | 0, h => absurd h (by decide)
  | 1, _ => by rw [hsK_yes (homeQ_zero zs N)]; simp
  | S + 2, _ => by have := hsK_pos zs N (S + 1) (by omega); simp only [hsK] at this ⊢; split <;> simp <;> omega
theorem hsK_in (zs : List Int) (N : Nat) : ∀ S j, j < (hsK zs N S).length → 0 ≤ gi (hsK zs N S) j ∧ gi (hsK zs N S) j ≤ zs.length := by
  intro S j hj
  have hm : gi (hsK zs N S) j ∈ hsK zs N S := by rw [gi_lt hj]; exact List.getElem_mem hj
  have key : ∀ (S : Nat) (x : Int), x ∈ hsK zs N S → 0 ≤ x ∧ x ≤ zs.length := by
    intro S
    induction S with
    | zero => intro x hx; simp [hsK] at hx
    | succ S ih =>
      intro x hx
      simp only [hsK] at hx
      split at hx
      · rcases List.mem_append.1 hx with h | h
        · exact ih x h
        · have := leftK_len zs S zs.length
          simp only [List.mem_singleton] at h
          unfold leftL at h
          omega
      · exact ih x hx
  exact key S _ hm

theorem RI.nilG (w : World) : RI w none 0 [] := ⟨rfl, fun h => absurd h (by omega)⟩

set_option maxRecDepth 100000 in
set_option maxHeartbeats 1000000 in
theorem homeSizes_any (W : Int) (A : Option Addr) (n c : Nat) (zs : List Int) (w : World) (h : RI w A n zs) (hn : n ≤ 12) (hl : lad W zs = true) :
    Calls Try.prog 42 #[.agg #[.int .i64 W, .slice A n c]] w (FreshI w (hsK zs W.toNat (2 ^ n)).length (hsK zs W.toNat (2 ^ n))) := by
  have hz := h.1
  have hp1 : 1 ≤ 2 ^ n := Nat.one_le_two_pow
  have hp2 := pow12 hn
  obtain ⟨P, hP⟩ : ∃ P, P = 2 ^ n := ⟨_, rfl⟩
  have hpw := pow_wrap hn hP
  rw [← hP] at hp1 hp2 ⊢
  have HLL := Lib.hid (fun S => show (leftL zs S).length ≤ 12 from Nat.le_trans (leftK_len zs S zs.length) (by omega))
  have HHM := Lib.hid (fun S w2 A2 c2 (r : RI w2 A2 (leftL zs S).length (leftL zs S)) => isHome_any W A2 _ c2 _ w2 r (by have := HLL.out S; omega) (leftL_lad hl S))
  have HLd := Lib.hid (fun S (hS : S < 4096) w2 (r : RI w2 A n zs) => ladder_any W A n c zs S w2 r (by omega) hS)
  have HH := Lib.hid (fun w2 (r : Below w.heap.size w w2) => h.below r (Nat.le_refl _))
  have HA := boxNew (W := W) (c := c) 27 h
  have HB := belAlloc (belRefl (w := w)) (.cells #[.int .i64 W, .slice A n c] 27)
  have HHS := Lib.hid (fun S => show homeB (leftL zs S) W.toNat = homeQ zs W.toNat S from rfl)
  obtain ⟨N, hN⟩ : ∃ N, N = W.toNat := ⟨_, rfl⟩
  rw [← hN] at HHM HHS ⊢
  clear hz h hl hP hN
  go_enter Try.func42, Try.ntmps42
  have a0 := HA.out.c0; have a1 := HA.out.c1; have az := HA.out.lt
  go_wp2
  rw [hpw]
  clear hpw
  go_loopw [3, 10] (fun v i wr => ∃ (S : Nat) (E : Option Addr) (d : Nat), S ≤ P ∧ i = .int .i64 (S : Int) ∧ v = .slice E (hsK zs N S).length d ∧ OI wr (w.heap.size + 1) E (hsK zs N S).length d (hsK zs N S) ∧ Box wr w.heap.size W A n c zs ∧ Below w.heap.size w wr) (fun _ i _ => P - (intOf i).toNat)
  case atStart => exact ⟨0, none, 0, Nat.zero_le _, rfl, rfl, OI.none_ _ _, HA.out, HB.out⟩
  case round =>
    obtain ⟨S, E, d, hS, rfl, rfl, ho, hA, hb⟩ := hrel
    have HO := Lib.hid ho
    have HAr := Lib.hid hA
    have HBr := Lib.hid hb
    have zr := hA.lt
    have b0 := hA.c0; have b1 := hA.c1
    have hlk := hsK_len zs N S
    clear ho hA hb a0 a1
    by_cases hlt : S < P
    · obtain ⟨q, hq⟩ : ∃ q, q = homeQ zs N S := ⟨_, rfl⟩
      have HQ := Lib.hid hq
      have HLS := Lib.hid (HLL.out S)
      have HM2 := Lib.hid (fun w2 A2 c2 r => HHM.out S w2 A2 c2 r)
      rw [HHS.out S, ← hq] at HM2
      clear hq
      go_wp2_with fail
      refine (HLd.out S (by omega) _ HAr.out.ri).mono ?_
      rintro e w1 ⟨L1, d1, rfl, o1, hb⟩
      replace HAr := boxStep HAr hb; replace HBr := belStep HBr hb; replace HO := oiStep HO hb
      have HO1 := Lib.hid o1
      have hzz := hb.size
      have HX := boxNew (W := W) (c := d1) 27 o1.ri
      clear hb o1 b0 b1
      go_wp2_with fail
      replace HAr := boxAlloc HAr (.cells #[.int .i64 W, .slice L1 (leftL zs S).length d1] 27)
      replace HBr := belAlloc HBr (.cells #[.int .i64 W, .slice L1 (leftL zs S).length d1] 27)
      replace HO := oiAlloc HO (.cells #[.int .i64 W, .slice L1 (leftL zs S).length d1] 27)
      refine (HM2.out _ _ _ HX.out.ri).mono ?_
      rintro e w2 ⟨rfl, hb⟩
      replace HAr := boxStep HAr hb; replace HBr := belStep HBr hb; replace HO := oiStep HO hb; replace HX := boxStep HX hb
      have x0 := HX.out.c0; have x1 := HX.out.c1; have xz := HX.out.lt
      have hz2 := hb.size
      simp only [World.size_alloc] at hz2
      clear hb
      cases q
      · have HL := Lib.hid (hsK_no HQ.out.symm)
        go_wp2
        go_roundw
        case rel => exact ⟨S + 1, E, d, by omega, by go_num, by rw [HL.out], by rw [HL.out]; exact HO.out, HAr.out, HBr.out⟩
        case measure => simp [intOf]; omega
      · have HL := Lib.hid (hsK_yes HQ.out.symm)
        have HL2 := Lib.hid (show (hsK zs N (S + 1)).length = (hsK zs N S).length + 1 by rw [hsK_yes HQ.out.symm]; simp)
        go_wp2_with (at_builtin; refine wpList_append_int _ rfl _ _ rfl (w.heap.size + 1) E (hsK zs N S).length d _ ((leftL zs S).length : Int) w2.heap.size rfl rfl (HO.out.alloc _) (by simp) (by omega) (by simp; omega) ?_; intro A2 c2 w3 ho2 hg2; have HBK := Lib.hid (below_ap (K := w.heap.size + 1) HO.out hg2 (Nat.le_refl _) (by omega)); clear hg2)
        go_roundw
        case rel =>
          have hb2 : Below w.heap.size w w3 := HBr.out.trans (HBK.out.mono (by omega))
          exact ⟨S + 1, A2, c2, by omega, by go_num, by rw [HL2.out], by rw [HL2.out, HL.out]; exact ho2, box_ap HAr.out HBK.out (HH.out _ hb2), hb2⟩
        case measure => simp [intOf]; omega
    · obtain rfl : S = P := by omega
      go_wp2
      go_ret
      exact ⟨E, d, rfl, HO.out.mono (by omega), HBr.out⟩
end Go.Proofs.Ytjhjoimdidnkiaa

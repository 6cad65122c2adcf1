/- IsTaking, of the program and of the model; the taking game at first; the sizes of the sets that leave everybody at home. -/
import Derived.Test.YtiapbmgpjloafaaGm5
namespace Go.Proofs.Ytiapbmgpjloafaa
open Go Go.RowKit

set_option maxRecDepth 100000 in
set_option maxHeartbeats 1000000 in
theorem iIsTaking_any (W : Int) (A : Option Addr) (n c : Nat) (zs : List Int) (w : World) (h : RI w A n zs) (hn : n ≤ 1048576) :
    Calls Try.prog 55 #[.agg #[.int .i64 W, .slice A n c]] w (RetB (tkB W zs) w) := by
  have hlz := h.1
  have HA := boxNew (W := W) (c := c) 28 h
  have HB := belAlloc (belRefl (w := w)) (.cells #[.int .i64 W, .slice A n c] 28)
  have HG : Hid (∀ w, RI w A n zs → Calls Try.prog 63 #[.agg #[.int .i64 W, .slice A n c]] w (RetB (lad W zs) w)) := fun w h => iIsLadder_any W A n c zs w h hn
  rcases hq : lad W zs with _ | _
  · rw [tkB_no1 hq]
    rw [hq] at HG
    clear hq h
    go_enter Try.func55, Try.ntmps55
    go_wp2_with fail
    have a0 := HA.out.c0; have a1 := HA.out.c1; have az := HA.out.lt
    refine (HG.out _ HA.out.ri).mono ?_
    rintro e w1 ⟨rfl, hb⟩
    replace HB := belStep HB hb
    clear hb
    go_wp2
    go_ret
    exact ⟨rfl, HB.out⟩
  · rw [hq] at HG
    by_cases h12 : zs.length ≤ 12
    · rw [tkB_yes hq h12]
      have hn12 : (n : Int) ≤ 12 := by omega
      have HH := Lib.hid (fun w2 (r : RI w2 A n zs) => isHome_any W A n c zs w2 r (by omega) hq)
      obtain ⟨q, hqq⟩ : ∃ q, q = homeB zs W.toNat := ⟨_, rfl⟩
      rw [← hqq] at HH ⊢
      clear hq h hqq hlz h12
      go_enter Try.func55, Try.ntmps55
      go_wp2_with fail
      have a0 := HA.out.c0; have a1 := HA.out.c1; have az := HA.out.lt
      refine (HG.out _ HA.out.ri).mono ?_
      rintro e w1 ⟨rfl, hb⟩
      replace HA := boxStep HA hb; replace HB := belStep HB hb; replace a0 := HA.out.c0; replace a1 := HA.out.c1; replace az := HA.out.lt; clear hb
      go_wp2_with fail
      refine (HH.out _ HA.out.ri).mono ?_
      rintro e w2 ⟨rfl, hb⟩
      replace HB := belStep HB hb
      clear hb HA a0 a1
      cases q
      all_goals
        go_wp2
        go_ret
        exact ⟨rfl, HB.out⟩
    · rw [tkB_no2 h12]
      have hn12 : ¬ (n : Int) ≤ 12 := by omega
      clear hq h hlz h12
      go_enter Try.func55, Try.ntmps55
      go_wp2_with fail
      have a0 := HA.out.c0; have a1 := HA.out.c1; have az := HA.out.lt
      refine (HG.out _ HA.out.ri).mono ?_
      rintro e w1 ⟨rfl, hb⟩
      replace HA := boxStep HA hb; replace HB := belStep HB hb; replace a0 := HA.out.c0; replace a1 := HA.out.c1; replace az := HA.out.lt; clear hb
      go_wp2
      go_ret
      exact ⟨rfl, HB.out⟩

theorem pow12 {n : Nat} (h : n ≤ 12) : 2 ^ n ≤ 4096 := by
  have := Nat.pow_le_pow_right (show 0 < 2 by decide) h
  simpa using this
theorem pow_wrap {n P : Nat} (h : n ≤ 12) (hP : P = 2 ^ n) : wrap64 ((2 : Int) ^ n) = (P : Int) := by
  have h1 := pow12 h
  have e : ((2 : Int) ^ n) = (P : Int) := by rw [hP]; simp
  rw [e]; exact IntWalk.wrap64_in _ (by omega)

/-- the taking game at first -/
def RetT (W : Int) (A : Option Addr) (n c S : Nat) (w : World) (e : Ending) (w' : World) : Prop := e = .returned (.agg #[.int .i64 W, .slice A n c, .int .i64 (S : Int)]) ∧ Below w.heap.size w w'
set_option maxRecDepth 100000 in
set_option maxHeartbeats 1000000 in
theorem takingOf_any (W : Int) (A : Option Addr) (n c : Nat) (zs : List Int) (w : World) (h : RI w A n zs) (hn : n ≤ 12) :
    Calls Try.prog 56 #[.agg #[.int .i64 W, .slice A n c]] w (RetT W A n c (2 ^ n - 1) w) := by
  have hp1 : 1 ≤ 2 ^ n := Nat.one_le_two_pow
  have hp2 := pow12 hn
  obtain ⟨P, hP⟩ : ∃ P, P = 2 ^ n := ⟨_, rfl⟩
  have hpw := pow_wrap hn hP
  rw [← hP] at hp1 hp2 ⊢
  have hps : IntKind.i64.wrap ((P : Int) - 1) = ((P - 1 : Nat) : Int) := by rw [IntWalk.i64_in _ (by omega)]; omega
  have HA := boxAlloc (boxNew (W := W) (c := c) 28 h) (.cells #[.int .i64 0, .slice none 0 0, .int .i64 0] 70)
  have HB := belAlloc (belAlloc (belRefl (w := w)) (.cells #[.int .i64 W, .slice A n c] 28)) (.cells #[.int .i64 0, .slice none 0 0, .int .i64 0] 70)
  clear h hP
  go_enter Try.func56, Try.ntmps56
  have a0 := HA.out.c0; have a1 := HA.out.c1; have az := HA.out.lt
  go_wp2
  go_region
  go_wp2
  exact bodyPost_ret (v := .agg #[.int .i64 W, .slice A n c, .int .i64 ((P - 1 : Nat) : Int)]) (by simp [results, Try.results56, go_sem]) rfl ⟨rfl, (by repeat (first | exact Below.refl _ _ | exact HB.out | refine Below.setCell ?_ (by simp <;> omega) _ | refine Below.alloc ?_ (by simp <;> omega) _ | refine below_drewN ?_ _))⟩

set_option maxRecDepth 100000 in
set_option maxHeartbeats 1000000 in
theorem without_any (W : Int) (A : Option Addr) (n c : Nat) (S i : Nat) (w : World) (hS : S < 4096) (hi : i < 12) (hb : S.testBit i = true) :
    Calls Try.prog 86 #[.agg #[.int .i64 W, .slice A n c, .int .i64 (S : Int)], .int .i64 (i : Int)] w (RetT W A n c (S - 2 ^ i) w) := by
  obtain ⟨P, hP⟩ : ∃ P, P = 2 ^ i := ⟨_, rfl⟩
  have hpw := pow_wrap (by omega) hP
  have hab := andNot_bit hS hi hb
  rw [← hP] at hab ⊢
  clear hP hb
  go_enter Try.func86, Try.ntmps86
  go_wp2
  go_region
  go_wp2
  exact bodyPost_ret (v := .agg #[.int .i64 W, .slice A n c, .int .i64 ((S - P : Nat) : Int)]) (by simp [results, Try.results86, go_sem]) rfl ⟨rfl, (by repeat (first | exact Below.refl _ _ | exact HB.out | refine Below.setCell ?_ (by simp <;> omega) _ | refine Below.alloc ?_ (by simp <;> omega) _ | refine below_drewN ?_ _))⟩

/-- the choices at a position -/
def chL (zs : List Int) (N S : Nat) : List Int := if homeQ zs N S = true then [] else indK S zs.length
theorem chL_len (zs : List Int) (N S : Nat) : (chL zs N S).length ≤ zs.length := by
  unfold chL
  split
  · simp
  · exact indK_le _ _
set_option maxRecDepth 100000 in
set_option maxHeartbeats 1000000 in
theorem choices_any (W : Int) (A : Option Addr) (n c : Nat) (zs : List Int) (S : Nat) (w : World) (h : RI w A n zs) (hn : n ≤ 12) (hS : S < 4096) (hl : lad W zs = true) :
    Calls Try.prog 83 #[.agg #[.int .i64 W, .slice A n c, .int .i64 (S : Int)]] w (FreshI w (chL zs W.toNat S).length (chL zs W.toNat S)) := by
  have hz := h.1
  have hLl := leftK_len zs S zs.length
  have HH := Lib.hid (fun w2 A2 c2 (r : RI w2 A2 (leftL zs S).length (leftL zs S)) => isHome_any W A2 _ c2 _ w2 r (by unfold leftL; omega) (leftL_lad hl S))
  have HLd := Lib.hid (fun w2 (r : RI w2 A n zs) => ladder_any W A n c zs S w2 r (by omega) hS)
  have HId := Lib.hid (fun w2 (r : RI w2 A n zs) => indices_any W A n c zs S w2 r (by omega) hS)
  have HA := btNew (W := W) (c := c) (S := S) 70 h
  have HB := belAlloc (belRefl (w := w)) (.cells #[.int .i64 W, .slice A n c, .int .i64 (S : Int)] 70)
  have hq : ∃ q, homeB (leftL zs S) W.toNat = q := ⟨_, rfl⟩
  obtain ⟨q, hq⟩ := hq
  have hch : chL zs W.toNat S = if q = true then [] else indK S n := by unfold chL homeQ; rw [hq, hz]
  obtain ⟨L, hL⟩ : ∃ L, L = chL zs W.toNat S := ⟨_, rfl⟩
  rw [← hL]
  rw [hch] at hL
  have HLq := Lib.hid hL
  rw [hq] at HH
  clear hz hLl h hq hch hl hL
  go_enter Try.func83, Try.ntmps83
  have a0 := HA.out.c0; have a1 := HA.out.c1; have a2 := HA.out.c2; have az := HA.out.lt
  go_wp2_with fail
  refine (HLd.out _ HA.out.ri).mono ?_
  rintro e w1 ⟨L1, d1, rfl, o1, hb⟩
  replace HA := btStep HA hb; replace HB := belStep HB hb
  replace a0 := HA.out.c0; replace a1 := HA.out.c1; replace a2 := HA.out.c2; replace az := HA.out.lt
  have HO1 := Lib.hid o1
  clear hb o1
  go_wp2_with fail
  refine (HH.out _ _ _ HO1.out.ri).mono ?_
  rintro e w2 ⟨rfl, hb⟩
  replace HA := btStep HA hb; replace HB := belStep HB hb
  replace a0 := HA.out.c0; replace a1 := HA.out.c1; replace a2 := HA.out.c2; replace az := HA.out.lt
  clear hb HO1 HH HLd
  cases q
  · obtain rfl : L = indK S n := by rw [HLq.out]; rfl
    clear HLq
    go_wp2_with fail
    refine (HId.out _ HA.out.ri).mono ?_
    rintro e w3 ⟨I1, d3, rfl, o3, hb⟩
    have HO3 := Lib.hid (o3.mono HB.out.size)
    replace HB := belStep HB hb
    clear hb o3
    go_wp2
    go_ret
    exact ⟨I1, d3, rfl, HO3.out, HB.out⟩
  · obtain rfl : L = [] := by rw [HLq.out]; rfl
    go_wp2
    go_ret
    exact ⟨none, 0, rfl, OI.none_ _ _, HB.out⟩

/-- the sizes of the sets below S that leave everybody at home -/
def hsK (zs : List Int) (N : Nat) : Nat → List Int
  | 0 => []
  | S + 1 => if homeQ zs N S = true then hsK zs N S ++ [((leftL zs S).length : Int)] else hsK zs N S
theorem hsK_yes {zs : List Int} {N S : Nat} (h : homeQ zs N S = true) : hsK zs N (S + 1) = hsK zs N S ++ [((leftL zs S).length : Int)] := by simp only [hsK]; rw [if_pos h]
theorem hsK_no {zs : List Int} {N S : Nat} (h : homeQ zs N S = false) : hsK zs N (S + 1) = hsK zs N S := by simp only [hsK]; rw [if_neg (by rw [h]; decide)]
theorem hsK_len (zs : List Int) (N : Nat) : ∀ S, (hsK zs N S).length ≤ S
  | 0 => Nat.le_refl _
  | S + 1 => by have := hsK_len zs N S; simp only [hsK]; split <;> simp <;> omega
theorem hsK_pos (zs : List Int) (N : Nat) : ∀ S, 0 < S → 0 < (hsK zs N S).length
  | 0, h => absurd h (by decide)
  | 1, _ => by rw [hsK_yes (homeQ_zero zs N)]; simp
  | S + 2, _ => by have := hsK_pos zs N (S + 1) (by omega); simp only [hsK] at this ⊢; split <;> simp <;> omega
theorem hsK_in (zs : List Int) (N : Nat) : ∀ S j, j < (hsK zs N S).length → 0 ≤ gi (hsK zs N S) j ∧ gi (hsK zs N S) j ≤ zs.length := by
  intro S j hj
  have hm : gi (hsK zs N S) j ∈ hsK zs N S := by rw [gi_lt hj]; exact List.getElem_mem hj
  have key : ∀ (S : Nat) (x : Int), x ∈ hsK zs N S → 0 ≤ x ∧ x ≤ zs.length := by
    intro S
    induction S with
    | zero => intro x hx; simp [hsK] at hx
    | succ S ih =>
      intro x hx
      simp only [hsK] at hx
      split at hx
      · rcases List.mem_append.1 hx with h | h
        · exact ih x h
        · have := leftK_len zs S zs.length
          simp only [List.mem_singleton] at h
          unfold leftL at h
          omega
      · exact ih x hx
  exact key S _ hm

theorem RI.nilG (w : World) : RI w none 0 [] := ⟨rfl, fun h => absurd h (by omega)⟩

end Go.Proofs.Ytiapbmgpjloafaa

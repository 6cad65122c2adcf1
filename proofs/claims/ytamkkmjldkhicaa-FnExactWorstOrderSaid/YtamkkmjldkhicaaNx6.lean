/- WorstOrder, of the program and of the model. -/
import Derived.Test.YtamkkmjldkhicaaNx5
namespace Go.Proofs.Ytamkkmjldkhicaa
open Go Go.RowKit

def FreshINB (w : World) (n : Nat) (zs : List Int) (r : Int) (b : Bool) (e : Ending) (w' : World) : Prop :=
  ∃ A c, e = .returned (.tuple #[.slice A n c, .int .i64 r, .bool b]) ∧ OI w' w.heap.size A n c zs ∧ Below w.heap.size w w'
/-- the first of the first k lists with the most exchanges, and their number -/
def wsK (zs : List Int) (L : List (List Int)) : Nat → List Int × Int
  | 0 => ([], -1)
  | k + 1 => if (wsK zs L k).2 < ((exL zs (gz L k)).length : Int) then (gz L k, ((exL zs (gz L k)).length : Int)) else wsK zs L k
theorem wsK_yes {zs : List Int} {L : List (List Int)} {k : Nat} (h : (wsK zs L k).2 < ((exL zs (gz L k)).length : Int)) : wsK zs L (k + 1) = (gz L k, ((exL zs (gz L k)).length : Int)) := by simp only [wsK]; rw [if_pos h]
theorem wsK_no {zs : List Int} {L : List (List Int)} {k : Nat} (h : ¬ (wsK zs L k).2 < ((exL zs (gz L k)).length : Int)) : wsK zs L (k + 1) = wsK zs L k := by simp only [wsK]; rw [if_neg h]
theorem exL_lenW (zs vs : List Int) : (exL zs vs).length ≤ zs.length := exK_le zs vs zs.length
theorem wsK_le (zs : List Int) (L : List (List Int)) : ∀ k, -1 ≤ (wsK zs L k).2 ∧ (wsK zs L k).2 ≤ zs.length
  | 0 => by simp [wsK]
  | k + 1 => by
    have h := wsK_le zs L k
    have h2 := exL_lenW zs (gz L k)
    simp only [wsK]
    split
    · exact ⟨by show (-1 : Int) ≤ ((exL zs (gz L k)).length : Int); omega, by show ((exL zs (gz L k)).length : Int) ≤ _; omega⟩
    · exact h
theorem wsK_len {zs : List Int} {L : List (List Int)} {n : Nat} : ∀ k, (∀ j, j < k → (gz L j).length = n) → (wsK zs L k).1.length ≤ n
  | 0, _ => by simp [wsK]
  | k + 1, h => by
    have h1 := wsK_len (zs := zs) k (fun j hj => h j (by omega))
    simp only [wsK]
    split
    · exact Nat.le_of_eq (h k (by omega))
    · exact h1
def woL (W : Int) (zs : List Int) : List Int := if sixB W zs = true then (wsK zs (ordAll W.toNat) (ordAll W.toNat).length).1 else []
def woN (W : Int) (zs : List Int) : Int := if sixB W zs = true then (wsK zs (ordAll W.toNat) (ordAll W.toNat).length).2 else 0
theorem woL_no {W : Int} {zs : List Int} (h : sixB W zs = false) : woL W zs = [] := by unfold woL; rw [if_neg (by rw [h]; decide)]
theorem woN_no {W : Int} {zs : List Int} (h : sixB W zs = false) : woN W zs = 0 := by unfold woN; rw [if_neg (by rw [h]; decide)]
theorem woL_yes {W : Int} {zs : List Int} (h : sixB W zs = true) : woL W zs = (wsK zs (ordAll W.toNat) (ordAll W.toNat).length).1 := by unfold woL; rw [if_pos h]
theorem woN_yes {W : Int} {zs : List Int} (h : sixB W zs = true) : woN W zs = (wsK zs (ordAll W.toNat) (ordAll W.toNat).length).2 := by unfold woN; rw [if_pos h]
theorem woL_le (W : Int) (zs : List Int) : (woL W zs).length ≤ 1000 := by
  rcases h : sixB W zs with _ | _
  · rw [woL_no h]; simp
  · rw [woL_yes h]
    have h2 := (lad_iff.1 (six_iff.1 h).1).1
    exact Nat.le_trans (wsK_len (n := W.toNat) _ (fun j hj => ord_row hj)) (by omega)
set_option maxRecDepth 100000 in
set_option maxHeartbeats 1000000 in
theorem iWorstOrder_any (W : Int) (A : Option Addr) (m c : Nat) (zs : List Int) (w : World) (h : RI w A m zs) (hm : m ≤ 1048576) :
    Calls Try.prog 24 #[.agg #[.int .i64 W, .slice A m c]] w (FreshINB w (woL W zs).length (woL W zs) (woN W zs) (sixB W zs)) := by
  rcases hq : sixB W zs with _ | _
  · rw [woL_no hq, woN_no hq]
    have HW := Lib.hid hq
    clear hq
    go_enter Try.func24, Try.ntmps24
    go_wp2_with fail
    have HB := belAlloc (belRefl (w := w)) (.cells #[.int .i64 W, .slice A m c] 28)
    refine (isTried_any W A m c zs _ (h.alloc _) hm).mono ?_
    rw [HW.out]
    rintro e w1 ⟨rfl, hb⟩
    replace HB := belStep HB hb
    clear hb h
    go_wp2
    exact bodyPost_ret (v := .tuple #[.slice none 0 0, .int .i64 0, .bool false]) (by simp [results, Try.results24]) rfl ⟨none, 0, rfl, OI.none_ _ _, HB.out⟩
  · rw [woL_yes hq, woN_yes hq]
    have hq6 := six_iff.1 hq
    have h4 := (lad_iff.1 hq6.1).1
    have h5 := (lad_iff.1 hq6.1).2.1
    have hml := h.1
    obtain ⟨N, rfl⟩ : ∃ N : Nat, W = (N : Int) := ⟨W.toNat, by omega⟩
    rw [Int.toNat_natCast]
    have hz : rungsIn zs N := by have := rungsIn_of_lad hq6.1; rwa [Int.toNat_natCast] at this
    have HW := Lib.hid hq
    have hn6 : N ≤ 6 := by have := hq6.2; omega
    have hn8 : N ≤ 8 := by omega
    have hn2 : 2 ≤ N := by omega
    have hn0 : 0 < N := by omega
    have hm6 : m ≤ 60 := by omega
    have hP2 := ord_len hn6
    have HROW : Hid (∀ j, j < (ordAll N).length → (gz (ordAll N) j).length = N) := Lib.hid (fun j hj => ord_row hj)
    have HFST := Lib.hid (ord_first hn2 hn6)
    have HSTP : Hid (∀ j, j + 1 < (ordAll N).length → ∃ i, nxI (gz (ordAll N) j) (N - 1) = some i ∧ nxL (gz (ordAll N) j) i = gz (ordAll N) (j + 1)) := Lib.hid (fun j hj => ord_step hn2 hn6 hj)
    have HLST : Hid (∀ j, j + 1 = (ordAll N).length → nxI (gz (ordAll N) j) (N - 1) = none) := Lib.hid (fun j hj => ord_last hn2 hn6 hj)
    have hfd := fieldExchanges
    have hzl60 : zs.length ≤ 60 := by omega
    have HAO := Lib.hid (fun w2 => allOrders_any N w2 hn6)
    have HS := Lib.hid (fun w2 A2 c2 v (e : v.length = N) (r : RI w2 A m zs) (r2 : RI w2 A2 N v) => compareDown_any A m c zs A2 N c2 v w2 r r2 hn8 hn0 hm6 hz)
    obtain ⟨L, hL⟩ : ∃ L, L = ordAll N := ⟨_, rfl⟩
    rw [← hL] at HROW HFST HSTP HLST HAO hP2 ⊢
    clear hq hq6 h4 h5 hz hml hL
    go_enter Try.func24, Try.ntmps24
    go_wp2_with fail
    have HA := boxNew (W := (N : Int)) (c := c) 28 h
    have HB := belAlloc (belRefl (w := w)) (.cells #[.int .i64 (N : Int), .slice A m c] 28)
    refine (isTried_any (N : Int) A m c zs _ (h.alloc _) hm).mono ?_
    rw [HW.out]
    rintro e w1 ⟨rfl, hb⟩
    replace HA := boxStep HA hb
    replace HB := belStep HB hb
    have a0 := HA.out.c0; have a1 := HA.out.c1; have az := HA.out.lt
    have z1 := HB.out.size
    clear hb h
    go_wp2_with fail
    refine (HAO.out _).mono ?_
    rintro e w2 ⟨F2, d2, M2, S2, rfl, o2, hb⟩
    have O2 := Lib.hid o2
    replace HA := boxStep HA hb
    replace HB := belStep HB hb
    have hLz := o2.lz
    clear hb o2 a0 a1 az
    go_wp2
    go_loopw [5, 6, 8, 17] (fun s4 s9 _ i wr => ∃ k : Nat, k ≤ L.length ∧ i = .int .i64 (k : Int) ∧ (wsK zs L k).1.length ≤ 8 ∧ (∃ (E : Option Addr) (d : Nat), s4 = .slice E (wsK zs L k).1.length d ∧ OI wr w.heap.size E (wsK zs L k).1.length d (wsK zs L k).1) ∧ s9 = .int .i64 (wsK zs L k).2 ∧ Below w2.heap.size w2 wr) (fun _ _ _ i _ => L.length - (intOf i).toNat)
    case atStart => exact ⟨0, Nat.zero_le _, rfl, by simp [wsK], ⟨none, 0, rfl, OI.none_ _ _⟩, rfl, Below.refl _ _⟩
    case round =>
      obtain ⟨k, hk, rfl, hw8, ⟨E, d, rfl, hE⟩, rfl, hb⟩ := hrel
      replace HA := boxStep HA hb
      replace HB := belStep HB hb
      have HB2 := Lib.hid hb
      have HLr := Lib.hid (O2.out.below hb)
      have HE := Lib.hid hE
      have a0 := HA.out.c0; have a1 := HA.out.c1; have az := HA.out.lt
      have zr := HB.out.size
      have hwl := wsK_le zs L k
      obtain ⟨bl, hbl⟩ : ∃ bl, bl = (wsK zs L k).1 := ⟨_, rfl⟩
      obtain ⟨mo, hmo⟩ : ∃ mo, mo = (wsK zs L k).2 := ⟨_, rfl⟩
      rw [← hbl] at HE hw8
      rw [← hmo] at hwl
      rw [← hbl, ← hmo]
      have HBL := Lib.hid hbl
      have HMO := Lib.hid hmo
      have hm1 : -1 ≤ mo := hwl.1
      have hm2 : mo ≤ 60 := by omega
      clear hb hE hbl hmo hwl
      by_cases hlt : k < L.length
      · obtain ⟨b, a, n', d', hF2, hbk, _, hSk, hck2, hra⟩ := HLr.out.row hlt
        subst hF2
        obtain rfl : n' = N := by rw [← hra.1]; exact HROW.out k hlt
        have HO := Lib.hid (hra.mono z1)
        have HR := Lib.hid (HROW.out k hlt)
        obtain ⟨p, hp⟩ : ∃ p, p = gz L k := ⟨_, rfl⟩
        rw [← hp] at HO HR
        have HP := Lib.hid hp
        obtain ⟨x, hx⟩ : ∃ x, x = (exL zs p).length := ⟨_, rfl⟩
        have hxl : x ≤ 60 := by have := exL_lenW zs p; omega
        have HS2 := Lib.hid (fun w2 A2 c2 (r : RI w2 A m zs) (r2 : RI w2 A2 n' p) => HS.out w2 A2 c2 p HR.out r r2)
        rw [← hx] at HS2
        have HX := Lib.hid hx
        have HSK : Hid ((mo < (x : Int) → wsK zs L (k + 1) = (p, (x : Int))) ∧ (¬ mo < (x : Int) → wsK zs L (k + 1) = (bl, mo))) := Lib.hid ⟨fun hlt => by rw [HX.out, HP.out]; exact wsK_yes (by rw [← HMO.out, ← HP.out, ← HX.out]; exact hlt), fun hlt => by rw [HBL.out, HMO.out]; exact wsK_no (by rw [← HMO.out, ← HP.out, ← HX.out]; exact hlt)⟩
        clear hp hx hra hSk hbk
        go_wp2_with fail
        refine (HS2.out _ a d' HA.out.ri HO.out.ri).mono ?_
        rintro e w3 ⟨A9, c9, E9, d9, rfl, -, -, hb⟩
        replace HO := oiStep HO hb
        replace HE := oiStep HE hb
        replace HB2 := belStep HB2 hb
        clear hb a0 a1 az hck2
        have hlx : mo < (x : Int) ∨ ¬ mo < (x : Int) := by omega
        rcases hlx with hlx | hlx
        · have HWS := Lib.hid (HSK.out.1 (by omega))
          go_wp2
          go_roundw
          case rel => exact ⟨k + 1, hlt, by go_num, by rw [HWS.out]; show p.length ≤ 8; rw [HR.out]; exact hn8, ⟨a, d', by rw [HWS.out]; show _ = Value.slice a p.length d'; rw [HR.out], by rw [HWS.out]; show OI _ _ a p.length d' p; rw [HR.out]; exact HO.out⟩, by rw [HWS.out], HB2.out⟩
          case measure => simp [intOf]; omega
        · have HWS := Lib.hid (HSK.out.2 (by omega))
          go_wp2
          go_roundw
          case rel => exact ⟨k + 1, hlt, by go_num, by rw [HWS.out]; exact hw8, ⟨E, d, by rw [HWS.out], by rw [HWS.out]; exact HE.out⟩, by rw [HWS.out], HB2.out⟩
          case measure => simp [intOf]; omega
      · obtain rfl : k = L.length := by omega
        go_wp2
        refine bodyPost_ret (v := .tuple #[.slice E bl.length d, .int .i64 mo, .bool true]) (by simp [results, Try.results24]) rfl ?_
        rw [← HBL.out, ← HMO.out]
        exact ⟨E, d, rfl, HE.out, HB.out⟩

set_option maxRecDepth 100000 in
set_option maxHeartbeats 1000000 in
theorem sWorstOrder_any (W : Int) (A : Option Addr) (m c : Nat) (zs : List Int) (w : World) (h : RI w A m zs) (hm : m ≤ 1048576) :
    Calls Try.prog 23 #[.agg #[.int .i64 W, .slice A m c]] w (FreshINB w (woL W zs).length (woL W zs) (woN W zs) (sixB W zs)) := by
  rcases hq : sixB W zs with _ | _
  · rw [woL_no hq, woN_no hq]
    have HW := Lib.hid hq
    clear hq
    go_enter Try.func23, Try.ntmps23
    go_wp2_with fail
    have HB := belAlloc (belRefl (w := w)) (.cells #[.int .i64 W, .slice A m c] 28)
    refine (soSix_any W A m c zs _ (h.alloc _) hm).mono ?_
    rw [HW.out]
    rintro e w1 ⟨rfl, hb⟩
    replace HB := belStep HB hb
    clear hb h
    go_wp2
    exact bodyPost_ret (v := .tuple #[.slice none 0 0, .int .i64 0, .bool false]) (by simp [results, Try.results23]) rfl ⟨none, 0, rfl, OI.none_ _ _, HB.out⟩
  · rw [woL_yes hq, woN_yes hq]
    have hq6 := six_iff.1 hq
    have h4 := (lad_iff.1 hq6.1).1
    have h5 := (lad_iff.1 hq6.1).2.1
    have hml := h.1
    obtain ⟨N, rfl⟩ : ∃ N : Nat, W = (N : Int) := ⟨W.toNat, by omega⟩
    rw [Int.toNat_natCast]
    have hz : rungsIn zs N := by have := rungsIn_of_lad hq6.1; rwa [Int.toNat_natCast] at this
    have HW := Lib.hid hq
    have hn6 : N ≤ 6 := by have := hq6.2; omega
    have hn8 : N ≤ 8 := by omega
    have hn2 : 2 ≤ N := by omega
    have hn0 : 0 < N := by omega
    have hm6 : m ≤ 60 := by omega
    have hP2 := ord_len hn6
    have HROW : Hid (∀ j, j < (ordAll N).length → (gz (ordAll N) j).length = N) := Lib.hid (fun j hj => ord_row hj)
    have HFST := Lib.hid (ord_first hn2 hn6)
    have HSTP : Hid (∀ j, j + 1 < (ordAll N).length → ∃ i, nxI (gz (ordAll N) j) (N - 1) = some i ∧ nxL (gz (ordAll N) j) i = gz (ordAll N) (j + 1)) := Lib.hid (fun j hj => ord_step hn2 hn6 hj)
    have HLST : Hid (∀ j, j + 1 = (ordAll N).length → nxI (gz (ordAll N) j) (N - 1) = none) := Lib.hid (fun j hj => ord_last hn2 hn6 hj)
    have hzl60 : zs.length ≤ 60 := by omega
    have HS := Lib.hid (fun w2 A2 c2 v (e : v.length = N) (r : RI w2 A m zs) (r2 : RI w2 A2 N v) => soRun_any A m c zs A2 N c2 v w2 r r2 hn8 hn0 hm6 hz)
    obtain ⟨L, hL⟩ : ∃ L, L = ordAll N := ⟨_, rfl⟩
    rw [← hL] at HROW HFST HSTP HLST hP2 ⊢
    clear hq hq6 h4 h5 hz hml hL
    go_enter Try.func23, Try.ntmps23
    go_wp2_with fail
    have HA := boxNew (W := (N : Int)) (c := c) 28 h
    have HB := belAlloc (belRefl (w := w)) (.cells #[.int .i64 (N : Int), .slice A m c] 28)
    refine (soSix_any (N : Int) A m c zs _ (h.alloc _) hm).mono ?_
    rw [HW.out]
    rintro e w1 ⟨rfl, hb⟩
    replace HA := boxStep HA hb
    replace HB := belStep HB hb
    have a0 := HA.out.c0; have a1 := HA.out.c1; have az := HA.out.lt
    have z1 := HB.out.size
    clear hb h
    go_wp2_with fail
    refine (soFirst_any N _ hn8).mono ?_
    rintro e w2 ⟨F2, d2, rfl, o2, hb⟩
    have O2 := Lib.hid (o2.mono z1)
    replace HA := boxStep HA hb
    replace HB := belStep HB hb
    clear hb o2 a0 a1 az
    go_wp2
    go_loopg [5, 6, 7, 8] L.length (fun gk s4 s9 s5 s6 wr => (∃ k, (wsK zs L k).1.length ≤ 8 ∧ (∃ (E : Option Addr) (d : Nat), s4 = .slice E (wsK zs L k).1.length d ∧ OI wr w.heap.size E (wsK zs L k).1.length d (wsK zs L k).1) ∧ s9 = .int .i64 (wsK zs L k).2 ∧ ((∃ (A2 : Option Addr) (c2 : Nat), k < L.length ∧ gk = L.length - k ∧ s6 = .bool true ∧ s5 = .slice A2 N c2 ∧ OI wr w.heap.size A2 N c2 (gz L k)) ∨ (gk = 0 ∧ s6 = .bool false ∧ k = L.length))) ∧ Box wr w.heap.size (N : Int) A m c zs ∧ Below w.heap.size w wr)
    case atStart => exact ⟨⟨0, by simp [wsK], ⟨none, 0, rfl, OI.none_ _ _⟩, rfl, .inl ⟨F2, d2, HFST.out.2, rfl, rfl, rfl, by rw [HFST.out.1]; exact O2.out⟩⟩, HA.out, HB.out⟩
    case round =>
      obtain ⟨⟨k, hw8, ⟨E, d, rfl, hE⟩, rfl, hcase⟩, hA, hb⟩ := hrel
      have HA := Lib.hid hA
      have HB := Lib.hid hb
      have HE := Lib.hid hE
      have a0 := hA.c0; have a1 := hA.c1; have az := hA.lt
      have zr := hb.size
      have hwl := wsK_le zs L k
      obtain ⟨bl, hbl⟩ : ∃ bl, bl = (wsK zs L k).1 := ⟨_, rfl⟩
      obtain ⟨mo, hmo⟩ : ∃ mo, mo = (wsK zs L k).2 := ⟨_, rfl⟩
      rw [← hbl] at HE hw8
      rw [← hmo] at hwl
      rw [← hbl, ← hmo]
      have HBL := Lib.hid hbl
      have HMO := Lib.hid hmo
      have hm1 : -1 ≤ mo := hwl.1
      have hm2 : mo ≤ 60 := by omega
      clear hA hb hE hbl hmo hwl
      rcases hcase with ⟨A2, c2, hk, hgk, rfl, rfl, ho⟩ | ⟨hgk, rfl, rfl⟩
      · have HO := Lib.hid ho
        have HGK := Lib.hid hgk
        have HK := Lib.hid hk
        have HR := Lib.hid (HROW.out k hk)
        obtain ⟨p, hp⟩ : ∃ p, p = gz L k := ⟨_, rfl⟩
        rw [← hp] at HO HR
        have HP := Lib.hid hp
        obtain ⟨x, hx⟩ : ∃ x, x = (exL zs p).length := ⟨_, rfl⟩
        have hxl : x ≤ 60 := by have := exL_lenW zs p; omega
        have HS2 := Lib.hid (fun w2 A2 c2 (r : RI w2 A m zs) (r2 : RI w2 A2 N p) => HS.out w2 A2 c2 p HR.out r r2)
        rw [← hx] at HS2
        have HX := Lib.hid hx
        have HSK : Hid ((mo < (x : Int) → wsK zs L (k + 1) = (p, (x : Int))) ∧ (¬ mo < (x : Int) → wsK zs L (k + 1) = (bl, mo))) := Lib.hid ⟨fun hlt => by rw [HX.out, HP.out]; exact wsK_yes (by rw [← HMO.out, ← HP.out, ← HX.out]; exact hlt), fun hlt => by rw [HBL.out, HMO.out]; exact wsK_no (by rw [← HMO.out, ← HP.out, ← HX.out]; exact hlt)⟩
        clear hp ho hgk hk hx
        go_wp2_with fail
        refine (HS2.out _ A2 c2 HA.out.ri HO.out.ri).mono ?_
        rintro e w3 ⟨A9, c9, E9, d9, rfl, -, -, hb⟩
        replace HO := oiStep HO hb
        replace HE := oiStep HE hb
        replace HA := boxStep HA hb
        replace HB := belStep HB hb
        have zr3 := HB.out.size
        clear hb a0 a1 az
        have hlx : mo < (x : Int) ∨ ¬ mo < (x : Int) := by omega
        by_cases hlast : k + 1 < L.length
        · obtain ⟨i, hi, hnx⟩ := HSTP.out k hlast
          rw [← HP.out] at hi hnx
          have HI := Lib.hid hi
          have HNX := Lib.hid hnx
          have HKL := Lib.hid hlast
          clear hi hnx hlast
          rcases hlx with hlx | hlx
          · have HWS := Lib.hid (HSK.out.1 (by omega))
            go_wp2_with fail
            refine (soNext_any A2 N c2 p _ HO.out.ri hn8 (by omega)).mono ?_
            unfold NxPost
            rw [HI.out]
            rintro e w4 ⟨A4, c4, rfl, o4, hb⟩
            have HO4 := Lib.hid (o4.mono zr3)
            have HE4 := oiStep HO hb
            have HA4 := boxStep HA hb
            have HB4 := belStep HB hb
            clear hb o4 hlx
            go_wp2
            go_roundg (L.length - (k + 1))
            case measure => have := HGK.out; have := HK.out; omega
            case rel => exact ⟨⟨k + 1, by rw [HWS.out]; show p.length ≤ 8; rw [HR.out]; exact hn8, ⟨A2, c2, by rw [HWS.out]; show _ = Value.slice A2 p.length c2; rw [HR.out], by rw [HWS.out]; show OI _ _ A2 p.length c2 p; rw [HR.out]; exact HE4.out⟩, by rw [HWS.out], .inl ⟨A4, c4, HKL.out, rfl, rfl, rfl, by rw [← HNX.out]; exact HO4.out⟩⟩, HA4.out, HB4.out⟩
          · have HWS := Lib.hid (HSK.out.2 (by omega))
            go_wp2_with fail
            refine (soNext_any A2 N c2 p _ HO.out.ri hn8 (by omega)).mono ?_
            unfold NxPost
            rw [HI.out]
            rintro e w4 ⟨A4, c4, rfl, o4, hb⟩
            have HO4 := Lib.hid (o4.mono zr3)
            have HE4 := oiStep HE hb
            have HA4 := boxStep HA hb
            have HB4 := belStep HB hb
            clear hb o4 hlx
            go_wp2
            go_roundg (L.length - (k + 1))
            case measure => have := HGK.out; have := HK.out; omega
            case rel => exact ⟨⟨k + 1, by rw [HWS.out]; exact hw8, ⟨E, d, by rw [HWS.out], by rw [HWS.out]; exact HE4.out⟩, by rw [HWS.out], .inl ⟨A4, c4, HKL.out, rfl, rfl, rfl, by rw [← HNX.out]; exact HO4.out⟩⟩, HA4.out, HB4.out⟩
        · have hi := HLST.out k (by have := HK.out; omega)
          have hke : k + 1 = L.length := by have := HK.out; omega
          rw [← HP.out] at hi
          have HI := Lib.hid hi
          have HKE := Lib.hid hke
          clear hi hlast hke
          rcases hlx with hlx | hlx
          · have HWS := Lib.hid (HSK.out.1 (by omega))
            go_wp2_with fail
            refine (soNext_any A2 N c2 p _ HO.out.ri hn8 (by omega)).mono ?_
            unfold NxPost
            rw [HI.out]
            rintro e w4 ⟨rfl, hb⟩
            have HE4 := oiStep HO hb
            have HA4 := boxStep HA hb
            have HB4 := belStep HB hb
            clear hb hlx
            go_wp2
            go_roundg 0
            case measure => have := HGK.out; have := HK.out; omega
            case rel => exact ⟨⟨k + 1, by rw [HWS.out]; show p.length ≤ 8; rw [HR.out]; exact hn8, ⟨A2, c2, by rw [HWS.out]; show _ = Value.slice A2 p.length c2; rw [HR.out], by rw [HWS.out]; show OI _ _ A2 p.length c2 p; rw [HR.out]; exact HE4.out⟩, by rw [HWS.out], .inr ⟨rfl, rfl, HKE.out⟩⟩, HA4.out, HB4.out⟩
          · have HWS := Lib.hid (HSK.out.2 (by omega))
            go_wp2_with fail
            refine (soNext_any A2 N c2 p _ HO.out.ri hn8 (by omega)).mono ?_
            unfold NxPost
            rw [HI.out]
            rintro e w4 ⟨rfl, hb⟩
            have HE4 := oiStep HE hb
            have HA4 := boxStep HA hb
            have HB4 := belStep HB hb
            clear hb hlx
            go_wp2
            go_roundg 0
            case measure => have := HGK.out; have := HK.out; omega
            case rel => exact ⟨⟨k + 1, by rw [HWS.out]; exact hw8, ⟨E, d, by rw [HWS.out], by rw [HWS.out]; exact HE4.out⟩, by rw [HWS.out], .inr ⟨rfl, rfl, HKE.out⟩⟩, HA4.out, HB4.out⟩
      · clear hgk
        go_wp2
        refine bodyPost_ret (v := .tuple #[.slice E bl.length d, .int .i64 mo, .bool true]) (by simp [results, Try.results23]) rfl ?_
        rw [← HBL.out, ← HMO.out]
        exact ⟨E, d, rfl, HE.out, HB.out⟩
end Go.Proofs.Ytamkkmjldkhicaa

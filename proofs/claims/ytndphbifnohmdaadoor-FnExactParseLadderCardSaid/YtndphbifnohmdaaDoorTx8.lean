/- The contract of ParseLadder's model. -/
import Derived.Test.YtndphbifnohmdaaDoorTx7
import Derived.Test.YtndphbifnohmdaaDoorMgB
import Derived.IntWalk
import Derived.Deep.RegionLaw
namespace Go.Proofs.YtndphbifnohmdaaDoor
open Go Go.RowKit

theorem res_none_of {l : List UInt8} (h : ∀ v vs, TextIs l v vs → lad v vs = true → textT v vs = l → False) : resX l = none := by
  rcases hr : resX l with _ | ⟨v, vs⟩
  · rfl
  · obtain ⟨h1, h2⟩ := res_some hr
    exact absurd (h2 ▸ textIs h1 : TextIs l v vs) (fun g => h v vs g h1 h2)
theorem cellOther {w : World} {b : Nat} {u v : Value} (h : Hid (Cell2 w b u v)) {p : Addr} (hp : p.block ≠ b) (x : Value) : Cell2 (w.setCell p x) b u v :=
  ⟨by rw [World.cell?_setCell_other _ _ _ _ (by intro e; apply hp; rw [e])]; exact h.out.c0, by rw [World.cell?_setCell_other _ _ _ _ (by intro e; apply hp; rw [e])]; exact h.out.c1, by simpa [go_sem] using h.out.f0, by simpa [go_sem] using h.out.f1, by simpa [World.setCell] using h.out.lt⟩
theorem byteAt (s : ByteArray) (k : Nat) (h : k < s.size) : (s[k]'h).toNat = bt s.data.toList k := by
  have e : s.data.toList.getD k 0 = s[k]'h := by
    simp [List.getD]
    rw [Array.getElem?_eq_getElem h]
    rfl
  unfold bt; rw [e]

set_option maxRecDepth 100000 in
set_option maxHeartbeats 4000000 in
theorem laParse_any (s : ByteArray) (w : World) (_hs : s.size ≤ 1048576) :
    Calls Tryd.prog 22 #[.string s] w (FreshLB w (resU s.data.toList) (resL s.data.toList).length (resL s.data.toList) (resB s.data.toList)) := by
  have hsz := Lib.size_eq s
  by_cases c1 : s.size < 3
  · have HNO := Lib.hid (resNo (l := s.data.toList) (res_none_of fun v vs g _ _ => by have := g.lo; omega))
    have i1 : (s.size : Int) < 3 := by omega
    clear hsz
    go_enter Tryd.func22, Tryd.ntmps22
    have HC := cellNew w (.int .i64 0) (.slice none 0 0) 28
    have HB := belAlloc (belRefl (w := w)) (.cells #[.int .i64 0, .slice none 0 0] 28)
    have k0 := HC.out.c0; have k1 := HC.out.c1; have f0 := HC.out.f0; have f1 := HC.out.f1; have hz := HC.out.lt
    go_wp2
    rw [HNO.out.u, HNO.out.l, HNO.out.b]
    exact bodyPost_ret (v := .tuple #[.agg #[.int .i64 0, .slice none 0 0], .bool false]) (by simp [results, Tryd.results22, go_sem, k0, k1]) rfl ⟨none, 0, rfl, OI.none_ _ _, (by repeat (first | exact Below.refl _ _ | exact HB.out | refine Below.setCell ?_ (by simp <;> omega) _ | refine Below.alloc ?_ (by simp <;> omega) _ | refine below_drewN ?_ _))⟩
  by_cases c2 : 121 < s.size
  · have HNO := Lib.hid (resNo (l := s.data.toList) (res_none_of fun v vs g _ _ => by have := g.hi; omega))
    have i1 : ¬ ((s.size : Int) < 3) := by omega
    have i2 : (121 : Int) < (s.size : Int) := by omega
    clear hsz
    go_enter Tryd.func22, Tryd.ntmps22
    have HC := cellNew w (.int .i64 0) (.slice none 0 0) 28
    have HB := belAlloc (belRefl (w := w)) (.cells #[.int .i64 0, .slice none 0 0] 28)
    have k0 := HC.out.c0; have k1 := HC.out.c1; have f0 := HC.out.f0; have f1 := HC.out.f1; have hz := HC.out.lt
    go_wp2
    rw [HNO.out.u, HNO.out.l, HNO.out.b]
    exact bodyPost_ret (v := .tuple #[.agg #[.int .i64 0, .slice none 0 0], .bool false]) (by simp [results, Tryd.results22, go_sem, k0, k1]) rfl ⟨none, 0, rfl, OI.none_ _ _, (by repeat (first | exact Below.refl _ _ | exact HB.out | refine Below.setCell ?_ (by simp <;> omega) _ | refine Below.alloc ?_ (by simp <;> omega) _ | refine below_drewN ?_ _))⟩
  have i1 : ¬ ((s.size : Int) < 3) := by omega
  have i2 : ¬ ((121 : Int) < (s.size : Int)) := by omega
  have i3 : (0 : Int) < (s.size : Int) := by omega
  have i4 : (1 : Int) < (s.size : Int) := by omega
  obtain ⟨b0, hb0⟩ : ∃ b, b = bt s.data.toList 0 := ⟨_, rfl⟩
  obtain ⟨b1, hb1⟩ : ∃ b, b = bt s.data.toList 1 := ⟨_, rfl⟩
  have h0z : 0 < s.size := by clear hsz; omega
  have h1z : 1 < s.size := by clear hsz; omega
  have hs0 : (s[0]'h0z).toNat = b0 := by rw [hb0]; exact byteAt s 0 _
  have hs1 : (s[1]'h1z).toNat = b1 := by rw [hb1]; exact byteAt s 1 _
  by_cases c3 : b0 < 50
  · have HNO := Lib.hid (resNo (l := s.data.toList) (res_none_of fun v vs g _ _ => by have := g.b0; have := g.vr; omega))
    have j1 : (b0 : Int) < 50 := by omega
    clear hsz hb0 hb1
    go_enter Tryd.func22, Tryd.ntmps22
    have HC := cellNew w (.int .i64 0) (.slice none 0 0) 28
    have HB := belAlloc (belRefl (w := w)) (.cells #[.int .i64 0, .slice none 0 0] 28)
    have k0 := HC.out.c0; have k1 := HC.out.c1; have f0 := HC.out.f0; have f1 := HC.out.f1; have hz := HC.out.lt
    go_wp2
    rw [HNO.out.u, HNO.out.l, HNO.out.b]
    exact bodyPost_ret (v := .tuple #[.agg #[.int .i64 0, .slice none 0 0], .bool false]) (by simp [results, Tryd.results22, go_sem, k0, k1]) rfl ⟨none, 0, rfl, OI.none_ _ _, (by repeat (first | exact Below.refl _ _ | exact HB.out | refine Below.setCell ?_ (by simp <;> omega) _ | refine Below.alloc ?_ (by simp <;> omega) _ | refine below_drewN ?_ _))⟩
  by_cases c4 : 56 < b0
  · have HNO := Lib.hid (resNo (l := s.data.toList) (res_none_of fun v vs g _ _ => by have := g.b0; have := g.vr; omega))
    have j1 : ¬ ((b0 : Int) < 50) := by omega
    have j2 : (56 : Int) < (b0 : Int) := by omega
    clear hsz hb0 hb1
    go_enter Tryd.func22, Tryd.ntmps22
    have HC := cellNew w (.int .i64 0) (.slice none 0 0) 28
    have HB := belAlloc (belRefl (w := w)) (.cells #[.int .i64 0, .slice none 0 0] 28)
    have k0 := HC.out.c0; have k1 := HC.out.c1; have f0 := HC.out.f0; have f1 := HC.out.f1; have hz := HC.out.lt
    go_wp2
    rw [HNO.out.u, HNO.out.l, HNO.out.b]
    exact bodyPost_ret (v := .tuple #[.agg #[.int .i64 0, .slice none 0 0], .bool false]) (by simp [results, Tryd.results22, go_sem, k0, k1]) rfl ⟨none, 0, rfl, OI.none_ _ _, (by repeat (first | exact Below.refl _ _ | exact HB.out | refine Below.setCell ?_ (by simp <;> omega) _ | refine Below.alloc ?_ (by simp <;> omega) _ | refine below_drewN ?_ _))⟩
  by_cases c5 : b1 = 58
  case neg =>
    have HNO := Lib.hid (resNo (l := s.data.toList) (res_none_of fun v vs g _ _ => by have := g.b1; omega))
    have j1 : ¬ ((b0 : Int) < 50) := by omega
    have j2 : ¬ ((56 : Int) < (b0 : Int)) := by omega
    have j3 : ((b1 : Int) != 58) = true := by rw [bne_iff_ne]; omega
    clear hsz hb0 hb1
    go_enter Tryd.func22, Tryd.ntmps22
    have HC := cellNew w (.int .i64 0) (.slice none 0 0) 28
    have HB := belAlloc (belRefl (w := w)) (.cells #[.int .i64 0, .slice none 0 0] 28)
    have k0 := HC.out.c0; have k1 := HC.out.c1; have f0 := HC.out.f0; have f1 := HC.out.f1; have hz := HC.out.lt
    go_wp2
    rw [HNO.out.u, HNO.out.l, HNO.out.b]
    exact bodyPost_ret (v := .tuple #[.agg #[.int .i64 0, .slice none 0 0], .bool false]) (by simp [results, Tryd.results22, go_sem, k0, k1]) rfl ⟨none, 0, rfl, OI.none_ _ _, (by repeat (first | exact Below.refl _ _ | exact HB.out | refine Below.setCell ?_ (by simp <;> omega) _ | refine Below.alloc ?_ (by simp <;> omega) _ | refine below_drewN ?_ _))⟩
  case pos =>
    have j1 : ¬ ((b0 : Int) < 50) := by omega
    have j2 : ¬ ((56 : Int) < (b0 : Int)) := by omega
    have j3 : ((b1 : Int) != 58) = false := by rw [bne_eq_false_iff_eq]; omega
    obtain ⟨V0, hV0⟩ : ∃ V : Int, V = (b0 : Int) - 48 := ⟨_, rfl⟩
    have hbv : ∀ v vs, TextIs s.data.toList v vs → v = V0 := fun v vs g => by have := g.b0; omega
    have HV0 := Lib.hid hV0
    have hex : (s.extract 2 s.size).toList = s.data.toList.drop 2 := by rw [ByteArray.toList_eq]; exact Lib.extract_to_end s 2
    have i5 : (2 : Int) ≤ (s.size : Int) := by omega
    have i6 : (2 : Int) < (s.size : Int) := by omega
    have i7 : (b0 : Int) - 48 = V0 := hV0.symm
    by_cases cd : s.data.toList.drop 2 = [45]
    · have HKEY : Hid (¬ (lad V0 [] = true ∧ textT V0 [] = s.data.toList) → resX s.data.toList = none) := fun hno => res_none_of fun v vs g h1 h2 => by
        have e1 := hbv v vs g
        by_cases e2 : vs = []
        · subst e1; subst e2; exact hno ⟨h1, h2⟩
        · exact (g.one e2).1 cd
      have hdash : ((s.extract 2 s.size).toList == [45]) = true := by rw [hex, cd]; rfl
      clear hsz hb0 hb1 hbv hex cd hV0
      go_enter Tryd.func22, Tryd.ntmps22
      go_wp2_with fail
      have HC := cellAlloc (cellNew w (.int .i64 0) (.slice none 0 0) 28) (.cells #[.int .i64 V0, .slice none 0 0] 28)
      have HM := cellNew (w.alloc (.cells #[.int .i64 0, .slice none 0 0] 28)) (.int .i64 V0) (.slice none 0 0) 28
      have HB := belAlloc (belAlloc (belRefl (w := w)) (.cells #[.int .i64 0, .slice none 0 0] 28)) (.cells #[.int .i64 V0, .slice none 0 0] 28)
      rw [World.size_alloc] at HM
      go_loopw [5, 47, 73] (fun s5 _ _ wr => s5 = .int .i64 2 ∧ Cell2 wr w.heap.size (.int .i64 0) (.slice none 0 0) ∧ Cell2 wr (w.heap.size + 1) (.int .i64 V0) (.slice none 0 0) ∧ Below w.heap.size w wr) (fun _ _ _ _ => 0)
      case atStart => exact ⟨rfl, HC.out, HM.out, HB.out⟩
      case round =>
        obtain ⟨rfl, hc, hm, hb⟩ := hrel
        replace HC := Lib.hid hc; replace HM := Lib.hid hm; replace HB := Lib.hid hb
        have HO : Hid (OI wr (w.heap.size + 1) none 0 0 []) := OI.none_ _ _
        have m0 := HM.out.c0; have m1 := HM.out.c1; have mz := HM.out.lt
        clear hc hm hb
        go_wp2_with fail
        refine (laGood_any V0 none 0 0 [] _ HO.out.ri (by omega)).mono ?_
        rcases hq : lad V0 [] with _ | _
        · have HNO := Lib.hid (resNo (HKEY.out (fun g => by rw [hq] at g; cases g.1)))
          rintro e w5 ⟨rfl, hb⟩
          replace HC := cellStep HC hb; replace HB := belStep HB hb; replace HM := cellStep HM hb
          clear hb hq
          have k0 := HC.out.c0; have k1 := HC.out.c1; have f0 := HC.out.f0; have f1 := HC.out.f1; have hz := HC.out.lt
          go_wp2
          rw [HNO.out.u, HNO.out.l, HNO.out.b]
          exact bodyPost_ret (v := .tuple #[.agg #[.int .i64 0, .slice none 0 0], .bool false]) (by simp [results, Tryd.results22, go_sem, k0, k1]) rfl ⟨none, 0, rfl, OI.none_ _ _, (by repeat (first | exact Below.refl _ _ | exact HB.out | refine Below.setCell ?_ (by simp <;> omega) _ | refine Below.alloc ?_ (by simp <;> omega) _ | refine below_drewN ?_ _))⟩
        · have HLD := Lib.hid hq
          rintro e w5 ⟨rfl, hb⟩
          replace HC := cellStep HC hb; replace HB := belStep HB hb; replace HM := cellStep HM hb; replace HO := oiStep HO hb
          have m0 := HM.out.c0; have m1 := HM.out.c1; have mz := HM.out.lt
          clear hb hq
          go_wp2_with fail
          refine (laText_any V0 none 0 0 [] _ HO.out.ri HLD.out).mono ?_
          unfold RetS str
          obtain ⟨t, htt⟩ : ∃ t, t = bs (textT V0 []) := ⟨_, rfl⟩
          rw [← htt]
          rintro e w6 ⟨rfl, hb⟩
          replace HC := cellStep HC hb; replace HB := belStep HB hb; replace HM := cellStep HM hb; replace HO := oiStep HO hb
          replace m0 := HM.out.c0; replace m1 := HM.out.c1; replace mz := HM.out.lt
          clear hb
          by_cases ht : textT V0 [] = s.data.toList
          · have hcmp : (t.toList == s.toList) = true := by rw [htt, ByteArray.toList_eq, ByteArray.toList_eq, ← ht]; simp [bs]
            have HY := Lib.hid (resYes (l := s.data.toList) (v := V0) (vs := []) (by rw [← ht]; exact res_text HLD.out))
            have HVL : Hid (0 = ([]).length) := HO.out.1.symm
            clear htt ht
            have k0 := HC.out.c0; have k1 := HC.out.c1; have f0 := HC.out.f0; have f1 := HC.out.f1; have hz := HC.out.lt
            go_wp2
            rw [HY.out.u, HY.out.l, HY.out.b]
            exact bodyPost_ret (v := .tuple #[.agg #[.int .i64 V0, .slice none 0 0], .bool true]) (by simp [results, Tryd.results22, go_sem, k0, k1]) rfl
              ⟨none, 0, by rw [← HVL.out], by rw [← HVL.out]; exact ((HO.out.setBelow (p := ⟨w.heap.size, 0, none⟩) (by show w.heap.size < _; omega) _).setBelow (p := ⟨w.heap.size, 1, none⟩) (by show w.heap.size < _; omega) _).mono (by omega), (HB.out.setCell (p := ⟨w.heap.size, 0, none⟩) (Nat.le_refl _) _).setCell (p := ⟨w.heap.size, 1, none⟩) (Nat.le_refl _) _⟩
          · have hcmp : (t.toList == s.toList) = false := by
              rw [htt, ByteArray.toList_eq, ByteArray.toList_eq, beq_eq_false_iff_ne]
              intro e
              apply ht
              simpa [bs] using e
            have HNO := Lib.hid (resNo (HKEY.out (fun g => ht g.2)))
            clear htt ht
            have k0 := HC.out.c0; have k1 := HC.out.c1; have f0 := HC.out.f0; have f1 := HC.out.f1; have hz := HC.out.lt
            go_wp2
            rw [HNO.out.u, HNO.out.l, HNO.out.b]
            exact bodyPost_ret (v := .tuple #[.agg #[.int .i64 0, .slice none 0 0], .bool false]) (by simp [results, Tryd.results22, go_sem, k0, k1]) rfl ⟨none, 0, rfl, OI.none_ _ _, (by repeat (first | exact Below.refl _ _ | exact HB.out | refine Below.setCell ?_ (by simp <;> omega) _ | refine Below.alloc ?_ (by simp <;> omega) _ | refine below_drewN ?_ _))⟩
    · have hdash : ((s.extract 2 s.size).toList == [45]) = false := by rw [hex]; simpa using cd
      have HKEY : Hid (¬ (lad V0 (rg s.data.toList s.size) = true ∧ textT V0 (rg s.data.toList s.size) = s.data.toList) → resX s.data.toList = none) := fun hno => res_none_of fun v vs g h1 h2 => by
        have e1 := hbv v vs g
        by_cases e2 : vs = []
        · exact cd (g.nil e2)
        · have e3 := (g.one e2).2.1
          rw [← hsz] at e3
          subst e1; rw [e3] at hno; exact hno ⟨h1, h2⟩
      have HBAD : Hid (∀ k, 2 ≤ k → k < s.size → ¬ okAt s.data.toList k → resX s.data.toList = none) := fun k k1 k2 hno => res_none_of fun v vs g _ _ => by
        by_cases e2 : vs = []
        · exact cd (g.nil e2)
        · exact hno ((g.one e2).2.2 k k1 (by omega))
      have HBT : Hid (∀ k (h : k < s.size), (s[k]'h).toNat = bt s.data.toList k) := fun k h => byteAt s k h
      clear hsz hb0 hb1 hbv hex cd hV0
      go_enter Tryd.func22, Tryd.ntmps22
      go_wp2_with fail
      have HC := cellAlloc (cellNew w (.int .i64 0) (.slice none 0 0) 28) (.cells #[.int .i64 V0, .slice none 0 0] 28)
      have HM := cellNew (w.alloc (.cells #[.int .i64 0, .slice none 0 0] 28)) (.int .i64 V0) (.slice none 0 0) 28
      have HB := belAlloc (belAlloc (belRefl (w := w)) (.cells #[.int .i64 0, .slice none 0 0] 28)) (.cells #[.int .i64 V0, .slice none 0 0] 28)
      rw [World.size_alloc] at HM
      go_loopw [5, 47, 73] (fun s5 _ _ wr => ∃ (k : Nat) (A1 : Option Addr) (c1 : Nat), 2 ≤ k ∧ k ≤ s.size ∧ s5 = .int .i64 (k : Int) ∧ Cell2 wr w.heap.size (.int .i64 0) (.slice none 0 0) ∧ Cell2 wr (w.heap.size + 1) (.int .i64 V0) (.slice A1 ((k - 1) / 2) c1) ∧ OI wr (w.heap.size + 2) A1 ((k - 1) / 2) c1 (rg s.data.toList k) ∧ Below w.heap.size w wr) (fun s5 _ _ _ => s.size - (intOf s5).toNat)
      case atStart => exact ⟨2, none, 0, Nat.le_refl _, by omega, rfl, HC.out, HM.out, OI.none_ _ _, HB.out⟩
      case round =>
        obtain ⟨k, A1, c1, hk2, hk, rfl, hc, hm, ho, hb⟩ := hrel
        replace HC := Lib.hid hc; replace HM := Lib.hid hm; replace HB := Lib.hid hb
        have HO := Lib.hid ho
        obtain ⟨mm, hmm⟩ : ∃ mm, mm = (k - 1) / 2 := ⟨_, rfl⟩
        rw [← hmm] at HM HO
        have HMM := Lib.hid hmm
        have hmm60 : mm ≤ 60 := by omega
        have m0 := HM.out.c0; have m1 := HM.out.c1; have mf0 := HM.out.f0; have mf1 := HM.out.f1; have mz := HM.out.lt
        clear hc hm ho hb hmm
        by_cases hlt : k < s.size
        · have i8 : (0 : Int) ≤ (k : Int) := by omega
          have i9 : (k : Int) < (s.size : Int) := by omega
          have hrem : Int.tmod (k : Int) 2 = ((k % 2 : Nat) : Int) := by rw [Int.tmod_eq_emod_of_nonneg (by omega)]; simp
          obtain ⟨d, hd⟩ : ∃ d, d = bt s.data.toList k := ⟨_, rfl⟩
          have hsk : (s[k]'hlt).toNat = d := by rw [hd]; exact HBT.out k hlt
          have hd256 : d < 256 := by rw [hd]; exact UInt8.toNat_lt _
          rcases Nat.mod_two_eq_zero_or_one k with he | he
          · rw [he] at hrem
            by_cases hdig : 48 ≤ d ∧ d ≤ 57
            · have j4 : (48 : Int) ≤ (d : Int) := by omega
              have j5 : (d : Int) ≤ 57 := by omega
              have HRG := Lib.hid (rg_even (L := s.data.toList) he hk2)
              rw [← hd] at HRG
              clear hd
              have hwz : w.heap.size + 2 ≤ wr.heap.size := by omega
              have hw8 : IntKind.u8.wrap ((d : Int) - 48) = (d : Int) - 48 := IntWalk.u8_in _ (by omega)
              have hw64 : IntKind.i64.wrap ((d : Int) - 48) = (d : Int) - 48 := IntWalk.i64_in _ (by omega)
              go_wp2
              go_region_law (refine step_append_ints _ rfl (.tmp 64) (.tmp 70) rfl (w.heap.size + 2) A1 mm c1 _ (some ⟨wr.heap.size, 0, none⟩) 1 1 [(d : Int) - 48] rfl rfl (by exact HO.out.alloc _) (by exact RI.single _ _) (by omega) (by omega) (by first | omega | (simp; done) | (simp; omega)) ?_; intro A2 c2 w2 ho2 hg2; have HM2 := cellKeptNe (cellAlloc (cellDrew HM) _) hg2 (by exact HO.out.alloc _) (Nat.lt_succ_self _); have HC2 := cellKeptNe (cellAlloc (cellDrew HC) _) hg2 (by exact HO.out.alloc _) (show w.heap.size < w.heap.size + 2 by omega); have B2 : Hid (Below w.heap.size w w2) := (HB.out.drew.alloc (by first | omega | (simp; done) | (simp; omega)) _).trans (ofMark (by exact HO.out.alloc _) hg2 (show w.heap.size ≤ w.heap.size + 2 by omega) (by first | omega | (simp; done) | (simp; omega))); have n0 := HM2.out.c0; have n1 := HM2.out.c1; have nf0 := HM2.out.f0; have nf1 := HM2.out.f1; have nz := HM2.out.lt)
              all_goals
                have HO2 := Lib.hid ho2
                clear ho2 hg2
                go_wp2
                go_roundw
                case rel =>
                  refine ⟨k + 1, A2, c2, by omega, by omega, by go_num, ?_, ?_, ?_, B2.out.setCell (by simp) _⟩
                  · exact cellOther HC2 (by simp) _
                  · rw [show (k + 1 - 1) / 2 = mm + 1 by have := HMM.out; omega]; exact (cellSet1 HM2 _).out
                  · rw [show (k + 1 - 1) / 2 = mm + 1 by have := HMM.out; omega, HRG.out]; exact HO2.out.setBelow (by simp) _
                case measure => simp [intOf]; omega
            · have HNO := Lib.hid (resNo (HBAD.out k hk2 hlt (by rintro (g | g) <;> omega)))
              by_cases j4 : (48 : Int) ≤ (d : Int)
              · have j5 : ¬ ((d : Int) ≤ 57) := by omega
                clear hd hdig
                have k0 := HC.out.c0; have k1 := HC.out.c1; have f0 := HC.out.f0; have f1 := HC.out.f1; have hz := HC.out.lt
                go_wp2
                rw [HNO.out.u, HNO.out.l, HNO.out.b]
                exact bodyPost_ret (v := .tuple #[.agg #[.int .i64 0, .slice none 0 0], .bool false]) (by simp [results, Tryd.results22, go_sem, k0, k1]) rfl ⟨none, 0, rfl, OI.none_ _ _, (by repeat (first | exact Below.refl _ _ | exact HB.out | refine Below.setCell ?_ (by simp <;> omega) _ | refine Below.alloc ?_ (by simp <;> omega) _ | refine below_drewN ?_ _))⟩
              · clear hd hdig
                have k0 := HC.out.c0; have k1 := HC.out.c1; have f0 := HC.out.f0; have f1 := HC.out.f1; have hz := HC.out.lt
                go_wp2
                rw [HNO.out.u, HNO.out.l, HNO.out.b]
                exact bodyPost_ret (v := .tuple #[.agg #[.int .i64 0, .slice none 0 0], .bool false]) (by simp [results, Tryd.results22, go_sem, k0, k1]) rfl ⟨none, 0, rfl, OI.none_ _ _, (by repeat (first | exact Below.refl _ _ | exact HB.out | refine Below.setCell ?_ (by simp <;> omega) _ | refine Below.alloc ?_ (by simp <;> omega) _ | refine below_drewN ?_ _))⟩
          · rw [he] at hrem
            by_cases hcom : d = 44
            · have j4 : ((d : Int) == 44) = true := by rw [beq_iff_eq]; omega
              have HRG := Lib.hid (rg_odd (L := s.data.toList) he)
              clear hd hcom
              go_wp2
              go_roundw
              case rel => exact ⟨k + 1, A1, c1, by omega, by omega, by go_num, HC.out, by rw [show (k + 1 - 1) / 2 = mm by have := HMM.out; omega]; exact HM.out, by rw [show (k + 1 - 1) / 2 = mm by have := HMM.out; omega, HRG.out]; exact HO.out, HB.out⟩
              case measure => simp [intOf]; omega
            · have HNO := Lib.hid (resNo (HBAD.out k hk2 hlt (by rintro (g | g) <;> omega)))
              have j4 : ((d : Int) == 44) = false := by rw [beq_eq_false_iff_ne]; omega
              clear hd hcom
              have k0 := HC.out.c0; have k1 := HC.out.c1; have f0 := HC.out.f0; have f1 := HC.out.f1; have hz := HC.out.lt
              go_wp2
              rw [HNO.out.u, HNO.out.l, HNO.out.b]
              exact bodyPost_ret (v := .tuple #[.agg #[.int .i64 0, .slice none 0 0], .bool false]) (by simp [results, Tryd.results22, go_sem, k0, k1]) rfl ⟨none, 0, rfl, OI.none_ _ _, (by repeat (first | exact Below.refl _ _ | exact HB.out | refine Below.setCell ?_ (by simp <;> omega) _ | refine Below.alloc ?_ (by simp <;> omega) _ | refine below_drewN ?_ _))⟩
        · obtain rfl : k = s.size := by omega
          obtain ⟨VS, hVS⟩ : ∃ VS, VS = rg s.data.toList s.size := ⟨_, rfl⟩
          rw [← hVS] at HKEY HO
          clear hVS
          go_wp2_with fail
          refine (laGood_any V0 A1 mm c1 VS _ HO.out.ri (by omega)).mono ?_
          rcases hq : lad V0 VS with _ | _
          · have HNO := Lib.hid (resNo (HKEY.out (fun g => by rw [hq] at g; cases g.1)))
            rintro e w5 ⟨rfl, hb⟩
            replace HC := cellStep HC hb; replace HB := belStep HB hb; replace HM := cellStep HM hb
            clear hb hq
            have k0 := HC.out.c0; have k1 := HC.out.c1; have f0 := HC.out.f0; have f1 := HC.out.f1; have hz := HC.out.lt
            go_wp2
            rw [HNO.out.u, HNO.out.l, HNO.out.b]
            exact bodyPost_ret (v := .tuple #[.agg #[.int .i64 0, .slice none 0 0], .bool false]) (by simp [results, Tryd.results22, go_sem, k0, k1]) rfl ⟨none, 0, rfl, OI.none_ _ _, (by repeat (first | exact Below.refl _ _ | exact HB.out | refine Below.setCell ?_ (by simp <;> omega) _ | refine Below.alloc ?_ (by simp <;> omega) _ | refine below_drewN ?_ _))⟩
          · have HLD := Lib.hid hq
            rintro e w5 ⟨rfl, hb⟩
            replace HC := cellStep HC hb; replace HB := belStep HB hb; replace HM := cellStep HM hb; replace HO := oiStep HO hb
            have m0 := HM.out.c0; have m1 := HM.out.c1; have mz := HM.out.lt
            clear hb hq
            go_wp2_with fail
            refine (laText_any V0 A1 mm c1 VS _ HO.out.ri HLD.out).mono ?_
            unfold RetS str
            obtain ⟨t, htt⟩ : ∃ t, t = bs (textT V0 VS) := ⟨_, rfl⟩
            rw [← htt]
            rintro e w6 ⟨rfl, hb⟩
            replace HC := cellStep HC hb; replace HB := belStep HB hb; replace HM := cellStep HM hb; replace HO := oiStep HO hb
            replace m0 := HM.out.c0; replace m1 := HM.out.c1; replace mz := HM.out.lt
            clear hb
            by_cases ht : textT V0 VS = s.data.toList
            · have hcmp : (t.toList == s.toList) = true := by rw [htt, ByteArray.toList_eq, ByteArray.toList_eq, ← ht]; simp [bs]
              have HY := Lib.hid (resYes (l := s.data.toList) (v := V0) (vs := VS) (by rw [← ht]; exact res_text HLD.out))
              have HVL : Hid (mm = (VS).length) := HO.out.1.symm
              clear htt ht
              have k0 := HC.out.c0; have k1 := HC.out.c1; have f0 := HC.out.f0; have f1 := HC.out.f1; have hz := HC.out.lt
              go_wp2
              rw [HY.out.u, HY.out.l, HY.out.b]
              exact bodyPost_ret (v := .tuple #[.agg #[.int .i64 V0, .slice A1 mm c1], .bool true]) (by simp [results, Tryd.results22, go_sem, k0, k1]) rfl
                ⟨A1, c1, by rw [← HVL.out], by rw [← HVL.out]; exact ((HO.out.setBelow (p := ⟨w.heap.size, 0, none⟩) (by show w.heap.size < _; omega) _).setBelow (p := ⟨w.heap.size, 1, none⟩) (by show w.heap.size < _; omega) _).mono (by omega), (HB.out.setCell (p := ⟨w.heap.size, 0, none⟩) (Nat.le_refl _) _).setCell (p := ⟨w.heap.size, 1, none⟩) (Nat.le_refl _) _⟩
            · have hcmp : (t.toList == s.toList) = false := by
                rw [htt, ByteArray.toList_eq, ByteArray.toList_eq, beq_eq_false_iff_ne]
                intro e
                apply ht
                simpa [bs] using e
              have HNO := Lib.hid (resNo (HKEY.out (fun g => ht g.2)))
              clear htt ht
              have k0 := HC.out.c0; have k1 := HC.out.c1; have f0 := HC.out.f0; have f1 := HC.out.f1; have hz := HC.out.lt
              go_wp2
              rw [HNO.out.u, HNO.out.l, HNO.out.b]
              exact bodyPost_ret (v := .tuple #[.agg #[.int .i64 0, .slice none 0 0], .bool false]) (by simp [results, Tryd.results22, go_sem, k0, k1]) rfl ⟨none, 0, rfl, OI.none_ _ _, (by repeat (first | exact Below.refl _ _ | exact HB.out | refine Below.setCell ?_ (by simp <;> omega) _ | refine Below.alloc ?_ (by simp <;> omega) _ | refine below_drewN ?_ _))⟩
end Go.Proofs.YtndphbifnohmdaaDoor

/- The next order, as the model makes it. -/
import Derived.Test.YtamkkmjldkhicaaMgC
import Derived.Test.YtamkkmjldkhicaaMgF
import Derived.Test.YtamkkmjldkhicaaMgB
import Derived.Test.YtamkkmjldkhicaaMgD
import Derived.Test.YtamkkmjldkhicaaMgE
import Derived.Test.YtamkkmjldkhicaaC1v
import Derived.Test.YtamkkmjldkhicaaStL
import Derived.IntWalk
import Derived.BigQuiet
namespace Go.Proofs.Ytamkkmjldkhicaa
open Go Go.RowKit

/-- the place at which the next order differs first -/
def nxI (p : List Int) : Nat → Option Nat
  | 0 => none
  | k + 1 => if gi p (k + 1) < gi p k then nxI p k else some k
theorem nxI_lt {p : List Int} : ∀ {k i : Nat}, nxI p k = some i → i < k
  | 0, _, h => by simp [nxI] at h
  | k + 1, i, h => by
    simp only [nxI] at h
    split at h
    · have := nxI_lt h; omega
    · cases h; omega
/-- the last place with no less number -/
def nxJ (p : List Int) (x : Int) : Nat → Nat
  | 0 => 0
  | j + 1 => if gi p (j + 1) < x then nxJ p x j else j + 1
theorem nxJ_le (p : List Int) (x : Int) : ∀ j, nxJ p x j ≤ j
  | 0 => Nat.le_refl _
  | j + 1 => by
    simp only [nxJ]
    split
    · have := nxJ_le p x j; omega
    · exact Nat.le_refl _
theorem nxJ_stop {p : List Int} {x : Int} {j : Nat} (h : ¬ gi p j < x) : nxJ p x j = j := by
  cases j with
  | zero => rfl
  | succ j => simp only [nxJ]; rw [if_neg h]
theorem nxJ_step {p : List Int} {x : Int} {j : Nat} (h : gi p (j + 1) < x) : nxJ p x (j + 1) = nxJ p x j := by simp only [nxJ]; rw [if_pos h]
/-- what is behind, turned round one by one -/
def rvK (o t : List Int) (a : Nat) : Nat → List Int
  | 0 => o
  | k + 1 => (rvK o t a k).set (a + k) (gi t (t.length - 1 - k))
theorem rvK_len (o t : List Int) (a : Nat) : ∀ k, (rvK o t a k).length = o.length
  | 0 => rfl
  | k + 1 => by simp only [rvK, List.length_set]; exact rvK_len o t a k
def nxO (p : List Int) (i : Nat) : List Int := (p.set i (gi p (nxJ p (gi p i) (p.length - 1)))).set (nxJ p (gi p i) (p.length - 1)) (gi p i)
theorem nxO_len (p : List Int) (i : Nat) : (nxO p i).length = p.length := by simp [nxO]
def nxL (p : List Int) (i : Nat) : List Int := rvK (nxO p i) ((nxO p i).drop (i + 1)) (i + 1) (p.length - (i + 1))
theorem nxL_len (p : List Int) (i : Nat) : (nxL p i).length = p.length := by unfold nxL; rw [rvK_len, nxO_len]

/-- what the next order's function tells -/
def NxPost (w : World) (n : Nat) (p : List Int) (e : Ending) (w' : World) : Prop :=
  match nxI p (n - 1) with
  | none => e = .returned (.tuple #[.slice none 0 0, .bool false]) ∧ Below w.heap.size w w'
  | some i => ∃ A c, e = .returned (.tuple #[.slice A n c, .bool true]) ∧ OI w' w.heap.size A n c (nxL p i) ∧ Below w.heap.size w w'

set_option maxRecDepth 100000 in
set_option maxHeartbeats 1000000 in
theorem soNext_any (A : Option Addr) (n c : Nat) (p : List Int) (w : World) (h : RI w A n p) (hn : n ≤ 8) (h1 : 1 ≤ n) :
    Calls Try.prog 49 #[.slice A n c] w (NxPost w n p) := by
  have hl := h.1
  obtain ⟨b, off, rfl, hbw, hc⟩ := h.2 (by omega)
  have HC := Lib.hid hc
  have HR := Lib.hid h
  have HP : Hid (∀ e w', (match nxI p (n - 1) with
    | none => e = .returned (.tuple #[.slice none 0 0, .bool false]) ∧ Below w.heap.size w w'
    | some i => ∃ A c, e = .returned (.tuple #[.slice A n c, .bool true]) ∧ OI w' w.heap.size A n c (nxL p i) ∧ Below w.heap.size w w') → NxPost w n p e w') := Lib.hid (fun _ _ h => h)
  clear hc h
  go_enter Try.func49, Try.ntmps49
  go_wp2
  go_loopw [4] (fun i wr => ∃ k m : Nat, k ≤ n - 1 ∧ i = .int .i64 ((k : Int) - 1) ∧ wr = w.drewN m ∧ nxI p k = nxI p (n - 1)) (fun i _ => (intOf i + 1).toNat)
  case atStart => exact ⟨n - 1, 0, Nat.le_refl _, by go_num, rfl, rfl⟩
  case round =>
    obtain ⟨k, m, hk, hi, rfl, hq⟩ := hrel
    have HQ := Lib.hid hq
    clear hq
    rcases k with _ | k
    · -- none
      obtain ⟨x, hx⟩ : ∃ x : Int, x = ((0 : Nat) : Int) - 1 := ⟨_, rfl⟩
      rw [← hx] at hi
      subst hi
      have i0 : decide ((0 : Int) ≤ x) = false := by simp; omega
      have i1 : x < 0 := by omega
      clear hx
      go_wp2
      go_quiet (fail)
      clear i0
      go_wp2
      go_ret2
      refine HP.out _ _ ?_
      rw [← HQ.out]
      exact ⟨rfl, below_drewN (Below.refl _ _) _⟩
    · obtain rfl : _ = Value.int .i64 (k : Int) := hi.trans (by congr 1; omega)
      have hkn : k + 1 < n := by omega
      have hc0 := HC.out k (by omega)
      have hc1 := HC.out (k + 1) (by omega)
      obtain ⟨x, hx⟩ : ∃ x, x = gi p k := ⟨_, rfl⟩
      obtain ⟨y, hy⟩ : ∃ y, y = gi p (k + 1) := ⟨_, rfl⟩
      rw [← hx] at hc0
      rw [← hy] at hc1
      have HX := Lib.hid hx
      have HY := Lib.hid hy
      have i0 : (0 : Int) ≤ (k : Int) := by omega
      clear hx hy hi
      by_cases hd : y < x
      · have HE : Hid (nxI p (k + 1) = nxI p k) := Lib.hid (by simp only [nxI]; rw [← HX.out, ← HY.out, if_pos hd])
        go_wp2
        go_quiet (fail)
        clear hd
        go_wp2
        go_roundw
        case rel => exact ⟨k, m + nq, by omega, by go_num, rfl, by rw [← HE.out]; exact HQ.out⟩
        case measure => simp [intOf]
      · have HE : Hid (nxI p (n - 1) = some k) := Lib.hid (by rw [← HQ.out]; simp only [nxI]; rw [← HX.out, ← HY.out, if_neg hd])
        have hd1 : x ≤ y := by omega
        have hd2 : ¬ (k : Int) < 0 := by omega
        go_wp2
        go_quiet (fail)
        clear hd1 hc1
        go_wp2
        clear hd
        go_loopw [5] (fun i wr => ∃ j m2 : Nat, k ≤ j ∧ j ≤ n - 1 ∧ i = .int .i64 (j : Int) ∧ wr = w.drewN m2 ∧ nxJ p x j = nxJ p x (n - 1)) (fun i _ => (intOf i).toNat)
        case atStart => exact ⟨n - 1, m + nq, by omega, Nat.le_refl _, by go_num, by first | rfl | rw [World.drewN_drewN], rfl⟩
        case round =>
          obtain ⟨j, m2, hkj, hjn, rfl, rfl, hq⟩ := hrel
          have HJ := Lib.hid hq
          have hcj := HC.out j (by omega)
          obtain ⟨z, hz⟩ : ∃ z, z = gi p j := ⟨_, rfl⟩
          rw [← hz] at hcj
          have HZ := Lib.hid hz
          have j0 : (0 : Int) ≤ (j : Int) := by omega
          have j1 : (j : Int) < (n : Int) := by omega
          have k1 : (k : Int) < (n : Int) := by omega
          clear hq hz
          by_cases hd : z < x
          · have hjk : k < j := by
              rcases Nat.lt_or_ge k j with e | e
              · exact e
              · have e2 : j = k := by omega
                subst e2
                have := HZ.out; have := HX.out; omega
            obtain ⟨j', rfl⟩ : ∃ j', j = j' + 1 := ⟨j - 1, by omega⟩
            have HS := Lib.hid (nxJ_step (p := p) (x := x) (j := j') (by rw [← HZ.out]; exact hd))
            go_wp2
            go_quiet (fail)
            clear hd
            go_wp2
            go_roundw
            case rel => exact ⟨j', m2 + nq, by omega, by omega, by go_num, rfl, by rw [← HS.out]; exact HJ.out⟩
            case measure => simp [intOf]
          · have HS : Hid (nxJ p x (n - 1) = j) := Lib.hid (by rw [← HJ.out]; exact nxJ_stop (by rw [← HZ.out]; exact hd))
            go_wp2
            go_quiet (fail)
            rw [World.drewN_drewN]
            obtain ⟨m3, hm3⟩ : ∃ m3, m3 = m2 + nq := ⟨_, rfl⟩
            rw [← hm3]
            clear hm3
            go_wp2_with fail
            refine (l1Own_any (some ⟨b, off, none⟩) n c p _ (HR.out.drewN _) (by omega)).mono ?_
            rintro e w1 ⟨A1, c1, rfl, o1, hb⟩
            have HB1 : Hid (Below w.heap.size w w1) := Lib.hid ((below_drewN (Below.refl _ _) m3).trans hb)
            have HO1 : Hid (OI w1 w.heap.size A1 n c1 p) := Lib.hid o1
            obtain ⟨g, rfl, hg⟩ : ∃ g, A1 = some ⟨g, 0, none⟩ ∧ w.heap.size ≤ g := by
              obtain ⟨m, hm⟩ : ∃ m, n = m + 1 := ⟨n - 1, by omega⟩
              subst hm
              obtain ⟨g, hA, hg, -⟩ := OI.some_ HO1.out
              exact ⟨g, hA, hg⟩
            have hgb : b ≠ g := by omega
            have q0 := (HB1.out.cell (p := ⟨b, off + k, none⟩) hbw).trans hc0
            have q1 := (HB1.out.cell (p := ⟨b, off + j, none⟩) hbw).trans hcj
            have fk := HO1.out.2.frozenAt k
            have fj := HO1.out.2.frozenAt j
            have hle := HO1.out.le
            have r0 := HO1.out.cells k (by omega)
            have r1 := (HO1.out.stored k z).cells j (by omega)
            have n1 : ¬ c1 = k + 1 := by omega
            have n2 : ¬ k + 1 = c1 := by omega
            have n3 : ¬ c1 ≤ k + 1 := by omega
            have n4 : k + 1 < c1 := by omega
            have n5 : k + 1 ≤ n := by omega
            clear hb o1 hc0 hcj hd
            go_wp2_with fail
            obtain ⟨L, hL⟩ : ∃ L, L = n - (k + 1) := ⟨_, rfl⟩
            have HRD : Hid (RI ((w1.setCell ⟨g, k, none⟩ (.int .i64 z)).setCell ⟨g, j, none⟩ (.int .i64 x)) (some ⟨g, k + 1, none⟩) L (((p.set k z).set j x).drop (k + 1))) := by
              have := ((HO1.out.stored k z).stored j x).ri.drop' (k := k + 1) (by omega)
              rw [← hL] at this
              exact Lib.hid this
            rw [← hL]
            obtain ⟨O, hO⟩ : ∃ O, O = (p.set k z).set j x := ⟨_, rfl⟩
            have HOS : Hid (OI ((w1.setCell ⟨g, k, none⟩ (.int .i64 z)).setCell ⟨g, j, none⟩ (.int .i64 x)) w.heap.size (some ⟨g, 0, none⟩) n c1 O) := by rw [hO]; exact Lib.hid ((HO1.out.stored k z).stored j x)
            rw [← hO] at HRD
            have HOO : Hid (nxO p k = O) := Lib.hid (by unfold nxO; rw [hl, ← HX.out, HS.out, ← HZ.out, hO])
            have HBS : Hid (Below w.heap.size w ((w1.setCell ⟨g, k, none⟩ (.int .i64 z)).setCell ⟨g, j, none⟩ (.int .i64 x))) := Lib.hid ((HB1.out.setCell hg _).setCell hg _)
            obtain ⟨v1, hv1⟩ : ∃ v1, v1 = (w1.setCell ⟨g, k, none⟩ (.int .i64 z)).setCell ⟨g, j, none⟩ (.int .i64 x) := ⟨_, rfl⟩
            rw [← hv1] at HRD HOS HBS ⊢
            have hgv : g < v1.heap.size := (HOS.out.blk g rfl).2
            obtain ⟨T, hT⟩ : ∃ T, T = O.drop (k + 1) := ⟨_, rfl⟩
            rw [← hT] at HRD
            have HTT := Lib.hid hT
            have HLL := Lib.hid hL
            have hL0 : 0 < L := by omega
            have hL8 : k + 1 + L = n := by omega
            have hTl : T.length = L := HRD.out.1
            clear hO hv1 hT hL r0 r1 q0 q1 fk fj n1 n2 n3 n4 n5 hle HO1 HB1
            refine (l1Own_any (some ⟨g, k + 1, none⟩) L (c1 - (k + 1)) T _ HRD.out (by omega)).mono ?_
            rintro e w2 ⟨A2, c2, rfl, o2, hb2⟩
            have HT : Hid (OI w2 v1.heap.size A2 L c2 T) := Lib.hid o2
            obtain ⟨g2, rfl, hg2⟩ : ∃ g2, A2 = some ⟨g2, 0, none⟩ ∧ v1.heap.size ≤ g2 := by
              obtain ⟨m, hm⟩ : ∃ m, L = m + 1 := ⟨L - 1, by omega⟩
              subst hm
              obtain ⟨g, hA, hg, -⟩ := OI.some_ HT.out
              exact ⟨g, hA, hg⟩
            replace HOS := oiStep HOS hb2
            have HB2 : Hid (Below w.heap.size w w2) := Lib.hid (HBS.out.trans (hb2.mono HBS.out.size))
            clear o2 hb2 HRD HBS
            go_wp2
            go_loopw [8, 67] (fun _ i wr => ∃ q : Nat, q ≤ L ∧ i = .int .i64 (q : Int) ∧ OI wr w.heap.size (some ⟨g, 0, none⟩) n c1 (rvK O T (k + 1) q) ∧ OI wr v1.heap.size (some ⟨g2, 0, none⟩) L c2 T ∧ Below w.heap.size w wr) (fun _ i _ => L - (intOf i).toNat)
            case atStart => exact ⟨0, Nat.zero_le _, rfl, HOS.out, HT.out, HB2.out⟩
            case round =>
              obtain ⟨q, hq, rfl, ho, ht, hb⟩ := hrel
              have H1 := Lib.hid ho
              have H2 := Lib.hid ht
              have H3 := Lib.hid hb
              by_cases hlq : q < L
              · obtain ⟨r, hr⟩ : ∃ r, r = L - 1 - q := ⟨_, rfl⟩
                have hcr := ht.cells r (by omega)
                obtain ⟨s, hs⟩ : ∃ s, s = k + 1 + q := ⟨_, rfl⟩
                have ff := ho.2.frozenAt s
                have hcs := ho.cells s (by omega)
                obtain ⟨u, hu⟩ : ∃ u, u = gi T r := ⟨_, rfl⟩
                rw [← hu] at hcr
                have HU : Hid (rvK O T (k + 1) (q + 1) = (rvK O T (k + 1) q).set s u) := Lib.hid (by simp only [rvK]; rw [hTl, ← hr, ← hu, ← hs])
                have y1 : IntKind.i64.wrap ((k : Int) + 1) = (k : Int) + 1 := IntWalk.i64_in _ (by omega)
                have y2 : IntKind.i64.wrap ((k : Int) + 1 + (q : Int)) = (s : Int) := by rw [show (k : Int) + 1 + (q : Int) = (s : Int) by omega]; exact IntWalk.i64_in _ (by omega)
                have y3 : IntKind.i64.wrap ((L : Int) - 1) = (L : Int) - 1 := IntWalk.i64_in _ (by omega)
                have y4 : IntKind.i64.wrap ((L : Int) - 1 - (q : Int)) = (r : Int) := by rw [show (L : Int) - 1 - (q : Int) = (r : Int) by omega]; exact IntWalk.i64_in _ (by omega)
                have y5 : (0 : Int) ≤ (r : Int) := by omega
                have y6 : (r : Int) < (L : Int) := by omega
                have y7 : (0 : Int) ≤ (s : Int) := by omega
                have y8 : (s : Int) < (n : Int) := by omega
                have HSN : Hid (s < n) := Lib.hid (by omega)
                clear ho ht hb hu hr hs
                go_wp2
                clear y1 y2 y3 y4 y5 y6 y7 y8 hcs ff hcr
                go_roundw
                case rel => exact ⟨q + 1, by omega, by go_num, by rw [HU.out]; exact H1.out.stored s u, H2.out.setBelow hgv _, H3.out.setCell hg _⟩
                case measure => simp [intOf]; omega
              · obtain rfl : q = L := by omega
                clear ho ht hb
                go_wp2
                go_ret2
                refine HP.out _ _ ?_
                rw [HE.out]
                refine ⟨_, c1, rfl, ?_, H3.out⟩
                unfold nxL
                rw [HOO.out, ← HTT.out, hl, ← HLL.out]
                exact H1.out
end Go.Proofs.Ytamkkmjldkhicaa

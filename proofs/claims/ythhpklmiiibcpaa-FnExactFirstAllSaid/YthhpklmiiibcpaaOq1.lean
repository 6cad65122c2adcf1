/- The model counts, order by order, in how many ladders each is the result. -/
import Derived.Test.YthhpklmiiibcpaaOr1
import Derived.Test.YthhpklmiiibcpaaCo4
import Derived.Test.YthhpklmiiibcpaaMgM
import Derived.Test.YthhpklmiiibcpaaRg1
import Derived.Test.YthhpklmiiibcpaaCe2
import Derived.Test.YthhpklmiiibcpaaBase3
namespace Go.Proofs.Ythhpklmiiibcpaa
open Go Go.RowKit

/-- in how many ladders each order is the result, by ranks -/
def chO (n k : Nat) : List Int := (List.range (ordsK n n).length).map fun (i : Nat) => ((resN n k (gz (ordsK n n) i) : Nat) : Int)
theorem chO_length (n k : Nat) : (chO n k).length = (ordsK n n).length := by simp [chO]
theorem gi_chO {n k i : Nat} (h : i < (ordsK n n).length) : gi (chO n k) i = ((resN n k (gz (ordsK n n) i) : Nat) : Int) := by
  rw [gi_lt (by rw [chO_length]; exact h)]; simp [chO]
theorem RepG.orders {n j : Nat} {Z : List Int} (h2 : 2 ≤ n) (h5 : n ≤ 5) (h : RepG (ovR n) (ordsK n n).length (n - 1) j 0 Z) : Z = chO n j := by
  refine gi_ext (by rw [h.len, chO_length]) fun v hv => ?_
  have hv' : v < (ordsK n n).length := by rw [← h.len]; exact hv
  have h1 := dot_ind hv
  rw [h.wgt] at h1
  have e : ups (ovR n) (n - 1) j (ind (v : Int)) 0 = resN n j (gz (ordsK n n) v) := by
    unfold resN
    rw [← by_ranks h2 h5 (single1 (gz (ordsK n n) v)) j]
    refine ups_on (S := InR n) (fun b r hb hr => (hb.over h2 h5 (by omega)).1) (fun x hx => ?_) j 0 ⟨by omega, ordsK_pos (Nat.le_refl _)⟩
    unfold ind single1
    by_cases e : x = (v : Int)
    · rw [if_pos e, if_pos (by rw [e, Int.toNat_natCast])]
    · rw [if_neg e, if_neg]
      intro e2
      have h3 := rk_gz h2 h5 hx.2
      have h4 := rk_gz h2 h5 hv'
      rw [e2, h4] at h3
      have := hx.1
      omega
  rw [e] at h1
  have h2 := h.pos v hv'
  rw [gi_chO hv', h1]
  omega
/-- a place with nothing on it -/
theorem MakG.skip {ov : Int → Int → Int} {N m i : Nat} {Z Y : List Int} (h : MakG ov N m Z i 0 Y) (h0 : gi Z i = 0) : MakG ov N m Z (i + 1) 0 Y :=
  ⟨h.len, h.pos, fun f => by rw [h.wgt f, up_zero, up_zero, List.range_succ, List.map_append, List.sum_append]; simp [h0]⟩

theorem rowZeros' (w : World) (n B : Nat) (hB : B ≤ w.heap.size) (hn : n ≤ 1000000) : OI (w.alloc (.cells (madeCells #[.int .i64 0] n) 3)) B (some ⟨w.heap.size, 0, none⟩) n n (List.replicate n 0) :=
  OI.of_rowIs hB (World.rowIs_made w (.int .i64 0) n 3) (by unfold maxLen; omega) (by simp) (fun j hj => by rw [zeros_gi])

set_option maxRecDepth 100000 in
set_option maxHeartbeats 4000000 in
theorem chOrders_any (n K : Nat) (w : World) (hn2 : 2 ≤ n) (hn5 : n ≤ 5) (hK : K ≤ 20) :
    Calls Try.prog 28 #[.int .i64 (n : Int), .int .i64 (K : Int)] w (FreshIS w (ordsK n n).length (chO n K)) := by
  have HAO := Lib.hid (alOrders_any n w (by omega) (by omega))
  have hlen := ords_len hn2 hn5
  have HRK : Hid (∀ i r : Nat, i < (ordsK n n).length → r + 1 < n → rk (exch (gz (ordsK n n) i) r) < (ordsK n n).length) := Lib.hid fun i r hi hr => by
    have := (gz_rk hn2 hn5 ((gz_ok (n := n) (by omega) (by omega) hi).exch hr)).1
    exact this
  have HOK : Hid (∀ i, i < (ordsK n n).length → (gz (ordsK n n) i).length = n) := Lib.hid fun i hi => ordsK_row hi
  have HFIN : Hid (∀ Z, RepG (ovR n) (ordsK n n).length (n - 1) K 0 Z → Z = chO n K) := Lib.hid fun Z h => h.orders hn2 hn5
  have HOV : Hid (∀ i r : Nat, ovR n (i : Int) (r : Int) = ((rk (exch (gz (ordsK n n) i) r) : Nat) : Int)) := Lib.hid fun i r => by unfold ovR; rw [Int.toNat_natCast, Int.toNat_natCast]
  have hpos := ordsK_pos (n := n) (k := n) (Nat.le_refl _)
  obtain ⟨L, hL⟩ : ∃ L, L = ordsK n n := ⟨_, rfl⟩
  rw [← hL] at HAO hlen HRK HOK HFIN HOV hpos ⊢
  obtain ⟨N, hN⟩ : ∃ N, N = L.length := ⟨_, rfl⟩
  rw [← hN] at hlen HRK HOK HFIN hpos ⊢
  have hN120 : N ≤ 120 := by omega
  have HNL := Lib.hid hN
  have hmk := run_make_row' (P := Try.prog) 22 3 (.int .i64 0) 8 Try.underlying22 infoInt rfl .i64 .i64 N (by omega) (by omega)
  have hm5 : n - 1 ≤ 5 := by omega
  clear hlen hL hN
  go_enter Try.func28, Try.ntmps28
  go_wp2_with fail
  refine HAO.out.mono ?_
  rintro e w1 ⟨A3, c3, M3, S3, rfl, o3, hb3⟩
  rw [← HNL.out] at o3 ⊢
  have HOO := Lib.hid o3
  have HB1 := Lib.hid hb3
  have HM3 := Lib.hid o3.le
  have hz := rowZeros' w1 N w1.heap.size (Nat.le_refl _) (by omega)
  have HZ0 := Lib.hid hz
  have c0 := hz.cells 0 hpos
  have f0 : (w1.alloc (.cells (madeCells #[.int .i64 0] N) 3)).frozen? ⟨w1.heap.size, 0, none⟩ = false := hz.2.frozenAt 0
  clear o3 hb3 HAO hz
  go_wp2
  obtain ⟨w2, hw2⟩ : ∃ w2, w2 = w1.alloc (.cells ((madeCells #[.int .i64 0] N).setIfInBounds 0 (.int .i64 1)) 3) := ⟨_, rfl⟩
  have hst := HZ0.out.stored 0 1
  rw [World.setCell_alloc_at _ _ _ _ _ rfl, ← hw2] at hst
  have HO2 : Hid (OII w2 w.heap.size M3 A3 N c3 L S3) := Lib.hid (by rw [hw2]; exact HOO.out.alloc _)
  have HB2 : Hid (Below w1.heap.size w1 w2) := Lib.hid (by rw [hw2]; exact (Below.refl _ w1).alloc (Nat.le_refl _) _)
  obtain ⟨K1, hK1⟩ : ∃ K1, K1 = w1.heap.size := ⟨_, rfl⟩
  rw [← hK1] at HM3 hst HB2
  have HKW := Lib.hid hK1
  have HST := Lib.hid hst
  have hK1lt : M3 ≤ K1 := HM3.out
  rw [← hw2, ← hK1]
  clear hw2 hst hK1 c0 f0 HZ0 HOO
  go_loopw [1, 6] (fun s1 s6 wr => ∃ (i j g : Nat) (Z : List Int), i + j = K ∧ s1 = .int .i64 (i : Int) ∧ s6 = .slice (some ⟨g, 0, none⟩) N N ∧ RepG (ovR n) N (n - 1) j 0 Z ∧ OI wr K1 (some ⟨g, 0, none⟩) N N Z ∧ OII wr w.heap.size M3 A3 N c3 L S3 ∧ Below K1 w1 wr) (fun s1 _ _ => (intOf s1).toNat)
  case atStart => exact ⟨K, 0, K1, _, rfl, rfl, rfl, RepG.start (ovR n) (n - 1) hpos, HST.out, HO2.out, HB2.out⟩
  case round =>
    obtain ⟨i, j, g, Z, hij, rfl, rfl, hrep, ho, hoo, hb⟩ := hrel
    have HREP := Lib.hid hrep
    have HO := Lib.hid ho
    have HOO := Lib.hid hoo
    have HB := Lib.hid hb
    clear hrep ho hoo hb HST HO2 HB2
    by_cases hlt : (0 : Int) < (i : Int)
    · have hgw := (HO.out.blk g rfl)
      have h1 := rowZeros' wr N K1 (by omega) (by omega)
      obtain ⟨w3, hw3⟩ : ∃ w3, w3 = wr.alloc (.cells (madeCells #[.int .i64 0] N) 3) := ⟨_, rfl⟩
      obtain ⟨b, hb⟩ : ∃ b, b = wr.heap.size := ⟨_, rfl⟩
      rw [← hb] at hgw
      have HW1 : Hid (OI w3 K1 (some ⟨b, 0, none⟩) N N (List.replicate N 0)) := by show OI _ _ _ _ _ _; rw [hw3, hb]; exact h1
      have HO1 : Hid (OI w3 K1 (some ⟨g, 0, none⟩) N N Z) := by show OI _ _ _ _ _ _; rw [hw3]; exact HO.out.alloc _
      have HOO1 : Hid (OII w3 w.heap.size M3 A3 N c3 L S3) := by show OII _ _ _ _ _ _ _ _; rw [hw3]; exact HOO.out.alloc _
      have HB1 : Hid (Below K1 w1 w3) := by show Below _ _ _; rw [hw3]; exact HB.out.alloc (by omega) _
      have hgb : g ≠ b := by omega
      have hbg : b ≠ g := by omega
      have HKB : Hid (K1 ≤ b) := by show _ ≤ _; omega
      clear h1
      go_wp2
      rw [← hb, ← hw3, show decide (0 < i) = true from decide_eq_true (by omega)]
      clear hw3 hb HO HOO HB
      go_loopw [27] (fun s27 wi => ∃ (x : Nat) (Y : List Int), x ≤ N ∧ s27 = .int .i64 (x : Int) ∧ MakG (ovR n) N (n - 1) Z x 0 Y ∧ OI wi K1 (some ⟨b, 0, none⟩) N N Y ∧ OI wi K1 (some ⟨g, 0, none⟩) N N Z ∧ OII wi w.heap.size M3 A3 N c3 L S3 ∧ Below K1 w1 wi) (fun s27 _ => N - (intOf s27).toNat)
      case atStart => exact ⟨0, _, Nat.zero_le _, rfl, MakG.start _ _ _ Z, HW1.out, HO1.out, HOO1.out, HB1.out⟩
      case round =>
        obtain ⟨x, Y, hx, rfl, hmak, hoy, hoz, hoo, hbi⟩ := hrel
        have HMAK := Lib.hid hmak
        have HOY := Lib.hid hoy
        have HOZ := Lib.hid hoz
        have HOO := Lib.hid hoo
        have HBI := Lib.hid hbi
        clear hmak hoy hoz hoo hbi HW1 HO1 HOO1 HB1
        by_cases hltx : (x : Int) < (N : Int)
        · have ck := HOZ.out.cells x (by omega)
          obtain ⟨c, hc⟩ : ∃ c : Nat, gi Z x = (c : Int) := ⟨(gi Z x).toNat, by have := HREP.out.pos x (by omega); omega⟩
          rw [hc] at ck
          have HC := Lib.hid hc
          by_cases hc0 : c = 0
          · subst hc0
            have HSK := Lib.hid (HMAK.out.skip (by rw [hc]; rfl))
            clear hc
            go_wp2
            go_roundw
            case rel => exact ⟨x + 1, Y, by omega, by go_num, HSK.out, HOY.out, HOZ.out, HOO.out, HBI.out⟩
            case measure => simp [intOf]; omega
          · have hcn : ((c : Int) == 0) = false := by rw [beq_eq_false_iff_ne]; omega
            clear hc
            go_wp2
            go_loopw [10] (fun s10 wi => ∃ (r : Nat) (Y : List Int), r + 1 ≤ n ∧ s10 = .int .i64 (r : Int) ∧ MakG (ovR n) N (n - 1) Z x r Y ∧ OI wi K1 (some ⟨b, 0, none⟩) N N Y ∧ OI wi K1 (some ⟨g, 0, none⟩) N N Z ∧ OII wi w.heap.size M3 A3 N c3 L S3 ∧ Below K1 w1 wi) (fun s10 _ => n - (intOf s10).toNat)
            case atStart => exact ⟨0, Y, by omega, rfl, HMAK.out, HOY.out, HOZ.out, HOO.out, HBI.out⟩
            case round =>
              obtain ⟨r, V, hr, rfl, hmak, hoy, hoz, hoo, hbi⟩ := hrel
              have HMV := Lib.hid hmak
              have HOV2 := Lib.hid hoy
              have HOW := Lib.hid hoz
              have HO3 := Lib.hid hoo
              have HBJ := Lib.hid hbi
              by_cases hltr : (r : Int) < (n : Int) - 1
              · have hr1 : r + 1 < n := by omega
                obtain ⟨ga, a1, a2, a3, rfl, hga, _, hS, hcl, hoi⟩ := hoo.row (show x < N by omega)
                have hl2 : a2 = n := by have h1 := hoi.1; rw [HOK.out x (by omega)] at h1; exact h1.symm
                subst hl2
                have HOI := Lib.hid hoi
                have hac := hoi.le
                have hrk := HRK.out x r (by omega) hr1
                have hov := HOV.out x r
                have HSW := Lib.hid (fun (w' : World) (h : RI w' a1 a2 (gz L x)) => alSwap_any a1 a2 a3 (gz L x) r w' h (by omega) hr1)
                have HRA := Lib.hid (fun (A : Option Addr) (d : Nat) (w' : World) (h : RI w' A a2 (exch (gz L x) r)) (hd : a2 ≤ d) => alRank_any A a2 d _ w' h (by omega) hd)
                obtain ⟨q, hq⟩ : ∃ q, q = exch (gz L x) r := ⟨_, rfl⟩
                rw [← hq] at hrk hov HSW HRA
                obtain ⟨v, hv⟩ : ∃ v, v = rk q := ⟨_, rfl⟩
                rw [← hv] at hrk hov HRA
                have hsm := MakG.small HREP.out HMV.out (show x < N by omega) (by omega) hm5 (show j < 20 by omega) hrk
                have HMK := Lib.hid (HMV.out.step hrk hov HC.out)
                have hsm2 := MakG.small HREP.out HMK.out (show x < N by omega) (by omega) hm5 (show j < 20 by omega) hrk
                rw [gi_set _ _ _ _ (by rw [HMV.out.len]; exact hrk), if_pos rfl] at hsm2
                obtain ⟨y, hy⟩ : ∃ y, y = gi V v := ⟨_, rfl⟩
                rw [← hy] at hsm hsm2 HMK
                have HY := Lib.hid hy
                have hv0 : (0 : Int) ≤ (v : Int) := by omega
                have hvi : (v : Int) < (N : Int) := by omega
                have hx0 : (0 : Int) ≤ (x : Int) := by omega
                have hxi : (x : Int) < (N : Int) := by omega
                clear hmak hoy hoz hoo hbi hS hoi hov hq hv hy ck
                go_wp2_with fail
                refine (HSW.out _ HOI.out.ri).mono ?_
                rintro e5 w5 ⟨A5, c5, rfl, o5, hb5⟩
                have h5 := o5.le
                have HOV5 := Lib.hid (HOV2.out.below hb5)
                have HOW5 := Lib.hid (HOW.out.below hb5)
                have HO5 := Lib.hid (HO3.out.below hb5)
                have HB5 : Hid (Below K1 w1 w5) := Lib.hid (HBJ.out.trans (hb5.mono (by have := (HOV2.out.blk b rfl).1; have := (HOV2.out.blk b rfl).2; omega)))
                have HR5 := Lib.hid o5.ri
                clear o5 hb5
                go_wp2_with fail
                refine (HRA.out A5 c5 _ HR5.out h5).mono ?_
                rintro e6 w6 ⟨rfl, rfl⟩
                have cv := HOV5.out.cells v hrk
                have fv : w6.frozen? ⟨b, v, none⟩ = false := HOV5.out.2.frozenAt v
                rw [← HY.out] at cv
                go_wp2
                go_roundw
                case rel =>
                  refine ⟨r + 1, V.set v (y + (c : Int)), by omega, by go_num, HMK.out, HOV5.out.stored v _, ?_, ?_, HB5.out.setCell HKB.out _⟩
                  · exact HOW5.out.kept (row := some b) (grown_setCell (g := b) (grown_refl w6 _) (.inl rfl) _) (fun k hk e => by
                      have h1 : g = k := by simpa [blk] using hk
                      have h3 := Option.some.inj e
                      omega)
                  · exact HO5.out.keptR HOV5.out hK1lt (grown_setCell (g := b) (grown_refl w6 _) (.inl rfl) _)
                case measure => simp [intOf]; omega
              · obtain rfl : r = n - 1 := by omega
                clear hmak hoy hoz hoo hbi
                go_wp2
                go_roundw
                case rel => exact ⟨x + 1, V, by omega, by go_num, HMV.out.next, HOV2.out, HOW.out, HO3.out, HBJ.out⟩
                case measure => simp [intOf]; omega
        · obtain rfl : x = N := by omega
          go_wp2
          go_roundw
          case rel => exact ⟨i - 1, j + 1, b, Y, by omega, by go_num, rfl, MakG.done HREP.out HMAK.out, HOY.out, HOO.out, HBI.out⟩
          case measure => simp [intOf]; omega
    · obtain rfl : i = 0 := by omega
      have hj : j = K := by omega
      have HJ := Lib.hid hj
      clear hj
      go_wp2
      go_ret
      refine ⟨g, rfl, ?_, HB1.out.trans ((HKW.out ▸ HB.out).mono HB1.out.size)⟩
      rw [← HFIN.out Z (HJ.out ▸ HREP.out)]
      exact HO.out.mono (by rw [HKW.out]; exact HB1.out.size)
end Go.Proofs.Ythhpklmiiibcpaa

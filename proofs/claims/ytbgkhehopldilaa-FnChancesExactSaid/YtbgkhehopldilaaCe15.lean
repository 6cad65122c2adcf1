/- ChancesFrom, of the program and of its model. -/
import Derived.Test.YtbgkhehopldilaaRq1
import Derived.Test.YtbgkhehopldilaaCe11
namespace Go.Proofs.Ytbgkhehopldilaa
open Go Go.RowKit

/-- the chances of the first j ends, two numbers each -/
def chF (N K : Nat) (s : Int) (j : Nat) : List Int := (List.range j).flatMap fun (v : Nat) => [rtA (gi (endsC N K s) v).toNat (N : Int) (K : Int), rtB (gi (endsC N K s) v).toNat (N : Int) (K : Int)]
theorem chF_succ (N K : Nat) (s : Int) (j : Nat) : chF N K s (j + 1) = chF N K s j ++ [rtA (gi (endsC N K s) j).toNat (N : Int) (K : Int), rtB (gi (endsC N K s) j).toNat (N : Int) (K : Int)] := by
  unfold chF; rw [List.range_succ, List.flatMap_append]; simp
theorem chF_length (N K : Nat) (s : Int) : ∀ (j : Nat), (chF N K s j).length = j * 2
  | 0 => rfl
  | j + 1 => by rw [chF_succ, List.length_append, chF_length N K s j]; simp; omega
def cfQ (n k s : Int) : Bool := fallB n k && inB s 0 (n - 1)
def cfF (n k s : Int) : List Int := if cfQ n k s = true then chF n.toNat k.toNat s n.toNat else []
def cfM (n k s : Int) : Nat := if cfQ n k s = true then n.toNat else 0
theorem cfQ_ff (n k s : Int) : ffB n k [s] = cfQ n k s := by
  unfold ffB cfQ
  simp only [List.all_cons, List.all_nil, Bool.and_true]
  rw [Bool.and_comm]
theorem cfQ_1 {n k s : Int} (h : fallB n k = false) : cfQ n k s = false := by unfold cfQ; rw [h]; rfl
theorem cfQ_2 {n k s : Int} (h : inB s 0 (n - 1) = false) : cfQ n k s = false := by unfold cfQ; rw [h]; simp
theorem cfQ_3 {n k s : Int} (h : fallB n k = true) (h2 : inB s 0 (n - 1) = true) : cfQ n k s = true := by unfold cfQ; rw [h, h2]; rfl
theorem cfF_no {n k s : Int} (h : cfQ n k s = false) : cfF n k s = [] := by unfold cfF; rw [h]; rfl
theorem cfM_no {n k s : Int} (h : cfQ n k s = false) : cfM n k s = 0 := by unfold cfM; rw [h]; rfl
theorem cfF_yes {n k s : Int} (h : cfQ n k s = true) : cfF n k s = chF n.toNat k.toNat s n.toNat := by unfold cfF; rw [if_pos h]
theorem cfM_yes {n k s : Int} (h : cfQ n k s = true) : cfM n k s = n.toNat := by unfold cfM; rw [if_pos h]
theorem cfM_le (n k s : Int) : cfM n k s ≤ 6 := by
  unfold cfM
  split
  · rename_i h
    unfold cfQ at h
    rw [Bool.and_eq_true, fallB_iff] at h
    omega
  · omega
theorem cfQ_nat {n k s : Int} (h : cfQ n k s = true) : fallB n k = true ∧ ∃ N K S : Nat, n = (N : Int) ∧ k = (K : Int) ∧ s = (S : Int) ∧ 2 ≤ N ∧ N ≤ 6 ∧ K ≤ 20 ∧ S < N := by
  unfold cfQ at h
  rw [Bool.and_eq_true] at h
  refine ⟨h.1, ?_⟩
  rw [fallB_iff, inB_iff] at h
  exact ⟨n.toNat, k.toNat, s.toNat, by omega, by omega, by omega, by omega, by omega, by omega, by omega⟩
/-- a new slice of ratios, and a bool -/
def FreshQB (w : World) (m : Nat) (F : List Int) (q : Bool) (e : Ending) (w' : World) : Prop :=
  ∃ A c, e = .returned (.tuple #[.slice A m c, .bool q]) ∧ OQ w' w.heap.size A m c F ∧ Below w.heap.size w w'

set_option maxRecDepth 100000 in
set_option maxHeartbeats 2000000 in
theorem sChancesFrom_any (n k s : Int) (w : World) (_lo : -9223372036854775808 ≤ n) (_hi : n ≤ 9223372036854775807) :
    Calls Try.prog 7 #[.int .i64 n, .int .i64 k, .int .i64 s] w (FreshQB w (cfM n k s) (cfF n k s) (cfQ n k s)) := by
  rcases h1 : fallB n k with _ | _
  · have E1 := Lib.hid h1
    rw [cfF_no (cfQ_1 h1), cfM_no (cfQ_1 h1), cfQ_1 h1]
    clear h1
    go_enter Try.func7, Try.ntmps7
    go_wp2_with (go_at_call 23; refine (chGood_any _ _ _).mono ?_; rw [E1.out]; rintro e w' ⟨rfl, rfl⟩)
    go_ret2
    exact ⟨none, 0, rfl, OQ.none_ _ _, Below.refl _ _⟩
  have hb := fallB_iff.1 h1
  rcases h2 : inB s 0 (n - 1) with _ | _
  · have E1 := Lib.hid h1
    have E2 := Lib.hid h2
    rw [cfF_no (cfQ_2 h2), cfM_no (cfQ_2 h2), cfQ_2 h2]
    clear h1 h2
    go_enter Try.func7, Try.ntmps7
    go_wp2_with (first | (go_at_call 23; refine (chGood_any _ _ _).mono ?_; rw [E1.out]; rintro e w' ⟨rfl, rfl⟩) | (go_at_call 24; refine (l1In_any _ _ _ _).mono ?_; rw [E2.out]; rintro e w' ⟨rfl, rfl⟩))
    go_ret2
    exact ⟨none, 0, rfl, OQ.none_ _ _, Below.refl _ _⟩
  · have hq := cfQ_3 h1 h2
    rw [cfF_yes hq, cfM_yes hq, hq]
    have E1 := Lib.hid h1
    have E2 := Lib.hid h2
    obtain ⟨_, N, K, S, rfl, rfl, rfl, hN2, hN6, hK, hS⟩ := cfQ_nat hq
    have HC := Lib.hid (fun w => chEnds_any N K S w hN2 hN6 hK hS)
    rw [Int.toNat_natCast, Int.toNat_natCast]
    clear h1 h2 hq
    go_enter Try.func7, Try.ntmps7
    go_wp2_with (first | (go_at_call 23; refine (chGood_any _ _ _).mono ?_; rw [E1.out]; rintro e w' ⟨rfl, rfl⟩) | (go_at_call 24; refine (l1In_any _ _ _ _).mono ?_; rw [E2.out]; rintro e w' ⟨rfl, rfl⟩))
    refine (HC.out _).mono ?_
    rintro e w1 ⟨g, rfl, ho, hb1⟩
    have HO := Lib.hid ho
    have HB1 := Lib.hid hb1
    clear ho hb1 HC
    go_wp2
    go_loopw [8, 27] (fun s8 sj wr => ∃ (j : Nat) (A : Option Addr) (c : Nat), j ≤ N ∧ sj = .int .i64 (j : Int) ∧ s8 = .slice A j c ∧ OQ wr w1.heap.size A j c (chF N K (S : Int) j) ∧ Below w1.heap.size w1 wr) (fun _ sj _ => N - (intOf sj).toNat)
    case atStart => exact ⟨0, none, 0, Nat.zero_le _, rfl, rfl, OQ.none_ _ _, Below.refl _ _⟩
    case round =>
      obtain ⟨j, A, c, hj, rfl, rfl, hoq, hbl⟩ := hrel
      have HQ := Lib.hid hoq
      have HBL := Lib.hid hbl
      clear hoq hbl
      by_cases hlt : j < N
      · have ck := (HO.out.below HBL.out).cells j hlt
        have hin := endsC_in (n := N) (k := K) (v := j) (s := (S : Int)) hlt hN6 hK
        have hsucc := chF_succ N K (S : Int) j
        obtain ⟨y, hy⟩ : ∃ y : Nat, gi (endsC N K (S : Int)) j = (y : Int) := ⟨(gi (endsC N K (S : Int)) j).toNat, by omega⟩
        rw [hy] at ck hin hsucc
        rw [Int.toNat_natCast] at hsucc
        have HR := Lib.hid (chRatio_rt y E1.out (by omega))
        obtain ⟨p, hp⟩ : ∃ p, p = rtA y (N : Int) (K : Int) := ⟨_, rfl⟩
        obtain ⟨q, hq⟩ : ∃ q, q = rtB y (N : Int) (K : Int) := ⟨_, rfl⟩
        rw [← hp, ← hq] at HR hsucc
        have HS := Lib.hid hsucc
        clear hy hsucc hp hq
        go_wp2_with (first | (go_at_call 27; refine (chAll_any _ _ _ E1.out).mono ?_; rintro e w' ⟨rfl, rfl⟩))
        refine (HR.out _).mono ?_
        rintro e w2 ⟨rfl, hb2⟩
        have HB2 : Hid (Below w1.heap.size w1 w2) := Lib.hid (HBL.out.trans (hb2.mono HBL.out.size))
        have HQ2 : Hid (OQ w2 w1.heap.size A j c (chF N K (S : Int) j)) := Lib.hid (HQ.out.below hb2)
        clear hb2 HR
        go_wp2_with (first
          | (at_builtin; refine wpList_append_ratio _ rfl _ _ rfl w1.heap.size A j c _ w2.heap.size 1 p q rfl rfl (HQ2.out.alloc _) (cellNew w2 (.int .i64 p) (.int .i64 q) 32).out.c0 (cellNew w2 (.int .i64 p) (.int .i64 q) 32).out.c1 (by omega) (by have := HB2.out.size; simp; omega) ?_; intro A3 c3 w3 ho3 hg3))
        have HQ3 := Lib.hid ho3
        have HB3 : Hid (Below w1.heap.size w1 w3) := Lib.hid ((HB2.out.alloc HB2.out.size _).grown hg3 (by have := HB2.out.size; simp; omega) (fun x hx => (HQ2.out.blk x hx).1))
        clear ho3 hg3
        go_wp2
        go_roundw
        case rel => exact ⟨j + 1, A3, c3, by omega, by go_num, rfl, HS.out ▸ HQ3.out, HB3.out⟩
        case measure => simp [intOf]; omega
      · obtain rfl : j = N := by omega
        go_wp2
        go_ret2
        exact ⟨A, c, rfl, HQ.out.mono HB1.out.size, HB1.out.trans (HBL.out.mono HB1.out.size)⟩

/-- the row while it is filled -/
def chZ (N K : Nat) (s : Int) (j : Nat) : List Int := chF N K s j ++ List.replicate ((N - j) * 2) 0
theorem chZ_zero (N K : Nat) (s : Int) : chZ N K s 0 = List.replicate (N * 2) 0 := rfl
theorem chZ_all (N K : Nat) (s : Int) : chZ N K s N = chF N K s N := by unfold chZ; simp
theorem chZ_step {N K j : Nat} {s : Int} (h : j < N) : ((chZ N K s j).set (j * 2) (rtA (gi (endsC N K s) j).toNat (N : Int) (K : Int))).set (j * 2 + 1) (rtB (gi (endsC N K s) j).toNat (N : Int) (K : Int)) = chZ N K s (j + 1) := by
  unfold chZ
  obtain ⟨d, hd⟩ : ∃ d, N - j = d + 1 := ⟨N - j - 1, by omega⟩
  rw [chF_succ, hd, show N - (j + 1) = d by omega]
  obtain ⟨L, hL⟩ : ∃ L, L = chF N K s j := ⟨_, rfl⟩
  have hl : L.length = j * 2 := by rw [hL, chF_length]
  rw [← hL, ← hl]
  rw [show (d + 1) * 2 = d * 2 + 1 + 1 by omega, List.replicate_succ, List.replicate_succ]
  simp [List.set_append]

set_option maxRecDepth 100000 in
set_option maxHeartbeats 2000000 in
theorem iChancesFrom_any (n k s : Int) (w : World) (lo : -9223372036854775808 ≤ n) (hi : n ≤ 9223372036854775807) :
    Calls Try.prog 6 #[.int .i64 n, .int .i64 k, .int .i64 s] w (FreshQB w (cfM n k s) (cfF n k s) (cfQ n k s)) := by
  have HF := Lib.hid (isFallFrom_any n k _ 1 1 [s] _ (RI.single w s) (by omega) lo hi)
  rw [cfQ_ff] at HF
  rcases hq : cfQ n k s with _ | _
  · rw [hq] at HF
    rw [cfF_no hq, cfM_no hq]
    clear hq
    go_enter Try.func6, Try.ntmps6
    go_wp2_with fail
    refine HF.out.mono ?_
    rintro e1 w1 ⟨rfl, hb⟩
    have HB : Hid (Below w.heap.size w w1) := Lib.hid (((Below.refl _ _).alloc (Nat.le_refl _) _).trans (hb.mono (by simp)))
    clear hb HF
    go_wp2
    go_ret2
    exact ⟨none, 0, rfl, OQ.none_ _ _, HB.out⟩
  · rw [hq] at HF
    rw [cfF_yes hq, cfM_yes hq]
    obtain ⟨hf, N, K, S, rfl, rfl, rfl, hN2, hN6, hK, hS⟩ := cfQ_nat hq
    have E1 := Lib.hid hf
    obtain ⟨i0, hi0, hz0, hz1, hz2⟩ := info_parts' infoRat
    have HC := Lib.hid (fun w => countsOfEnds_at N K S w hN2 hN6 hK hS)
    rw [Int.toNat_natCast, Int.toNat_natCast]
    clear hq hf
    go_enter Try.func6, Try.ntmps6
    go_wp2_with fail
    refine HF.out.mono ?_
    rintro e1 w1 ⟨rfl, hb⟩
    have HB : Hid (Below w.heap.size w w1) := Lib.hid (((Below.refl _ _).alloc (Nat.le_refl _) _).trans (hb.mono (by simp)))
    clear hb HF
    go_wp2_with (first
      | (refine wpList_make_full _ rfl _ _ 26 rfl w1.heap.size 32 i0 (.agg #[.int .i64 0, .int .i64 0]) 2 Try.underlying26 hi0 hz0 hz1 .i64 .i64 _ _ N rfl rfl rfl rfl (by rw [hz2]; omega) (by unfold maxLen; omega) (Nat.le_refl _) ?_; intro w2 hown2 hg2; rw [made_rat] at hown2))
    have HO2 : Hid (OQ w2 w1.heap.size (some ⟨w1.heap.size, 0, none⟩) N N (List.replicate (N * 2) 0)) := Lib.hid ⟨by simp, hown2⟩
    have HB2 : Hid (Below w.heap.size w w2) := Lib.hid (HB.out.grown hg2 HB.out.size (fun b hb => by cases hb))
    have HG2 : Hid (w1.heap.size < w2.heap.size) := Lib.hid (hown2.lt _ rfl).2
    have HZ1 := Lib.hid HB.out.size
    clear hown2 hg2
    obtain ⟨g, hg⟩ : ∃ g, g = w1.heap.size := ⟨_, rfl⟩
    rw [← hg] at HO2 HG2 HZ1 ⊢
    clear hg HB
    go_wp2_with fail
    refine (HC.out _).mono ?_
    rintro e2 w3 ⟨gc, rfl, hgc, hr, hb3⟩
    have HRI := Lib.hid hr
    have HGC : Hid (g < gc) := Lib.hid (Nat.lt_of_lt_of_le HG2.out hgc)
    have HO3 : Hid (OQ w3 g (some ⟨g, 0, none⟩) N N (chZ N K (S : Int) 0)) := Lib.hid (by rw [chZ_zero]; exact HO2.out.below hb3)
    have HB3 : Hid (Below w.heap.size w w3) := Lib.hid (HB2.out.trans (hb3.mono HB2.out.size))
    clear hr hb3 hgc HC HO2 HB2 HG2
    go_wp2
    go_loopw [24] (fun sj wr => ∃ (j : Nat), j ≤ N ∧ sj = .int .i64 (j : Int) ∧ OQ wr g (some ⟨g, 0, none⟩) N N (chZ N K (S : Int) j) ∧ RI wr (some ⟨gc, 0, none⟩) N (endsC N K (S : Int)) ∧ Below w.heap.size w wr) (fun sj _ => N - (intOf sj).toNat)
    case atStart => exact ⟨0, Nat.zero_le _, rfl, HO3.out, HRI.out, HB3.out⟩
    case round =>
      obtain ⟨j, hj, rfl, hoq, hri, hbl⟩ := hrel
      have HQ := Lib.hid hoq
      have HR1 := Lib.hid hri
      have HBL := Lib.hid hbl
      by_cases hlt : j < N
      · obtain ⟨b, off, hgo, hblt, hcell⟩ := hri.cell hlt
        injection hgo with hgo
        injection hgo with h1 h2 _
        subst h1 h2
        have ck := hcell j hlt
        rw [Nat.zero_add] at ck
        have hin := endsC_in (n := N) (k := K) (v := j) (s := (S : Int)) hlt hN6 hK
        have hstep := chZ_step (N := N) (K := K) (s := (S : Int)) hlt
        obtain ⟨y, hy⟩ : ∃ y : Nat, gi (endsC N K (S : Int)) j = (y : Int) := ⟨(gi (endsC N K (S : Int)) j).toNat, by omega⟩
        rw [hy] at ck hin hstep
        rw [Int.toNat_natCast] at hstep
        have HR := Lib.hid (meanOf_rt y E1.out (by omega))
        obtain ⟨p, hp⟩ : ∃ p, p = rtA y (N : Int) (K : Int) := ⟨_, rfl⟩
        obtain ⟨q, hq⟩ : ∃ q, q = rtB y (N : Int) (K : Int) := ⟨_, rfl⟩
        rw [← hp, ← hq] at HR hstep
        have HST := Lib.hid hstep
        clear hoq hri hbl hcell hblt hy hstep hp hq
        go_wp2_with fail
        refine (HR.out _).mono ?_
        rintro e w4 ⟨rfl, hb4⟩
        have HQ4 : Hid (OQ w4 g (some ⟨g, 0, none⟩) N N (chZ N K (S : Int) j)) := Lib.hid (HQ.out.below hb4)
        have HR4 : Hid (RI w4 (some ⟨gc, 0, none⟩) N (endsC N K (S : Int))) := Lib.hid (HR1.out.below hb4 (Nat.le_refl _))
        have HB4 : Hid (Below w.heap.size w w4) := Lib.hid (HBL.out.trans (hb4.mono HBL.out.size))
        have c0 := HQ4.out.cells (j := j * 2) (by omega)
        have c1 := HQ4.out.cells (j := j * 2 + 1) (by omega)
        have f0 : w4.frozen? ⟨g, j * 2, none⟩ = false := HQ4.out.2.frozenAt _
        have f1 : w4.frozen? ⟨g, j * 2 + 1, none⟩ = false := HQ4.out.2.frozenAt _
        have HQ5 := Lib.hid ((HQ4.out.stored (j * 2) p).stored (j * 2 + 1) q)
        rw [HST.out] at HQ5
        have HGS : Hid (∀ b, blk (some ⟨gc, 0, none⟩) = some b → some g ≠ some b) := Lib.hid (fun b hb e => by
          have h1 : gc = b := by simpa [blk] using hb
          have h2 := Option.some.inj e
          have h3 := HGC.out
          omega)
        have i1 : (0 : Int) ≤ (j : Int) := by omega
        have i2 : (j : Int) < (N : Int) := by omega
        clear hb4 HR ck
        go_wp2
        go_roundw
        case rel => exact ⟨j + 1, by omega, by go_num, HQ5.out, HR4.out.kept (grown_setCell (g := g) (p := ⟨g, j * 2 + 1, none⟩) (grown_setCell (g := g) (p := ⟨g, j * 2, none⟩) (grown_refl w4 _) (.inl rfl) _) (.inl rfl) _) HGS.out, (HB4.out.setCell HZ1.out _).setCell HZ1.out _⟩
        case measure => simp [intOf]; omega
      · obtain rfl : j = N := by omega
        rw [chZ_all] at hoq
        have HQF := Lib.hid hoq
        clear hoq hri hbl
        go_wp2
        go_ret2
        exact ⟨_, j, rfl, HQF.out.mono HZ1.out, HBL.out⟩
end Go.Proofs.Ytbgkhehopldilaa

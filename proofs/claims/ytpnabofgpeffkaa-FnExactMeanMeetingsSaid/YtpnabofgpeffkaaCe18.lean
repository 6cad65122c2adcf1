/- MeanMeetings, of the program. -/
import Derived.Test.YtpnabofgpeffkaaCe17
import Derived.Test.YtpnabofgpeffkaaCe12
namespace Go.Proofs.Ytpnabofgpeffkaa
open Go Go.RowKit Go.Maps

def mmQ (n k a b : Int) : Bool := ceQ n k a b && !decide (a = b)
def mmT (n k a b : Int) : Nat := mtS (n.toNat - 1) (endsL [a, b]) k.toNat
def mmA (n k a b : Int) : Int := if mmQ n k a b = true then rtA (mmT n k a b) n k else 0
def mmB (n k a b : Int) : Int := if mmQ n k a b = true then rtB (mmT n k a b) n k else 0
theorem mmA_no {n k a b : Int} (h : mmQ n k a b = false) : mmA n k a b = 0 := by unfold mmA; rw [h]; rfl
theorem mmB_no {n k a b : Int} (h : mmQ n k a b = false) : mmB n k a b = 0 := by unfold mmB; rw [h]; rfl
theorem mmA_yes {n k a b : Int} (h : mmQ n k a b = true) : mmA n k a b = rtA (mmT n k a b) n k := by unfold mmA; rw [if_pos h]
theorem mmB_yes {n k a b : Int} (h : mmQ n k a b = true) : mmB n k a b = rtB (mmT n k a b) n k := by unfold mmB; rw [if_pos h]
theorem mmQ_1 {n k a b : Int} (h : ceQ n k a b = false) : mmQ n k a b = false := by unfold mmQ; rw [h]; rfl
theorem mmQ_2 {n k a : Int} : mmQ n k a a = false := by unfold mmQ; simp
theorem mmQ_3 {n k a b : Int} (h : ceQ n k a b = true) (h2 : a ≠ b) : mmQ n k a b = true := by unfold mmQ; rw [h, decide_eq_false h2]; rfl

theorem mul64 {s m p : Nat} {x : Int} (hx : x = (m : Int) + 1) (hp : p = s * m) (hl : p ≤ 4000000000000000000) : IntKind.i64.wrap ((s : Int) * (x - 1)) = (p : Int) := by
  have e : (s : Int) * (x - 1) = (p : Int) := by rw [hx, Int.add_sub_cancel, hp, Int.natCast_mul]
  rw [e]
  exact IntWalk.i64_in _ (by omega)

set_option maxRecDepth 100000 in
set_option maxHeartbeats 4000000 in
theorem iMeanMeetings_any (n k a b : Int) (w : World) (lo : -9223372036854775808 ≤ n) (hi : n ≤ 9223372036854775807) :
    Calls Try.prog 25 #[.int .i64 n, .int .i64 k, .int .i64 a, .int .i64 b] w (RetRB (mmA n k a b) (mmB n k a b) (mmQ n k a b) w) := by
  have HF : Hid (∀ (w : World) (x : Nat), w.heap.size = x → Calls Try.prog 33 #[.int .i64 n, .int .i64 k, .slice (some ⟨x, 0, none⟩) 2 2] (w.alloc (.cells #[.int .i64 a, .int .i64 b] 3)) (RetB (ceQ n k a b) (w.alloc (.cells #[.int .i64 a, .int .i64 b] 3)))) :=
    Lib.hid fun w x hx => by
      have := isFallFrom_any n k _ 2 2 [a, b] _ (RI.two w a b) (by omega) lo hi
      rw [ceQ_ff, hx] at this
      exact this
  have HCN := fun (w : World) => cellNew w (.int .i64 0) (.int .i64 0) 28
  rcases hq : ceQ n k a b with _ | _
  · rw [hq] at HF
    rw [mmA_no (mmQ_1 hq), mmB_no (mmQ_1 hq), mmQ_1 hq]
    clear hq
    go_enter Try.func25, Try.ntmps25
    go_wp2_with fail
    have HB := belAlloc (belAlloc (belRefl (w := w)) (.cells #[.int .i64 0, .int .i64 0] 28)) (.cells #[.int .i64 a, .int .i64 b] 3)
    have HC := cellAlloc (HCN w) (.cells #[.int .i64 a, .int .i64 b] 3)
    refine (HF.out _ _ (by simp)).mono ?_
    rintro e1 w1 ⟨rfl, hb⟩
    replace HC := cellStep HC hb
    replace HB := belStep HB hb
    have k0 := HC.out.c0; have k1 := HC.out.c1; have f0 := HC.out.f0; have f1 := HC.out.f1; have kz := HC.out.lt
    clear hb HF HCN
    go_wp2
    exact bodyPost_ret (v := .tuple #[.agg #[.int .i64 0, .int .i64 0], .bool false]) (by simp [results, Try.results25, go_sem, k0, k1]) rfl ⟨rfl, (by repeat (first | exact Below.refl _ _ | exact HB.out | refine Below.setCell ?_ (by simp <;> omega) _ | refine Below.alloc ?_ (by simp <;> omega) _ | refine below_drewN ?_ _))⟩
  rw [hq] at HF
  by_cases hab : a = b
  · subst hab
    rw [mmA_no mmQ_2, mmB_no mmQ_2, mmQ_2]
    clear hq
    go_enter Try.func25, Try.ntmps25
    go_wp2_with fail
    have HB := belAlloc (belAlloc (belRefl (w := w)) (.cells #[.int .i64 0, .int .i64 0] 28)) (.cells #[.int .i64 a, .int .i64 a] 3)
    have HC := cellAlloc (HCN w) (.cells #[.int .i64 a, .int .i64 a] 3)
    refine (HF.out _ _ (by simp)).mono ?_
    rintro e1 w1 ⟨rfl, hb⟩
    replace HC := cellStep HC hb
    replace HB := belStep HB hb
    have k0 := HC.out.c0; have k1 := HC.out.c1; have f0 := HC.out.f0; have f1 := HC.out.f1; have kz := HC.out.lt
    clear hb HF HCN
    go_wp2
    exact bodyPost_ret (v := .tuple #[.agg #[.int .i64 0, .int .i64 0], .bool false]) (by simp [results, Try.results25, go_sem, k0, k1]) rfl ⟨rfl, (by repeat (first | exact Below.refl _ _ | exact HB.out | refine Below.setCell ?_ (by simp <;> omega) _ | refine Below.alloc ?_ (by simp <;> omega) _ | refine below_drewN ?_ _))⟩
  · have hmq := mmQ_3 hq hab
    rw [mmA_yes hmq, mmB_yes hmq, hmq]
    have hfall := ceQ_fall hq
    obtain ⟨N, K, S, T, rfl, rfl, rfl, rfl, hN2, hN6, hK, hS, hT⟩ := ceQ_nat hq
    have hmm := @run_makeMap Try.prog
    unfold mmT
    rw [Int.toNat_natCast, Int.toNat_natCast]
    have HE : Hid (OKE N (endsL [(S : Int), (T : Int)])) := Lib.hid (OKE.ends (fun x hx => by simp at hx; omega) (by omega))
    have HEN : Hid (∀ (w : World) (x : Nat), w.heap.size = x → Calls Try.prog 41 #[.slice (some ⟨x, 0, none⟩) 2 2] (w.alloc (.cells #[.int .i64 (S : Int), .int .i64 (T : Int)] 3)) (EndsPost (endsL [(S : Int), (T : Int)]) (w.alloc (.cells #[.int .i64 (S : Int), .int .i64 (T : Int)] 3)))) :=
      Lib.hid fun w x hx => by
        have := endsOf_any _ 2 2 [(S : Int), (T : Int)] _ (RI.two w (S : Int) (T : Int)) (by omega)
        rw [hx] at this
        exact this
    obtain ⟨E, hE⟩ : ∃ E, E = endsL [(S : Int), (T : Int)] := ⟨_, rfl⟩
    rw [← hE] at HE HEN ⊢
    have HSM : Hid (∀ j, j ≤ K → mtS (N - 1) E j ≤ 1907348632812500) := Lib.hid fun j hj => mtS_small (by omega) (by omega)
    have HR := Lib.hid (meanOf_rt (mtS (N - 1) E K) hfall (by have := HSM.out K (Nat.le_refl _); omega))
    obtain ⟨q1, hq1⟩ : ∃ q1, q1 = rtA (mtS (N - 1) E K) (N : Int) (K : Int) := ⟨_, rfl⟩
    obtain ⟨q2, hq2⟩ : ∃ q2, q2 = rtB (mtS (N - 1) E K) (N : Int) (K : Int) := ⟨_, rfl⟩
    rw [← hq1, ← hq2] at HR ⊢
    have HNM : Hid ((N : Int) = ((N - 1 : Nat) : Int) + 1) := Lib.hid (by omega)
    clear hq hmq hfall hE hq1 hq2
    go_enter Try.func25, Try.ntmps25
    go_wp2_with fail
    have HB := belAlloc (belAlloc (belRefl (w := w)) (.cells #[.int .i64 0, .int .i64 0] 28)) (.cells #[.int .i64 (S : Int), .int .i64 (T : Int)] 3)
    have HC := cellAlloc (HCN w) (.cells #[.int .i64 (S : Int), .int .i64 (T : Int)] 3)
    refine (HF.out _ _ (by simp)).mono ?_
    rintro e1 w1 ⟨rfl, hb⟩
    replace HC := cellStep HC hb
    replace HB := belStep HB hb
    have HLT := Lib.hid HC.out.lt
    clear hb HF HCN
    go_wp2_with fail
    have HM1 : Hid (OE (w1.alloc (.map #[] 0)) w1.heap.size 0 (.map [])) := Lib.hid (World.ownsMap_made w1 _ _ _)
    refine (HEN.out _ _ (by simp)).mono ?_
    rintro e2 w2 ⟨rfl, hb⟩
    have HM2 : Hid (OE w2 w1.heap.size 0 (.map [])) := Lib.hid ((HM1.out.alloc (.cells #[.int .i64 (S : Int), .int .i64 (T : Int)] 3)).kept (grown_of_below hb none) (by simp))
    replace HC := cellStep (cellAlloc (cellAlloc HC (.map #[] 0)) (.cells #[.int .i64 (S : Int), .int .i64 (T : Int)] 3)) hb
    have HZ1 := Lib.hid (HB.out.size)
    replace HB := belStep (belAlloc (belAlloc HB (.map #[] 0)) (.cells #[.int .i64 (S : Int), .int .i64 (T : Int)] 3)) hb
    clear hb HEN HM1
    go_wp2_with (first
      | (refine wpList_insert_own _ rfl _ _ _ 50 rfl 47 3 keyE Try.underlying50 _ w1.heap.size 0 _ rfl HM2.out (by decide) _ _ _ rfl rfl (key_of HE.out hN6) _ [] (plainElem_int Try.underlying3 (by decide)) ?_; intro w3 ho3 hg3))
    rw [put_one] at ho3
    have HO3 := Lib.hid ho3
    have HG3 : Hid (Gm N (addTo (.map []) (eL E) 1)) := Lib.hid ((Gm.empty N).add HE.out (by omega))
    have HW3 : Hid (∀ f, W f (addTo (.map []) (eL E) 1) = f E) := Lib.hid fun f => by rw [W_add (Gm.empty N) hN6 f HE.out, W_nil]; omega
    replace HC : Hid (Cell2 w3 w.heap.size (.int .i64 0) (.int .i64 0)) := ⟨(hg3.cell_far ⟨w.heap.size, 0, none⟩ HC.out.lt (by have := HLT.out; simp; omega)).trans HC.out.c0, (hg3.cell_far ⟨w.heap.size, 1, none⟩ HC.out.lt (by have := HLT.out; simp; omega)).trans HC.out.c1, (hg3.frozen_far ⟨w.heap.size, 0, none⟩ HC.out.lt (by have := HLT.out; simp; omega)).trans HC.out.f0, (hg3.frozen_far ⟨w.heap.size, 1, none⟩ HC.out.lt (by have := HLT.out; simp; omega)).trans HC.out.f1, Nat.lt_of_lt_of_le HC.out.lt hg3.size⟩
    replace HB : Hid (Below w.heap.size w w3) := Lib.hid (HB.out.grown hg3 HB.out.size (fun j hj => by have := HLT.out; injection hj with hj; omega))
    obtain ⟨D0, hD0⟩ : ∃ D0, D0 = addTo (.map []) (eL E) 1 := ⟨_, rfl⟩
    obtain ⟨b0, hb0⟩ : ∃ b0, b0 = w1.heap.size := ⟨_, rfl⟩
    rw [← hD0] at HO3 HG3 HW3
    rw [← hb0] at HO3 ⊢
    clear ho3 hg3 HM2 hD0 hb0 HZ1 HLT
    go_wp2_with fail
    go_loopw [10, 11, 32] (fun s10 s11 sj wr => ∃ (j s b : Nat) (D : DataW Unit), j ≤ K ∧ sj = .int .i64 (j : Int) ∧ s10 = .int .i64 (s : Int) ∧ s11 = .map (some b) ∧ s = mtS (N - 1) E j ∧ OE wr b (Maps.size D) D ∧ Gm N D ∧ (∀ f, W f D = ups ovE (N - 1) j f E) ∧ Cell2 wr w.heap.size (.int .i64 0) (.int .i64 0) ∧ Below w.heap.size w wr) (fun _ _ sj _ => K - (intOf sj).toNat)
    case atStart => exact ⟨0, 0, b0, D0, Nat.zero_le _, rfl, rfl, rfl, rfl, OE.tight HO3.out, HG3.out, HW3.out, HC.out, HB.out⟩
    case round =>
      obtain ⟨j, s, b, D, hj, rfl, rfl, rfl, hs, ho, hg, hw, hc, hbl⟩ := hrel
      have HS := Lib.hid hs
      have HO := Lib.hid ho
      have HG := Lib.hid hg
      have HW := Lib.hid hw
      replace HC := Lib.hid hc
      replace HB := Lib.hid hbl
      have hsm := HSM.out j hj
      rw [← hs] at hsm
      clear hs ho hg hw hc hbl
      by_cases hlt : (j : Int) < (K : Int)
      · have htot : (N - 1) * W one D ≤ 95367431640625 := by
          rw [HW.out]
          have e1 : ups ovE (N - 1) j one E = (N - 1) ^ j := by
            show ups ovE (N - 1) j (fun _ => 1) E = _
            rw [ups_const]; simp
          rw [e1, show (N - 1) * (N - 1) ^ j = (N - 1) ^ (j + 1) from (Nat.pow_succ' ..).symm]
          exact pow5 (by omega) (by omega)
        have hsn := HSM.out (j + 1) (by omega)
        have hsucc : mtS (N - 1) E (j + 1) = s * (N - 1) + W (mtK (N - 1)) D := by rw [HW.out, HS.out]; rfl
        have HME := Lib.hid (fun (w : World) (h : OE w b (Maps.size D) D) => meetings_any N b _ D w hN2 hN6 h HG.out htot)
        have HLO := Lib.hid (fun (w : World) (h : OE w b (Maps.size D) D) => longer_any N b _ D w hN2 hN6 h HG.out htot)
        obtain ⟨p, hp⟩ : ∃ p, p = s * (N - 1) := ⟨_, rfl⟩
        obtain ⟨y, hy⟩ : ∃ y, y = W (mtK (N - 1)) D := ⟨_, rfl⟩
        rw [← hp, ← hy] at hsucc
        rw [← hy] at HME
        rw [hsucc] at hsn
        have hmul := mul64 HNM.out hp (by omega)
        have hpi : (p : Int) + (y : Int) ≤ 1907348632812500 := by omega
        have HSU := Lib.hid hsucc
        clear htot hsn hsucc hp hy
        go_wp2_with fail
        refine (HME.out _ HO.out).mono ?_
        rintro e w4 ⟨rfl, hb⟩
        have HO4 : Hid (OE w4 b (Maps.size D) D) := Lib.hid (HO.out.kept (grown_of_below hb none) (by simp))
        replace HC := cellStep HC hb
        replace HB := belStep HB hb
        clear hb HME
        go_wp2_with fail
        refine (HLO.out _ HO4.out).mono ?_
        rintro e w5 ⟨b5, D5, rfl, hb5, ho5, hg5, hw5, hb⟩
        have HO5 := Lib.hid ho5
        have HG5 := Lib.hid hg5
        have HW5 := Lib.hid hw5
        replace HC := cellStep HC hb
        replace HB := belStep HB hb
        clear hb HLO ho5 hg5 hw5
        go_wp2
        go_roundw
        case rel => exact ⟨j + 1, p + y, b5, D5, by omega, by go_num, by go_num, rfl, HSU.out.symm, HO5.out, HG5.out, fun f => by rw [HW5.out, HW.out]; rfl, HC.out, HB.out⟩
        case measure => simp [intOf]; omega
      · obtain rfl : j = K := by omega
        rw [← HS.out] at HR
        go_wp2_with fail
        refine (HR.out _).mono ?_
        rintro e2 w2 ⟨rfl, hb⟩
        replace HC := cellStep HC hb
        replace HB := belStep HB hb
        have k0 := HC.out.c0; have k1 := HC.out.c1; have f0 := HC.out.f0; have f1 := HC.out.f1; have kz := HC.out.lt
        clear hb HR
        go_wp2
        exact bodyPost_ret (v := .tuple #[.agg #[.int .i64 q1, .int .i64 q2], .bool true]) (by simp [results, Try.results25, go_sem, k0, k1]) rfl ⟨rfl, (by repeat (first | exact Below.refl _ _ | exact HB.out | refine Below.setCell ?_ (by simp <;> omega) _ | refine Below.alloc ?_ (by simp <;> omega) _ | refine below_drewN ?_ _))⟩
end Go.Proofs.Ytpnabofgpeffkaa

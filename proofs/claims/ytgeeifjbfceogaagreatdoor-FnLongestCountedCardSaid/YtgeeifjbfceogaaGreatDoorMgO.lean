/- The least ladder of a rank: its rungs. The program's LeastOfRank. -/
import Derived.Test.YtgeeifjbfceogaaGreatDoorRk0
import Derived.Test.YtgeeifjbfceogaaGreatDoorMgS
import Derived.Test.YtgeeifjbfceogaaGreatDoorMgE
namespace Go.Proofs.YtgeeifjbfceogaaGreatDoor
open Go Go.RowKit

def frs (q : List Int) : Nat → Nat → Nat → Nat × Nat
  | 0, i, R => (i, R)
  | f + 1, i, R => if R < cfI q i then (i, R) else frs q f (i + 1) (R - cfI q i)
def tl (q : List Int) : Nat → Nat → Nat
  | 0, _ => 0
  | f + 1, i => cfI q i + tl q f (i + 1)
theorem frs_spec (q : List Int) : ∀ (f i R : Nat), R < tl q f i → i ≤ (frs q f i R).1 ∧ (frs q f i R).1 < i + f ∧ (frs q f i R).2 < cfI q (frs q f i R).1
  | 0, i, R, h => by simp [tl] at h
  | f + 1, i, R, h => by
    simp only [tl] at h
    simp only [frs]
    by_cases h1 : R < cfI q i
    · rw [if_pos h1]
      exact ⟨Nat.le_refl _, by show i < _; omega, h1⟩
    · rw [if_neg h1]
      obtain ⟨a, b, c⟩ := frs_spec q f (i + 1) (R - cfI q i) (by omega)
      exact ⟨by omega, by omega, c⟩
theorem tl_psK (q : List Int) : ∀ (f i : Nat), psK q i + tl q f i = psK q (i + f)
  | 0, i => by simp [tl]
  | f + 1, i => by
    have := tl_psK q f (i + 1)
    rw [show i + (f + 1) = i + 1 + f by omega, ← this]
    simp only [tl, psK]
    omega
theorem psK_sumK {q : List Int} (ho : ord q = true) : ∀ k, k + 1 ≤ q.length → psK q k = sumK q k
  | 0, _ => rfl
  | k + 1, h => by
    have ih := psK_sumK ho k (by omega)
    simp only [psK]
    by_cases hd : gi q (k + 1) < gi q k
    · rw [sumK_yes hd, cfI_yes hd, ih]
    · rw [sumK_no hd, cfI_no ho (by omega) hd, ih, Nat.add_zero]
theorem tl_all {q : List Int} (ho : ord q = true) (h : 0 < ninv q) : tl q (q.length - 1) 0 = cnt q := by
  have h1 := tl_psK q (q.length - 1) 0
  have h2 := (ord_iff.1 ho).1
  rw [Nat.zero_add, psK_sumK ho (q.length - 1) (by omega), sumK_all h] at h1
  simpa [psK] using h1
def lrF : Nat → List Int → Nat → List Int
  | 0, _, _ => []
  | f + 1, q, R => ((frs q (q.length - 1) 0 R).1 : Int) :: lrF f (exch q (frs q (q.length - 1) 0 R).1) (frs q (q.length - 1) 0 R).2
/-- An order, how many rungs it has left, and a rank that is there. -/
structure LR (n : Nat) (q : List Int) (f R : Nat) : Prop where
  ok : OKp n q
  inv : ninv q = f
  lt : R < cnt q
theorem LR.step {n : Nat} {q : List Int} {f R : Nat} (h : LR n q (f + 1) R) : (frs q (n - 1) 0 R).1 + 1 < n ∧ R < tl q (n - 1) 0 ∧ LR n (exch q (frs q (n - 1) 0 R).1) f (frs q (n - 1) 0 R).2 := by
  have hl := h.ok.2
  have h1 : R < tl q (n - 1) 0 := by
    rw [← hl, tl_all h.ok.1 (by rw [h.inv]; omega)]
    exact h.lt
  obtain ⟨_, a, b⟩ := frs_spec q (n - 1) 0 R h1
  obtain ⟨i, hi⟩ : ∃ i, i = (frs q (n - 1) 0 R).1 := ⟨_, rfl⟩
  rw [← hi] at a b ⊢
  have hd : gi q (i + 1) < gi q i := by
    apply Classical.byContradiction
    intro hc
    rw [cfI_no h.ok.1 (by omega) hc] at b
    omega
  have h2 := ninv_exch q i (by omega) hd
  rw [cfI_yes hd] at b
  exact ⟨by omega, h1, ⟨h.ok.exch (by omega), by have := h.inv; omega, b⟩⟩
theorem lrF_len : ∀ (f : Nat) (q : List Int) (R : Nat), (lrF f q R).length = f
  | 0, _, _ => rfl
  | f + 1, q, R => by simp only [lrF, List.length_cons]; rw [lrF_len f]
theorem lrF_in {n : Nat} : ∀ (f : Nat) (q : List Int) (R : Nat), LR n q f R → ∀ x ∈ lrF f q R, 0 ≤ x ∧ x ≤ (n : Int) - 2
  | 0, _, _, _, x, hx => by cases hx
  | f + 1, q, R, h, x, hx => by
    obtain ⟨a, _, c⟩ := h.step
    simp only [lrF] at hx
    rw [h.ok.2] at hx
    rcases List.mem_cons.1 hx with rfl | hx
    · omega
    · exact lrF_in f _ _ c x hx
theorem lrF_lad {n : Nat} {q : List Int} {f R : Nat} (h : LR n q f R) (h2 : 2 ≤ n) (h6 : n ≤ 6) : lad (n : Int) (lrF f q R) = true := by
  have hf : f ≤ 15 := by rw [← h.inv]; exact ninv_six (by rw [h.ok.2]; exact h6)
  rw [lad_yes (inB_true ⟨by omega, by omega⟩) (by rw [lrF_len]; omega)]
  refine allIn_true fun j hj => inB_true ?_
  exact lrF_in f q R h _ (mem_gi.2 ⟨j, hj, rfl⟩)
def lrQ (zs : List Int) (x : Int) : Bool := cg zs && decide (0 ≤ x ∧ x < (cnt zs : Int))
def lrL (zs : List Int) (x : Int) : List Int := ifL (lrQ zs x) (lrF (ninv zs) zs x.toNat)
theorem lrQ_iff {zs : List Int} {x : Int} : lrQ zs x = true ↔ cg zs = true ∧ 0 ≤ x ∧ x < (cnt zs : Int) := by
  unfold lrQ
  rw [Bool.and_eq_true, decide_eq_true_iff]
theorem lrQ_LR {zs : List Int} {x : Int} (h : lrQ zs x = true) : LR zs.length zs (ninv zs) x.toNat := by
  obtain ⟨h1, h2, h3⟩ := lrQ_iff.1 h
  exact ⟨⟨(cg_iff.1 h1).1, rfl⟩, rfl, by omega⟩
theorem lrL_len (zs : List Int) (x : Int) : (lrL zs x).length ≤ 1000 := by
  unfold lrL
  rcases h : lrQ zs x with _ | _
  · rw [ifL_no]; simp
  · rw [ifL_yes, lrF_len]
    have := ninv_six (cg_iff.1 (lrQ_iff.1 h).1).2.2
    omega

set_option maxRecDepth 100000 in
set_option maxHeartbeats 4000000 in
theorem firstOfRank_any (A : Option Addr) (n c : Nat) (q : List Int) (R : Nat) (w : World) (h : RI w A n q) (hq : OKp n q) (h2 : 2 ≤ n) (h6 : n ≤ 6) (hR : R < tl q (n - 1) 0) (hR2 : R ≤ 30517578125) (hGl : Glob w) :
    Calls Tryz.prog 63 #[.slice A n c, .int .i64 (R : Int)] w (fun e w' => e = .returned (.tuple #[.int .i64 ((frs q (n - 1) 0 R).1 : Int), .int .i64 ((frs q (n - 1) 0 R).2 : Int)]) ∧ Below w.heap.size w w') := by
  have HA := Lib.hid h
  have HQ := Lib.hid hq
  have HG := Lib.hid hGl
  obtain ⟨S, hS⟩ : ∃ S, S = frs q (n - 1) 0 R := ⟨_, rfl⟩
  rw [← hS]
  have HS := Lib.hid hS.symm
  have HRT := Lib.hid hR
  clear h hq hGl hS hR
  go_enter Tryz.func63, Tryz.ntmps63
  go_wp2
  go_loopw [1, 6] (fun s1 s6 wr => ∃ k r : Nat, k + 1 ≤ n ∧ s6 = .int .i64 (k : Int) ∧ s1 = .int .i64 (r : Int) ∧ frs q (n - 1 - k) k r = S ∧ r < tl q (n - 1 - k) k ∧ r ≤ 30517578125 ∧ Below w.heap.size w wr) (fun _ s6 _ => n - (intOf s6).toNat)
  case atStart => exact ⟨0, R, by omega, rfl, rfl, HS.out, HRT.out, hR2, Below.refl _ _⟩
  case round =>
    obtain ⟨k, r, hk, rfl, rfl, hf, ht, hr, hb⟩ := hrel
    have HB := Lib.hid hb
    have hk1 : k + 1 < n := by
      rcases Nat.lt_or_ge (k + 1) n with h1 | h1
      · exact h1
      · rw [show n - 1 - k = 0 by omega] at ht
        simp [tl] at ht
    rw [show n - 1 - k = (n - 1 - (k + 1)) + 1 by omega] at hf ht
    simp only [frs] at hf
    simp only [tl] at ht
    have HCF : Hid (∀ w2, RI w2 A n q → Glob w2 → Calls Tryz.prog 22 #[.slice A n c, .int .i64 (k : Int)] w2 (RetIB (cfI q k : Int) true w2)) := fun w2 h2' hg2 => by
      have := iCountFirst_any A n c q (k : Int) w2 h2' (by omega) hg2
      have e := HQ.out.cfQ h2 h6 (j := k) hk1
      rw [cfN_yes e, e, Int.toNat_natCast] at this
      exact this
    have hcs := cfI_small (q := q) (by rw [HQ.out.2]; exact h6) k
    have hR4 := Lib.hid (HA.out.below hb (Nat.le_refl _))
    have hG4 := Lib.hid (HG.out.below hb)
    obtain ⟨v, hv⟩ : ∃ v, v = cfI q k := ⟨_, rfl⟩
    rw [← hv] at HCF hcs hf ht
    clear hv hb
    by_cases hlt : r < v
    · rw [if_pos hlt] at hf
      subst hf
      clear ht
      go_wp2_with fail
      refine (HCF.out _ hR4.out hG4.out).mono ?_
      rintro e w3 ⟨rfl, hb3⟩
      have HB3 := belStep HB hb3
      clear hb3
      go_wp2
      go_ret2
      exact ⟨rfl, HB3.out⟩
    · rw [if_neg hlt] at hf
      have HF := Lib.hid hf
      have ht2 : r - v < tl q (n - 1 - (k + 1)) (k + 1) := by omega
      have HT := Lib.hid ht2
      have hge : v ≤ r := by omega
      clear ht ht2 hf hlt
      go_wp2_with fail
      refine (HCF.out _ hR4.out hG4.out).mono ?_
      rintro e w3 ⟨rfl, hb3⟩
      have HB3 := belStep HB hb3
      clear hb3
      go_wp2
      go_roundw
      case rel => exact ⟨k + 1, r - v, by omega, by go_num, by rw [Int.ofNat_sub hge], HF.out, HT.out, by omega, HB3.out⟩
      case measure => simp [intOf]; omega
end Go.Proofs.YtgeeifjbfceogaaGreatDoor
namespace Go.Proofs.YtgeeifjbfceogaaGreatDoor
open Go Go.RowKit

theorem invN_ninv (zs : List Int) : ∀ k, k ≤ zs.length → invN zs k + ninv (zs.drop k) = ninv zs
  | 0, _ => by simp [invN]
  | k + 1, h => by
    have ih := invN_ninv zs k (by omega)
    rw [drop_gi (show k < zs.length by omega)] at ih
    simp only [ninv] at ih
    have e2 : lessN (gi zs k) (zs.drop (k + 1)) = cntB zs k (zs.length - (k + 1)) := by
      rw [cntB_less zs k _ (by omega), List.take_of_length_le (by rw [List.length_drop]; omega)]
    simp only [invN]
    omega
theorem invs_ninv (zs : List Int) : (invs zs).length = ninv zs := by
  have h1 := invN_ninv zs zs.length (Nat.le_refl _)
  rw [List.drop_length] at h1
  unfold invs
  rw [invN_len]
  simpa [ninv] using h1
theorem Cell2.kb {L : List Nat} {a b : World} (h : KB L a b) {x : Nat} {u v : Value} (hx : Cell2 a x u v) (hn : x ∉ L) : Cell2 b x u v := by
  have e := h.block x hx.lt hn
  exact ⟨(World.cell?_of_block (a := ⟨x, 0, none⟩) e).trans hx.c0, (World.cell?_of_block (a := ⟨x, 1, none⟩) e).trans hx.c1, (World.frozen?_of_block (a := ⟨x, 0, none⟩) e).trans hx.f0, (World.frozen?_of_block (a := ⟨x, 1, none⟩) e).trans hx.f1, Nat.lt_of_lt_of_le hx.lt h.size⟩
theorem take_set {ts : List Int} {k : Nat} (h : k < ts.length) (v : Int) : (ts.set k v).take (k + 1) = ts.take k ++ [v] := by
  rw [List.take_add_one, List.take_set, List.set_eq_of_length_le (by rw [List.length_take]; omega)]
  simp [h]

set_option maxRecDepth 100000 in
set_option maxHeartbeats 8000000 in
theorem iLeastOfRank_any (A0 : Option Addr) (n c0 : Nat) (zs : List Int) (x : Int) (w : World) (h : RI w A0 n zs) (hn : n ≤ 1048576) (hnc : n ≤ c0) (hGl : Glob w) :
    Calls Tryz.prog 34 #[.slice A0 n c0, .int .i64 x] w (FreshLB w (ifW (lrQ zs x) n) (lrL zs x).length (lrL zs x) (lrQ zs x)) := by
  have hl := h.1
  have HB := belAlloc (belRefl (w := w)) (.cells #[.int .i64 0, .slice none 0 0] 44)
  have HC := cellNew w (.int .i64 0) (.slice none 0 0) 44
  have HI := Lib.hid (iCountLeast_any A0 n c0 zs _ (h.alloc (.cells #[.int .i64 0, .slice none 0 0] 44)) hn (hGl.below HB.out))
  have HH := Lib.hid h
  have HGL := Lib.hid hGl
  clear h hGl
  rcases hq : lrQ zs x with _ | _
  · rw [show lrL zs x = [] by unfold lrL; rw [hq, ifL_no], ifW_no]
    by_cases hcg : cg zs = true
    · rw [cntN_yes hcg, hcg] at HI
      have hx : x < 0 ∨ (0 ≤ x ∧ (cnt zs : Int) ≤ x) := by
        unfold lrQ at hq
        rw [hcg, Bool.true_and, decide_eq_false_iff_not] at hq
        omega
      obtain ⟨v, hv⟩ : ∃ v : Int, v = (cnt zs : Int) := ⟨_, rfl⟩
      rw [← hv] at HI hx
      clear hq hv
      rcases hx with hx | ⟨hx0, hx⟩
      all_goals
        go_enter Tryz.func34, Tryz.ntmps34
        go_wp2_with fail
        refine HI.out.mono ?_
        rintro e w1 ⟨rfl, hb⟩
        replace HB := belStep HB hb; replace HC := cellStep HC hb
        have k0 := HC.out.c0; have k1 := HC.out.c1; have f0 := HC.out.f0; have f1 := HC.out.f1; have hz := HC.out.lt
        clear hb
        go_wp2
        exact bodyPost_ret (v := .tuple #[.agg #[.int .i64 0, .slice none 0 0], .bool false]) (by simp [results, Tryz.results34, go_sem, k0, k1]) rfl ⟨none, 0, rfl, OI.none_ _ _, (by repeat (first | exact Below.refl _ _ | exact HB.out | refine Below.setCell ?_ (by simp <;> omega) _ | refine Below.alloc ?_ (by simp <;> omega) _ | refine below_drewN ?_ _))⟩
    · have hcg' : cg zs = false := by simpa using hcg
      rw [cntN_no hcg', hcg'] at HI
      clear hq hcg hcg'
      go_enter Tryz.func34, Tryz.ntmps34
      go_wp2_with fail
      refine HI.out.mono ?_
      rintro e w1 ⟨rfl, hb⟩
      replace HB := belStep HB hb; replace HC := cellStep HC hb
      have k0 := HC.out.c0; have k1 := HC.out.c1; have f0 := HC.out.f0; have f1 := HC.out.f1; have hz := HC.out.lt
      clear hb
      go_wp2
      exact bodyPost_ret (v := .tuple #[.agg #[.int .i64 0, .slice none 0 0], .bool false]) (by simp [results, Tryz.results34, go_sem, k0, k1]) rfl ⟨none, 0, rfl, OI.none_ _ _, (by repeat (first | exact Below.refl _ _ | exact HB.out | refine Below.setCell ?_ (by simp <;> omega) _ | refine Below.alloc ?_ (by simp <;> omega) _ | refine below_drewN ?_ _))⟩
  · obtain ⟨hcg, hx0, hx1⟩ := lrQ_iff.1 hq
    have hlr := lrQ_LR hq
    rw [show lrL zs x = lrF (ninv zs) zs x.toNat by unfold lrL; rw [hq, ifL_yes], ifW_yes]
    obtain ⟨X, rfl⟩ : ∃ X : Nat, x = (X : Int) := ⟨x.toNat, by omega⟩
    rw [Int.toNat_natCast] at hlr ⊢
    rw [hl] at hlr
    obtain ⟨ho, h2, h6⟩ := cg_iff.1 hcg
    rw [cntN_yes hcg, hcg] at HI
    have HINV : Hid (∀ w, RI w A0 n zs → Calls Tryz.prog 62 #[.slice A0 n c0] w (RetIB (ninv zs : Int) true w)) := fun w h => by
      have := iInversionsOf_any A0 n c0 zs w h hn hnc
      rw [pairsN_yes ho, invs_ninv, ho] at this
      exact this
    have hm15 : ninv zs ≤ 15 := ninv_six h6
    have h2n : 2 ≤ n := by omega
    have h6n : n ≤ 6 := by omega
    have hll := lrF_lad hlr h2n h6n
    rw [lrF_len]
    have hcs := cnt_small (q := zs) h6
    obtain ⟨v, hv⟩ : ∃ v, v = cnt zs := ⟨_, rfl⟩
    obtain ⟨m, hm⟩ : ∃ m, m = ninv zs := ⟨_, rfl⟩
    obtain ⟨L, hL⟩ : ∃ L, L = lrF m zs X := ⟨_, rfl⟩
    rw [← hm] at HINV hm15 hlr hll ⊢
    rw [← hL] at hll ⊢
    rw [← hv] at HI hx1 hcs
    have HLR := Lib.hid hlr
    have HLL := Lib.hid hll
    have HLE := Lib.hid hL.symm
    have hXi : (X : Int) ≤ 30517578125 := by omega
    have hmk := run_make_row' (P := Tryz.prog) 22 3 (.int .i64 0) 8 Tryz.underlying22 infoInt rfl .i64 .i64 m (by omega) (by omega)
    clear hq hcg ho h2 h6 hlr hll hv hm hL
    go_enter Tryz.func34, Tryz.ntmps34
    go_wp2_with fail
    refine HI.out.mono ?_
    rintro e w1 ⟨rfl, hb⟩
    replace HB := belStep HB hb; replace HC := cellStep HC hb
    have HR1 := Lib.hid (HH.out.below HB.out (Nat.le_refl _))
    clear hb HI
    go_wp2_with fail
    refine (HINV.out _ HR1.out).mono ?_
    rintro e w2 ⟨rfl, hb⟩
    replace HB := belStep HB hb; replace HC := cellStep HC hb
    clear hb HINV HR1
    have HZ : Hid (w.heap.size < w2.heap.size) := Lib.hid HC.out.lt
    go_wp2
    have HO0 : Hid (OI (w2.alloc (.cells (madeCells #[.int .i64 0] m) 3)) w2.heap.size (some ⟨w2.heap.size, 0, none⟩) m m (List.replicate m 0)) :=
      Lib.hid (OI.of_rowIs (Nat.le_refl _) (World.rowIs_made w2 (.int .i64 0) m 3) (by unfold maxLen; omega) (by simp) (fun j hj => by simp [gi, List.getD, hj]))
    replace HB := belAlloc HB (.cells (madeCells #[.int .i64 0] m) 3)
    replace HC := cellAlloc HC (.cells (madeCells #[.int .i64 0] m) 3)
    obtain ⟨g, hg⟩ : ∃ g, g = w2.heap.size := ⟨_, rfl⟩
    rw [← hg] at HO0 HZ ⊢
    obtain ⟨w3, hw3⟩ : ∃ w3, w3 = w2.alloc (.cells (madeCells #[.int .i64 0] m) 3) := ⟨_, rfl⟩
    rw [← hw3] at HO0 HB HC ⊢
    have HG3 : Hid (g < w3.heap.size) := Lib.hid (by rw [hw3, hg]; simp)
    clear hw3 hg hmk
    go_loopw [1, 11, 12, 40] (fun s1 s11 _ i wr => ∃ (k R c4 : Nat) (A4 : Option Addr) (q ts : List Int), k ≤ m ∧ i = .int .i64 (k : Int) ∧ s1 = .int .i64 (R : Int) ∧ s11 = .slice A4 n c4 ∧ RI wr A4 n q ∧ (∀ b, blk A4 = some b → b ≠ g) ∧ OI wr g (some ⟨g, 0, none⟩) m m ts ∧ ts.take k ++ lrF (m - k) q R = L ∧ LR n q (m - k) R ∧ KB [g] w3 wr) (fun _ _ _ i _ => m - (intOf i).toNat)
    case atStart => exact ⟨0, X, c0, A0, zs, _, Nat.zero_le _, rfl, rfl, rfl, HH.out.below HB.out (Nat.le_refl _), fun b hb => by
      rcases Nat.eq_zero_or_pos n with h0 | h0
      · omega
      · obtain ⟨b', off, e, hbw, _⟩ := HH.out.2 h0
        rw [e] at hb
        have : b' = b := by simpa [blk] using hb
        have := HZ.out
        omega, HO0.out, by simpa using HLE.out, HLR.out, KB.refl _ _⟩
    case round =>
      obtain ⟨k, R, c4, A4, q, ts, hk, rfl, rfl, rfl, hri, hne, hoi, hLq, hlr, hkb⟩ := hrel
      obtain ⟨wo, hwo⟩ : ∃ wo, wo = wr := ⟨_, rfl⟩
      subst hwo
      have HRI := Lib.hid hri
      have HNE := Lib.hid hne
      have HOI := Lib.hid hoi
      have HLQ := Lib.hid hLq
      have HLK := Lib.hid hlr
      have HKB := Lib.hid hkb
      have HBW : Hid (Below w.heap.size w wo) := Lib.hid (HB.out.trans (hkb.below HB.out.size (fun j hj => by have := HZ.out; simp at hj; omega)))
      have HGW := Lib.hid (HGL.out.below HBW.out)
      clear hri hne hoi hLq hlr hkb
      by_cases hlt : k < m
      · have hmk1 : m - k = (m - (k + 1)) + 1 := by omega
        rw [hmk1] at HLK HLQ
        obtain ⟨hs1, hs2, hs3⟩ := HLK.out.step
        have hRc : R ≤ 30517578125 := by have := HLK.out.lt; have := cnt_small (q := q) (by rw [HLK.out.ok.2]; exact h6n); omega
        have HFO := Lib.hid (firstOfRank_any A4 n c4 q R wo HRI.out HLK.out.ok h2n h6n hs2 hRc HGW.out)
        have HLS : Hid (lrF (m - (k + 1) + 1) q R = ((frs q (n - 1) 0 R).1 : Int) :: lrF (m - (k + 1)) (exch q (frs q (n - 1) 0 R).1) (frs q (n - 1) 0 R).2) := by
          show _ = _
          simp only [lrF]
          rw [HLK.out.ok.2]
        obtain ⟨S1, hS1⟩ : ∃ S1, S1 = (frs q (n - 1) 0 R).1 := ⟨_, rfl⟩
        obtain ⟨S2, hS2⟩ : ∃ S2, S2 = (frs q (n - 1) 0 R).2 := ⟨_, rfl⟩
        rw [← hS1] at hs1
        rw [← hS1, ← hS2] at hs3 HFO HLS
        have HS3 := Lib.hid hs3
        clear hS1 hS2 hs2 hs3 hmk1
        go_wp2_with fail
        refine HFO.out.mono ?_
        rintro e w5 ⟨rfl, hb5⟩
        have HB5 := Lib.hid hb5
        have HO5 := Lib.hid (HOI.out.below hb5)
        have HR5 := riStep HRI hb5
        have fk : w5.frozen? ⟨g, k, none⟩ = false := HO5.out.2.frozenAt k
        have hck := HO5.out.cells k hlt
        have HO6 : Hid (OI (w5.setCell ⟨g, k, none⟩ (.int .i64 (S1 : Int))) g (some ⟨g, 0, none⟩) m m (ts.set k (S1 : Int))) := Lib.hid (HO5.out.stored k _)
        have HR6 : Hid (RI (w5.setCell ⟨g, k, none⟩ (.int .i64 (S1 : Int))) A4 n q) := Lib.hid (HR5.out.kept (grown_setCell (grown_refl _ _) (.inl rfl) _) (fun b hb e => by injection e with e; exact HNE.out b hb e.symm))
        have hck6 : (w5.setCell ⟨g, k, none⟩ (.int .i64 (S1 : Int))).cell? ⟨g, k, none⟩ = some (.int .i64 (S1 : Int)) := World.cell?_setCell_same _ _ _ hck
        have HK6 : Hid (KB [g] w3 (w5.setCell ⟨g, k, none⟩ (.int .i64 (S1 : Int)))) := Lib.hid ((HKB.out.grown (grown_of_below hb5 none) (fun j hj => by cases hj)).grown (grown_setCell (grown_refl _ (some g)) (.inl rfl) _) (fun j hj => by injection hj with hj; subst hj; left; simp))
        clear hb5 HFO
        go_wp2_with fail
        refine (restBelow_any A4 n c4 q S1 _ HR6.out (by omega) hs1).mono ?_
        rintro e w6 ⟨A6, c6, rfl, o6, hb6⟩
        have HO7 := Lib.hid o6
        have HB6 := Lib.hid hb6
        have hg6 : g < (w5.setCell ⟨g, k, none⟩ (.int .i64 (S1 : Int))).heap.size := (HO6.out.blk g rfl).2
        clear o6 hb6
        go_wp2
        go_roundw
        case rel =>
          refine ⟨k + 1, S2, c6, A6, exch q S1, ts.set k (S1 : Int), by omega, by go_num, rfl, rfl, HO7.out.ri, fun b hb => by have := (HO7.out.blk b hb).1; omega, HO6.out.below HB6.out, ?_, HS3.out, HK6.out.grown (grown_of_below HB6.out none) (fun j hj => by cases hj)⟩
          rw [take_set (by rw [HOI.out.1]; exact hlt), List.append_assoc]
          have := HLQ.out
          rw [HLS.out] at this
          exact this
        case measure => simp [intOf]; omega
      · obtain rfl : k = m := by omega
        have e : ts = L := by
          have := HLQ.out
          rw [Nat.sub_self, List.take_of_length_le (by rw [HOI.out.1]; exact Nat.le_refl _)] at this
          simpa [lrF] using this
        subst e
        have HCW : Hid (Cell2 wo w.heap.size (.int .i64 0) (.slice none 0 0)) := Lib.hid (Cell2.kb HKB.out HC.out (by have := HZ.out; simp; omega))
        have HLO := Lib.hid (ladderOf_one n (some ⟨g, 0, none⟩) k k ts wo HOI.out.ri (by omega) HLL.out)
        go_wp2_with fail
        refine HLO.out.mono ?_
        rintro e w6 ⟨A7, c7, rfl, o7, hb⟩
        replace HB := belStep (belAlloc HBW _) hb
        replace HC := cellStep (cellAlloc HCW _) hb
        have O8 := Lib.hid o7
        have k0 := HC.out.c0; have k1 := HC.out.c1; have f0 := HC.out.f0; have f1 := HC.out.f1; have hz3 := HC.out.lt
        have hs3 : w.heap.size < (wo.alloc (.cells #[.slice (some ⟨g, 0, none⟩) k k] 22)).heap.size := by have := HCW.out.lt; simp; omega
        clear hb o7
        go_wp2
        try simp only [Exit.jump]
        exact bodyPost_ret (v := .tuple #[.agg #[.int .i64 n, .slice A7 k c7], .bool true]) (by simp [results, Tryz.results34, go_sem, k0, k1]) rfl
          ⟨A7, c7, rfl, ((O8.out.setBelow hs3 _).setBelow hs3 _).mono (Nat.le_of_lt hs3), (by repeat (first | exact Below.refl _ _ | exact HB.out | refine Below.setCell ?_ (by simp <;> omega) _ | refine Below.alloc ?_ (by simp <;> omega) _ | refine below_drewN ?_ _))⟩
end Go.Proofs.YtgeeifjbfceogaaGreatDoor

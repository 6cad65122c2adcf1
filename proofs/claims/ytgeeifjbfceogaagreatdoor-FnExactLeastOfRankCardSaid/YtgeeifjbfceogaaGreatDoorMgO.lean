/- The least ladder of a rank: its rungs. The program's LeastOfRank. The model's LeastOfRank. -/
import Derived.Test.YtgeeifjbfceogaaGreatDoorRk0
import Derived.Test.YtgeeifjbfceogaaGreatDoorMgS
import Derived.Test.YtgeeifjbfceogaaGreatDoorMgE
namespace Go.Proofs.YtgeeifjbfceogaaGreatDoor
open Go Go.RowKit

def frs (q : List Int) : Nat → Nat → Nat → Nat × Nat
  | 0, i, R => (i, R)
  | f + 1, i, R => if R < cfI q i then (i, R) else frs q f (i + 1) (R - cfI q i)
def tl (q : List Int) : Nat → Nat → Nat
  | 0, _ => 0
  | f + 1, i => cfI q i + tl q f (i + 1)
theorem frs_spec (q : List Int) : ∀ (f i R : Nat), R < tl q f i → i ≤ (frs q f i R).1 ∧ (frs q f i R).1 < i + f ∧ (frs q f i R).2 < cfI q (frs q f i R).1
  | 0, i, R, h => by simp [tl] at h
  | f + 1, i, R, h => by
    simp only [tl] at h
    simp only [frs]
    by_cases h1 : R < cfI q i
    · rw [if_pos h1]
      exact ⟨Nat.le_refl _, by show i < _; omega, h1⟩
    · rw [if_neg h1]
      obtain ⟨a, b, c⟩ := frs_spec q f (i + 1) (R - cfI q i) (by omega)
      exact ⟨by omega, by omega, c⟩
theorem tl_psK (q : List Int) : ∀ (f i : Nat), psK q i + tl q f i = psK q (i + f)
  | 0, i => by simp [tl]
  | f + 1, i => by
    have := tl_psK q f (i + 1)
    rw [show i + (f + 1) = i + 1 + f by omega, ← this]
    simp only [tl, psK]
    omega
theorem psK_sumK {q : List Int} (ho : ord q = true) : ∀ k, k + 1 ≤ q.length → psK q k = sumK q k
  | 0, _ => rfl
  | k + 1, h => by
    have ih := psK_sumK ho k (by omega)
    simp only [psK]
    by_cases hd : gi q (k + 1) < gi q k
    · rw [sumK_yes hd, cfI_yes hd, ih]
    · rw [sumK_no hd, cfI_no ho (by omega) hd, ih, Nat.add_zero]
theorem tl_all {q : List Int} (ho : ord q = true) (h : 0 < ninv q) : tl q (q.length - 1) 0 = cnt q := by
  have h1 := tl_psK q (q.length - 1) 0
  have h2 := (ord_iff.1 ho).1
  rw [Nat.zero_add, psK_sumK ho (q.length - 1) (by omega), sumK_all h] at h1
  simpa [psK] using h1
def lrF : Nat → List Int → Nat → List Int
  | 0, _, _ => []
  | f + 1, q, R => ((frs q (q.length - 1) 0 R).1 : Int) :: lrF f (exch q (frs q (q.length - 1) 0 R).1) (frs q (q.length - 1) 0 R).2
/-- An order, how many rungs it has left, and a rank that is there. -/
structure LR (n : Nat) (q : List Int) (f R : Nat) : Prop where
  ok : OKp n q
  inv : ninv q = f
  lt : R < cnt q
theorem LR.step {n : Nat} {q : List Int} {f R : Nat} (h : LR n q (f + 1) R) : (frs q (n - 1) 0 R).1 + 1 < n ∧ R < tl q (n - 1) 0 ∧ LR n (exch q (frs q (n - 1) 0 R).1) f (frs q (n - 1) 0 R).2 := by
  have hl := h.ok.2
  have h1 : R < tl q (n - 1) 0 := by
    rw [← hl, tl_all h.ok.1 (by rw [h.inv]; omega)]
    exact h.lt
  obtain ⟨_, a, b⟩ := frs_spec q (n - 1) 0 R h1
  obtain ⟨i, hi⟩ : ∃ i, i = (frs q (n - 1) 0 R).1 := ⟨_, rfl⟩
  rw [← hi] at a b ⊢
  have hd : gi q (i + 1) < gi q i := by
    apply Classical.byContradiction
    intro hc
    rw [cfI_no h.ok.1 (by omega) hc] at b
    omega
  have h2 := ninv_exch q i (by omega) hd
  rw [cfI_yes hd] at b
  exact ⟨by omega, h1, ⟨h.ok.exch (by omega), by have := h.inv; omega, b⟩⟩
theorem lrF_len : ∀ (f : Nat) (q : List Int) (R : Nat), (lrF f q R).length = f
  | 0, _, _ => rfl
  | f + 1, q, R => by simp only [lrF, List.length_cons]; rw [lrF_len f]
theorem lrF_in {n : Nat} : ∀ (f : Nat) (q : List Int) (R : Nat), LR n q f R → ∀ x ∈ lrF f q R, 0 ≤ x ∧ x ≤ (n : Int) - 2
  | 0, _, _, _, x, hx => by cases hx
  | f + 1, q, R, h, x, hx => by
    obtain ⟨a, _, c⟩ := h.step
    simp only [lrF] at hx
    rw [h.ok.2] at hx
    rcases List.mem_cons.1 hx with rfl | hx
    · omega
    · exact lrF_in f _ _ c x hx
theorem lrF_lad {n : Nat} {q : List Int} {f R : Nat} (h : LR n q f R) (h2 : 2 ≤ n) (h6 : n ≤ 6) : lad (n : Int) (lrF f q R) = true := by
  have hf : f ≤ 15 := by rw [← h.inv]; exact ninv_six (by rw [h.ok.2]; exact h6)
  rw [lad_yes (inB_true ⟨by omega, by omega⟩) (by rw [lrF_len]; omega)]
  refine allIn_true fun j hj => inB_true ?_
  exact lrF_in f q R h _ (mem_gi.2 ⟨j, hj, rfl⟩)
def lrQ (zs : List Int) (x : Int) : Bool := cg zs && decide (0 ≤ x ∧ x < (cnt zs : Int))
def lrL (zs : List Int) (x : Int) : List Int := ifL (lrQ zs x) (lrF (ninv zs) zs x.toNat)
theorem lrQ_iff {zs : List Int} {x : Int} : lrQ zs x = true ↔ cg zs = true ∧ 0 ≤ x ∧ x < (cnt zs : Int) := by
  unfold lrQ
  rw [Bool.and_eq_true, decide_eq_true_iff]
theorem lrQ_LR {zs : List Int} {x : Int} (h : lrQ zs x = true) : LR zs.length zs (ninv zs) x.toNat := by
  obtain ⟨h1, h2, h3⟩ := lrQ_iff.1 h
  exact ⟨⟨(cg_iff.1 h1).1, rfl⟩, rfl, by omega⟩
theorem lrL_len (zs : List Int) (x : Int) : (lrL zs x).length ≤ 1000 := by
  unfold lrL
  rcases h : lrQ zs x with _ | _
  · rw [ifL_no]; simp
  · rw [ifL_yes, lrF_len]
    have := ninv_six (cg_iff.1 (lrQ_iff.1 h).1).2.2
    omega

set_option maxRecDepth 100000 in
set_option maxHeartbeats 4000000 in
theorem firstOfRank_any (A : Option Addr) (n c : Nat) (q : List Int) (R : Nat) (w : World) (h : RI w A n q) (hq : OKp n q) (h2 : 2 ≤ n) (h6 : n ≤ 6) (hR : R < tl q (n - 1) 0) (hR2 : R ≤ 30517578125) (hGl : Glob w) :
    Calls Tryz.prog 63 #[.slice A n c, .int .i64 (R : Int)] w (fun e w' => e = .returned (.tuple #[.int .i64 ((frs q (n - 1) 0 R).1 : Int), .int .i64 ((frs q (n - 1) 0 R).2 : Int)]) ∧ Below w.heap.size w w') := by
  have HA := Lib.hid h
  have HQ := Lib.hid hq
  have HG := Lib.hid hGl
  obtain ⟨S, hS⟩ : ∃ S, S = frs q (n - 1) 0 R := ⟨_, rfl⟩
  rw [← hS]
  have HS := Lib.hid hS.symm
  have HRT := Lib.hid hR
  clear h hq hGl hS hR
  go_enter Tryz.func63, Tryz.ntmps63
  go_wp2
  go_loopw [1, 6] (fun s1 s6 wr => ∃ k r : Nat, k + 1 ≤ n ∧ s6 = .int .i64 (k : Int) ∧ s1 = .int .i64 (r : Int) ∧ frs q (n - 1 - k) k r = S ∧ r < tl q (n - 1 - k) k ∧ r ≤ 30517578125 ∧ Below w.heap.size w wr) (fun _ s6 _ => n - (intOf s6).toNat)
  case atStart => exact ⟨0, R, by omega, rfl, rfl, HS.out, HRT.out, hR2, Below.refl _ _⟩
  case round =>
    obtain ⟨k, r, hk, rfl, rfl, hf, ht, hr, hb⟩ := hrel
    have HB := Lib.hid hb
    have hk1 : k + 1 < n := by
      rcases Nat.lt_or_ge (k + 1) n with h1 | h1
      · exact h1
      · rw [show n - 1 - k = 0 by omega] at ht
        simp [tl] at ht
    rw [show n - 1 - k = (n - 1 - (k + 1)) + 1 by omega] at hf ht
    simp only [frs] at hf
    simp only [tl] at ht
    have HCF : Hid (∀ w2, RI w2 A n q → Glob w2 → Calls Tryz.prog 22 #[.slice A n c, .int .i64 (k : Int)] w2 (RetIB (cfI q k : Int) true w2)) := fun w2 h2' hg2 => by
      have := iCountFirst_any A n c q (k : Int) w2 h2' (by omega) hg2
      have e := HQ.out.cfQ h2 h6 (j := k) hk1
      rw [cfN_yes e, e, Int.toNat_natCast] at this
      exact this
    have hcs := cfI_small (q := q) (by rw [HQ.out.2]; exact h6) k
    have hR4 := Lib.hid (HA.out.below hb (Nat.le_refl _))
    have hG4 := Lib.hid (HG.out.below hb)
    obtain ⟨v, hv⟩ : ∃ v, v = cfI q k := ⟨_, rfl⟩
    rw [← hv] at HCF hcs hf ht
    clear hv hb
    by_cases hlt : r < v
    · rw [if_pos hlt] at hf
      subst hf
      clear ht
      go_wp2_with fail
      refine (HCF.out _ hR4.out hG4.out).mono ?_
      rintro e w3 ⟨rfl, hb3⟩
      have HB3 := belStep HB hb3
      clear hb3
      go_wp2
      go_ret2
      exact ⟨rfl, HB3.out⟩
    · rw [if_neg hlt] at hf
      have HF := Lib.hid hf
      have ht2 : r - v < tl q (n - 1 - (k + 1)) (k + 1) := by omega
      have HT := Lib.hid ht2
      have hge : v ≤ r := by omega
      clear ht ht2 hf hlt
      go_wp2_with fail
      refine (HCF.out _ hR4.out hG4.out).mono ?_
      rintro e w3 ⟨rfl, hb3⟩
      have HB3 := belStep HB hb3
      clear hb3
      go_wp2
      go_roundw
      case rel => exact ⟨k + 1, r - v, by omega, by go_num, by rw [Int.ofNat_sub hge], HF.out, HT.out, by omega, HB3.out⟩
      case measure => simp [intOf]; omega
end Go.Proofs.YtgeeifjbfceogaaGreatDoor
namespace Go.Proofs.YtgeeifjbfceogaaGreatDoor
open Go Go.RowKit

theorem invN_ninv (zs : List Int) : ∀ k, k ≤ zs.length → invN zs k + ninv (zs.drop k) = ninv zs
  | 0, _ => by simp [invN]
  | k + 1, h => by
    have ih := invN_ninv zs k (by omega)
    rw [drop_gi (show k < zs.length by omega)] at ih
    simp only [ninv] at ih
    have e2 : lessN (gi zs k) (zs.drop (k + 1)) = cntB zs k (zs.length - (k + 1)) := by
      rw [cntB_less zs k _ (by omega), List.take_of_length_le (by rw [List.length_drop]; omega)]
    simp only [invN]
    omega
theorem invs_ninv (zs : List Int) : (invs zs).length = ninv zs := by
  have h1 := invN_ninv zs zs.length (Nat.le_refl _)
  rw [List.drop_length] at h1
  unfold invs
  rw [invN_len]
  simpa [ninv] using h1
theorem Cell2.kb {L : List Nat} {a b : World} (h : KB L a b) {x : Nat} {u v : Value} (hx : Cell2 a x u v) (hn : x ∉ L) : Cell2 b x u v := by
  have e := h.block x hx.lt hn
  exact ⟨(World.cell?_of_block (a := ⟨x, 0, none⟩) e).trans hx.c0, (World.cell?_of_block (a := ⟨x, 1, none⟩) e).trans hx.c1, (World.frozen?_of_block (a := ⟨x, 0, none⟩) e).trans hx.f0, (World.frozen?_of_block (a := ⟨x, 1, none⟩) e).trans hx.f1, Nat.lt_of_lt_of_le hx.lt h.size⟩
theorem take_set {ts : List Int} {k : Nat} (h : k < ts.length) (v : Int) : (ts.set k v).take (k + 1) = ts.take k ++ [v] := by
  rw [List.take_add_one, List.take_set, List.set_eq_of_length_le (by rw [List.length_take]; omega)]
  simp [h]

set_option maxRecDepth 100000 in
set_option maxHeartbeats 8000000 in
theorem iLeastOfRank_any (A0 : Option Addr) (n c0 : Nat) (zs : List Int) (x : Int) (w : World) (h : RI w A0 n zs) (hn : n ≤ 1048576) (hnc : n ≤ c0) (hGl : Glob w) :
    Calls Tryz.prog 34 #[.slice A0 n c0, .int .i64 x] w (FreshLB w (ifW (lrQ zs x) n) (lrL zs x).length (lrL zs x) (lrQ zs x)) := by
  have hl := h.1
  have HB := belAlloc (belRefl (w := w)) (.cells #[.int .i64 0, .slice none 0 0] 44)
  have HC := cellNew w (.int .i64 0) (.slice none 0 0) 44
  have HI := Lib.hid (iCountLeast_any A0 n c0 zs _ (h.alloc (.cells #[.int .i64 0, .slice none 0 0] 44)) hn (hGl.below HB.out))
  have HH := Lib.hid h
  have HGL := Lib.hid hGl
  clear h hGl
  rcases hq : lrQ zs x with _ | _
  · rw [show lrL zs x = [] by unfold lrL; rw [hq, ifL_no], ifW_no]
    by_cases hcg : cg zs = true
    · rw [cntN_yes hcg, hcg] at HI
      have hx : x < 0 ∨ (0 ≤ x ∧ (cnt zs : Int) ≤ x) := by
        unfold lrQ at hq
        rw [hcg, Bool.true_and, decide_eq_false_iff_not] at hq
        omega
      obtain ⟨v, hv⟩ : ∃ v : Int, v = (cnt zs : Int) := ⟨_, rfl⟩
      rw [← hv] at HI hx
      clear hq hv
      rcases hx with hx | ⟨hx0, hx⟩
      all_goals
        go_enter Tryz.func34, Tryz.ntmps34
        go_wp2_with fail
        refine HI.out.mono ?_
        rintro e w1 ⟨rfl, hb⟩
        replace HB := belStep HB hb; replace HC := cellStep HC hb
        have k0 := HC.out.c0; have k1 := HC.out.c1; have f0 := HC.out.f0; have f1 := HC.out.f1; have hz := HC.out.lt
        clear hb
        go_wp2
        exact bodyPost_ret (v := .tuple #[.agg #[.int .i64 0, .slice none 0 0], .bool false]) (by simp [results, Tryz.results34, go_sem, k0, k1]) rfl ⟨none, 0, rfl, OI.none_ _ _, (by repeat (first | exact Below.refl _ _ | exact HB.out | refine Below.setCell ?_ (by simp <;> omega) _ | refine Below.alloc ?_ (by simp <;> omega) _ | refine below_drewN ?_ _))⟩
    · have hcg' : cg zs = false := by simpa using hcg
      rw [cntN_no hcg', hcg'] at HI
      clear hq hcg hcg'
      go_enter Tryz.func34, Tryz.ntmps34
      go_wp2_with fail
      refine HI.out.mono ?_
      rintro e w1 ⟨rfl, hb⟩
      replace HB := belStep HB hb; replace HC := cellStep HC hb
      have k0 := HC.out.c0; have k1 := HC.out.c1; have f0 := HC.out.f0; have f1 := HC.out.f1; have hz := HC.out.lt
      clear hb
      go_wp2
      exact bodyPost_ret (v := .tuple #[.agg #[.int .i64 0, .slice none 0 0], .bool false]) (by simp [results, Tryz.results34, go_sem, k0, k1]) rfl ⟨none, 0, rfl, OI.none_ _ _, (by repeat (first | exact Below.refl _ _ | exact HB.out | refine Below.setCell ?_ (by simp <;> omega) _ | refine Below.alloc ?_ (by simp <;> omega) _ | refine below_drewN ?_ _))⟩
  · obtain ⟨hcg, hx0, hx1⟩ := lrQ_iff.1 hq
    have hlr := lrQ_LR hq
    rw [show lrL zs x = lrF (ninv zs) zs x.toNat by unfold lrL; rw [hq, ifL_yes], ifW_yes]
    obtain ⟨X, rfl⟩ : ∃ X : Nat, x = (X : Int) := ⟨x.toNat, by omega⟩
    rw [Int.toNat_natCast] at hlr ⊢
    rw [hl] at hlr
    obtain ⟨ho, h2, h6⟩ := cg_iff.1 hcg
    rw [cntN_yes hcg, hcg] at HI
    have HINV : Hid (∀ w, RI w A0 n zs → Calls Tryz.prog 62 #[.slice A0 n c0] w (RetIB (ninv zs : Int) true w)) := fun w h => by
      have := iInversionsOf_any A0 n c0 zs w h hn hnc
      rw [pairsN_yes ho, invs_ninv, ho] at this
      exact this
    have hm15 : ninv zs ≤ 15 := ninv_six h6
    have h2n : 2 ≤ n := by omega
    have h6n : n ≤ 6 := by omega
    have hll := lrF_lad hlr h2n h6n
    rw [lrF_len]
    have hcs := cnt_small (q := zs) h6
    obtain ⟨v, hv⟩ : ∃ v, v = cnt zs := ⟨_, rfl⟩
    obtain ⟨m, hm⟩ : ∃ m, m = ninv zs := ⟨_, rfl⟩
    obtain ⟨L, hL⟩ : ∃ L, L = lrF m zs X := ⟨_, rfl⟩
    rw [← hm] at HINV hm15 hlr hll ⊢
    rw [← hL] at hll ⊢
    rw [← hv] at HI hx1 hcs
    have HLR := Lib.hid hlr
    have HLL := Lib.hid hll
    have HLE := Lib.hid hL.symm
    have hXi : (X : Int) ≤ 30517578125 := by omega
    have hmk := run_make_row' (P := Tryz.prog) 22 3 (.int .i64 0) 8 Tryz.underlying22 infoInt rfl .i64 .i64 m (by omega) (by omega)
    clear hq hcg ho h2 h6 hlr hll hv hm hL
    go_enter Tryz.func34, Tryz.ntmps34
    go_wp2_with fail
    refine HI.out.mono ?_
    rintro e w1 ⟨rfl, hb⟩
    replace HB := belStep HB hb; replace HC := cellStep HC hb
    have HR1 := Lib.hid (HH.out.below HB.out (Nat.le_refl _))
    clear hb HI
    go_wp2_with fail
    refine (HINV.out _ HR1.out).mono ?_
    rintro e w2 ⟨rfl, hb⟩
    replace HB := belStep HB hb; replace HC := cellStep HC hb
    clear hb HINV HR1
    have HZ : Hid (w.heap.size < w2.heap.size) := Lib.hid HC.out.lt
    go_wp2
    have HO0 : Hid (OI (w2.alloc (.cells (madeCells #[.int .i64 0] m) 3)) w2.heap.size (some ⟨w2.heap.size, 0, none⟩) m m (List.replicate m 0)) :=
      Lib.hid (OI.of_rowIs (Nat.le_refl _) (World.rowIs_made w2 (.int .i64 0) m 3) (by unfold maxLen; omega) (by simp) (fun j hj => by simp [gi, List.getD, hj]))
    replace HB := belAlloc HB (.cells (madeCells #[.int .i64 0] m) 3)
    replace HC := cellAlloc HC (.cells (madeCells #[.int .i64 0] m) 3)
    obtain ⟨g, hg⟩ : ∃ g, g = w2.heap.size := ⟨_, rfl⟩
    rw [← hg] at HO0 HZ ⊢
    obtain ⟨w3, hw3⟩ : ∃ w3, w3 = w2.alloc (.cells (madeCells #[.int .i64 0] m) 3) := ⟨_, rfl⟩
    rw [← hw3] at HO0 HB HC ⊢
    have HG3 : Hid (g < w3.heap.size) := Lib.hid (by rw [hw3, hg]; simp)
    clear hw3 hg hmk
    go_loopw [1, 11, 12, 40] (fun s1 s11 _ i wr => ∃ (k R c4 : Nat) (A4 : Option Addr) (q ts : List Int), k ≤ m ∧ i = .int .i64 (k : Int) ∧ s1 = .int .i64 (R : Int) ∧ s11 = .slice A4 n c4 ∧ RI wr A4 n q ∧ (∀ b, blk A4 = some b → b ≠ g) ∧ OI wr g (some ⟨g, 0, none⟩) m m ts ∧ ts.take k ++ lrF (m - k) q R = L ∧ LR n q (m - k) R ∧ KB [g] w3 wr) (fun _ _ _ i _ => m - (intOf i).toNat)
    case atStart => exact ⟨0, X, c0, A0, zs, _, Nat.zero_le _, rfl, rfl, rfl, HH.out.below HB.out (Nat.le_refl _), fun b hb => by
      rcases Nat.eq_zero_or_pos n with h0 | h0
      · omega
      · obtain ⟨b', off, e, hbw, _⟩ := HH.out.2 h0
        rw [e] at hb
        have : b' = b := by simpa [blk] using hb
        have := HZ.out
        omega, HO0.out, by simpa using HLE.out, HLR.out, KB.refl _ _⟩
    case round =>
      obtain ⟨k, R, c4, A4, q, ts, hk, rfl, rfl, rfl, hri, hne, hoi, hLq, hlr, hkb⟩ := hrel
      obtain ⟨wo, hwo⟩ : ∃ wo, wo = wr := ⟨_, rfl⟩
      subst hwo
      have HRI := Lib.hid hri
      have HNE := Lib.hid hne
      have HOI := Lib.hid hoi
      have HLQ := Lib.hid hLq
      have HLK := Lib.hid hlr
      have HKB := Lib.hid hkb
      have HBW : Hid (Below w.heap.size w wo) := Lib.hid (HB.out.trans (hkb.below HB.out.size (fun j hj => by have := HZ.out; simp at hj; omega)))
      have HGW := Lib.hid (HGL.out.below HBW.out)
      clear hri hne hoi hLq hlr hkb
      by_cases hlt : k < m
      · have hmk1 : m - k = (m - (k + 1)) + 1 := by omega
        rw [hmk1] at HLK HLQ
        obtain ⟨hs1, hs2, hs3⟩ := HLK.out.step
        have hRc : R ≤ 30517578125 := by have := HLK.out.lt; have := cnt_small (q := q) (by rw [HLK.out.ok.2]; exact h6n); omega
        have HFO := Lib.hid (firstOfRank_any A4 n c4 q R wo HRI.out HLK.out.ok h2n h6n hs2 hRc HGW.out)
        have HLS : Hid (lrF (m - (k + 1) + 1) q R = ((frs q (n - 1) 0 R).1 : Int) :: lrF (m - (k + 1)) (exch q (frs q (n - 1) 0 R).1) (frs q (n - 1) 0 R).2) := by
          show _ = _
          simp only [lrF]
          rw [HLK.out.ok.2]
        obtain ⟨S1, hS1⟩ : ∃ S1, S1 = (frs q (n - 1) 0 R).1 := ⟨_, rfl⟩
        obtain ⟨S2, hS2⟩ : ∃ S2, S2 = (frs q (n - 1) 0 R).2 := ⟨_, rfl⟩
        rw [← hS1] at hs1
        rw [← hS1, ← hS2] at hs3 HFO HLS
        have HS3 := Lib.hid hs3
        clear hS1 hS2 hs2 hs3 hmk1
        go_wp2_with fail
        refine HFO.out.mono ?_
        rintro e w5 ⟨rfl, hb5⟩
        have HB5 := Lib.hid hb5
        have HO5 := Lib.hid (HOI.out.below hb5)
        have HR5 := riStep HRI hb5
        have fk : w5.frozen? ⟨g, k, none⟩ = false := HO5.out.2.frozenAt k
        have hck := HO5.out.cells k hlt
        have HO6 : Hid (OI (w5.setCell ⟨g, k, none⟩ (.int .i64 (S1 : Int))) g (some ⟨g, 0, none⟩) m m (ts.set k (S1 : Int))) := Lib.hid (HO5.out.stored k _)
        have HR6 : Hid (RI (w5.setCell ⟨g, k, none⟩ (.int .i64 (S1 : Int))) A4 n q) := Lib.hid (HR5.out.kept (grown_setCell (grown_refl _ _) (.inl rfl) _) (fun b hb e => by injection e with e; exact HNE.out b hb e.symm))
        have hck6 : (w5.setCell ⟨g, k, none⟩ (.int .i64 (S1 : Int))).cell? ⟨g, k, none⟩ = some (.int .i64 (S1 : Int)) := World.cell?_setCell_same _ _ _ hck
        have HK6 : Hid (KB [g] w3 (w5.setCell ⟨g, k, none⟩ (.int .i64 (S1 : Int)))) := Lib.hid ((HKB.out.grown (grown_of_below hb5 none) (fun j hj => by cases hj)).grown (grown_setCell (grown_refl _ (some g)) (.inl rfl) _) (fun j hj => by injection hj with hj; subst hj; left; simp))
        clear hb5 HFO
        go_wp2_with fail
        refine (restBelow_any A4 n c4 q S1 _ HR6.out (by omega) hs1).mono ?_
        rintro e w6 ⟨A6, c6, rfl, o6, hb6⟩
        have HO7 := Lib.hid o6
        have HB6 := Lib.hid hb6
        have hg6 : g < (w5.setCell ⟨g, k, none⟩ (.int .i64 (S1 : Int))).heap.size := (HO6.out.blk g rfl).2
        clear o6 hb6
        go_wp2
        go_roundw
        case rel =>
          refine ⟨k + 1, S2, c6, A6, exch q S1, ts.set k (S1 : Int), by omega, by go_num, rfl, rfl, HO7.out.ri, fun b hb => by have := (HO7.out.blk b hb).1; omega, HO6.out.below HB6.out, ?_, HS3.out, HK6.out.grown (grown_of_below HB6.out none) (fun j hj => by cases hj)⟩
          rw [take_set (by rw [HOI.out.1]; exact hlt), List.append_assoc]
          have := HLQ.out
          rw [HLS.out] at this
          exact this
        case measure => simp [intOf]; omega
      · obtain rfl : k = m := by omega
        have e : ts = L := by
          have := HLQ.out
          rw [Nat.sub_self, List.take_of_length_le (by rw [HOI.out.1]; exact Nat.le_refl _)] at this
          simpa [lrF] using this
        subst e
        have HCW : Hid (Cell2 wo w.heap.size (.int .i64 0) (.slice none 0 0)) := Lib.hid (Cell2.kb HKB.out HC.out (by have := HZ.out; simp; omega))
        have HLO := Lib.hid (ladderOf_one n (some ⟨g, 0, none⟩) k k ts wo HOI.out.ri (by omega) HLL.out)
        go_wp2_with fail
        refine HLO.out.mono ?_
        rintro e w6 ⟨A7, c7, rfl, o7, hb⟩
        replace HB := belStep (belAlloc HBW _) hb
        replace HC := cellStep (cellAlloc HCW _) hb
        have O8 := Lib.hid o7
        have k0 := HC.out.c0; have k1 := HC.out.c1; have f0 := HC.out.f0; have f1 := HC.out.f1; have hz3 := HC.out.lt
        have hs3 : w.heap.size < (wo.alloc (.cells #[.slice (some ⟨g, 0, none⟩) k k] 22)).heap.size := by have := HCW.out.lt; simp; omega
        clear hb o7
        go_wp2
        try simp only [Exit.jump]
        exact bodyPost_ret (v := .tuple #[.agg #[.int .i64 n, .slice A7 k c7], .bool true]) (by simp [results, Tryz.results34, go_sem, k0, k1]) rfl
          ⟨A7, c7, rfl, ((O8.out.setBelow hs3 _).setBelow hs3 _).mono (Nat.le_of_lt hs3), (by repeat (first | exact Below.refl _ _ | exact HB.out | refine Below.setCell ?_ (by simp <;> omega) _ | refine Below.alloc ?_ (by simp <;> omega) _ | refine below_drewN ?_ _))⟩
end Go.Proofs.YtgeeifjbfceogaaGreatDoor
namespace Go.Proofs.YtgeeifjbfceogaaGreatDoor
open Go Go.RowKit

theorem KB.drewN' {L : List Nat} {a b : World} (h : KB L a b) (k : Nat) : KB L a (b.drewN k) := ⟨h.os, h.tape, h.output, h.size, h.block⟩
theorem Ctr.kb {L : List Nat} {a b : World} {g r n N c : Nat} {ks : List Int} (h : KB L a b) (hc : Ctr a g r n N c ks) (hg : g ∉ L) (hr : r ∉ L) : Ctr b g r n N c ks :=
  ⟨(World.cell?_of_block (a := ⟨g, 0, none⟩) (h.block g hc.lt hg)).trans hc.cell, h.oi hc.row (fun j hj => by simp [blk] at hj; subst hj; exact hr), hc.kn, hc.ne, Nat.lt_of_lt_of_le hc.lt h.size⟩

theorem Ctr.grown {a b : World} {g r n N c : Nat} {ks : List Int} {row : Option Nat} (h : a.grownBy b row) (hc : Ctr a g r n N c ks) (hg : some g ≠ row) (hr : some r ≠ row) : Ctr b g r n N c ks :=
  ⟨(World.cell?_of_block (a := ⟨g, 0, none⟩) (h.block g hc.lt hg)).trans hc.cell, hc.row.kept h (fun j hj e => by simp [blk] at hj; subst hj; exact hr e.symm), hc.kn, hc.ne, Nat.lt_of_lt_of_le hc.lt h.size⟩
theorem cell2_grown {a b : World} {row : Option Nat} (h : a.grownBy b row) {x : Nat} {u v : Value} (hx : Cell2 a x u v) (hn : some x ≠ row) : Cell2 b x u v := by
  have e := h.block x hx.lt hn
  exact ⟨(World.cell?_of_block (a := ⟨x, 0, none⟩) e).trans hx.c0, (World.cell?_of_block (a := ⟨x, 1, none⟩) e).trans hx.c1, (World.frozen?_of_block (a := ⟨x, 0, none⟩) e).trans hx.f0, (World.frozen?_of_block (a := ⟨x, 1, none⟩) e).trans hx.f1, Nat.lt_of_lt_of_le hx.lt h.size⟩

set_option maxRecDepth 100000 in
set_option maxHeartbeats 16000000 in
theorem sLeastOfRank_any (A0 : Option Addr) (n c0 : Nat) (zs : List Int) (x : Int) (w : World) (h : RI w A0 n zs) (hn : n ≤ 1048576) (hnc : n ≤ c0) :
    Calls Tryz.prog 33 #[.slice A0 n c0, .int .i64 x] w (FreshLB w (ifW (lrQ zs x) n) (lrL zs x).length (lrL zs x) (lrQ zs x)) := by
  have hl := h.1
  have HB := belAlloc (belRefl (w := w)) (.cells #[.int .i64 0, .slice none 0 0] 44)
  have HC := cellNew w (.int .i64 0) (.slice none 0 0) 44
  have HI := Lib.hid (alGood_any A0 n c0 zs _ (h.alloc (.cells #[.int .i64 0, .slice none 0 0] 44)) hn hnc)
  have HH := Lib.hid h
  clear h
  by_cases hcg : cg zs = true
  · rw [hcg] at HI
    obtain ⟨ho, h2, h6⟩ := cg_iff.1 hcg
    have h2n : 2 ≤ n := by omega
    have h6n : n ≤ 6 := by omega
    by_cases hx0 : x < 0
    · have hq : lrQ zs x = false := by unfold lrQ; rw [decide_eq_false (by omega), Bool.and_false]
      rw [show lrL zs x = [] by unfold lrL; rw [hq, ifL_no], hq, ifW_no]
      have k0 := HC.out.c0; have k1 := HC.out.c1; have f0 := HC.out.f0; have f1 := HC.out.f1; have hz := HC.out.lt
      clear hq hcg ho h2 h6
      go_enter Tryz.func33, Tryz.ntmps33
      go_wp2_with fail
      refine HI.out.mono ?_
      rintro e w1 ⟨rfl, rfl⟩
      go_wp2
      exact bodyPost_ret (v := .tuple #[.agg #[.int .i64 0, .slice none 0 0], .bool false]) (by simp [results, Tryz.results33, go_sem, k0, k1]) rfl ⟨none, 0, rfl, OI.none_ _ _, (by repeat (first | exact Below.refl _ _ | exact HB.out | refine Below.setCell ?_ (by simp <;> omega) _ | refine Below.alloc ?_ (by simp <;> omega) _ | refine below_drewN ?_ _))⟩
    · obtain ⟨X, rfl⟩ : ∃ X : Nat, x = (X : Int) := ⟨x.toNat, by omega⟩
      have HOR := Lib.hid ho
      have hcs := cnt_small (q := zs) h6
      have HBLA : Hid (∀ b, blk A0 = some b → b < w.heap.size) := Lib.hid (fun b hb => by
        obtain ⟨b', off, e, hbw, _⟩ := HH.out.2 (by omega)
        rw [e] at hb
        have : b' = b := by simpa [blk] using hb
        omega)
      by_cases hxc : X < cnt zs
      · have hq : lrQ zs (X : Int) = true := lrQ_iff.2 ⟨hcg, by omega, by omega⟩
        have hlr := lrQ_LR hq
        rw [show lrL zs (X : Int) = lrF (ninv zs) zs X by unfold lrL; rw [hq, ifL_yes, Int.toNat_natCast], hq, ifW_yes, lrF_len]
        rw [Int.toNat_natCast, hl] at hlr
        have hm15 : ninv zs ≤ 15 := ninv_six h6
        obtain ⟨v, hv⟩ : ∃ v, v = cnt zs := ⟨_, rfl⟩
        have HV := Lib.hid hv.symm
        obtain ⟨m, hm⟩ : ∃ m, m = ninv zs := ⟨_, rfl⟩
        have HM := Lib.hid hm.symm
        obtain ⟨L, hL⟩ : ∃ L, L = lrF m zs X := ⟨_, rfl⟩
        rw [← hm] at hm15 hlr ⊢
        rw [← hL]
        rw [← hv] at hxc hcs
        have HLR := Lib.hid hlr
        have HLE := Lib.hid hL.symm
        have hXi : (X : Int) ≤ 30517578125 := by omega
        have hXv : (X : Int) < (v : Int) := by omega
        clear hq hcg ho h2 h6 hlr hv hm hL
        go_enter Tryz.func33, Tryz.ntmps33
        go_wp2_with fail
        refine HI.out.mono ?_
        rintro e w1 ⟨rfl, rfl⟩
        clear HI
        go_wp2_with fail
        refine (alNew_any n _ h2n h6n).mono ?_
        rintro e w2 ⟨g, r, cc, ks0, rfl, hc, hr, hg, hb⟩
        have HCT := Lib.hid hc
        have HWR : Hid (w.heap.size < r ∧ w.heap.size < g) := Lib.hid (by simp at hr hg; omega)
        replace HB := belStep HB hb; replace HC := cellStep HC hb
        have HR2 := Lib.hid (HH.out.below HB.out (Nat.le_refl _))
        clear hb hc hr hg
        go_wp2_with fail
        refine (count_any n h2n h6n g r cc (fac n) rfl (ninv zs + 1) zs HOR.out hl (Nat.lt_succ_self _) A0 c0 ks0 w2 HR2.out hnc (fun b hb => by have := HBLA.out b hb; have := HWR.out; omega) HCT.out).mono ?_
        rw [HV.out]
        rintro e w3 ⟨rfl, ks1, hc, hgr⟩
        have HK3 : Hid (KB [r] w2 w3) := Lib.hid ((KB.refl _ _).grown hgr (fun j hj => by injection hj with hj; subst hj; left; simp))
        replace HB := Lib.hid (HB.out.trans (HK3.out.below HB.out.size (fun j hj => by have := HWR.out; simp at hj; omega)))
        replace HC := Lib.hid (Cell2.kb HK3.out HC.out (by have := HWR.out; simp; omega))
        replace HCT := Lib.hid hc
        replace HR2 := Lib.hid (HH.out.below HB.out (Nat.le_refl _))
        clear hc hgr HK3
        go_wp2_with fail
        have HX7 := cellNew w3 (.int .i64 (n : Int)) (.slice none 0 0) 44
        have HCT4 := Lib.hid (HCT.out.below ((Below.refl _ w3).alloc (Nat.le_refl _) (.cells #[.int .i64 (n : Int), .slice none 0 0] 44)))
        replace HB := belAlloc HB (.cells #[.int .i64 (n : Int), .slice none 0 0] 44)
        replace HC := cellAlloc HC (.cells #[.int .i64 (n : Int), .slice none 0 0] 44)
        have HW37 : Hid (w.heap.size < w3.heap.size ∧ r < w3.heap.size ∧ g < w3.heap.size) := Lib.hid ⟨by have := HWR.out; have := HCT.out.rlt; omega, HCT.out.rlt, HCT.out.lt⟩
        refine (lsInversions_any A0 n c0 zs _ (HR2.out.alloc _) (by omega)).mono ?_
        rw [show FreshSS (w3.alloc (.cells #[.int .i64 (n : Int), .slice none 0 0] 44)) (invs zs) = fun e w' => ∃ A c M S, e = .returned (.slice A (invs zs).length c) ∧ OII w' (w3.alloc (.cells #[.int .i64 (n : Int), .slice none 0 0] 44)).heap.size M A (invs zs).length c (invs zs) S ∧ Below (w3.alloc (.cells #[.int .i64 (n : Int), .slice none 0 0] 44)).heap.size (w3.alloc (.cells #[.int .i64 (n : Int), .slice none 0 0] 44)) w' from rfl, invs_ninv, HM.out]
        rintro e w4 ⟨A4, c4, M4, S4, rfl, _, hb⟩
        replace HB := belStep HB hb; replace HC := cellStep HC hb; replace HX7 := cellStep HX7 hb
        replace HCT := Lib.hid (HCT4.out.below hb)
        replace HR2 := Lib.hid (HH.out.below HB.out (Nat.le_refl _))
        obtain ⟨b7, hb7⟩ : ∃ b7, b7 = w3.heap.size := ⟨_, rfl⟩
        rw [← hb7] at HX7 HW37 ⊢
        have HZ4 : Hid (b7 < w4.heap.size) := Lib.hid HX7.out.lt
        clear hb hb7 HCT4
        go_wp2
        have HBL4 : Hid (∀ b, blk A0 = some b → b < w.heap.size) := HBLA
        go_loopw [0, 1, 8] (fun s0 s1 s8 wr => ∃ (left R cq co : Nat) (Aq Ao : Option Addr) (q os ks : List Int), left ≤ m ∧ s8 = .int .i64 (left : Int) ∧ s1 = .int .i64 (R : Int) ∧ s0 = .slice Aq n cq ∧ n ≤ cq ∧ RI wr Aq n q ∧ (∀ b, blk Aq = some b → b ≠ r ∧ b ≠ b7 ∧ blk Ao ≠ some b) ∧ Cell2 wr b7 (.int .i64 (n : Int)) (.slice Ao (m - left) co) ∧ OI wr w4.heap.size Ao (m - left) co os ∧ os ++ lrF left q R = L ∧ LR n q left R ∧ Ctr wr g r n (fac n) cc ks ∧ KB [r, b7] w4 wr) (fun _ _ s8 _ => (intOf s8).toNat)
        case atStart => exact ⟨m, X, c0, 0, A0, none, zs, [], ks1, Nat.le_refl _, rfl, rfl, rfl, hnc, HR2.out, fun b hb => by have := HBL4.out b hb; have := HWR.out; have := HW37.out; exact ⟨by omega, by omega, by simp [blk]⟩, by rw [Nat.sub_self]; exact HX7.out, by rw [Nat.sub_self]; exact OI.none_ _ _, HLE.out, HLR.out, HCT.out, KB.refl _ _⟩
        case round =>
          obtain ⟨left, R, cq, co, Aq, Ao, q, os, ks, hlf, rfl, rfl, rfl, hcq, hri, hne, hx7, hoi, hLq, hlr, hct, hkb⟩ := hrel
          obtain ⟨wo, hwo⟩ : ∃ wo, wo = wr := ⟨_, rfl⟩
          subst hwo
          have HRI := Lib.hid hri
          have HNE := Lib.hid hne
          have HXX := Lib.hid hx7
          have HOI := Lib.hid hoi
          have HLQ := Lib.hid hLq
          have HLK := Lib.hid hlr
          have HCK := Lib.hid hct
          have HKB := Lib.hid hkb
          clear hri hne hx7 hoi hLq hlr hct hkb
          rcases Nat.eq_zero_or_pos left with h0 | hpos
          · subst h0
            have e : os = L := by have := HLQ.out; simpa [lrF] using this
            subst e
            have HCW : Hid (Cell2 wo w.heap.size (.int .i64 0) (.slice none 0 0)) := Lib.hid (Cell2.kb HKB.out HC.out (by have := HWR.out; have := HW37.out; simp; omega))
            have k0 := HCW.out.c0; have k1 := HCW.out.c1; have f0 := HCW.out.f0; have f1 := HCW.out.f1; have hz := HCW.out.lt
            have x0 := HXX.out.c0; have x1 := HXX.out.c1; have xz := HXX.out.lt
            have hw4 : w.heap.size < w4.heap.size := by have := HZ4.out; have := HW37.out; omega
            have HBE : Hid (Below w.heap.size w wo) := Lib.hid (HB.out.trans (HKB.out.below HB.out.size (fun j hj => by have := HWR.out; have := HW37.out; simp at hj; omega)))
            replace HB := HBE
            go_wp2
            exact bodyPost_ret (v := .tuple #[.agg #[.int .i64 n, .slice Ao m co], .bool true]) (by simp [results, Tryz.results33, go_sem, k0, k1]) rfl
              ⟨Ao, co, rfl, (((HOI.out.setBelow hw4 _).setBelow hw4 _).mono (B' := w.heap.size) (Nat.le_of_lt hw4)), (by repeat (first | exact Below.refl _ _ | exact HB.out | refine Below.setCell ?_ (by simp <;> omega) _ | refine Below.alloc ?_ (by simp <;> omega) _ | refine below_drewN ?_ _))⟩
          · obtain ⟨l, rfl⟩ : ∃ l, left = l + 1 := ⟨left - 1, by omega⟩
            obtain ⟨hs1, hs2, hs3⟩ := HLK.out.step
            have hRc : R ≤ 30517578125 := by have := HLK.out.lt; have := cnt_small (q := q) (by rw [HLK.out.ok.2]; exact h6n); omega
            have HLS : Hid (lrF (l + 1) q R = ((frs q (n - 1) 0 R).1 : Int) :: lrF l (exch q (frs q (n - 1) 0 R).1) (frs q (n - 1) 0 R).2) := by
              show _ = _
              simp only [lrF]
              rw [HLK.out.ok.2]
            have HST : Hid (R < tl q (n - 1) 0) := Lib.hid hs2
            obtain ⟨S, hS⟩ : ∃ S, S = frs q (n - 1) 0 R := ⟨_, rfl⟩
            rw [← hS] at hs1 hs3 HLS
            have HS3 := Lib.hid hs3
            have HSS := Lib.hid hS.symm
            clear hs2 hs3 hS
            have hli : (0 : Int) < (l : Int) + 1 := by omega
            go_wp2
            try rw [show decide (0 < (l : Int) + 1) = true from decide_eq_true hli]
            go_loopw [0, 1, 9] (fun s0 s1 s9 wi => ∃ (i R1 : Nat) (ks : List Int), s0 = .slice Aq n cq ∧ i + 1 ≤ n ∧ s9 = .int .i64 (i : Int) ∧ s1 = .int .i64 (R1 : Int) ∧ frs q (n - 1 - i) i R1 = S ∧ R1 < tl q (n - 1 - i) i ∧ R1 ≤ 30517578125 ∧ Ctr wi g r n (fac n) cc ks ∧ KB [r] wo wi) (fun _ _ s9 _ => n - (intOf s9).toNat)
            case atStart => exact ⟨0, R, ks, rfl, by omega, rfl, rfl, HSS.out, HST.out, hRc, HCK.out, KB.refl _ _⟩
            case round =>
              obtain ⟨i, R1, ks2, rfl, hi, rfl, rfl, hf, ht, hr1, hct, hkb⟩ := hrel
              have HC1 := Lib.hid hct
              have HK1 := Lib.hid hkb
              clear hct hkb
              have hi1 : i + 1 < n := by
                rcases Nat.lt_or_ge (i + 1) n with h1 | h1
                · exact h1
                · rw [show n - 1 - i = 0 by omega] at ht
                  simp [tl] at ht
              rw [show n - 1 - i = (n - 1 - (i + 1)) + 1 by omega] at hf ht
              simp only [frs] at hf
              simp only [tl] at ht
              have HRJ : Hid (RI wr Aq n q) := Lib.hid (HRI.out.kept (row := some r) ⟨HK1.out.os, HK1.out.tape, HK1.out.output, HK1.out.size, fun j hj hne => HK1.out.block j hj (by simp; intro e; exact hne (by rw [e]))⟩ (fun b hb e => by injection e with e; exact (HNE.out b hb).1 e.symm))
              obtain ⟨bq, offq, hAq, _, hcq'⟩ := HRJ.out.cell (show i < n by omega)
              have hq0 := hcq' i (by omega)
              have hq1 := hcq' (i + 1) hi1
              have hlti : (i : Int) + 1 < (n : Int) := by omega
              clear hcq'
              by_cases hd : gi q (i + 1) < gi q i
              · have HD := Lib.hid hd
                have hcs2 := cnt_small (q := exch q i) (by rw [exch_length, HLK.out.ok.2]; exact h6n)
                rw [cfI_yes hd] at hf ht
                have HIN := Lib.hid (HLK.out.ok.exch (i := i) (by omega))
                obtain ⟨u, hu⟩ : ∃ u, u = cnt (exch q i) := ⟨_, rfl⟩
                rw [← hu] at hf ht hcs2
                have HU := Lib.hid hu
                have HF := Lib.hid hf
                have HT := Lib.hid ht
                have hd1 : gi q (i + 1) ≤ gi q i := by omega
                subst hAq
                clear hu hf ht
                go_wp2
                go_quiet (fail)
                go_wp2_with fail
                refine (alSwap_any _ n cq q i _ (HRJ.out.drewN _) (by omega) hi1).mono ?_
                rintro e w5 ⟨A5, c5, rfl, o5, hb5⟩
                have HO5 := Lib.hid o5
                have HB5 := Lib.hid hb5
                have HC5 := Lib.hid ((HC1.out.drewN nq).below hb5)
                clear o5 hb5
                go_wp2_with fail
                refine (count_any n h2n h6n g r cc (fac n) rfl (ninv (exch q i) + 1) (exch q i) HIN.out.1 HIN.out.2 (Nat.lt_succ_self _) A5 c5 ks2 w5 HO5.out.ri HO5.out.le (fun b hb => by have h1 := (HO5.out.blk b hb).1; have h2 := HC1.out.rlt; simp at h1; omega) HC5.out).mono ?_
                rintro e w6 ⟨rfl, ks3, hc6, hg6⟩
                have HC6 := Lib.hid hc6
                have HK6 : Hid (KB [r] wo w6) := Lib.hid ((((HK1.out.drewN' nq).grown (grown_of_below HB5.out none) (fun j hj => by cases hj))).grown hg6 (fun j hj => by injection hj with hj; subst hj; left; simp))
                rw [← HU.out]
                clear hc6 hg6
                by_cases hru : R1 < u
                · have HFF := HF.out
                  rw [if_pos hru] at HFF
                  have HFG := Lib.hid HFF
                  clear HFF HF HT
                  have hrui : (R1 : Int) < (u : Int) := by omega
                  have HX6 : Hid (Cell2 w6 b7 (.int .i64 (n : Int)) (.slice Ao (m - (l + 1)) co)) := Lib.hid (Cell2.kb HK6.out HXX.out (by have := HW37.out; simp; omega))
                  have x0 := HX6.out.c0; have x1 := HX6.out.c1; have xf0 := HX6.out.f0; have xf1 := HX6.out.f1; have xz := HX6.out.lt
                  have HO6 : Hid (OI w6 w4.heap.size Ao (m - (l + 1)) co os) := Lib.hid (HK6.out.oi HOI.out (fun j hj => by have h1 := (HOI.out.blk j hj).1; have := HW37.out; have := HZ4.out; simp; omega))
                  have hAob : ∀ j, blk Ao = some j → w4.heap.size ≤ j := fun j hj => (HOI.out.blk j hj).1
                  have HR6 : Hid (RI w6 (some ⟨bq, offq, none⟩) n q) := Lib.hid (HRI.out.kept (row := some r) ⟨HK6.out.os, HK6.out.tape, HK6.out.output, HK6.out.size, fun j hj hne => HK6.out.block j hj (by simp; intro e; exact hne (by rw [e]))⟩ (fun b hb e => by injection e with e; exact (HNE.out b hb).1 e.symm))
                  have hk46 : w4.heap.size ≤ w6.heap.size := Nat.le_trans HKB.out.size HK6.out.size
                  have hol : m - (l + 1) ≤ 100 := by omega
                  clear hq0 hq1
                  go_wp2_with (at_builtin; refine wpList_append_int _ rfl _ _ rfl w4.heap.size Ao (m - (l + 1)) co _ (i : Int) _ rfl rfl (HO6.out.alloc _) (cellNewAt _ _ _ rfl) (by omega) (by simp; omega) ?_; intro A7 c7 w7 ho7 hg7; have HO7 := Lib.hid ho7; have HG7 := Lib.hid hg7; have HX7' : Hid (Cell2 w7 b7 (.int .i64 (n : Int)) (.slice Ao (m - (l + 1)) co)) := Lib.hid (cell2_grown hg7 (cellAlloc HX6 _).out (fun e => by have := hAob b7 e.symm; have := HZ4.out; omega)); clear x0 x1 xf0 xf1 xz ho7 hg7; have x0 := HX7'.out.c0; have x1 := HX7'.out.c1; have xf0 := HX7'.out.f0; have xf1 := HX7'.out.f1; have xz := HX7'.out.lt)
                  have HR7 : Hid (RI (w7.setCell ⟨b7, 1, none⟩ (.slice A7 (m - (l + 1) + 1) c7)) (some ⟨bq, offq, none⟩) n q) := Lib.hid (((HR6.out.alloc _).kept HG7.out (fun b hb e => (HNE.out b hb).2.2 e)).kept (grown_setCell (grown_refl _ (some b7)) (.inl rfl) _) (fun b hb e => by injection e with e; exact (HNE.out b hb).2.1 e.symm))
                  refine (alSwap_any _ n cq q i _ HR7.out (by omega) hi1).mono ?_
                  rintro e w8 ⟨A8, c8, rfl, o8, hb8⟩
                  have HO8 := Lib.hid o8
                  have HB8 := Lib.hid hb8
                  have HK48 : Hid (KB [r, b7] w4 w6) := Lib.hid (HKB.out.trans ⟨HK6.out.os, HK6.out.tape, HK6.out.output, HK6.out.size, fun j hj hn => HK6.out.block j hj (fun hm => hn (by simp at hm ⊢; exact .inl hm))⟩)
                  have HG67 : Hid (KB [r, b7] w4 w8) := Lib.hid ((((HK48.out.alloc _).grown HG7.out (fun j hj => by right; exact hAob j hj)).grown (grown_setCell (grown_refl _ (some b7)) (.inl rfl) _) (fun j hj => by injection hj with hj; subst hj; left; simp)).grown (grown_of_below hb8 none) (fun j hj => by cases hj))
                  have HCT8 : Hid (Ctr w8 g r n (fac n) cc ks3) := Lib.hid (Ctr.below (Ctr.grown (grown_setCell (grown_refl _ (some b7)) (.inl rfl) _) (Ctr.grown HG7.out (HC6.out.below ((Below.refl _ w6).alloc (Nat.le_refl _) _)) (fun e => by have h1 := hAob g e.symm; have h2 := HW37.out; have h3 := HZ4.out; omega) (fun e => by have h1 := hAob r e.symm; have h2 := HW37.out; have h3 := HZ4.out; omega)) (by have := HW37.out; simp; omega) (by have := HW37.out; simp; omega)) hb8)
                  have HX8 : Hid (Cell2 w8 b7 (.int .i64 (n : Int)) (.slice A7 (m - (l + 1) + 1) c7)) := cellStep (Lib.hid ⟨by rw [World.cell?_setCell_other _ _ _ _ (by intro e; simp at e)]; exact HX7'.out.c0, World.cell?_setCell_same _ _ _ HX7'.out.c1, by rw [World.frozen?_setCell]; exact HX7'.out.f0, by rw [World.frozen?_setCell]; exact HX7'.out.f1, by simpa using HX7'.out.lt⟩) hb8
                  have HO78 : Hid (OI w8 w4.heap.size A7 (m - (l + 1) + 1) c7 (os ++ [(i : Int)])) := Lib.hid ((HO7.out.setBelow (by have := HZ4.out; exact this) _).below hb8)
                  have hA78 : ∀ b, blk A7 = some b → b < (w7.setCell ⟨b7, 1, none⟩ (.slice A7 (m - (l + 1) + 1) c7)).heap.size := fun b hb => by have := (HO7.out.blk b hb).2; simpa using this
                  clear o8 hb8
                  have hml : m - (l + 1) + 1 = m - l := by omega
                  rw [hml] at HX8 HO78
                  have HSL := HLS.out
                  rw [← HFG.out] at HSL HS3
                  have HSM := Lib.hid HSL
                  clear HSL hml
                  go_wp2
                  go_roundw
                  case rel =>
                    refine ⟨l, R1, c8, c7, A8, A7, exch q i, os ++ [(i : Int)], ks3, by omega, by go_num, rfl, rfl, HO8.out.le, HO8.out.ri, fun b hb => ?_, HX8.out, HO78.out, ?_, HS3.out, HCT8.out, HG67.out⟩
                    · have h1 := (HO8.out.blk b hb).1
                      have h2 := HW37.out
                      have h3 := HZ4.out
                      have h4 := HG7.out.size
                      simp at h1 h4
                      refine ⟨by omega, by omega, fun e => ?_⟩
                      have := hA78 b e
                      simp at this
                      omega
                    · have := HLQ.out
                      rw [HSM.out] at this
                      rw [List.append_assoc]
                      exact this
                  case measure => simp [intOf]
                · have HFF := HF.out
                  rw [if_neg hru] at HFF
                  have HFG := Lib.hid HFF
                  have HTT : Hid (R1 - u < tl q (n - 1 - (i + 1)) (i + 1)) := Lib.hid (by have := HT.out; omega)
                  have hge : u ≤ R1 := by omega
                  have hgei : (u : Int) ≤ (R1 : Int) := by omega
                  clear HFF HF HT hq0 hq1 hru
                  go_wp2
                  go_roundw
                  case rel =>
                    first
                      | exact ⟨i + 1, R1 - u, ks3, rfl, by omega, by go_num, by rw [Int.ofNat_sub hge], HFG.out, HTT.out, by omega, HC6.out, HK6.out⟩
                      | exact ⟨_, .int .i64 ((R1 : Int) - (u : Int)), .int .i64 ((i : Int) + 1), _, _, _, _, _, _, _, _, _, _, _, _, _, _, _, _, _, _, _, _, _, _, _, _, _, _, _, _, _, _, _, _, _, _, _, _, _, _, ⟨i + 1, R1 - u, ks3, rfl, by omega, by go_num, by rw [Int.ofNat_sub hge], HFG.out, HTT.out, by omega, HC6.out, HK6.out⟩, rfl⟩
                  case measure => simp [intOf]; omega
              · have hd1 : gi q i < gi q (i + 1) := by
                  have := nodup_gi.1 (ord_iff.1 HLK.out.ok.1).2.2.2 i (i + 1) (Nat.lt_succ_self _) (by rw [HLK.out.ok.2]; exact hi1)
                  omega
                rw [cfI_no HLK.out.ok.1 (by rw [HLK.out.ok.2]; exact hi1) hd] at hf ht
                rw [if_neg (by omega), Nat.sub_zero] at hf
                rw [Nat.zero_add] at ht
                have HF := Lib.hid hf
                have HT := Lib.hid ht
                subst hAq
                clear hf ht hd
                go_wp2
                go_quiet (fail)
                go_wp2
                go_roundw
                case rel => exact ⟨i + 1, R1, ks2, rfl, by omega, by go_num, rfl, HF.out, HT.out, hr1, HC1.out.drewN _, HK1.out.drewN' _⟩
                case measure => simp [intOf]; omega
      · have hq : lrQ zs (X : Int) = false := by unfold lrQ; rw [decide_eq_false (by omega), Bool.and_false]
        rw [show lrL zs (X : Int) = [] by unfold lrL; rw [hq, ifL_no], hq, ifW_no]
        obtain ⟨v, hv⟩ : ∃ v, v = cnt zs := ⟨_, rfl⟩
        have HV := Lib.hid hv.symm
        rw [← hv] at hxc
        have hvx : (v : Int) ≤ (X : Int) := by omega
        clear hq hcg ho h2 h6 hv hxc
        go_enter Tryz.func33, Tryz.ntmps33
        go_wp2_with fail
        refine HI.out.mono ?_
        rintro e w1 ⟨rfl, rfl⟩
        clear HI
        go_wp2_with fail
        refine (alNew_any n _ h2n h6n).mono ?_
        rintro e w2 ⟨g, r, cc, ks0, rfl, hc, hr, hg, hb⟩
        have HCT := Lib.hid hc
        have HWR : Hid (w.heap.size < r ∧ w.heap.size < g) := Lib.hid (by simp at hr hg; omega)
        replace HB := belStep HB hb; replace HC := cellStep HC hb
        have HR2 := Lib.hid (HH.out.below HB.out (Nat.le_refl _))
        clear hb hc hr hg
        go_wp2_with fail
        refine (count_any n h2n h6n g r cc (fac n) rfl (ninv zs + 1) zs HOR.out hl (Nat.lt_succ_self _) A0 c0 ks0 w2 HR2.out hnc (fun b hb => by have := HBLA.out b hb; have := HWR.out; omega) HCT.out).mono ?_
        rw [HV.out]
        rintro e w3 ⟨rfl, ks1, hc, hgr⟩
        have HK3 : Hid (KB [r] w2 w3) := Lib.hid ((KB.refl _ _).grown hgr (fun j hj => by injection hj with hj; subst hj; left; simp))
        replace HB := Lib.hid (HB.out.trans (HK3.out.below HB.out.size (fun j hj => by have := HWR.out; simp at hj; omega)))
        replace HC := Lib.hid (Cell2.kb HK3.out HC.out (by have := HWR.out; simp; omega))
        have k0 := HC.out.c0; have k1 := HC.out.c1; have f0 := HC.out.f0; have f1 := HC.out.f1; have hz := HC.out.lt
        clear hc hgr HK3
        go_wp2
        exact bodyPost_ret (v := .tuple #[.agg #[.int .i64 0, .slice none 0 0], .bool false]) (by simp [results, Tryz.results33, go_sem, k0, k1]) rfl ⟨none, 0, rfl, OI.none_ _ _, (by repeat (first | exact Below.refl _ _ | exact HB.out | refine Below.setCell ?_ (by simp <;> omega) _ | refine Below.alloc ?_ (by simp <;> omega) _ | refine below_drewN ?_ _))⟩
  · have hcg' : cg zs = false := by simpa using hcg
    have hq : lrQ zs x = false := by unfold lrQ; rw [hcg', Bool.false_and]
    rw [show lrL zs x = [] by unfold lrL; rw [hq, ifL_no], hq, ifW_no]
    rw [hcg'] at HI
    have k0 := HC.out.c0; have k1 := HC.out.c1; have f0 := HC.out.f0; have f1 := HC.out.f1; have hz := HC.out.lt
    clear hq hcg hcg'
    go_enter Tryz.func33, Tryz.ntmps33
    go_wp2_with fail
    refine HI.out.mono ?_
    rintro e w1 ⟨rfl, rfl⟩
    go_wp2
    exact bodyPost_ret (v := .tuple #[.agg #[.int .i64 0, .slice none 0 0], .bool false]) (by simp [results, Tryz.results33, go_sem, k0, k1]) rfl ⟨none, 0, rfl, OI.none_ _ _, (by repeat (first | exact Below.refl _ _ | exact HB.out | refine Below.setCell ?_ (by simp <;> omega) _ | refine Below.alloc ?_ (by simp <;> omega) _ | refine below_drewN ?_ _))⟩
end Go.Proofs.YtgeeifjbfceogaaGreatDoor

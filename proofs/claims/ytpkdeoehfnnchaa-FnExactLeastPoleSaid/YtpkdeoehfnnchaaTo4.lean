/- turnedOf: what makes a turned order of what is told for each wire. -/
import Derived.Test.YtpkdeoehfnnchaaTo1
import Derived.Test.YtpkdeoehfnnchaaTm1
import Derived.Test.YtpkdeoehfnnchaaUl2
import Derived.Test.YtpkdeoehfnnchaaPl1
import Derived.Test.YtpkdeoehfnnchaaMgE
import Derived.Test.YtpkdeoehfnnchaaMgG
import Derived.BigRegion
namespace Go.Proofs.Ytpkdeoehfnnchaa
open Go Go.RowKit

set_option maxRecDepth 100000 in
set_option maxHeartbeats 2000000 in
theorem turnedOf_below (N : Nat) (zs us : List Int) (b5 b3 b2 : Nat) (w : World) (hN : 3 ≤ N ∧ N ≤ 8) (hz : zs.length = N) (hu : us.length = N)
    (hT : Hid (∀ (i : Nat) (w' : World), i < N → Below w.heap.size w w' → Calls Try.prog 44 #[.agg #[.int .i64 (i : Int), .int .i64 0], .pointer (some ⟨b5, 0, none⟩), .pointer (some ⟨b3, 0, none⟩), .pointer (some ⟨b2, 0, none⟩)] w' (RetP2 (gi zs i) (gi us i) w'))) :
    Calls Try.prog 36 #[.int .i64 (N : Int), .func (.func 44) #[] #[.pointer (some ⟨b5, 0, none⟩), .pointer (some ⟨b3, 0, none⟩), .pointer (some ⟨b2, 0, none⟩)]] w (FreshTB w (ifL (trn zs us) zs).length (ifL (trn zs us) zs) (ifL (trn zs us) us).length (ifL (trn zs us) us) (trn zs us)) := by
  obtain ⟨q, hq⟩ : ∃ q, q = trn zs us := ⟨_, rfl⟩
  have HQ := Lib.hid hq
  have HZ := Lib.hid hz; have HU := Lib.hid hu
  rw [← hq]
  clear hq hz hu
  go_enter Try.func36, Try.ntmps36
  go_wp2
  go_loopw [8, 9, 12] (fun _ _ i wr => ∃ k : Nat, k ≤ N ∧ i = .int .i64 k ∧ wr.rowIs (w.heap.size + 1) 60 8 (fun j => if j < k then .int .i64 (gi zs j) else .int .i64 0) ∧ wr.rowIs (w.heap.size + 2) 60 8 (fun j => if j < k then .int .i64 (gi us j) else .int .i64 0) ∧ Cell2 wr w.heap.size (.slice none 0 0) (.slice none 0 0) ∧ Below w.heap.size w wr ∧ w.heap.size + 2 < wr.heap.size) (fun _ _ i _ => N - (intOf i).toNat)
  case atStart =>
    have r1 := rowAlloc (row_eight (w.alloc (.cells #[.slice none 0 0, .slice none 0 0] 30)) 60 (.int .i64 0)) (.cells #[.int .i64 0, .int .i64 0, .int .i64 0, .int .i64 0, .int .i64 0, .int .i64 0, .int .i64 0, .int .i64 0] 60)
    have r2 := row_eight ((w.alloc (.cells #[.slice none 0 0, .slice none 0 0] 30)).alloc (.cells #[.int .i64 0, .int .i64 0, .int .i64 0, .int .i64 0, .int .i64 0, .int .i64 0, .int .i64 0, .int .i64 0] 60)) 60 (.int .i64 0)
    simp only [World.size_alloc] at r1 r2
    exact ⟨0, Nat.zero_le _, rfl, r1.congr (fun j _ => by simp), r2.congr (fun j _ => by simp), (cellAlloc (cellAlloc (cellNew w (.slice none 0 0) (.slice none 0 0) 30) _) _).out, (((Below.refl _ _).alloc (Nat.le_refl _) _).alloc (by simp) _).alloc (by simp; omega) _, by simp⟩
  case round =>
    obtain ⟨k, hk, rfl, hr1, hr2, hc, hb, hsz⟩ := hrel
    have R1 := Lib.hid hr1; have R2 := Lib.hid hr2; have HC := Lib.hid hc; have HB := Lib.hid hb
    clear hr1 hr2 hc hb
    by_cases hlt : k < N
    · have HTk := Lib.hid (hT.out k wr hlt HB.out)
      obtain ⟨x, hx⟩ : ∃ x, x = gi zs k := ⟨_, rfl⟩
      obtain ⟨y, hy⟩ : ∃ y, y = gi us k := ⟨_, rfl⟩
      rw [← hx, ← hy] at HTk
      have HX := Lib.hid hx; have HY := Lib.hid hy
      clear hx hy
      go_wp2_with fail
      refine HTk.out.mono ?_
      rintro e w2 ⟨rfl, hb⟩
      replace R1 := rowStep R1 hb
      replace R2 := rowStep R2 hb
      replace HC := cellStep HC hb
      replace HB := belStep HB hb
      have hs2 := hb.size
      have k8 : k < 8 := by omega
      have d1 := R1.out.cell k8; have d2 := R2.out.cell k8
      have f1 := R1.out.frozen k; have f2 := R2.out.frozen k
      simp only [Nat.lt_irrefl, if_false] at d1 d2
      clear hb HTk
      have i1 : (0 : Int) ≤ (k : Int) := by omega
      have i2 : (k : Int) < 8 := by omega
      go_wp2
      obtain ⟨w3, hw3⟩ : ∃ w3, w3 = w2.alloc (.cells #[.int .i64 x, .int .i64 y] 53) := ⟨_, rfl⟩
      have HP : Hid (Cell2 w3 w2.heap.size (.int .i64 x) (.int .i64 y)) := by rw [hw3]; exact cellNew w2 _ _ _
      have hb3 : Below w2.heap.size w2 w3 := by rw [hw3]; exact (Below.refl _ _).alloc (Nat.le_refl _) _
      replace R1 := rowStep R1 hb3
      replace R2 := rowStep R2 hb3
      replace HC := cellStep HC hb3
      replace HB := belStep HB hb3
      have hs3 := hb3.size
      replace d1 := R1.out.cell k8; replace d2 := R2.out.cell k8
      replace f1 := R1.out.frozen k; replace f2 := R2.out.frozen k
      simp only [Nat.lt_irrefl, if_false] at d1 d2
      have p0 := HP.out.c0; have p1 := HP.out.c1
      rw [← hw3]
      clear hw3 hb3
      have hz3 : w2.heap.size < w3.heap.size := HP.out.lt
      have hz0 : w.heap.size + 1 < w3.heap.size := by omega
      have hz2 : w.heap.size + 2 < w3.heap.size := by omega
      go_region
      all_goals
        go_wp2
        go_roundw
        case rel =>
          refine ⟨k + 1, by omega, by go_num, ?_, ?_, ?_, ?_, by simp; omega⟩
          · refine rowSet ((R1.out.set k (.int .i64 x)).congr (fun j _ => ?_)) _ (by show w.heap.size + 1 + 1 ≠ w.heap.size + 1; omega) _
            by_cases e : j = k
            · simp [e, HX.out]
            · by_cases e2 : j < k
              · simp [e, e2, show j < k + 1 by omega]
              · simp [e, e2, show ¬ j < k + 1 by omega]
          · refine ((rowSet R2.out _ (by show w.heap.size + 1 ≠ w.heap.size + 2; omega) _).set k (.int .i64 y)).congr (fun j _ => ?_)
            by_cases e : j = k
            · simp [e, HY.out]
            · by_cases e2 : j < k
              · simp [e, e2, show j < k + 1 by omega]
              · simp [e, e2, show ¬ j < k + 1 by omega]
          · exact (cellDrew (Lib.hid (cellFar (cellFar HC.out ⟨w.heap.size + 1, k, none⟩ (by show w.heap.size + 1 ≠ w.heap.size; omega) (.int .i64 x)) ⟨w.heap.size + 1 + 1, k, none⟩ (by show w.heap.size + 1 + 1 ≠ w.heap.size; omega) (.int .i64 y)))).out
          · exact ((HB.out.setCell (by show w.heap.size ≤ w.heap.size + 1; omega) _).setCell (by show w.heap.size ≤ w.heap.size + 1 + 1; omega) _).drew
        case measure => simp [intOf]; omega
    · obtain rfl : k = N := by omega
      have RZ : Hid (RI wr (some ⟨w.heap.size + 1, 0, none⟩) k zs) := Lib.hid ⟨HZ.out, fun _ => ⟨_, 0, rfl, by omega, fun j hj => by rw [Nat.zero_add, R1.out.cell (by omega), if_pos hj]⟩⟩
      have RU : Hid (RI wr (some ⟨w.heap.size + 1 + 1, 0, none⟩) k us) := Lib.hid ⟨HU.out, fun _ => ⟨_, 0, rfl, by omega, fun j hj => by rw [Nat.zero_add]; have := R2.out.cell (i := j) (by omega); rw [if_pos hj] at this; exact this⟩⟩
      have i0 : (0 : Int) ≤ (k : Int) := by omega
      have i8 : (k : Int) ≤ 8 := by omega
      go_wp2
      go_region
      all_goals
        go_wp2_with fail
        have hb10 : Below wr.heap.size wr (wr.alloc (.cells #[.slice (some ⟨w.heap.size + 1, 0, none⟩) k k, .slice (some ⟨w.heap.size + 1 + 1, 0, none⟩) k k] 30)).drew := ((Below.refl _ _).alloc (Nat.le_refl _) _).drew
        have HG := cellDrew (cellNew wr (.slice (some ⟨w.heap.size + 1, 0, none⟩) k k) (.slice (some ⟨w.heap.size + 1 + 1, 0, none⟩) k k) 30)
        replace R1 := rowStep R1 hb10
        replace R2 := rowStep R2 hb10
        replace HC := cellStep HC hb10
        replace HB := belStep HB hb10
        have hsz5 := hb10.size
        refine (iIsTurned_any (some ⟨w.heap.size + 1, 0, none⟩) k k zs (some ⟨w.heap.size + 1 + 1, 0, none⟩) k k us _ (RZ.out.below hb10 (Nat.le_refl _)) (RU.out.below hb10 (Nat.le_refl _)) (by omega) (by omega)).mono ?_
        rw [← HQ.out]
        rintro e w5 ⟨rfl, hb⟩
        replace R1 := rowStep R1 hb
        replace R2 := rowStep R2 hb
        replace HC := cellStep HC hb
        replace HB := belStep HB hb
        replace HG := cellStep HG hb
        have hs5 := hb.size
        have c0 := HC.out.c0; have c1 := HC.out.c1; have f0 := HC.out.f0; have f1 := HC.out.f1; have cz := HC.out.lt
        have g0 := HG.out.c0; have g1 := HG.out.c1; have gz := HG.out.lt
        clear hb hb10
        cases q
        · go_wp2
          exact bodyPost_ret (v := .tuple #[.agg #[.slice none 0 0, .slice none 0 0], .bool false]) (by simp [results, Try.results36, go_sem, c0, c1]) rfl
            ⟨none, 0, none, 0, w.heap.size, rfl, OG.none_ (Nat.le_refl _) (by simp; omega), OG.none_ (by simp; omega) (by simp), (HB.out.setCell (by simp) _).setCell (by simp) _⟩
        · go_wp2
          refine bodyPost_ret (v := .tuple #[.agg #[.slice (some ⟨w.heap.size + 1, 0, none⟩) k k, .slice (some ⟨w.heap.size + 1 + 1, 0, none⟩) k k], .bool true]) (by simp [results, Try.results36, go_sem, c0, c1]) rfl
            ⟨some ⟨w.heap.size + 1, 0, none⟩, k, some ⟨w.heap.size + 1 + 1, 0, none⟩, k, w.heap.size + 2, by rw [ifL_yes, ifL_yes, HZ.out, HU.out], ?_, ?_, (HB.out.setCell (by simp) _).setCell (by simp) _⟩
          · rw [ifL_yes, HZ.out]
            have r1 := rowSet (rowSet R1.out ⟨w.heap.size, 0, none⟩ (by show w.heap.size ≠ w.heap.size + 1; omega) (.slice (some ⟨w.heap.size + 1, 0, none⟩) k k)) ⟨w.heap.size, 1, none⟩ (by show w.heap.size ≠ w.heap.size + 1; omega) (.slice (some ⟨w.heap.size + 1 + 1, 0, none⟩) k k)
            refine ⟨⟨HZ.out, fun x hx => ?_, fun _ => ⟨_, rfl, fun j hj => ⟨?_, r1.frozen j⟩⟩⟩, fun x hx => ?_, by omega, by simp; omega⟩
            · have := Option.some.inj hx; simp at this ⊢; omega
            · rw [r1.cell (by omega), if_pos hj]
            · have := Option.some.inj hx; simp at this; omega
          · rw [ifL_yes, HU.out]
            have r2 := rowSet (rowSet R2.out ⟨w.heap.size, 0, none⟩ (by show w.heap.size ≠ w.heap.size + 2; omega) (.slice (some ⟨w.heap.size + 1, 0, none⟩) k k)) ⟨w.heap.size, 1, none⟩ (by show w.heap.size ≠ w.heap.size + 2; omega) (.slice (some ⟨w.heap.size + 1 + 1, 0, none⟩) k k)
            refine ⟨⟨HU.out, fun x hx => ?_, fun _ => ⟨_, rfl, fun j hj => ⟨?_, r2.frozen j⟩⟩⟩, fun x hx => ?_, by simp; omega, Nat.le_refl _⟩
            · have := Option.some.inj hx; simp at this ⊢; omega
            · have := r2.cell (i := j) (by omega); rw [if_pos hj] at this; exact this
            · have := Option.some.inj hx; simp at this ⊢; omega

end Go.Proofs.Ytpkdeoehfnnchaa

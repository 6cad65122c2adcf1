/- The model's AllLeast. -/
import Derived.Test.YtgeeifjbfceogaaGreatDoorAl4
import Derived.Test.YtgeeifjbfceogaaGreatDoorAl5
import Derived.Test.YtgeeifjbfceogaaGreatDoorMgM
namespace Go.Proofs.YtgeeifjbfceogaaGreatDoor
open Go Go.RowKit

theorem wpList_append_lad {ops : Array Oper} {rest : List Oper} {o : Oper} {a : Act} {Q : Exit → Act → World → Prop} (w : World) (hgd : o.guard = none) (s x : Operand)
    (ho : o.op = .call { callee := .builtin .append, args := #[s, x], argTypes := #[28, 28] })
    (B : Nat) (A : Option Addr) (n c : Nat) (xs : List Value) (W : Int) (t : Sl) (b : Nat) (hs : a.eval s = .slice A n c) (hx : a.eval x = .slice (some ⟨b, 0, none⟩) 1 1) (h : w.ownsRow B 44 2 (.slice A n c) n xs)
    (hc0 : w.cell? ⟨b, 0, none⟩ = some (.int .i64 W)) (hc1 : w.cell? ⟨b, 1, none⟩ = some (sl t)) (hn : n ≤ 1000000000000) (hB : B ≤ w.heap.size)
    (hQ : ∀ A' c' w', w'.ownsRow B 44 2 (.slice A' (n + 1) c') (n + 1) (xs ++ [.int .i64 W, sl t]) → w.grownBy w' (blk A) → wpList Tryz.prog ops Q rest (a.put o.dst (.slice A' (n + 1) c')) w') : wpList Tryz.prog ops Q (o :: rest) a w := by
  obtain ⟨i0, hi0, hz0, hz1, hz2⟩ := info_parts2 infoLad
  refine wpList_append_own w hgd s x 28 ho B 44 i0 (.agg #[.int .i64 0, .slice none 0 0]) 2 32 Tryz.underlying28 hi0 hz0 hz1 hz2 rfl (by decide) _ n xs hs h ⟨b, 0, none⟩ 1 1 [.int .i64 W, sl t] hx rfl ?_ ?_ (by unfold maxLen; omega) (by omega) hB ?_
  · intro j u hu
    match j, hu with
    | 0, hu => simp at hu; subst hu; simpa [Addr.add] using hc0
    | 1, hu => simp at hu; subst hu; simpa [Addr.add] using hc1
  · intro u hu
    simp at hu
    rcases hu with rfl | rfl <;> rfl
  · intro v' w' hown' hg _
    have hv : ∃ A' c', v' = .slice A' (n + 1) c' := by
      rcases hown'.2 with ⟨_, h0⟩ | ⟨g, cap, cur, e, _⟩
      · omega
      · exact ⟨_, _, e⟩
    obtain ⟨A', c', rfl⟩ := hv
    rw [ownBlock_eq] at hg
    exact hQ A' c' w' hown' hg

set_option maxRecDepth 100000 in
set_option maxHeartbeats 4000000 in
theorem alLadders_any (x : Int) (B M : Nat) (A : Option Addr) (n c : Nat) (zss : List (List Int)) (S : List Sl) (w : World) (h : OII w B M A n c zss S) (hB : B ≤ w.heap.size) (hn : n ≤ 100000) :
    Calls Tryz.prog 49 #[.int .i64 x, .slice A n c] w (FreshLSW w x zss B) := by
  have HH := Lib.hid h
  have hlz := h.lz
  have hlS := h.lS
  clear h
  go_enter Tryz.func49, Tryz.ntmps49
  go_wp2
  go_loopw [5, 7, 10] (fun s5 _ i wr => ∃ (j : Nat) (A5 : Option Addr) (c5 : Nat), j ≤ n ∧ i = .int .i64 (j : Int) ∧ s5 = .slice A5 j c5 ∧ wr.ownsRow w.heap.size 44 2 (.slice A5 j c5) j (lcs (List.replicate j x) (S.take j)) ∧ Below w.heap.size w wr) (fun _ _ i _ => n - (intOf i).toNat)
  case atStart => exact ⟨0, none, 0, Nat.zero_le _, rfl, rfl, World.ownsRow_nil _ _ _ _, Below.refl _ _⟩
  case round =>
    obtain ⟨j, A5, c5, hj, rfl, rfl, ho, hb⟩ := hrel
    have HO := Lib.hid ho
    have HB := Lib.hid hb
    by_cases hlt : j < n
    · obtain ⟨g2, a, m, d, rfl, hg2, _, hS, hcj, _⟩ := (HH.out.below hb).row hlt
      have HBL : Hid (∀ b, blk A5 = some b → w.heap.size ≤ b) := fun b hbb => (ho.lt b (by rw [ownBlock_eq]; exact hbb)).1
      have HN : Hid (lcs (List.replicate (j + 1) x) (S.take (j + 1)) = lcs (List.replicate j x) (S.take j) ++ [.int .i64 x, sl (a, m, d)]) := by
        show _ = _
        rw [List.replicate_succ', List.take_add_one, hS]
        exact lcs_snoc x (a, m, d) (by simp; omega)
      have HZ := Lib.hid HB.out.size
      clear ho hb hS
      go_wp2_with (first
        | (at_builtin; refine wpList_append_lad _ rfl _ _ rfl w.heap.size A5 j c5 _ x (a, m, d) _ rfl rfl (HO.out.alloc _) ((cellNew _ _ _ _).out.c0) ((cellNew _ _ _ _).out.c1) (by omega) (by have := HZ.out; simp; omega) ?_; intro A6 c6 w6 ho6 hg6; have HO6 := Lib.hid ho6; have HB6 := Lib.hid ((HB.out.alloc HZ.out _).grown hg6 (by have := HZ.out; simp; omega) HBL.out); clear ho6 hg6)
        | go_in)
      go_roundw
      case rel => exact ⟨j + 1, A6, c6, hlt, by go_num, rfl, by rw [HN.out]; exact HO6.out, HB6.out⟩
      case measure => simp [intOf]; omega
    · obtain rfl : j = n := by omega
      have e2 : S.take j = S := by rw [← hlS]; exact List.take_length
      rw [e2] at ho
      have HHr := Lib.hid (HH.out.below hb)
      have HO2 := Lib.hid ho
      clear ho hb
      go_wp2
      go_ret
      refine ⟨A5, c5, M, S, by rw [hlz]; rfl, ?_, HB.out⟩
      rw [hlz]
      exact ⟨ownsMono HO2.out hB, by simp, hlS, hlz, HHr.out.inn, HHr.out.dis, HHr.out.lt, HHr.out.le⟩

set_option maxRecDepth 100000 in
set_option maxHeartbeats 4000000 in
theorem alAsked_any (A : Option Addr) (n c : Nat) (zs : List Int) (w : World) (h : RI w A n zs) (hn : n ≤ 1048576) (hnc : n ≤ c) :
    Calls Tryz.prog 48 #[.slice A n c] w (FreshSSB w (lsL zs) (lsQ zs)) := by
  have HI := Lib.hid (alGood_any A n c zs w h hn hnc)
  rcases hc : cg zs with _ | _
  · have hq : lsQ zs = false := by unfold lsQ; rw [hc]; rfl
    rw [lsL_no hq, hq]
    rw [hc] at HI
    clear hc hq
    go_enter Tryz.func48, Tryz.ntmps48
    go_wp2_with fail
    refine HI.out.mono ?_
    rintro e w1 ⟨rfl, rfl⟩
    go_wp2
    go_ret2
    exact ⟨none, 0, _, [], rfl, OII.none_ _ _, Below.refl _ _⟩
  · rw [hc] at HI
    obtain ⟨ho, h2, h6⟩ := cg_iff.1 hc
    have hl := h.1
    have HH := Lib.hid h
    have HO := Lib.hid ho
    have h2n : 2 ≤ n := by omega
    have h6n : n ≤ 6 := by omega
    have HQ : Hid (lsQ zs = decide (((cnt zs : Nat) : Int) ≤ 800)) := by show _ = _; unfold lsQ; rw [hc, cntN_yes hc, Bool.true_and]
    have HCO := Lib.hid (fun (g r cc : Nat) (ks : List Int) (w2 : World) (hb : Below w.heap.size w w2) (hr : w.heap.size ≤ r) (hC : Ctr w2 g r n (fac n) cc ks) =>
      count_any n h2n h6n g r cc (fac n) rfl (ninv zs + 1) zs ho hl (Nat.lt_succ_self _) A c ks w2 (h.below hb (Nat.le_refl _)) hnc (fun b hb => by
        rcases Nat.eq_zero_or_pos n with h0 | h0
        · omega
        · obtain ⟨b', off, e, hbw, _⟩ := h.2 h0
          subst e
          have h1 : b' = b := by simpa [blk] using hb
          omega) hC)
    have HAL := Lib.hid (fun (hle : cnt zs ≤ 800) (w1 : World) (hb : Below w.heap.size w w1) => alList_any n h2n h6n (ninv zs + 1) zs ho hl (Nat.lt_succ_self _) hle A c w1 (h.below hb (Nat.le_refl _)))
    have HLY : Hid (cnt zs ≤ 800 → lsL zs = alL zs ∧ lsQ zs = true) := fun hle => by
      have e : lsQ zs = true := lsQ_iff.2 ⟨hc, hle⟩
      exact ⟨lsL_yes e, e⟩
    have HLN : Hid (¬ cnt zs ≤ 800 → lsL zs = [] ∧ lsQ zs = false) := fun hle => by
      have e : lsQ zs = false := by
        rw [← Bool.not_eq_true]
        exact fun e => hle (lsQ_iff.1 e).2
      exact ⟨lsL_no e, e⟩
    clear hc ho h2 h6 h hl
    go_enter Tryz.func48, Tryz.ntmps48
    go_wp2_with fail
    refine HI.out.mono ?_
    rintro e w1 ⟨rfl, rfl⟩
    go_wp2_with fail
    refine (alNew_any n _ h2n h6n).mono ?_
    rintro e w2 ⟨g, r, cc, ks, rfl, hc, hr, hg, hb⟩
    have HC := Lib.hid hc
    have HB := Lib.hid hb
    clear hc hb
    go_wp2_with fail
    refine (HCO.out g r cc ks w2 HB.out hr HC.out).mono ?_
    rintro e w3 ⟨rfl, ks', hc', hg'⟩
    have HG := Lib.hid (HB.out.grown hg' HB.out.size (fun j hj => by injection hj with hj; omega))
    clear hc' hg' HC HI
    by_cases hle : cnt zs ≤ 800
    · obtain ⟨e1, e2⟩ := HLY.out hle
      have HE1 := Lib.hid e1
      have HE2 := Lib.hid e2
      have HA := Lib.hid (HAL.out hle w3 HG.out)
      have hri : ((cnt zs : Nat) : Int) ≤ 800 := by omega
      obtain ⟨y, hy⟩ : ∃ y : Int, y = ((cnt zs : Nat) : Int) := ⟨_, rfl⟩
      rw [← hy] at hri ⊢
      clear e1 e2 hle hy HLN HLY HAL HCO
      go_wp2_with fail
      refine HA.out.mono ?_
      rintro e w4 ⟨A4, c4, M4, S4, rfl, o4, hb4⟩
      have HO4 := Lib.hid (o4.mono HG.out.size)
      have HB4 := belStep HG hb4
      clear o4 hb4
      go_wp2
      go_ret2
      exact ⟨A4, c4, M4, S4, by rw [HE1.out, HE2.out]; rfl, by rw [HE1.out]; exact HO4.out, HB4.out⟩
    · obtain ⟨e1, e2⟩ := HLN.out hle
      have HE1 := Lib.hid e1
      have HE2 := Lib.hid e2
      have hri : 800 < ((cnt zs : Nat) : Int) := by omega
      obtain ⟨y, hy⟩ : ∃ y : Int, y = ((cnt zs : Nat) : Int) := ⟨_, rfl⟩
      rw [← hy] at hri ⊢
      clear e1 e2 hle hy HLN HLY HAL HCO
      go_wp2
      go_ret2
      exact ⟨none, 0, _, [], by rw [HE1.out, HE2.out]; rfl, by rw [HE1.out]; exact OII.none_ _ _, HG.out⟩

set_option maxHeartbeats 2000000 in
theorem sAllLeast_any (A : Option Addr) (n c : Nat) (zs : List Int) (w : World) (h : RI w A n zs) (hn : n ≤ 1048576) (hnc : n ≤ c) :
    Calls Tryz.prog 15 #[.slice A n c] w (FreshLLB w (n : Int) (lsL zs) (lsQ zs)) := by
  have HI := Lib.hid (alAsked_any A n c zs w h hn hnc)
  have hl := lsL_len zs
  rcases hq : lsQ zs with _ | _
  · rw [lsL_no hq]
    rw [lsL_no hq, hq] at HI
    clear hq hl
    go_enter Tryz.func15, Tryz.ntmps15
    go_wp2_with fail
    refine HI.out.mono ?_
    rintro e w1 ⟨A1, c1, M1, S1, rfl, _, hb⟩
    have HB := Lib.hid hb
    clear hb
    go_wp2
    go_ret2
    exact ⟨none, 0, _, [], rfl, OLL.none_ _ _, HB.out⟩
  · rw [hq] at HI
    obtain ⟨L, hL⟩ : ∃ L, L = lsL zs := ⟨_, rfl⟩
    rw [← hL] at HI hl ⊢
    clear hq hL h
    go_enter Tryz.func15, Tryz.ntmps15
    go_wp2_with fail
    refine HI.out.mono ?_
    rintro e w1 ⟨A1, c1, M1, S1, rfl, o1, hb⟩
    have HB := Lib.hid hb
    have HO := Lib.hid o1
    clear o1 hb
    go_wp2_with fail
    refine (alLadders_any (n : Int) w.heap.size M1 A1 L.length c1 L S1 w1 HO.out HB.out.size (by omega)).mono ?_
    rintro e w2 ⟨A2, c2, M2, S2, rfl, o2, hb2⟩
    have HB2 := belStep HB hb2
    have HO2 := Lib.hid o2
    clear o2 hb2
    go_wp2
    go_ret2
    exact ⟨A2, c2, M2, S2, rfl, HO2.out, HB2.out⟩
end Go.Proofs.YtgeeifjbfceogaaGreatDoor

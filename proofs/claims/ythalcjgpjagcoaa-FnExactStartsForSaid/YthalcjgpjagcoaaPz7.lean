/- StartsFor, of the program. -/
import Derived.Test.YthalcjgpjagcoaaPz6
namespace Go.Proofs.Ythalcjgpjagcoaa
open Go Go.RowKit

set_option maxRecDepth 100000 in
set_option maxHeartbeats 2000000 in
theorem startsWith_sf (N : Nat) (A : Option Addr) (n c : Nat) (B : Nat → Bool) (bl bi : Nat) (w : World) (hN : N ≤ 8)
    (hT : Hid (∀ (i : Nat) (w' : World), i < N → Below w.heap.size w w' → Calls Try.prog 58 #[.int .i64 (i : Int), .pointer (some ⟨bl, 0, none⟩), .pointer (some ⟨bi, 0, none⟩)] w' (RetB (B i) w'))) :
    Calls Try.prog 57 #[.agg #[.int .i64 (N : Int), .slice A n c], .func (.func 58) #[] #[.pointer (some ⟨bl, 0, none⟩), .pointer (some ⟨bi, 0, none⟩)]] w (FreshI w (fltL B N).length (fltL B N)) := by
  go_enter Try.func57, Try.ntmps57
  have HC0 := cellNew w (.int .i64 (N : Int)) (.slice A n c) 29
  go_wp2
  go_loopw [5, 6, 9] (fun v _ i wr => ∃ (k : Nat) (A1 : Option Addr) (c1 : Nat), k ≤ N ∧ i = .int .i64 (k : Int) ∧ v = .slice A1 (fltL B k).length c1 ∧ OI wr w.heap.size A1 (fltL B k).length c1 (fltL B k) ∧ Below w.heap.size w wr) (fun _ _ i _ => N - (intOf i).toNat)
  case atStart => exact ⟨0, none, 0, Nat.zero_le _, rfl, rfl, OI.none_ _ _, (Below.refl _ _).alloc (Nat.le_refl _) _⟩
  case round =>
    obtain ⟨k, A1, c1, hk, rfl, rfl, ho, hb⟩ := hrel
    have HO := Lib.hid ho
    have HB := Lib.hid hb
    have hul := fltL_len B k
    have hbs := hb.size
    clear ho hb
    by_cases hlt : k < N
    · have HTk := Lib.hid (hT.out k wr hlt HB.out)
      rcases hq : B k with _ | _
      · rw [hq] at HTk
        have HF := Lib.hid (fltL_no hq)
        clear hq
        go_wp2_with fail
        refine HTk.out.mono ?_
        rintro e w2 ⟨rfl, hb⟩
        replace HO := oiStep HO hb
        replace HB := belStep HB hb
        clear hb HTk
        go_wp2
        go_roundw
        case rel => exact ⟨k + 1, A1, c1, by omega, by go_num, by rw [HF.out], by rw [HF.out]; exact HO.out, HB.out⟩
        case measure => simp [intOf]; omega
      · rw [hq] at HTk
        have HF := Lib.hid (fltL_yes hq)
        have HFL : Hid ((fltL B k).length + 1 = (fltL B (k + 1)).length) := by show _ = _; rw [HF.out]; simp
        clear hq
        go_wp2_with fail
        refine HTk.out.mono ?_
        rintro e w2 ⟨rfl, hb⟩
        replace HO := oiStep HO hb
        replace HB := belStep HB hb
        have hbs2 := HB.out.size
        clear hb HTk
        go_wp2_with (at_builtin; refine wpList_append_int _ rfl _ _ rfl w.heap.size A1 (fltL B k).length c1 _ (k : Int) w2.heap.size rfl rfl (HO.out.alloc _) (by simp) (by omega) (by simp; omega) ?_; intro A3 c3 w3 ho3 hg3)
        go_roundw
        case rel =>
          refine ⟨k + 1, A3, c3, by omega, by go_num, by rw [← HFL.out], by rw [← HFL.out, HF.out]; exact ho3, (belGrown (belAlloc HB _) (HO.out.alloc _) hg3 (Nat.le_refl _)).out⟩
        case measure => simp [intOf]; omega
    · obtain rfl : k = N := by omega
      go_wp2
      go_ret
      exact ⟨A1, c1, rfl, HO.out, HB.out⟩

set_option maxRecDepth 100000 in
set_option maxHeartbeats 2000000 in
theorem sfClo_any (bl bi : Nat) (t p : ByteArray) (i : Nat) (w : World) (h1 : w.cell? ⟨bl, 0, none⟩ = some (.string t)) (h2 : w.cell? ⟨bi, 0, none⟩ = some (.string p)) (hi : i < t.size) (hp : 0 < p.size) (hi8 : i ≤ 8) :
    Calls Try.prog 58 #[.int .i64 (i : Int), .pointer (some ⟨bl, 0, none⟩), .pointer (some ⟨bi, 0, none⟩)] w (RetB (sfP t p i) w) := by
  have hbt := bg_at hi
  have hbp := bg_at hp
  unfold sfP
  obtain ⟨x, hx⟩ : ∃ x, x = bg t i := ⟨_, rfl⟩
  obtain ⟨y, hy⟩ : ∃ y, y = bg p 0 := ⟨_, rfl⟩
  rw [← hx] at hbt ⊢
  rw [← hy] at hbp ⊢
  clear hx hy
  have i0 : (0 : Int) ≤ (i : Int) := by omega
  have i1 : (i : Int) < (t.size : Int) := by omega
  have i2 : (0 : Int) < (p.size : Int) := by omega
  by_cases he : x = y
  · subst he
    rw [decide_eq_true rfl]
    go_enter Try.func58, Try.ntmps58
    go_wp2
    go_quiet (fail)
    go_wp2
    go_ret
    exact ⟨rfl, below_drewN (Below.refl _ _) _⟩
  · rw [decide_eq_false he]
    have e1 : ((x : Int) == (y : Int)) = false := beq_eq_false_iff_ne.2 (by omega)
    clear he
    go_enter Try.func58, Try.ntmps58
    go_wp2
    go_quiet (fail)
    go_wp2
    go_ret
    exact ⟨by first | rfl | exact ret_b e1, below_drewN (Below.refl _ _) _⟩

set_option maxRecDepth 100000 in
set_option maxHeartbeats 2000000 in
theorem iStartsFor_any (W : Int) (A : Option Addr) (n c : Nat) (zs : List Int) (s p : ByteArray) (w : World) (h : RI w A n zs) (hn : n ≤ 1048576) (hs9 : s.size ≤ 1000000000) (hp9 : p.size ≤ 1000000000) :
    Calls Try.prog 31 #[.agg #[.int .i64 W, .slice A n c], .string s, .string p] w (FreshIB w (sfL W zs s p).length (sfL W zs s p) (sfB W zs s p)) := by
  have hmf : ∀ (fn : Fn) (first cap : Array Value) (w : World), (Instr.makeFunc fn first cap).run Try.prog w = .ok (.func fn first cap) w := fun _ _ _ _ => rfl
  have hl := h.1
  have HA := boxAlloc (boxNew (W := W) (c := c) 29 h) (.cells #[.string p] 9)
  have HB := belAlloc (belAlloc (belRefl (w := w)) (.cells #[.int .i64 W, .slice A n c] 29)) (.cells #[.string p] 9)
  have d0 : ((w.alloc (.cells #[.int .i64 W, .slice A n c] 29)).alloc (.cells #[.string p] 9)).cell? ⟨w.heap.size + 1, 0, none⟩ = some (.string p) := by
    have : ((w.alloc (.cells #[.int .i64 W, .slice A n c] 29)).alloc (.cells #[.string p] 9)).cell? ⟨(w.alloc (.cells #[.int .i64 W, .slice A n c] 29)).heap.size, 0, none⟩ = some (.string p) := by simp
    simpa only [World.size_alloc] using this
  have HI := Lib.hid (fun w2 (r : RI w2 A n zs) => iPrizesOf_any W A n c zs s w2 r hn hs9)
  have HP1 := Lib.hid (fun w2 => areLetters_any p 1 w2 hp9)
  rcases hq : pzB W zs s with _ | _
  · have e := sfB_1 (p := p) hq
    rw [sfL_no e, e]
    rw [hq] at HI
    obtain ⟨t, ht⟩ : ∃ t, t = pzT W zs s := ⟨_, rfl⟩
    rw [← ht] at HI
    clear hq h e ht
    go_enter Try.func31, Try.ntmps31
    have a0 := HA.out.c0; have a1 := HA.out.c1; have az := HA.out.lt
    go_wp2_with fail
    refine (HI.out _ HA.out.ri).mono ?_
    rintro e w1 ⟨rfl, hb⟩
    replace HB := belAlloc (belStep HB hb) (.cells #[.string t] 9)
    clear hb
    go_wp2
    go_ret2
    exact ⟨none, 0, rfl, OI.none_ _ _, HB.out⟩
  · rw [hq] at HI
    rcases hp1 : prB p 1 with _ | _
    · have e := sfB_2 (W := W) (zs := zs) (s := s) hp1
      rw [sfL_no e, e]
      rw [hp1] at HP1
      obtain ⟨t, ht⟩ : ∃ t, t = pzT W zs s := ⟨_, rfl⟩
      rw [← ht] at HI
      clear hq h e ht hp1
      go_enter Try.func31, Try.ntmps31
      have a0 := HA.out.c0; have a1 := HA.out.c1; have az := HA.out.lt
      go_wp2_with fail
      refine (HI.out _ HA.out.ri).mono ?_
      rintro e w1 ⟨rfl, hb⟩
      replace HB := belAlloc (belStep HB hb) (.cells #[.string t] 9)
      replace d0 := (hb.cell (p := ⟨w.heap.size + 1, 0, none⟩) (by simp)).trans d0
      have dz : w.heap.size + 1 < w1.heap.size := by have := hb.size; simp at this; omega
      clear hb
      go_wp2_with (go_at_call 56; refine (HP1.out _).mono ?_; rintro e w2 ⟨rfl, hb⟩)
      replace HB := belStep HB hb
      go_ret2
      exact ⟨none, 0, rfl, OI.none_ _ _, HB.out⟩
    · have e := sfB_3 hq hp1
      rw [sfL_yes e, e]
      rw [hp1] at HP1
      have hps : p.size = 1 := by have := prB_size hp1; omega
      have hlq : lad W zs = true := by unfold pzB at hq; rw [Bool.and_eq_true] at hq; exact hq.1
      have hW := (lad_iff.1 hlq).1
      obtain ⟨N, rfl⟩ : ∃ N : Nat, W = (N : Int) := ⟨W.toNat, by omega⟩
      rw [Int.toNat_natCast]
      have htz : (pzT (N : Int) zs s).size = N := by rw [pzT_yes hq, Int.toNat_natCast, gvt_size]
      obtain ⟨t, ht⟩ : ∃ t, t = pzT (N : Int) zs s := ⟨_, rfl⟩
      rw [← ht] at HI htz ⊢
      clear hq h e ht hp1 hlq
      go_enter Try.func31, Try.ntmps31
      have a0 := HA.out.c0; have a1 := HA.out.c1; have az := HA.out.lt
      go_wp2_with fail
      refine (HI.out _ HA.out.ri).mono ?_
      rintro e w1 ⟨rfl, hb⟩
      replace d0 := (hb.cell (p := ⟨w.heap.size + 1, 0, none⟩) (by simp)).trans d0
      have dz : w.heap.size + 1 < w1.heap.size := by have := hb.size; simp at this; omega
      have HA1 := boxAlloc (boxStep HA hb) (.cells #[.string t] 9)
      have HB1 := belAlloc (belStep HB hb) (.cells #[.string t] 9)
      have g0 : (w1.alloc (.cells #[.string t] 9)).cell? ⟨w1.heap.size, 0, none⟩ = some (.string t) := by simp
      have d1 := (((Below.refl w1.heap.size w1).alloc (Nat.le_refl _) (.cells #[.string t] 9)).cell (p := ⟨w.heap.size + 1, 0, none⟩) dz).trans d0
      clear hb
      go_wp2_with (go_at_call 56; refine (HP1.out _).mono ?_; rintro e w2 ⟨rfl, hb⟩; have HA2 := boxStep HA1 hb; have HB2 := belStep HB1 hb; have g2 := (hb.cell (p := ⟨w1.heap.size, 0, none⟩) (by simp)).trans g0; have d2 := (hb.cell (p := ⟨w.heap.size + 1, 0, none⟩) (by simp; omega)).trans d1; have z12 : w1.heap.size < w2.heap.size := (by have := hb.size; simp at this; omega); have b0 := HA2.out.c0; have b1 := HA2.out.c1; have bz := HA2.out.lt; clear hb)
      have z2 := HB2.out.size
      refine (startsWith_sf N A n c (sfP t p) w1.heap.size (w.heap.size + 1) w2 (by omega) (fun i w' hi hb => sfClo_any _ _ t p i w' ((hb.cell (p := ⟨w1.heap.size, 0, none⟩) z12).trans g2) ((hb.cell (p := ⟨w.heap.size + 1, 0, none⟩) (by simp; omega)).trans d2) (by omega) (by omega) (by omega))).mono ?_
      rintro e w3 ⟨A2, c2, rfl, ho, hb⟩
      have HO := Lib.hid (ho.mono z2)
      replace HB := belStep HB2 hb
      clear ho hb
      go_wp2
      go_ret2
      exact ⟨A2, c2, rfl, HO.out, HB.out⟩
end Go.Proofs.Ythalcjgpjagcoaa

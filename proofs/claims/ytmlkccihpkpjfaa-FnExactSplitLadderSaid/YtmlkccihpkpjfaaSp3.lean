/- One part of a ladder. -/
import Derived.Test.YtmlkccihpkpjfaaSp1
namespace Go.Proofs.Ytmlkccihpkpjfaa
open Go Go.RowKit

set_option maxRecDepth 100000 in
set_option maxHeartbeats 4000000 in
theorem partOf_any (W : Int) (A : Option Addr) (n c : Nat) (zs : List Int) (a b : Int) (w : World) (h : RI w A n zs) (hn : n ≤ 60) (ha : 0 ≤ a ∧ a ≤ 8) (hb8 : 0 ≤ b ∧ b ≤ 8) :
    Calls Try.prog 57 #[.agg #[.int .i64 W, .slice A n c], .int .i64 a, .int .i64 b] w (FreshLB w (ifW (lad (b - a) (ptS zs a b n)) (b - a)) (ifL (lad (b - a) (ptS zs a b n)) (ptS zs a b n)).length (ifL (lad (b - a) (ptS zs a b n)) (ptS zs a b n)) (lad (b - a) (ptS zs a b n))) := by
  have hl := h.1
  have HA := boxAlloc (boxNew (W := W) (c := c) 26 h) (.cells #[.int .i64 0, .slice none 0 0] 26)
  have HB := belAlloc (belAlloc (belRefl (w := w)) (.cells #[.int .i64 W, .slice A n c] 26)) (.cells #[.int .i64 0, .slice none 0 0] 26)
  have HC := cellNew (w.alloc (.cells #[.int .i64 W, .slice A n c] 26)) (.int .i64 0) (.slice none 0 0) 26
  simp only [World.size_alloc] at HC
  obtain ⟨w1, hw1⟩ : ∃ v : World, v = ((w.alloc (.cells #[.int .i64 W, .slice A n c] 26)).alloc (.cells #[.int .i64 0, .slice none 0 0] 26)) := ⟨_, rfl⟩
  have hpl := ptR_len zs a b n
  have HPG := Lib.hid (ptR_gi zs a b n)
  have HY := Lib.hid (fun k (h1 : a ≤ gi zs k) (h2 : gi zs k < b) => ptR_yes (zs := zs) (a := a) (b := b) (k := k) h1 h2)
  have HNO := Lib.hid (fun k (h1 : ¬ (a ≤ gi zs k ∧ gi zs k < b)) => ptR_no (zs := zs) (a := a) (b := b) (k := k) h1)
  obtain ⟨L, hL⟩ : ∃ L, L = ptS zs a b n := ⟨_, rfl⟩
  have HL : Hid (L = shL (ptR zs a b n) (-a)) := hL
  obtain ⟨V, hV⟩ : ∃ V, V = b - a := ⟨_, rfl⟩
  have hwv : IntKind.i64.wrap (b - a) = V := by rw [IntWalk.i64_in _ (by omega), hV]
  have hwn : IntKind.i64.wrap (-a) = -a := IntWalk.i64_in _ (by omega)
  rw [← hL, ← hV]
  obtain ⟨q, hq⟩ : ∃ q, q = lad V L := ⟨_, rfl⟩
  have HQQ := Lib.hid hq
  rw [← hq]
  have hLL : L.length ≤ 1000000 := by rw [hL]; unfold ptS; rw [shL_len]; omega
  clear h hL hV hq
  go_enter Try.func57, Try.ntmps57
  go_wp2
  rw [← hw1] at HA HB HC ⊢
  have z1 := HC.out.lt
  clear hw1
  go_loopw [8, 14] (fun v i wr => ∃ (k : Nat) (A1 : Option Addr) (c1 : Nat), k ≤ n ∧ i = .int .i64 k ∧ v = .slice A1 (ptR zs a b k).length c1 ∧ OI wr w1.heap.size A1 (ptR zs a b k).length c1 (ptR zs a b k) ∧ Below w1.heap.size w1 wr) (fun _ i _ => n - (intOf i).toNat)
  case atStart => exact ⟨0, none, 0, Nat.zero_le _, rfl, rfl, OI.none_ _ _, Below.refl _ _⟩
  case round =>
    obtain ⟨k, A1, c1, hk, rfl, rfl, ho, hb⟩ := hrel
    have HO := Lib.hid ho
    have HR := Lib.hid hb
    have HAr := boxStep HA hb
    have HBr := belStep HB hb
    have HCr := cellStep HC hb
    have a0 := HAr.out.c0; have a1 := HAr.out.c1; have az := HAr.out.lt
    have hbs := hb.size
    have hul := ptR_len zs a b k
    clear ho hb
    by_cases hlt : k < n
    · obtain ⟨b', off, rfl, hbw, hc⟩ := HAr.out.ri.cell hlt
      have hck := hc k hlt
      have HYk := Lib.hid (HY.out k)
      have HNk := Lib.hid (HNO.out k)
      obtain ⟨r, hr⟩ : ∃ r, r = gi zs k := ⟨_, rfl⟩
      rw [← hr] at hck HYk HNk
      clear hc hr
      by_cases h1 : a ≤ r
      · by_cases h2 : r < b
        · have HT := Lib.hid (HYk.out h1 h2)
          have HTL : Hid ((ptR zs a b k).length + 1 = (ptR zs a b (k + 1)).length) := by show _ = _; rw [HT.out]; simp
          go_wp2_with (at_builtin; refine wpList_append_int _ rfl _ _ rfl w1.heap.size A1 (ptR zs a b k).length c1 _ r wr.heap.size rfl rfl (HO.out.alloc _) (by simp) (by omega) (by simp; omega) ?_; intro A3 c3 w3 ho3 hg3)
          go_roundw
          case rel =>
            refine ⟨k + 1, A3, c3, by omega, by go_num, by rw [← HTL.out], ?_, belStep' HR HO.out hg3⟩
            rw [← HTL.out, HT.out]; exact ho3
          case measure => simp [intOf]; omega
        · have HT := Lib.hid (HNk.out (fun e => h2 e.2))
          go_wp2
          go_roundw
          case rel => exact ⟨k + 1, A1, c1, by omega, by go_num, by rw [HT.out], by rw [HT.out]; exact HO.out, HR.out⟩
          case measure => simp [intOf]; omega
      · have HT := Lib.hid (HNk.out (fun e => h1 e.1))
        go_wp2
        go_roundw
        case rel => exact ⟨k + 1, A1, c1, by omega, by go_num, by rw [HT.out], by rw [HT.out]; exact HO.out, HR.out⟩
        case measure => simp [intOf]; omega
    · obtain rfl : k = n := by omega
      have HSH := Lib.hid (shifted_any A1 (ptR zs a b k).length c1 (ptR zs a b k) (-a) wr HO.out.ri (by omega) (by omega) (fun j hj => by have := HPG.out j hj; omega))
      rw [← HL.out] at HSH
      clear a0 a1
      go_wp2_with fail
      refine HSH.out.mono ?_
      rintro e w2 ⟨A2, c2, rfl, o2, hb⟩
      have PT := Lib.hid (Parts.one (c := c2) o2.ri)
      have B2 := belAlloc (belStep HBr hb) (.cells #[.slice A2 (ptR zs a b k).length c2] 22)
      have C2 := cellAlloc (cellStep HCr hb) (.cells #[.slice A2 (ptR zs a b k).length c2] 22)
      clear hb o2 HSH
      go_wp2_with fail
      refine (ladderOf_any V _ 1 1 _ _ _ _ _ PT.out (by omega) L (cat_one _) (by omega)).mono ?_
      rw [← HQQ.out]
      rintro e w5 ⟨A5, c5, rfl, o5, hb⟩
      have B5 := belStep B2 hb
      have C5 := cellStep C2 hb
      have O5 := Lib.hid o5
      have hz2 := B2.out.size
      have hz3 := C2.out.lt
      have k0 := C5.out.c0; have k1 := C5.out.c1; have f0 := C5.out.f0; have f1 := C5.out.f1; have cz5 := C5.out.lt
      clear o5 hb
      go_wp2
      exact bodyPost_ret (v := .tuple #[.agg #[.int .i64 (ifW q V), .slice A5 (ifL q L).length c5], .bool q]) (by simp [results, Try.results57, go_sem, k0, k1]) rfl
        ⟨A5, c5, rfl, ((O5.out.setBelow (p := ⟨w.heap.size + 1, 0, none⟩) (by simp at hz3 ⊢ <;> omega) _).setBelow (p := ⟨w.heap.size + 1, 1, none⟩) (by simp at hz3 ⊢ <;> omega) _).mono (B' := w.heap.size) (by omega), (B5.out.setCell (p := ⟨w.heap.size + 1, 0, none⟩) (by simp <;> omega) _).setCell (p := ⟨w.heap.size + 1, 1, none⟩) (by simp <;> omega) _⟩
end Go.Proofs.Ytmlkccihpkpjfaa

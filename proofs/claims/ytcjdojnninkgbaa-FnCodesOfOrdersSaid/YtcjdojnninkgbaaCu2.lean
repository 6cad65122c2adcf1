/- The draws of orders: a list of so many numbers in new memory, and the cursor goes on. -/
import Derived.Test.YtcjdojnninkgbaaCu1
import Derived.Test.YtcjdojnninkgbaaMgE
import Derived.Test.YtcjdojnninkgbaaMgD
import Derived.Test.YtcjdojnninkgbaaMgB
namespace Go.Proofs.Ytcjdojnninkgbaa
open Go Go.RowKit

/-- a list in new memory, and the cursor goes on -/
def DrawnI (w : World) (b : Nat) (A : Option Addr) (n c : Nat) (bs : List Int) (k : Nat) (m : Nat) (e : Ending) (w' : World) : Prop :=
  ∃ (zs : List Int) (A2 : Option Addr) (n2 c2 : Nat), e = .returned (.slice A2 n2 c2) ∧ n2 ≤ m ∧ OI w' w.heap.size A2 n2 c2 zs ∧ Cur w' b A n c bs k ∧ w.grownBy w' (some b)

/-- a list of just so many numbers in new memory, and the cursor goes on -/
def DrawnE (w : World) (b : Nat) (A : Option Addr) (n c : Nat) (bs : List Int) (k : Nat) (m : Nat) (e : Ending) (w' : World) : Prop :=
  ∃ (zs : List Int) (A2 : Option Addr) (c2 : Nat), e = .returned (.slice A2 m c2) ∧ OI w' w.heap.size A2 m c2 zs ∧ Cur w' b A n c bs k ∧ w.grownBy w' (some b)

theorem RI.empC (w : World) (A : Option Addr) : RI w A 0 [] := ⟨rfl, fun h => absurd h (by omega)⟩
theorem RI.dropC {w : World} {g n : Nat} {zs : List Int} (h : RI w (some ⟨g, 0, none⟩) n zs) {k : Nat} (hk : k ≤ n) : RI w (some ⟨g, k, none⟩) (n - k) (zs.drop k) := by
  refine ⟨by rw [List.length_drop, h.1], fun h0 => ?_⟩
  obtain ⟨b', off', e, hb, hc⟩ := h.2 (by omega)
  injection e with e; injection e with e1 e2 e3
  subst e1 e2
  refine ⟨g, k, rfl, hb, fun j hj => ?_⟩
  have := hc (k + j) (by omega)
  rw [Nat.zero_add] at this
  rw [this, gi_lt (by rw [h.1]; omega), gi_lt (by rw [List.length_drop, h.1]; omega)]
  simp
theorem RI.singC (w : World) (z : Int) : RI (w.alloc (.cells #[.int .i64 z] 3)) (some ⟨w.heap.size, 0, none⟩) 1 [z] :=
  ⟨rfl, fun _ => ⟨w.heap.size, 0, rfl, by simp, fun j hj => by
    obtain rfl : j = 0 := by omega
    show _ = some (Value.int .i64 z)
    simp⟩⟩
/-- one of the call's own rows grows: below, the cursor's block alone may have changed -/
theorem grownOwn {w w1 w2 : World} {b K : Nat} {A : Option Addr} {n c : Nat} {zs : List Int} (h1 : w.grownBy w1 (some b)) (ho : OI w1 K A n c zs) (hK : w.heap.size ≤ K) (h2 : w1.grownBy w2 (blk A)) : w.grownBy w2 (some b) :=
  ⟨h2.os.trans h1.os, h2.tape.trans h1.tape, h2.output.trans h1.output, Nat.le_trans h1.size h2.size, fun i hi hne =>
    (h2.block i (Nat.lt_of_lt_of_le hi h1.size) (fun e => by have := (ho.blk i e.symm).1; omega)).trans (h1.block i hi hne)⟩
theorem Cur.grownOwn {w1 w2 : World} {b K : Nat} {A A0 : Option Addr} {n n0 c c0 k : Nat} {zs bs : List Int} (h : Cur w1 b A0 n0 c0 bs k) (ho : OI w1 K A n c zs) (hK : b < K) (hA : ∀ x, blk A0 = some x → 0 < n0 → x < K) (h2 : w1.grownBy w2 (blk A)) : Cur w2 b A0 n0 c0 bs k :=
  h.grown h2 (fun e => by have := (ho.blk b e).1; omega) (fun hn e => by
    rcases hx : blk A with _ | x
    · obtain ⟨g, off, rfl, _⟩ := h.bi.2.2 hn
      rw [hx] at e; simp [blk] at e
    · rw [hx] at e
      have h3 := hA x e.symm hn
      have h4 := (ho.blk x hx).1
      omega)
/-- the bytes lie below -/
theorem Cur.low {w : World} {b : Nat} {A : Option Addr} {n c k : Nat} {bs : List Int} (h : Cur w b A n c bs k) : ∀ x, blk A = some x → 0 < n → x < w.heap.size := by
  intro x hx hn
  obtain ⟨g, off, rfl, hg, _⟩ := h.bi.2.2 hn
  simp [blk] at hx
  omega

set_option maxRecDepth 100000 in
set_option maxHeartbeats 1000000 in
theorem sureOrder_any (b : Nat) (A : Option Addr) (n c : Nat) (bs : List Int) (k0 m : Nat) (w : World) (h : Cur w b A n c bs k0) (hn : n ≤ 1048576) (hk : k0 ≤ 10000000) (hm : m ≤ 1000) :
    Calls Try.prog 32 #[.pointer (some ⟨b, 0, none⟩), .int .i64 (m : Int)] w (DrawnE w b A n c bs (k0 + 2 * m) m) := by
  have hbw := h.lt
  have HLOW := Lib.hid h.low
  have HC0 := Lib.hid h
  clear h
  go_enter Try.func32, Try.ntmps32
  go_wp2
  go_loopw [5, 6] (fun s5 i wr => ∃ (k : Nat) (zs : List Int) (AO : Option Addr) (co : Nat), k ≤ m ∧ i = .int .i64 (k : Int) ∧ s5 = .slice AO k co ∧ OI wr w.heap.size AO k co zs ∧ (k = 0 → AO = none ∧ co = 0) ∧ Cur wr b A n c bs (k0 + 2 * k) ∧ w.grownBy wr (some b)) (fun _ i _ => m - (intOf i).toNat)
  case atStart => exact ⟨0, [], none, 0, Nat.zero_le _, rfl, rfl, OI.none_ _ _, fun _ => ⟨rfl, rfl⟩, HC0.out, grown_refl _ _⟩
  case round =>
    obtain ⟨k, zs, AO, co, hkm, rfl, rfl, ho, hz0, hc, hg⟩ := hrel
    have HO := Lib.hid ho
    have HC := Lib.hid hc
    have HG := Lib.hid hg
    clear ho hc hg HC0
    by_cases hlt : k < m
    · go_wp2_with fail
      refine (pick_any b A n c bs (k0 + 2 * k) ((k : Int) + 1) _ HC.out hn (by omega) (by omega)).mono ?_
      rintro e w1 ⟨v, rfl, v0, v1, hc, hg⟩
      have hv : v ≤ k := by
        by_cases h2 : 1 < ((k : Int) + 1)
        · rw [if_pos h2] at v1; omega
        · rw [if_neg h2] at v1; omega
      obtain ⟨q, rfl⟩ : ∃ q : Nat, v = q := ⟨v.toNat, by omega⟩
      have hq : q ≤ k := by omega
      have HO1 : Hid (OI w1 w.heap.size AO k co zs) := HO.out.kept hg (fun x hx e => by have := (HO.out.blk x hx).1; injection e with e; omega)
      have HC1 := Lib.hid hc
      have HG1 := Lib.hid (grownTr HG.out hg)
      clear hc hg HC HG HO v1
      have hzl := HO1.out.ri.1
      by_cases hk0 : k = 0
      · obtain ⟨rfl, rfl⟩ := hz0 hk0
        subst hk0
        obtain rfl : q = 0 := by omega
        obtain rfl : zs = [] := List.eq_nil_of_length_eq_zero hzl
        clear hz0
        go_wp2_with (first
          | (go_at_call 26; refine (l1Own_any none 0 0 [] _ (RI.empC _ _) (by omega)).mono ?_; rintro e w3 ⟨A3, c3, rfl, o3, hb⟩; have b3 : Hid (Below w1.heap.size w1 w3) := Below.trans (by repeat (first | exact Below.refl _ _ | refine Below.alloc ?_ (by simp) _ | refine below_drewN ?_ _ | refine Below.drew ?_)) (hb.mono (by first | exact Nat.le_refl _ | simp)); have O3 : Hid (OI w3 w1.heap.size A3 0 c3 ([])) := o3; clear hb o3)
          | (at_builtin; refine wpList_append_ints _ rfl _ _ rfl w1.heap.size A3 0 c3 ([]) (some ⟨w3.heap.size, 0, none⟩) 1 1 [((0 : Nat) : Int)] rfl rfl (O3.out.alloc _) (RI.singC _ _) (by omega) (by omega) (by have := b3.out.size; simp; omega) ?_; intro A4 c4 w4 ho4 hg4; have b4 : Hid (Below w1.heap.size w1 w4) := (b3.out.alloc b3.out.size _).trans (ofMark (O3.out.alloc _) hg4 (Nat.le_refl _) (by have := b3.out.size; simp; omega)); have O4 := Lib.hid ho4; clear ho4 hg4)
          | (at_builtin; refine wpList_append_ints _ rfl _ _ rfl w1.heap.size A4 1 c4 ([((0 : Nat) : Int)]) none 0 0 [] rfl rfl O4.out (RI.empC _ _) (by omega) (by omega) b4.out.size ?_; intro A5 c5 w5 ho5 hg5; have b5 : Hid (Below w1.heap.size w1 w5) := b4.out.trans (ofMark O4.out hg5 (Nat.le_refl _) b4.out.size); have O5 := Lib.hid ho5; clear ho5 hg5))
        exact ⟨⟨1, _, A5, c5, by omega, rfl, rfl, O5.out.mono HG1.out.size, fun h => by omega, (HC1.out.below b5.out).le (by omega), grown_below HG1.out b5.out⟩, by simp [intOf] <;> omega⟩
      · clear hz0
        obtain ⟨k', rfl⟩ : ∃ k', k = k' + 1 := ⟨k - 1, by omega⟩
        obtain ⟨g, rfl, hgB, hgw, hcg⟩ := HO1.out.some_
        have hle := HO1.out.le
        have q0 : (0 : Int) ≤ (q : Int) := by omega
        have q1 : (q : Int) ≤ (co : Int) := by omega
        have q2 : (q : Int) ≤ ((k' + 1 : Nat) : Int) := by omega
        clear hcg
        by_cases hcc : co = q
        · obtain rfl : q = k' + 1 := by omega
          subst hcc
          go_wp2_with (first
          | (go_at_call 26; refine (l1Own_any (some ⟨g, 0, none⟩) (k' + 1) (k' + 1) (zs.take (k' + 1)) _ (by first | exact HO1.out.ri.take hq | exact (HO1.out.alloc _).ri.take hq) (by omega)).mono ?_; rintro e w3 ⟨A3, c3, rfl, o3, hb⟩; have b3 : Hid (Below w1.heap.size w1 w3) := Below.trans (by repeat (first | exact Below.refl _ _ | refine Below.alloc ?_ (by simp) _ | refine below_drewN ?_ _ | refine Below.drew ?_)) (hb.mono (by first | exact Nat.le_refl _ | simp)); have O3 : Hid (OI w3 w1.heap.size A3 (k' + 1) c3 (zs.take (k' + 1))) := o3; clear hb o3)
          | (at_builtin; refine wpList_append_ints _ rfl _ _ rfl w1.heap.size A3 (k' + 1) c3 (zs.take (k' + 1)) (some ⟨w3.heap.size, 0, none⟩) 1 1 [((k' + 1 : Nat) : Int)] rfl rfl (O3.out.alloc _) (RI.singC _ _) (by omega) (by omega) (by have := b3.out.size; simp; omega) ?_; intro A4 c4 w4 ho4 hg4; have b4 : Hid (Below w1.heap.size w1 w4) := (b3.out.alloc b3.out.size _).trans (ofMark (O3.out.alloc _) hg4 (Nat.le_refl _) (by have := b3.out.size; simp; omega)); have O4 := Lib.hid ho4; clear ho4 hg4)
          | (at_builtin; refine wpList_append_ints _ rfl _ _ rfl w1.heap.size A4 (k' + 1 + 1) c4 (zs.take (k' + 1) ++ [((k' + 1 : Nat) : Int)]) (some ⟨g, 0, none⟩) 0 0 [] rfl rfl O4.out (RI.empC _ _) (by omega) (by omega) b4.out.size ?_; intro A5 c5 w5 ho5 hg5; have b5 : Hid (Below w1.heap.size w1 w5) := b4.out.trans (ofMark O4.out hg5 (Nat.le_refl _) b4.out.size); have O5 := Lib.hid ho5; clear ho5 hg5))
          exact ⟨⟨k' + 1 + 1, _, A5, c5, by omega, by rfl, by rw [show k' + 1 + 1 + 0 = k' + 1 + 1 by omega], by have h5 := O5.out; rw [show k' + 1 + 1 + 0 = k' + 1 + 1 by omega] at h5; exact h5.mono HG1.out.size, fun h => by omega, (HC1.out.below b5.out).le (by omega), grown_below HG1.out b5.out⟩, by simp [intOf] <;> omega⟩
        · go_wp2_with (first
          | (go_at_call 26; refine (l1Own_any (some ⟨g, 0, none⟩) q co (zs.take q) _ (by first | exact HO1.out.ri.take hq | exact (HO1.out.alloc _).ri.take hq) (by omega)).mono ?_; rintro e w3 ⟨A3, c3, rfl, o3, hb⟩; have b3 : Hid (Below w1.heap.size w1 w3) := Below.trans (by repeat (first | exact Below.refl _ _ | refine Below.alloc ?_ (by simp) _ | refine below_drewN ?_ _ | refine Below.drew ?_)) (hb.mono (by first | exact Nat.le_refl _ | simp)); have O3 : Hid (OI w3 w1.heap.size A3 q c3 (zs.take q)) := o3; clear hb o3)
          | (at_builtin; refine wpList_append_ints _ rfl _ _ rfl w1.heap.size A3 q c3 (zs.take q) (some ⟨w3.heap.size, 0, none⟩) 1 1 [((k' + 1 : Nat) : Int)] rfl rfl (O3.out.alloc _) (RI.singC _ _) (by omega) (by omega) (by have := b3.out.size; simp; omega) ?_; intro A4 c4 w4 ho4 hg4; have b4 : Hid (Below w1.heap.size w1 w4) := (b3.out.alloc b3.out.size _).trans (ofMark (O3.out.alloc _) hg4 (Nat.le_refl _) (by have := b3.out.size; simp; omega)); have O4 := Lib.hid ho4; clear ho4 hg4)
          | (at_builtin; refine wpList_append_ints _ rfl _ _ rfl w1.heap.size A4 (q + 1) c4 (zs.take q ++ [((k' + 1 : Nat) : Int)]) (some ⟨g, q, none⟩) (k' + 1 - q) (co - q) (zs.drop q) rfl rfl O4.out (RI.dropC (HO1.out.below b4.out).ri hq) (by omega) (by omega) b4.out.size ?_; intro A5 c5 w5 ho5 hg5; have b5 : Hid (Below w1.heap.size w1 w5) := b4.out.trans (ofMark O4.out hg5 (Nat.le_refl _) b4.out.size); have O5 := Lib.hid ho5; clear ho5 hg5))
          exact ⟨⟨k' + 1 + 1, _, A5, c5, by omega, by rfl, by rw [show q + 1 + (k' + 1 - q) = k' + 1 + 1 by omega], by have h5 := O5.out; rw [show q + 1 + (k' + 1 - q) = k' + 1 + 1 by omega] at h5; exact h5.mono HG1.out.size, fun h => by omega, (HC1.out.below b5.out).le (by omega), grown_below HG1.out b5.out⟩, by simp [intOf] <;> omega⟩
    · obtain rfl : k = m := by omega
      go_wp2
      go_ret
      exact ⟨zs, AO, co, rfl, HO.out, HC.out, HG.out⟩
end Go.Proofs.Ytcjdojnninkgbaa

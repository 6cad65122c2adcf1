/- What a move makes of a list, by its letter; the model's hand on it. -/
import Derived.Test.YtnogmbhcphglkaaDoorMm1
import Derived.Test.YtnogmbhcphglkaaDoorMv5Slide
import Derived.Test.YtnogmbhcphglkaaDoorMv5Flip
import Derived.Test.YtnogmbhcphglkaaDoorMv5Drop
import Derived.Deep.Cut
namespace Go.Proofs.YtnogmbhcphglkaaDoor
open Go Go.RowKit

set_option maxRecDepth 100000 in
set_option maxHeartbeats 1000000 in
theorem lsMake_oth (W : Int) (A : Option Addr) (n c : Nat) (zs : List Int) (kk a : Int) (w : World) (h : RI w A n zs) (hn : n ≤ 1048576) (h1 : ¬ kk = 115) (h2 : ¬ kk = 102) (h3 : ¬ kk = 100) :
    Calls Tryd.prog 34 #[.agg #[.int .i64 W, .slice A n c], .int .u8 kk, .int .i64 a] w (FreshLB w 0 0 [] false) := by
  have HB := belAlloc (belAlloc (belRefl (w := w)) (.cells #[.int .i64 W, .slice A n c] 29)) (.cells #[.int .i64 0, .slice none 0 0] 29)
  have HC : Hid (Cell2 ((w.alloc (.cells #[.int .i64 W, .slice A n c] 29)).alloc (.cells #[.int .i64 0, .slice none 0 0] 29)) (w.heap.size + 1) (.int .i64 0) (.slice none 0 0)) := by have := cellNew (w.alloc (.cells #[.int .i64 W, .slice A n c] 29)) (.int .i64 0) (.slice none 0 0) 29; simp only [World.size_alloc] at this; exact this
  have HA := boxAlloc (boxNew (W := W) (c := c) 29 h) (.cells #[.int .i64 0, .slice none 0 0] 29)
  have hl := h.1
  clear h
  obtain ⟨q, hq⟩ : ∃ q, q = lad W zs := ⟨_, rfl⟩
  have HW := Lib.hid hq
  clear hq
  cases q
  all_goals
    go_enter Tryd.func34, Tryd.ntmps34
    go_wp2_with fail
    refine (laGood_any W A n c zs _ HA.out.ri hn).mono ?_
    rw [← HW.out]
    rintro e w1 ⟨rfl, hb⟩
    replace HB := belStep HB hb
    replace HC := cellStep HC hb
    have k0 := HC.out.c0; have k1 := HC.out.c1; have f0 := HC.out.f0; have f1 := HC.out.f1; have hz := HC.out.lt
    clear hb
    go_wp2
    exact bodyPost_ret (v := .tuple #[.agg #[.int .i64 0, .slice none 0 0], .bool false]) (by simp [results, Tryd.results34, go_sem, k0, k1]) rfl ⟨none, 0, rfl, OI.none_ _ _, (by repeat (first | exact Below.refl _ _ | exact HB.out | refine Below.setCell ?_ (by simp <;> omega) _ | refine Below.alloc ?_ (by simp <;> omega) _ | refine below_drewN ?_ _))⟩

def mmQ (W : Int) (zs : List Int) (k : UInt8) (a : Nat) : Bool := lad W zs && (mvO zs k a).isSome
theorem mmQ_of {W : Int} {zs : List Int} {k : UInt8} {a : Nat} {b : Bool} {L : List Int} (h : mvO zs k a = if b = true then some L else none) :
    mmQ W zs k a = (lad W zs && b) ∧ ifL (lad W zs && b) ((mvO zs k a).getD []) = ifL (lad W zs && b) L := by
  unfold mmQ
  rw [h]
  cases b <;> cases lad W zs <;> simp [ifL]
theorem lsMake_all (W : Int) (A : Option Addr) (n c : Nat) (zs : List Int) (k : UInt8) (a : Nat) (w : World) (h : RI w A n zs) (hn : n ≤ 1048576) (hnc : n ≤ c) :
    Calls Tryd.prog 34 #[.agg #[.int .i64 W, .slice A n c], .int .u8 (k.toNat : Int), .int .i64 (a : Int)] w
      (FreshLB w (ifW (mmQ W zs k a) W) (ifL (mmQ W zs k a) ((mvO zs k a).getD [])).length (ifL (mmQ W zs k a) ((mvO zs k a).getD [])) (mmQ W zs k a)) := by
  by_cases h1 : k = 115
  · subst h1
    have hm := mmQ_of (W := W) (show mvO zs 115 a = if sldOk zs a = true then some (sldL zs a) else none from rfl)
    rw [hm.1, hm.2]
    have := lsMake_sld W A n c zs a w h hn hnc
    rw [Int.toNat_natCast] at this
    exact this
  · by_cases h2 : k = 102
    · subst h2
      have hm := mmQ_of (W := W) (show mvO zs 102 a = if flpOk zs a = true then some (flpL zs a) else none from rfl)
      rw [hm.1, hm.2]
      have := lsMake_flp W A n c zs a w h hn hnc
      rw [Int.toNat_natCast] at this
      exact this
    · by_cases h3 : k = 100
      · subst h3
        have hm := mmQ_of (W := W) (show mvO zs 100 a = if drpOk zs a = true then some (drpL zs a) else none from rfl)
        rw [hm.1, hm.2]
        have := lsMake_drp W A n c zs a w h hn hnc
        rw [Int.toNat_natCast] at this
        exact this
      · have e : mmQ W zs k a = false := by unfold mmQ; rw [mvO_other h1 h2 h3]; cases lad W zs <;> rfl
        rw [e, ifW_no, ifL_no]
        have nt : ∀ m : Nat, m < 256 → k ≠ UInt8.ofNat m → ¬ (k.toNat : Int) = (m : Int) := fun m hm hk e => hk (by
          have e2 : k.toNat = m := by omega
          rw [← e2, UInt8.ofNat_toNat])
        exact lsMake_oth W A n c zs _ a w h hn (nt 115 (by omega) h1) (nt 102 (by omega) h2) (nt 100 (by omega) h3)
theorem l1Num_hund (n : Nat) (w : World) (h : n < 100) : Calls Tryd.prog 33 #[.int .i64 (n : Int)] w (RetS (numT n) w) := by
  rcases Nat.lt_or_ge n 10 with h1 | h1
  · exact l1Num_any n w h1
  · exact l1Num_two n w h1 h

/-- the number that digits tell -/
def vD (l : List UInt8) : Int := l.foldl (fun a c => 10 * a + ((c.toNat : Int) - 48)) 0
def aD (l : List UInt8) : Prop := ∀ c ∈ l, 48 ≤ c.toNat ∧ c.toNat ≤ 57
theorem vD_snoc (l : List UInt8) (c : UInt8) : vD (l ++ [c]) = 10 * vD l + ((c.toNat : Int) - 48) := by
  unfold vD; rw [List.foldl_append]; rfl
theorem numT_len2 {a : Nat} (h : a < 100) : 1 ≤ (numT (a : Int)).length ∧ (numT (a : Int)).length ≤ 2 := by
  rcases Nat.lt_or_ge a 10 with h1 | h1
  · rw [numT_small h1]; simp
  · rw [numT_two h1 h]; simp
theorem dg_nat {n : Nat} (h : n < 10) : (UInt8.ofNat (48 + n)).toNat = 48 + n := by
  simp; omega
theorem numT_aD {a : Nat} (h : a < 100) : aD (numT (a : Int)) ∧ vD (numT (a : Int)) = (a : Int) := by
  rcases Nat.lt_or_ge a 10 with h1 | h1
  · rw [numT_small h1]
    have e := dg_nat h1
    refine ⟨fun c hc => ?_, ?_⟩
    · simp only [List.mem_singleton] at hc
      subst hc; omega
    · show 10 * (0 : Int) + (((UInt8.ofNat (48 + a)).toNat : Int) - 48) = _
      omega
  · rw [numT_two h1 h]
    have e1 := dg_nat (n := a / 10) (by omega)
    have e2 := dg_nat (n := a % 10) (by omega)
    refine ⟨fun c hc => ?_, ?_⟩
    · simp only [List.mem_cons, List.not_mem_nil, or_false] at hc
      rcases hc with rfl | rfl <;> omega
    · show 10 * (10 * (0 : Int) + (((UInt8.ofNat (48 + a / 10)).toNat : Int) - 48)) + (((UInt8.ofNat (48 + a % 10)).toNat : Int) - 48) = _
      omega
theorem txO_short {zs : List Int} {l : List UInt8} (h : l.length < 2 ∨ 3 < l.length) : txO zs l = none := by
  cases l with
  | nil => rfl
  | cons k ds =>
    show (prs ds).bind _ = none
    rw [prs_none fun a ha e => ?_]
    · rfl
    · have := numT_len2 ha
      rw [e] at this
      simp only [List.length_cons] at h
      omega
theorem txO_dig {zs : List Int} {k : UInt8} {ds : List UInt8} (h : ¬ aD ds) : txO zs (k :: ds) = none := by
  show (prs ds).bind _ = none
  rw [prs_none fun a ha e => h (by rw [← e]; exact (numT_aD ha).1)]
  rfl
theorem txO_num {zs : List Int} {k : UInt8} {ds : List UInt8} {v : Nat} (hv : vD ds = (v : Int)) (h : numT (v : Int) ≠ ds) : txO zs (k :: ds) = none := by
  show (prs ds).bind _ = none
  rw [prs_none fun a ha e => ?_]
  · rfl
  · have := (numT_aD ha).2
    rw [e, hv] at this
    obtain rfl : v = a := by omega
    exact h e
end Go.Proofs.YtnogmbhcphglkaaDoor

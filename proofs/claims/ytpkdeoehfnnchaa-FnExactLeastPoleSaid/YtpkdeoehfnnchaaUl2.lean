/- What the program and its model answer where the answer is a turned order. -/
import Derived.Test.YtpkdeoehfnnchaaTu1
import Derived.Test.YtpkdeoehfnnchaaStP
namespace Go.Proofs.Ytpkdeoehfnnchaa
open Go Go.RowKit
/-- a turned order that reads so, and a bool -/
def ReadTB (w : World) (n : Nat) (zs : List Int) (m : Nat) (us : List Int) (q : Bool) (e : Ending) (w' : World) : Prop :=
  ∃ (A : Option Addr) (c : Nat) (E : Option Addr) (d : Nat), e = .returned (.tuple #[.agg #[.slice A n c, .slice E m d], .bool q]) ∧ RI w' A n zs ∧ RI w' E m us ∧ Below w.heap.size w w'
/-- a turned order in new memory, and a bool -/
def FreshTB (w : World) (n : Nat) (zs : List Int) (m : Nat) (us : List Int) (q : Bool) (e : Ending) (w' : World) : Prop :=
  ∃ (A : Option Addr) (c : Nat) (E : Option Addr) (d mid : Nat), e = .returned (.tuple #[.agg #[.slice A n c, .slice E m d], .bool q]) ∧ OG w' w.heap.size mid A n zs ∧ OG w' mid w'.heap.size E m us ∧ Below w.heap.size w w'
set_option maxHeartbeats 400000 in
theorem markPoleG_any (lo hi : Nat) (W : Int) (A : Option Addr) (n c : Nat) (zs : List Int) (k : Int) (w : World) (h : OG w lo hi A n zs) (hn : n ≤ 1048576) (hk : 0 ≤ k) (hk2 : k ≤ 1000000000000) :
    Calls Try.prog 14 #[.agg #[.int .i64 W, .slice A n c], .int .i64 k] w (MarkedG w lo hi A n k) := by
  go_enter Try.func14, Try.ntmps14
  go_wp2_with fail
  refine (markG_any lo hi A n c zs k _ (h.alloc _) hn hk hk2).mono ?_
  rintro e w1 ⟨rfl, ho, hc⟩
  have HCh : Hid (Chg w w1 lo hi) := Lib.hid ⟨hc.os, hc.tape, hc.output, by have := hc.size; simp at this; omega, fun i hi0 hd => (hc.same i (by simp; omega) hd).trans (Below.heap_alloc _ _ _ hi0)⟩
  have H1 := Lib.hid ho
  clear hc ho h
  go_wp2
  go_ret
  exact ⟨rfl, H1.out, HCh.out⟩
end Go.Proofs.Ytpkdeoehfnnchaa

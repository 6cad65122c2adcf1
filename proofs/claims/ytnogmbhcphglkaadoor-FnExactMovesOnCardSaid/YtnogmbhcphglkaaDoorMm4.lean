/- The kinds of moves and their texts, of the program. -/
import Derived.Test.YtnogmbhcphglkaaDoorMm2
import Derived.Test.YtnogmbhcphglkaaDoorTxt
import Derived.BigQuiet
import Derived.Deep.QuietTactic
namespace Go.Proofs.YtnogmbhcphglkaaDoor
open Go Go.RowKit

def kb : Nat → UInt8 | 0 => 115 | 1 => 102 | _ => 100
def kf : Nat → Nat | 0 => 48 | 1 => 49 | _ => 50
def kv (k : Nat) : Value := .func (.func (kf k)) #[] #[]
/-- the kinds lie here -/
def Kinds (w : World) (g : Nat) : Prop := ∀ k, k < 3 → w.cell? ⟨g, k * 2, none⟩ = some (.string ⟨#[kb k]⟩) ∧ w.cell? ⟨g, k * 2 + 1, none⟩ = some (kv k)

set_option maxRecDepth 100000 in
set_option maxHeartbeats 400000 in
theorem moveKinds_any (w : World) : Calls Tryd.prog 28 #[] w (fun e w' => ∃ g, e = .returned (.slice (some ⟨g, 0, none⟩) 3 3) ∧ w.heap.size ≤ g ∧ g < w'.heap.size ∧ Kinds w' g ∧ Below w.heap.size w w') := by
  go_enter Tryd.func28, Tryd.ntmps28
  go_wp2
  go_ret
  refine ⟨w.heap.size, rfl, Nat.le_refl _, by simp, fun k hk => ?_, (Below.refl _ _).alloc (Nat.le_refl _) _⟩
  obtain rfl | rfl | rfl : k = 0 ∨ k = 1 ∨ k = 2 := by omega
  all_goals simp [kv, kb, kf]

set_option maxRecDepth 100000 in
set_option maxHeartbeats 400000 in
theorem textAt_any (k a : Nat) (w : World) (ha : a < 100) : Calls Tryd.prog 29 #[.agg #[.string ⟨#[kb k]⟩, kv k], .int .i64 (a : Int)] w (RetS (kb k :: numT a) w) := by
  obtain ⟨u, hu⟩ : ∃ u, u = bs (numT (a : Int)) := ⟨_, rfl⟩
  have HU : Hid (∀ wr : World, Calls Tryd.prog 51 #[.int .i64 (a : Int)] wr fun e w' => e = .returned (.string u) ∧ w' = wr) := fun wr => by rw [hu]; exact strconv_Itoa_small a (by omega) wr
  have hz : 1 + u.size ≤ 9223372036854775807 := by
    rw [hu, bs_size]; have := numT_len2 ha; omega
  have HS : Hid ((⟨#[kb k]⟩ : ByteArray) ++ u = bs (kb k :: numT (a : Int))) := by
    show _ = _
    rw [hu]
    exact bs_append [kb k] _
  clear hu
  obtain ⟨b, hb⟩ : ∃ b, b = kb k := ⟨_, rfl⟩
  obtain ⟨v, hv⟩ : ∃ v, v = kv k := ⟨_, rfl⟩
  rw [← hb, ← hv]
  rw [← hb] at HS
  clear hb hv
  go_enter Tryd.func29, Tryd.ntmps29
  go_upto_region 1 with fail
  go_region_with ((go_at_call 51; refine (HU.out _).mono ?_; rintro e w3 ⟨rfl, rfl⟩))
  all_goals (go_wp2_with fail)
  all_goals go_ret
  all_goals
    refine ⟨congrArg (fun b => Ending.returned (.string b)) HS.out, ?_⟩
    first
      | exact ((Below.refl w.heap.size w).alloc (Nat.le_refl _) _)
      | exact ((Below.refl w.heap.size w).alloc (Nat.le_refl _) _).drew
      | exact ((Below.refl w.heap.size w).alloc (Nat.le_refl _) _).drew.drew

theorem moved_all (W : Int) (A : Option Addr) (n c : Nat) (zs : List Int) (k a : Nat) (w : World) (hk : k < 3) (h : RI w A n zs) (hn : n ≤ 1048576) (hnc : n ≤ c) :
    Calls Tryd.prog 35 #[.agg #[.int .i64 W, .slice A n c], .int .i64 (a : Int), kv k] w
      (FreshLB w (ifW (mmQ W zs (kb k) a) W) (ifL (mmQ W zs (kb k) a) ((mvO zs (kb k) a).getD [])).length (ifL (mmQ W zs (kb k) a) ((mvO zs (kb k) a).getD [])) (mmQ W zs (kb k) a)) := by
  obtain rfl | rfl | rfl : k = 0 ∨ k = 1 ∨ k = 2 := by omega
  · have hm := mmQ_of (W := W) (show mvO zs (kb 0) a = if sldOk zs a = true then some (sldL zs a) else none from rfl)
    rw [hm.1, hm.2]
    have := moved_sld W A n c zs a w h hn hnc
    rw [Int.toNat_natCast] at this
    exact this
  · have hm := mmQ_of (W := W) (show mvO zs (kb 1) a = if flpOk zs a = true then some (flpL zs a) else none from rfl)
    rw [hm.1, hm.2]
    have := moved_flp W A n c zs a w h hn hnc
    rw [Int.toNat_natCast] at this
    exact this
  · have hm := mmQ_of (W := W) (show mvO zs (kb 2) a = if drpOk zs a = true then some (drpL zs a) else none from rfl)
    rw [hm.1, hm.2]
    have := moved_drp W A n c zs a w h hn hnc
    rw [Int.toNat_natCast] at this
    exact this
end Go.Proofs.YtnogmbhcphglkaaDoor

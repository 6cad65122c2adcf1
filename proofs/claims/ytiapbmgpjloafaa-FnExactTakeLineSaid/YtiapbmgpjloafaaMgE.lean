/- The contract by which the program makes ladders out of parts. The contracts of MirrorLadder, of the program and of its model. -/
import Derived.Test.YtiapbmgpjloafaaConcat
import Derived.Test.YtiapbmgpjloafaaMgD
import Derived.Test.YtiapbmgpjloafaaMgC
import Derived.BigQuiet
namespace Go.Proofs.Ytiapbmgpjloafaa
open Go Go.RowKit

/-- a ladder in new memory, and a bool -/
def FreshLB (w : World) (W : Int) (n : Nat) (zs : List Int) (b : Bool) (e : Ending) (w' : World) : Prop :=
  ∃ A c, e = .returned (.tuple #[.agg #[.int .i64 W, .slice A n c], .bool b]) ∧ OI w' w.heap.size A n c zs ∧ Below w.heap.size w w'

theorem Parts.alloc {w : World} {PP : Option Addr} {k : Nat} {PA : Nat → Option Addr} {PN PC : Nat → Nat} {PZ : Nat → List Int} (h : Parts w PP k PA PN PC PZ) (o : Obj) : Parts (w.alloc o) PP k PA PN PC PZ := by
  have hb : Below w.heap.size w (w.alloc o) := (Below.refl _ _).alloc (Nat.le_refl _) o
  refine ⟨fun hk => ?_, fun j hj => (h.2 j hj).alloc o⟩
  obtain ⟨b, off, e, hbw, hc⟩ := h.1 hk
  exact ⟨b, off, e, Nat.lt_of_lt_of_le hbw hb.size, fun j hj => (hb.cell (p := ⟨b, off + j, none⟩) hbw).trans (hc j hj)⟩

end Go.Proofs.Ytiapbmgpjloafaa
namespace Go.Proofs.Ytiapbmgpjloafaa
open Go Go.RowKit

def mir (W : Int) (zs : List Int) : List Int := zs.map fun z => W - 2 - z
theorem mir_length (W : Int) (zs : List Int) : (mir W zs).length = zs.length := by simp [mir]
theorem gi_mir (W : Int) (zs : List Int) (j : Nat) (h : j < zs.length) : gi (mir W zs) j = W - 2 - gi zs j := by
  rw [gi_lt (by rw [mir_length]; exact h), gi_lt h]; simp [mir]
theorem mir_take (W : Int) (zs : List Int) (k : Nat) (h : k < zs.length) : (mir W zs).take (k + 1) = (mir W zs).take k ++ [W - 2 - gi zs k] := by
  have hl := mir_length W zs
  rw [List.take_succ_eq_append_getElem (by omega), ← gi_lt, gi_mir _ _ _ h]
def ifW (b : Bool) (W : Int) : Int := if b = true then W else 0
def ifL (b : Bool) (zs : List Int) : List Int := if b = true then zs else []
theorem ifW_yes (W : Int) : ifW true W = W := rfl
theorem ifW_no (W : Int) : ifW false W = 0 := rfl
theorem ifL_yes (zs : List Int) : ifL true zs = zs := rfl
theorem ifL_no (zs : List Int) : ifL false zs = [] := rfl
theorem mirN_len (W : Int) (zs : List Int) : (ifL (lad W zs) (mir W zs)).length ≤ 1000 := by
  rcases h : lad W zs with _ | _
  · rw [ifL_no]; simp
  · rw [ifL_yes, mir_length]
    have := (lad_iff.1 h).2.1
    omega
/-- one part -/
theorem Parts.one {w : World} {A : Option Addr} {n c : Nat} {zs : List Int} (h : RI w A n zs) : Parts (w.alloc (.cells #[.slice A n c] 22)) (some ⟨w.heap.size, 0, none⟩) 1 (fun _ => A) (fun _ => n) (fun _ => c) (fun _ => zs) :=
  ⟨fun _ => ⟨w.heap.size, 0, rfl, by simp, fun j hj => by obtain rfl : j = 0 := by omega
                                                          simp⟩, fun _ _ => h.alloc _⟩
theorem cat_one (zs : List Int) : cat (fun _ => zs) 1 = zs := by simp [cat]

/-- a ladder's rungs in the call's own memory, the first k of them mirrored; nothing else has turned since w4 -/
def MirRel (w4 : World) (K : Nat) (A5 : Option Addr) (n c5 : Nat) (W : Int) (zs : List Int) (k : Nat) (wr : World) : Prop :=
  (∃ ys, OI wr K A5 n c5 ys ∧ ∀ j, j < n → gi ys j = if j < k then W - 2 - gi zs j else gi zs j) ∧ w4.grownBy wr (blk A5)

/-- a ladder in block bo whose rungs, in the call's own memory behind it, are the first k of ys -/
def OutRel (w1 : World) (bo : Nat) (W : Int) (ys : List Int) (k : Nat) (wr : World) : Prop :=
  ∃ A1 c1, Cell2 wr bo (.int .i64 W) (.slice A1 k c1) ∧ OI wr (bo + 1) A1 k c1 (ys.take k) ∧ Below bo w1 wr

end Go.Proofs.Ytiapbmgpjloafaa

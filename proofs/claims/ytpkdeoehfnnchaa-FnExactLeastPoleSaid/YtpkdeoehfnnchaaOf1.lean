/- A slice of the call's own whose block is of any kind: how it is kept, and marked. -/
import Derived.Test.YtpkdeoehfnnchaaMgA
import Derived.Test.YtpkdeoehfnnchaaStP
namespace Go.Proofs.Ytpkdeoehfnnchaa
open Go Go.RowKit

/-- the slice reads as zs, in a block of the call's own from block B on -/
structure OF (w : World) (B : Nat) (A : Option Addr) (n : Nat) (zs : List Int) : Prop where
  len : zs.length = n
  low : ∀ b, blk A = some b → B ≤ b ∧ b < w.heap.size
  row : 0 < n → ∃ g, A = some ⟨g, 0, none⟩ ∧ ∀ j, j < n → w.cell? ⟨g, j, none⟩ = some (.int .i64 (gi zs j)) ∧ w.frozen? ⟨g, j, none⟩ = false
section
variable {w wi wj : World} {B : Nat} {A : Option Addr} {n : Nat} {zs : List Int}
theorem OF.ri (h : OF w B A n zs) : RI w A n zs := ⟨h.len, fun hn => by
  obtain ⟨g, rfl, hc⟩ := h.row hn
  exact ⟨g, 0, rfl, (h.low g rfl).2, fun j hj => by rw [Nat.zero_add]; exact (hc j hj).1⟩⟩
theorem OF.none_ (w : World) (B : Nat) : OF w B none 0 [] := ⟨rfl, fun b hb => by simp [blk] at hb, fun h => absurd h (by omega)⟩
theorem OF.mono {B' : Nat} (h : OF w B A n zs) (hB : B' ≤ B) : OF w B' A n zs := ⟨h.len, fun b hb => ⟨Nat.le_trans hB (h.low b hb).1, (h.low b hb).2⟩, h.row⟩
theorem OF.below (h : OF wi B A n zs) (hb : Below wi.heap.size wi wj) : OF wj B A n zs := ⟨h.len, fun b hb' => ⟨(h.low b hb').1, Nat.lt_of_lt_of_le (h.low b hb').2 hb.size⟩, fun hn => by
  obtain ⟨g, rfl, hc⟩ := h.row hn
  have hg := (h.low g rfl).2
  have e : wj.heap[g]? = wi.heap[g]? := hb.block g hg
  exact ⟨g, rfl, fun j hj => ⟨(World.cell?_of_block (w := wi) (a := ⟨g, j, none⟩) e).trans (hc j hj).1, (World.frozen?_of_block (w := wi) (a := ⟨g, j, none⟩) e).trans (hc j hj).2⟩⟩⟩
theorem OF.alloc (h : OF w B A n zs) (o : Obj) : OF (w.alloc o) B A n zs := h.below ((Below.refl _ _).alloc (Nat.le_refl _) o)
theorem OF.stored {g : Nat} (h : OF w B (some ⟨g, 0, none⟩) n zs) {j : Nat} (hj : j < n) (v : Int) : OF (w.setCell ⟨g, j, none⟩ (.int .i64 v)) B (some ⟨g, 0, none⟩) n (zs.set j v) := by
  refine ⟨by rw [List.length_set]; exact h.len, fun b hb => by simpa [World.setCell] using h.low b hb, fun hn => ⟨g, rfl, fun i hi => ?_⟩⟩
  obtain ⟨g', e, hc⟩ := h.row hn
  injection e with e; injection e with e1 e2 e3
  subst e1
  refine ⟨?_, by simpa [go_sem] using (hc i hi).2⟩
  rw [gi_set _ _ _ _ (by rw [h.len]; exact hj)]
  by_cases e : i = j
  · subst e
    rw [if_pos rfl]
    exact World.cell?_setCell_same _ _ _ (hc i hi).1
  · rw [if_neg e, World.cell?_setCell_other _ _ _ _ (by simp)]
    exact (hc i hi).1
end
/-- marks, as far as they are laid -/
def MarkOFRel (w : World) (B : Nat) (A : Option Addr) (n : Nat) (k : Int) (m : Nat) (wr : World) : Prop :=
  (∃ ys : List Int, OF wr B A n ys ∧ ∀ j, j < m → gi ys j = k + j) ∧ w.grownBy wr (blk A)
def MarkedOF (w : World) (B : Nat) (A : Option Addr) (n : Nat) (k : Int) (e : Ending) (w' : World) : Prop :=
  e = .returned (.int .i64 (k + n)) ∧ OF w' B A n (marks k n) ∧ w.grownBy w' (blk A)

set_option maxHeartbeats 1000000 in
theorem markOF_any (B : Nat) (A : Option Addr) (n c : Nat) (zs : List Int) (k : Int) (w : World) (h : OF w B A n zs) (hn : n ≤ 1048576) (hk : 0 ≤ k) (hk2 : k ≤ 1000000000000) :
    Calls Try.prog 19 #[.slice A n c, .int .i64 k] w (MarkedOF w B A n k) := by
  go_enter Try.func19, Try.ntmps19
  go_wp2
  go_loopw [1, 5] (fun s i wr => ∃ k' : Nat, k' ≤ n ∧ i = .int .i64 k' ∧ s = .int .i64 (k + k') ∧ MarkOFRel w B A n k k' wr) (fun _ i _ => n - (intOf i).toNat)
  case atStart => exact ⟨0, Nat.zero_le _, rfl, by simp, ⟨zs, h, fun j hj => absurd hj (by omega)⟩, grown_refl _ _⟩
  case round =>
    obtain ⟨i, hi, rfl, rfl, ⟨ys, ho, hall⟩, hg⟩ := hrel
    by_cases hlt : i < n
    · obtain ⟨g, rfl, hc⟩ := ho.row (by omega)
      obtain ⟨hv0, hf⟩ := hc i hlt
      have H1 := Lib.hid ho
      have H2 := Lib.hid hg
      have H3 := Lib.hid hall
      obtain ⟨v0, hv⟩ : ∃ v0, v0 = gi ys i := ⟨_, rfl⟩
      rw [← hv] at hv0
      clear hall ho hg h hc hv
      go_wp2
      go_roundw
      case rel =>
        refine ⟨i + 1, by omega, by go_num, by go_num, ⟨ys.set i (k + i), H1.out.stored hlt _, fun j hj => ?_⟩, grown_setCell (g := g) (p := ⟨g, i, none⟩) H2.out (.inl rfl) _⟩
        rw [gi_set _ _ _ _ (by have := H1.out.1; omega)]
        split
        · rename_i e; rw [e]
        · exact H3.out j (by omega)
      case measure => simp [intOf]; omega
    · obtain rfl : i = n := by omega
      go_wp2
      go_ret
      refine ⟨rfl, ?_, hg⟩
      have e : ys = marks k i := gi_ext (by rw [ho.1, marks_length]) (fun j hj => by rw [hall j (by have := ho.1; omega), gi_marks _ _ _ (by have := ho.1; omega)])
      rw [← e]; exact ho
end Go.Proofs.Ytpkdeoehfnnchaa

/- The contracts of the functions by which the laws copy, compare, mark and look at their arguments. -/
import Derived.Test.YtnogmbhcphglkaaDoorProg
import Derived.Test.YtnogmbhcphglkaaDoorWords
import Derived.Outline
import Derived.KernelRfl
import Derived.BigQuiet
import Derived.Deep.QuietTactic
namespace Go.Proofs.YtnogmbhcphglkaaDoor
open Go Go.RowKit

theorem infoInt : (Tryd.prog.info? 3).map (fun i => (i.zero, i.size, i.bytes)) = some (some (.int .i64 0), 1, 8) := by kernel_rfl

/-- a new slice of the call's own that reads as zs -/
def FreshI (w : World) (n : Nat) (zs : List Int) (e : Ending) (w' : World) : Prop :=
  ∃ A c, e = .returned (.slice A n c) ∧ OI w' w.heap.size A n c zs ∧ Below w.heap.size w w'

set_option maxHeartbeats 400000 in
theorem toIntS_any (A : Option Addr) (n c : Nat) (zs : List Int) (w : World) (h : RI w A n zs) (hn : n ≤ 1048576) :
    Calls Tryd.prog 26 #[.slice A n c] w (FreshI w n zs) := by
  have hmk := run_make_row' (P := Tryd.prog) 22 3 (.int .i64 0) 8 Tryd.underlying22 infoInt rfl .i64 .i64 n (by omega) (by omega)
  go_enter Tryd.func26, Tryd.ntmps26
  go_wp2
  go_loopw [4] (fun i wr => ∃ k : Nat, k ≤ n ∧ i = .int .i64 k ∧ wr.rowIs w.heap.size 3 n (fun j => if j < k then .int .i64 (gi zs j) else .int .i64 0) ∧ Below w.heap.size w wr) (fun i _ => n - (intOf i).toNat)
  case atStart =>
    refine ⟨0, Nat.zero_le _, rfl, (World.rowIs_made w (.int .i64 0) n 3).congr (fun j _ => by simp), (Below.refl _ _).alloc (Nat.le_refl _) _⟩
  case round =>
    obtain ⟨k, hk, rfl, hrow, hb⟩ := hrel
    by_cases hlt : k < n
    · obtain ⟨b, off, rfl, hbw, hc⟩ := h.cell hlt
      have hck : wr.cell? ⟨b, off + k, none⟩ = some (.int .i64 (gi zs k)) := (hb.cell (p := ⟨b, off + k, none⟩) hbw).trans (hc k hlt)
      have hd := hrow.cell hlt
      have hf := hrow.frozen k
      simp only [Nat.lt_irrefl, if_false] at hd
      have H1 := Lib.hid hrow
      have H2 := Lib.hid hb
      clear hrow hb hc hmk
      go_wp2
      go_roundw
      case rel =>
        refine ⟨k + 1, by omega, by go_num, (H1.out.set k _).congr (fun j hj => ?_), H2.out.setCell (by simp) _⟩
        by_cases e : j = k
        · simp [e]
        · by_cases e2 : j < k
          · simp [e, e2, show j < k + 1 by omega]
          · simp [e, e2, show ¬ j < k + 1 by omega]
      case measure => simp [intOf]; omega
    · obtain rfl : k = n := by omega
      go_wp2
      go_ret
      refine ⟨_, _, rfl, OI.of_rowIs (Nat.le_refl _) hrow (by simp only [maxLen]; omega) h.1 (fun j hj => by simp [hj]), hb⟩

/-- a bool, and nothing that was there has turned -/
def RetB (b : Bool) (w : World) (e : Ending) (w' : World) : Prop := e = .returned (.bool b) ∧ Below w.heap.size w w'
/-- an int, and nothing that was there has turned -/
def RetI (n : Int) (w : World) (e : Ending) (w' : World) : Prop := e = .returned (.int .i64 n) ∧ Below w.heap.size w w'

theorem ret_b {a b : Bool} (h : a = b) : Ending.returned (.bool a) = .returned (.bool b) := by rw [h]
theorem ret_i {k : IntKind} {a b : Int} (h : a = b) : Ending.returned (.int k a) = .returned (.int k b) := by rw [h]

def eqB (zs ys : List Int) : Bool := decide (zs = ys)

theorem eqB_true {zs ys : List Int} (hl : zs.length = ys.length) (h : ∀ j, j < zs.length → gi zs j = gi ys j) : eqB zs ys = true := by
  unfold eqB
  rw [decide_eq_true_iff]
  apply List.ext_getElem hl
  intro j h1 h2
  rw [← gi_lt h1, ← gi_lt h2, h j h1]

theorem eqB_len {zs ys : List Int} (hl : zs.length ≠ ys.length) : eqB zs ys = false := by
  unfold eqB
  rw [decide_eq_false_iff_not]
  intro e; exact hl (by rw [e])

theorem eqB_at {zs ys : List Int} {j : Nat} (h : gi zs j ≠ gi ys j) : eqB zs ys = false := by
  unfold eqB
  rw [decide_eq_false_iff_not]
  intro e; exact h (by rw [e])

set_option maxHeartbeats 400000 in
theorem eqIntS_any (A : Option Addr) (n c : Nat) (zs : List Int) (B : Option Addr) (m d : Nat) (ys : List Int) (w : World) (h : RI w A n zs) (g : RI w B m ys) (hn : n ≤ 1048576) (hm : m ≤ 1048576) :
    Calls Tryd.prog 30 #[.slice A n c, .slice B m d] w (RetB (eqB zs ys) w) := by
  by_cases hnm : n = m
  · subst hnm
    go_enter Tryd.func30, Tryd.ntmps30
    go_wp2
    go_loopw [5] (fun i wr => ∃ k : Nat, k ≤ n ∧ i = .int .i64 k ∧ (∀ j, j < k → gi zs j = gi ys j) ∧ Below w.heap.size w wr) (fun i _ => n - (intOf i).toNat)
    case atStart => exact ⟨0, Nat.zero_le _, rfl, fun j hj => absurd hj (by omega), Below.refl _ _⟩
    case round =>
      obtain ⟨k, hk, rfl, hall, hb⟩ := hrel
      by_cases hlt : k < n
      · obtain ⟨b, off, rfl, hbw, hc⟩ := h.cell hlt
        obtain ⟨b2, off2, rfl, hbw2, hc2⟩ := g.cell hlt
        have hck : wr.cell? ⟨b, off + k, none⟩ = some (.int .i64 (gi zs k)) := (hb.cell (p := ⟨b, off + k, none⟩) hbw).trans (hc k hlt)
        have hck2 : wr.cell? ⟨b2, off2 + k, none⟩ = some (.int .i64 (gi ys k)) := (hb.cell (p := ⟨b2, off2 + k, none⟩) hbw2).trans (hc2 k hlt)
        have H2 := Lib.hid hb
        have H3 := Lib.hid hall
        clear hb hc hc2 hall
        by_cases he : gi zs k = gi ys k
        · go_wp2
          go_quiet (fail)
          go_wp2
          go_roundw
          case rel =>
            refine ⟨k + 1, by omega, by go_num, fun j hj => ?_, below_drewN H2.out _⟩
            by_cases e : j = k
            · rw [e, he]
            · exact H3.out j (by omega)
          case measure => simp [intOf]; omega
        · go_wp2
          go_quiet (fail)
          go_wp2
          go_ret
          exact ⟨ret_b (eqB_at he).symm, below_drewN H2.out _⟩
      · obtain rfl : k = n := by omega
        go_wp2
        go_ret
        exact ⟨ret_b (eqB_true (h.1.trans g.1.symm) (by rw [h.1]; exact hall)).symm, hb⟩
  · have hne : ((n : Int) != (m : Int)) = true := by rw [bne_iff_ne]; omega
    go_enter Tryd.func30, Tryd.ntmps30
    go_wp2
    go_ret
    exact ⟨ret_b (eqB_len (by rw [h.1, g.1]; exact hnm)).symm, Below.refl _ _⟩

/-- the row holds k, k + 1, .. ; no other block has turned -/
def Marked (w : World) (B : Nat) (A : Option Addr) (n c : Nat) (k : Int) (e : Ending) (w' : World) : Prop :=
  e = .returned (.int .i64 (k + n)) ∧ OI w' B A n c (marks k n) ∧ w.grownBy w' (blk A)

def MarkRel (w : World) (B : Nat) (A : Option Addr) (n c : Nat) (k : Int) (i : Nat) (wr : World) : Prop :=
  (∃ ys, OI wr B A n c ys ∧ ∀ j, j < i → gi ys j = k + j) ∧ w.grownBy wr (blk A)

set_option maxHeartbeats 400000 in
theorem markIntS_any (B : Nat) (A : Option Addr) (n c : Nat) (zs : List Int) (k : Int) (w : World) (h : OI w B A n c zs) (hn : n ≤ 1048576) (hk : 0 ≤ k) (hk2 : k ≤ 1000000000000) :
    Calls Tryd.prog 31 #[.slice A n c, .int .i64 k] w (Marked w B A n c k) := by
  go_enter Tryd.func31, Tryd.ntmps31
  go_wp2
  go_loopw [1, 5] (fun s i wr => ∃ k' : Nat, k' ≤ n ∧ i = .int .i64 k' ∧ s = .int .i64 (k + k') ∧ MarkRel w B A n c k k' wr) (fun _ i _ => n - (intOf i).toNat)
  case atStart => exact ⟨0, Nat.zero_le _, rfl, by simp, ⟨zs, h, fun j hj => absurd hj (by omega)⟩, grown_refl _ _⟩
  case round =>
    obtain ⟨i, hi, rfl, rfl, ⟨ys, ho, hall⟩, hg⟩ := hrel
    by_cases hlt : i < n
    · rcases ho.form with ⟨_, _, h0⟩ | ⟨g, cur, rfl, hBg, hgw, hh, h1, h2, h3, h4⟩
      · omega
      obtain ⟨v0, hv0⟩ : ∃ v0, wr.cell? ⟨g, i, none⟩ = some v0 := by
        obtain ⟨b, off, e, _, hc⟩ := ho.ri.cell hlt
        injection e with e; injection e with e1 e2 e3
        subst e1 e2
        exact ⟨_, by have := hc i hlt; rwa [Nat.zero_add] at this⟩
      have hf : wr.frozen? ⟨g, i, none⟩ = false := ho.2.frozenAt i
      have H1 := Lib.hid ho
      have H2 := Lib.hid hg
      have H3 := Lib.hid hall
      clear hall ho hg hh h4 h3 h
      go_wp2
      go_roundw
      case rel =>
        refine ⟨i + 1, by omega, by go_num, by go_num, ⟨ys.set i (k + i), H1.out.stored i _, fun j hj => ?_⟩, grown_setCell (g := g) (p := ⟨g, i, none⟩) H2.out (.inl rfl) _⟩
        rw [gi_set _ _ _ _ (by have := H1.out.1; omega)]
        split
        · rename_i e; rw [e]
        · exact H3.out j (by omega)
      case measure => simp [intOf]; omega
    · obtain rfl : i = n := by omega
      go_wp2
      go_ret
      refine ⟨rfl, ?_, hg⟩
      have e : ys = marks k i := gi_ext (by rw [ho.1, marks_length]) (fun j hj => by rw [hall j (by have := ho.1; omega), gi_marks _ _ _ (by have := ho.1; omega)])
      rw [← e]; exact ho

set_option maxHeartbeats 400000 in
theorem heldIntS_any (A : Option Addr) (n c : Nat) (k : Int) (w : World) (h : RI w A n (marks k n)) (hn : n ≤ 1048576) (hk : 0 ≤ k) (hk2 : k ≤ 1000000000000) :
    Calls Tryd.prog 36 #[.slice A n c, .int .i64 k] w (RetI (k + n) w) := by
  go_enter Tryd.func36, Tryd.ntmps36
  go_wp2
  go_loopw [1, 5] (fun s i wr => ∃ k' : Nat, k' ≤ n ∧ i = .int .i64 k' ∧ s = .int .i64 (k + k') ∧ Below w.heap.size w wr) (fun _ i _ => n - (intOf i).toNat)
  case atStart => exact ⟨0, Nat.zero_le _, rfl, by simp, Below.refl _ _⟩
  case round =>
    obtain ⟨i, hi, rfl, rfl, hb⟩ := hrel
    by_cases hlt : i < n
    · obtain ⟨b, off, rfl, hbw, hc⟩ := h.cell hlt
      have hck : wr.cell? ⟨b, off + i, none⟩ = some (.int .i64 (k + i)) := (hb.cell (p := ⟨b, off + i, none⟩) hbw).trans (by rw [hc i hlt, gi_marks _ _ _ hlt])
      have H2 := Lib.hid hb
      clear hc hb h
      go_wp2
      go_roundw
      case rel => exact ⟨i + 1, by omega, by go_num, by go_num, H2.out⟩
      case measure => simp [intOf]; omega
    · obtain rfl : i = n := by omega
      go_wp2
      go_ret
      exact ⟨rfl, hb⟩
end Go.Proofs.YtnogmbhcphglkaaDoor

/- Ladders made of lists of rungs: the program's laddersOf; its AllLeast. -/
import Derived.Test.YtgeeifjbfceogaaGreatDoorAl2
import Derived.Test.YtgeeifjbfceogaaGreatDoorLL1
import Derived.Test.YtgeeifjbfceogaaGreatDoorMgL
import Derived.OwnWalk
namespace Go.Proofs.YtgeeifjbfceogaaGreatDoor
open Go Go.RowKit

theorem ownsMono {w : World} {B B' : Nat} {e : TypeId} {size : Nat} {v : Value} {n : Nat} {xs : List Value} (h : w.ownsRow B e size v n xs) (hB : B' ≤ B) : w.ownsRow B' e size v n xs :=
  ⟨h.1, by
    rcases h.2 with h0 | ⟨g, cap, cur, hv, hb, hr⟩
    · exact .inl h0
    · exact .inr ⟨g, cap, cur, hv, by omega, hr⟩⟩
theorem infoLad : (Tryz.prog.info? 44).map (fun i => (i.zero, i.size, i.bytes)) = some (some (.agg #[.int .i64 0, .slice none 0 0]), 2, 32) := by kernel_rfl
theorem info_parts2 {i : Option TypeInfo} {z : Value} {s b : Nat} (h : i.map (fun i => (i.zero, i.size, i.bytes)) = some (some z, s, b)) : ∃ i0, i = some i0 ∧ i0.zero = some z ∧ i0.size = s ∧ i0.bytes = b := by
  obtain ⟨i0, h1, h2⟩ := Option.map_eq_some_iff.1 h
  simp only [Prod.mk.injEq] at h2
  exact ⟨i0, h1, h2.1, h2.2.1, h2.2.2⟩
theorem lcs_setS (t : Sl) : ∀ {Ws : List Int} {S : List Sl} (j : Nat), (lcs Ws S).set (j * 2 + 1) (sl t) = lcs Ws (S.set j t)
  | [], S, j => by simp [lcs]
  | W :: Ws, [], j => by cases j <;> simp [lcs]
  | W :: Ws, s :: S, 0 => by simp [lcs]
  | W :: Ws, s :: S, j + 1 => by
    rw [show (j + 1) * 2 + 1 = j * 2 + 1 + 1 + 1 by omega]
    simp only [lcs, List.set_cons_succ]
    rw [lcs_setS t (Ws := Ws) (S := S) j]
theorem made_lcs (n : Nat) : (madeCells (Value.agg #[.int .i64 0, .slice none 0 0]).cells (n * 2)).toList = lcs (List.replicate n 0) (List.replicate n (none, 0, 0)) := by
  have hl : (List.replicate n (0 : Int)).length = (List.replicate n ((none, 0, 0) : Sl)).length := by simp
  apply List.ext_getElem?
  intro j
  by_cases hj : j < n * 2
  · have e1 : (madeCells (Value.agg #[.int .i64 0, .slice none 0 0]).cells (n * 2)).toList[j]? = some ((#[Value.int .i64 0, Value.slice none 0 0] : Array Value)[j % 2]!) := by
      simp [madeCells, Value.cells, hj]
    rw [e1]
    rcases Nat.mod_two_eq_zero_or_one j with h | h
    · obtain ⟨k, rfl⟩ : ∃ k, j = k * 2 := ⟨j / 2, by omega⟩
      rw [lcs_even k hl (by simp; omega), h]
      simp [gi, List.getD, show k < n by omega]
    · obtain ⟨k, rfl⟩ : ∃ k, j = k * 2 + 1 := ⟨j / 2, by omega⟩
      rw [lcs_odd k (none, 0, 0) hl (by rw [List.getElem?_replicate, if_pos (by omega)]), h]
      rfl
  · rw [List.getElem?_eq_none (by simp [size_madeCells]; omega), List.getElem?_eq_none (by rw [lcs_length hl]; simp; omega)]

/-- how many wires the first j of n ladders have, the others being empty -/
def wj (x : Int) (n j : Nat) : List Int := List.replicate j x ++ List.replicate (n - j) 0
def sj (S : List Sl) (n j : Nat) : List Sl := S.take j ++ List.replicate (n - j) (none, 0, 0)
theorem wj_len {x : Int} {n j : Nat} (h : j ≤ n) : (wj x n j).length = n := by simp [wj]; omega
theorem sj_len {S : List Sl} {n j : Nat} (hS : S.length = n) (h : j ≤ n) : (sj S n j).length = n := by simp [sj]; omega
theorem wj_step {x : Int} {n j : Nat} (h : j < n) : (wj x n j).set j x = wj x n (j + 1) := by
  unfold wj
  rw [List.set_append, if_neg (by simp), List.length_replicate, Nat.sub_self, show n - j = (n - (j + 1)) + 1 by omega, List.replicate_succ, List.set_cons_zero, List.replicate_succ', List.append_assoc]
  rfl
theorem sj_step {S : List Sl} {n j : Nat} {s : Sl} (hS : S.length = n) (h : j < n) (hs : S[j]? = some s) : (sj S n j).set j s = sj S n (j + 1) := by
  unfold sj
  rw [List.set_append, if_neg (by simp; omega), List.length_take, Nat.min_eq_left (by omega), Nat.sub_self, show n - j = (n - (j + 1)) + 1 by omega, List.replicate_succ, List.set_cons_zero, List.take_add_one, hs, List.append_assoc]
  rfl

def FreshLSW (w : World) (x : Int) (zss : List (List Int)) (B : Nat) (e : Ending) (w' : World) : Prop :=
  ∃ A c M S, e = .returned (.slice A zss.length c) ∧ OLL w' B M A zss.length c (List.replicate zss.length x) zss S ∧ Below w.heap.size w w'

set_option maxRecDepth 100000 in
set_option maxHeartbeats 4000000 in
theorem laddersOf_any (x : Int) (B M : Nat) (A : Option Addr) (n c : Nat) (zss : List (List Int)) (S : List Sl) (w : World) (h : OIL w B M A n c zss S) (hB : B ≤ w.heap.size) (hn : n ≤ 100000) :
    Calls Tryz.prog 51 #[.int .i64 x, .slice A n c] w (FreshLSW w x zss B) := by
  obtain ⟨i0, hi0, hz0, hz1, hz2⟩ := info_parts2 infoLad
  have HH := Lib.hid h
  have hlz := h.lz
  have hlS := h.lS
  clear h
  go_enter Tryz.func51, Tryz.ntmps51
  go_wp2_with (first
    | (refine wpList_make_full _ rfl _ _ 28 rfl w.heap.size 44 i0 (.agg #[.int .i64 0, .slice none 0 0]) 2 Tryz.underlying28 hi0 hz0 hz1 .i64 .i64 _ _ n rfl rfl rfl rfl (by rw [hz2]; omega) (by unfold maxLen; omega) (Nat.le_refl _) ?_; intro w1 hown1 hg1; rw [made_lcs] at hown1)
    | go_in)
  have HO1 := Lib.hid hown1
  have HB1 : Hid (Below w.heap.size w w1) := Lib.hid ((Below.refl _ w).grown hg1 (Nat.le_refl _) (fun b hb => by cases hb))
  have HG1 : Hid (w.heap.size < w1.heap.size) := Lib.hid (hown1.lt _ rfl).2
  clear hown1 hg1
  obtain ⟨g, hg⟩ : ∃ g, g = w.heap.size := ⟨_, rfl⟩
  have HGW := Lib.hid hg
  rw [← hg] at HO1 HB1 HG1 ⊢
  clear hg
  go_wp2_with fail
  go_loopw [6, 7, 13] (fun _ _ i wr => ∃ j : Nat, j ≤ n ∧ i = .int .i64 (j : Int) ∧ wr.ownsRow g 44 2 (.slice (some ⟨g, 0, none⟩) n n) n (lcs (wj x n j) (sj S n j)) ∧ Below g w wr) (fun _ _ i _ => n - (intOf i).toNat)
  case atStart => exact ⟨0, Nat.zero_le _, rfl, by simpa [wj, sj] using HO1.out, HB1.out⟩
  case round =>
    obtain ⟨j, hj, rfl, ho, hb⟩ := hrel
    have HO := Lib.hid ho
    have HB := Lib.hid hb
    by_cases hlt : j < n
    · have HHr := HH.out.below (HGW.out ▸ hb)
      obtain ⟨g2, a, m, d, rfl, hg2, _, hS, hcj, _⟩ := HHr.row hlt
      have hll : (wj x n j).length = (sj S n j).length := by rw [wj_len hj, sj_len hlS hj]
      obtain ⟨s0, hs0⟩ : ∃ s0, (sj S n j)[j]? = some s0 := ⟨_, List.getElem?_eq_getElem (by rw [sj_len hlS hj]; exact hlt)⟩
      have c0 : wr.cell? ⟨g, j * 2, none⟩ = some (.int .i64 (gi (wj x n j) j)) := by rw [ho.cellAt (j * 2) (by omega), lcs_even j hll (by rw [wj_len hj]; exact hlt)]
      have c1 : wr.cell? ⟨g, j * 2 + 1, none⟩ = some (sl s0) := by rw [ho.cellAt (j * 2 + 1) (by omega), lcs_odd j s0 hll hs0]
      have f0 : wr.frozen? ⟨g, j * 2, none⟩ = false := ho.frozenAt _
      have f1 : wr.frozen? ⟨g, j * 2 + 1, none⟩ = false := ho.frozenAt _
      have HN : Hid (((wr.setCell ⟨g, j * 2, none⟩ (.int .i64 x)).setCell ⟨g, j * 2 + 1, none⟩ (.slice a m d)).ownsRow g 44 2 (.slice (some ⟨g, 0, none⟩) n n) n (lcs (wj x n (j + 1)) (sj S n (j + 1)))) := by
        have h1 := (ho.stored (j * 2) (.int .i64 x)).1
        rw [lcs_set, wj_step hlt] at h1
        have h2 := (h1.stored (j * 2 + 1) (sl (a, m, d))).1
        rw [lcs_setS, sj_step hlS hlt hS] at h2
        exact h2
      have i1 : (0 : Int) ≤ (j : Int) := by omega
      have i2 : (j : Int) < (n : Int) := by omega
      clear ho hb hll hs0 hS HHr
      go_wp2
      go_roundw
      case rel => exact ⟨j + 1, hlt, by go_num, HN.out, (HB.out.setCell (Nat.le_refl _) _).setCell (Nat.le_refl _) _⟩
      case measure => simp [intOf]; omega
    · obtain rfl : j = n := by omega
      have e1 : wj x j j = List.replicate j x := by simp [wj]
      have e2 : sj S j j = S := by simp [sj, ← hlS]
      rw [e1, e2] at ho
      have HHr := Lib.hid (HH.out.below (HGW.out ▸ hb))
      have HO2 := Lib.hid ho
      clear ho hb
      go_wp2
      go_ret
      refine ⟨some ⟨g, 0, none⟩, j, M, S, by rw [hlz]; rfl, ?_, HGW.out ▸ HB.out⟩
      rw [hlz]
      exact ⟨ownsMono HO2.out (by rw [HGW.out]; exact hB), by simp, hlS, hlz, HHr.out.inn, HHr.out.dis, HHr.out.lt, HHr.out.le⟩
end Go.Proofs.YtgeeifjbfceogaaGreatDoor

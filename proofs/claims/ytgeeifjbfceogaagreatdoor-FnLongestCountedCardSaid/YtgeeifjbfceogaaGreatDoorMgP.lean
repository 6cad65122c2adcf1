/- The contracts of ResultOf, of the program and of its model. The contract of the program's ResultOf. -/
import Derived.Test.YtgeeifjbfceogaaGreatDoorMgD
import Derived.Test.YtgeeifjbfceogaaGreatDoorMgC
namespace Go.Proofs.YtgeeifjbfceogaaGreatDoor
open Go Go.RowKit

/-- the result of rungs on so many wires -/
def res (zs : List Int) (N : Nat) : List Int := (List.range N).map fun (i : Nat) => endOf zs (i : Int)
theorem res_length (zs : List Int) (N : Nat) : (res zs N).length = N := by simp [res]
theorem gi_res (zs : List Int) (N i : Nat) (h : i < N) : gi (res zs N) i = endOf zs (i : Int) := by
  rw [gi_lt (by rw [res_length]; exact h)]; simp [res]
theorem res_take (zs : List Int) (N k : Nat) (h : k < N) : (res zs N).take (k + 1) = (res zs N).take k ++ [endOf zs (k : Int)] := by
  have hl := res_length zs N
  rw [List.take_succ_eq_append_getElem (by omega), ← gi_lt, gi_res _ _ _ h]
theorem Wires.wire {W : Int} {zs : List Int} (h : lad W zs = true) {i : Nat} (hi : (i : Int) < W) : Wires zs (i : Int) :=
  ⟨W, by have := (lad_iff.1 h).1; omega, fun _ hj => lad_at h hj, by omega, by omega⟩

def resN (W : Int) (zs : List Int) : List Int := if lad W zs = true then res zs W.toNat else []
theorem resN_yes {W : Int} {zs : List Int} (h : lad W zs = true) : resN W zs = res zs W.toNat := by unfold resN; rw [if_pos h]
theorem resN_no {W : Int} {zs : List Int} (h : lad W zs = false) : resN W zs = [] := by unfold resN; rw [h]; rfl
theorem resN_len (W : Int) (zs : List Int) : (resN W zs).length ≤ 1000 := by
  rcases h : lad W zs with _ | _
  · rw [resN_no h]; simp
  · rw [resN_yes h, res_length]
    have := (lad_iff.1 h).1
    omega

set_option maxRecDepth 100000 in
set_option maxHeartbeats 4000000 in
theorem laResult_any (N : Nat) (A : Option Addr) (n c : Nat) (zs : List Int) (w : World) (h : RI w A n zs) (hn : n ≤ 1048576) (hl : lad (N : Int) zs = true) :
    Calls Tryz.prog 61 #[.int .i64 (N : Int), .slice A n c] w (FreshI w N (res zs N)) := by
  have hN := (lad_iff.1 hl).1
  have HL := Lib.hid hl
  have hzl := Lib.hid h.1
  have HR := RB.of_ri h
  have HA : Hid (RB w w.heap.size A n zs) := HR
  clear hl HR h
  go_enter Tryz.func61, Tryz.ntmps61
  go_wp2
  go_loopw [5, 6] (fun v i wr => ∃ (k : Nat) (A1 : Option Addr) (c1 : Nat), k ≤ N ∧ i = .int .i64 k ∧ v = .slice A1 k c1 ∧ OI wr w.heap.size A1 k c1 ((res zs N).take k) ∧ Below w.heap.size w wr) (fun _ i _ => N - (intOf i).toNat)
  case atStart => exact ⟨0, none, 0, Nat.zero_le _, rfl, rfl, OI.none_ _ _, Below.refl _ _⟩
  case round =>
    obtain ⟨k, A1, c1, hk, rfl, rfl, ho, hb⟩ := hrel
    have HO := Lib.hid ho
    have HB := Lib.hid hb
    by_cases hlt : k < N
    · have hri : RI wr A n zs := HA.out.ri.below hb (Nat.le_refl _)
      have HT := Lib.hid (res_take zs N k hlt)
      have HE : Hid (gi (down zs (k : Int)) n = endOf zs (k : Int)) := by show gi (down zs (k : Int)) n = endOf zs (k : Int); rw [← gi_end, hzl.out]
      clear ho hb
      go_wp2_with (first
        | (go_at_call 82; refine (laDown_any A n c zs _ _ hri hn (Wires.wire HL.out (by omega))).mono ?_; rintro e w6 ⟨A6, c6, rfl, o6, hb⟩; have HO6 := oiStep HO hb; have HB6 := belStep HB hb; obtain ⟨g, rfl, _, hg, hc⟩ := o6.some_; have hcn := hc n (Nat.le_refl _); rw [HE.out] at hcn; clear hb hc o6)
        | (at_builtin; refine wpList_append_int _ rfl _ _ rfl w.heap.size A1 k c1 _ (endOf zs (k : Int)) w6.heap.size rfl rfl (HO6.out.alloc _) (by simp) (by omega) (by have := HB6.out.size; simp; omega) ?_; intro A2 c2 w2 ho2 hg2))
      go_roundw
      case rel =>
        refine ⟨k + 1, A2, c2, by omega, by go_num, rfl, by rw [HT.out]; exact ho2, belStep' HB6 HO6.out hg2⟩
      case measure => simp [intOf]; omega
    · obtain rfl : k = N := by omega
      clear ho hb
      go_wp2
      go_ret
      refine ⟨A1, c1, rfl, ?_, HB.out⟩
      have e : (res zs k).take k = res zs k := List.take_of_length_le (by rw [res_length]; omega)
      have := HO.out
      rwa [e] at this

end Go.Proofs.YtgeeifjbfceogaaGreatDoor
namespace Go.Proofs.YtgeeifjbfceogaaGreatDoor
open Go Go.RowKit

set_option maxRecDepth 100000 in
set_option maxHeartbeats 4000000 in
theorem iResultOf_yes (N : Nat) (A : Option Addr) (n c : Nat) (zs : List Int) (w : World) (h : RI w A n zs) (hn : n ≤ 1048576) (hq : lad (N : Int) zs = true) :
    Calls Tryz.prog 80 #[.agg #[.int .i64 (N : Int), .slice A n c]] w (FreshIB w N (res zs N) true) := by
  have hN := (lad_iff.1 hq).1
  have hmk := run_make_row' (P := Tryz.prog) 22 3 (.int .i64 0) 8 Tryz.underlying22 infoInt rfl .i64 .i64 N (by omega) (by omega)
  have HW := Lib.hid hq
  have hzl := Lib.hid h.1
  clear hq
  go_enter Tryz.func80, Tryz.ntmps80
  go_wp2_with fail
  have HA := boxNew (W := (N : Int)) (c := c) 44 h
  have HB := belAlloc (belRefl (w := w)) (.cells #[.int .i64 (N : Int), .slice A n c] 44)
  refine (iIsLadder_any (N : Int) A n c zs _ (h.alloc _) hn).mono ?_
  rw [HW.out]
  rintro e w1 ⟨rfl, hb⟩
  replace HA := boxStep HA hb; replace HB := belStep HB hb; have a0 := HA.out.c0; have a1 := HA.out.c1; have az := HA.out.lt
  have HK : Hid (BoxB w1 w1.heap.size w.heap.size (N : Int) A n c zs) := BoxB.of HA.out
  have HZ := Lib.hid HB.out.size
  clear hb h
  go_wp2
  go_loopw [5, 14] (fun _ i wr => ∃ k : Nat, k ≤ N ∧ i = .int .i64 k ∧ wr.rowIs w1.heap.size 3 N (fun j => if j < k then .int .i64 (endOf zs (j : Int)) else .int .i64 0) ∧ Below w1.heap.size w1 wr) (fun _ i _ => N - (intOf i).toNat)
  case atStart =>
    refine ⟨0, Nat.zero_le _, rfl, (World.rowIs_made w1 (.int .i64 0) N 3).congr (fun j _ => by simp), (Below.refl _ _).alloc (Nat.le_refl _) _⟩
  case round =>
    obtain ⟨k, hk, rfl, hrow, hb⟩ := hrel
    have HBX : Hid (BoxB wr w1.heap.size w.heap.size (N : Int) A n c zs) := BoxB.step HK.out hb
    have HR := Lib.hid hrow
    have H2 := Lib.hid hb
    clear a0 a1
    by_cases hlt : k < N
    · have a0 := HBX.out.c0; have a1 := HBX.out.c1
      clear hrow hb hmk
      go_wp2_with (go_at_call 95; refine (endOf_any A n c zs _ _ HBX.out.rb.ri hn (Wires.wire HW.out (by omega))).mono ?_; rintro e w6 ⟨rfl, hb⟩; have HR6 : Hid (w6.rowIs w1.heap.size 3 N (fun j => if j < k then .int .i64 (endOf zs (j : Int)) else .int .i64 0)) := rowStep HR hb; have H6 := Lib.hid (H2.out.trans (hb.mono H2.out.size)); have hd := HR6.out.cell hlt; have hf := HR6.out.frozen k; simp only [Nat.lt_irrefl, if_false] at hd; clear hb)
      go_roundw
      case rel =>
        refine ⟨k + 1, by omega, by go_num, (HR6.out.set k _).congr (fun j hj => ?_), H6.out.setCell (by simp) _⟩
        by_cases e : j = k
        · simp [e]
        · by_cases e2 : j < k
          · simp [e, e2, show j < k + 1 by omega]
          · simp [e, e2, show ¬ j < k + 1 by omega]
      case measure => simp [intOf]; omega
    · obtain rfl : k = N := by omega
      clear hrow hb hmk
      go_wp2
      go_ret2
      refine ⟨_, _, rfl, OI.of_rowIs HZ.out HR.out (by simp only [maxLen]; omega) (res_length _ _) (fun j hj => by simp [hj, gi_res _ _ _ hj]), HB.out.trans (H2.out.mono HZ.out)⟩

set_option maxHeartbeats 1000000 in
theorem iResultOf_any (W : Int) (A : Option Addr) (n c : Nat) (zs : List Int) (w : World) (h : RI w A n zs) (hn : n ≤ 1048576) :
    Calls Tryz.prog 80 #[.agg #[.int .i64 W, .slice A n c]] w (FreshIB w (resN W zs).length (resN W zs) (lad W zs)) := by
  rcases hq : lad W zs with _ | _
  · rw [resN_no hq]
    have HW := Lib.hid hq
    clear hq
    go_enter Tryz.func80, Tryz.ntmps80
    go_wp2_with fail
    have HB := belAlloc (belRefl (w := w)) (.cells #[.int .i64 W, .slice A n c] 44)
    refine (iIsLadder_any W A n c zs _ (h.alloc _) hn).mono ?_
    rw [HW.out]
    rintro e w1 ⟨rfl, hb⟩
    have HB := belStep HB hb
    clear hb h
    go_wp2
    go_ret2
    exact ⟨none, 0, rfl, OI.none_ _ _, HB.out⟩
  · have hW := (lad_iff.1 hq).1
    obtain ⟨N, rfl⟩ : ∃ N : Nat, W = (N : Int) := ⟨W.toNat, by omega⟩
    have HL : Hid ((resN (N : Int) zs).length = N) := by show (resN (N : Int) zs).length = N; rw [resN_yes hq, res_length]; simp
    rw [HL.out, resN_yes hq, Int.toNat_natCast]
    exact iResultOf_yes N A n c zs w h hn hq
end Go.Proofs.YtgeeifjbfceogaaGreatDoor

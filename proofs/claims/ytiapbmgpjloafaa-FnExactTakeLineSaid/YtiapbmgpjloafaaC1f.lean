/- The contracts of ResultOf, of the program and of its model. -/
import Derived.Test.YtiapbmgpjloafaaMgD
import Derived.Test.YtiapbmgpjloafaaMgC
namespace Go.Proofs.Ytiapbmgpjloafaa
open Go Go.RowKit

/-- the result of rungs on so many wires -/
def res (zs : List Int) (N : Nat) : List Int := (List.range N).map fun (i : Nat) => endOf zs (i : Int)
theorem res_length (zs : List Int) (N : Nat) : (res zs N).length = N := by simp [res]
theorem gi_res (zs : List Int) (N i : Nat) (h : i < N) : gi (res zs N) i = endOf zs (i : Int) := by
  rw [gi_lt (by rw [res_length]; exact h)]; simp [res]
theorem res_take (zs : List Int) (N k : Nat) (h : k < N) : (res zs N).take (k + 1) = (res zs N).take k ++ [endOf zs (k : Int)] := by
  have hl := res_length zs N
  rw [List.take_succ_eq_append_getElem (by omega), ← gi_lt, gi_res _ _ _ h]
theorem Wires.wire {W : Int} {zs : List Int} (h : lad W zs = true) {i : Nat} (hi : (i : Int) < W) : Wires zs (i : Int) :=
  ⟨W, by have := (lad_iff.1 h).1; omega, fun _ hj => lad_at h hj, by omega, by omega⟩

def resN (W : Int) (zs : List Int) : List Int := if lad W zs = true then res zs W.toNat else []
theorem resN_yes {W : Int} {zs : List Int} (h : lad W zs = true) : resN W zs = res zs W.toNat := by unfold resN; rw [if_pos h]
theorem resN_no {W : Int} {zs : List Int} (h : lad W zs = false) : resN W zs = [] := by unfold resN; rw [h]; rfl
theorem resN_len (W : Int) (zs : List Int) : (resN W zs).length ≤ 1000 := by
  rcases h : lad W zs with _ | _
  · rw [resN_no h]; simp
  · rw [resN_yes h, res_length]
    have := (lad_iff.1 h).1
    omega

set_option maxRecDepth 100000 in
set_option maxHeartbeats 4000000 in
theorem laResult_any (N : Nat) (A : Option Addr) (n c : Nat) (zs : List Int) (w : World) (h : RI w A n zs) (hn : n ≤ 1048576) (hl : lad (N : Int) zs = true) :
    Calls Try.prog 62 #[.int .i64 (N : Int), .slice A n c] w (FreshI w N (res zs N)) := by
  have hN := (lad_iff.1 hl).1
  have HL := Lib.hid hl
  have hzl := Lib.hid h.1
  have HR := RB.of_ri h
  have HA : Hid (RB w w.heap.size A n zs) := HR
  clear hl HR h
  go_enter Try.func62, Try.ntmps62
  go_wp2
  go_loopw [5, 6] (fun v i wr => ∃ (k : Nat) (A1 : Option Addr) (c1 : Nat), k ≤ N ∧ i = .int .i64 k ∧ v = .slice A1 k c1 ∧ OI wr w.heap.size A1 k c1 ((res zs N).take k) ∧ Below w.heap.size w wr) (fun _ i _ => N - (intOf i).toNat)
  case atStart => exact ⟨0, none, 0, Nat.zero_le _, rfl, rfl, OI.none_ _ _, Below.refl _ _⟩
  case round =>
    obtain ⟨k, A1, c1, hk, rfl, rfl, ho, hb⟩ := hrel
    have HO := Lib.hid ho
    have HB := Lib.hid hb
    by_cases hlt : k < N
    · have hri : RI wr A n zs := HA.out.ri.below hb (Nat.le_refl _)
      have HT := Lib.hid (res_take zs N k hlt)
      have HE : Hid (gi (down zs (k : Int)) n = endOf zs (k : Int)) := by show gi (down zs (k : Int)) n = endOf zs (k : Int); rw [← gi_end, hzl.out]
      clear ho hb
      go_wp2_with (first
        | (go_at_call 65; refine (laDown_any A n c zs _ _ hri hn (Wires.wire HL.out (by omega))).mono ?_; rintro e w6 ⟨A6, c6, rfl, o6, hb⟩; have HO6 := oiStep HO hb; have HB6 := belStep HB hb; obtain ⟨g, rfl, _, hg, hc⟩ := o6.some_; have hcn := hc n (Nat.le_refl _); rw [HE.out] at hcn; clear hb hc o6)
        | (at_builtin; refine wpList_append_int _ rfl _ _ rfl w.heap.size A1 k c1 _ (endOf zs (k : Int)) w6.heap.size rfl rfl (HO6.out.alloc _) (by simp) (by omega) (by have := HB6.out.size; simp; omega) ?_; intro A2 c2 w2 ho2 hg2))
      go_roundw
      case rel =>
        refine ⟨k + 1, A2, c2, by omega, by go_num, rfl, by rw [HT.out]; exact ho2, belStep' HB6 HO6.out hg2⟩
      case measure => simp [intOf]; omega
    · obtain rfl : k = N := by omega
      clear ho hb
      go_wp2
      go_ret
      refine ⟨A1, c1, rfl, ?_, HB.out⟩
      have e : (res zs k).take k = res zs k := List.take_of_length_le (by rw [res_length]; omega)
      have := HO.out
      rwa [e] at this

end Go.Proofs.Ytiapbmgpjloafaa

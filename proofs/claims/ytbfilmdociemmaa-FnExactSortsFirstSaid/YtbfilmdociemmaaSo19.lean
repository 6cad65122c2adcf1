/- CountBitsSorted and FirstBitsUnsorted, of the program and of the model. -/
import Derived.Test.YtbfilmdociemmaaSo14
import Derived.Test.YtbfilmdociemmaaSo17
import Derived.Test.YtbfilmdociemmaaSo18
namespace Go.Proofs.Ytbfilmdociemmaa
open Go Go.RowKit

def cbV (W : Int) (zs : List Int) : Int := if lad W zs = true then (cntK zs (bitsAll W.toNat) (2 ^ W.toNat) : Int) else 0
theorem cbV_no {W : Int} {zs : List Int} (h : lad W zs = false) : cbV W zs = 0 := by unfold cbV; rw [if_neg (by rw [h]; decide)]
theorem cbV_yes {W : Int} {zs : List Int} (h : lad W zs = true) : cbV W zs = (cntK zs (bitsAll W.toNat) (2 ^ W.toNat) : Int) := by unfold cbV; rw [if_pos h]
def fbB (W : Int) (zs : List Int) : Bool := lad W zs && fuB zs (bitsAll W.toNat)
def fbL (W : Int) (zs : List Int) : List Int := if lad W zs = true then fuL zs (bitsAll W.toNat) else []
theorem fbB_no {W : Int} {zs : List Int} (h : lad W zs = false) : fbB W zs = false := by unfold fbB; rw [h]; rfl
theorem fbB_yes {W : Int} {zs : List Int} (h : lad W zs = true) : fbB W zs = fuB zs (bitsAll W.toNat) := by unfold fbB; rw [h]; rfl
theorem fbL_no {W : Int} {zs : List Int} (h : lad W zs = false) : fbL W zs = [] := by unfold fbL; rw [if_neg (by rw [h]; decide)]
theorem fbL_yes {W : Int} {zs : List Int} (h : lad W zs = true) : fbL W zs = fuL zs (bitsAll W.toNat) := by unfold fbL; rw [if_pos h]
theorem bitsAll_row {n j : Nat} (h : j < 2 ^ n) : (gz (bitsAll n) j).length = n := by rw [gz_bitsAll h, bitsL_length]
theorem fuL_len {zs : List Int} {L : List (List Int)} {n : Nat} (hl : ∀ v, v ∈ L → v.length ≤ n) : (fuL zs L).length ≤ n := by
  unfold fuL
  cases h : L.find? (fun v => !srtB (runS zs v)) with
  | none => simp
  | some v => exact hl v (List.mem_of_find?_eq_some h)
theorem fbL_le (W : Int) (zs : List Int) : (fbL W zs).length ≤ 1000 := by
  rcases h : lad W zs with _ | _
  · rw [fbL_no h]; simp
  · rw [fbL_yes h]
    have h2 := (lad_iff.1 h).1
    refine Nat.le_trans (fuL_len (n := W.toNat) (fun v hv => ?_)) (by omega)
    obtain ⟨N, _, rfl⟩ := List.mem_map.1 hv
    rw [bitsL_length]; exact Nat.le_refl _

set_option maxRecDepth 100000 in
set_option maxHeartbeats 2000000 in
theorem iCountBitsSorted_any (W : Int) (A : Option Addr) (m c : Nat) (zs : List Int) (w : World) (h : RI w A m zs) (hm : m ≤ 1048576) :
    Calls Try.prog 27 #[.agg #[.int .i64 W, .slice A m c]] w (RetIB (cbV W zs) (lad W zs) w) := by
  rcases hq : lad W zs with _ | _
  · rw [cbV_no hq]
    have HW := Lib.hid hq
    clear hq
    go_enter Try.func27, Try.ntmps27
    go_wp2_with fail
    have HB := belAlloc (belRefl (w := w)) (.cells #[.int .i64 W, .slice A m c] 28)
    refine (iIsLadder_any W A m c zs _ (h.alloc _) hm).mono ?_
    rw [HW.out]
    rintro e w1 ⟨rfl, hb⟩
    replace HB := belStep HB hb
    clear hb h
    go_wp2
    go_ret2
    exact ⟨rfl, HB.out⟩
  · rw [cbV_yes hq]
    have h4 := (lad_iff.1 hq).1
    have h5 := (lad_iff.1 hq).2.1
    have hml := h.1
    obtain ⟨N, rfl⟩ : ∃ N : Nat, W = (N : Int) := ⟨W.toNat, by omega⟩
    rw [Int.toNat_natCast]
    have hz : rungsIn zs N := by have := rungsIn_of_lad hq; rwa [Int.toNat_natCast] at this
    have HW := Lib.hid hq
    have hn8 : N ≤ 8 := by omega
    have hn0 : 0 < N := by omega
    have hm6 : m ≤ 60 := by omega
    have hP2 : 2 ^ N ≤ 256 := pow2_le hn8
    have hbl := bitsAll_length N
    have hbr : ∀ j, j < 2 ^ N → (gz (bitsAll N) j).length = N := fun j hj => bitsAll_row hj
    have HC := Lib.hid (fun w2 K A2 p c2 (e : p = (bitsAll N).length) (r : RI w2 A m zs) (r2 : RBB w2 K A2 p (bitsAll N)) => countSorted_any A m c zs K A2 p c2 (bitsAll N) N w2 r r2 hn8 hn0 hm6 hz (by omega) (fun j hj => hbr j (by omega)))
    obtain ⟨L, hL⟩ : ∃ L, L = bitsAll N := ⟨_, rfl⟩
    have HAB := Lib.hid (fun w2 => allBits_any N w2 hn8)
    rw [← hbl]
    rw [← hL] at HC HAB ⊢
    clear hq h4 h5 hz hml hbr hbl hL hP2
    go_enter Try.func27, Try.ntmps27
    go_wp2_with fail
    have HA := boxNew (W := (N : Int)) (c := c) 28 h
    have HB := belAlloc (belRefl (w := w)) (.cells #[.int .i64 (N : Int), .slice A m c] 28)
    refine (iIsLadder_any (N : Int) A m c zs _ (h.alloc _) hm).mono ?_
    rw [HW.out]
    rintro e w1 ⟨rfl, hb⟩
    replace HA := boxStep HA hb
    replace HB := belStep HB hb
    have a0 := HA.out.c0; have a1 := HA.out.c1; have az := HA.out.lt
    have z1 := HB.out.size
    clear hb h
    go_wp2
    have AD := boxDrew HA; have BD := belDrew HB
    go_region_held3 (fun w' => w'.cell? ⟨w.heap.size, 0, none⟩ = some (.int .i64 (N : Int)) ∧ w'.cell? ⟨w.heap.size, 1, none⟩ = some (.slice A m c))
      (first | exact ⟨HA.out.c0, HA.out.c1⟩ | exact ⟨A2.out.c0, A2.out.c1⟩ | exact ⟨A3.out.c0, A3.out.c1⟩)
      (first
        | (go_at_call 51; refine (HAB.out _).mono ?_; rintro e w2 ⟨F2, d2, M2, S2, rfl, o2, hb⟩; have A2 := boxStep AD hb; have B2 := belStep BD hb; have O2 := Lib.hid o2.rb; clear hb o2)
        | (go_at_call 50; refine (HC.out _ _ _ _ _ rfl A2.out.ri O2.out).mono ?_; rintro e w3 ⟨rfl, hb⟩; have A3 := boxStep A2 hb; have B3 := belStep B2 hb; clear hb))
    go_wp2
    go_ret2
    exact ⟨rfl, B3.out⟩

set_option maxRecDepth 100000 in
set_option maxHeartbeats 2000000 in
theorem iFirstBitsUnsorted_any (W : Int) (A : Option Addr) (m c : Nat) (zs : List Int) (w : World) (h : RI w A m zs) (hm : m ≤ 1048576) :
    Calls Try.prog 29 #[.agg #[.int .i64 W, .slice A m c]] w (FreshIB w (fbL W zs).length (fbL W zs) (fbB W zs)) := by
  rcases hq : lad W zs with _ | _
  · rw [fbL_no hq, fbB_no hq]
    have HW := Lib.hid hq
    clear hq
    go_enter Try.func29, Try.ntmps29
    go_wp2_with fail
    have HB := belAlloc (belRefl (w := w)) (.cells #[.int .i64 W, .slice A m c] 28)
    refine (iIsLadder_any W A m c zs _ (h.alloc _) hm).mono ?_
    rw [HW.out]
    rintro e w1 ⟨rfl, hb⟩
    replace HB := belStep HB hb
    clear hb h
    go_wp2
    go_ret2
    exact ⟨none, 0, rfl, OI.none_ _ _, HB.out⟩
  · rw [fbL_yes hq, fbB_yes hq]
    have h4 := (lad_iff.1 hq).1
    have h5 := (lad_iff.1 hq).2.1
    have hml := h.1
    obtain ⟨N, rfl⟩ : ∃ N : Nat, W = (N : Int) := ⟨W.toNat, by omega⟩
    rw [Int.toNat_natCast]
    have hz : rungsIn zs N := by have := rungsIn_of_lad hq; rwa [Int.toNat_natCast] at this
    have HW := Lib.hid hq
    have hn8 : N ≤ 8 := by omega
    have hn0 : 0 < N := by omega
    have hm6 : m ≤ 60 := by omega
    have hP2 : 2 ^ N ≤ 256 := pow2_le hn8
    have hbl := bitsAll_length N
    have hbr : ∀ j, j < 2 ^ N → (gz (bitsAll N) j).length = N := fun j hj => bitsAll_row hj
    have HC := Lib.hid (fun w2 B M A2 p c2 S (e : p = (bitsAll N).length) (r : RI w2 A m zs) (r2 : OII w2 B M A2 p c2 (bitsAll N) S) => firstUnsorted_any A m c zs B M A2 p c2 (bitsAll N) S N w2 r r2 hn8 hn0 hm6 hz (by omega) (fun j hj => hbr j (by omega)))
    obtain ⟨L, hL⟩ : ∃ L, L = bitsAll N := ⟨_, rfl⟩
    have HAB := Lib.hid (fun w2 => allBits_any N w2 hn8)
    rw [← hL] at HC HAB ⊢
    obtain ⟨Y, hY⟩ : ∃ Y, Y = fuL zs L := ⟨_, rfl⟩
    obtain ⟨q, hqq⟩ : ∃ q, q = fuB zs L := ⟨_, rfl⟩
    rw [← hY, ← hqq] at HC ⊢
    clear hq h4 h5 hz hml hbr hbl hL hP2 hY hqq
    go_enter Try.func29, Try.ntmps29
    go_wp2_with fail
    have HA := boxNew (W := (N : Int)) (c := c) 28 h
    have HB := belAlloc (belRefl (w := w)) (.cells #[.int .i64 (N : Int), .slice A m c] 28)
    refine (iIsLadder_any (N : Int) A m c zs _ (h.alloc _) hm).mono ?_
    rw [HW.out]
    rintro e w1 ⟨rfl, hb⟩
    replace HA := boxStep HA hb
    replace HB := belStep HB hb
    have a0 := HA.out.c0; have a1 := HA.out.c1; have az := HA.out.lt
    have z1 := HB.out.size
    clear hb h
    go_wp2
    have AD := boxDrew HA; have BD := belDrew HB
    go_region_held3 (fun w' => w'.cell? ⟨w.heap.size, 0, none⟩ = some (.int .i64 (N : Int)) ∧ w'.cell? ⟨w.heap.size, 1, none⟩ = some (.slice A m c))
      (first | exact ⟨HA.out.c0, HA.out.c1⟩ | exact ⟨A2.out.c0, A2.out.c1⟩ | exact ⟨A3.out.c0, A3.out.c1⟩)
      (first
        | (go_at_call 51; refine (HAB.out _).mono ?_; rintro e w2 ⟨F2, d2, M2, S2, rfl, o2, hb⟩; have A2 := boxStep AD hb; have B2 := belStep BD hb; have O2 := Lib.hid o2; clear hb o2)
        | (go_at_call 52; refine (HC.out _ _ _ _ _ _ _ rfl A2.out.ri O2.out).mono ?_; rintro e w3 ⟨A9, c9, rfl, o3, hb⟩; have A3 := boxStep A2 hb; have B3 := belStep B2 hb; have O3 := Lib.hid (o3.mono (show w.heap.size ≤ _ from z1)); clear hb o3))
    go_wp2
    go_ret2
    exact ⟨A9, c9, rfl, O3.out, B3.out⟩
end Go.Proofs.Ytbfilmdociemmaa

/- All orders of so many numbers, as the model lists them. -/
import Derived.Test.YtgeeifjbfceogaaGreatDoorCb3
import Derived.Test.YtgeeifjbfceogaaGreatDoorMgF
import Derived.Test.YtgeeifjbfceogaaGreatDoorMgE
namespace Go.Proofs.YtgeeifjbfceogaaGreatDoor
open Go Go.RowKit

/-- how long the first part of a slice of slices is -/
def rowLen (s : Value) (w : World) : Nat :=
  match s with
  | .slice (some p) _ _ => (match w.cell? p with
    | some (.slice _ m _) => m
    | _ => 0)
  | _ => 0
theorem rowLen_at {w : World} {p : Addr} {n c m d : Nat} {a : Option Addr} (h : w.cell? p = some (.slice a m d)) : rowLen (.slice (some p) n c) w = m := by
  unfold rowLen
  simp only [h]

section
variable {w wi wj : World} {B M K : Nat} {A : Option Addr} {n c : Nat} {zss : List (List Int)} {S : List Sl}
theorem OII.row (h : OII w B M A n c zss S) {j : Nat} (hj : j < n) : ∃ g s1 s2 s3, A = some ⟨g, 0, none⟩ ∧ g < w.heap.size ∧ B ≤ g ∧ S[j]? = some (s1, s2, s3) ∧ w.cell? ⟨g, j, none⟩ = some (.slice s1 s2 s3) ∧ OI w B s1 s2 s3 (gz zss j) := by
  rcases h.form with ⟨_, _, h0⟩ | ⟨g, cur, rfl, hB, hg, hh, h1, _⟩
  · omega
  · obtain ⟨s, hS⟩ : ∃ s, S[j]? = some s := ⟨_, List.getElem?_eq_getElem (by rw [h.lS]; exact hj)⟩
    exact ⟨g, s.1, s.2.1, s.2.2, rfl, hg, hB, hS, by rw [h.own.cellAt j (by omega)]; simp [hS, sl], h.inn j s hS⟩
theorem OII.keptR {A1 : Option Addr} {m d : Nat} {zs : List Int} (h : OII wi B M A n c zss S) (h1 : OI wi K A1 m d zs) (hMK : M ≤ K) (hg : wi.grownBy wj (blk A1)) : OII wj B M A n c zss S := by
  refine ⟨h.own.kept hg ?_, h.lS, h.lz, fun j s hs => (h.inn j s hs).kept hg (fun b hb e => by have h2 := h.lt j s hs b hb; have h3 := (h1.blk b e).1; omega), h.dis, h.lt, Nat.le_trans h.le hg.size⟩
  rcases h.form with ⟨rfl, rfl, rfl⟩ | ⟨g, cur, rfl, hB, _⟩
  · exact .inl rfl
  · refine .inr ?_
    simp only [Value.ownBlock]
    intro e
    exact apart_types h h1 g e.symm rfl
end
theorem OII.lit0 (w : World) (B : Nat) (hB : B ≤ w.heap.size) : OII (w.alloc (.cells #[.slice none 0 0] 22)) B w.heap.size (some ⟨w.heap.size, 0, none⟩) 1 1 [[]] [(none, 0, 0)] := by
  refine ⟨World.ownsRow_lit _ _ _ hB (by decide) rfl, rfl, rfl, fun j s hs => ?_, fun i j s t hij hs ht => ?_, fun j s hs b hb => ?_, by simp⟩
  · rcases j with _ | j
    · simp at hs
      subst hs
      exact OI.none_ _ _
    · simp at hs
  · rcases j with _ | j
    · omega
    · simp at ht
  · rcases j with _ | j
    · simp at hs
      subst hs
      simp [blk] at hb
    · simp at hs

set_option maxRecDepth 100000 in
set_option maxHeartbeats 8000000 in
theorem alOrders_any (n : Nat) (w : World) (_hn1 : 1 ≤ n) (hn : n ≤ 6) :
    Calls Tryz.prog 55 #[.int .i64 (n : Int)] w (FreshSS w (ordsK n n)) := by
  go_enter Tryz.func55, Tryz.ntmps55
  go_wp2
  have HO0 := Lib.hid (OII.lit0 w w.heap.size (Nat.le_refl _))
  have HB0 : Hid (Below w.heap.size w (w.alloc (.cells #[.slice none 0 0] 22))) := Lib.hid ((Below.refl _ w).alloc (Nat.le_refl _) _)
  obtain ⟨w0, hw0⟩ : ∃ w0, w0 = w.alloc (.cells #[.slice none 0 0] 22) := ⟨_, rfl⟩
  rw [← hw0] at HO0 HB0 ⊢
  clear hw0
  go_loopw [3, 4, 6, 7] (fun s3 _ _ _ wr => ∃ (k : Nat) (A : Option Addr) (c M : Nat) (S : List Sl), k ≤ n ∧ s3 = .slice A (ordsK n k).length c ∧ OII wr w.heap.size M A (ordsK n k).length c (ordsK n k) S ∧ Below w.heap.size w wr) (fun s3 _ _ _ wr => n - rowLen s3 wr)
  case atStart => exact ⟨0, _, 1, _, _, Nat.zero_le _, rfl, HO0.out, HB0.out⟩
  case round =>
    obtain ⟨k, A, c, M, S, hk, rfl, ho, hb⟩ := hrel
    have HO := Lib.hid ho
    have HB := Lib.hid hb
    have HLL := Lib.hid (ordsK_small hn (show k ≤ 6 by omega))
    have HRW : Hid (∀ j, j < (ordsK n k).length → (gz (ordsK n k) j).length = k) := fun j hj => ordsK_row hj
    have HNX : Hid (ordsK n (k + 1) = lvlK n (ordsK n k) (ordsK n k).length) := Lib.hid rfl
    have HKK : Hid (k = n → ordsK n k = ordsK n n) := fun e => by rw [e]
    have hp := ordsK_pos (n := n) (k := k) hk
    obtain ⟨L, hL⟩ : ∃ L, L = ordsK n k := ⟨_, rfl⟩
    rw [← hL] at HO HLL HRW HNX HKK hp ho ⊢
    obtain ⟨wo, hwo⟩ : ∃ wo, wo = wr := ⟨_, rfl⟩
    subst hwo
    obtain ⟨g, a0, m0, d0, rfl, hg, hBg, _, hc0, hoi0⟩ := ho.row hp
    obtain rfl : k = m0 := by rw [← hoi0.1]; exact (HRW.out 0 hp).symm
    have HR0 := Lib.hid (rowLen_at (n := L.length) (c := c) hc0)
    have HLn := HLL.out
    have HPK : Hid (k < n → 0 < (ordsK n (k + 1)).length) := fun h => ordsK_pos h
    obtain ⟨K, hK⟩ : ∃ K, K = wo.heap.size := ⟨_, rfl⟩
    have HKS : Hid (K ≤ wo.heap.size) := Lib.hid (Nat.le_of_eq hK)
    have HRB : Hid (∀ j, j < L.length → ∃ a d, wo.cell? ⟨g, j, none⟩ = some (.slice a k d) ∧ RB wo K a k (gz L j)) := fun j hj => by
      obtain ⟨g', a, m, d, e, _, _, _, h1, h2⟩ := ho.row hj
      injection e with e; injection e with e _ _
      subst e
      obtain rfl : k = m := by rw [← h2.1]; exact (HRW.out j hj).symm
      exact ⟨a, d, h1, by rw [hK]; exact RB.of_ri h2.ri⟩
    have HGK : Hid (g < K) := Lib.hid (by rw [hK]; exact hg)
    have HLZ : Hid (w.heap.size ≤ K) := Lib.hid (by rw [hK]; exact hb.size)
    clear ho hb hL hoi0 hK hg
    by_cases hlt : k < n
    · go_wp2
      go_loopw [4, 6, 7, 17] (fun s4 _ _ i wi => ∃ (j : Nat) (A1 : Option Addr) (c1 M1 : Nat) (S1 : List Sl), j ≤ L.length ∧ i = .int .i64 (j : Int) ∧ s4 = .slice A1 (lvlK n L j).length c1 ∧ OII wi K M1 A1 (lvlK n L j).length c1 (lvlK n L j) S1 ∧ Below K wo wi) (fun _ _ _ i _ => L.length - (intOf i).toNat)
      case atStart => exact ⟨0, none, 0, _, [], Nat.zero_le _, rfl, rfl, OII.none_ _ _, Below.refl _ _⟩
      case round =>
        obtain ⟨j, A1, c1, M1, S1, hj, rfl, rfl, ho1, hb1⟩ := hrel
        obtain ⟨wi, hwi⟩ : ∃ wi, wi = wr := ⟨_, rfl⟩
        subst hwi
        have HO1 := Lib.hid ho1
        have HB1 := Lib.hid hb1
        clear ho1 hb1
        by_cases hlj : j < L.length
        · obtain ⟨a, d, hcj, hra⟩ := HRB.out j hlj
          have hcj := (HB1.out.cell (p := ⟨g, j, none⟩) HGK.out).trans hcj
          obtain ⟨q, hq⟩ : ∃ q, q = gz L j := ⟨_, rfl⟩
          rw [← hq] at hra
          have HA := Lib.hid hra
          have HLV : Hid (lvlK n L (j + 1) = lvlK n L j ++ addK q n) := by show _ = _; rw [hq]; rfl
          have HSM := Lib.hid (lvlK_small hn HLL.out (show j ≤ L.length by omega))
          clear hq hra
          go_wp2
          go_loopw [4, 7] (fun s4 s7 wq => ∃ (x : Nat) (A2 : Option Addr) (c2 : Nat) (S2 : List Sl) (L2 : List (List Int)), x ≤ n ∧ L2 = lvlK n L j ++ addK q x ∧ s7 = .int .i64 (x : Int) ∧ s4 = .slice A2 L2.length c2 ∧ OII wq K wq.heap.size A2 L2.length c2 L2 S2 ∧ Below K wo wq) (fun _ s7 _ => n - (intOf s7).toNat)
          case atStart => exact ⟨0, A1, c1, S1, lvlK n L j, Nat.zero_le _, by simp [addK], rfl, rfl, HO1.out.top, HB1.out⟩
          case round =>
            obtain ⟨x, A2, c2, S2, L2, hx, hL2, rfl, rfl, ho2, hb2⟩ := hrel
            have HO2 := Lib.hid ho2
            have HB2 := Lib.hid hb2
            have HL2 := Lib.hid hL2
            have hl2 : L2.length ≤ 300000 := by rw [hL2, List.length_append]; have := HSM.out; have := addK_len q x; omega
            have HAq : Hid (RI wr a k q) := (HA.out.step HB2.out).ri
            clear ho2 hb2 hL2
            by_cases hxn : x < n
            · rcases hh : has q (x : Int) with _ | _
              · have HH := Lib.hid hh
                clear hh
                go_wp2_with fail
                refine (l1Has_any a k d q (x : Int) _ HAq.out (by omega)).mono ?_
                rw [HH.out]
                rintro e w5 ⟨rfl, rfl⟩
                go_wp2_with fail
                refine (l1Own_any a k d q _ HAq.out (by omega)).mono ?_
                rintro e w6 ⟨A6, c6, rfl, o6, hb6⟩
                have HO6 := Lib.hid o6
                have HB6 := Lib.hid hb6
                have HKB : Hid (Below K _ w6) := Lib.hid (HB2.out.trans (HB6.out.mono (Nat.le_trans HKS.out HB2.out.size)))
                have HO26 := Lib.hid (HO2.out.below HB6.out)
                have HZ6 := Lib.hid hb6.size
                have HKW := Lib.hid (Nat.le_trans HKS.out HB2.out.size)
                have HKZ := Lib.hid (Nat.le_trans HKW.out hb6.size)
                clear o6 hb6
                go_wp2_with (first
                  | (at_builtin; refine wpList_append_int _ rfl _ _ rfl wr.heap.size A6 k c6 q (x : Int) _ rfl rfl (HO6.out.alloc _) (cellNewAt _ _ _ rfl) (by omega) (by have := HZ6.out; simp; omega) ?_; intro A7 c7 w7 ho7 hg7; have HO7 := Lib.hid ho7; have HO27 := Lib.hid ((HO26.out.alloc (.cells #[.int .i64 (x : Int)] 3)).keptR (HO6.out.alloc _) (Nat.le_refl _) hg7); have HB7 := Lib.hid ((HKB.out.alloc HKZ.out _).grown hg7 (by have := HKZ.out; simp; omega) (fun b hb => by have := (HO6.out.blk b hb).1; have := HKW.out; omega)); have HZ7 := Lib.hid hg7.size; clear ho7 hg7)
                  | (at_builtin; refine wpList_append_sl _ rfl _ _ rfl K wr.heap.size A2 L2.length c2 L2 S2 A7 (k + 1) c7 _ _ rfl rfl (HO27.out.alloc _) (HO7.out.alloc _) HKW.out (cellNewAt _ _ _ rfl) (by omega) (by have := HZ7.out; have := HKZ.out; simp at *; omega) ?_; intro A8 c8 w8 ho8 hg8; have HO8 := Lib.hid ho8; have HB8 := Lib.hid ((HB7.out.alloc (by have := HZ7.out; have := HKZ.out; simp at *; omega) _).grown hg8 (by have := HZ7.out; have := HKZ.out; simp at *; omega) (fun b hb => HO2.out.blkB b hb)); have HZ8 := Lib.hid hg8.size; clear ho8 hg8)
                  | go_in)
                go_roundw
                case rel =>
                  exact ⟨x + 1, A8, c8, _, L2 ++ [q ++ [(x : Int)]], by omega, by rw [HL2.out, addK_no HH.out, List.append_assoc], by go_num, by simp, by simpa using HO8.out.top, HB8.out⟩
                case measure => simp [intOf]; omega
              · have HH := Lib.hid hh
                clear hh
                go_wp2_with fail
                refine (l1Has_any a k d q (x : Int) _ HAq.out (by omega)).mono ?_
                rw [HH.out]
                rintro e w5 ⟨rfl, rfl⟩
                go_wp2
                go_roundw
                case rel => exact ⟨x + 1, A2, c2, S2, L2, by omega, by rw [HL2.out, addK_yes HH.out], by go_num, rfl, HO2.out, HB2.out⟩
                case measure => simp [intOf]; omega
            · obtain rfl : x = n := by omega
              go_wp2
              go_roundw
              case rel =>
                have e : L2 = lvlK x L (j + 1) := by rw [HL2.out, HLV.out]
                subst e
                exact ⟨j + 1, A2, c2, _, S2, by omega, by go_num, rfl, HO2.out, HB2.out⟩
              case measure => simp [intOf]; omega
        · obtain rfl : j = L.length := by omega
          rw [← HNX.out] at HO1 ⊢
          have HR1 : Hid (rowLen (.slice A1 (ordsK n (k + 1)).length c1) wi = k + 1) := by
            show _ = _
            obtain ⟨g', a, m, d, e, _, _, _, h1, h2⟩ := HO1.out.row (HPK.out hlt)
            subst e
            obtain rfl : k + 1 = m := by rw [← h2.1]; exact (ordsK_row (HPK.out hlt)).symm
            exact rowLen_at h1
          go_wp2
          go_roundw
          case rel => exact ⟨k + 1, A1, c1, M1, S1, hlt, rfl, HO1.out.mono HLZ.out, HB.out.trans (HB1.out.mono HLZ.out)⟩
          case measure => rw [HR1.out, HR0.out]; omega
    · obtain rfl : k = n := by omega
      have e := HKK.out rfl
      subst e
      go_wp2
      go_ret
      exact ⟨_, c, M, S, rfl, HO.out, HB.out⟩
end Go.Proofs.YtgeeifjbfceogaaGreatDoor

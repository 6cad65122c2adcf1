/- Idle rungs: the model's test. -/
import Derived.Test.YtbodimhjbbmniaaSo21
import Derived.Test.YtbodimhjbbmniaaSo20
namespace Go.Proofs.Ytbodimhjbbmniaa
open Go Go.RowKit Go.Conc

theorem infoBool6 : (Try.prog.info? 4).map (fun i => (i.zero, i.size, i.bytes)) = some (some (.bool false), 1, 1) := by kernel_rfl

set_option maxRecDepth 100000 in
set_option maxHeartbeats 4000000 in
theorem soIdle_any (N : Nat) (A : Option Addr) (m c : Nat) (zs : List Int) (w : World) (h : RI w A m zs) (hn8 : N ≤ 8) (hn0 : 0 < N) (hm6 : m ≤ 60) (hz : rungsIn zs N) :
    Calls Try.prog 53 #[.agg #[.int .i64 (N : Int), .slice A m c]] w fun e w' => ∃ g, e = .returned (.slice (some ⟨g, 0, none⟩) m m) ∧ w.heap.size ≤ g ∧ w'.rowIs g 4 m (fun a => .bool (!(bsyN zs N a))) ∧ Below w.heap.size w w' := by
  have hmk := run_make_row' (P := Try.prog) 60 4 (.bool false) 1 Try.underlying60 infoBool6 rfl .i64 .i64 m (by omega) (by omega)
  have hml := h.1
  have hP2 : 2 ^ N ≤ 256 := pow2_le hn8
  obtain ⟨P, hP⟩ : ∃ P, P = 2 ^ N := ⟨_, rfl⟩
  have hpw : wrap64 ((2 : Int) ^ N) = (P : Int) := by
    have e : ((2 : Int) ^ N) = (P : Int) := by rw [hP]; simp
    rw [e]; exact IntWalk.wrap64_in _ (by omega)
  have HBL : Hid (∀ k, k < P → gz (bitsAll N) k = bitsL N k) := Lib.hid (fun k hk => gz_bitsAll (by omega))
  have HBN : Hid (bsyK zs (bitsAll N) P = bsyN zs N) := Lib.hid (by rw [hP]; rfl)
  have HS := Lib.hid (fun w2 A2 c2 v (e : v.length = N) (r : RI w2 A m zs) (r2 : RI w2 A2 N v) => soRun_any A m c zs A2 N c2 v w2 r r2 hn8 hn0 hm6 hz)
  have hPl : P ≤ 256 := by omega
  have HRW := Lib.hid (fun v (hb : Below w.heap.size w v) => h.below hb (Nat.le_refl _))
  clear hz hP hP2
  go_enter Try.func53, Try.ntmps53
  go_wp2
  have HA0 := boxNew (W := (N : Int)) (c := c) 28 h
  have HB0 := belAlloc (belRefl (w := w)) (.cells #[.int .i64 (N : Int), .slice A m c] 28)
  go_loopw [16] (fun i wr => ∃ k : Nat, k ≤ m ∧ i = .int .i64 k ∧ Box wr w.heap.size (N : Int) A m c zs ∧ wr.rowIs (w.heap.size + 1) 4 m (fun a => .bool (decide (a < k))) ∧ Below w.heap.size w wr ∧ w.heap.size + 2 ≤ wr.heap.size) (fun i _ => m - (intOf i).toNat)
  case atStart =>
    refine ⟨0, Nat.zero_le _, rfl, (boxAlloc HA0 _).out, ?_, (belAlloc HB0 _).out, by simp⟩
    have h1 := (World.rowIs_made (w.alloc (.cells #[.int .i64 (N : Int), .slice A m c] 28)) (.bool false) m 4)
    simp only [World.size_alloc] at h1
    exact h1.congr (fun a _ => by simp)
  case round =>
    obtain ⟨k, hk, rfl, hA, hR, hb, hz2⟩ := hrel
    have HA := Lib.hid hA; have HR := Lib.hid hR; have HB := Lib.hid hb
    by_cases hlt : k < m
    · have hd := hR.cell hlt
      have hf := hR.frozen k
      clear hA hR hb hmk
      go_wp2
      go_roundw
      case rel =>
        have hne : w.heap.size ≠ w.heap.size + 1 := by omega
        refine ⟨k + 1, by omega, by go_num, ⟨by rw [World.cell?_setCell_other _ _ _ _ (by simp)]; exact HA.out.c0, by rw [World.cell?_setCell_other _ _ _ _ (by simp)]; exact HA.out.c1, HRW.out _ (HB.out.setCell (by simp) _), by simpa [World.setCell] using HA.out.lt⟩, (HR.out.set k _).congr (fun a _ => ?_), HB.out.setCell (by simp) _, by simpa [World.setCell] using hz2⟩
        by_cases e : a = k
        · subst e; simp
        · rw [if_neg e]
          by_cases e2 : a < k
          · simp [e2, show a < k + 1 by omega]
          · simp [e2, show ¬ a < k + 1 by omega]
      case measure => simp [intOf]; omega
    · obtain rfl : k = m := by omega
      have HR9 : Hid (wr.rowIs (w.heap.size + 1) 4 k (fun a => .bool (!(bsyK zs (bitsAll N) 0 a)))) := Lib.hid (HR.out.congr (fun a ha => by simp [bsyK, ha]))
      obtain ⟨wo, hwo⟩ : ∃ v : World, v = wr := ⟨_, rfl⟩
      subst hwo
      clear hA hR hb hmk
      go_wp2
      go_loopw [5] (fun i wr => ∃ j : Nat, j ≤ P ∧ i = .int .i64 j ∧ Box wr w.heap.size (N : Int) A k c zs ∧ wr.rowIs (w.heap.size + 1) 4 k (fun a => .bool (!(bsyK zs (bitsAll N) j a))) ∧ Below w.heap.size w wr ∧ w.heap.size + 2 ≤ wr.heap.size) (fun i _ => P - (intOf i).toNat)
      case atStart => exact ⟨0, Nat.zero_le _, rfl, HA.out, HR9.out, HB.out, hz2⟩
      case round =>
        obtain ⟨j, hj, rfl, hA, hR, hb, hzr⟩ := hrel
        obtain ⟨wp, hwp⟩ : ∃ v : World, v = wr := ⟨_, rfl⟩
        subst hwp
        have HA := Lib.hid hA; have HR := Lib.hid hR; have HB := Lib.hid hb
        have a0 := hA.c0; have a1 := hA.c1; have az := hA.lt
        clear hA hR hb HR9
        by_cases hlt : j < P
        · have HS2 := Lib.hid (fun w2 A2 c2 (r : RI w2 A k zs) (r2 : RI w2 A2 N (gz (bitsAll N) j)) => HS.out w2 A2 c2 (gz (bitsAll N) j) (by rw [HBL.out j hlt, bitsL_length]) r r2)
          have hk2 : j ≤ 256 := by omega
          have HGB := Lib.hid (HBL.out j hlt)
          go_wp2
          have AD := boxDrew HA; have BD := belDrew HB
          have RD : Hid (wp.drew.rowIs (w.heap.size + 1) 4 k (fun a => .bool (!(bsyK zs (bitsAll N) j a)))) := HR
          go_region_held3 (fun w' => w'.cell? ⟨w.heap.size, 0, none⟩ = some (.int .i64 (N : Int)) ∧ w'.cell? ⟨w.heap.size, 1, none⟩ = some (.slice A k c))
            (first | exact ⟨HA.out.c0, HA.out.c1⟩ | exact ⟨A2.out.c0, A2.out.c1⟩ | exact ⟨A3.out.c0, A3.out.c1⟩)
            (first
              | (go_at_call 49; refine (soBits_any N j _ hn8 hk2).mono ?_; rw [← HGB.out]; rintro e w2 ⟨F2, d2, rfl, o2, hb⟩; have A2 := boxStep AD hb; have B2 := belStep BD hb; have R2 := rowStep RD hb; have O2 := Lib.hid o2; have Z2 := Lib.hid hb.size; clear hb o2)
              | (go_at_call 41; refine (HS2.out _ _ _ A2.out.ri O2.out.ri).mono ?_; rintro e w3 ⟨G1, g1, E, d1, rfl, -, oE, hb⟩; have A3 := boxStep A2 hb; have B3 := belStep B2 hb; have R3 := rowStep R2 hb; have HE := Lib.hid oE; have Z3 := Lib.hid hb.size; clear hb oE))
          have hz3 : w.heap.size + 2 ≤ w2.heap.size := by have := Z2.out; simp at this; omega
          have hz4 : w2.heap.size ≤ w3.heap.size := Z3.out
          have hEl : (exL zs (gz (bitsAll N) j)).length ≤ 60 := by
            have := exK_le zs (gz (bitsAll N) j) zs.length
            unfold exL; omega
          clear a0 a1 az
          have a0 := A3.out.c0; have a1 := A3.out.c1; have az := A3.out.lt
          go_wp2
          go_loopw [42] (fun i wr => ∃ x : Nat, x ≤ (exL zs (gz (bitsAll N) j)).length ∧ i = .int .i64 x ∧ wr.rowIs (w.heap.size + 1) 4 k (fun a => .bool (!(bsyI zs (bitsAll N) j x a))) ∧ w3.grownBy wr (some (w.heap.size + 1))) (fun i _ => (exL zs (gz (bitsAll N) j)).length - (intOf i).toNat)
          case atStart => exact ⟨0, Nat.zero_le _, rfl, R3.out.congr (fun a _ => by rw [bsyI_zero]), grown_refl _ _⟩
          case round =>
            obtain ⟨x, hx, rfl, hR2, hg⟩ := hrel
            have HR2 := Lib.hid hR2
            have HG := Lib.hid hg
            by_cases hlk : x < (exL zs (gz (bitsAll N) j)).length
            · obtain ⟨y, hy, hyl⟩ := exL_at hlk
              obtain ⟨bE, rfl⟩ : ∃ bE, E = some ⟨bE, 0, none⟩ := by
                rcases HE.out.form with ⟨_, _, e1⟩ | ⟨g9, cur, e1, _⟩
                · omega
                · exact ⟨g9, e1⟩
              have hbE := HE.out.blk bE rfl
              have hcE : wr.cell? ⟨bE, x, none⟩ = some (.int .i64 (y : Int)) := by
                have h1 := HE.out.cells x hlk
                rw [hy] at h1
                rw [← h1]
                exact World.cell?_of_block (w := w3) (a := ⟨bE, x, none⟩) (hg.block bE hbE.2 (fun e => by have := Option.some.inj e; omega))
              have hyk : y < k := by omega
              have hd := hR2.cell hyk
              have hf := hR2.frozen y
              have hyi : (y : Int) < (k : Int) := by omega
              have HYY := Lib.hid hy
              clear hR2 hg hy
              go_wp2
              go_roundw
              case rel =>
                refine ⟨x + 1, by omega, by go_num, (HR2.out.set y _).congr (fun a _ => ?_), grown_setCell HG.out (.inl rfl) _⟩
                rw [bsyI_succ hlk y HYY.out]
                by_cases e : a = y
                · rw [if_pos e, if_pos e]; rfl
                · rw [if_neg e, if_neg e]
              case measure => simp [intOf]; omega
            · obtain rfl : x = (exL zs (gz (bitsAll N) j)).length := by omega
              have hbl : Below (w.heap.size + 1) w3 wr := ⟨hg.os, hg.tape, hg.output, hg.size, fun i hi => hg.block i (by omega) (fun e => by have := Option.some.inj e; omega)⟩
              have HB3 : Hid (Below w.heap.size w wr) := Lib.hid (B3.out.trans (hbl.mono (Nat.le_succ _)))
              have HA3 : Hid (Box wr w.heap.size (N : Int) A k c zs) := Lib.hid ⟨(hbl.cell (p := ⟨w.heap.size, 0, none⟩) (Nat.lt_succ_self _)).trans A3.out.c0, (hbl.cell (p := ⟨w.heap.size, 1, none⟩) (Nat.lt_succ_self _)).trans A3.out.c1, HRW.out wr HB3.out, Nat.lt_of_lt_of_le A3.out.lt hg.size⟩
              have hzf : w.heap.size + 2 ≤ wr.heap.size := by have := hg.size; omega
              clear hR2 hg hbl
              go_wp2
              go_roundw
              case rel => exact ⟨j + 1, by omega, by go_num, HA3.out, HR2.out.congr (fun a _ => by rw [bsyI_all]), HB3.out, hzf⟩
              case measure => simp [intOf]; omega
        · obtain rfl : j = P := by omega
          go_wp2
          go_ret
          exact ⟨w.heap.size + 1, rfl, by omega, HR.out.congr (fun a _ => by rw [HBN.out]), HB.out⟩
end Go.Proofs.Ytbodimhjbbmniaa

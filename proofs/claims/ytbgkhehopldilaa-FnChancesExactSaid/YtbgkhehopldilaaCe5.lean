/- The model's loop that counts, wire by wire, in how many ladders one comes out at each. -/
import Derived.Test.YtbgkhehopldilaaCe4
import Derived.Test.YtbgkhehopldilaaBase3
namespace Go.Proofs.Ytbgkhehopldilaa
open Go Go.RowKit

set_option maxHeartbeats 400000 in
theorem laOverW_any (x r : Int) (w : World) (hr : 0 ≤ r) (hr2 : r ≤ 100) : Calls Try.prog 36 #[.int .i64 x, .int .i64 r] w (SameI (ovW x r) w) := by
  by_cases h1 : x = r
  · have E : Hid (ovW x r = r + 1) := by show _ = _; unfold ovW; rw [if_pos h1, h1]
    rw [E.out]
    subst h1
    go_enter Try.func36, Try.ntmps36
    go_wp2
    go_ret
    exact ⟨rfl, rfl⟩
  · by_cases h2 : x = r + 1
    · have E : Hid (ovW x r = r) := by show _ = _; unfold ovW; rw [if_neg h1, if_pos h2]; omega
      rw [E.out]
      subst h2
      go_enter Try.func36, Try.ntmps36
      go_wp2
      go_ret
      exact ⟨rfl, rfl⟩
    · have E : Hid (ovW x r = x) := by show _ = _; unfold ovW; rw [if_neg h1, if_neg h2]
      rw [E.out]
      go_enter Try.func36, Try.ntmps36
      go_wp2
      go_ret
      exact ⟨rfl, rfl⟩

theorem zeros_length (n : Nat) : (List.replicate n (0 : Int)).length = n := by simp
theorem rowZeros (w : World) (n B : Nat) (hB : B ≤ w.heap.size) (hn : n ≤ 1000000) : OI (w.alloc (.cells (madeCells #[.int .i64 0] n) 3)) B (some ⟨w.heap.size, 0, none⟩) n n (List.replicate n 0) :=
  OI.of_rowIs hB (World.rowIs_made w (.int .i64 0) n 3) (by unfold maxLen; omega) (zeros_length n) (fun j hj => by rw [zeros_gi])

set_option maxRecDepth 100000 in
set_option maxHeartbeats 4000000 in
theorem chEnds_any (n K s : Nat) (w : World) (hn2 : 2 ≤ n) (hn : n ≤ 6) (hK : K ≤ 20) (hs : s < n) :
    Calls Try.prog 25 #[.int .i64 (n : Int), .int .i64 (K : Int), .int .i64 (s : Int)] w (FreshIS w n (endsC n K (s : Int))) := by
  have hmk := run_make_row' (P := Try.prog) 41 3 (.int .i64 0) 8 Try.underlying41 infoInt rfl .i64 .i64 n (by omega) (by omega)
  have hs0 : (0 : Int) ≤ (s : Int) := by omega
  have hsn : (s : Int) < (n : Int) := by omega
  have h0 := rowZeros w n w.heap.size (Nat.le_refl _) (by omega)
  have c0 := h0.cells s hs
  have f0 : (w.alloc (.cells (madeCells #[.int .i64 0] n) 3)).frozen? ⟨w.heap.size, s, none⟩ = false := h0.2.frozenAt s
  have H0 := Lib.hid h0
  clear h0
  go_enter Try.func25, Try.ntmps25
  go_wp2
  go_loopw [1, 7] (fun s1 s7 wr => ∃ (i j g : Nat) (Z : List Int), i + j = K ∧ s1 = .int .i64 (i : Int) ∧ s7 = .slice (some ⟨g, 0, none⟩) n n ∧ Rep n j (s : Int) Z ∧ OI wr w.heap.size (some ⟨g, 0, none⟩) n n Z ∧ Below w.heap.size w wr) (fun s1 _ _ => (intOf s1).toNat)
  case atStart => exact ⟨K, 0, w.heap.size, _, rfl, rfl, rfl, Rep.start hs, (by have h := H0.out.stored s 1; rwa [World.setCell_alloc_at _ _ _ _ _ rfl] at h), (Below.refl _ w).alloc (Nat.le_refl _) _⟩
  case round =>
    obtain ⟨i, j, g, Z, hij, rfl, rfl, hrep, ho, hb⟩ := hrel
    have HREP := Lib.hid hrep
    have HO := Lib.hid ho
    have HB := Lib.hid hb
    clear hrep ho hb c0 f0
    by_cases hlt : (0 : Int) < (i : Int)
    · have hgw := (HO.out.blk g rfl)
      have h1 := rowZeros wr n (wr.heap.size) (Nat.le_refl _) (by omega)
      obtain ⟨w1, hw1⟩ : ∃ w1, w1 = wr.alloc (.cells (madeCells #[.int .i64 0] n) 3) := ⟨_, rfl⟩
      obtain ⟨b, hb⟩ : ∃ b, b = wr.heap.size := ⟨_, rfl⟩
      rw [← hb] at hgw
      have HW1 : Hid (OI w1 b (some ⟨b, 0, none⟩) n n (List.replicate n 0)) := by show OI _ _ _ _ _ _; rw [hw1, hb]; exact h1
      have HO1 : Hid (OI w1 w.heap.size (some ⟨g, 0, none⟩) n n Z) := by show OI _ _ _ _ _ _; rw [hw1]; exact HO.out.alloc _
      have HB1 : Hid (Below w.heap.size w w1) := by show Below _ _ _; rw [hw1]; exact HB.out.alloc HB.out.size _
      have HGW := Lib.hid hgw
      clear h1
      go_wp2
      rw [← hb, ← hw1, show decide (0 < i) = true from decide_eq_true (by omega)]
      clear hw1 hb
      go_loopw [25] (fun s25 wi => ∃ (x : Nat) (Y : List Int), x ≤ n ∧ s25 = .int .i64 (x : Int) ∧ Mak n Z x 0 Y ∧ OI wi b (some ⟨b, 0, none⟩) n n Y ∧ OI wi w.heap.size (some ⟨g, 0, none⟩) n n Z ∧ Below w.heap.size w wi) (fun s25 _ => n - (intOf s25).toNat)
      case atStart => exact ⟨0, _, Nat.zero_le _, rfl, Mak.start n Z, HW1.out, HO1.out, HB1.out⟩
      case round =>
        obtain ⟨x, Y, hx, rfl, hmak, hoy, hoz, hbi⟩ := hrel
        have HMAK := Lib.hid hmak
        have HOY := Lib.hid hoy
        have HOZ := Lib.hid hoz
        have HBI := Lib.hid hbi
        clear hmak hoy hoz hbi
        by_cases hltx : (x : Int) < (n : Int)
        · have ck := HOZ.out.cells x (by omega)
          obtain ⟨c, hc⟩ : ∃ c : Nat, gi Z x = (c : Int) := ⟨(gi Z x).toNat, by have := HREP.out.pos x (by omega); omega⟩
          rw [hc] at ck
          have HC := Lib.hid hc
          clear hc
          go_wp2
          go_loopw [11] (fun s11 wj => ∃ (r : Nat) (Y : List Int), r + 1 ≤ n ∧ s11 = .int .i64 (r : Int) ∧ Mak n Z x r Y ∧ OI wj b (some ⟨b, 0, none⟩) n n Y ∧ OI wj w.heap.size (some ⟨g, 0, none⟩) n n Z ∧ Below w.heap.size w wj) (fun s11 _ => n - (intOf s11).toNat)
          case atStart => exact ⟨0, Y, by omega, rfl, HMAK.out, HOY.out, HOZ.out, HBI.out⟩
          case round =>
            obtain ⟨r, V, hr, rfl, hmak, hoy, hoz, hbi⟩ := hrel
            have HMV := Lib.hid hmak
            have HOV := Lib.hid hoy
            have HOW := Lib.hid hoz
            have HBJ := Lib.hid hbi
            clear hmak hoy hoz hbi ck
            by_cases hltr : (r : Int) < (n : Int) - 1
            · have hin := ovW_in0 (n := n) (x := (x : Int)) (r := r) (by omega) (by omega)
              obtain ⟨v, hv⟩ : ∃ v : Nat, ovW (x : Int) (r : Int) = (v : Int) := ⟨(ovW (x : Int) (r : Int)).toNat, by omega⟩
              rw [hv] at hin
              have hvn : v < n := by omega
              have hv0 : (0 : Int) ≤ (v : Int) := by omega
              have hvi : (v : Int) < (n : Int) := by omega
              have HV := Lib.hid hv
              have hsm := Mak.small HREP.out HMV.out (by omega) (by omega) hn (show j < 20 by omega) hvn
              have hsm2 := Mak.small HREP.out (HMV.out.step hvn hv HC.out) (by omega) (by omega) hn (show j < 20 by omega) hvn
              rw [gi_set _ _ _ _ (by rw [HMV.out.len]; exact hvn), if_pos rfl] at hsm2
              have cv := HOV.out.cells v hvn
              have fv : wr.frozen? ⟨b, v, none⟩ = false := HOV.out.2.frozenAt v
              obtain ⟨y, hy⟩ : ∃ y, y = gi V v := ⟨_, rfl⟩
              rw [← hy] at hsm hsm2 cv
              have HY := Lib.hid hy
              clear hv hy hin
              go_wp2_with (go_at_call 36; refine (laOverW_any _ _ _ (by omega) (by omega)).mono ?_; rw [HV.out]; rintro e w' ⟨rfl, rfl⟩)
              go_roundw
              case rel =>
                refine ⟨r + 1, V.set v (y + (c : Int)), by omega, by go_num, ?_, HOV.out.stored v _, ?_, ?_⟩
                · rw [HY.out]; exact HMV.out.step hvn HV.out HC.out
                · exact HOW.out.kept (row := some b) (grown_setCell (g := b) (grown_refl wr _) (.inl rfl) _) (fun k hk e => by
                    have h1 : g = k := by simpa [blk] using hk
                    have h2 := HGW.out.2
                    have h3 := Option.some.inj e
                    omega)
                · exact HBJ.out.setCell (by have := HGW.out; show w.heap.size ≤ b; omega) _
              case measure => simp [intOf]; omega
            · obtain rfl : r = n - 1 := by omega
              go_wp2
              go_roundw
              case rel => exact ⟨x + 1, V, by omega, by go_num, HMV.out.next, HOV.out, HOW.out, HBJ.out⟩
              case measure => simp [intOf]; omega
        · obtain rfl : x = n := by omega
          go_wp2
          go_roundw
          case rel => exact ⟨i - 1, j + 1, b, Y, by omega, by go_num, rfl, Mak.done HREP.out HMAK.out, HOY.out.mono (by have := HGW.out; omega), HBI.out⟩
          case measure => simp [intOf]; omega
    · obtain rfl : i = 0 := by omega
      have hj : j = K := by omega
      have HJ := Lib.hid hj
      clear hj
      go_wp2
      go_ret
      refine ⟨g, rfl, ?_, HB.out⟩
      rw [← HJ.out, ← HREP.out.ends]
      exact HO.out
end Go.Proofs.Ytbgkhehopldilaa

/- Slices of slices of numbers as arguments of a law: read, measured, copied and marked. -/
import Derived.Test.YtnhhbpogjhcibaaMgF
import Derived.Test.YtnhhbpogjhcibaaGr1
import Derived.Test.YtnhhbpogjhcibaaMgN
import Derived.Deep.Matrix
namespace Go.Proofs.Ytnhhbpogjhcibaa
open Go Go.RowKit

/-- all blocks from K on are as they were -/
structure Up (K : Nat) (wi wj : World) : Prop where
  same : ∀ k, K ≤ k → k < wi.heap.size → wj.heap[k]? = wi.heap[k]?
  size : wi.heap.size ≤ wj.heap.size
section
variable {w wi wj wk : World} {B K n c : Nat} {A : Option Addr} {zs : List Int}
theorem Up.refl (K : Nat) (w : World) : Up K w w := ⟨fun _ _ _ => rfl, Nat.le_refl _⟩
theorem Up.trans (h : Up K wi wj) (g : Up K wj wk) : Up K wi wk :=
  ⟨fun k hk hlt => (g.same k hk (Nat.lt_of_lt_of_le hlt h.size)).trans (h.same k hk hlt), Nat.le_trans h.size g.size⟩
theorem Up.of_grown {row : Option Nat} (hg : wi.grownBy wj row) (h : ∀ b, row = some b → b < K) : Up K wi wj :=
  ⟨fun k hk hlt => hg.block k hlt (fun e => by have := h k e.symm; omega), hg.size⟩
theorem OI.upK (h : OI wi B A n c zs) (hK : K ≤ B) (hu : Up K wi wj) : OI wj B A n c zs := by
  refine ⟨h.1, h.2.1, ?_⟩
  rcases h.2.2 with h0 | ⟨g, cap, cur, hv, hb, hr⟩
  · exact .inl h0
  · have hlt : g < wi.heap.size := (Array.getElem?_eq_some_iff.1 hr.1).1
    exact .inr ⟨g, cap, cur, hv, hb, (hu.same g (by omega) hlt).trans hr.1, hr.2⟩
theorem cell2Up {b : Nat} {u v : Value} (h : Hid (Cell2 wi b u v)) (hK : K ≤ b) (hu : Up K wi wj) : Hid (Cell2 wj b u v) := by
  have hs := hu.same b hK h.out.lt
  refine ⟨?_, ?_, ?_, ?_, Nat.lt_of_lt_of_le h.out.lt hu.size⟩
  · have := h.out.c0; simp only [World.cell?] at this ⊢; rw [hs]; exact this
  · have := h.out.c1; simp only [World.cell?] at this ⊢; rw [hs]; exact this
  · have := h.out.f0; simp only [World.frozen?] at this ⊢; rw [hs]; exact this
  · have := h.out.f1; simp only [World.frozen?] at this ⊢; rw [hs]; exact this
end

set_option maxRecDepth 100000 in
set_option maxHeartbeats 1000000 in
theorem markIntSS_up (B M K : Nat) (hMK : M ≤ K) (A : Option Addr) (n c : Nat) (zss : List (List Int)) (S : List Sl) (k : Int) (w : World) (h : OII w B M A n c zss S) (hB : B ≤ w.heap.size) (hn : n ≤ 1048576) (hm : ∀ j, (gz zss j).length ≤ 1048576) (ht : tot zss n ≤ 1000000000) (hk : 0 ≤ k) (hk2 : k ≤ 1000000000) :
    Calls Try.prog 23 #[.slice A n c, .int .i64 k] w (fun e w' => MarkedSS w B M A n c k zss S e w' ∧ Up K w w') := by
  have hlz := h.lz
  go_enter Try.func23, Try.ntmps23
  go_wp2
  go_loopw [1, 5] (fun s i wr => ∃ k' : Nat, k' ≤ n ∧ i = .int .i64 k' ∧ s = .int .i64 (k + (tot zss k' : Int)) ∧ (∃ yss, OII wr B M A n c yss S ∧ ∀ j, j < n → gz yss j = if j < k' then marks (k + (tot zss j : Int)) (gz zss j).length else gz zss j) ∧ Below B w wr ∧ Up K w wr) (fun _ i _ => n - (intOf i).toNat)
  case atStart => exact ⟨0, Nat.zero_le _, rfl, by simp [tot], ⟨zss, h, fun j hj => by simp⟩, Below.refl _ _, Up.refl _ _⟩
  case round =>
    obtain ⟨i, hi, rfl, rfl, ⟨yss, ho, hall⟩, hb, hu⟩ := hrel
    have HU := Lib.hid hu
    have HO := Lib.hid ho
    have HB := Lib.hid hb
    have HL := Lib.hid hall
    by_cases hlt : i < n
    · obtain ⟨b, off, rfl, hbw, hc⟩ := ho.rb.2.2 (by omega)
      obtain ⟨s, hS⟩ : ∃ s, S[i]? = some s := ⟨_, List.getElem?_eq_getElem (by rw [ho.lS]; exact hlt)⟩
      have hck : wr.cell? ⟨b, off + i, none⟩ = some (.slice s.1 s.2.1 s.2.2) := by
        rcases ho.form with ⟨e, _, _⟩ | ⟨g, cur, e, _, _, hh, h1, _, h3, h4⟩
        · cases e
        · injection e with e
          injection e with e1 e2 _
          subst e1 e2
          rw [Nat.zero_add, ho.own.cellAt i (by omega)]
          simp [hS, sl]
      have hoi := ho.inn i s hS
      have hgi : gz yss i = gz zss i := by rw [hall i hlt]; simp
      rw [hgi] at hoi
      have HOI := Lib.hid hoi
      have HLT := Lib.hid (fun b hb => Nat.lt_of_lt_of_le (ho.lt i s hS b hb) hMK)
      have HS := Lib.hid hS
      have hl1 : (gz zss i).length = s.2.1 := hoi.1
      have hm3 : s.2.1 ≤ 1048576 := by have := hm i; omega
      have htl := tot_le zss (show i ≤ n by omega)
      have i1 : (0 : Int) ≤ (i : Int) := by omega
      have i2 : (i : Int) < (n : Int) := by omega
      clear ho hb hu hall hc hoi hgi hS h
      obtain ⟨s1, s2, s3⟩ := s
      simp only at hck hm3 hl1 HOI HLT
      go_wp2_with fail
      refine (markIntS_any B s1 s2 s3 _ _ _ HOI.out hm3 (by omega) (by omega)).mono ?_
      rintro e w2 ⟨rfl, o2, hg⟩
      have HO2 := Lib.hid (HO.out.upd HS.out o2 hg)
      have HB2 := Lib.hid (HB.out.trans (ofMark HOI.out hg (Nat.le_refl _) (Nat.le_trans hB HB.out.size)))
      have HU2 := Lib.hid (HU.out.trans (Up.of_grown hg HLT.out))
      clear o2 hg
      go_wp2
      go_roundw
      case rel =>
        refine ⟨i + 1, by omega, by go_num, ?_, ⟨_, HO2.out, fun j hj => ?_⟩, HB2.out, HU2.out⟩
        · simp only [tot]; rw [hl1]; congr 1; push_cast; omega
        · by_cases e : i = j
          · subst e
            have : gz (yss.set i (marks (k + (tot zss i : Int)) s2)) i = marks (k + (tot zss i : Int)) s2 := by simp [gz, List.getD, HO.out.lz, hlt]
            rw [this, if_pos (by omega), hl1]
          · have : gz (yss.set i (marks (k + (tot zss i : Int)) s2)) j = gz yss j := by simp [gz, List.getD, e]
            rw [this, HL.out j hj]
            by_cases e2 : j < i
            · rw [if_pos e2, if_pos (by omega)]
            · rw [if_neg e2, if_neg (by omega)]
      case measure => simp [intOf]; omega
    · obtain rfl : i = n := by omega
      go_wp2
      go_ret
      have e : yss = mkss k zss := gz_ext (by rw [ho.lz, mkss_length, hlz]) (fun j hj => by rw [ho.lz] at hj; rw [hall j hj, if_pos hj, gz_mkss _ _ _ (by omega)])
      exact ⟨⟨rfl, e ▸ HO.out, HB.out⟩, HU.out⟩



set_option maxRecDepth 100000 in
set_option maxHeartbeats 2000000 in
/-- the copy of a slice of slices -/
theorem toIntSS_any (K : Nat) (A : Option Addr) (n c : Nat) (zss : List (List Int)) (w : World) (h : RBB w K A n zss) (hn : n ≤ 1048576) (hm : ∀ j, (gz zss j).length ≤ 1048576) :
    Calls Try.prog 20 #[.slice A n c] w fun e w' => ∃ A' M S, e = .returned (.slice A' n n) ∧ OII w' w.heap.size M A' n n zss S ∧ Below w.heap.size w w' := by
  have hmk := run_make_row' (P := Try.prog) 30 22 (.slice none 0 0) 24 Try.underlying30 infoSlI rfl .i64 .i64 n (by omega) (by omega)
  have i4 : (0 : Int) ≤ (n : Int) := by omega
  have HH := Lib.hid h
  have hlz := h.1
  clear h
  go_enter Try.func20, Try.ntmps20
  go_wp2
  obtain ⟨g, hg⟩ : ∃ b, b = w.heap.size := ⟨_, rfl⟩
  have G0 : Hid (GR (w.alloc (.cells (madeCells #[.slice none 0 0] n) 22)) g (w.alloc (.cells (madeCells #[.slice none 0 0] n) 22)).heap.size n (gz zss) []) :=
    ⟨by rw [hg]; exact (World.rowIs_made w (.slice none 0 0) n 22).congr (fun j _ => by simp [slotV]), fun j s h => by simp at h, fun i j s t _ h => by simp at h, fun j s h => by simp at h, Nat.le_refl _, by rw [hg]; simp⟩
  have B0 : Hid (Below g w (w.alloc (.cells (madeCells #[.slice none 0 0] n) 22))) := by rw [hg]; exact (Below.refl _ _).alloc (Nat.le_refl _) _
  rw [← hg]
  have HG := Lib.hid hg
  have HHK : Hid (K ≤ g) := Lib.hid (by rw [hg]; exact HH.out.2.1)
  clear hg hmk
  go_loopw [4] (fun i wr => ∃ (j : Nat) (M : Nat) (S : List Sl), j ≤ n ∧ i = .int .i64 (j : Int) ∧ S.length = j ∧ GR wr g M n (gz zss) S ∧ Below g w wr) (fun i _ => n - (intOf i).toNat)
  case atStart => exact ⟨0, _, [], Nat.zero_le _, by go_num, rfl, G0.out, B0.out⟩
  case round =>
    obtain ⟨j, M, S, hj, rfl, hSj, hG, hb⟩ := hrel
    have GG := Lib.hid hG
    have HBr := Lib.hid hb
    have HSJ := Lib.hid hSj
    have HR := HH.out.step (hb.mono HHK.out)
    clear hG hb hSj
    by_cases hlt : j < n
    · obtain ⟨b, off, rfl, hbk, hc⟩ := HR.2.2 (by omega)
      obtain ⟨a, m, d, hcj, hrb⟩ := hc j hlt
      have hm2 := hm j
      have hlen : m ≤ 1048576 := by rw [← hrb.ri.1]; exact hm2
      have HRB := Lib.hid hrb
      obtain ⟨z, hz⟩ : ∃ z, z = gz zss j := ⟨_, rfl⟩
      rw [← hz] at HRB
      have HZ := Lib.hid hz
      have hbw : b < wr.heap.size := by have := HHK.out; have := HBr.out.size; have := GG.out.le; have := GG.out.gM; omega
      have j0 : (0 : Int) ≤ (j : Int) := by omega
      have j1 : (j : Int) < (n : Int) := by omega
      have d0 := GG.out.row.cell hlt
      have df := GG.out.row.frozen j
      have gz' := GG.out.gM
      have gl := GG.out.le
      clear hc hrb HR hz
      go_wp2_with fail
      refine (toIntS_any a m d z _ HRB.out.ri hlen).mono ?_
      rintro e w2 ⟨A2, c2, rfl, o2, hb2⟩
      have GG2 := Lib.hid (GG.out.step hb2)
      have HO2 := Lib.hid o2
      have HB2 := Lib.hid (HBr.out.trans (hb2.mono (by omega)))
      have d2 := GG2.out.row.cell hlt
      have df2 := GG2.out.row.frozen j
      have gl2 := GG2.out.le
      clear hb2 o2 d0 df
      go_wp2
      go_roundw
      case rel =>
        have hfin := GG2.out.snoc (A := A2) (m := m) (d := c2) (by rw [HSJ.out, ← HZ.out]; exact HO2.out.mono (by omega)) (by rw [HSJ.out]; exact hlt)
        rw [HSJ.out] at hfin
        exact ⟨j + 1, _, S ++ [(A2, m, c2)], by omega, by go_num, by simp [HSJ.out], hfin, HB2.out.setCell (Nat.le_refl _) _⟩
      case measure => simp [intOf]; omega
    · obtain rfl : j = n := by omega
      go_wp2
      go_ret
      exact ⟨_, _, S, rfl, GG.out.oii HSJ.out hlz (fun i _ => rfl) (by simp only [maxLen]; omega) (by rw [HG.out]; exact Nat.le_refl _), by rw [← HG.out]; exact HBr.out⟩

set_option maxRecDepth 100000 in
set_option maxHeartbeats 1000000 in
/-- how much room is left behind a slice of slices: none, or what its numbers leave -/
theorem szIntSS_any (K : Nat) (A : Option Addr) (n c : Nat) (zss : List (List Int)) (w : World) (h : RBB w K A n zss) (hn : n ≤ 9223372036854775807) (hm : ∀ j, (gz zss j).length ≤ 9223372036854775807) :
    Calls Try.prog 18 #[.slice A n c, .int .i64 1048576] w fun e w' => ∃ r : Int, e = .returned (.int .i64 r) ∧ (r < 0 ∨ n + tot zss n ≤ 1048576) ∧ Below w.heap.size w w' := by
  by_cases h0 : (1048576 : Int) - n < 0
  · have h1 : (1048576 : Int) < (n : Int) := by omega
    clear h
    go_enter Try.func18, Try.ntmps18
    go_wp2
    go_ret
    exact ⟨-1, rfl, .inl (by omega), Below.refl _ _⟩
  · have h1 : ¬ (1048576 : Int) < (n : Int) := by omega
    have HH := Lib.hid h
    clear h h0
    go_enter Try.func18, Try.ntmps18
    go_wp2
    go_loopw [1, 5] (fun s1 i wr => ∃ (j : Nat) (v : Int), j ≤ n ∧ i = .int .i64 (j : Int) ∧ s1 = .int .i64 v ∧ 0 ≤ v ∧ v + n + (tot zss j : Nat) = 1048576 ∧ Below w.heap.size w wr) (fun _ i _ => n - (intOf i).toNat)
    case atStart => exact ⟨0, 1048576 - n, Nat.zero_le _, by go_num, by go_num, by omega, by simp [tot], Below.refl _ _⟩
    case round =>
      obtain ⟨j, v, hj, rfl, rfl, hv0, hv, hb⟩ := hrel
      have HB := Lib.hid hb
      have HV := Lib.hid hv
      have HR := HH.out.step (hb.mono HH.out.2.1)
      have hv1 : v ≤ 1048576 := by omega
      clear hb hv
      by_cases hlt : j < n
      · obtain ⟨b, off, rfl, hbk, hc⟩ := HR.2.2 (by omega)
        obtain ⟨a, m, d, hcj, hrb⟩ := hc j hlt
        have hbw : b < wr.heap.size := Nat.lt_of_lt_of_le hbk HR.2.1
        have hml : (gz zss j).length = m := hrb.ri.1
        have hm2 : m ≤ 9223372036854775807 := by rw [← hml]; exact hm j
        have HML : Hid (tot zss (j + 1) = tot zss j + m) := Lib.hid (by simp only [tot]; rw [hml])
        have j0 : (0 : Int) ≤ (j : Int) := by omega
        have j1 : (j : Int) < (n : Int) := by omega
        clear hc hrb HR hml
        go_wp2_with fail
        refine (szIntS_any a m d v _ hv0 hv1 hm2).mono ?_
        rintro e w2 ⟨rfl, hb2⟩
        have HB2 := Lib.hid (HB.out.trans (hb2.mono HB.out.size))
        clear hb2
        by_cases hmv : (m : Int) ≤ v
        · have e1 : szv m v = v - m := by unfold szv; rw [if_pos hmv]
          rw [e1]
          have hv2 : ¬ v < (m : Int) := by omega
          have hv3 : ¬ (v - (m : Int)) < 0 := by omega
          clear e1
          go_wp2
          go_roundw
          case rel => exact ⟨j + 1, v - m, by omega, by go_num, rfl, by omega, by rw [HML.out]; have := HV.out; omega, HB2.out⟩
          case measure => simp [intOf]; omega
        · have e1 : szv m v = -1 := by unfold szv; rw [if_neg hmv]
          rw [e1]
          clear e1
          go_wp2
          go_ret
          exact ⟨-1, rfl, .inl (by omega), HB2.out⟩
      · obtain rfl : j = n := by omega
        go_wp2
        go_ret
        exact ⟨v, rfl, .inr (by have := HV.out; omega), HB.out⟩

end Go.Proofs.Ytnhhbpogjhcibaa

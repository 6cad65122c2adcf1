/- Slices of ladders: how the laws compare, mark and look at them. -/
import Derived.Test.YtgeeifjbfceogaaGreatDoorLL1
import Derived.Test.YtgeeifjbfceogaaGreatDoorStP
import Derived.Test.YtgeeifjbfceogaaGreatDoorMgF
namespace Go.Proofs.YtgeeifjbfceogaaGreatDoor
open Go Go.RowKit

set_option maxRecDepth 100000 in
set_option maxHeartbeats 2000000 in
theorem eqLadderS_same (K : Nat) (A : Option Addr) (n c : Nat) (Ws : List Int) (zss : List (List Int)) (K2 : Nat) (A2 : Option Addr) (c2 : Nat) (w : World) (h : RLL w K A n Ws zss) (g : RLL w K2 A2 n Ws zss) (hn : n ≤ 1048576) (hm : ∀ j, (gz zss j).length ≤ 1048576) :
    Calls Tryz.prog 17 #[.slice A n c, .slice A2 n c2] w (RetB true w) := by
  have HA := Lib.hid h
  have HG := Lib.hid g
  clear h g
  go_enter Tryz.func17, Tryz.ntmps17
  go_wp2
  go_loopw [5] (fun i wr => ∃ k : Nat, k ≤ n ∧ i = .int .i64 k ∧ Below w.heap.size w wr) (fun i _ => n - (intOf i).toNat)
  case atStart => exact ⟨0, Nat.zero_le _, rfl, Below.refl _ _⟩
  case round =>
    obtain ⟨k, hk, rfl, hb⟩ := hrel
    have HB := Lib.hid hb
    by_cases hlt : k < n
    · obtain ⟨b, off, rfl, hbw, hc⟩ := (HA.out.step (hb.mono HA.out.2.1)).2.2 (by omega)
      obtain ⟨hcw, a, m, d, hck, hra⟩ := hc k hlt
      obtain ⟨b2, off2, rfl, hbw2, hc2⟩ := (HG.out.step (hb.mono HG.out.2.1)).2.2 (by omega)
      obtain ⟨hcw2, a2, m2, d2, hck2, hra2⟩ := hc2 k hlt
      obtain rfl : m = m2 := by rw [← hra.1, ← hra2.1]
      have hm3 : m ≤ 1048576 := by have := hm k; rw [hra.1] at this; exact this
      have HRA := Lib.hid hra
      have HRA2 := Lib.hid hra2
      have hz1 : b < wr.heap.size := Nat.lt_of_lt_of_le hbw hra.2.1
      have hz2 : b2 < wr.heap.size := Nat.lt_of_lt_of_le hbw2 hra2.2.1
      obtain ⟨W, hW⟩ : ∃ W, W = gi Ws k := ⟨_, rfl⟩
      obtain ⟨q, hq⟩ : ∃ q, q = gz zss k := ⟨_, rfl⟩
      rw [← hW] at hcw hcw2
      rw [← hq] at HRA HRA2
      have HC := Lib.hid hck
      have HC2 := Lib.hid hck2
      have HW := Lib.hid hcw
      have HW2 := Lib.hid hcw2
      have i1 : (0 : Int) ≤ (k : Int) := by omega
      have i2 : (k : Int) < (n : Int) := by omega
      clear hb hc hc2 hra hra2 hW hq
      go_wp2_with fail
      go_region_held3 (fun w' => w'.cell? ⟨b, off + k * 2, none⟩ = some (.int .i64 W) ∧ w'.cell? ⟨b, off + k * 2 + 1, none⟩ = some (.slice a m d) ∧ w'.cell? ⟨b2, off2 + k * 2, none⟩ = some (.int .i64 W) ∧ w'.cell? ⟨b2, off2 + k * 2 + 1, none⟩ = some (.slice a2 m d2))
        (first | exact ⟨HW.out, HC.out, HW2.out, HC2.out⟩ | exact ⟨(hb6.cell (p := ⟨b, off + k * 2, none⟩) hz1).trans HW.out, (hb6.cell (p := ⟨b, off + k * 2 + 1, none⟩) hz1).trans HC.out, (hb6.cell (p := ⟨b2, off2 + k * 2, none⟩) hz2).trans HW2.out, (hb6.cell (p := ⟨b2, off2 + k * 2 + 1, none⟩) hz2).trans HC2.out⟩)
        (first
          | (go_at_call 32; refine (eqLadder_any W a m d q W a2 m d2 q _ HRA.out.ri.drew HRA2.out.ri.drew hm3 hm3).mono ?_; rw [(eqSelf W q).out]; rintro e w6 ⟨rfl, hb6⟩; have HB6 := belStep (belDrew HB) hb6))
      go_wp2
      go_roundw
      case rel => exact ⟨k + 1, by omega, by go_num, HB6.out⟩
      case measure => simp [intOf]; omega
    · obtain rfl : k = n := by omega
      go_wp2
      go_ret
      exact ⟨rfl, HB.out⟩

/-- all ladders are marked, one after the other, from k on -/
def mkWs (k : Int) (zss : List (List Int)) : List Int := (List.range zss.length).map fun (j : Nat) => k + (j : Int) + (tot zss j : Int)
def mkLs (k : Int) (zss : List (List Int)) : List (List Int) := (List.range zss.length).map fun (j : Nat) => marks (k + (j : Int) + (tot zss j : Int) + 1) (gz zss j).length
theorem mkWs_length (k : Int) (zss : List (List Int)) : (mkWs k zss).length = zss.length := by simp [mkWs]
theorem mkLs_length (k : Int) (zss : List (List Int)) : (mkLs k zss).length = zss.length := by simp [mkLs]
theorem gi_mkWs (k : Int) (zss : List (List Int)) (j : Nat) (h : j < zss.length) : gi (mkWs k zss) j = k + (j : Int) + (tot zss j : Int) := by simp [gi, mkWs, List.getD, h]
theorem gz_mkLs (k : Int) (zss : List (List Int)) (j : Nat) (h : j < zss.length) : gz (mkLs k zss) j = marks (k + (j : Int) + (tot zss j : Int) + 1) (gz zss j).length := by simp [gz, mkLs, List.getD, h]

def MarkedLS (w : World) (B M : Nat) (A : Option Addr) (n c : Nat) (k : Int) (zss : List (List Int)) (S : List Sl) (e : Ending) (w' : World) : Prop :=
  e = .returned (.int .i64 (k + (n : Int) + (tot zss n : Int))) ∧ OLL w' B M A n c (mkWs k zss) (mkLs k zss) S ∧ Below B w w'

set_option maxRecDepth 100000 in
set_option maxHeartbeats 2000000 in
theorem markLadderS_any (B M : Nat) (A : Option Addr) (n c : Nat) (Ws : List Int) (zss : List (List Int)) (S : List Sl) (k : Int) (w : World) (h : OLL w B M A n c Ws zss S) (hB : B ≤ w.heap.size) (hn : n ≤ 1048576) (hm : ∀ j, (gz zss j).length ≤ 1048576) (ht : tot zss n ≤ 100000000) (hk : 0 ≤ k) (hk2 : k ≤ 100000000) :
    Calls Tryz.prog 19 #[.slice A n c, .int .i64 k] w (MarkedLS w B M A n c k zss S) := by
  have hlz := h.lz
  go_enter Tryz.func19, Tryz.ntmps19
  go_wp2
  go_loopw [1, 5] (fun s i wr => ∃ k' : Nat, k' ≤ n ∧ i = .int .i64 k' ∧ s = .int .i64 (k + (k' : Int) + (tot zss k' : Int)) ∧ (∃ Vs yss, OLL wr B M A n c Vs yss S ∧ (∀ j, j < n → gi Vs j = if j < k' then k + (j : Int) + (tot zss j : Int) else gi Ws j) ∧ ∀ j, j < n → gz yss j = if j < k' then marks (k + (j : Int) + (tot zss j : Int) + 1) (gz zss j).length else gz zss j) ∧ Below B w wr) (fun _ i _ => n - (intOf i).toNat)
  case atStart => exact ⟨0, Nat.zero_le _, rfl, by simp [tot], ⟨Ws, zss, h, fun j hj => by simp, fun j hj => by simp⟩, Below.refl _ _⟩
  case round =>
    obtain ⟨i, hi, rfl, rfl, ⟨Vs, yss, ho, hallw, hall⟩, hb⟩ := hrel
    have HO := Lib.hid ho
    have HB := Lib.hid hb
    have HL := Lib.hid hall
    have HLW := Lib.hid hallw
    obtain ⟨v, hv⟩ : ∃ v : Int, v = k + (i : Int) + (tot zss i : Int) := ⟨_, rfl⟩
    have HV := Lib.hid hv
    have htl := tot_le zss (show i ≤ n by omega)
    have hv0 : 0 ≤ v := by omega
    have hv1 : v ≤ 300000000 := by omega
    rw [← hv]
    by_cases hlt : i < n
    · obtain ⟨g, s, rfl, hg, hBg, hS, hcw, hck, hfz, hoi⟩ := ho.row hlt
      have ho2 := ho.setW i v
      obtain ⟨g', s', e, _, _, hS', hcw', hck', _, hoi'⟩ := ho2.row hlt
      injection e with e; injection e with e _ _
      subst e
      rw [hS] at hS'
      injection hS' with hS'
      subst hS'
      have hgi : gz yss i = gz zss i := by rw [hall i hlt]; simp
      rw [hgi] at hoi'
      have HOI := Lib.hid hoi'
      have HS := Lib.hid hS
      have HO2 := Lib.hid ho2
      have hl1 : (gz zss i).length = s.2.1 := hoi'.1
      have hm3 : s.2.1 ≤ 1048576 := by have := hm i; omega
      have i1 : (0 : Int) ≤ (i : Int) := by omega
      have i2 : (i : Int) < (n : Int) := by omega
      clear ho hb hall hallw hoi hoi' hgi hS h ho2 hv hcw'
      obtain ⟨s1, s2, s3⟩ := s
      simp only [sl] at hck hck'
      simp only at hm3 hl1 HOI
      go_wp2_with fail
      refine (markIntS_any B s1 s2 s3 _ _ _ HOI.out hm3 (by omega) (by omega)).mono ?_
      rintro e w2 ⟨rfl, o2, hg2⟩
      have HO3 := Lib.hid (HO2.out.upd HS.out o2 hg2)
      have HB2 := Lib.hid ((HB.out.setCell (p := ⟨g, i * 2, none⟩) hBg (.int .i64 v)).trans (ofMark HOI.out hg2 (Nat.le_refl _) (by simpa using Nat.le_trans hB HB.out.size)))
      clear o2 hg2
      go_wp2
      go_roundw
      case rel =>
        refine ⟨i + 1, by omega, by go_num, ?_, ⟨_, _, HO3.out, fun j hj => ?_, fun j hj => ?_⟩, HB2.out⟩
        · simp only [tot]; rw [hl1]; congr 1; rw [HV.out]; push_cast; omega
        · rw [gi_set _ _ _ _ (by rw [HO.out.lW]; exact hlt)]
          by_cases e : j = i
          · rw [if_pos e, e, if_pos (by omega), HV.out]
          · rw [if_neg e, HLW.out j hj]
            by_cases e2 : j < i
            · rw [if_pos e2, if_pos (by omega)]
            · rw [if_neg e2, if_neg (by omega)]
        · by_cases e : i = j
          · subst e
            have : gz (yss.set i (marks (v + 1) s2)) i = marks (v + 1) s2 := by simp [gz, List.getD, HO.out.lz, hlt]
            rw [this, if_pos (by omega), hl1, HV.out]
          · have : gz (yss.set i (marks (v + 1) s2)) j = gz yss j := by simp [gz, List.getD, e]
            rw [this, HL.out j hj]
            by_cases e2 : j < i
            · rw [if_pos e2, if_pos (by omega)]
            · rw [if_neg e2, if_neg (by omega)]
      case measure => simp [intOf]; omega
    · obtain rfl : i = n := by omega
      have e1 : Vs = mkWs k zss := gi_ext (by rw [ho.lW, mkWs_length, hlz]) (fun j hj => by rw [ho.lW] at hj; rw [hallw j hj, if_pos hj, gi_mkWs _ _ _ (by omega)])
      have e2 : yss = mkLs k zss := gz_ext (by rw [ho.lz, mkLs_length, hlz]) (fun j hj => by rw [ho.lz] at hj; rw [hall j hj, if_pos hj, gz_mkLs _ _ _ (by omega)])
      rw [e1, e2] at HO
      clear hv hb ho hallw hall HL HLW htl h e1 e2
      go_wp2
      go_ret
      exact ⟨by rw [HV.out]; rfl, HO.out, HB.out⟩

set_option maxRecDepth 100000 in
set_option maxHeartbeats 2000000 in
theorem heldLadderS_any (K : Nat) (A : Option Addr) (n c : Nat) (zss : List (List Int)) (k : Int) (w : World) (h : RLL w K A n (mkWs k zss) (mkLs k zss)) (hn : n ≤ 1048576) (hm : ∀ j, (gz zss j).length ≤ 1048576) (ht : tot zss n ≤ 100000000) (hk : 0 ≤ k) (hk2 : k ≤ 100000000) :
    Calls Tryz.prog 20 #[.slice A n c, .int .i64 k] w (RetI (k + (n : Int) + (tot zss n : Int)) w) := by
  have hlz : zss.length = n := by have := h.1; rwa [mkLs_length] at this
  have HA := Lib.hid h
  clear h
  go_enter Tryz.func20, Tryz.ntmps20
  go_wp2
  go_loopw [1, 5] (fun s i wr => ∃ k' : Nat, k' ≤ n ∧ i = .int .i64 k' ∧ s = .int .i64 (k + (k' : Int) + (tot zss k' : Int)) ∧ Below w.heap.size w wr) (fun _ i _ => n - (intOf i).toNat)
  case atStart => exact ⟨0, Nat.zero_le _, rfl, by simp [tot], Below.refl _ _⟩
  case round =>
    obtain ⟨i, hi, rfl, rfl, hb⟩ := hrel
    have HB := Lib.hid hb
    obtain ⟨v, hv⟩ : ∃ v : Int, v = k + (i : Int) + (tot zss i : Int) := ⟨_, rfl⟩
    have HV := Lib.hid hv
    have htl := tot_le zss (show i ≤ n by omega)
    have hv0 : 0 ≤ v := by omega
    have hv1 : v ≤ 300000000 := by omega
    rw [← hv]
    by_cases hlt : i < n
    · obtain ⟨b, off, rfl, hbw, hc⟩ := (HA.out.step (hb.mono HA.out.2.1)).2.2 (by omega)
      obtain ⟨hcw, a, m, d, hck, hra⟩ := hc i hlt
      rw [gz_mkLs _ _ _ (by omega)] at hra
      rw [gi_mkWs _ _ _ (by omega), ← hv] at hcw
      rw [← hv] at hra
      obtain rfl : (gz zss i).length = m := by have := hra.1; rwa [marks_length] at this
      have hm3 := hm i
      obtain ⟨m, hmm⟩ : ∃ m, m = (gz zss i).length := ⟨_, rfl⟩
      rw [← hmm] at hra hck hm3
      have HM := Lib.hid hmm
      have HRA := Lib.hid hra
      have i1 : (0 : Int) ≤ (i : Int) := by omega
      have i2 : (i : Int) < (n : Int) := by omega
      have eneg : (decide (v + 1 + (m : Int) < 0)) = false := by rw [decide_eq_false_iff_not]; omega
      have eeq : (v != v) = false := by simp
      clear hb hc hra hv hmm
      go_wp2_with fail
      refine (heldIntS_any a m d (v + 1) _ HRA.out.ri hm3 (by omega) (by omega)).mono ?_
      rintro e w2 ⟨rfl, hb⟩
      have HB2 := belStep HB hb
      clear hb
      go_wp2
      go_roundw
      case rel =>
        refine ⟨i + 1, by omega, by go_num, ?_, HB2.out⟩
        simp only [tot]; congr 1; rw [HV.out, HM.out]; push_cast; omega
      case measure => simp [intOf]; omega
    · obtain rfl : i = n := by omega
      clear hv hb htl
      go_wp2
      go_ret
      exact ⟨by rw [HV.out]; rfl, HB.out⟩
end Go.Proofs.YtgeeifjbfceogaaGreatDoor

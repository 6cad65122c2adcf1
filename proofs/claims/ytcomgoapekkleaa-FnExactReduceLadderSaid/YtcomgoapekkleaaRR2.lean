/- Slices of slices of numbers: how the laws compare, mark and look at them, and how one is appended to. -/
import Derived.Test.YtcomgoapekkleaaRR
import Derived.Deep.RegionHeld3
namespace Go.Proofs.Ytcomgoapekkleaa
open Go Go.RowKit

set_option maxRecDepth 100000 in
set_option maxHeartbeats 1000000 in
theorem eqIntSS_same (K : Nat) (A : Option Addr) (n c : Nat) (zss : List (List Int)) (K2 : Nat) (A2 : Option Addr) (c2 : Nat) (w : World) (h : RBB w K A n zss) (g : RBB w K2 A2 n zss) (hn : n ≤ 1048576) (hm : ∀ j, (gz zss j).length ≤ 1048576) :
    Calls Try.prog 19 #[.slice A n c, .slice A2 n c2] w (RetB true w) := by
  have HA := Lib.hid h
  have HG := Lib.hid g
  clear h g
  go_enter Try.func19, Try.ntmps19
  go_wp2
  go_loopw [5] (fun i wr => ∃ k : Nat, k ≤ n ∧ i = .int .i64 k ∧ Below w.heap.size w wr) (fun i _ => n - (intOf i).toNat)
  case atStart => exact ⟨0, Nat.zero_le _, rfl, Below.refl _ _⟩
  case round =>
    obtain ⟨k, hk, rfl, hb⟩ := hrel
    have HB := Lib.hid hb
    by_cases hlt : k < n
    · obtain ⟨b, off, rfl, hbw, hc⟩ := (HA.out.step (hb.mono HA.out.2.1)).2.2 (by omega)
      obtain ⟨a, m, d, hck, hra⟩ := hc k hlt
      obtain ⟨b2, off2, rfl, hbw2, hc2⟩ := (HG.out.step (hb.mono HG.out.2.1)).2.2 (by omega)
      obtain ⟨a2, m2, d2, hck2, hra2⟩ := hc2 k hlt
      obtain rfl : m = m2 := by rw [← hra.1, ← hra2.1]
      have hm3 : m ≤ 1048576 := by have := hm k; rw [hra.1] at this; exact this
      have HRA := Lib.hid hra
      have HRA2 := Lib.hid hra2
      have hz1 : b < wr.heap.size := Nat.lt_of_lt_of_le hbw hra.2.1
      have hz2 : b2 < wr.heap.size := Nat.lt_of_lt_of_le hbw2 hra2.2.1
      have HC := Lib.hid hck
      have HC2 := Lib.hid hck2
      have i1 : (0 : Int) ≤ (k : Int) := by omega
      have i2 : (k : Int) < (n : Int) := by omega
      clear hb hc hc2 hra hra2
      go_wp2_with fail
      go_region_held3 (fun w' => w'.cell? ⟨b, off + k, none⟩ = some (.slice a m d) ∧ w'.cell? ⟨b2, off2 + k, none⟩ = some (.slice a2 m d2))
        (first | exact ⟨HC.out, HC2.out⟩ | exact ⟨(hb6.cell (p := ⟨b, off + k, none⟩) hz1).trans HC.out, (hb6.cell (p := ⟨b2, off2 + k, none⟩) hz2).trans HC2.out⟩)
        (first
          | (go_at_call 16; refine (eqIntS_any a m d _ a2 m d2 _ _ HRA.out.ri.drew HRA2.out.ri.drew hm3 hm3).mono ?_; rw [eqB_self]; rintro e w6 ⟨rfl, hb6⟩; have HB6 := belStep (belDrew HB) hb6))
      go_wp2
      go_roundw
      case rel => exact ⟨k + 1, by omega, by go_num, HB6.out⟩
      case measure => simp [intOf]; omega
    · obtain rfl : k = n := by omega
      go_wp2
      go_ret
      exact ⟨rfl, HB.out⟩

/-- all parts are marked, one after the other, from k on -/
def mkss (k : Int) (zss : List (List Int)) : List (List Int) := (List.range zss.length).map fun (j : Nat) => marks (k + (tot zss j : Int)) (gz zss j).length
theorem mkss_length (k : Int) (zss : List (List Int)) : (mkss k zss).length = zss.length := by simp [mkss]
theorem gz_mkss (k : Int) (zss : List (List Int)) (j : Nat) (h : j < zss.length) : gz (mkss k zss) j = marks (k + (tot zss j : Int)) (gz zss j).length := by
  simp [gz, mkss, List.getD, h]
theorem gz_ext {xs ys : List (List Int)} (hl : xs.length = ys.length) (h : ∀ j, j < xs.length → gz xs j = gz ys j) : xs = ys := by
  apply List.ext_getElem?
  intro j
  by_cases hj : j < xs.length
  · rw [gz_at hj, gz_at (by omega), h j hj]
  · rw [List.getElem?_eq_none (by omega), List.getElem?_eq_none (by omega)]
theorem tot_le (zss : List (List Int)) {i j : Nat} (h : i ≤ j) : tot zss i ≤ tot zss j := by
  induction j with
  | zero => obtain rfl : i = 0 := by omega
            exact Nat.le_refl _
  | succ j ih =>
    by_cases e : i = j + 1
    · subst e; exact Nat.le_refl _
    · have := ih (by omega)
      simp only [tot]; omega

def MarkedSS (w : World) (B M : Nat) (A : Option Addr) (n c : Nat) (k : Int) (zss : List (List Int)) (S : List Sl) (e : Ending) (w' : World) : Prop :=
  e = .returned (.int .i64 (k + (tot zss n : Int))) ∧ OII w' B M A n c (mkss k zss) S ∧ Below B w w'

set_option maxRecDepth 100000 in
set_option maxHeartbeats 1000000 in
theorem markIntSS_any (B M : Nat) (A : Option Addr) (n c : Nat) (zss : List (List Int)) (S : List Sl) (k : Int) (w : World) (h : OII w B M A n c zss S) (hB : B ≤ w.heap.size) (hn : n ≤ 1048576) (hm : ∀ j, (gz zss j).length ≤ 1048576) (ht : tot zss n ≤ 1000000000) (hk : 0 ≤ k) (hk2 : k ≤ 1000000000) :
    Calls Try.prog 21 #[.slice A n c, .int .i64 k] w (MarkedSS w B M A n c k zss S) := by
  have hlz := h.lz
  go_enter Try.func21, Try.ntmps21
  go_wp2
  go_loopw [1, 5] (fun s i wr => ∃ k' : Nat, k' ≤ n ∧ i = .int .i64 k' ∧ s = .int .i64 (k + (tot zss k' : Int)) ∧ (∃ yss, OII wr B M A n c yss S ∧ ∀ j, j < n → gz yss j = if j < k' then marks (k + (tot zss j : Int)) (gz zss j).length else gz zss j) ∧ Below B w wr) (fun _ i _ => n - (intOf i).toNat)
  case atStart => exact ⟨0, Nat.zero_le _, rfl, by simp [tot], ⟨zss, h, fun j hj => by simp⟩, Below.refl _ _⟩
  case round =>
    obtain ⟨i, hi, rfl, rfl, ⟨yss, ho, hall⟩, hb⟩ := hrel
    have HO := Lib.hid ho
    have HB := Lib.hid hb
    have HL := Lib.hid hall
    by_cases hlt : i < n
    · obtain ⟨b, off, rfl, hbw, hc⟩ := ho.rb.2.2 (by omega)
      obtain ⟨s, hS⟩ : ∃ s, S[i]? = some s := ⟨_, List.getElem?_eq_getElem (by rw [ho.lS]; exact hlt)⟩
      have hck : wr.cell? ⟨b, off + i, none⟩ = some (.slice s.1 s.2.1 s.2.2) := by
        rcases ho.form with ⟨e, _, _⟩ | ⟨g, cur, e, _, _, hh, h1, _, h3, h4⟩
        · cases e
        · injection e with e
          injection e with e1 e2 _
          subst e1 e2
          rw [Nat.zero_add, ho.own.cellAt i (by omega)]
          simp [hS, sl]
      have hoi := ho.inn i s hS
      have hgi : gz yss i = gz zss i := by rw [hall i hlt]; simp
      rw [hgi] at hoi
      have HOI := Lib.hid hoi
      have HS := Lib.hid hS
      have hl1 : (gz zss i).length = s.2.1 := hoi.1
      have hm3 : s.2.1 ≤ 1048576 := by have := hm i; omega
      have htl := tot_le zss (show i ≤ n by omega)
      have i1 : (0 : Int) ≤ (i : Int) := by omega
      have i2 : (i : Int) < (n : Int) := by omega
      clear ho hb hall hc hoi hgi hS h
      obtain ⟨s1, s2, s3⟩ := s
      simp only at hck hm3 hl1 HOI
      go_wp2_with fail
      refine (markIntS_any B s1 s2 s3 _ _ _ HOI.out hm3 (by omega) (by omega)).mono ?_
      rintro e w2 ⟨rfl, o2, hg⟩
      have HO2 := Lib.hid (HO.out.upd HS.out o2 hg)
      have HB2 := Lib.hid (HB.out.trans (ofMark HOI.out hg (Nat.le_refl _) (Nat.le_trans hB HB.out.size)))
      clear o2 hg
      go_wp2
      go_roundw
      case rel =>
        refine ⟨i + 1, by omega, by go_num, ?_, ⟨_, HO2.out, fun j hj => ?_⟩, HB2.out⟩
        · simp only [tot]; rw [hl1]; congr 1; push_cast; omega
        · by_cases e : i = j
          · subst e
            have : gz (yss.set i (marks (k + (tot zss i : Int)) s2)) i = marks (k + (tot zss i : Int)) s2 := by simp [gz, List.getD, HO.out.lz, hlt]
            rw [this, if_pos (by omega), hl1]
          · have : gz (yss.set i (marks (k + (tot zss i : Int)) s2)) j = gz yss j := by simp [gz, List.getD, e]
            rw [this, HL.out j hj]
            by_cases e2 : j < i
            · rw [if_pos e2, if_pos (by omega)]
            · rw [if_neg e2, if_neg (by omega)]
      case measure => simp [intOf]; omega
    · obtain rfl : i = n := by omega
      go_wp2
      go_ret
      have e : yss = mkss k zss := gz_ext (by rw [ho.lz, mkss_length, hlz]) (fun j hj => by rw [ho.lz] at hj; rw [hall j hj, if_pos hj, gz_mkss _ _ _ (by omega)])
      exact ⟨rfl, e ▸ HO.out, HB.out⟩

set_option maxRecDepth 100000 in
set_option maxHeartbeats 1000000 in
theorem heldIntSS_any (K : Nat) (A : Option Addr) (n c : Nat) (zss : List (List Int)) (k : Int) (w : World) (h : RBB w K A n (mkss k zss)) (hn : n ≤ 1048576) (hm : ∀ j, (gz zss j).length ≤ 1048576) (ht : tot zss n ≤ 1000000000) (hk : 0 ≤ k) (hk2 : k ≤ 1000000000) :
    Calls Try.prog 22 #[.slice A n c, .int .i64 k] w (RetI (k + (tot zss n : Int)) w) := by
  have hlz : zss.length = n := by have := h.1; rwa [mkss_length] at this
  have HA := Lib.hid h
  clear h
  go_enter Try.func22, Try.ntmps22
  go_wp2
  go_loopw [1, 5] (fun s i wr => ∃ k' : Nat, k' ≤ n ∧ i = .int .i64 k' ∧ s = .int .i64 (k + (tot zss k' : Int)) ∧ Below w.heap.size w wr) (fun _ i _ => n - (intOf i).toNat)
  case atStart => exact ⟨0, Nat.zero_le _, rfl, by simp [tot], Below.refl _ _⟩
  case round =>
    obtain ⟨i, hi, rfl, rfl, hb⟩ := hrel
    have HB := Lib.hid hb
    by_cases hlt : i < n
    · obtain ⟨b, off, rfl, hbw, hc⟩ := (HA.out.step (hb.mono HA.out.2.1)).2.2 (by omega)
      obtain ⟨a, m, d, hck, hra⟩ := hc i hlt
      rw [gz_mkss _ _ _ (by omega)] at hra
      obtain rfl : (gz zss i).length = m := by have := hra.1; rwa [marks_length] at this
      have hm3 := hm i
      have HRA := Lib.hid hra
      have htl := tot_le zss (show i ≤ n by omega)
      have htl2 := tot_le zss (show i + 1 ≤ n by omega)
      simp only [tot] at htl2
      have i1 : (0 : Int) ≤ (i : Int) := by omega
      have i2 : (i : Int) < (n : Int) := by omega
      have eneg : (decide (k + (tot zss i : Int) + ((gz zss i).length : Int) < 0)) = false := by rw [decide_eq_false_iff_not]; omega
      clear hb hc hra
      go_wp2_with fail
      refine (heldIntS_any a (gz zss i).length d (k + (tot zss i : Int)) _ HRA.out.ri hm3 (by omega) (by omega)).mono ?_
      rintro e w2 ⟨rfl, hb⟩
      have HB2 := belStep HB hb
      clear hb
      go_wp2
      go_roundw
      case rel =>
        refine ⟨i + 1, by omega, by go_num, ?_, HB2.out⟩
        simp only [tot]; congr 1; push_cast; omega
      case measure => simp [intOf]; omega
    · obtain rfl : i = n := by omega
      go_wp2
      go_ret
      exact ⟨rfl, HB.out⟩
end Go.Proofs.Ytcomgoapekkleaa

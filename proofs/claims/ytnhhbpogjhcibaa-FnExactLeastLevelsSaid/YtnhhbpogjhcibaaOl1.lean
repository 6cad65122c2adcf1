/- The levels of bricks, of the program. -/
import Derived.Test.YtnhhbpogjhcibaaGr1
import Derived.Test.YtnhhbpogjhcibaaBu0
import Derived.Test.YtnhhbpogjhcibaaMgE
namespace Go.Proofs.Ytnhhbpogjhcibaa
open Go Go.RowKit

/-- the rungs of brick j -/
def oeF (n j : Nat) : List Int := oeLev j (oeCnt n j)
theorem oeF_len (n j : Nat) (h : n ≤ 8) : (oeF n j).length ≤ 4 := by unfold oeF; rw [oeLev_len]; unfold oeCnt; omega
theorem oeK_cat (n : Nat) : ∀ v, oeK n v = cat (oeF n) v
  | 0 => rfl
  | v + 1 => by simp only [oeK, cat, oeK_cat n v]; rfl
def oeT (n v : Nat) : List (List Int) := (List.range v).map (oeF n)
theorem oeT_len (n v : Nat) : (oeT n v).length = v := by simp [oeT]
theorem gz_oeT (n v j : Nat) (h : j < v) : gz (oeT n v) j = oeF n j := by simp [gz, oeT, List.getD, h]

set_option maxRecDepth 100000 in
set_option maxHeartbeats 1000000 in
theorem oddEvenLevels_any (n v : Nat) (w : World) (hn : n ≤ 8) (h2 : 2 ≤ n) (hv : v ≤ 20) :
    Calls Try.prog 48 #[.int .i64 (n : Int), .int .i64 (v : Int)] w fun e w' => ∃ A M S, e = .returned (.slice A v v) ∧ OII w' w.heap.size M A v v (oeT n v) S ∧ Below w.heap.size w w' := by
  have hmk := run_make_row' (P := Try.prog) 30 22 (.slice none 0 0) 24 Try.underlying30 infoSlI rfl .i64 .i64 v (by omega) (by omega)
  have i4 : (0 : Int) ≤ (v : Int) := by omega
  go_enter Try.func48, Try.ntmps48
  go_wp2
  obtain ⟨g, hg⟩ : ∃ b, b = w.heap.size := ⟨_, rfl⟩
  have G0 : Hid (GR (w.alloc (.cells (madeCells #[.slice none 0 0] v) 22)) g (w.alloc (.cells (madeCells #[.slice none 0 0] v) 22)).heap.size v (oeF n) []) :=
    ⟨by rw [hg]; exact (World.rowIs_made w (.slice none 0 0) v 22).congr (fun j _ => by simp [slotV]), fun j s h => by simp at h, fun i j s t _ h => by simp at h, fun j s h => by simp at h, Nat.le_refl _, by rw [hg]; simp⟩
  have B0 : Hid (Below g w (w.alloc (.cells (madeCells #[.slice none 0 0] v) 22))) := by rw [hg]; exact (Below.refl _ _).alloc (Nat.le_refl _) _
  rw [← hg]
  have HG := Lib.hid hg
  clear hg hmk
  go_loopw [6, 7, 12] (fun _ _ i wr => ∃ (j : Nat) (M : Nat) (S : List Sl), j ≤ v ∧ i = .int .i64 (j : Int) ∧ S.length = j ∧ GR wr g M v (oeF n) S ∧ Below g w wr) (fun _ _ i _ => v - (intOf i).toNat)
  case atStart => exact ⟨0, _, [], Nat.zero_le _, by go_num, rfl, G0.out, B0.out⟩
  case round =>
    obtain ⟨j, M, S, hj, rfl, hSj, hG, hb⟩ := hrel
    have GG := Lib.hid hG
    have HBr := Lib.hid hb
    clear hG hb
    by_cases hlt : j < v
    · obtain ⟨r, hr⟩ : ∃ r, r = j % 2 := ⟨_, rfl⟩
      have hr2 : r < 2 := by omega
      have HR := Lib.hid hr
      have HSJ := Lib.hid hSj
      have hrm : (j : Int).tmod 2 = (r : Int) := by rw [Int.tmod_eq_emod_of_nonneg (by omega)]; omega
      have G1 := Lib.hid GG.out.start
      obtain ⟨wo, hwo⟩ : ∃ x : World, x = wr := ⟨_, rfl⟩
      subst hwo
      obtain ⟨MM, hMM⟩ : ∃ b, b = wo.heap.size := ⟨_, rfl⟩
      rw [← hMM] at G1
      clear hr hSj hMM
      go_wp2
      go_loopw [7] (fun i wi => ∃ (k : Nat) (A2 : Option Addr) (c2 : Nat), k ≤ oeCnt n j ∧ i = .int .i64 ((r + 2 * k : Nat) : Int) ∧ GP wi g MM v (oeF n) S A2 k c2 (oeLev j k) ∧ Below g w wi) (fun i _ => 20 - (intOf i).toNat)
      case atStart => exact ⟨0, none, 0, Nat.zero_le _, by first | go_num | simp [hrm], G1.out, HBr.out⟩
      case round =>
        obtain ⟨k, A2, c2, hk, rfl, hP, hb2⟩ := hrel
        have HP := Lib.hid hP
        have HB2 := Lib.hid hb2
        have hlen : (oeLev j k).length = k := oeLev_len _ _
        have E0 : Hid (oeLev j (k + 1) = oeLev j k ++ [((r + 2 * k : Nat) : Int)]) := Lib.hid (by simp only [oeLev]; rw [← HR.out])
        have hcd : oeCnt n j = (n - r) / 2 := by unfold oeCnt; rw [HR.out]
        have hsj : S.length < v := by rw [HSJ.out]; exact hlt
        have hk10 : k ≤ 10 := by omega
        have d0 := hP.cell hsj
        rw [HSJ.out] at d0
        have df := hP.row.frozen j
        have dz := hP.le
        have gz' := hP.gM
        obtain ⟨q, hq⟩ : ∃ q : Nat, q = r + 2 * k := ⟨_, rfl⟩
        rw [← hq] at E0 ⊢
        have hq8 : q ≤ 9 := by omega
        have HQ := Lib.hid hq
        have HCD := Lib.hid hcd
        have j0 : (0 : Int) ≤ (j : Int) := by omega
        have j1 : (j : Int) < (v : Int) := by omega
        clear hb2 hP hcd
        by_cases hlk : k < oeCnt n j
        · have i1 : (q : Int) < (n : Int) - 1 := by have := HCD.out; omega
          clear hq
          go_wp2_with (at_builtin; refine wpList_append_int _ rfl _ _ rfl MM A2 k c2 _ (q : Int) wr.heap.size rfl rfl (HP.out.own.alloc _) (by simp) (by omega) (by simp; omega) ?_; intro A3 c3 w3 ho3 hg3; have HO3 := Lib.hid ho3; have HG3 := Lib.hid hg3; have HP3 := Lib.hid (HP.out.step ((Below.refl _ _).alloc (Nat.le_refl _) (.cells #[.int .i64 (q : Int)] 3))); have hbm := ofMark HP3.out.own hg3 (Nat.le_refl _) HP3.out.le; have d3 := (hbm.cell (p := ⟨g, j, none⟩) gz').trans (show (wr.alloc (.cells #[.int .i64 (q : Int)] 3)).cell? ⟨g, j, none⟩ = some _ by rw [← HSJ.out]; exact HP3.out.cell hsj); have f3 := (hbm.frozen (p := ⟨g, j, none⟩) gz').trans (HP3.out.row.frozen j); have HB3 := Lib.hid ((HB2.out.alloc (by omega) _).trans (hbm.mono (by omega))); clear ho3 hg3 hbm)
          go_roundw
          case rel => exact ⟨k + 1, A3, c3, hlk, by rw [show r + 2 * (k + 1) = q + 2 by have := HQ.out; omega]; go_num, by have hap := HP3.out.app HO3.out HG3.out hsj; rw [HSJ.out] at hap; rw [E0.out]; exact hap, HB3.out.setCell (Nat.le_refl _) _⟩
          case measure => simp [intOf]; omega
        · have i1 : ¬ (q : Int) < (n : Int) - 1 := by have := HCD.out; omega
          have ek : k = oeCnt n j := by omega
          have EK := Lib.hid ek
          clear hq ek
          go_wp2
          go_roundw
          case rel => exact ⟨j + 1, _, S ++ [(A2, k, c2)], by omega, by go_num, by simp [HSJ.out], HP.out.done (by rw [HSJ.out, EK.out]; rfl), HB2.out⟩
          case measure => simp [intOf]; omega
    · obtain rfl : j = v := by omega
      go_wp2
      go_ret
      exact ⟨_, _, S, rfl, GG.out.oii hSj (oeT_len _ _) (fun i hi => gz_oeT _ _ _ hi) (by simp only [maxLen]; omega) (by rw [HG.out]; exact Nat.le_refl _), by rw [← HG.out]; exact HBr.out⟩

/-- the parts of a slice of slices -/
theorem OII.parts {w : World} {B M : Nat} {A : Option Addr} {n c : Nat} {zss : List (List Int)} {S : List Sl} (h : OII w B M A n c zss S) :
    Parts w A n (fun j => (S.getD j (none, 0, 0)).1) (fun j => (S.getD j (none, 0, 0)).2.1) (fun j => (S.getD j (none, 0, 0)).2.2) (fun j => gz zss j) := by
  have hs : ∀ j, j < n → S[j]? = some (S.getD j (none, 0, 0)) := fun j hj => by
    have : j < S.length := by rw [h.lS]; exact hj
    simp [List.getD, this]
  refine ⟨fun hn => ?_, fun j hj => (h.inn j _ (hs j hj)).ri⟩
  rcases h.form with ⟨_, _, h0⟩ | ⟨g, cur, rfl, _, hg, hh, h1, _, h3, h4⟩
  · omega
  · refine ⟨g, 0, rfl, hg, fun j hj => ?_⟩
    rw [Nat.zero_add, h.own.cellAt j (by omega)]
    rw [List.getElem?_map, hs j hj]
    rfl
theorem cat_congr {F G : Nat → List Int} : ∀ v, (∀ j, j < v → F j = G j) → cat F v = cat G v
  | 0, _ => rfl
  | v + 1, h => by simp only [cat]; rw [cat_congr v (fun j hj => h j (by omega)), h v (by omega)]
end Go.Proofs.Ytnhhbpogjhcibaa

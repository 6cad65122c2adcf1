/- The model's rungs of the first least ladder. -/
import Derived.Test.YtcomgoapekkleaaLf1
import Derived.Test.YtcomgoapekkleaaSS
import Derived.Test.YtcomgoapekkleaaC1r
namespace Go.Proofs.Ytcomgoapekkleaa
open Go Go.RowKit

def lenOf2 : Value → Nat
  | .slice _ n _ => n
  | _ => 0
theorem OI.cells {w : World} {B g n c : Nat} {zs : List Int} (h : OI w B (some ⟨g, 0, none⟩) n c zs) : ∀ j, j < n → w.cell? ⟨g, j, none⟩ = some (.int .i64 (gi zs j)) := by
  intro j hj
  obtain ⟨b', off', e, _, hc'⟩ := h.ri.cell hj
  injection e with e; injection e with e1 e2 e3
  subst e1 e2
  have := hc' j hj
  rwa [Nat.zero_add] at this

set_option maxRecDepth 100000 in
set_option maxHeartbeats 4000000 in
theorem lsFirst_any (A : Option Addr) (n c : Nat) (zs : List Int) (w : World) (h : RI w A n zs) (hI : Inn8 zs) (h1 : 1 ≤ n) :
    Calls Try.prog 52 #[.slice A n c] w (FreshI w (firstL zs).length (firstL zs)) := by
  have hl := h.1
  have h8 : n ≤ 8 := by have := hI.1; omega
  have HI := Lib.hid hI
  go_enter Try.func52, Try.ntmps52
  go_wp2_with fail
  refine (l1Own_any A n c zs _ h (by omega)).mono ?_
  rintro e w1 ⟨P, cp, rfl, hp, hb⟩
  rcases hp.form with ⟨_, _, h0⟩ | ⟨g, _, rfl, hBg, hgw, _, _, _, _, _⟩
  · omega
  have HP := Lib.hid hp
  have HB := Lib.hid hb
  have HZ := Lib.hid hb.size
  clear hp hb h hI
  go_wp2
  go_loopw [3, 4, 5, 6] (fun s3 _ _ _ wr => ∃ (out cur : List Int) (f : Nat) (A3 : Option Addr) (c3 : Nat), s3 = .slice A3 out.length c3 ∧ FRel zs out cur f ∧ OI wr w1.heap.size A3 out.length c3 out ∧ OI wr w.heap.size (some ⟨g, 0, none⟩) n cp cur ∧ Below w.heap.size w wr ∧ w1.heap.size ≤ wr.heap.size) (fun s3 _ _ _ _ => 700 - lenOf2 s3)
  case atStart => exact ⟨[], zs, 600, none, 0, rfl, FRel.start HI.out, OI.none_ _ _, HP.out, HB.out, Nat.le_refl _⟩
  case round =>
    obtain ⟨out, cur, f, A3, c3, rfl, hf, ho, hc, hb, hz⟩ := hrel
    have HF := Lib.hid hf
    have HO := Lib.hid ho
    have HC := Lib.hid hc
    have HW := Lib.hid hb
    have hcl : cur.length = n := by rw [hf.len, hl]
    have hol : out.length ≤ 600 := by have := hf.cnt; omega
    have HCC := Lib.hid hc.cells
    have HFR : Hid (∀ j, wr.frozen? ⟨g, j, none⟩ = false) := hc.2.frozenAt
    clear hf ho hc hb
    go_wp2_with fail
    go_loopw [4, 5] (fun s4 s5 wi => ∃ k m : Nat, wi = wr.drewN m ∧ s5 = .int .i64 (k : Int) ∧ k + 1 ≤ n ∧ s4 = .int .i64 (atV cur k)) (fun _ s5 _ => n - (intOf s5).toNat)
    case atStart => exact ⟨0, 0, rfl, rfl, h1, rfl⟩
    case round =>
      obtain ⟨k, m, rfl, rfl, hk, rfl⟩ := hrel
      rcases hq : fdsc cur k with _ | i
      · have HQ := Lib.hid hq
        rw [atV_none hq]
        clear hq
        by_cases hlt : k + 1 < n
        · have hck := HCC.out k (by omega)
          have hcp := HCC.out (k + 1) hlt
          by_cases hd : gi cur (k + 1) < gi cur k
          · have HD := Lib.hid hd
            go_wp2
            go_quiet (fail)
            clear hd
            go_wp2
            go_roundw
            case rel => exact ⟨k + 1, m + nq, by first | rfl | rw [World.drewN_drewN], by go_num, hlt, by rw [atV_some (fdsc_yes HQ.out HD.out)]⟩
            case measure => simp [intOf]; omega
          · have HD := Lib.hid hd
            have hd1 : gi cur k ≤ gi cur (k + 1) := by omega
            go_wp2
            go_quiet (fail)
            go_wp2
            go_roundw
            case rel => exact ⟨k + 1, m + nq, by first | rfl | rw [World.drewN_drewN], by go_num, hlt, by rw [atV_none (fdsc_no HQ.out (by have := HD.out; omega))]⟩
            case measure => simp [intOf]; omega
        · have e := HF.out.stop (by rw [hcl, show n - 1 = k by omega]; exact HQ.out)
          go_wp2
          go_ret
          exact ⟨A3, c3, by rw [← e]; rfl, by rw [← e]; exact (HO.out.mono HZ.out).drewN m, below_drewN HW.out m⟩
      · have HQ := Lib.hid hq
        obtain ⟨hik, hdi, _⟩ := fdsc_some _ hq
        obtain ⟨f2, hf2, hi1, HN⟩ := HF.out.step (i := i) (by rw [hcl]; exact fdsc_to hq (by omega))
        have HN := Lib.hid HN
        rw [atV_some hq]
        have hi2 : i + 1 < n := by omega
        have ci := HCC.out i (by omega)
        have ci1 := HCC.out (i + 1) hi2
        have fi := HFR.out i
        have fi1 := HFR.out (i + 1)
        have hi0 : (0 : Int) ≤ (i : Int) := by omega
        clear hq hdi hf2
        go_wp2_with (at_builtin; refine wpList_append_int _ rfl _ _ rfl w1.heap.size A3 out.length c3 _ (i : Int) _ rfl rfl ((((HO.out.drewN m).setBelow (by simp; omega) _).setBelow (by simp; omega) _).alloc _) (cellNewAt _ _ _ (by simp)) (by omega) (by simp; omega) ?_; intro A2 c2 w2 ho2 hg2; have HO2 := Lib.hid ho2; have HG2 := Lib.hid hg2; clear ho2 hg2)
        all_goals
          have HC2 := Lib.hid (OI.kept ((((HC.out.drewN m).stored i _).stored (i + 1) _).alloc _) HG2.out (fun b hb e => by
            simp [blk] at hb
            have := (HO.out.blk b e).1
            omega))
          have HW2 := belGrown (belAlloc (Lib.hid (((below_drewN HW.out m).setCell (p := ⟨g, i, none⟩) hBg _).setCell (p := ⟨g, i + 1, none⟩) hBg _)) _) ((((HO.out.drewN m).setBelow (by simp; omega) _).setBelow (by simp; omega) _).alloc _) HG2.out HZ.out
          have hz2 : w1.heap.size ≤ w2.heap.size := by have := HG2.out.size; simp at this; omega
          go_roundw
          case rel => exact ⟨out ++ [(i : Int)], exch cur i, f2, A2, c2, by simp, HN.out, by simpa using HO2.out, HC2.out, HW2.out, hz2⟩
          case measure => simp [lenOf2]; omega
end Go.Proofs.Ytcomgoapekkleaa

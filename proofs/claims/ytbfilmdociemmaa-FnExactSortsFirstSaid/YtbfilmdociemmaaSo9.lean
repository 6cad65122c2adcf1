/- What rungs that compare make of values, by the model. -/
import Derived.Test.YtbfilmdociemmaaSo1
import Derived.Test.YtbfilmdociemmaaMgE
import Derived.Test.YtbfilmdociemmaaApL
import Derived.Test.YtbfilmdociemmaaStP
import Derived.Test.YtbfilmdociemmaaMgB
import Derived.Test.YtbfilmdociemmaaMgF
namespace Go.Proofs.Ytbfilmdociemmaa
open Go Go.RowKit

set_option maxRecDepth 100000 in
set_option maxHeartbeats 2000000 in
theorem soRun_any (A : Option Addr) (m c : Nat) (zs : List Int) (A2 : Option Addr) (n c2 : Nat) (vs : List Int) (w : World) (h : RI w A m zs) (h2 : RI w A2 n vs) (hn : n ≤ 8) (h0 : 0 < n) (hm : m ≤ 60) (hz : rungsIn zs n) :
    Calls Try.prog 41 #[.slice A m c, .slice A2 n c2] w fun e w' => ∃ A1 c1 E d, e = .returned (.tuple #[.slice A1 n c1, .slice E (exL zs vs).length d]) ∧
      OI w' w.heap.size A1 n c1 (runS zs vs) ∧ OI w' w.heap.size E (exL zs vs).length d (exL zs vs) ∧ Below w.heap.size w w' := by
  have hzl := h.1
  have H0 := Lib.hid h
  have HZ := Lib.hid hz
  have h2l := Lib.hid h2.1
  go_enter Try.func41, Try.ntmps41
  go_wp2_with fail
  refine (l1Own_any A2 n c2 vs _ h2 (by omega)).mono ?_
  rintro e w1 ⟨A1, c1, rfl, o, hb⟩
  obtain ⟨b1, off1, rfl, hb1, -⟩ := o.ri.cell h0
  obtain rfl : off1 = 0 := by
    rcases o.form with ⟨e1, _⟩ | ⟨g1, cur, e1, _⟩
    · cases e1
    · injection e1 with e1; injection e1
  have O1 := Lib.hid o
  have HB := Lib.hid hb
  have hs1 := hb.size
  have hbo := (o.blk b1 rfl).1
  clear o hb h h2 hz
  go_wp2
  go_loopw [7, 15] (fun u i wr => ∃ (k : Nat) (E : Option Addr) (d : Nat), k ≤ m ∧ i = .int .i64 k ∧ u = .slice E (exK zs vs k).length d ∧ OI wr w.heap.size (some ⟨b1, 0, none⟩) n c1 (runK zs vs k) ∧ OI wr w1.heap.size E (exK zs vs k).length d (exK zs vs k) ∧ Below w.heap.size w wr ∧ w1.heap.size ≤ wr.heap.size) (fun _ i _ => m - (intOf i).toNat)
  case atStart => exact ⟨0, none, 0, Nat.zero_le _, rfl, rfl, by rw [runK_zero]; exact O1.out, OI.none_ _ _, HB.out, Nat.le_refl _⟩
  case round =>
    obtain ⟨k, E, d, hk, rfl, rfl, ho, hE, hb, hsz⟩ := hrel
    have HO := Lib.hid ho
    have HE := Lib.hid hE
    have HBr := Lib.hid hb
    by_cases hlt : k < m
    · have hkz : k < zs.length := by omega
      obtain ⟨r, hrr⟩ : ∃ r : Nat, gi zs k = (r : Int) := ⟨(gi zs k).toNat, by have := (HZ.out k hkz).1; omega⟩
      have hr : r + 1 < n := by have := (HZ.out k hkz).2; rw [hrr] at this; simpa using this
      have hr0 : r < n := by omega
      obtain ⟨b, off, rfl, hbw, hc⟩ := H0.out.cell hlt
      have hck : wr.cell? ⟨b, off + k, none⟩ = some (.int .i64 (r : Int)) := (hb.cell (p := ⟨b, off + k, none⟩) hbw).trans (by rw [hc k hlt, hrr])
      obtain ⟨x, hx⟩ : ∃ x, x = gi (runK zs vs k) r := ⟨_, rfl⟩
      obtain ⟨y, hy⟩ : ∃ y, y = gi (runK zs vs k) (r + 1) := ⟨_, rfl⟩
      have HX := Lib.hid hx
      have HY := Lib.hid hy
      have cx : wr.cell? ⟨b1, r, none⟩ = some (.int .i64 x) := by rw [hx]; exact HO.out.cells r hr0
      have cy : wr.cell? ⟨b1, r + 1, none⟩ = some (.int .i64 y) := by rw [hy]; exact HO.out.cells (r + 1) hr
      have fx : wr.frozen? ⟨b1, r, none⟩ = false := HO.out.2.frozenAt r
      have fy : wr.frozen? ⟨b1, r + 1, none⟩ = false := HO.out.2.frozenAt (r + 1)
      have hrk := runK_succ zs vs k hkz
      have hek := exK_succ zs vs k
      rw [hrr, Int.toNat_natCast] at hrk hek
      have HRK := Lib.hid hrk
      have HEK := Lib.hid hek
      have HEL := Lib.hid (exK_le zs vs k)
      have hw1 : IntKind.i64.wrap ((r : Int) + 1) = (r : Int) + 1 := IntWalk.i64_in _ (by omega)
      have i1 : (0 : Int) ≤ (r : Int) + 1 := by omega
      have i2 : (r : Int) + 1 < (n : Int) := by omega
      have i3 : (r : Int) < (n : Int) := by omega
      clear ho hE hb hc hx hy hrk hek hrr
      by_cases hxy : y < x
      · have hd : decide (y < x) = true := by simpa using hxy
        go_wp2
        go_quiet (fail)
        have hxe : exK zs vs (k + 1) = exK zs vs k ++ [(k : Int)] := by rw [HEK.out, if_pos (exAt_iff.2 (by rw [← HX.out, ← HY.out]; exact hxy))]
        have hxr : runK zs vs (k + 1) = ((runK zs vs k).set r y).set (r + 1) x := by rw [HRK.out, cmpAt_yes (exAt_iff.2 (by rw [← HX.out, ← HY.out]; exact hxy)), ← HX.out, ← HY.out]
        have HXE := Lib.hid hxe
        have HXR := Lib.hid hxr
        clear hxe hxr
        have O2 : Hid (OI (((wr.drewN nq).setCell ⟨b1, r, none⟩ (.int .i64 y)).setCell ⟨b1, r + 1, none⟩ (.int .i64 x)) w.heap.size (some ⟨b1, 0, none⟩) n c1 (runK zs vs (k + 1))) := Lib.hid (by rw [HXR.out]; exact ((HO.out.drewN nq).stored r y).stored (r + 1) x)
        have E2 : Hid (OI (((wr.drewN nq).setCell ⟨b1, r, none⟩ (.int .i64 y)).setCell ⟨b1, r + 1, none⟩ (.int .i64 x)) w1.heap.size E (exK zs vs k).length d (exK zs vs k)) := Lib.hid (((HE.out.drewN nq).setBelow (by simp; omega) _).setBelow (by simp; omega) _)
        have B2 : Hid (Below w.heap.size w (((wr.drewN nq).setCell ⟨b1, r, none⟩ (.int .i64 y)).setCell ⟨b1, r + 1, none⟩ (.int .i64 x))) := Lib.hid (((below_drewN HBr.out nq).setCell (by simp; omega) _).setCell (by simp; omega) _)
        have hz2 : w1.heap.size ≤ (((wr.drewN nq).setCell ⟨b1, r, none⟩ (.int .i64 y)).setCell ⟨b1, r + 1, none⟩ (.int .i64 x)).heap.size := by simpa [World.setCell] using hsz
        go_wp2_with (at_builtin; refine wpList_append_intL _ rfl _ _ rfl w1.heap.size E _ d _ (k : Int) wr.heap.size rfl rfl (E2.out.alloc _) (cellNewAt _ _ _ (by simp [World.setCell])) (by have := HEL.out; omega) (by simp [World.setCell]; omega) ?_; intro E5 d5 w5 ho5 hg5 hl5)
        go_roundw
        case rel =>
          refine ⟨k + 1, E5, d5, by omega, by go_num, by rw [HXE.out, List.length_append, List.length_singleton], ?_, ?_, ?_, ?_⟩
          · exact (O2.out.alloc _).kept hg5 (fun q hq e => by
              have h1 := (E2.out.blk q e).1
              have h2 := Option.some.inj hq
              simp at h2
              omega)
          · rw [HXE.out, List.length_append, List.length_singleton]; exact ho5
          · exact (B2.out.alloc (by have := hs1; simp [World.setCell]; omega) _).trans (ofMark (E2.out.alloc _) hg5 hs1 (by simp [World.setCell]; omega))
          · exact Nat.le_trans (by simp [World.setCell]; omega) hg5.size
        case measure => simp [intOf]; omega
      · have hd : decide (y < x) = false := by simpa using hxy
        go_wp2
        go_quiet (fail)
        go_wp2
        go_roundw
        case rel =>
          have hxe : exK zs vs (k + 1) = exK zs vs k := by
            rw [HEK.out, if_neg]
            intro e1
            have := exAt_iff.1 e1
            rw [← HX.out, ← HY.out] at this
            omega
          have hxr : runK zs vs (k + 1) = runK zs vs k := by
            rw [HRK.out, cmpAt_no]
            rcases e1 : exAt (runK zs vs k) r with _ | _
            · rfl
            · have := exAt_iff.1 e1
              rw [← HX.out, ← HY.out] at this
              omega
          exact ⟨k + 1, E, d, by omega, by go_num, by rw [hxe], by rw [hxr]; exact HO.out.drewN _, by rw [hxe]; exact HE.out.drewN _, below_drewN HBr.out _, hsz⟩
        case measure => simp [intOf]; omega
    · obtain rfl : k = m := by omega
      have e1 : runK zs vs k = runS zs vs := by rw [← hzl, runK_all]
      have e2 : exK zs vs k = exL zs vs := by unfold exL; rw [hzl]
      rw [e2] at hE
      rw [e1] at ho
      clear HE HO
      go_wp2
      exact bodyPost_ret (v := .tuple #[.slice (some ⟨b1, 0, none⟩) n c1, .slice E (exK zs vs k).length d]) (by simp [results, Try.results41]) rfl ⟨_, c1, E, d, by rw [e2], ho, hE.mono hs1, hb⟩
end Go.Proofs.Ytbfilmdociemmaa

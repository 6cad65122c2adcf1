/- The place at which one comes out of a pole; PoleEnd and PoleWay of the program. -/
import Derived.Test.YtijddnllacphfaaPq2
import Derived.Test.YtijddnllacphfaaMgD
namespace Go.Proofs.Ytijddnllacphfaa
open Go Go.RowKit

set_option maxRecDepth 100000 in
set_option maxHeartbeats 4000000 in
theorem pend_any (W : Int) (A : Option Addr) (n c : Nat) (zs : List Int) (s : Int) (w : World) (h : RI w A n zs) (hw : PWires W zs s) :
    Calls Try.prog 77 #[.agg #[.int .i64 W, .slice A n c], .int .i64 s] w (RetP2 (pat W zs s n) (pwd W zs s n) w) := by
  have HP := Lib.hid (fun (wi : World) (hi : RI wi A n zs) => places_any W A n c zs s wi hi hw)
  have hg := gi_plF W zs s (n := n + 1) (k := n) (by omega)
  have HG1 := Lib.hid hg.1; have HG2 := Lib.hid hg.2
  clear hw hg
  go_enter Try.func77, Try.ntmps77
  go_wp2_with fail
  have HA := boxDrew (boxAlloc (boxNew (W := W) (c := c) 45 h) (.cells #[.int .i64 0, .int .i64 0] 63))
  have HB := belDrew (belAlloc (belAlloc (belRefl (w := w)) (.cells #[.int .i64 W, .slice A n c] 45)) (.cells #[.int .i64 0, .int .i64 0] 63))
  have HC := cellDrew (cellNew (w.alloc (.cells #[.int .i64 W, .slice A n c] 45)) (.int .i64 0) (.int .i64 0) 63)
  have d1 := HA.out.c1
  clear h
  go_region_with (go_at_call 86; refine (HP.out _ HA.out.ri).mono ?_; rintro e w6 ⟨A6, c6, rfl, o6, hb⟩; have HA6 := boxStep HA hb; have HB6 := belStep HB hb; have HC6 := cellStep HC hb; have a6 := HA6.out.c1; have k0 := HC6.out.c0; have k1 := HC6.out.c1; have f0 := HC6.out.f0; have f1 := HC6.out.f1; have hz := HC6.out.lt; obtain ⟨b, off, rfl, _, hc⟩ := o6.rq.2 (Nat.succ_pos _); have hcn := hc (n * 2) (by omega); have hcm := hc (n * 2 + 1) (by omega); rw [HG1.out] at hcn; rw [HG2.out, ← Nat.add_assoc] at hcm; simp only [World.size_alloc] at k0 k1 f0 f1 hz; clear hb hc o6)
  all_goals
    go_wp2
    exact bodyPost_ret (v := .agg #[.int .i64 (pat W zs s n), .int .i64 (pwd W zs s n)]) (by simp [results, Try.results77, go_sem, k0, k1]) rfl ⟨rfl, (HB6.out.setCell (by simp) _).setCell (by simp) _⟩
end Go.Proofs.Ytijddnllacphfaa

/- A list and a number behind it, as the parts of slices.Concat. -/
import Derived.Test.YtbfilmdociemmaaConcat
import Derived.Test.YtbfilmdociemmaaOii
namespace Go.Proofs.Ytbfilmdociemmaa
open Go Go.RowKit

def two {α : Type} (u v : α) (j : Nat) : α := if j = 0 then u else v
theorem parts_two (w : World) (a : Option Addr) (k d : Nat) (q : List Int) (x : Int) (h : RI w a k q) :
    Parts ((w.alloc (.cells #[.int .i64 x] 3)).alloc (.cells #[.slice a k d, .slice (some ⟨w.heap.size, 0, none⟩) 1 1] 22)) (some ⟨w.heap.size + 1, 0, none⟩) 2 (two a (some ⟨w.heap.size, 0, none⟩)) (two k 1) (two d 1) (two q [x]) := by
  have hc := cellNew (w.alloc (.cells #[.int .i64 x] 3)) (.slice a k d) (.slice (some ⟨w.heap.size, 0, none⟩) 1 1) 22
  simp only [World.size_alloc] at hc
  refine ⟨fun _ => ⟨w.heap.size + 1, 0, rfl, by simp, fun j hj => ?_⟩, fun j hj => ?_⟩
  · rcases j with _ | _ | j
    · exact hc.out.c0
    · exact hc.out.c1
    · omega
  · rcases j with _ | _ | j
    · exact (h.alloc _).alloc _
    · exact (RI.single w x).alloc _
    · omega
theorem cat_two {q : List Int} {x : Int} : cat (two q [x]) 2 = q ++ [x] := by simp [cat, two]
end Go.Proofs.Ytbfilmdociemmaa

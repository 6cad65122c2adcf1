/- 'FnExactParseLadder' returns true for every string, the string reads behind the call as it read before it, and nothing else that was there has turned: the tied card. The row lists seven variables of Go's library with what they hold (the card ties them to the program's text); there is no other condition. That the two errors are errors is read off the list; that the library's length holds some number, off the world's shape. -/
import Derived.Test.YtndphbifnohmdaaDoorMgN
import Derived.Test.YtndphbifnohmdaaDoorL1ParseLadder
import Derived.Test.YtndphbifnohmdaaDoorTie
import Derived.Test.YtndphbifnohmdaaDoorCards
import Derived.LaidMore
import Derived.Lay
import Derived.MakeChecks
import Derived.SevenTiedAt
import Derived.Stop.LaidErr
import Derived.Shelf.Vars
import Derived.ChangeMaps5
import Derived.Deep.DeepHandedRow
namespace Go.Proofs.YtndphbifnohmdaaDoor
open Go Go.ChangeShapes Go.WideShapes Go.ChangeAt Go.RowKit

def laidPL : List (String × DataW Unit) := Rows.fnExactParseLadderRow.laid
theorem metPL (os : Os) (args : Array Value) : laidMetH Tryd.prog laidPL ((World.laidAll Tryd.prog os laidPL).forCall (fun _ _ => 0) ⟨#[], args, []⟩).memory := by
  rw [MakeChecks.laidMetH_plain _ _ _ (by kernel_rfl)]
  exact laidMet_laidAll _ (by kernel_rfl) (by kernel_rfl)

theorem starPL : "*" ++ "errors.errorString" = "*errors.errorString" := by decide
theorem rowPL (u : TypeId) (h : Tryd.prog.typeName? 3 u = some "*errors.errorString") : u = 98 :=
  typeName_ptr_named (nm := "errors.errorString") (by rw [starPL]; kernel_rfl) (by kernel_rfl) (by decide) u (by rw [starPL]; exact h)

theorem globPL {W : World} (hL : laidMetH Tryd.prog laidPL W) (hsh : W.ShapedOpen Tryd.prog) : Glob W := by
  rw [MakeChecks.laidMetH_plain Tryd.prog laidPL W (by kernel_rfl)] at hL
  obtain ⟨m, hm⟩ := Go.Proofs.cell_of_shapedOpen_int (P := Tryd.prog) (w := W) (g := 0) (t := 3) (zero := #[.int .i64 0]) (k := .i64) hsh (of_decide_eq_true (by kernel_rfl)) (by kernel_rfl) rfl (by kernel_rfl) (by kernel_rfl) Tryd.underlying3
  have h4 := hL.tail.tail.tail.tail
  have h5 := h4.tail
  obtain ⟨a2, _, v2, _⟩ := laid_sentinel (g := 2) (ti := 46) (tp := 98) (te := 100) (ts := 9) h4 (by kernel_rfl) (by kernel_rfl) Tryd.underlying46 rowPL Tryd.underlying98 Tryd.underlying100 rfl rfl Tryd.underlying9 (by kernel_rfl) (by kernel_rfl)
  obtain ⟨a1, _, v1, _⟩ := laid_sentinel (g := 1) (ti := 46) (tp := 98) (te := 100) (ts := 9) h5 (by kernel_rfl) (by kernel_rfl) Tryd.underlying46 rowPL Tryd.underlying98 Tryd.underlying100 rfl rfl Tryd.underlying9 (by kernel_rfl) (by kernel_rfl)
  have c1 : W.cell? ⟨1, 0, none⟩ = some (.iface 98 (.pointer (some a1))) := by
    simpa using World.var?_cell (P := Tryd.prog) (g := 1) (by kernel_rfl) v1 0
  have c2 : W.cell? ⟨2, 0, none⟩ = some (.iface 98 (.pointer (some a2))) := by
    simpa using World.var?_cell (P := Tryd.prog) (g := 2) (by kernel_rfl) v2 0
  exact ⟨⟨m, hm⟩, ⟨_, _, c1⟩, ⟨_, _, c2⟩, World.block_lt_of_cell? W _ c2⟩

set_option linter.unusedVariables false in
set_option maxRecDepth 100000 in
theorem liftedParseLadder (os : Os) (started : os.Started) (H : Type) (enc : TypeId × Value → H) (F : Stop.Interp) :
    ReturnsInHanded {} Tryd.checked os 4 .any ((OpenSpec.ofChange Rows.fnExactParseLadderSpec).preRow enc Tryd.prog Tryd.f4 [] false laidPL)
      (((OpenSpec.ofChange Rows.fnExactParseLadderSpec).at F).post enc Tryd.prog Tryd.f4 false true false false) := by
  refine returnsInHanded_of_row (C := Tryd.checked) (s := OpenSpec.ofChange Rows.fnExactParseLadderSpec) ownK started (by kernel_rfl) Tryd.func4
    (ChangeSpec.witness_shaped (enc := enc) (C := Tryd.checked) (os := os) (s := Rows.fnExactParseLadderSpec) (conds := []) (X := fun w _ => laidMetH Tryd.prog laidPL w) false (World.laidAll Tryd.prog os laidPL) #[.string ByteArray.empty] 8 (World.laidAll_os _ _ _) (World.shaped_of_ZipB (by kernel_rfl) (by kernel_rfl)) (by kernel_rfl) (by kernel_rfl) (by kernel_rfl) (metPL os _)) ?_
  intro W base args ds gs before hval0 hW _ _ _ hL hsh _
  have hval : ∀ (j : Nat) t v, Tryd.f4.params[j]? = some t → args[j]? = some v → Value.okWide Tryd.prog W .any base t v := hval0
  have hW' := hW
  obtain ⟨p, q, hA0, hV, rfl, hfz, hnd⟩ := hW
  have hA : DataW.TrodAll enc Tryd.prog W 0 (fun _ => true) true Tryd.f4.params.toList args.toList ds p := hA0
  rw [Tryd.params4] at hA hval
  obtain ⟨v0, d0, rfl, rfl, h0⟩ := trodAll_one hA
  obtain ⟨rfl, rfl⟩ := trodVars_none hV
  obtain ⟨s0, rfl, _, _, hz0⟩ := ChangeMaps.open_string Tryd.underlying9 (hval 0 _ v0 rfl rfl) h0
  clear hA0 hval0
  refine (lawParseLadder_any s0 W (globPL hL hsh) hz0).mono fun e W' ⟨he, hb⟩ => ?_
  subst he
  exact ⟨_, rfl, postTrue hW' hb rfl rfl (by rw [Tryd.params4]; intro t ht; simp at ht; subst ht; exact ⟨by kernel_rfl, of_decide_eq_true (by kernel_rfl)⟩) rfl rfl rfl⟩

theorem closedParseLadder : joinedFacts Tryd.prog 4 Tryd.f4 Rows.fnExactParseLadderSpec Rows.fnExactParseLadderRow = true := by
  unfold joinedFacts
  rw [fkEnter, fkLifts, fkMake]
  kernel_rfl

set_option maxRecDepth 100000 in
theorem rowParseLadder : Rows.FnExactParseLadderSaid :=
  OpenClaim.holds_of_cond 4 Tryd.f4 rfl rfl rfl rfl rfl rfl rfl ⟨rfl, rfl, rfl, rfl, rfl⟩ rfl rfl rfl rfl rfl (by kernel_rfl) Tryd.func4 closedParseLadder
    (of_decide_eq_true (by kernel_rfl)) (by unfold Func.isWrapper; first | (rw [if_pos (by decide +kernel)]; kernel_rfl) | (rw [if_neg (by decide +kernel)]; exact ⟨rfl, rfl⟩))
    (fun os started H enc _ F0 => by rw [OpenClaim.pre_eq_preRow]; exact liftedParseLadder os started H enc F0)

theorem provedParseLadder : Rows.FnExactParseLadderCardSaid :=
  Claim7.holds_tied_plain_at .later [] [.data, .data, .data, .data, .sentinel, .sentinel, .pinned] true (true, "72ce2acbcbe292361f7444acb73cd4ee29894c61af4f90cd4263d930e53014d0") true
    rowParseLadder (fun _ h => by cases h) (by kernel_rfl) (fun _ h => by cases h) fnExactParseLadder_row_tie rfl ⟨rfl, rfl⟩ (by kernel_rfl) rfl
    (fun f fn hf hfn => by
      obtain rfl : f = 4 := Option.some.inj ((show Tryd.prog.funcNamed "loop.example/g01209/laws.FnExactParseLadder" = some 4 by kernel_rfl).symm.trans hf) |>.symm
      obtain rfl : fn = Tryd.f4 := (Option.some.inj (Tryd.func4.symm.trans hfn)).symm
      exact ⟨by kernel_rfl, fun j t ht => by
        rw [Tryd.params4] at ht
        have hm : t ∈ [9] := by simpa using Array.mem_of_getElem? ht
        have hall : ([9].all fun u => !Tryd.prog.wantsStandIn u) = true := by kernel_rfl
        exact (show Tryd.prog.wantsStandIn t = false by simpa using List.all_eq_true.1 hall t hm)⟩)
    (by kernel_rfl)
end Go.Proofs.YtndphbifnohmdaaDoor

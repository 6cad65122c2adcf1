/- 'FnLongestCounted' returns true for all bytes, each argument reads behind the call as it read before it, and nothing else that was there has turned: the tied card. The row lists seven variables of Go's library with what they hold (the card ties them to the program's text); there is no other condition. -/
import Derived.Test.YtgeeifjbfceogaaGreatDoorGz
import Derived.Test.YtgeeifjbfceogaaGreatDoorRow8
import Derived.Test.YtgeeifjbfceogaaGreatDoorKn2
import Derived.Test.YtgeeifjbfceogaaGreatDoorTie
import Derived.Test.YtgeeifjbfceogaaGreatDoorCards
namespace Go.Proofs.YtgeeifjbfceogaaGreatDoor
open Go Go.ChangeShapes Go.WideShapes Go.ChangeAt Go.RowKit

set_option linter.unusedVariables false in
set_option maxRecDepth 100000 in
theorem liftedLongestCounted (os : Os) (started : os.Started) (H : Type) (enc : TypeId × Value → H) (F : Stop.Interp) :
    ReturnsInHanded {} Tryz.checked os 10 .any ((OpenSpec.ofChange Rows.fnLongestCountedSpec).preRow enc Tryz.prog Tryz.f10 [] false laidPL)
      (((OpenSpec.ofChange Rows.fnLongestCountedSpec).at F).post enc Tryz.prog Tryz.f10 false true false false) := by
  refine returnsInHanded_of_row (C := Tryz.checked) (s := OpenSpec.ofChange Rows.fnLongestCountedSpec) ownK started (by kernel_rfl) Tryz.func10
    (ChangeSpec.witness_shaped (enc := enc) (C := Tryz.checked) (os := os) (s := Rows.fnLongestCountedSpec) (conds := []) (X := fun w _ => laidMetH Tryz.prog laidPL w) false (World.laidAll Tryz.prog os laidPL) #[.slice none 0 0, .slice none 0 0] 8 (World.laidAll_os _ _ _) (World.shaped_of_ZipB (by kernel_rfl) (by kernel_rfl)) (by kernel_rfl) (by kernel_rfl) (by kernel_rfl) (metPL os _)) ?_
  intro W base args ds gs before hval0 hW _ _ _ hL hsh _
  have hval : ∀ (j : Nat) t v, Tryz.f10.params[j]? = some t → args[j]? = some v → Value.okWide Tryz.prog W .any base t v := hval0
  have hW' := hW
  obtain ⟨p, q, hA0, hV, rfl, hfz, hnd⟩ := hW
  have hA : DataW.TrodAll enc Tryz.prog W 0 (fun _ => true) true Tryz.f10.params.toList args.toList ds p := hA0
  rw [Tryz.params10] at hA hval
  obtain ⟨v0, v1, d0, d1, p0, p1, rfl, rfl, rfl, h0, h1⟩ := trodAll_two hA
  obtain ⟨rfl, rfl⟩ := trodVars_none hV
  obtain ⟨A0, n0, c0, zs0, rfl, hr0, hn0⟩ := openBytes (hval 0 _ v0 rfl rfl) h0
  obtain ⟨A1, n1, c1, _, rfl, _, hn1⟩ := openBytes (hval 1 _ v1 rfl rfl) h1
  clear hA0 hval0
  refine (lawLongestCounted_any A0 n0 c0 zs0 A1 n1 c1 W hr0 hn0 hn1 (globPL hL hsh)).mono fun e W' ⟨he, hb⟩ => ?_
  subst he
  exact ⟨_, rfl, postTrue hW' hb rfl rfl (by rw [Tryz.params10]; intro t ht; simp at ht; subst ht; exact ⟨by kernel_rfl, of_decide_eq_true (by kernel_rfl)⟩) rfl rfl rfl⟩

theorem closedLongestCounted : joinedFacts Tryz.prog 10 Tryz.f10 Rows.fnLongestCountedSpec Rows.fnLongestCountedRow = true := by
  unfold joinedFacts
  rw [fkEnter, fkLifts, fkMake]
  kernel_rfl

set_option maxRecDepth 100000 in
theorem rowLongestCounted : Rows.FnLongestCountedSaid :=
  OpenClaim.holds_of_cond 10 Tryz.f10 rfl rfl rfl rfl rfl rfl rfl ⟨rfl, rfl, rfl, rfl, rfl⟩ rfl rfl rfl rfl rfl (by kernel_rfl) Tryz.func10 closedLongestCounted
    (of_decide_eq_true (by kernel_rfl)) (by unfold Func.isWrapper; first | (rw [if_pos (by decide +kernel)]; kernel_rfl) | (rw [if_neg (by decide +kernel)]; exact ⟨rfl, rfl⟩))
    (fun os started H enc _ F0 => by rw [OpenClaim.pre_eq_preRow]; exact liftedLongestCounted os started H enc F0)

theorem provedLongestCounted : Rows.FnLongestCountedCardSaid :=
  Claim7.holds_tied_plain_at .later [] [.data, .data, .data, .data, .sentinel, .sentinel, .pinned] true (true, "139ac19aa8f8393aa5af99e22a5a3524f2f18ea35b28f5bf22f797ef63115d42") true
    rowLongestCounted (fun _ h => by cases h) (by kernel_rfl) (fun _ h => by cases h) fnLongestCounted_row_tie rfl ⟨rfl, rfl⟩ (by kernel_rfl) rfl
    (fun f fn hf hfn => by
      obtain rfl : f = 10 := Option.some.inj ((show Tryz.prog.funcNamed "loop.example/g01209/laws.FnLongestCounted" = some 10 by kernel_rfl).symm.trans hf) |>.symm
      obtain rfl : fn = Tryz.f10 := (Option.some.inj (Tryz.func10.symm.trans hfn)).symm
      exact ⟨by kernel_rfl, fun j t ht => by
        rw [Tryz.params10] at ht
        have hm : t ∈ [51, 51] := by simpa using Array.mem_of_getElem? ht
        have hall : ([51, 51].all fun u => !Tryz.prog.wantsStandIn u) = true := by kernel_rfl
        exact (show Tryz.prog.wantsStandIn t = false by simpa using List.all_eq_true.1 hall t hm)⟩)
    (by kernel_rfl)
end Go.Proofs.YtgeeifjbfceogaaGreatDoor

/- The contract of the program's ParseLadder. -/
import Derived.Test.YtndphbifnohmdaaDoorMgI
import Derived.Test.YtndphbifnohmdaaDoorMgH
namespace Go.Proofs.YtndphbifnohmdaaDoor
open Go Go.RowKit

/-- a ladder in new memory, and a bool -/
def FreshLB (w : World) (W : Int) (n : Nat) (zs : List Int) (b : Bool) (e : Ending) (w' : World) : Prop :=
  ∃ A c, e = .returned (.tuple #[.agg #[.int .i64 W, .slice A n c], .bool b]) ∧ OI w' w.heap.size A n c zs ∧ Below w.heap.size w w'
def resU (l : List UInt8) : Int := ((resX l).map (·.1)).getD 0
def resL (l : List UInt8) : List Int := ((resX l).map (·.2)).getD []
def resB (l : List UInt8) : Bool := (resX l).isSome
structure ResNo (t : List UInt8) : Prop where
  u : resU t = 0
  l : resL t = []
  b : resB t = false
structure ResYes (t : List UInt8) (v : Int) (vs : List Int) : Prop where
  u : resU t = v
  l : resL t = vs
  b : resB t = true
theorem resNo {l : List UInt8} (h : resX l = none) : ResNo l := ⟨by unfold resU; rw [h]; rfl, by unfold resL; rw [h]; rfl, by unfold resB; rw [h]; rfl⟩
theorem resYes {l : List UInt8} {v : Int} {vs : List Int} (h : resX l = some (v, vs)) : ResYes l v vs := ⟨by unfold resU; rw [h]; rfl, by unfold resL; rw [h]; rfl, by unfold resB; rw [h]; rfl⟩
theorem resL_len (l : List UInt8) : (resL l).length ≤ 60 := by
  unfold resL
  rcases h : resX l with _ | ⟨v, vs⟩
  · simp
  · have := (lad_iff.1 (res_some h).1).2.1
    simpa using this
theorem res_no1 {l : List UInt8} (h : ∀ v, Lib.atoiAll (Lib.cut l [58]).1 ≠ .ok v) : resX l = none := by
  unfold resX pl
  rcases hq : Lib.atoiAll (Lib.cut l [58]).1 with v | _ | _
  · exact absurd hq (h v)
  · rfl
  · rfl
theorem pl_ok {l : List UInt8} {v : Int} (h : Lib.atoiAll (Lib.cut l [58]).1 = .ok v) : pl l = (rl (Lib.cut l [58]).2.1).map (v, ·) := by
  unfold pl; rw [h]
theorem res_no2 {l : List UInt8} {v : Int} (h : Lib.atoiAll (Lib.cut l [58]).1 = .ok v) (h2 : rl (Lib.cut l [58]).2.1 = none) : resX l = none := by
  unfold resX; rw [pl_ok h, h2]; rfl
theorem res_no3 {l : List UInt8} {v : Int} {vs : List Int} (h : Lib.atoiAll (Lib.cut l [58]).1 = .ok v) (h2 : rl (Lib.cut l [58]).2.1 = some vs) (h3 : ¬ (lad v vs = true ∧ textT v vs = l)) : resX l = none := by
  unfold resX; rw [pl_ok h, h2, Option.map_some]; simp only; rw [if_neg h3]
theorem res_yes {l : List UInt8} {v : Int} {vs : List Int} (h : Lib.atoiAll (Lib.cut l [58]).1 = .ok v) (h2 : rl (Lib.cut l [58]).2.1 = some vs) (h3 : lad v vs = true ∧ textT v vs = l) : resX l = some (v, vs) := by
  unfold resX; rw [pl_ok h, h2, Option.map_some]; simp only; rw [if_pos h3]
theorem allOk_len : ∀ {L : List (List UInt8)} {vs : List Int}, allOk L = some vs → vs.length = L.length := by
  intro L
  induction L with
  | nil => intro vs h; unfold allOk at h; injection h with h; subst h; rfl
  | cons q r ih =>
    intro vs h
    unfold allOk at h
    split at h
    · rcases hr : allOk r with _ | ws
      · rw [hr] at h; cases h
      · rw [hr] at h
        simp only [Option.map_some, Option.some.injEq] at h
        subst h
        simp [ih hr]
    · cases h
theorem rl_len {r : List UInt8} {vs : List Int} (h : rl r = some vs) : vs.length ≤ r.length + 1 := by
  unfold rl at h
  split at h
  · injection h with h; subst h; simp
  · have h1 := allOk_len h
    have h2 : (pieces r).length = Lib.countB ⟨r.toArray⟩ ⟨#[44]⟩ + 1 := by
      have := Lib.splitB_all ⟨#[44]⟩ (by decide) 0 _ ⟨r.toArray⟩ rfl
      rw [← this, ← List.length_map (f := fun p : ByteArray => p.data.toList), Lib.splitB_data]
      rfl
    have h3 := Lib.countB_le ⟨#[44]⟩ (by decide) r.length ⟨r.toArray⟩ (by rw [Lib.size_eq]; simp)
    rw [Lib.size_eq] at h3
    simp at h3
    omega
theorem cut_len (l : List UInt8) : (Lib.cut l [58]).1.length ≤ l.length ∧ ((Lib.cut l [58]).2.1 = [] ∨ (Lib.cut l [58]).2.1.length + 1 ≤ l.length) := by
  unfold Lib.cut
  split
  · rename_i h
    have := Lib.index_room l [58] h
    simp only [List.length_take, List.length_drop, List.length_cons, List.length_nil] at this ⊢
    refine ⟨Nat.min_le_right _ _, .inr ?_⟩
    omega
  · exact ⟨Nat.le_refl _, .inl rfl⟩
theorem rl_nil : rl [] = none := by decide

set_option maxRecDepth 100000 in
set_option maxHeartbeats 4000000 in
theorem iParseLadder_any (s : ByteArray) (w : World) (hs : s.size ≤ 1048576) (hG : Glob w) :
    Calls Tryd.prog 11 #[.string s] w (FreshLB w (resU s.data.toList) (resL s.data.toList).length (resL s.data.toList) (resB s.data.toList)) := by
  have hsz := Lib.size_eq s
  have hcl := cut_len s.data.toList
  obtain ⟨f, hf⟩ : ∃ f, f = (Lib.cut s.data.toList [58]).1 := ⟨_, rfl⟩
  obtain ⟨r, hr⟩ : ∃ r, r = (Lib.cut s.data.toList [58]).2.1 := ⟨_, rfl⟩
  rw [← hf, ← hr] at hcl
  obtain ⟨m, hm⟩ := hG.m
  have hcut := strings_Cut s ⟨#[58]⟩ m w (by omega) hm
  rw [show (⟨#[58]⟩ : ByteArray).data.toList = [58] from rfl, ← hf, ← hr] at hcut
  obtain ⟨fd, hfd⟩ : ∃ fd, fd = (Lib.cut s.data.toList [58]).2.2 := ⟨_, rfl⟩
  rw [← hfd] at hcut
  obtain ⟨F, hF⟩ : ∃ F : ByteArray, F = ⟨f.toArray⟩ := ⟨_, rfl⟩
  obtain ⟨R, hR⟩ : ∃ R : ByteArray, R = ⟨r.toArray⟩ := ⟨_, rfl⟩
  rw [← hF, ← hR] at hcut
  have hFd : F.data.toList = f := by rw [hF]
  have hRd : R.data.toList = r := by rw [hR]
  have hFz : F.size ≤ 2000000 := by rw [Lib.size_eq, hFd]; omega
  have hrz : r = [] ∨ r.length + 1 ≤ 1048576 := by
    rcases hcl.2 with e | e
    · exact .inl e
    · right; omega
  have hRz : R.size ≤ 2000000 := by
    rw [Lib.size_eq, hRd]
    rcases hrz with e | e
    · rw [e]; simp
    · omega
  have HCUT0 : Hid (∀ w' : World, (∃ x, w'.cell? ⟨0, 0, none⟩ = some (.int .i64 x)) → Calls Tryd.prog 23 #[.string s, .string ⟨#[58]⟩] w' fun e w2 => e = .returned (.tuple #[.string F, .string R, .bool fd]) ∧ Below w'.heap.size w' w2) := fun w' hx => by
    obtain ⟨x, hx⟩ := hx
    have h := strings_Cut s ⟨#[58]⟩ x w' (by omega) hx
    rw [show (⟨#[58]⟩ : ByteArray).data.toList = [58] from rfl, ← hf, ← hr, ← hfd, ← hF, ← hR] at h
    refine h.mono ?_
    rintro e w2 ⟨rfl, k, hk⟩
    subst hk
    exact ⟨rfl, below_drewN (Below.refl _ _) k⟩
  clear hcut hm hfd hF hR hcl
  by_cases hv : ∃ v, Lib.atoiAll f = .ok v
  · obtain ⟨v, hv⟩ := hv
    have HV : Hid (Lib.atoiAll F.data.toList = .ok v) := by show _ = _; rw [hFd]; exact hv
    rcases hrl : rl r with _ | vs
    · have HNO := Lib.hid (resNo (res_no2 (by rw [← hf]; exact hv) (by rw [← hr]; exact hrl)))
      have HRB : Hid ((rl r).isSome = false) := by show _ = _; rw [hrl]; rfl
      clear hv hf hr hrz hrl
      go_enter Tryd.func11, Tryd.ntmps11
      go_wp2_with fail
      have HC := cellNew w (.int .i64 0) (.slice none 0 0) 28
      have HB := belAlloc (belRefl (w := w)) (.cells #[.int .i64 0, .slice none 0 0] 28)
      have HG1 := Lib.hid (hG.below ((Below.refl w.heap.size w).alloc (Nat.le_refl _) (.cells #[.int .i64 0, .slice none 0 0] 28)))
      refine (HCUT0.out _ HG1.out.m).mono ?_
      rintro e w1 ⟨rfl, hb⟩
      replace HC := cellStep HC hb; replace HB := belStep HB hb
      have HG2 := Lib.hid (HG1.out.below hb)
      clear hb HG1
      go_wp2_with fail
      refine (atoi_yes F hFz v HV.out _).mono ?_
      rintro e w2 ⟨rfl, hb⟩
      replace HC := cellStep HC hb; replace HB := belStep HB hb
      have HG3 := Lib.hid (HG2.out.below hb)
      clear hb HG2
      go_wp2_with fail
      refine (readList_any R _ hRz HG3.out).mono ?_
      rw [hRd]
      rintro e w3 ⟨A3, c3, rfl, o3, hb⟩
      replace HC := cellStep HC hb; replace HB := belStep HB hb
      rw [HRB.out]
      clear hb o3
      have k0 := HC.out.c0; have k1 := HC.out.c1; have f0 := HC.out.f0; have f1 := HC.out.f1; have hz := HC.out.lt
      go_wp2
      rw [HNO.out.u, HNO.out.l, HNO.out.b]
      exact bodyPost_ret (v := .tuple #[.agg #[.int .i64 0, .slice none 0 0], .bool false]) (by simp [results, Tryd.results11, go_sem, k0, k1]) rfl ⟨none, 0, rfl, OI.none_ _ _, (by repeat (first | exact Below.refl _ _ | exact HB.out | refine Below.setCell ?_ (by simp <;> omega) _ | refine Below.alloc ?_ (by simp <;> omega) _ | refine below_drewN ?_ _))⟩
    · have hvl := rl_len hrl
      have hvl2 : vs.length ≤ 1048576 := by
        rcases hrz with e | e
        · rw [e] at hvl; simp at hvl; omega
        · omega
      have HRB : Hid ((rl r).isSome = true) := by show _ = _; rw [hrl]; rfl
      have HRL : Hid (rlL r = vs) := by show _ = _; unfold rlL; rw [hrl]; rfl
      by_cases hl : lad v vs = true
      · have HLT : Hid (textN v vs = textT v vs) := by show _ = _; unfold textN; rw [if_pos hl]
        by_cases ht : textT v vs = s.data.toList
        · have HY := Lib.hid (resYes (res_yes (by rw [← hf]; exact hv) (by rw [← hr]; exact hrl) ⟨hl, ht⟩))
          have HLD := Lib.hid hl
          obtain ⟨t, htt⟩ : ∃ t, t = bs (textT v vs) := ⟨_, rfl⟩
          have hcmp : (t.toList == s.toList) = true := by rw [htt, ByteArray.toList_eq, ByteArray.toList_eq, ← ht]; simp [bs]
          have HTT := Lib.hid htt
          clear hv hf hr hrz hrl hl ht htt hvl
          go_enter Tryd.func11, Tryd.ntmps11
          go_wp2_with fail
          have HC := cellNew w (.int .i64 0) (.slice none 0 0) 28
          have HB := belAlloc (belRefl (w := w)) (.cells #[.int .i64 0, .slice none 0 0] 28)
          have HG1 := Lib.hid (hG.below ((Below.refl w.heap.size w).alloc (Nat.le_refl _) (.cells #[.int .i64 0, .slice none 0 0] 28)))
          refine (HCUT0.out _ HG1.out.m).mono ?_
          rintro e w1 ⟨rfl, hb⟩
          replace HC := cellStep HC hb; replace HB := belStep HB hb
          have HG2 := Lib.hid (HG1.out.below hb)
          clear hb HG1
          go_wp2_with fail
          refine (atoi_yes F hFz v HV.out _).mono ?_
          rintro e w2 ⟨rfl, hb⟩
          replace HC := cellStep HC hb; replace HB := belStep HB hb
          have HG3 := Lib.hid (HG2.out.below hb)
          have hw2z := HC.out.lt
          clear hb HG2
          go_wp2_with fail
          refine (readList_any R _ hRz HG3.out).mono ?_
          rw [hRd]
          rintro e w3 ⟨A3, c3, rfl, o3, hb⟩
          replace HC := cellStep HC hb; replace HB := belStep HB hb
          rw [HRB.out, HRL.out]
          rw [HRL.out] at o3
          have HO3 := Lib.hid o3
          clear hb o3
          go_wp2_with fail
          have HX := boxNew (W := v) (c := c3) 28 HO3.out.ri
          replace HC := cellAlloc HC (.cells #[.int .i64 v, .slice A3 vs.length c3] 28)
          replace HB := belAlloc HB (.cells #[.int .i64 v, .slice A3 vs.length c3] 28)
          have HO4 := oiAlloc HO3 (.cells #[.int .i64 v, .slice A3 vs.length c3] 28)
          have x0 := HX.out.c0; have x1 := HX.out.c1; have xz := HX.out.lt
          refine (iLadderText_any v A3 vs.length c3 vs _ HX.out.ri hvl2).mono ?_
          unfold RetSB str
          rw [HLT.out, ← HTT.out, HLD.out]
          rintro e w5 ⟨rfl, hb⟩
          replace HC := cellStep HC hb; replace HB := belStep HB hb; replace HX := boxStep HX hb; replace HO4 := oiStep HO4 hb
          replace x0 := HX.out.c0; replace x1 := HX.out.c1; replace xz := HX.out.lt
          clear hb
          have k0 := HC.out.c0; have k1 := HC.out.c1; have f0 := HC.out.f0; have f1 := HC.out.f1; have hz := HC.out.lt
          have hz3 := HO3
          go_wp2
          rw [HY.out.u, HY.out.l, HY.out.b]
          exact bodyPost_ret (v := .tuple #[.agg #[.int .i64 v, .slice A3 vs.length c3], .bool true]) (by simp [results, Tryd.results11, go_sem, k0, k1]) rfl
            ⟨A3, c3, rfl, ((HO4.out.setBelow (p := ⟨w.heap.size, 0, none⟩) hw2z _).setBelow (p := ⟨w.heap.size, 1, none⟩) hw2z _).mono (Nat.le_of_lt hw2z), (HB.out.setCell (p := ⟨w.heap.size, 0, none⟩) (Nat.le_refl _) _).setCell (p := ⟨w.heap.size, 1, none⟩) (Nat.le_refl _) _⟩
        · have HNO := Lib.hid (resNo (res_no3 (by rw [← hf]; exact hv) (by rw [← hr]; exact hrl) (fun g => ht g.2)))
          have HLD := Lib.hid hl
          obtain ⟨t, htt⟩ : ∃ t, t = bs (textT v vs) := ⟨_, rfl⟩
          have hcmp : (t.toList == s.toList) = false := by
            rw [htt, ByteArray.toList_eq, ByteArray.toList_eq, beq_eq_false_iff_ne]
            intro e
            apply ht
            simpa [bs] using e
          have HTT := Lib.hid htt
          clear hv hf hr hrz hrl hl ht htt hvl
          go_enter Tryd.func11, Tryd.ntmps11
          go_wp2_with fail
          have HC := cellNew w (.int .i64 0) (.slice none 0 0) 28
          have HB := belAlloc (belRefl (w := w)) (.cells #[.int .i64 0, .slice none 0 0] 28)
          have HG1 := Lib.hid (hG.below ((Below.refl w.heap.size w).alloc (Nat.le_refl _) (.cells #[.int .i64 0, .slice none 0 0] 28)))
          refine (HCUT0.out _ HG1.out.m).mono ?_
          rintro e w1 ⟨rfl, hb⟩
          replace HC := cellStep HC hb; replace HB := belStep HB hb
          have HG2 := Lib.hid (HG1.out.below hb)
          clear hb HG1
          go_wp2_with fail
          refine (atoi_yes F hFz v HV.out _).mono ?_
          rintro e w2 ⟨rfl, hb⟩
          replace HC := cellStep HC hb; replace HB := belStep HB hb
          have HG3 := Lib.hid (HG2.out.below hb)
          clear hb HG2
          go_wp2_with fail
          refine (readList_any R _ hRz HG3.out).mono ?_
          rw [hRd]
          rintro e w3 ⟨A3, c3, rfl, o3, hb⟩
          replace HC := cellStep HC hb; replace HB := belStep HB hb
          rw [HRB.out, HRL.out]
          rw [HRL.out] at o3
          have HO3 := Lib.hid o3
          clear hb o3
          go_wp2_with fail
          have HX := boxNew (W := v) (c := c3) 28 HO3.out.ri
          replace HC := cellAlloc HC (.cells #[.int .i64 v, .slice A3 vs.length c3] 28)
          replace HB := belAlloc HB (.cells #[.int .i64 v, .slice A3 vs.length c3] 28)
          have HO4 := oiAlloc HO3 (.cells #[.int .i64 v, .slice A3 vs.length c3] 28)
          have x0 := HX.out.c0; have x1 := HX.out.c1; have xz := HX.out.lt
          refine (iLadderText_any v A3 vs.length c3 vs _ HX.out.ri hvl2).mono ?_
          unfold RetSB str
          rw [HLT.out, ← HTT.out, HLD.out]
          rintro e w5 ⟨rfl, hb⟩
          replace HC := cellStep HC hb; replace HB := belStep HB hb; replace HX := boxStep HX hb; replace HO4 := oiStep HO4 hb
          replace x0 := HX.out.c0; replace x1 := HX.out.c1; replace xz := HX.out.lt
          clear hb
          have k0 := HC.out.c0; have k1 := HC.out.c1; have f0 := HC.out.f0; have f1 := HC.out.f1; have hz := HC.out.lt
          go_wp2
          rw [HNO.out.u, HNO.out.l, HNO.out.b]
          exact bodyPost_ret (v := .tuple #[.agg #[.int .i64 0, .slice none 0 0], .bool false]) (by simp [results, Tryd.results11, go_sem, k0, k1]) rfl ⟨none, 0, rfl, OI.none_ _ _, (by repeat (first | exact Below.refl _ _ | exact HB.out | refine Below.setCell ?_ (by simp <;> omega) _ | refine Below.alloc ?_ (by simp <;> omega) _ | refine below_drewN ?_ _))⟩
      · have HNO := Lib.hid (resNo (res_no3 (by rw [← hf]; exact hv) (by rw [← hr]; exact hrl) (fun g => hl g.1)))
        have HLD : Hid (lad v vs = false) := by show _ = _; simpa using hl
        clear hv hf hr hrz hrl hl hvl
        go_enter Tryd.func11, Tryd.ntmps11
        go_wp2_with fail
        have HC := cellNew w (.int .i64 0) (.slice none 0 0) 28
        have HB := belAlloc (belRefl (w := w)) (.cells #[.int .i64 0, .slice none 0 0] 28)
        have HG1 := Lib.hid (hG.below ((Below.refl w.heap.size w).alloc (Nat.le_refl _) (.cells #[.int .i64 0, .slice none 0 0] 28)))
        refine (HCUT0.out _ HG1.out.m).mono ?_
        rintro e w1 ⟨rfl, hb⟩
        replace HC := cellStep HC hb; replace HB := belStep HB hb
        have HG2 := Lib.hid (HG1.out.below hb)
        clear hb HG1
        go_wp2_with fail
        refine (atoi_yes F hFz v HV.out _).mono ?_
        rintro e w2 ⟨rfl, hb⟩
        replace HC := cellStep HC hb; replace HB := belStep HB hb
        have HG3 := Lib.hid (HG2.out.below hb)
        clear hb HG2
        go_wp2_with fail
        refine (readList_any R _ hRz HG3.out).mono ?_
        rw [hRd]
        rintro e w3 ⟨A3, c3, rfl, o3, hb⟩
        replace HC := cellStep HC hb; replace HB := belStep HB hb
        rw [HRB.out, HRL.out]
        rw [HRL.out] at o3
        have HO3 := Lib.hid o3
        clear hb o3
        go_wp2_with fail
        have HX := boxNew (W := v) (c := c3) 28 HO3.out.ri
        replace HC := cellAlloc HC (.cells #[.int .i64 v, .slice A3 vs.length c3] 28)
        replace HB := belAlloc HB (.cells #[.int .i64 v, .slice A3 vs.length c3] 28)
        have HO4 := oiAlloc HO3 (.cells #[.int .i64 v, .slice A3 vs.length c3] 28)
        have x0 := HX.out.c0; have x1 := HX.out.c1; have xz := HX.out.lt
        refine (iLadderText_any v A3 vs.length c3 vs _ HX.out.ri hvl2).mono ?_
        unfold RetSB str
        rw [HLD.out]
        obtain ⟨t, htt⟩ : ∃ t, t = bs (textN v vs) := ⟨_, rfl⟩
        rw [← htt]
        clear htt
        rintro e w5 ⟨rfl, hb⟩
        replace HC := cellStep HC hb; replace HB := belStep HB hb; replace HX := boxStep HX hb
        replace x0 := HX.out.c0; replace x1 := HX.out.c1; replace xz := HX.out.lt
        clear hb
        have k0 := HC.out.c0; have k1 := HC.out.c1; have f0 := HC.out.f0; have f1 := HC.out.f1; have hz := HC.out.lt
        go_wp2
        rw [HNO.out.u, HNO.out.l, HNO.out.b]
        exact bodyPost_ret (v := .tuple #[.agg #[.int .i64 0, .slice none 0 0], .bool false]) (by simp [results, Tryd.results11, go_sem, k0, k1]) rfl ⟨none, 0, rfl, OI.none_ _ _, (by repeat (first | exact Below.refl _ _ | exact HB.out | refine Below.setCell ?_ (by simp <;> omega) _ | refine Below.alloc ?_ (by simp <;> omega) _ | refine below_drewN ?_ _))⟩
  · have HNO := Lib.hid (resNo (res_no1 (fun v h => hv ⟨v, by rw [hf]; exact h⟩)))
    have HV : Hid (∀ v, Lib.atoiAll F.data.toList ≠ .ok v) := fun v h => hv ⟨v, by rw [← hFd]; exact h⟩
    clear hv hf hr hrz
    go_enter Tryd.func11, Tryd.ntmps11
    go_wp2_with fail
    have HC := cellNew w (.int .i64 0) (.slice none 0 0) 28
    have HB := belAlloc (belRefl (w := w)) (.cells #[.int .i64 0, .slice none 0 0] 28)
    have HG1 := Lib.hid (hG.below ((Below.refl w.heap.size w).alloc (Nat.le_refl _) (.cells #[.int .i64 0, .slice none 0 0] 28)))
    refine (HCUT0.out _ HG1.out.m).mono ?_
    rintro e w1 ⟨rfl, hb⟩
    replace HC := cellStep HC hb; replace HB := belStep HB hb
    have HG2 := Lib.hid (HG1.out.below hb)
    clear hb HG1
    go_wp2_with fail
    refine (atoi_no F hFz HV.out _ HG2.out).mono ?_
    rintro e w2 ⟨x, N, rfl, hb⟩
    replace HC := cellStep HC hb; replace HB := belStep HB hb
    have HG3 := Lib.hid (HG2.out.below hb)
    clear hb HG2
    go_wp2_with fail
    refine (readList_any R _ hRz HG3.out).mono ?_
    rw [hRd]
    rintro e w3 ⟨A3, c3, rfl, o3, hb⟩
    replace HC := cellStep HC hb; replace HB := belStep HB hb
    clear hb o3
    have k0 := HC.out.c0; have k1 := HC.out.c1; have f0 := HC.out.f0; have f1 := HC.out.f1; have hz := HC.out.lt
    go_wp2
    rw [HNO.out.u, HNO.out.l, HNO.out.b]
    exact bodyPost_ret (v := .tuple #[.agg #[.int .i64 0, .slice none 0 0], .bool false]) (by simp [results, Tryd.results11, go_sem, k0, k1]) rfl ⟨none, 0, rfl, OI.none_ _ _, (by repeat (first | exact Below.refl _ _ | exact HB.out | refine Below.setCell ?_ (by simp <;> omega) _ | refine Below.alloc ?_ (by simp <;> omega) _ | refine below_drewN ?_ _))⟩
end Go.Proofs.YtndphbifnohmdaaDoor

/- The contract of MakeMove's model. -/
import Derived.Test.YtnogmbhcphglkaaDoorMm2
import Derived.Deep.RegionHeld3
namespace Go.Proofs.YtnogmbhcphglkaaDoor
open Go Go.RowKit

def mmq (W : Int) (zs : List Int) (l : List UInt8) : Bool := lad W zs && (txO zs l).isSome
def mml (zs : List Int) (l : List UInt8) : List Int := (txO zs l).getD []
theorem mmq_none {W : Int} {zs : List Int} {l : List UInt8} (h : txO zs l = none) : mmq W zs l = false := by unfold mmq; rw [h]; simp
theorem mmq_lad {W : Int} {zs : List Int} {l : List UInt8} (h : lad W zs = false) : mmq W zs l = false := by unfold mmq; rw [h]; rfl

set_option maxRecDepth 100000 in
set_option maxHeartbeats 1000000 in
/-- fails at once -/
theorem sMakeMove_no1 (W : Int) (A : Option Addr) (n c : Nat) (zs : List Int) (s : ByteArray) (w : World) (h : RI w A n zs) (hn : n ≤ 1048576) (hs : s.size ≤ 1048576) (hno : lad W zs = false ∨ s.size < 2 ∨ 3 < s.size) :
    Calls Tryd.prog 15 #[.agg #[.int .i64 W, .slice A n c], .string s] w (FreshLB w 0 0 [] false) := by
  have HB := belAlloc (belAlloc (belRefl (w := w)) (.cells #[.int .i64 W, .slice A n c] 29)) (.cells #[.int .i64 0, .slice none 0 0] 29)
  have HC : Hid (Cell2 ((w.alloc (.cells #[.int .i64 W, .slice A n c] 29)).alloc (.cells #[.int .i64 0, .slice none 0 0] 29)) (w.heap.size + 1) (.int .i64 0) (.slice none 0 0)) := by have := cellNew (w.alloc (.cells #[.int .i64 W, .slice A n c] 29)) (.int .i64 0) (.slice none 0 0) 29; simp only [World.size_alloc] at this; exact this
  have HA := boxAlloc (boxNew (W := W) (c := c) 29 h) (.cells #[.int .i64 0, .slice none 0 0] 29)
  have hl := h.1
  clear h
  obtain ⟨q, hq⟩ : ∃ q, q = lad W zs := ⟨_, rfl⟩
  rw [← hq] at hno
  have HW := Lib.hid hq
  clear hq
  have hcase : q = false ∨ (q = true ∧ (s.size : Int) < 2) ∨ (q = true ∧ ¬ (s.size : Int) < 2 ∧ 3 < (s.size : Int)) := by
    cases q
    · exact .inl rfl
    · right
      simp only [Bool.true_eq_false, false_or] at hno
      rcases Nat.lt_or_ge s.size 2 with h | h
      · exact .inl ⟨rfl, by omega⟩
      · exact .inr ⟨rfl, by omega, by omega⟩
  clear hno
  rcases hcase with rfl | ⟨rfl, i1⟩ | ⟨rfl, i1, i2⟩
  all_goals
    go_enter Tryd.func15, Tryd.ntmps15
    go_wp2_with fail
    refine (laGood_any W A n c zs _ HA.out.ri hn).mono ?_
    rw [← HW.out]
    rintro e w1 ⟨rfl, hb⟩
    replace HB := belStep HB hb
    replace HC := cellStep HC hb
    have k0 := HC.out.c0; have k1 := HC.out.c1; have f0 := HC.out.f0; have f1 := HC.out.f1; have hz := HC.out.lt
    clear hb
    go_wp2
    exact bodyPost_ret (v := .tuple #[.agg #[.int .i64 0, .slice none 0 0], .bool false]) (by simp [results, Tryd.results15, go_sem, k0, k1]) rfl ⟨none, 0, rfl, OI.none_ _ _, (by repeat (first | exact Below.refl _ _ | exact HB.out | refine Below.setCell ?_ (by simp <;> omega) _ | refine Below.alloc ?_ (by simp <;> omega) _ | refine below_drewN ?_ _))⟩

set_option maxRecDepth 100000 in
set_option maxHeartbeats 1000000 in
theorem sMakeMove_yes (W : Int) (A : Option Addr) (n c : Nat) (zs : List Int) (s : ByteArray) (k : UInt8) (ds : List UInt8) (w : World) (h : RI w A n zs) (hn : n ≤ 1048576) (hnc : n ≤ c) (hq : lad W zs = true) (hs : s.data.toList = k :: ds) (hd1 : 1 ≤ ds.length) (hd2 : ds.length ≤ 2) :
    Calls Tryd.prog 15 #[.agg #[.int .i64 W, .slice A n c], .string s] w (FreshLB w (ifW (mmq W zs (k :: ds)) W) (ifL (mmq W zs (k :: ds)) (mml zs (k :: ds))).length (ifL (mmq W zs (k :: ds)) (mml zs (k :: ds))) (mmq W zs (k :: ds))) := by
  have HB := belAlloc (belAlloc (belRefl (w := w)) (.cells #[.int .i64 W, .slice A n c] 29)) (.cells #[.int .i64 0, .slice none 0 0] 29)
  have HC : Hid (Cell2 ((w.alloc (.cells #[.int .i64 W, .slice A n c] 29)).alloc (.cells #[.int .i64 0, .slice none 0 0] 29)) (w.heap.size + 1) (.int .i64 0) (.slice none 0 0)) := by have := cellNew (w.alloc (.cells #[.int .i64 W, .slice A n c] 29)) (.int .i64 0) (.slice none 0 0) 29; simp only [World.size_alloc] at this; exact this
  have HA := boxAlloc (boxNew (W := W) (c := c) 29 h) (.cells #[.int .i64 0, .slice none 0 0] 29)
  have hl := h.1
  clear h
  have hsz : s.size = ds.length + 1 := by
    show s.data.size = _
    rw [← Array.length_toList, hs]; rfl
  have HW := Lib.hid hq
  have HS := Lib.hid hs
  have HSZ := Lib.hid hsz
  have i1 : ¬ (s.size : Int) < 2 := by omega
  have i2 : ¬ 3 < (s.size : Int) := by omega
  clear hq hs hsz
  obtain ⟨q, hqq⟩ : ∃ q, q = mmq W zs (k :: ds) := ⟨_, rfl⟩
  rw [← hqq]
  obtain ⟨V, hVV⟩ : ∃ V, V = ifW q W := ⟨_, rfl⟩
  obtain ⟨ys, hys⟩ : ∃ ys, ys = ifL q (mml zs (k :: ds)) := ⟨_, rfl⟩
  rw [← hVV, ← hys]
  obtain ⟨M, hMM⟩ : ∃ M, M = ys.length := ⟨_, rfl⟩
  rw [← hMM]
  have HF : Hid (txO zs (k :: ds) = none → V = 0 ∧ M = 0 ∧ ys = [] ∧ q = false) := fun h => by
    have e := mmq_none (W := W) h
    rw [e] at hqq
    subst hqq
    rw [ifL_no] at hys
    subst hys
    exact ⟨hVV, hMM, rfl, rfl⟩
  have HY : Hid (∀ x, txO zs (k :: ds) = mvO zs k x → V = ifW (mmQ W zs k x) W ∧ M = (ifL (mmQ W zs k x) ((mvO zs k x).getD [])).length ∧ ys = ifL (mmQ W zs k x) ((mvO zs k x).getD []) ∧ q = mmQ W zs k x) := fun x h => by
    have e : mmq W zs (k :: ds) = mmQ W zs k x := by unfold mmq mmQ; rw [h]
    have e2 : mml zs (k :: ds) = (mvO zs k x).getD [] := by unfold mml; rw [h]
    rw [e2] at hys
    rw [e] at hqq
    subst hqq hVV hys hMM
    exact ⟨rfl, rfl, rfl, rfl⟩
  clear hqq hVV hys hMM
  go_enter Tryd.func15, Tryd.ntmps15
  go_wp2_with fail
  refine (laGood_any W A n c zs _ HA.out.ri hn).mono ?_
  rw [HW.out]
  rintro e w1 ⟨rfl, hb⟩
  replace HA := boxStep HA hb
  replace HB := belStep HB hb
  replace HC := cellStep HC hb
  have a0 := HA.out.c0; have a1 := HA.out.c1; have az := HA.out.lt
  have k0 := HC.out.c0; have k1 := HC.out.c1; have f0 := HC.out.f0; have f1 := HC.out.f1; have hz := HC.out.lt
  clear hb
  go_wp2
  go_loop [6, 7] (fun a i => ∃ (m : Nat) (v : Int), 1 ≤ m ∧ m ≤ s.size ∧ i = .int .i64 (m : Int) ∧ a = .int .i64 v ∧ v = vD (ds.take (m - 1)) ∧ aD (ds.take (m - 1)) ∧ 0 ≤ v ∧ v ≤ 99 ∧ (m = 1 → v = 0) ∧ (m = 2 → v ≤ 9)) (fun _ i => s.size - (intOf i).toNat)
  case atStart => exact ⟨1, 0, by omega, by omega, rfl, rfl, rfl, (fun c hc => by cases hc), by omega, by omega, fun _ => rfl, (fun h => by cases h)⟩
  case round =>
    obtain ⟨m, v, hm1, hm, rfl, rfl, hv, hd, hv0, hv1, hv2, hv3⟩ := hrel
    by_cases hlt : m < s.size
    · have hlen := HSZ.out
      have hc : ∃ c : UInt8, c = s[m] := ⟨_, rfl⟩
      obtain ⟨c, hc⟩ := hc
      have hcd : ds[m - 1]? = some c := by
        have h1 : s.data.toList[m]? = some c := by
          rw [hc, List.getElem?_eq_getElem (by rw [Array.length_toList]; exact hlt)]; rfl
        rw [HS.out] at h1
        obtain ⟨j, rfl⟩ : ∃ j, m = j + 1 := ⟨m - 1, by omega⟩
        simpa using h1
      have hv9 : v ≤ 9 := by
        rcases Nat.lt_or_ge m 2 with h | h
        · have := hv2 (by omega); omega
        · exact hv3 (by omega)
      have hts : ds.take m = ds.take (m - 1) ++ [c] := by
        obtain ⟨j, rfl⟩ : ∃ j, m = j + 1 := ⟨m - 1, by omega⟩
        rw [Nat.add_sub_cancel] at hcd ⊢
        obtain ⟨hj, e⟩ := List.getElem?_eq_some_iff.1 hcd
        rw [List.take_succ_eq_append_getElem hj, e]
      have HT := Lib.hid hts
      have HV := Lib.hid hv
      have HD := Lib.hid hd
      have HV2 := Lib.hid hv2
      have HCD := Lib.hid (List.mem_of_getElem? hcd)
      have HCC := Lib.hid hc
      have HN : Hid (¬ (48 ≤ c.toNat ∧ c.toNat ≤ 57) → txO zs (k :: ds) = none) := fun hno => txO_dig fun hall => hno (hall c HCD.out)
      clear hv hd hv2 hv3 hts hcd hc hlen
      by_cases g1 : (s[m].toNat : Int) < 48
      · obtain ⟨rfl, rfl, rfl, rfl⟩ := HF.out (HN.out (by rw [HCC.out]; omega))
        go_wp2
        exact bodyPost_ret (v := .tuple #[.agg #[.int .i64 0, .slice none 0 0], .bool false]) (by simp [results, Tryd.results15, go_sem, k0, k1]) rfl ⟨none, 0, rfl, OI.none_ _ _, (by repeat (first | exact Below.refl _ _ | exact HB.out | refine Below.setCell ?_ (by simp <;> omega) _ | refine Below.alloc ?_ (by simp <;> omega) _ | refine below_drewN ?_ _))⟩
      · by_cases g2 : 57 < (s[m].toNat : Int)
        · obtain ⟨rfl, rfl, rfl, rfl⟩ := HF.out (HN.out (by rw [HCC.out]; omega))
          go_wp2
          exact bodyPost_ret (v := .tuple #[.agg #[.int .i64 0, .slice none 0 0], .bool false]) (by simp [results, Tryd.results15, go_sem, k0, k1]) rfl ⟨none, 0, rfl, OI.none_ _ _, (by repeat (first | exact Below.refl _ _ | exact HB.out | refine Below.setCell ?_ (by simp <;> omega) _ | refine Below.alloc ?_ (by simp <;> omega) _ | refine below_drewN ?_ _))⟩
        · go_wp2
          go_round
          case rel =>
            refine ⟨m + 1, 10 * v + ((s[m].toNat : Int) - 48), by omega, by omega, by go_num, by go_num, ?_, ?_, by omega, by omega, (fun h => by omega), (fun h => ?_)⟩
            · rw [Nat.add_sub_cancel, HT.out, vD_snoc, ← HV.out, HCC.out]
            · rw [Nat.add_sub_cancel, HT.out]
              intro x hx
              rw [List.mem_append, List.mem_singleton] at hx
              rcases hx with hx | rfl
              · exact HD.out x hx
              · rw [HCC.out]; omega
            · have := HV2.out (by omega)
              omega
          case measure => simp [intOf]; omega
    · have hds : ds.take (m - 1) = ds := List.take_of_length_le (by have := HSZ.out; omega)
      rw [hds] at hv hd
      obtain ⟨x, rfl⟩ : ∃ x : Nat, v = (x : Int) := ⟨v.toNat, by omega⟩
      have hx : x < 100 := by omega
      obtain ⟨u, hu⟩ : ∃ u, u = bs (numT (x : Int)) := ⟨_, rfl⟩
      have HU : Hid (∀ w, Calls Tryd.prog 33 #[.int .i64 (x : Int)] w (fun e w' => e = .returned (.string u) ∧ Below w.heap.size w w')) := fun w => by
        rw [hu]
        exact l1Num_hund x w hx
      have hex : s.extract 1 s.size = bs ds := by
        apply ByteArray.ext
        apply Array.toList_inj.1
        rw [ByteArray.data_extract, Array.toList_extract, HS.out]
        have := HSZ.out
        simp [bs, List.extract, this]
      have hne : (u.toList == (s.extract 1 s.size).toList) = decide (numT (x : Int) = ds) := by
        rw [hex, hu, ByteArray.toList_eq, ByteArray.toList_eq]
        show (numT (x : Int) == ds) = _
        by_cases h : numT (x : Int) = ds
        · rw [h, decide_eq_true rfl]; exact beq_self_eq_true _
        · rw [decide_eq_false h, beq_eq_false_iff_ne]; exact h
      have HV := Lib.hid hv
      clear hv hd hv2 hv3 hds hu hex
      by_cases hdx : numT (x : Int) = ds
      · rw [decide_eq_true hdx] at hne
        have hmm : txO zs (k :: ds) = mvO zs k x := by rw [← hdx]; exact txO_at hx
        obtain ⟨eV, eM, ey, eq⟩ := HY.out x hmm
        have hs0 : 0 < s.size := by omega
        have hk : s[0] = k := by
          have h1 : s.data.toList[0]? = some k := by rw [HS.out]; rfl
          rw [List.getElem?_eq_getElem (by rw [Array.length_toList]; exact hs0)] at h1
          exact Option.some.inj h1
        have HM : Hid (∀ w, RI w A n zs → Calls Tryd.prog 34 #[.agg #[.int .i64 W, .slice A n c], .int .u8 (s[0].toNat : Int), .int .i64 (x : Int)] w
            (FreshLB w V M ys q)) := fun w h => by
          rw [hk, eV, eM, ey, eq]; exact lsMake_all W A n c zs k x w h hn hnc
        clear hmm hdx hk eV eM ey eq
        have e0 : (u.toList == (s.extract 1 s.size).toList) = true := hne
        clear hne
        go_upto_region 10 with fail
        go_region_with ((go_at_call 33; refine (HU.out _).mono ?_; rintro e w3 ⟨rfl, hb⟩; have b3 : Hid (Below w1.heap.size w1 w3) := (by first | exact Lib.hid hb | exact Lib.hid ((Below.refl w1.heap.size w1).drew.trans hb) | exact Lib.hid ((Below.refl w1.heap.size w1).drew.drew.trans hb)); clear hb; have HA3 := boxStep HA b3.out; have HB := belStep HB b3.out; have HC3 := cellStep HC b3.out; have a0 := HA3.out.c0; have a1 := HA3.out.c1; have k0 := HC3.out.c0; have k1 := HC3.out.c1; have f0 := HC3.out.f0; have f1 := HC3.out.f1; have hz3 := HC3.out.lt))
        all_goals (go_wp2_with fail)
        all_goals (go_region_with ((go_at_call 34; refine (HM.out _ (by first | exact HA3.out.ri | exact (boxDrew HA3).out.ri | exact (boxDrew (boxDrew HA3)).out.ri)).mono ?_; rintro e w4 ⟨A4, c4, rfl, o4, hb⟩; have b4 : Hid (Below w3.heap.size w3 w4) := (by first | exact Lib.hid hb | exact Lib.hid ((Below.refl w3.heap.size w3).drew.trans hb) | exact Lib.hid ((Below.refl w3.heap.size w3).drew.drew.trans hb)); have O4 : Hid (OI w4 w3.heap.size A4 M c4 ys) := Lib.hid o4; clear o4 hb; have HB := belStep HB b4.out; have HC4 := cellStep HC3 b4.out; have k0 := HC4.out.c0; have k1 := HC4.out.c1; have f0 := HC4.out.f0; have f1 := HC4.out.f1; have hz4 := HC4.out.lt)))
        all_goals (go_wp2_with fail)
        all_goals exact bodyPost_ret (v := .tuple #[.agg #[.int .i64 V, .slice A4 M c4], .bool q]) (by simp [results, Tryd.results15, go_sem, k0, k1]) rfl ⟨A4, c4, rfl, ((O4.out.setBelow (show w.heap.size + 1 < w3.heap.size by omega) _).setBelow (show w.heap.size + 1 < w3.heap.size by omega) _).mono (B' := w.heap.size) (by omega), (by repeat (first | exact Below.refl _ _ | exact HB.out | refine Below.setCell ?_ (by simp <;> omega) _ | refine Below.alloc ?_ (by simp <;> omega) _ | refine below_drewN ?_ _))⟩
      · rw [decide_eq_false hdx] at hne
        obtain ⟨rfl, rfl, rfl, rfl⟩ := HF.out (txO_num (zs := zs) (k := k) HV.out.symm hdx)
        clear hdx
        have e0 : (u.toList == (s.extract 1 s.size).toList) = false := hne
        clear hne
        go_upto_region 10 with fail
        go_region_with ((go_at_call 33; refine (HU.out _).mono ?_; rintro e w3 ⟨rfl, hb⟩; have b3 : Hid (Below w1.heap.size w1 w3) := (by first | exact Lib.hid hb | exact Lib.hid ((Below.refl w1.heap.size w1).drew.trans hb) | exact Lib.hid ((Below.refl w1.heap.size w1).drew.drew.trans hb)); clear hb; have HA3 := boxStep HA b3.out; have HB := belStep HB b3.out; have HC3 := cellStep HC b3.out; have a0 := HA3.out.c0; have a1 := HA3.out.c1; have k0 := HC3.out.c0; have k1 := HC3.out.c1; have f0 := HC3.out.f0; have f1 := HC3.out.f1; have hz3 := HC3.out.lt))
        all_goals (go_wp2_with fail)
        all_goals exact bodyPost_ret (v := .tuple #[.agg #[.int .i64 0, .slice none 0 0], .bool false]) (by simp [results, Tryd.results15, go_sem, k0, k1]) rfl ⟨none, 0, rfl, OI.none_ _ _, (by repeat (first | exact Below.refl _ _ | exact HB.out | refine Below.setCell ?_ (by simp <;> omega) _ | refine Below.alloc ?_ (by simp <;> omega) _ | refine below_drewN ?_ _))⟩
theorem sMakeMove_any (W : Int) (A : Option Addr) (n c : Nat) (zs : List Int) (s : ByteArray) (w : World) (h : RI w A n zs) (hn : n ≤ 1048576) (hnc : n ≤ c) (hs : s.size ≤ 1048576) :
    Calls Tryd.prog 15 #[.agg #[.int .i64 W, .slice A n c], .string s] w (FreshLB w (ifW (mmq W zs s.data.toList) W) (ifL (mmq W zs s.data.toList) (mml zs s.data.toList)).length (ifL (mmq W zs s.data.toList) (mml zs s.data.toList)) (mmq W zs s.data.toList)) := by
  have hz : s.size = s.data.toList.length := by rw [Array.length_toList]; rfl
  by_cases hno : lad W zs = false ∨ s.size < 2 ∨ 3 < s.size
  · have e : mmq W zs s.data.toList = false := by
      rcases hno with h1 | h1
      · exact mmq_lad h1
      · exact mmq_none (txO_short (by omega))
    rw [e, ifW_no, ifL_no]
    exact sMakeMove_no1 W A n c zs s w h hn hs hno
  · have hq : lad W zs = true := by
      cases hl : lad W zs with
      | false => exact absurd (.inl hl) hno
      | true => rfl
    have h2 : ¬ s.size < 2 := fun h => hno (.inr (.inl h))
    have h3 : ¬ 3 < s.size := fun h => hno (.inr (.inr h))
    obtain ⟨l, hl⟩ : ∃ l, l = s.data.toList := ⟨_, rfl⟩
    rw [← hl] at hz ⊢
    cases l with
    | nil => exact absurd (show s.size = 0 from hz) (by omega)
    | cons k ds =>
      simp only [List.length_cons] at hz
      exact sMakeMove_yes W A n c zs s k ds w h hn hnc hq hl.symm (by omega) (by omega)
end Go.Proofs.YtnogmbhcphglkaaDoor

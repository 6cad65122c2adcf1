/- The contract of the program's MakeMove. -/
import Derived.Test.YtnogmbhcphglkaaDoorMm3
import Derived.Test.YtnogmbhcphglkaaDoorMm4
import Derived.Deep.RegionHeld3
import Derived.Laws.EntriesVeiled
namespace Go.Proofs.YtnogmbhcphglkaaDoor
open Go Go.RowKit

set_option maxRecDepth 100000 in
set_option maxHeartbeats 1000000 in
theorem iMakeMove_no1 (W : Int) (A : Option Addr) (n c : Nat) (zs : List Int) (s : ByteArray) (w : World) (h : RI w A n zs) (hn : n ≤ 1048576) (hq : lad W zs = false) :
    Calls Tryd.prog 16 #[.agg #[.int .i64 W, .slice A n c], .string s] w (FreshLB w 0 0 [] false) := by
  have HB := belAlloc (belAlloc (belRefl (w := w)) (.cells #[.int .i64 W, .slice A n c] 29)) (.cells #[.int .i64 0, .slice none 0 0] 29)
  have HC : Hid (Cell2 ((w.alloc (.cells #[.int .i64 W, .slice A n c] 29)).alloc (.cells #[.int .i64 0, .slice none 0 0] 29)) (w.heap.size + 1) (.int .i64 0) (.slice none 0 0)) := by have := cellNew (w.alloc (.cells #[.int .i64 W, .slice A n c] 29)) (.int .i64 0) (.slice none 0 0) 29; simp only [World.size_alloc] at this; exact this
  have HA := boxAlloc (boxNew (W := W) (c := c) 29 h) (.cells #[.int .i64 0, .slice none 0 0] 29)
  have hl := h.1
  clear h
  have HW := Lib.hid hq
  clear hq
  go_enter Tryd.func16, Tryd.ntmps16
  go_wp2_with fail
  refine (iIsLadder_any W A n c zs _ HA.out.ri hn).mono ?_
  rw [HW.out]
  rintro e w1 ⟨rfl, hb⟩
  replace HB := belStep HB hb
  replace HC := cellStep HC hb
  have k0 := HC.out.c0; have k1 := HC.out.c1; have f0 := HC.out.f0; have f1 := HC.out.f1; have hz := HC.out.lt
  clear hb
  go_wp2
  exact bodyPost_ret (v := .tuple #[.agg #[.int .i64 0, .slice none 0 0], .bool false]) (by simp [results, Tryd.results16, go_sem, k0, k1]) rfl ⟨none, 0, rfl, OI.none_ _ _, (by repeat (first | exact Below.refl _ _ | exact HB.out | refine Below.setCell ?_ (by simp <;> omega) _ | refine Below.alloc ?_ (by simp <;> omega) _ | refine below_drewN ?_ _))⟩

set_option maxRecDepth 100000 in
set_option maxHeartbeats 1000000 in
theorem iMakeMove_yes (W : Int) (A : Option Addr) (n c : Nat) (zs : List Int) (s : ByteArray) (l : List UInt8) (w : World) (h : RI w A n zs) (hn : n ≤ 60) (hnc : n ≤ c) (hq : lad W zs = true) (hs : s.data.toList = l) :
    Calls Tryd.prog 16 #[.agg #[.int .i64 W, .slice A n c], .string s] w (FreshLB w (ifW (mmq W zs l) W) (ifL (mmq W zs l) (mml zs l)).length (ifL (mmq W zs l) (mml zs l)) (mmq W zs l)) := by
  have HB := belAlloc (belAlloc (belRefl (w := w)) (.cells #[.int .i64 W, .slice A n c] 29)) (.cells #[.int .i64 0, .slice none 0 0] 29)
  have HC : Hid (Cell2 ((w.alloc (.cells #[.int .i64 W, .slice A n c] 29)).alloc (.cells #[.int .i64 0, .slice none 0 0] 29)) (w.heap.size + 1) (.int .i64 0) (.slice none 0 0)) := by have := cellNew (w.alloc (.cells #[.int .i64 W, .slice A n c] 29)) (.int .i64 0) (.slice none 0 0) 29; simp only [World.size_alloc] at this; exact this
  have HA := boxAlloc (boxNew (W := W) (c := c) 29 h) (.cells #[.int .i64 0, .slice none 0 0] 29)
  have hzl : zs.length = n := h.1
  clear h
  have HW := Lib.hid hq
  have HS := Lib.hid hs
  have HZL := Lib.hid hzl
  clear hq hs hzl
  obtain ⟨q, hqq⟩ : ∃ q, q = mmq W zs l := ⟨_, rfl⟩
  rw [← hqq]
  obtain ⟨V, hVV⟩ : ∃ V, V = ifW q W := ⟨_, rfl⟩
  obtain ⟨ys, hys⟩ : ∃ ys, ys = ifL q (mml zs l) := ⟨_, rfl⟩
  rw [← hVV, ← hys]
  obtain ⟨M, hMM⟩ : ∃ M, M = ys.length := ⟨_, rfl⟩
  rw [← hMM]
  have HF : Hid ((∀ k, k < 3 → ∀ a, a < n → l ≠ kb k :: numT (a : Int)) → V = 0 ∧ M = 0 ∧ ys = [] ∧ q = false) := fun h => by
    have e := mmq_none (W := W) (zs := zs) (l := l) (txO_no fun k a ha h1 hk => by
      rcases hk with rfl | rfl | rfl
      · exact h 0 (by omega) a (by rw [← HZL.out]; exact ha)
      · exact h 1 (by omega) a (by rw [← HZL.out]; exact ha)
      · exact h 2 (by omega) a (by rw [← HZL.out]; exact ha))
    rw [e] at hqq
    subst hqq
    rw [ifL_no] at hys
    subst hys
    exact ⟨hVV, hMM, rfl, rfl⟩
  have HY : Hid (∀ k x : Nat, k < 3 → x < n → l = kb k :: numT (x : Int) → ∀ (A : Option Addr) (w : World), RI w A n zs → Calls Tryd.prog 35 #[.agg #[.int .i64 W, .slice A n c], .int .i64 (x : Int), kv k] w (FreshLB w V M ys q)) := fun k x hk hx h A w hri => by
    have ht := txO_at (zs := zs) (k := kb k) (a := x) (by omega)
    rw [← h] at ht
    have e : mmq W zs l = mmQ W zs (kb k) x := by unfold mmq mmQ; rw [ht]
    have e2 : mml zs l = (mvO zs (kb k) x).getD [] := by unfold mml; rw [ht]
    rw [e2] at hys
    rw [e] at hqq
    subst hqq hVV hys hMM
    exact moved_all W A n c zs k x w hk hri (by omega) hnc
  clear hqq hVV hys hMM
  go_enter Tryd.func16, Tryd.ntmps16
  go_wp2_with fail
  refine (iIsLadder_any W A n c zs _ HA.out.ri (by omega)).mono ?_
  rw [HW.out]
  rintro e w1 ⟨rfl, hb⟩
  replace HA := boxStep HA hb
  replace HB := belStep HB hb
  replace HC := cellStep HC hb
  clear hb
  go_wp2_with fail
  refine (moveKinds_any _).mono ?_
  rintro e w2 ⟨g, rfl, hg1, hg2, hK, hb⟩
  replace HA := boxStep HA hb
  replace HB := belStep HB hb
  replace HC := cellStep HC hb
  have HK := Lib.hid hK
  clear hb hK
  go_wp2
  go_loopw [15] (fun i wr => ∃ k : Nat, k ≤ 3 ∧ i = .int .i64 (k : Int) ∧ (∀ k', k' < k → ∀ a, a < n → l ≠ kb k' :: numT (a : Int)) ∧ Below w2.heap.size w2 wr) (fun i _ => 3 - (intOf i).toNat)
  case atStart => exact ⟨0, by omega, rfl, (fun k hk => by omega), Below.refl _ _⟩
  case round =>
    obtain ⟨k, hk, rfl, hno, hb⟩ := hrel
    obtain ⟨wo, hwo⟩ : ∃ wo, wo = wr := ⟨_, rfl⟩
    subst hwo
    have HN := Lib.hid hno
    replace HA := boxStep HA hb
    replace HB := belStep HB hb
    replace HC := cellStep HC hb
    have HBX := Lib.hid hb
    clear hno hb
    have a0 := HA.out.c0; have a1 := HA.out.c1; have az := HA.out.lt
    by_cases hlt : k < 3
    · have hk0 : wo.cell? ⟨g, k * 2, none⟩ = some (.string ⟨#[kb k]⟩) := (HBX.out.cell (p := ⟨g, k * 2, none⟩) hg2).trans (HK.out k hlt).1
      have hk1 : wo.cell? ⟨g, k * 2 + 1, none⟩ = some (kv k) := (HBX.out.cell (p := ⟨g, k * 2 + 1, none⟩) hg2).trans (HK.out k hlt).2
      obtain ⟨b, hb⟩ : ∃ b, b = kb k := ⟨_, rfl⟩
      obtain ⟨f, hf⟩ : ∃ f, f = kf k := ⟨_, rfl⟩
      have hv : (.func (.func f) #[] #[] : Value) = kv k := by rw [hf]; rfl
      rw [← hb] at hk0
      rw [← hv] at hk1
      have HT : Hid (∀ (a : Nat) (w : World), a < n → Calls Tryd.prog 29 #[.agg #[.string ⟨#[b]⟩, .func (.func f) #[] #[]], .int .i64 (a : Int)] w (fun e w' => e = .returned (.string (bs (b :: numT (a : Int)))) ∧ Below w.heap.size w w')) := fun a w ha => by
        rw [hb, hv]; exact textAt_any k a w (by omega)
      have HY2 : Hid (∀ x : Nat, x < n → l = b :: numT (x : Int) → ∀ (A : Option Addr) (w : World), RI w A n zs → Calls Tryd.prog 35 #[.agg #[.int .i64 W, .slice A n c], .int .i64 (x : Int), .func (.func f) #[] #[]] w (FreshLB w V M ys q)) := fun x hx h A w hri => by
        rw [hv]; rw [hb] at h; exact HY.out k x hlt hx h A w hri
      have HNB : Hid ((∀ a, a < n → l ≠ b :: numT (a : Int)) → ∀ k', k' < k + 1 → ∀ a, a < n → l ≠ kb k' :: numT (a : Int)) := fun h k' hk' a ha => by
        by_cases hkk : k' = k
        · subst hkk; rw [← hb]; exact h a ha
        · exact HN.out k' (by omega) a ha
      clear hb hf hv
      go_wp2
      rw [show decide ((k : Int) < 3) = true from decide_eq_true (by omega)]
      go_loopw [22] (fun i wq => ∃ j : Nat, j ≤ n ∧ i = .int .i64 (j : Int) ∧ (∀ a, a < j → l ≠ b :: numT (a : Int)) ∧ Below (wo.heap.size + 1) (wo.alloc (.cells #[.string ⟨#[b]⟩, .func (.func f) #[] #[]] 52)) wq) (fun i _ => n - (intOf i).toNat)
      case atStart => exact ⟨0, by omega, rfl, (fun a ha => by omega), Below.refl _ _⟩
      case round =>
        obtain ⟨j, hj, rfl, hnj, hb⟩ := hrel
        have HNJ := Lib.hid hnj
        have HQB := Lib.hid hb
        have hbo : Below wo.heap.size wo wr := ((Below.refl wo.heap.size wo).alloc (Nat.le_refl _) _).trans (hb.mono (Nat.le_succ _))
        have c0 : wr.cell? ⟨wo.heap.size, 0, none⟩ = some (.string ⟨#[b]⟩) := (hb.cell (p := ⟨wo.heap.size, 0, none⟩) (Nat.lt_succ_self _)).trans (by simp)
        have c1 : wr.cell? ⟨wo.heap.size, 1, none⟩ = some (.func (.func f) #[] #[]) := (hb.cell (p := ⟨wo.heap.size, 1, none⟩) (Nat.lt_succ_self _)).trans (by simp)
        replace HA := boxStep HA hbo
        replace HB := belStep HB hbo
        replace HC := cellStep HC hbo
        have HBO := Lib.hid hbo
        have HLT := Lib.hid hlt
        clear hnj hb hbo a0 a1 az hk0 hk1 hlt
        have a0 := HA.out.c0; have a1 := HA.out.c1; have az := HA.out.lt
        by_cases hjn : j < n
        · go_wp2_with fail
          refine (HT.out j _ hjn).mono ?_
          rintro e w5 ⟨rfl, hb⟩
          have HQ5 : Hid (Below (wo.heap.size + 1) (wo.alloc (.cells #[.string ⟨#[b]⟩, .func (.func f) #[] #[]] 52)) w5) := Lib.hid (HQB.out.trans (hb.mono (by have := HQB.out.size; simp at this; omega)))
          replace HA := boxStep HA hb
          replace HB := belStep HB hb
          replace HC := cellStep HC hb
          have hlw : wo.heap.size < wr.heap.size := by have := HQB.out.size; simp at this; omega
          replace c0 := (hb.cell (p := ⟨wo.heap.size, 0, none⟩) hlw).trans c0
          replace c1 := (hb.cell (p := ⟨wo.heap.size, 1, none⟩) hlw).trans c1
          clear hb a0 a1 az
          have a0 := HA.out.c0; have a1 := HA.out.c1; have az := HA.out.lt
          obtain ⟨u, hu⟩ : ∃ u, u = bs (b :: numT (j : Int)) := ⟨_, rfl⟩
          have hcmp : (u.toList == s.toList) = decide (l = b :: numT (j : Int)) := by
            rw [hu, ByteArray.toList_eq, ByteArray.toList_eq, HS.out]
            show (b :: numT (j : Int) == l) = _
            by_cases h : l = b :: numT (j : Int)
            · rw [decide_eq_true h, beq_iff_eq]; exact h.symm
            · rw [decide_eq_false h, beq_eq_false_iff_ne]; exact fun e => h e.symm
          rw [← hu]
          clear hu
          by_cases he : l = b :: numT (j : Int)
          · rw [decide_eq_true he] at hcmp
            have HYJ := Lib.hid (HY2.out j hjn he)
            clear he
            go_wp2_with fail
            refine (HYJ.out A _ HA.out.ri).mono ?_
            rintro e w6 ⟨A6, c6, rfl, o6, hb⟩
            replace HB := belStep HB hb
            have hz5 := HC.out.lt
            replace HC := cellStep HC hb
            have O6 := Lib.hid o6
            clear hb o6 a0 a1 c0 c1
            have k0 := HC.out.c0; have k1 := HC.out.c1; have f0 := HC.out.f0; have f1 := HC.out.f1; have hz := HC.out.lt
            have hw5 := HB.out.size
            go_wp2
            exact bodyPost_ret (v := .tuple #[.agg #[.int .i64 V, .slice A6 M c6], .bool q]) (by simp [results, Tryd.results16, go_sem, k0, k1]) rfl ⟨A6, c6, rfl, ((O6.out.setBelow (p := ⟨w.heap.size + 1, 0, none⟩) (show w.heap.size + 1 < w5.heap.size by omega) _).setBelow (p := ⟨w.heap.size + 1, 1, none⟩) (show w.heap.size + 1 < w5.heap.size by omega) _).mono (B' := w.heap.size) (by omega), (by repeat (first | exact Below.refl _ _ | exact HB.out | refine Below.setCell ?_ (by simp <;> omega) _ | refine Below.alloc ?_ (by simp <;> omega) _ | refine below_drewN ?_ _))⟩
          · rw [decide_eq_false he] at hcmp
            have HNE := Lib.hid he
            clear he
            go_wp2
            go_roundw
            case rel =>
              have hall : ∀ a, a < j + 1 → l ≠ b :: numT (a : Int) := fun a ha => by
                by_cases h : a = j
                · subst h; exact HNE.out
                · exact HNJ.out a (by omega)
              first
                | exact ⟨j + 1, by omega, by go_num, hall, HQ5.out⟩
                | ((repeat apply Exists.intro); exact ⟨⟨j + 1, by omega, by go_num, hall, HQ5.out⟩, rfl⟩)
            case measure => simp [intOf]; omega
        · go_wp2
          have hlt := HLT.out
          go_roundw
          case rel => exact ⟨k + 1, by have := HLT.out; omega, by go_num, HNB.out (fun a ha => HNJ.out a (by omega)), HBX.out.trans (HBO.out.mono HBX.out.size)⟩
          case measure => simp [intOf]; omega
    · obtain ⟨rfl, rfl, rfl, rfl⟩ := HF.out (fun k' hk' => HN.out k' (by omega))
      have k0 := HC.out.c0; have k1 := HC.out.c1; have f0 := HC.out.f0; have f1 := HC.out.f1; have hz := HC.out.lt
      go_wp2
      exact bodyPost_ret (v := .tuple #[.agg #[.int .i64 0, .slice none 0 0], .bool false]) (by simp [results, Tryd.results16, go_sem, k0, k1]) rfl ⟨none, 0, rfl, OI.none_ _ _, (by repeat (first | exact Below.refl _ _ | exact HB.out | refine Below.setCell ?_ (by simp <;> omega) _ | refine Below.alloc ?_ (by simp <;> omega) _ | refine below_drewN ?_ _))⟩

theorem iMakeMove_any (W : Int) (A : Option Addr) (n c : Nat) (zs : List Int) (s : ByteArray) (w : World) (h : RI w A n zs) (hn : n ≤ 1048576) (hnc : n ≤ c) :
    Calls Tryd.prog 16 #[.agg #[.int .i64 W, .slice A n c], .string s] w (FreshLB w (ifW (mmq W zs s.data.toList) W) (ifL (mmq W zs s.data.toList) (mml zs s.data.toList)).length (ifL (mmq W zs s.data.toList) (mml zs s.data.toList)) (mmq W zs s.data.toList)) := by
  cases hq : lad W zs with
  | false =>
    rw [mmq_lad hq, ifW_no, ifL_no]
    exact iMakeMove_no1 W A n c zs s w h hn hq
  | true =>
    have hn60 : n ≤ 60 := by have h1 := (lad_iff.1 hq).2.1; have h2 : zs.length = n := h.1; omega
    exact iMakeMove_yes W A n c zs s _ w h hn60 hnc hq rfl

theorem mmM_len (W : Int) (zs : List Int) (l : List UInt8) : (ifL (mmq W zs l) (mml zs l)).length ≤ 1000 := by
  cases ht : txO zs l with
  | none => rw [mmq_none ht, ifL_no]; exact Nat.zero_le _
  | some ys =>
    cases l with
    | nil => cases ht
    | cons k ds =>
      cases hp : prs ds with
      | none =>
        have : txO zs (k :: ds) = none := by show (prs ds).bind _ = none; rw [hp]; rfl
        rw [this] at ht; cases ht
      | some a =>
        have e0 : txO zs (k :: ds) = mvO zs k a := by show (prs ds).bind _ = _; rw [hp]; rfl
        have e : mmq W zs (k :: ds) = mmQ W zs k a := by unfold mmq mmQ; rw [e0]
        have e2 : mml zs (k :: ds) = (mvO zs k a).getD [] := by unfold mml; rw [e0]
        rw [e, e2]
        by_cases h1 : k = 115
        · subst h1
          have hm := mmQ_of (W := W) (show mvO zs 115 a = if sldOk zs a = true then some (sldL zs a) else none from rfl)
          rw [hm.1, hm.2]; exact sldM_len W zs a
        · by_cases h2 : k = 102
          · subst h2
            have hm := mmQ_of (W := W) (show mvO zs 102 a = if flpOk zs a = true then some (flpL zs a) else none from rfl)
            rw [hm.1, hm.2]; exact flpM_len W zs a
          · by_cases h3 : k = 100
            · subst h3
              have hm := mmQ_of (W := W) (show mvO zs 100 a = if drpOk zs a = true then some (drpL zs a) else none from rfl)
              rw [hm.1, hm.2]; exact drpM_len W zs a
            · have e3 : mmQ W zs k a = false := by unfold mmQ; rw [mvO_other h1 h2 h3]; cases lad W zs <;> rfl
              rw [e3, ifL_no]; exact Nat.zero_le _
end Go.Proofs.YtnogmbhcphglkaaDoor

/- The contract of MovesOn's model. -/
import Derived.Test.YtnogmbhcphglkaaDoorMo3
import Derived.Test.YtnogmbhcphglkaaDoorMo2
namespace Go.Proofs.YtnogmbhcphglkaaDoor
open Go Go.RowKit

theorem moN_len (W : Int) (zs : List Int) : (moN zs (lad W zs)).length ≤ 3600 := by
  unfold moN
  cases hq : lad W zs with
  | false => exact Nat.zero_le _
  | true =>
    have h1 := (lad_iff.1 hq).2.1
    have h2 := mvK_len zs zs.length 3
    show (mvK zs zs.length 3).length ≤ _
    omega

set_option maxRecDepth 100000 in
set_option maxHeartbeats 1000000 in
theorem sMovesOn_any (W : Int) (A : Option Addr) (n c : Nat) (zs : List Int) (w : World) (h : RI w A n zs) (hn : n ≤ 1048576) (hnc : n ≤ c) :
    Calls Tryd.prog 7 #[.agg #[.int .i64 W, .slice A n c]] w (FreshTB w (moN zs (lad W zs)).length (moN zs (lad W zs)) (lad W zs)) := by
  have HB := belAlloc (belRefl (w := w)) (.cells #[.int .i64 W, .slice A n c] 29)
  have HA := boxNew (W := W) (c := c) 29 h
  have h2 : zs.length = n := h.1
  clear h
  cases hq : lad W zs with
  | false =>
    have HW := Lib.hid hq
    clear hq h2
    show Calls _ _ _ _ (FreshTB w 0 [] false)
    go_enter Tryd.func7, Tryd.ntmps7
    go_wp2_with fail
    refine (laGood_any W A n c zs _ HA.out.ri hn).mono ?_
    rw [HW.out]
    rintro e w1 ⟨rfl, hb⟩
    replace HB := belStep HB hb
    clear hb
    go_wp2
    exact bodyPost_ret (v := .tuple #[.slice none 0 0, .bool false]) (by simp [results, Tryd.results7, go_sem]) rfl ⟨none, 0, rfl, OT.none_ _ _, HB.out⟩
  | true =>
    have hn60 : n ≤ 60 := by have h1 := (lad_iff.1 hq).2.1; omega
    show Calls _ _ _ _ (FreshTB w (mvK zs zs.length 3).length (mvK zs zs.length 3) true)
    rw [h2]
    obtain ⟨ts, hts⟩ : ∃ ts, ts = mvK zs n 3 := ⟨_, rfl⟩
    have HL : Hid (∀ (A : Option Addr) (w : World), RI w A n zs → Calls Tryd.prog 25 #[.agg #[.int .i64 W, .slice A n c]] w (fun e w' => ∃ A1 c1, e = .returned (.slice A1 ts.length c1) ∧ OT w' w.heap.size A1 ts.length c1 ts ∧ Below w.heap.size w w')) := fun A w hr => by
      rw [hts]; exact lsMoves_any W A n c zs w hr hn60 hnc hq
    rw [← hts]
    obtain ⟨m, hm⟩ : ∃ m, m = ts.length := ⟨_, rfl⟩
    rw [← hm] at HL ⊢
    have HW := Lib.hid hq
    clear hq h2 hts hm
    go_enter Tryd.func7, Tryd.ntmps7
    go_wp2_with fail
    refine (laGood_any W A n c zs _ HA.out.ri hn).mono ?_
    rw [HW.out]
    rintro e w1 ⟨rfl, hb⟩
    replace HA := boxStep HA hb
    replace HB := belStep HB hb
    have a0 := HA.out.c0; have a1 := HA.out.c1; have az := HA.out.lt
    clear hb
    go_wp2_with fail
    refine (HL.out A _ HA.out.ri).mono ?_
    rintro e w3 ⟨A3, c3, rfl, o3, hb⟩
    have O3 := Lib.hid (o3.mono HB.out.size)
    replace HB := belStep HB hb
    clear hb o3 a0 a1 az
    go_wp2
    exact bodyPost_ret (v := .tuple #[.slice A3 m c3, .bool true]) (by simp [results, Tryd.results7, go_sem]) rfl ⟨A3, c3, rfl, O3.out, HB.out⟩
end Go.Proofs.YtnogmbhcphglkaaDoor

/- The contract of the program's ThenOrder. -/
import Derived.Test.YtgadfjfokgodgaaO6
namespace Go.Proofs.Ytgadfjfokgodgaa
open Go Go.RowKit

theorem seats_in8 {zs : List Int} (h : ord zs = true) : In8 (seats zs) := by
  refine ⟨seats_length zs, fun j hj => ?_⟩
  have h8 := (ord_iff.1 h).2.1
  rw [gi_seats _ _ hj]
  split
  · rename_i hlt
    have := ord_at h hlt
    omega
  · omega
theorem thn_take {zs ys : List Int} (h : ord zs = true) (he : zs.length = ys.length) : (thn (seats zs) (seats ys)).take zs.length = thenL zs ys := by
  have h8 := (ord_iff.1 h).2.1
  refine gi_ext (by simp [thn_length, thenL_length]; omega) (fun j hj => ?_)
  have hj' : j < zs.length := by simp at hj; omega
  have hz := ord_at h hj'
  rw [gi_take hj', gi_thn _ _ _ (by omega), gi_thenL _ _ _ hj', gi_seats zs j (by omega), if_pos hj', gi_seats _ _ (by omega), if_pos (by omega)]

theorem clone_any (g n c : Nat) (t : TypeId) (ts : List Int) (w : World) (hg : w.heap[g]? = some (.cells (I ts).toArray t (0, 0))) (hn : n ≤ ts.length) (hb : n ≤ 1000000) :
    Calls Try.prog 43 #[.slice (some ⟨g, 0, none⟩) n c] w (FreshI w n (ts.take n)) := by
  refine (slices_Clone_int g 0 n c ts w hn (by omega) (fun j hj => ?_)).mono ?_
  · have := I_at (zs := ts) (j := j) hj
    simp only [World.cell?, hg, Nat.zero_add]
    simpa [gi] using this
  · rintro e w' ⟨v', rfl, ho, _, hb'⟩
    obtain ⟨A, c', rfl, ho'⟩ := OI.of_own ho (zs := ts.take n) rfl
    exact ⟨A, c', rfl, ho', hb'⟩

set_option maxHeartbeats 1000000 in
theorem iThenOrder_any (A : Option Addr) (n c : Nat) (zs : List Int) (A9 : Option Addr) (n9 c9 : Nat) (ys : List Int) (w : World) (h : RI w A n zs) (hn : n ≤ 1048576) (_hnc : n ≤ c) (g : RI w A9 n9 ys) (hn9 : n9 ≤ 1048576) (_hnc9 : n9 ≤ c9) :
    Calls Try.prog 24 #[.slice A n c, .slice A9 n9 c9] w (FreshIB w (thenN zs ys).length (thenN zs ys) (thenB zs ys)) := by
  have hl := h.1
  have hl9 := g.1
  rcases hq : ord zs with _ | _
  · rw [thenN_no (thenB_1 hq), thenB_1 hq]
    have HW := Lib.hid hq
    clear hq
    go_enter Try.func24, Try.ntmps24
    go_wp2_with fail
    refine (iIsOrder_any A n c zs _ h (by omega)).mono ?_
    rw [HW.out]
    rintro e w1 ⟨rfl, hb⟩
    have HB := Lib.hid hb
    clear hb
    go_wp2
    go_ret2
    exact ⟨none, 0, rfl, OI.none_ _ _, HB.out⟩
  rcases hq9 : ord ys with _ | _
  · rw [thenN_no (thenB_2 hq9), thenB_2 hq9]
    have HW := Lib.hid hq
    have HW9 := Lib.hid hq9
    clear hq hq9
    go_enter Try.func24, Try.ntmps24
    go_wp2_with fail
    refine (iIsOrder_any A n c zs _ h (by omega)).mono ?_
    rw [HW.out]
    rintro e w1 ⟨rfl, hb⟩
    have HB := Lib.hid hb
    have HG : Hid (RI w1 A9 n9 ys) := g.below hb (Nat.le_refl _)
    clear hb
    go_wp2_with fail
    refine (iIsOrder_any A9 n9 c9 ys _ HG.out (by omega)).mono ?_
    rw [HW9.out]
    rintro e w2 ⟨rfl, hb⟩
    replace HB := belStep HB hb
    clear hb
    go_wp2
    go_ret2
    exact ⟨none, 0, rfl, OI.none_ _ _, HB.out⟩
  by_cases hnn : n = n9
  · subst hnn
    have hb4 := thenB_4 hq hq9 (by omega)
    rw [thenN_yes hb4, hb4, thenL_length, hl]
    have HTK := Lib.hid (thn_take (ys := ys) hq (by omega))
    rw [hl] at HTK
    have HI := Lib.hid (seats_in8 hq)
    have hn8 : n ≤ 8 := by have := (ord_iff.1 hq).2.1; omega
    have HW := Lib.hid hq
    have HW9 := Lib.hid hq9
    clear hq hq9 hb4
    go_enter Try.func24, Try.ntmps24
    go_wp2_with fail
    refine (iIsOrder_any A n c zs _ h (by omega)).mono ?_
    rw [HW.out]
    rintro e w1 ⟨rfl, hb⟩
    have HB := Lib.hid hb
    have HA : Hid (RI w1 A n zs) := h.below hb (Nat.le_refl _)
    have HG : Hid (RI w1 A9 n ys) := g.below hb (Nat.le_refl _)
    clear hb
    go_wp2_with fail
    refine (iIsOrder_any A9 n c9 ys _ HG.out (by omega)).mono ?_
    rw [HW9.out]
    rintro e w2 ⟨rfl, hb⟩
    replace HB := belStep HB hb
    replace HA : Hid (RI w2 A n zs) := HA.out.below hb (Nat.le_refl _)
    replace HG : Hid (RI w2 A9 n ys) := HG.out.below hb (Nat.le_refl _)
    clear hb h g
    go_wp2_with fail
    refine (seatsOf_any A n c zs _ HA.out hn8).mono ?_
    rintro e w3 ⟨rfl, hb⟩
    replace HB := belStep HB hb
    replace HG : Hid (RI w3 A9 n ys) := HG.out.below hb (Nat.le_refl _)
    clear hb
    go_wp2_with fail
    refine (seatsOf_any A9 n c9 ys _ HG.out hn8).mono ?_
    rintro e w4 ⟨rfl, hb⟩
    replace HB := belStep HB hb
    clear hb
    go_wp2_with fail
    refine (then_any (seats zs) (seats ys) _ HI.out (seats_length ys)).mono ?_
    rintro e w5 ⟨rfl, hb⟩
    replace HB := belStep HB hb
    clear hb
    obtain ⟨ts, hts⟩ : ∃ ts, ts = thn (seats zs) (seats ys) := ⟨_, rfl⟩
    have htl : ts.length = 8 := by rw [hts, thn_length]
    have hI : (I ts).length = 8 := by rw [I_length, htl]
    rw [← hts] at HTK
    rw [← hts]
    clear hts
    have hst := storeNew8 w5 53 (.int .i64 0) ts htl
    have hn8' : (n : Int) ≤ 8 := by omega
    go_wp2_with fail
    have HB5 := belAlloc HB (.cells (I ts).toArray 53)
    refine (clone_any w5.heap.size n 8 53 ts _ (heap_alloc_new w5 _) (by omega) (by omega)).mono ?_
    rintro e w6 ⟨A6, c6, rfl, o6, hb⟩
    have HO := Lib.hid o6
    replace HB := belStep HB5 hb
    have HZ := Lib.hid HB5.out.size
    clear hb o6 hst HB5
    rw [HTK.out] at HO
    go_wp2
    go_ret2
    exact ⟨A6, c6, rfl, HO.out.mono HZ.out, HB.out⟩
  · have hb3 : thenB zs ys = false := thenB_3 (by omega)
    rw [thenN_no hb3, hb3]
    have HW := Lib.hid hq
    have HW9 := Lib.hid hq9
    have e9 : ((n : Int) != (n9 : Int)) = true := by rw [bne_iff_ne]; omega
    clear hq hq9
    go_enter Try.func24, Try.ntmps24
    go_wp2_with fail
    refine (iIsOrder_any A n c zs _ h (by omega)).mono ?_
    rw [HW.out]
    rintro e w1 ⟨rfl, hb⟩
    have HB := Lib.hid hb
    have HG : Hid (RI w1 A9 n9 ys) := g.below hb (Nat.le_refl _)
    clear hb
    go_wp2_with fail
    refine (iIsOrder_any A9 n9 c9 ys _ HG.out (by omega)).mono ?_
    rw [HW9.out]
    rintro e w2 ⟨rfl, hb⟩
    replace HB := belStep HB hb
    clear hb
    go_wp2
    go_ret2
    exact ⟨none, 0, rfl, OI.none_ _ _, HB.out⟩
end Go.Proofs.Ytgadfjfokgodgaa

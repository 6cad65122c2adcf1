/- The contract of the program's MovesOn. -/
import Derived.Test.YtnogmbhcphglkaaDoorMo1
import Derived.Deep.RegionHeld3
import Derived.Laws.EntriesVeiled
namespace Go.Proofs.YtnogmbhcphglkaaDoor
open Go Go.RowKit

set_option maxRecDepth 100000 in
set_option maxHeartbeats 1000000 in
theorem iMovesOn_no (W : Int) (A : Option Addr) (n c : Nat) (zs : List Int) (w : World) (h : RI w A n zs) (hn : n ≤ 1048576) (hq : lad W zs = false) :
    Calls Tryd.prog 9 #[.agg #[.int .i64 W, .slice A n c]] w (FreshTB w 0 [] false) := by
  have HB := belAlloc (belRefl (w := w)) (.cells #[.int .i64 W, .slice A n c] 29)
  have HA := boxNew (W := W) (c := c) 29 h
  have HW := Lib.hid hq
  clear hq h
  go_enter Tryd.func9, Tryd.ntmps9
  go_wp2_with fail
  refine (iIsLadder_any W A n c zs _ HA.out.ri hn).mono ?_
  rw [HW.out]
  rintro e w1 ⟨rfl, hb⟩
  replace HB := belStep HB hb
  clear hb
  go_wp2
  exact bodyPost_ret (v := .tuple #[.slice none 0 0, .bool false]) (by simp [results, Tryd.results9, go_sem]) rfl ⟨none, 0, rfl, OT.none_ _ _, HB.out⟩

set_option maxRecDepth 100000 in
set_option maxHeartbeats 8000000 in
theorem iMovesOn_yes (W : Int) (A : Option Addr) (n c : Nat) (zs : List Int) (w : World) (h : RI w A n zs) (hn : n ≤ 60) (hnc : n ≤ c) (hq : lad W zs = true) :
    Calls Tryd.prog 9 #[.agg #[.int .i64 W, .slice A n c]] w (FreshTB w (mvK zs n 3).length (mvK zs n 3) true) := by
  have HB := belAlloc (belRefl (w := w)) (.cells #[.int .i64 W, .slice A n c] 29)
  have HA := boxNew (W := W) (c := c) 29 h
  have HW := Lib.hid hq
  have HM : Hid (∀ k, k < 3 → ∀ a : Nat, ∃ (m : Nat) (ys : List Int), ∀ (A : Option Addr) (w : World), RI w A n zs → Calls Tryd.prog (kf k) #[.slice A n c, .int .i64 (a : Int)] w (FreshIB w m ys (mvOk zs k a))) := fun k hk a =>
    made_any k hk n c zs a hn hnc hq
  clear hq h
  go_enter Tryd.func9, Tryd.ntmps9
  go_wp2_with fail
  refine (iIsLadder_any W A n c zs _ HA.out.ri (by omega)).mono ?_
  rw [HW.out]
  rintro e w1 ⟨rfl, hb⟩
  replace HA := boxStep HA hb
  replace HB := belStep HB hb
  clear hb
  go_wp2_with fail
  refine (moveKinds_any _).mono ?_
  rintro e w2 ⟨g, rfl, hg1, hg2, hK, hb⟩
  replace HA := boxStep HA hb
  replace HB := belStep HB hb
  have HK := Lib.hid hK
  clear hb hK
  have H12 := HB.out.size
  have HA0 := HA
  have HB0 := HB
  go_wp2
  go_loopw [4, 15] (fun s i wr => ∃ (k m : Nat) (A1 : Option Addr) (c1 : Nat), k ≤ 3 ∧ i = .int .i64 (k : Int) ∧ s = .slice A1 m c1 ∧ OT wr w2.heap.size A1 m c1 (mvK zs n k) ∧ Below w2.heap.size w2 wr) (fun _ i _ => 3 - (intOf i).toNat)
  case atStart => exact ⟨0, 0, none, 0, by omega, rfl, rfl, OT.none_ _ _, Below.refl _ _⟩
  case round =>
    obtain ⟨k, m, A1, c1, hk, rfl, rfl, ho, hb⟩ := hrel
    obtain ⟨wo, hwo⟩ : ∃ wo, wo = wr := ⟨_, rfl⟩
    subst hwo
    replace HA := boxStep HA hb
    replace HB := belStep HB hb
    have HBX := Lib.hid hb
    have HO := Lib.hid ho
    clear ho hb
    have a0 := HA.out.c0; have a1 := HA.out.c1; have az := HA.out.lt
    by_cases hlt : k < 3
    · have hk0 : wo.cell? ⟨g, k * 2, none⟩ = some (.string ⟨#[kb k]⟩) := (HBX.out.cell (p := ⟨g, k * 2, none⟩) hg2).trans (HK.out k hlt).1
      have hk1 : wo.cell? ⟨g, k * 2 + 1, none⟩ = some (kv k) := (HBX.out.cell (p := ⟨g, k * 2 + 1, none⟩) hg2).trans (HK.out k hlt).2
      obtain ⟨b, hb⟩ : ∃ b, b = kb k := ⟨_, rfl⟩
      obtain ⟨f, hf⟩ : ∃ f, f = kf k := ⟨_, rfl⟩
      have hv : (.func (.func f) #[] #[] : Value) = kv k := by rw [hf]; rfl
      rw [← hb] at hk0
      rw [← hv] at hk1
      have HT : Hid (∀ (a : Nat) (w : World), a < n → Calls Tryd.prog 29 #[.agg #[.string ⟨#[b]⟩, .func (.func f) #[] #[]], .int .i64 (a : Int)] w (fun e w' => e = .returned (.string (bs (b :: numT (a : Int)))) ∧ Below w.heap.size w w')) := fun a w ha => by
        rw [hb, hv]; exact textAt_any k a w (by omega)
      have HMK : Hid (∀ a : Nat, ∃ (m : Nat) (ys : List Int), ∀ (A : Option Addr) (w : World), RI w A n zs → Calls Tryd.prog f #[.slice A n c, .int .i64 (a : Int)] w (FreshIB w m ys (mvOk zs k a))) := fun a => by
        rw [hf]; exact HM.out k hlt a
      have HBK := Lib.hid hb
      have HF3 : Hid (f = 48 ∨ f = 49 ∨ f = 50) := by
        show _ ∨ _ ∨ _
        rw [hf]
        obtain rfl | rfl | rfl : k = 0 ∨ k = 1 ∨ k = 2 := by omega
        · exact .inl rfl
        · exact .inr (.inl rfl)
        · exact .inr (.inr rfl)
      clear hb hf hv
      have HLT := Lib.hid hlt
      go_wp2
      rw [show decide ((k : Int) < 3) = true from decide_eq_true (by have := HLT.out; omega)]
      have hwz := HBX.out.size
      obtain ⟨ob, hob⟩ : ∃ ob, ob = Obj.cells #[.string ⟨#[b]⟩, .func (.func f) #[] #[]] 52 := ⟨_, rfl⟩
      obtain ⟨wb, hwb⟩ : ∃ wb, wb = wo.alloc ob := ⟨_, rfl⟩
      have HWB : Hid (wb.heap[wo.heap.size]? = some (Obj.cells #[.string ⟨#[b]⟩, .func (.func f) #[] #[]] 52)) := by
        show _ = _
        rw [hwb, hob]; first | exact Array.getElem?_push_size | (simp only [World.alloc, Array.getElem?_push_size])
      have HC0 : Hid (wb.cell? ⟨wo.heap.size, 0, none⟩ = some (.string ⟨#[b]⟩)) := by show _ = _; rw [hwb, hob]; simp
      have HC1 : Hid (wb.cell? ⟨wo.heap.size, 1, none⟩ = some (.func (.func f) #[] #[])) := by show _ = _; rw [hwb, hob]; simp
      have HC1F : Hid (∀ wi : World, wi.heap[wo.heap.size]? = wb.heap[wo.heap.size]? → wi.cell? ⟨wo.heap.size, 1, none⟩ = some (.func (.func f) #[] #[])) := fun wi h => (World.cell?_of_block (w := wb) h).trans HC1.out
      have HW2 : Hid (OT wb w2.heap.size A1 m c1 (mvK zs n k) ∧ Below w2.heap.size w2 wb ∧ wo.heap.size < wb.heap.size) := by
        have h1 : Below wo.heap.size wo wb := by rw [hwb]; exact (Below.refl _ _).alloc (Nat.le_refl _) _
        exact ⟨HO.out.below h1, HBX.out.trans (h1.mono hwz), by rw [hwb]; simp⟩
      rw [← hob, ← hwb]
      clear hob hwb a0 a1 az hk0 hk1
      go_loopw [4, 22] (fun s i wq => ∃ (j m : Nat) (A1 : Option Addr) (c1 : Nat), j ≤ n ∧ i = .int .i64 (j : Int) ∧ s = .slice A1 m c1 ∧ OT wq w2.heap.size A1 m c1 (mvK zs n k ++ mvJ zs k j) ∧ wq.heap[wo.heap.size]? = wb.heap[wo.heap.size]? ∧ Below w2.heap.size w2 wq ∧ wo.heap.size < wq.heap.size) (fun _ i _ => n - (intOf i).toNat)
      case atStart => exact ⟨0, m, A1, c1, by omega, rfl, rfl, by rw [show mvJ zs k 0 = [] from rfl, List.append_nil]; exact HW2.out.1, rfl, HW2.out.2.1, HW2.out.2.2⟩
      case round =>
        clear HO
        obtain ⟨j, m, A1, c1, hj, rfl, rfl, ho, hkb, hb, hlw⟩ := hrel
        have HO := Lib.hid ho
        have HKB := Lib.hid hkb
        have HQB := Lib.hid hb
        have c0 : wr.cell? ⟨wo.heap.size, 0, none⟩ = some (.string ⟨#[b]⟩) := (World.cell?_of_block (w := wb) hkb).trans HC0.out
        have c1' : wr.cell? ⟨wo.heap.size, 1, none⟩ = some (.func (.func f) #[] #[]) := (World.cell?_of_block (w := wb) hkb).trans HC1.out
        have HA := boxStep HA0 hb
        have HB := belStep HB0 hb
        clear ho hkb hb hlt
        have a0 := HA.out.c0; have a1 := HA.out.c1; have az := HA.out.lt
        have hml : m ≤ 1000 := by
          have h1 := HO.out.1
          rw [List.length_append] at h1
          have h2 := mvK_len zs n k
          have h3 := mvJ_len zs k j
          have h4 : n * k ≤ 60 * 3 := Nat.mul_le_mul hn hk
          omega
        by_cases hjn : j < n
        · obtain ⟨mm, ys, hmj⟩ := HMK.out j
          have HMJ := Lib.hid hmj
          obtain ⟨q, hqq⟩ : ∃ q, q = mvOk zs k j := ⟨_, rfl⟩
          rw [← hqq] at HMJ
          have HQQ := Lib.hid hqq
          clear hmj hqq
          rcases HF3.out with rfl | rfl | rfl
          all_goals
            go_wp2_with fail
            refine (HMJ.out A _ HA.out.ri).mono ?_
            rintro e w5 ⟨A5, c5, rfl, o5, hb⟩
            have HO5 := Lib.hid (HO.out.below hb)
            have HKB5 := Lib.hid ((hb.block wo.heap.size hlw).trans HKB.out)
            have HQB5 := Lib.hid (HQB.out.trans (hb.mono HQB.out.size))
            have hlw5 := Nat.lt_of_lt_of_le hlw hb.size
            clear hb o5 c0 c1' a0 a1 az HO HKB HQB hlw HA HB
            have c0 : w5.cell? ⟨wo.heap.size, 0, none⟩ = some (.string ⟨#[b]⟩) := (World.cell?_of_block (w := wb) HKB5.out).trans HC0.out
            have c1' := HC1F.out w5 HKB5.out
            cases q
            · go_wp2
              go_roundw
              case rel => exact ⟨j + 1, m, A1, c1, by omega, by go_num, rfl, by rw [mvJ_no HQQ.out.symm]; exact HO5.out, HKB5.out, HQB5.out, hlw5⟩
              case measure => simp [intOf]; omega
            · go_wp2_with fail
              refine (HT.out j _ hjn).mono ?_
              rintro e w6 ⟨rfl, hb⟩
              have HO6 := Lib.hid (HO5.out.below hb)
              have HKB6 := Lib.hid ((hb.block wo.heap.size hlw5).trans HKB5.out)
              have HQB6 := Lib.hid (HQB5.out.trans (hb.mono HQB5.out.size))
              have hlw6 := Nat.lt_of_lt_of_le hlw5 hb.size
              clear hb c0 c1' HO5 HKB5 HQB5 hlw5
              go_wp2_with (at_builtin; refine wpList_append_text _ rfl _ _ rfl w2.heap.size A1 m c1 _ (b :: numT (j : Int)) w6.heap.size rfl rfl (HO6.out.alloc _) (by simp [str]) (by omega) (by have := HQB6.out.size; simp; omega) ?_; intro A3 c3 w7 ho3 hg3)
              have hlb : blk A1 ≠ some wo.heap.size := by
                intro e
                rcases HO6.out.form with ⟨rfl, _, _⟩ | ⟨g2, cur, rfl, _, _, hh, _⟩
                · cases e
                · have e2 : g2 = wo.heap.size := by simpa [Go.Proofs.YtnogmbhcphglkaaDoor.blk] using e
                  rw [e2, HKB6.out, HWB.out] at hh
                  injection hh with hh
                  injection hh with _ h2 _
                  revert h2
                  decide
              have HG7 := Lib.hid (Below.of_grown hg3 (B := w2.heap.size) (fun x hx => (HO6.out.blk x hx).1) (by have := HQB6.out.size; simp; omega))
              have HKB7 := Lib.hid ((hg3.block wo.heap.size (by simp; omega) (fun e => hlb e.symm)).trans ((((Below.refl w6.heap.size w6).alloc (Nat.le_refl _) _).block wo.heap.size hlw6).trans HKB6.out))
              have HQB7 := Lib.hid (HQB6.out.trans ((((Below.refl w6.heap.size w6).alloc (Nat.le_refl _) _).mono HQB6.out.size).trans HG7.out))
              have hlw7 : wo.heap.size < w7.heap.size := Nat.lt_of_lt_of_le hlw6 (by have := hg3.size; simp at this; omega)
              have HO7 := Lib.hid ho3
              clear ho3 hg3 hlb HG7
              go_wp2
              go_roundw
              case rel => exact ⟨j + 1, m + 1, A3, c3, by omega, by go_num, rfl, by rw [mvJ_yes HQQ.out.symm, ← HBK.out, ← List.append_assoc]; exact HO7.out, HKB7.out, HQB7.out, hlw7⟩
              case measure => simp [intOf]; omega
        · obtain rfl : j = n := by omega
          have hlt := HLT.out
          go_wp2
          go_roundw
          case rel => exact ⟨k + 1, m, A1, c1, by omega, by go_num, rfl, HO.out, HQB.out⟩
          case measure => simp [intOf]; omega
    · obtain rfl : k = 3 := by omega
      have hm := HO.out.1
      subst hm
      go_wp2
      exact bodyPost_ret (v := .tuple #[.slice A1 (mvK zs n 3).length c1, .bool true]) (by simp [results, Tryd.results9, go_sem]) rfl ⟨A1, c1, rfl, HO.out.mono (by omega), HB.out⟩

def moN (zs : List Int) (q : Bool) : List (List UInt8) := if q = true then mvK zs zs.length 3 else []
theorem iMovesOn_any (W : Int) (A : Option Addr) (n c : Nat) (zs : List Int) (w : World) (h : RI w A n zs) (hn : n ≤ 1048576) (hnc : n ≤ c) :
    Calls Tryd.prog 9 #[.agg #[.int .i64 W, .slice A n c]] w (FreshTB w (moN zs (lad W zs)).length (moN zs (lad W zs)) (lad W zs)) := by
  cases hq : lad W zs with
  | false => exact iMovesOn_no W A n c zs w h hn hq
  | true =>
    have h2 : zs.length = n := h.1
    have hn60 : n ≤ 60 := by have h1 := (lad_iff.1 hq).2.1; omega
    show Calls _ _ _ _ (FreshTB w (mvK zs zs.length 3).length (mvK zs zs.length 3) true)
    rw [h2]
    exact iMovesOn_yes W A n c zs w h hn60 hnc hq
end Go.Proofs.YtnogmbhcphglkaaDoor

/- The contracts of LadderText, of the program and of its model. -/
import Derived.Test.YtdafkihbcdclgaaDoorTx1
import Derived.Deep.RegionHeld3
namespace Go.Proofs.YtdafkihbcdclgaaDoor
open Go Go.RowKit

theorem inter_snoc {α : Type} (sep : List α) : ∀ (xs : List (List α)) (y : List α), xs ≠ [] → sep.intercalate (xs ++ [y]) = sep.intercalate xs ++ sep ++ y
  | [], y, h => absurd rfl h
  | [a], y, _ => by simp [List.intercalate, List.intersperse]
  | a :: b :: r, y, _ => by
    have ih := inter_snoc sep (b :: r) y (by simp)
    have e1 : sep.intercalate (a :: b :: r ++ [y]) = a ++ sep ++ sep.intercalate (b :: r ++ [y]) := by simp [List.intercalate, List.intersperse]
    have e2 : sep.intercalate (a :: b :: r) = a ++ sep ++ sep.intercalate (b :: r) := by simp [List.intercalate, List.intersperse]
    rw [e1, e2, ih]
    simp [List.append_assoc]
theorem join_acc (zs : List Int) : ∀ k, k < zs.length → Lib.join ((zs.take (k + 1)).map numT) [44] = accT zs (k + 1) := by
  intro k
  induction k with
  | zero =>
    intro h
    rw [List.take_succ_eq_append_getElem h]
    simp [Lib.join_one, accT, gi_lt h]
  | succ k ih =>
    intro h
    rw [List.take_succ_eq_append_getElem h, List.map_append, List.map_cons, List.map_nil]
    have e := ih (by omega)
    unfold Lib.join at e ⊢
    rw [inter_snoc _ _ _ (by intro h2; have h3 := congrArg List.length h2; rw [List.length_map, List.length_take, List.length_nil, Nat.min_def] at h3; split at h3 <;> omega), e]
    show _ = (accT zs (k + 1) ++ if k + 1 = 0 then [] else [44]) ++ numT (gi zs (k + 1))
    rw [if_neg (by omega), gi_lt h]
theorem join_nums {zs : List Int} (h : 0 < zs.length) : Lib.join (zs.map numT) [44] = numsT zs := by
  obtain ⟨k, hk⟩ : ∃ k, zs.length = k + 1 := ⟨zs.length - 1, by omega⟩
  have := join_acc zs k (by omega)
  rw [← hk, List.take_length] at this
  rw [this]
  unfold numsT
  rw [if_neg (by omega)]
theorem lad_dig {W : Int} {zs : List Int} (h : lad W zs = true) : Dig zs := by
  intro j hj
  have h1 := lad_iff.1 h
  have h2 := h1.2.2
  unfold allIn at h2
  rw [List.all_eq_true] at h2
  have h3 := inB_iff.1 (h2 (gi zs j) (by rw [gi_lt hj]; exact List.getElem_mem hj))
  omega

def textT (W : Int) (zs : List Int) : List UInt8 := (numT W ++ [58]) ++ numsT zs
def textN (W : Int) (zs : List Int) : List UInt8 := if lad W zs = true then textT W zs else []
def RetSB (l : List UInt8) (b : Bool) (w : World) (e : Ending) (w' : World) : Prop := e = .returned (.tuple #[str l, .bool b]) ∧ Below w.heap.size w w'

set_option maxRecDepth 100000 in
set_option maxHeartbeats 2000000 in
theorem laText_any (W : Int) (A : Option Addr) (n c : Nat) (zs : List Int) (w : World) (h : RI w A n zs) (hq : lad W zs = true) : Calls Tryd.prog 16 #[.agg #[.int .i64 W, .slice A n c]] w (RetS (textT W zs) w) := by
  have hW := (lad_iff.1 hq).1
  have hn60 : n ≤ 60 := by have := (lad_iff.1 hq).2.1; rw [h.1] at this; exact this
  have hd := lad_dig hq
  have hnl := numsT_len hd
  rw [h.1] at hnl
  obtain ⟨x, rfl⟩ : ∃ x : Nat, W = (x : Int) := ⟨W.toNat, by omega⟩
  have hx : x < 10 := by omega
  obtain ⟨u, hu⟩ : ∃ u, u = bs (numT (x : Int)) := ⟨_, rfl⟩
  obtain ⟨v, hv⟩ : ∃ v, v = bs (numsT zs) := ⟨_, rfl⟩
  have HS : Hid (bs (textT x zs) = (u ++ ⟨#[58]⟩) ++ v) := by
    show _ = _
    unfold textT
    rw [hu, hv, ← bs_append, ← bs_append]; rfl
  have hzu : u.size = 1 := by rw [hu, bs_size, numT_len (by omega)]
  have hzv : v.size ≤ 200 := by rw [hv, bs_size]; omega
  have hz1 : ¬ 9223372036854775807 < u.size + 1 := by omega
  have hz2 : ¬ 9223372036854775807 < u.size + 1 + v.size := by omega
  have HU : Hid (∀ wr : World, Calls Tryd.prog 30 #[.int .i64 (x : Int)] wr fun e w' => e = .returned (.string u) ∧ Below wr.heap.size wr w') := fun wr => by rw [hu]; exact l1Num_any x wr hx
  have HV : Hid (∀ wr : World, RI wr A n zs → Calls Tryd.prog 31 #[.slice A n c] wr fun e w' => e = .returned (.string v) ∧ Below wr.heap.size wr w') := fun wr hr => by rw [hv]; exact laNumbers_any A n c zs wr hr (by omega) hd
  clear hu hv hq hW hd hnl hzu
  go_enter Tryd.func16, Tryd.ntmps16
  go_wp2_with fail
  have HA := boxNew (W := (x : Int)) (c := c) 28 h
  have HB := belAlloc (belRefl (w := w)) (.cells #[.int .i64 (x : Int), .slice A n c] 28)
  have HAD := boxDrew HA
  have HBD := belDrew HB
  clear h
  go_region_held3 (fun w' => w'.cell? ⟨w.heap.size, 0, none⟩ = some (.int .i64 (x : Int)) ∧ w'.cell? ⟨w.heap.size, 1, none⟩ = some (.slice A n c))
    (first | exact ⟨HA.out.c0, HA.out.c1⟩ | exact ⟨H3.out.c0, H3.out.c1⟩ | exact ⟨H4.out.c0, H4.out.c1⟩)
    (first
      | (go_at_call 30; refine (HU.out _).mono ?_; rintro e w3 ⟨rfl, hb⟩; have H3 := boxStep HAD hb; have B3 := belStep HBD hb; clear hb)
      | (go_at_call 31; refine (HV.out _ H3.out.ri).mono ?_; rintro e w4 ⟨rfl, hb⟩; have H4 := boxStep H3 hb; have B4 := belStep B3 hb; clear hb))
  go_wp2
  go_ret
  exact ⟨by unfold str; rw [HS.out]; rfl, B4.out⟩

set_option maxRecDepth 100000 in
set_option maxHeartbeats 1000000 in
theorem sLadderText_any (W : Int) (A : Option Addr) (n c : Nat) (zs : List Int) (w : World) (h : RI w A n zs) (hn : n ≤ 1048576) :
    Calls Tryd.prog 6 #[.agg #[.int .i64 W, .slice A n c]] w (RetSB (textN W zs) (lad W zs) w) := by
  rcases hq : lad W zs with _ | _
  · have HN : Hid (textN W zs = []) := by show _ = _; unfold textN; rw [hq]; rfl
    have HQ := Lib.hid hq
    clear hq
    go_enter Tryd.func6, Tryd.ntmps6
    go_wp2_with fail
    have HB := belAlloc (belRefl (w := w)) (.cells #[.int .i64 W, .slice A n c] 28)
    refine (laGood_any W A n c zs _ (h.alloc _) hn).mono ?_
    rw [HQ.out]
    rintro e w1 ⟨rfl, hb⟩
    replace HB := belStep HB hb
    clear hb h
    go_wp2
    go_ret2
    exact ⟨by rw [HN.out]; rfl, HB.out⟩
  · have HN : Hid (textN W zs = textT W zs) := by show _ = _; unfold textN; rw [if_pos hq]
    have HQ := Lib.hid hq
    clear hq
    go_enter Tryd.func6, Tryd.ntmps6
    go_wp2_with fail
    have HB := belAlloc (belRefl (w := w)) (.cells #[.int .i64 W, .slice A n c] 28)
    have HA := boxNew (W := W) (c := c) 28 h
    refine (laGood_any W A n c zs _ HA.out.ri hn).mono ?_
    rw [HQ.out]
    rintro e w1 ⟨rfl, hb⟩
    replace HB := belStep HB hb
    replace HA := boxStep HA hb
    have a0 := HA.out.c0; have a1 := HA.out.c1; have az := HA.out.lt
    clear hb h
    go_wp2_with fail
    refine (laText_any W A n c zs _ HA.out.ri HQ.out).mono ?_
    unfold RetS str
    rintro e w2 ⟨rfl, hb⟩
    replace HB := belStep HB hb
    clear hb
    obtain ⟨t, ht⟩ : ∃ t, t = bs (textT W zs) := ⟨_, rfl⟩
    rw [← ht]
    have HT := Lib.hid ht
    clear ht
    go_wp2
    go_ret2
    exact ⟨by rw [HN.out]; unfold str; rw [← HT.out]; rfl, HB.out⟩
end Go.Proofs.YtdafkihbcdclgaaDoor

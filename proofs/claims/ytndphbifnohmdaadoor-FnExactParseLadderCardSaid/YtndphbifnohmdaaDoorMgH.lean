/- Texts of numbers, of the model. The contracts of LadderText, of the program and of its model. The contracts of the program's LadderText. -/
import Derived.Test.YtndphbifnohmdaaDoorMgD
import Derived.Test.YtndphbifnohmdaaDoorMgC
import Derived.Test.YtndphbifnohmdaaDoorTxt
import Derived.Laws.IdiomStrings
import Derived.Deep.RegionHeld3
namespace Go.Proofs.YtndphbifnohmdaaDoor
open Go Go.RowKit

/-- a string of these bytes -/
def bs (l : List UInt8) : ByteArray := ⟨l.toArray⟩
def str (l : List UInt8) : Value := .string (bs l)
theorem bs_append (a b : List UInt8) : bs a ++ bs b = bs (a ++ b) := by
  apply ByteArray.ext
  simp [bs, ByteArray.data_append]
def RetS (l : List UInt8) (w : World) (e : Ending) (w' : World) : Prop := e = .returned (str l) ∧ Below w.heap.size w w'
/-- a number's text -/
def numT (x : Int) : List UInt8 := Lib.decDigits x.toNat
theorem numT_small {n : Nat} (h : n < 10) : numT (n : Int) = [UInt8.ofNat (48 + n)] := by
  unfold numT
  rw [Int.toNat_natCast, Lib.decDigits, dif_pos h]

set_option maxRecDepth 100000 in
set_option maxHeartbeats 1000000 in
theorem l1Num_any (n : Nat) (w : World) (h : n < 10) : Calls Tryd.prog 30 #[.int .i64 (n : Int)] w (RetS (numT n) w) := by
  have hn := numT_small h
  obtain ⟨d, hd⟩ : ∃ d : UInt8, d = UInt8.ofNat (48 + n) := ⟨_, rfl⟩
  rw [← hd] at hn
  have HN := Lib.hid hn
  have h1 : (n : Int) < 10 := by omega
  have hcv : (convert 57 9 (.slice (some ⟨w.heap.size, 0, none⟩) 1 1)).run Tryd.prog (w.alloc (.cells #[.int .u8 (48 + (n : Int))] 5)) = .ok (.string ⟨#[d]⟩) (w.alloc (.cells #[.int .u8 (48 + (n : Int))] 5)) := by
    refine run_convert_bytes_back _ 57 9 5 ⟨w.heap.size, 0, none⟩ 1 [d] Tryd.underlying57 Tryd.underlying5 Tryd.underlying9 (fun j hj => ?_)
    obtain rfl : j = 0 := by simpa using hj
    have e : (48 + n) % 256 = 48 + n := by omega
    simp [Addr.add, hd, e]
  clear hn hd
  go_enter Tryd.func30, Tryd.ntmps30
  go_wp2
  go_ret
  exact ⟨by rw [HN.out]; rfl, (Below.refl _ _).alloc (Nat.le_refl _) _⟩

/-- the texts of the first k numbers, commas between them -/
def accT (zs : List Int) : Nat → List UInt8
  | 0 => []
  | k + 1 => (accT zs k ++ if k = 0 then [] else [44]) ++ numT (gi zs k)
def numsT (zs : List Int) : List UInt8 := if zs.length = 0 then [45] else accT zs zs.length
/-- numbers of one digit -/
def Dig (zs : List Int) : Prop := ∀ j, j < zs.length → 0 ≤ gi zs j ∧ gi zs j < 10
theorem bs_size (l : List UInt8) : (bs l).size = l.length := by simp [bs, ByteArray.size]
theorem numT_len {x : Int} (h : 0 ≤ x ∧ x < 10) : (numT x).length = 1 := by
  obtain ⟨n, rfl⟩ : ∃ n : Nat, x = (n : Int) := ⟨x.toNat, by omega⟩
  rw [numT_small (by omega)]; rfl
theorem accT_len {zs : List Int} (h : Dig zs) : ∀ k, k ≤ zs.length → (accT zs k).length ≤ 2 * k := by
  intro k
  induction k with
  | zero => intro _; simp [accT]
  | succ k ih =>
    intro hk
    have h1 := ih (by omega)
    have h2 := numT_len (h k (by omega))
    simp only [accT, List.length_append, h2]
    split
    · simp; omega
    · simp; omega
theorem numsT_len {zs : List Int} (h : Dig zs) : (numsT zs).length ≤ 2 * zs.length + 1 := by
  unfold numsT
  split
  · simp
  · have := accT_len h _ (Nat.le_refl _); omega

set_option maxRecDepth 100000 in
set_option maxHeartbeats 1000000 in
theorem laNumbers_any (A : Option Addr) (n c : Nat) (zs : List Int) (w : World) (h : RI w A n zs) (hn : n ≤ 1000) (hd : Dig zs) : Calls Tryd.prog 31 #[.slice A n c] w (RetS (numsT zs) w) := by
  have hl := h.1
  by_cases h0 : n = 0
  · subst h0
    have HN : Hid (numsT zs = [45]) := by show _ = _; unfold numsT; rw [if_pos hl]
    clear h hd hl
    go_enter Tryd.func31, Tryd.ntmps31
    go_wp2
    go_ret
    exact ⟨by rw [HN.out]; rfl, Below.refl _ _⟩
  have HN : Hid (numsT zs = accT zs n) := by show _ = _; unfold numsT; rw [if_neg (by omega), hl]
  have HA := Lib.hid h
  have HD := Lib.hid hd
  have i0 : ((n : Int) == 0) = false := by simp; omega
  clear h hd
  go_enter Tryd.func31, Tryd.ntmps31
  go_wp2
  go_loopw [3, 4, 5, 11] (fun s _ _ i wr => ∃ k : Nat, k ≤ n ∧ i = .int .i64 (k : Int) ∧ s = .string (bs (accT zs k)) ∧ Below w.heap.size w wr) (fun _ _ _ i _ => n - (intOf i).toNat)
  case atStart => exact ⟨0, Nat.zero_le _, rfl, rfl, Below.refl _ _⟩
  case round =>
    obtain ⟨k, hk, rfl, rfl, hb⟩ := hrel
    have HB := Lib.hid hb
    by_cases hlt : k < n
    · obtain ⟨b, off, rfl, hbw, hc⟩ := HA.out.cell hlt
      have hck : wr.cell? ⟨b, off + k, none⟩ = some (.int .i64 (gi zs k)) := (hb.cell (p := ⟨b, off + k, none⟩) hbw).trans (hc k hlt)
      have hdk := HD.out k (by omega)
      obtain ⟨x, hx⟩ : ∃ x : Nat, gi zs k = (x : Int) := ⟨(gi zs k).toNat, by omega⟩
      have hx10 : x < 10 := by omega
      obtain ⟨t, ht⟩ : ∃ t, t = bs (accT zs k) := ⟨_, rfl⟩
      obtain ⟨u, hu⟩ : ∃ u, u = bs (numT (x : Int)) := ⟨_, rfl⟩
      have HS : Hid (bs (accT zs (k + 1)) = (if k = 0 then t else t ++ ⟨#[44]⟩) ++ u) := by
        show _ = _
        rw [ht, hu, ← hx]
        simp only [accT]
        rw [← bs_append]
        split
        · rw [List.append_nil]
        · rw [← bs_append]; rfl
      have HNX : Hid (Calls Tryd.prog 30 #[.int .i64 (x : Int)] wr fun e w' => e = .returned (.string u) ∧ Below wr.heap.size wr w') := by
        show Calls _ _ _ _ _
        rw [hu]
        exact l1Num_any x wr hx10
      have hz0 : t.size + u.size + 1 ≤ 3000 := by
        rw [ht, hu, bs_size, bs_size, numT_len (by omega)]
        have := accT_len HD.out k (by omega)
        omega
      have hz1 : t.size + 1 ≤ 9223372036854775807 := by omega
      have hz2 : t.size + 1 + u.size ≤ 9223372036854775807 := by omega
      have hz3 : t.size + u.size ≤ 9223372036854775807 := by omega
      rw [← ht]
      rw [hx] at hck
      have hzr := Nat.lt_of_lt_of_le hbw hb.size
      clear hb hc ht hu hx hdk
      by_cases hk0 : k = 0
      · rw [if_pos hk0] at HS
        have i1 : ¬ ((0 : Int) < (k : Int)) := by omega
        clear hk0
        go_wp2_with fail
        refine HNX.out.mono ?_
        rintro e w2 ⟨rfl, hb2⟩
        replace HB := belStep HB hb2
        clear hb2
        go_wp2
        go_roundw
        case rel => exact ⟨k + 1, by omega, by go_num, by rw [HS.out], HB.out⟩
        case measure => simp [intOf]; omega
      · rw [if_neg hk0] at HS
        have i1 : (0 : Int) < (k : Int) := by omega
        go_wp2_with fail
        refine HNX.out.mono ?_
        rintro e w2 ⟨rfl, hb2⟩
        replace HB := belStep HB hb2
        clear hb2
        go_wp2
        go_roundw
        case rel => exact ⟨k + 1, by omega, by go_num, by rw [HS.out], HB.out⟩
        case measure => simp [intOf]; omega
    · obtain rfl : k = n := by omega
      clear hb
      go_wp2
      go_ret
      exact ⟨by rw [HN.out]; rfl, HB.out⟩
end Go.Proofs.YtndphbifnohmdaaDoor
namespace Go.Proofs.YtndphbifnohmdaaDoor
open Go Go.RowKit

theorem inter_snoc {α : Type} (sep : List α) : ∀ (xs : List (List α)) (y : List α), xs ≠ [] → sep.intercalate (xs ++ [y]) = sep.intercalate xs ++ sep ++ y
  | [], y, h => absurd rfl h
  | [a], y, _ => by simp [List.intercalate, List.intersperse]
  | a :: b :: r, y, _ => by
    have ih := inter_snoc sep (b :: r) y (by simp)
    have e1 : sep.intercalate (a :: b :: r ++ [y]) = a ++ sep ++ sep.intercalate (b :: r ++ [y]) := by simp [List.intercalate, List.intersperse]
    have e2 : sep.intercalate (a :: b :: r) = a ++ sep ++ sep.intercalate (b :: r) := by simp [List.intercalate, List.intersperse]
    rw [e1, e2, ih]
    simp [List.append_assoc]
theorem join_acc (zs : List Int) : ∀ k, k < zs.length → Lib.join ((zs.take (k + 1)).map numT) [44] = accT zs (k + 1) := by
  intro k
  induction k with
  | zero =>
    intro h
    rw [List.take_succ_eq_append_getElem h]
    simp [Lib.join_one, accT, gi_lt h]
  | succ k ih =>
    intro h
    rw [List.take_succ_eq_append_getElem h, List.map_append, List.map_cons, List.map_nil]
    have e := ih (by omega)
    unfold Lib.join at e ⊢
    rw [inter_snoc _ _ _ (by intro h2; have h3 := congrArg List.length h2; rw [List.length_map, List.length_take, List.length_nil, Nat.min_def] at h3; split at h3 <;> omega), e]
    show _ = (accT zs (k + 1) ++ if k + 1 = 0 then [] else [44]) ++ numT (gi zs (k + 1))
    rw [if_neg (by omega), gi_lt h]
theorem join_nums {zs : List Int} (h : 0 < zs.length) : Lib.join (zs.map numT) [44] = numsT zs := by
  obtain ⟨k, hk⟩ : ∃ k, zs.length = k + 1 := ⟨zs.length - 1, by omega⟩
  have := join_acc zs k (by omega)
  rw [← hk, List.take_length] at this
  rw [this]
  unfold numsT
  rw [if_neg (by omega)]
theorem lad_dig {W : Int} {zs : List Int} (h : lad W zs = true) : Dig zs := by
  intro j hj
  have h1 := lad_iff.1 h
  have h2 := h1.2.2
  unfold allIn at h2
  rw [List.all_eq_true] at h2
  have h3 := inB_iff.1 (h2 (gi zs j) (by rw [gi_lt hj]; exact List.getElem_mem hj))
  omega

def textT (W : Int) (zs : List Int) : List UInt8 := (numT W ++ [58]) ++ numsT zs
def textN (W : Int) (zs : List Int) : List UInt8 := if lad W zs = true then textT W zs else []
def RetSB (l : List UInt8) (b : Bool) (w : World) (e : Ending) (w' : World) : Prop := e = .returned (.tuple #[str l, .bool b]) ∧ Below w.heap.size w w'

set_option maxRecDepth 100000 in
set_option maxHeartbeats 2000000 in
theorem laText_any (W : Int) (A : Option Addr) (n c : Nat) (zs : List Int) (w : World) (h : RI w A n zs) (hq : lad W zs = true) : Calls Tryd.prog 16 #[.agg #[.int .i64 W, .slice A n c]] w (RetS (textT W zs) w) := by
  have hW := (lad_iff.1 hq).1
  have hn60 : n ≤ 60 := by have := (lad_iff.1 hq).2.1; rw [h.1] at this; exact this
  have hd := lad_dig hq
  have hnl := numsT_len hd
  rw [h.1] at hnl
  obtain ⟨x, rfl⟩ : ∃ x : Nat, W = (x : Int) := ⟨W.toNat, by omega⟩
  have hx : x < 10 := by omega
  obtain ⟨u, hu⟩ : ∃ u, u = bs (numT (x : Int)) := ⟨_, rfl⟩
  obtain ⟨v, hv⟩ : ∃ v, v = bs (numsT zs) := ⟨_, rfl⟩
  have HS : Hid (bs (textT x zs) = (u ++ ⟨#[58]⟩) ++ v) := by
    show _ = _
    unfold textT
    rw [hu, hv, ← bs_append, ← bs_append]; rfl
  have hzu : u.size = 1 := by rw [hu, bs_size, numT_len (by omega)]
  have hzv : v.size ≤ 200 := by rw [hv, bs_size]; omega
  have hz1 : ¬ 9223372036854775807 < u.size + 1 := by omega
  have hz2 : ¬ 9223372036854775807 < u.size + 1 + v.size := by omega
  have HU : Hid (∀ wr : World, Calls Tryd.prog 30 #[.int .i64 (x : Int)] wr fun e w' => e = .returned (.string u) ∧ Below wr.heap.size wr w') := fun wr => by rw [hu]; exact l1Num_any x wr hx
  have HV : Hid (∀ wr : World, RI wr A n zs → Calls Tryd.prog 31 #[.slice A n c] wr fun e w' => e = .returned (.string v) ∧ Below wr.heap.size wr w') := fun wr hr => by rw [hv]; exact laNumbers_any A n c zs wr hr (by omega) hd
  clear hu hv hq hW hd hnl hzu
  go_enter Tryd.func16, Tryd.ntmps16
  go_wp2_with fail
  have HA := boxNew (W := (x : Int)) (c := c) 28 h
  have HB := belAlloc (belRefl (w := w)) (.cells #[.int .i64 (x : Int), .slice A n c] 28)
  have HAD := boxDrew HA
  have HBD := belDrew HB
  clear h
  go_region_held3 (fun w' => w'.cell? ⟨w.heap.size, 0, none⟩ = some (.int .i64 (x : Int)) ∧ w'.cell? ⟨w.heap.size, 1, none⟩ = some (.slice A n c))
    (first | exact ⟨HA.out.c0, HA.out.c1⟩ | exact ⟨H3.out.c0, H3.out.c1⟩ | exact ⟨H4.out.c0, H4.out.c1⟩)
    (first
      | (go_at_call 30; refine (HU.out _).mono ?_; rintro e w3 ⟨rfl, hb⟩; have H3 := boxStep HAD hb; have B3 := belStep HBD hb; clear hb)
      | (go_at_call 31; refine (HV.out _ H3.out.ri).mono ?_; rintro e w4 ⟨rfl, hb⟩; have H4 := boxStep H3 hb; have B4 := belStep B3 hb; clear hb))
  go_wp2
  go_ret
  exact ⟨by unfold str; rw [HS.out]; rfl, B4.out⟩

set_option maxRecDepth 100000 in
set_option maxHeartbeats 1000000 in
theorem sLadderText_any (W : Int) (A : Option Addr) (n c : Nat) (zs : List Int) (w : World) (h : RI w A n zs) (hn : n ≤ 1048576) :
    Calls Tryd.prog 6 #[.agg #[.int .i64 W, .slice A n c]] w (RetSB (textN W zs) (lad W zs) w) := by
  rcases hq : lad W zs with _ | _
  · have HN : Hid (textN W zs = []) := by show _ = _; unfold textN; rw [hq]; rfl
    have HQ := Lib.hid hq
    clear hq
    go_enter Tryd.func6, Tryd.ntmps6
    go_wp2_with fail
    have HB := belAlloc (belRefl (w := w)) (.cells #[.int .i64 W, .slice A n c] 28)
    refine (laGood_any W A n c zs _ (h.alloc _) hn).mono ?_
    rw [HQ.out]
    rintro e w1 ⟨rfl, hb⟩
    replace HB := belStep HB hb
    clear hb h
    go_wp2
    go_ret2
    exact ⟨by rw [HN.out]; rfl, HB.out⟩
  · have HN : Hid (textN W zs = textT W zs) := by show _ = _; unfold textN; rw [if_pos hq]
    have HQ := Lib.hid hq
    clear hq
    go_enter Tryd.func6, Tryd.ntmps6
    go_wp2_with fail
    have HB := belAlloc (belRefl (w := w)) (.cells #[.int .i64 W, .slice A n c] 28)
    have HA := boxNew (W := W) (c := c) 28 h
    refine (laGood_any W A n c zs _ HA.out.ri hn).mono ?_
    rw [HQ.out]
    rintro e w1 ⟨rfl, hb⟩
    replace HB := belStep HB hb
    replace HA := boxStep HA hb
    have a0 := HA.out.c0; have a1 := HA.out.c1; have az := HA.out.lt
    clear hb h
    go_wp2_with fail
    refine (laText_any W A n c zs _ HA.out.ri HQ.out).mono ?_
    unfold RetS str
    rintro e w2 ⟨rfl, hb⟩
    replace HB := belStep HB hb
    clear hb
    obtain ⟨t, ht⟩ : ∃ t, t = bs (textT W zs) := ⟨_, rfl⟩
    rw [← ht]
    have HT := Lib.hid ht
    clear ht
    go_wp2
    go_ret2
    exact ⟨by rw [HN.out]; unfold str; rw [← HT.out]; rfl, HB.out⟩
end Go.Proofs.YtndphbifnohmdaaDoor
namespace Go.Proofs.YtndphbifnohmdaaDoor
open Go Go.RowKit

theorem infoStr : (Tryd.prog.info? 9).map (fun i => (i.zero, i.size, i.bytes)) = some (some (.string ⟨#[]⟩), 1, 16) := by kernel_rfl

set_option maxRecDepth 100000 in
set_option maxHeartbeats 2000000 in
theorem joined_none (A : Option Addr) (c : Nat) (s : ByteArray) (w : World) : Calls Tryd.prog 33 #[.slice A 0 c, .string s] w (RetS [45] w) := by
  go_enter Tryd.func33, Tryd.ntmps33
  go_wp2
  go_ret
  exact ⟨rfl, Below.refl _ _⟩

set_option maxRecDepth 100000 in
set_option maxHeartbeats 2000000 in
theorem joined_some (A : Option Addr) (n c : Nat) (s : ByteArray) (l : List UInt8) (w : World) (h0 : n ≠ 0) (_hn : n ≤ 1000)
    (H : Calls Tryd.prog 39 #[.slice A n c, .string s] w fun e w' => e = .returned (str l) ∧ Below w.heap.size w w') :
    Calls Tryd.prog 33 #[.slice A n c, .string s] w fun e w' => e = .returned (str l) ∧ Below w.heap.size w w' := by
  have i0 : ((n : Int) == 0) = false := by simp; omega
  have HH := Lib.hid H
  obtain ⟨t, ht⟩ : ∃ t, t = str l := ⟨_, rfl⟩
  rw [← ht] at HH ⊢
  clear H h0 ht
  go_enter Tryd.func33, Tryd.ntmps33
  go_wp2_with fail
  refine HH.out.mono ?_
  rintro e w2 ⟨rfl, hb⟩
  go_wp2
  go_ret
  exact ⟨rfl, hb⟩

set_option maxRecDepth 100000 in
set_option maxHeartbeats 2000000 in
theorem listText_any (A : Option Addr) (n c : Nat) (zs : List Int) (w : World) (h : RI w A n zs) (hn : n ≤ 1000) (hd : Dig zs) : Calls Tryd.prog 20 #[.slice A n c] w (RetS (numsT zs) w) := by
  have hl := h.1
  have HNL := Lib.hid (numsT_len hd)
  have HJ0 : Hid (n ≠ 0 → Lib.join (zs.map numT) [44] = numsT zs) := fun h0 => join_nums (zs := zs) (by omega)
  have HA := Lib.hid h
  have HD := Lib.hid hd
  have hmk := run_make_row' (P := Tryd.prog) 53 9 (.string ⟨#[]⟩) 16 Tryd.underlying53 infoStr rfl .i64 .i64 n (by omega) (by omega)
  clear h hd
  go_enter Tryd.func20, Tryd.ntmps20
  go_wp2
  go_loopw [4, 5, 11] (fun _ _ i wr => ∃ k : Nat, k ≤ n ∧ i = .int .i64 (k : Int) ∧ wr.rowIs w.heap.size 9 n (fun j => .string (if j < k then bs (numT (gi zs j)) else ⟨#[]⟩)) ∧ Below w.heap.size w wr) (fun _ _ i _ => n - (intOf i).toNat)
  case atStart => exact ⟨0, Nat.zero_le _, rfl, (World.rowIs_made w (.string ⟨#[]⟩) n 9).congr (fun j _ => by simp), (Below.refl _ _).alloc (Nat.le_refl _) _⟩
  case round =>
    obtain ⟨k, hk, rfl, hrow, hb⟩ := hrel
    have HR := Lib.hid hrow
    have HB := Lib.hid hb
    by_cases hlt : k < n
    · obtain ⟨b, off, rfl, hbw, hc⟩ := HA.out.cell hlt
      have hck : wr.cell? ⟨b, off + k, none⟩ = some (.int .i64 (gi zs k)) := (hb.cell (p := ⟨b, off + k, none⟩) hbw).trans (hc k hlt)
      have hdk := HD.out k (by omega)
      obtain ⟨x, hx⟩ : ∃ x : Nat, gi zs k = (x : Int) := ⟨(gi zs k).toNat, by omega⟩
      have hx10 : x < 10 := by omega
      obtain ⟨u, hu⟩ : ∃ u, u = bs (numT (gi zs k)) := ⟨_, rfl⟩
      have HU := Lib.hid hu
      have HI : Hid (Calls Tryd.prog 19 #[.int .i64 (x : Int)] wr fun e w' => e = .returned (.string u) ∧ w' = wr) := by
        show Calls _ _ _ _ _
        rw [hu, hx]
        exact strconv_Itoa_small x (by omega) wr
      have hd := hrow.cell hlt
      have hf := hrow.frozen k
      rw [if_neg (Nat.lt_irrefl k)] at hd
      rw [hx] at hck
      clear hrow hb hc hmk hdk hx hu
      go_wp2_with fail
      refine HI.out.mono ?_
      rintro e w' ⟨rfl, hw⟩
      obtain rfl : wr = w' := hw.symm
      go_wp2
      go_roundw
      case rel =>
        refine ⟨k + 1, by omega, by go_num, (HR.out.set k _).congr (fun j hj => ?_), HB.out.setCell (by simp) _⟩
        by_cases e : j = k
        · subst e
          simp [HU.out]
        · by_cases e2 : j < k
          · simp [e, e2, show j < k + 1 by omega]
          · simp [e, e2, show ¬ j < k + 1 by omega]
      case measure => simp [intOf]; omega
    · obtain rfl : k = n := by omega
      by_cases h0 : k = 0
      · subst h0
        have HN : Hid (numsT zs = [45]) := by show _ = _; unfold numsT; rw [if_pos hl]
        clear hrow hb hmk
        go_wp2_with fail
        refine (joined_none _ _ _ wr).mono ?_
        unfold RetS str
        rintro e w2 ⟨rfl, hb2⟩
        replace HB := belStep HB hb2
        clear hb2
        go_wp2
        go_ret
        exact ⟨by rw [HN.out]; rfl, HB.out⟩
      have HJ := Lib.hid (HJ0.out h0)
      have HJC : Hid (Calls Tryd.prog 39 #[.slice (some ⟨w.heap.size, 0, none⟩) k k, .string ⟨#[44]⟩] wr fun e w' => e = .returned (str (numsT zs)) ∧ Below wr.heap.size wr w') := by
        show Calls _ _ _ _ _
        have hml : ((zs.map fun x => bs (numT x)).map (·.data.toList)) = zs.map numT := by
          rw [List.map_map]
          exact List.map_congr_left fun x _ => by simp [bs]
        have hlen : (zs.map fun x => bs (numT x)).length = k := by rw [List.length_map, hl]
        have hj := strings_Join w.heap.size 0 k (zs.map fun x => bs (numT x)) ⟨#[44]⟩ wr (fun j v hj => by
          have hjl : j < k := by have := (List.getElem?_eq_some_iff.1 hj).1; rw [hlen] at this; exact this
          rw [Nat.zero_add, HR.out.cell hjl, if_pos hjl]
          rw [List.getElem?_map, List.getElem?_eq_getElem (by omega)] at hj
          injection hj with hj
          rw [← hj, gi_lt (by omega)]) (by
            obtain ⟨cs, hh, _⟩ := HR.out
            exact (Array.getElem?_eq_some_iff.1 hh).1) (by rw [hlen]; omega) (by rw [hlen]; exact Nat.le_refl _) (by
            rw [hml]
            have e : (⟨#[44]⟩ : ByteArray).data.toList = [44] := rfl
            rw [e, HJ.out]
            have := HNL.out
            omega)
        rw [hlen, hml] at hj
        have e : (⟨#[44]⟩ : ByteArray).data.toList = [44] := rfl
        rw [e, HJ.out] at hj
        exact hj
      clear hrow hb hmk
      go_wp2_with fail
      refine (joined_some _ _ _ _ _ wr h0 (by omega) HJC.out).mono ?_
      unfold str
      rintro e w2 ⟨rfl, hb2⟩
      replace HB := belStep HB hb2
      clear hb2
      obtain ⟨t, ht⟩ : ∃ t, t = bs (numsT zs) := ⟨_, rfl⟩
      rw [← ht]
      have HT := Lib.hid ht
      clear ht
      go_wp2
      go_ret
      exact ⟨by unfold str; rw [← HT.out]; rfl, HB.out⟩

set_option maxRecDepth 100000 in
set_option maxHeartbeats 2000000 in
theorem iLadderText_any (W : Int) (A : Option Addr) (n c : Nat) (zs : List Int) (w : World) (h : RI w A n zs) (hn : n ≤ 1048576) :
    Calls Tryd.prog 8 #[.agg #[.int .i64 W, .slice A n c]] w (RetSB (textN W zs) (lad W zs) w) := by
  rcases hq : lad W zs with _ | _
  · have HN : Hid (textN W zs = []) := by show _ = _; unfold textN; rw [hq]; rfl
    have HQ := Lib.hid hq
    clear hq
    go_enter Tryd.func8, Tryd.ntmps8
    go_wp2_with fail
    have HB := belAlloc (belRefl (w := w)) (.cells #[.int .i64 W, .slice A n c] 28)
    refine (iIsLadder_any W A n c zs _ (h.alloc _) hn).mono ?_
    rw [HQ.out]
    rintro e w1 ⟨rfl, hb⟩
    replace HB := belStep HB hb
    clear hb h
    go_wp2
    go_ret2
    exact ⟨by rw [HN.out]; rfl, HB.out⟩
  · have HN : Hid (textN W zs = textT W zs) := by show _ = _; unfold textN; rw [if_pos hq]
    have HQ := Lib.hid hq
    have hW := (lad_iff.1 hq).1
    have hn60 : n ≤ 60 := by have := (lad_iff.1 hq).2.1; rw [h.1] at this; exact this
    have hd := lad_dig hq
    have hnl := numsT_len hd
    rw [h.1] at hnl
    obtain ⟨x, rfl⟩ : ∃ x : Nat, W = (x : Int) := ⟨W.toNat, by omega⟩
    have hx : x < 10 := by omega
    obtain ⟨u, hu⟩ : ∃ u, u = bs (numT (x : Int)) := ⟨_, rfl⟩
    obtain ⟨v, hv⟩ : ∃ v, v = bs (numsT zs) := ⟨_, rfl⟩
    have HS : Hid (bs (textT x zs) = (u ++ ⟨#[58]⟩) ++ v) := by
      show _ = _
      unfold textT
      rw [hu, hv, ← bs_append, ← bs_append]; rfl
    have hzu : u.size = 1 := by rw [hu, bs_size, numT_len (by omega)]
    have hzv : v.size ≤ 200 := by rw [hv, bs_size]; omega
    have hz1 : ¬ 9223372036854775807 < u.size + 1 := by omega
    have hz2 : ¬ 9223372036854775807 < u.size + 1 + v.size := by omega
    have HU : Hid (∀ wr : World, Calls Tryd.prog 19 #[.int .i64 (x : Int)] wr fun e w' => e = .returned (.string u) ∧ w' = wr) := fun wr => by rw [hu]; exact strconv_Itoa_small x (by omega) wr
    have HV : Hid (∀ wr : World, RI wr A n zs → Calls Tryd.prog 20 #[.slice A n c] wr fun e w' => e = .returned (.string v) ∧ Below wr.heap.size wr w') := fun wr hr => by rw [hv]; exact listText_any A n c zs wr hr (by omega) hd
    clear hu hv hq hW hd hnl hzu
    go_enter Tryd.func8, Tryd.ntmps8
    go_wp2_with fail
    have HB := belAlloc (belRefl (w := w)) (.cells #[.int .i64 (x : Int), .slice A n c] 28)
    have HA := boxNew (W := (x : Int)) (c := c) 28 h
    refine (iIsLadder_any x A n c zs _ HA.out.ri hn).mono ?_
    rw [HQ.out]
    rintro e w1 ⟨rfl, hb⟩
    replace HB := belStep HB hb
    replace HA := boxStep HA hb
    have a0 := HA.out.c0; have a1 := HA.out.c1; have az := HA.out.lt
    clear hb h
    have HAD := boxDrew HA
    have HBD := belDrew HB
    go_wp2_with fail
    go_region_held3 (fun w' => w'.cell? ⟨w.heap.size, 0, none⟩ = some (.int .i64 (x : Int)) ∧ w'.cell? ⟨w.heap.size, 1, none⟩ = some (.slice A n c))
      (first | exact ⟨HA.out.c0, HA.out.c1⟩ | exact ⟨HAD.out.c0, HAD.out.c1⟩ | exact ⟨H4.out.c0, H4.out.c1⟩)
      (first
        | (go_at_call 19; refine (HU.out _).mono ?_; rintro e w3 ⟨rfl, rfl⟩)
        | (go_at_call 20; refine (HV.out _ HAD.out.ri).mono ?_; rintro e w4 ⟨rfl, hb⟩; have H4 := boxStep HAD hb; have B4 := belStep HBD hb; clear hb))
    go_wp2
    go_ret2
    exact ⟨by rw [HN.out]; unfold str; rw [HS.out]; rfl, B4.out⟩
end Go.Proofs.YtndphbifnohmdaaDoor
